/-
  A slice of sectors that the call made, in memory; one sector more. No condition beyond the sizes that each law names.
-/
import Derived.Test.YtpbojepliddflaaFUnpack
namespace Go.Proofs.Ytpbojepliddflaa.Frm
open Go.RowKit Codec FrameM Cod
set_option maxRecDepth 100000
/-- The value is a sector of its own in block g. -/
def Sct (w : World) (lo : Nat) (v : Value) (s : List UInt8) : Prop := ∃ g, v = .slice (some ⟨g, 0, none⟩) 64 64 ∧ w.heap[g]? = some (.cells (cel s).toArray 5 (0, 0)) ∧ lo ≤ g ∧ s.length = 64
/-- The slice value owns these sectors, in blocks from lo on. -/
def Pk (w : World) (lo : Nat) (v : Value) (n : Nat) (ls : List (List UInt8)) : Prop :=
  ∃ vs : List Value, w.ownsRow lo 24 1 v n vs ∧ vs.length = n ∧ ls.length = n ∧ ∀ j, j < n → Sct w lo (vs.getD j undef) (ls.getD j [])
theorem Sct.keep {w w' : World} {lo : Nat} {v : Value} {s : List UInt8} (h : Sct w lo v s) (hk : ∀ (g : Nat) (cs : Array Value), w.heap[g]? = some (Obj.cells cs 5 (0, 0)) → w'.heap[g]? = some (Obj.cells cs 5 (0, 0))) : Sct w' lo v s := by
  obtain ⟨g, e, hg, h1, h2⟩ := h
  exact ⟨g, e, hk g _ hg, h1, h2⟩
theorem Pk.nil {w : World} {lo : Nat} : Pk w lo (.slice none 0 0) 0 [] := ⟨[], World.ownsRow_nil w lo 24 1, rfl, rfl, fun j hj => absurd hj (by omega)⟩
/-- What turns no cells leaves it. -/
theorem Pk.kept {w w' : World} {lo n : Nat} {v : Value} {ls : List (List UInt8)} {row : Option Nat} (h : Pk w lo v n ls) (hg : w.grownBy w' row) (hrow : ∀ r, row = some r → ∀ (cs : Array Value) (T : TypeId), w.heap[r]? = some (Obj.cells cs T (0, 0)) → T ≠ 5 ∧ T ≠ 24) : Pk w' lo v n ls := by
  obtain ⟨vs, ho, h1, h2, h3⟩ := h
  refine ⟨vs, ho.kept hg ?_, h1, h2, fun j hj => (h3 j hj).keep fun g cs hgc => (hg.block g (lt_of_heap hgc) (fun e => (hrow g e.symm cs 5 hgc).1 rfl)).trans hgc⟩
  rcases ho.2 with ⟨rfl, _⟩ | ⟨g, cap, cur, rfl, _, hgb, _⟩
  · exact .inl rfl
  · exact .inr fun e => (hrow g (by rw [← e]; rfl) cur 24 hgb).2 rfl
theorem Pk.alloc {w : World} {lo n : Nat} {v : Value} {ls : List (List UInt8)} (h : Pk w lo v n ls) (o : Obj) : Pk (w.alloc o) lo v n ls := h.kept (World.grownBy_alloc w o none) (fun r e => by cases e)
theorem Pk.below {w w' : World} {lo n : Nat} {v : Value} {ls : List (List UInt8)} (h : Pk w lo v n ls) (hb : Below w.heap.size w w') : Pk w' lo v n ls :=
  h.kept (row := none) ⟨hb.os, hb.tape, hb.output, hb.size, fun k hk _ => hb.block k hk⟩ (fun r e => by cases e)
theorem Pk.form {w : World} {lo n : Nat} {v : Value} {ls : List (List UInt8)} (h : Pk w lo v n ls) : ∃ A c, v = .slice A n c ∧ n ≤ c ∧ c ≤ maxLen := by
  obtain ⟨vs, ho, _⟩ := h
  rcases ho.2 with ⟨rfl, rfl⟩ | ⟨g, cap, cur, rfl, _, _, h1, h2, _⟩
  · exact ⟨none, 0, rfl, Nat.le_refl _, Nat.zero_le _⟩
  · exact ⟨_, cap, rfl, h1, h2⟩
theorem Pk.rows {w : World} {lo n c : Nat} {A : Option Addr} {ls : List (List UInt8)} (h : Pk w lo (.slice A n c) n ls) : Rows w w.heap.size A n ls := by
  obtain ⟨vs, ho, h1, h2, h3⟩ := h
  refine ⟨h2, fun hn => ?_⟩
  obtain ⟨g, cap, hv, _, hlt⟩ := World.ownsRow.form ho hn
  have hA : A = some ⟨g, 0, none⟩ := by injection hv
  subst hA
  refine ⟨g, 0, rfl, hlt, fun j hj => ?_⟩
  obtain ⟨gj, e, hg, _, hs⟩ := h3 j hj
  have hc := ho.cells (g := g) rfl j (vs.getD j undef) (by simp [List.getD_eq_getElem?_getD, h1, hj])
  rw [plain_add, e] at hc
  refine ⟨some ⟨gj, 0, none⟩, 64, by rw [hs]; exact hc, ⟨by rw [hs], fun _ => ⟨gj, 0, rfl, lt_of_heap hg, fun x hx => ?_⟩⟩, by omega, by unfold maxLen; omega⟩
  rw [cell_at hg, Nat.zero_add, ← cel_get _ x hx]
  simp
theorem info24 : (Try.prog.info? 24).map (fun i => (i.zero, i.size, i.bytes)) = some (some (.slice none 0 0), 1, 24) := by kernel_rfl
/-- One sector more. -/
theorem run_app34 (w : World) (ty : TypeId) (lo : Nat) (v : Value) (n : Nat) (ls : List (List UInt8)) (h : Pk w lo v n ls) (u : Value) (s : List UInt8) (hs : Sct w lo u s) (ad : Addr) (c : Nat) (hc : w.cell? ad = some u) (hn : n ≤ 1000000) (hlo : lo ≤ w.heap.size) :
    ∃ A' c' w', (Builtin.append_ #[34, 34] ty #[v, .slice (some ad) 1 c]).run Try.prog w = .ok (.slice A' (n + 1) c') w' ∧ Pk w' lo (.slice A' (n + 1) c') (n + 1) (ls ++ [s]) ∧ Below lo w w' ∧ w.grownBy w' v.ownBlock ∧ ((Value.slice A' (n + 1) c').ownBlock = v.ownBlock ∨ (Value.slice A' (n + 1) c').ownBlock = some w.heap.size) := by
  obtain ⟨i0, hi0, hz0, hz1, hz2⟩ := info_parts info24
  obtain ⟨vs, ho, h1, h2, h3⟩ := h
  obtain ⟨g, rfl, hg, hlg, hl⟩ := hs
  have hadd : ad.add 0 = ad := by unfold Addr.add; split <;> simp_all
  obtain ⟨v', w', hrun, r1, r2, _, r5⟩ := run_append_own_at (P := Try.prog) w lo 34 ty 24 i0 (.slice none 0 0) 1 24 Try.underlying34 hi0 hz0 hz1 hz2 rfl (by decide) v n vs ho ad 1 c [.slice (some ⟨g, 0, none⟩) 64 64] rfl (fun j x hx => by
      match j, hx with
      | 0, hx =>
        simp at hx
        subst hx
        rw [hadd]
        exact hc) (by simp [Value.oneCell']) (by unfold maxLen; omega) (by omega) hlo
  have hk : ∀ (k : Nat) (cs : Array Value), w.heap[k]? = some (Obj.cells cs 5 (0, 0)) → w'.heap[k]? = some (Obj.cells cs 5 (0, 0)) := fun k cs hkc => by
    refine (r2.block k (lt_of_heap hkc) ?_).trans hkc
    rcases ho.2 with ⟨rfl, _⟩ | ⟨b, cap, cur, rfl, _, hgb, _⟩
    · simp [Value.ownBlock]
    · intro e
      have : b = k := by simpa [Value.ownBlock] using e.symm
      subst this
      rw [hkc] at hgb
      injection hgb with hgb
      injection hgb with _ ht
      exact absurd ht (by decide)
  have hpk : Pk w' lo v' (n + 1) (ls ++ [s]) := by
    refine ⟨vs ++ [.slice (some ⟨g, 0, none⟩) 64 64], r1, by simp [h1], by simp [h2], fun j hj => ?_⟩
    by_cases hjn : j < n
    · have e1 : (vs ++ [Value.slice (some ⟨g, 0, none⟩) 64 64]).getD j undef = vs.getD j undef := by simp [List.getD_eq_getElem?_getD, List.getElem?_append, h1, hjn]
      have e2 : (ls ++ [s]).getD j [] = ls.getD j [] := by simp [List.getD_eq_getElem?_getD, List.getElem?_append, h2, hjn]
      rw [e1, e2]
      exact (h3 j hjn).keep hk
    · obtain rfl : j = n := by omega
      have e1 : (vs ++ [Value.slice (some ⟨g, 0, none⟩) 64 64]).getD j undef = .slice (some ⟨g, 0, none⟩) 64 64 := by simp [List.getD_eq_getElem?_getD, ← h1]
      have e2 : (ls ++ [s]).getD j [] = s := by simp [List.getD_eq_getElem?_getD, ← h2]
      rw [e1, e2]
      exact ⟨g, rfl, hk g _ hg, hlg, hl⟩
  have hb : Below lo w w' := (Below.refl lo w).grown r2 hlo (fun k hk => (World.ownsRow.lt ho k hk).1)
  obtain ⟨A', c', rfl, _, _⟩ := hpk.form
  exact ⟨A', c', w', hrun, hpk, hb, r2, r5⟩
theorem wpList_app34 (w : World) {ops : Array Oper} {rest : List Oper} {o : Oper} {a : Act} {Q : Exit → Act → World → Prop} (hgd : o.guard = none) (s x : Operand)
    (ho : o.op = .call { callee := .builtin .append, args := #[s, x], argTypes := #[34, 34] })
    (lo : Nat) (v : Value) (n : Nat) (ls : List (List UInt8)) (hs : a.eval s = v) (h : Pk w lo v n ls) (u : Value) (sc : List UInt8) (hsc : Sct w lo u sc) (ad : Addr) (c : Nat) (hx : a.eval x = .slice (some ad) 1 c) (hc : w.cell? ad = some u) (hn : n ≤ 1000000) (hlo : lo ≤ w.heap.size)
    (hK : ∀ A' c' w', Pk w' lo (.slice A' (n + 1) c') (n + 1) (ls ++ [sc]) → Below lo w w' → wpList Try.prog ops Q rest (a.put o.dst (.slice A' (n + 1) c')) w') : wpList Try.prog ops Q (o :: rest) a w := by
  obtain ⟨A', c', w', hrun, h2, h3, _⟩ := run_app34 w o.type lo v n ls h u sc hsc ad c hc hn hlo
  refine wpList_plain hgd fun _ hK' => ?_
  unfold Oper.wp execOp
  simp only [ho, resolve, invoke, builtin, Sem.run_bind, Sem.run_pure, Result.andThen_ok, List.map_toArray, List.map_cons, List.map_nil, hs, hx, hrun]
  exact hK' _ _ (hK A' c' w' h2 h3)
end Go.Proofs.Ytpbojepliddflaa.Frm
