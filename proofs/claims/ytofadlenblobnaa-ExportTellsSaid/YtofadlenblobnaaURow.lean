/-
  Rows of types and of signatures that grow in new memory; a signature while it is read. No condition beyond sizes.
-/
import Derived.Test.YtofadlenblobnaaUEnc
import Derived.Test.YtofadlenblobnaaLDrw2
namespace Go.Proofs.Ytofadlenblobnaa.Exp
open Go.RowKit Codec Typ Tre
open OwnR (OwnG)
open Cod (Rdr Turned grown_trans grown_set)
set_option maxRecDepth 100000
set_option linter.unusedSimpArgs false
theorem und_tl : Try.prog.underlying 34 = some (.slice 35) := by kernel_rfl
theorem infoT : (Try.prog.info? 35).map (fun i => (i.zero, i.size, i.bytes)) = some (some (.int .u8 0), 1, 1) := by kernel_rfl
theorem infoT_of : ∃ i, Try.prog.info? 35 = some i ∧ i.zero = some (.int .u8 0) ∧ i.size = 1 ∧ i.bytes = 1 := by
  have h := infoT
  cases hi : Try.prog.info? 35 with
  | none => rw [hi] at h; simp at h
  | some i => rw [hi] at h; simp at h; exact ⟨i, rfl, h.1, h.2.1, h.2.2⟩
theorem app_ty {lo : Nat} (w : World) (v : Value) (l : List Int) (x : Int) (eb : Nat) (h : OwnG 1 tyC 35 w lo v l) (he : w.heap[eb]? = some (.cells #[.int .u8 x] 35 (0, 0))) (hl : l.length ≤ 1000000) (hlo : lo ≤ w.heap.size) :
    ∃ v2 w2, (∀ ty, (Builtin.append_ #[34, 34] ty #[v, .slice (some ⟨eb, 0, none⟩) 1 1]).run Try.prog w = .ok v2 w2) ∧ OwnG 1 tyC 35 w2 lo v2 (l ++ [x]) ∧ w.grownBy w2 v.ownBlock ∧ (v2.ownBlock = v.ownBlock ∨ v2.ownBlock = some w.heap.size) := by
  obtain ⟨i, hi, hz, hs, hb⟩ := infoT_of
  exact OwnG.app und_tl hi hz hs hb rfl (by decide) (fun _ => rfl) (fun x u hu => by simp [tyC] at hu; subst hu; rfl) w v l x eb h he hl (by decide) hlo
theorem at_appG (L : TypeId) {P : Program} {ops : Array Oper} {Q : Exit → Act → World → Prop} {md : Region.Mode} {S : World → Prop} {nn fuel : Nat} {listed : Array Bool} {a : Act} {w : World} {oi : Oper} (i d : Nat) (v2 : Value) (w' : World) (hi : ops[i]? = some oi) (hd : oi.dst = some d) (hr : Region.ready md ops listed = [i]) (hin : i < nn) (hw : Region.wanted oi (yielded ops a.tmps) = true) (s x : Operand)
    (ho : oi.op = .call { callee := .builtin .append, args := #[s, x], argTypes := #[L, L] }) (v u : Value) (hs : a.eval s = v) (hx : a.eval x = u) (hrun : ∀ ty, (Builtin.append_ #[L, L] ty #[v, u]).run P w = .ok v2 w') (hS : S w')
    (h : Lex.AtS P md ops Q S nn fuel (listed.setIfInBounds i true) (a.put (some d) v2) w') : Lex.AtS P md ops Q S nn (fuel + 1) listed a w := by
  refine Lex.at_run i d v2 w' hi hd hr hin hw ?_ hS h
  unfold execOp
  simp only [ho, resolve, invoke, builtin, Sem.run_bind, Sem.run_pure, Result.andThen_ok, List.map_toArray, List.map_cons, List.map_nil, hs, hx, hrun]
theorem wpList_appG {P : Program} (L : TypeId) {w w2 : World} {ops : Array Oper} {rest : List Oper} {o : Oper} {a : Act} {Q : Exit → Act → World → Prop} (hgd : o.guard = none) (s x : Operand)
    (ho : o.op = .call { callee := .builtin .append, args := #[s, x], argTypes := #[L, L] }) (v u v2 : Value) (hs : a.eval s = v) (hx : a.eval x = u) (hrun : ∀ ty, (Builtin.append_ #[L, L] ty #[v, u]).run P w = .ok v2 w2)
    (h : wpList P ops Q rest (a.put o.dst v2) w2) : wpList P ops Q (o :: rest) a w := by
  refine wpList_plain hgd fun _ hK => ?_
  unfold Oper.wp execOp
  simp only [ho, resolve, invoke, builtin, Sem.run_bind, Sem.run_pure, Result.andThen_ok, List.map_toArray, List.map_cons, List.map_nil, hs, hx, hrun]
  exact hK _ _ h
theorem und_sl : Try.prog.underlying 22 = some (.slice 37) := by kernel_rfl
theorem infoG : (Try.prog.info? 37).map (fun i => (i.zero, i.size, decide (i.bytes ≤ 10000))) = some (some (.agg #[.string ⟨#[]⟩, .slice none 0 0, .int .u8 0]), 3, true) := by kernel_rfl
theorem infoG_of : ∃ i, Try.prog.info? 37 = some i ∧ i.zero = some (.agg #[.string ⟨#[]⟩, .slice none 0 0, .int .u8 0]) ∧ i.size = 3 ∧ i.bytes ≤ 10000 := by
  have h := infoG
  cases hi : Try.prog.info? 37 with
  | none => rw [hi] at h; simp at h
  | some i => rw [hi] at h; simp at h; exact ⟨i, rfl, h.1, h.2.1, h.2.2⟩
theorem app_sg {lo : Nat} (w : World) (v : Value) (l : List Sg) (x : Sg) (eb : Nat) (h : OwnG 3 sgC 37 w lo v l) (he : w.heap[eb]? = some (.cells #[.string x.s, .slice x.a x.p.length x.c, .int .u8 x.r] 37 (0, 0))) (hl : l.length ≤ 1000000) (hlo : lo ≤ w.heap.size) :
    ∃ v2 w2, (∀ ty, (Builtin.append_ #[22, 22] ty #[v, .slice (some ⟨eb, 0, none⟩) 1 1]).run Try.prog w = .ok v2 w2) ∧ OwnG 3 sgC 37 w2 lo v2 (l ++ [x]) ∧ w.grownBy w2 v.ownBlock ∧ (v2.ownBlock = v.ownBlock ∨ v2.ownBlock = some w.heap.size) := by
  obtain ⟨i, hi, hz, hs, hb⟩ := infoG_of
  exact OwnG.app und_sl hi hz hs rfl rfl (by decide) (fun _ => rfl) (fun x u hu => by
    simp [sgC] at hu
    rcases hu with rfl | rfl | rfl <;> rfl) w v l x eb h he hl hb hlo
theorem results_sig {fn : Func} {p : Tmp} (h : fn.results = #[.cell p 37]) (tmps : Array Value) (w : World) (g : Nat) (v0 v1 v2 : Value) (hv : tmps.getD p undef = .pointer (some ⟨g, 0, none⟩)) (hc : w.heap[g]? = some (.cells #[v0, v1, v2] 37 (0, 0))) :
    (results fn tmps).run Try.prog w = .ok (.agg #[v0, v1, v2]) w := by
  have a4 := Try.isAgg37
  have z4 := Try.sizeOf37
  have c0 := cell_at hc 0
  have c1 := cell_at hc 1
  have c2 := cell_at hc 2
  simp only [List.getElem?_toArray, List.getElem?_cons_succ, List.getElem?_cons_zero] at c0 c1 c2
  simp only [Array.getD_eq_getD_getElem?] at hv
  unfold results
  rw [h]
  go_simp
theorem setc_at {w : World} {b i : Nat} {cs : Array Value} {T : TypeId} (h : w.heap[b]? = some (.cells cs T (0, 0))) (u : Value) : (w.setCell ⟨b, i, none⟩ u).heap[b]? = some (.cells (cs.set! i u) T (0, 0)) := by
  simp [World.setCell, Array.getElem?_modify, h]
theorem OwnG.far {k : Nat} {α : Type} {C : α → List Value} {T T2 : TypeId} {w : World} {lo g : Nat} {v : Value} {l : List α} {cs : Array Value} (h : OwnG k C T w lo v l) (hg : w.heap[g]? = some (.cells cs T2 (0, 0))) (hT : T ≠ T2) : v.ownBlock ≠ some g := fun e => by
  rcases h.2 with ⟨e2, _⟩ | ⟨b, cap, cur, e2, _, hh, _⟩
  · rw [e2] at e
    simp [Value.ownBlock] at e
  · rw [e2] at e
    simp [Value.ownBlock] at e
    subst e
    rw [hg] at hh
    injection hh with hh
    injection hh with _ ht _
    exact hT ht.symm
theorem OwnG.lower {k : Nat} {α : Type} {C : α → List Value} {T : TypeId} {w : World} {lo lo2 : Nat} {v : Value} {l : List α} (h : OwnG k C T w lo v l) (hl : lo2 ≤ lo) : OwnG k C T w lo2 v l := by
  refine ⟨h.1, ?_⟩
  rcases h.2 with h0 | ⟨g, cap, cur, hv, hg, r⟩
  · exact .inl h0
  · exact .inr ⟨g, cap, cur, hv, by omega, r⟩
theorem grown_new {a b c : World} {g row : Option Nat} (h : a.grownBy b g) (k : b.grownBy c row) (hn : ∀ i, row = some i → a.heap.size ≤ i) : a.grownBy c g :=
  ⟨k.os.trans h.os, k.tape.trans h.tape, k.output.trans h.output, Nat.le_trans h.size k.size, fun i hi hne => (k.block i (Nat.lt_of_lt_of_le hi h.size) (fun e => by have := hn i e.symm; omega)).trans (h.block i hi hne)⟩
theorem grown_of_below {w w' : World} (h : Below w.heap.size w w') (row : Option Nat) : w.grownBy w' row := ⟨h.os, h.tape, h.output, h.size, fun k hk _ => h.block k hk⟩
/-- A signature that is being read: the reader in block g, the signature in block bs, its row its own. -/
structure SgAt (T : TypeId) (w wr : World) (B g bs : Nat) (st : Codec.St) (nm : ByteArray) (r : Int) (v : Value) (p : List Int) : Prop where
  rdr : Rdr T wr B g st
  sig : wr.heap[bs]? = some (.cells #[.string nm, v, .int .u8 r] 37 (0, 0))
  own : OwnG 1 tyC 35 wr w.heap.size v p
  gr : w.grownBy wr (some g)
  old : g < w.heap.size
  new : w.heap.size ≤ bs
section
variable {T : TypeId} {w wr w' : World} {B g bs : Nat} {st st' : Codec.St} {nm : ByteArray} {r : Int} {v : Value} {p : List Int}
theorem SgAt.read (h : SgAt T w wr B g bs st nm r v p) (hr : Rdr T w' B g st') (hg : wr.grownBy w' (some g)) : SgAt T w w' B g bs st' nm r v p := by
  have hne : bs ≠ g := by have := h.old; have := h.new; omega
  exact ⟨hr, (hg.block bs (lt_of_heap h.sig) (by simp; exact hne)).trans h.sig, h.own.keep fun k hk => hg.block k (h.own.lt k hk).2 (by have := (h.own.lt k hk).1; have := h.old; simp; omega), grown_trans h.gr hg, h.old, h.new⟩
theorem SgAt.drewN (h : SgAt T w wr B g bs st nm r v p) (m : Nat) : SgAt T w (wr.drewN m) B g bs st nm r v p :=
  ⟨h.rdr.drewN m, h.sig, h.own.keep fun _ _ => rfl, Cod.grown_drewN h.gr m, h.old, h.new⟩
theorem SgAt.drew (h : SgAt T w wr B g bs st nm r v p) : SgAt T w wr.drew B g bs st nm r v p := h.drewN 1
/-- What stays while one type more is appended. -/
def SigB (bs : Nat) (nm : ByteArray) (r : Int) (v : Value) (u : World) : Prop := u.heap[bs]? = some (.cells #[.string nm, v, .int .u8 r] 37 (0, 0))
theorem SgAt.one (h : SgAt T w wr B g bs st nm r v p) (x : Int) (hl : p.length ≤ 1000000) :
    ∃ A n c w2, (∀ ty, (Builtin.append_ #[34, 34] ty #[v, .slice (some ⟨wr.heap.size, 0, none⟩) 1 1]).run Try.prog (wr.alloc (.cells #[.int .u8 x] 35)) = .ok (.slice A n c) w2) ∧ SigB bs nm r v (wr.alloc (.cells #[.int .u8 x] 35)) ∧ SigB bs nm r v w2 ∧ w2.frozen? ⟨bs, 1, none⟩ = false ∧ SgAt T w (w2.setCell ⟨bs, 1, none⟩ (.slice A n c)) B g bs st nm r (.slice A n c) (p ++ [x]) := by
  have hb := ball_new wr #[.int .u8 x] 35
  have hold := h.old
  have hnew := h.new
  have hsz := h.gr.size
  have own1 : OwnG 1 tyC 35 (wr.alloc (.cells #[.int .u8 x] 35)) w.heap.size v p := h.own.keep fun k hk => hb.block k (h.own.lt k hk).2
  have sig1 := (hb.block _ (lt_of_heap h.sig)).trans h.sig
  have rdr1 := h.rdr.below hb
  have gr1 := grown_trans h.gr (grown_of_below hb (some g))
  obtain ⟨v2, w2, hr, ho2, hg2, hn2⟩ := app_ty _ v p x wr.heap.size own1 (new_at wr _ _) hl (by simp; omega)
  obtain ⟨A, c, e, _⟩ := ho2.form
  subst e
  have hne : some bs ≠ v.ownBlock := fun e => OwnG.far own1 sig1 (by decide) e.symm
  have sig2 := (hg2.block _ (lt_of_heap sig1) hne).trans sig1
  have hlo : ∀ k, v.ownBlock = some k → w.heap.size ≤ k := fun k hk => (own1.lt k hk).1
  have gr2 : w.grownBy w2 (some g) := grown_new gr1 hg2 hlo
  have rdr2 : Rdr T w2 B g st := rdr1.keep (fun k hk => hg2.block k (by have := rdr1.lt; have := rdr1.2.1; omega) (fun e => by have := hlo k e.symm; have := rdr1.2.1; omega)) (hg2.block g rdr1.lt (fun e => by have := hlo g e.symm; omega))
  have gs := grown_set w2 bs 1 (.slice A (p ++ [x]).length c)
  refine ⟨A, _, c, w2, hr, sig1, sig2, by simp [World.frozen?, sig2], ⟨?_, ?_, ?_, ?_, hold, hnew⟩⟩
  · exact rdr2.grown gs (by have := rdr2.2.1; omega) (by omega)
  · exact (setc_at sig2 _).trans (by rfl)
  · refine ho2.keep fun k hk => gs.block k (ho2.lt k hk).2 fun e => ?_
    injection e with e
    subst e
    exact OwnG.far ho2 sig2 (by decide) hk
  · exact grown_new gr2 gs (fun i hi => by injection hi with hi; omega)
/-- The result is set. -/
theorem SgAt.res (h : SgAt T w wr B g bs st nm r v p) (x : Int) : SgAt T w (wr.setCell ⟨bs, 2, none⟩ (.int .u8 x)) B g bs st nm x v p := by
  have hold := h.old
  have hnew := h.new
  have gs := grown_set wr bs 2 (.int .u8 x)
  refine ⟨?_, ?_, ?_, ?_, hold, hnew⟩
  · exact h.rdr.grown gs (by have := h.rdr.2.1; omega) (by omega)
  · exact (setc_at h.sig _).trans (by rfl)
  · refine h.own.keep fun k hk => gs.block k (h.own.lt k hk).2 fun e => ?_
    injection e with e
    subst e
    exact OwnG.far h.own h.sig (by decide) hk
  · exact grown_new h.gr gs (fun i hi => by injection hi with hi; omega)
end
end Go.Proofs.Ytofadlenblobnaa.Exp
