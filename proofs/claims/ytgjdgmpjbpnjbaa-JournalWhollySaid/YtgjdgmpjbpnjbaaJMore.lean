/-
  A row of slices that the call itself lays, one behind another (append). Conditions: the slices' bytes lay there before.
-/
import Derived.Test.YtgjdgmpjbpnjbaaJLight
import Derived.Test.YtgjdgmpjbpnjbaaJTurn
namespace Go.Proofs.Ytgjdgmpjbpnjbaa.Jou
open Go.RowKit Codec FrameM Cod JourM
open Disk (Turn Dk Dsk ptr Now Made Nums fresh)
set_option maxRecDepth 100000
/-- The value is a slice whose bytes lay there at W, in no block of S. -/
def Sl (W : World) (S : List Nat) (u : Value) (x : List UInt8) : Prop := ∃ A c, u = .slice A x.length c ∧ Bts W S A x.length x ∧ x.length ≤ c ∧ c ≤ maxLen
/-- A row of such slices, in blocks from W's end on. -/
def Vr (W w : World) (S : List Nat) (v : Value) (n : Nat) (ls : List (List UInt8)) : Prop :=
  ∃ vs : List Value, w.ownsRow W.heap.size 35 1 v n vs ∧ vs.length = n ∧ ls.length = n ∧ ∀ j, j < n → Sl W S (vs.getD j undef) (ls.getD j [])
theorem run_app_vr (W w : World) (ty : TypeId) (S : List Nat) (v : Value) (n : Nat) (ls : List (List UInt8)) (h : Vr W w S v n ls) (A : Option Addr) (m c : Nat) (ls2 : List (List UInt8)) (hl2 : ls2.length = m)
    (h2 : 0 < m → ∃ b off, A = some ⟨b, off, none⟩ ∧ ∀ j, j < m → ∃ u, w.cell? ⟨b, off + j, none⟩ = some u ∧ Sl W S u (ls2.getD j [])) (hn : n + m ≤ 1000000) (hlo : W.heap.size ≤ w.heap.size) :
    ∃ A' c' w', (Builtin.append_ #[34, 34] ty #[v, .slice A m c]).run Try.prog w = .ok (.slice A' (n + m) c') w' ∧ Vr W w' S (.slice A' (n + m) c') (n + m) (ls ++ ls2) ∧ w.grownBy w' v.ownBlock := by
  obtain ⟨i0, hi0, hz0, hz1, hz2⟩ := info_parts Frm.info24
  obtain ⟨vs, ho, h1, hl1, h3⟩ := h
  have key : ∃ v' w' vs', (Builtin.append_ #[34, 34] ty #[v, .slice A m c]).run Try.prog w = .ok v' w' ∧ w'.ownsRow W.heap.size 35 1 v' (n + m) (vs ++ vs') ∧ w.grownBy w' v.ownBlock ∧ vs'.length = m ∧ (∀ j, j < m → Sl W S (vs'.getD j undef) (ls2.getD j [])) := by
    by_cases hm : m = 0
    · subst hm
      refine ⟨v, w, [], ?_, by simpa using ho, ⟨rfl, rfl, rfl, Nat.le_refl _, fun _ _ _ => rfl⟩, rfl, fun j hj => absurd hj (by omega)⟩
      rcases ho.2 with ⟨rfl, rfl⟩ | ⟨g, cap, cur, rfl, _, _, hnc, _⟩
      · cases A <;> simp [Builtin.append_, run_underlying Try.underlying34, sizeOf, typeInfo, hi0, Builtin.lenOf, Builtin.firstCells, loadCells, loadCellsFrom]
      · cases A <;> simp [Builtin.append_, run_underlying Try.underlying34, sizeOf, typeInfo, hi0, Builtin.lenOf, Builtin.firstCells, loadCells, loadCellsFrom, hnc, storeCells]
    · obtain ⟨b, off, rfl, hc⟩ := h2 (by omega)
      have hex : ∃ vs' : List Value, vs'.length = m ∧ ∀ j, j < m → w.cell? ⟨b, off + j, none⟩ = some (vs'.getD j undef) ∧ Sl W S (vs'.getD j undef) (ls2.getD j []) := by
        refine ⟨(List.range m).map fun j => (w.cell? ⟨b, off + j, none⟩).getD undef, by simp, fun j hj => ?_⟩
        obtain ⟨u, hu1, hu2⟩ := hc j hj
        have e : ((List.range m).map fun j => (w.cell? ⟨b, off + j, none⟩).getD undef).getD j undef = u := by simp [List.getD_eq_getElem?_getD, hj, hu1]
        rw [e]
        exact ⟨hu1, hu2⟩
      obtain ⟨vs', hv1, hv2⟩ := hex
      obtain ⟨v', w', hrun, r1, r2, _, _⟩ := run_append_own_at (P := Try.prog) w W.heap.size 34 ty 35 i0 (.slice none 0 0) 1 24 Try.underlying34 hi0 hz0 hz1 hz2 rfl (by decide) v n vs ho ⟨b, off, none⟩ m c vs' (by omega) (fun j u hu => by
        have hj : j < m := by rw [← hv1]; exact (List.getElem?_eq_some_iff.1 hu).1
        have e := (hv2 j hj).1
        rw [plain_add, e, List.getD_eq_getElem?_getD, hu]
        rfl) (fun u hu => by
        obtain ⟨j, hj, rfl⟩ := List.getElem_of_mem hu
        obtain ⟨A1, c1, hg, _⟩ := (hv2 j (by omega)).2
        have e : vs'.getD j undef = vs'[j] := by simp [List.getD_eq_getElem?_getD, hj]
        rw [e] at hg
        rw [hg]
        rfl) (by unfold maxLen; omega) (by omega) hlo
      exact ⟨v', w', vs', hrun, r1, r2, hv1, fun j hj => (hv2 j hj).2⟩
  obtain ⟨v', w', vs', hrun, r1, r2, r3, r4⟩ := key
  have hform : ∃ A' c', v' = .slice A' (n + m) c' := by
    rcases r1.2 with ⟨rfl, h0⟩ | ⟨g, cap, cur, rfl, _⟩
    · exact ⟨none, 0, by rw [h0]⟩
    · exact ⟨_, cap, rfl⟩
  obtain ⟨A', c', rfl⟩ := hform
  refine ⟨A', c', w', hrun, ⟨vs ++ vs', r1, by simp [h1, r3], by simp [hl1, hl2], fun j hj => ?_⟩, r2⟩
  by_cases hjn : j < n
  · rw [getD_app_left _ _ _ _ (by omega), getD_app_left _ _ _ _ (by omega)]
    exact h3 j hjn
  · rw [getD_app_right _ _ _ _ (by omega), getD_app_right _ _ _ _ (by omega), h1, hl1]
    exact r4 (j - n) (by omega)
theorem Vr.none_ {W w : World} {S : List Nat} : Vr W w S (.slice none 0 0) 0 [] := ⟨[], World.ownsRow_nil _ _ _ _, rfl, rfl, fun j hj => absurd hj (by omega)⟩
theorem Vr.rows {W w : World} {S : List Nat} {A : Option Addr} {n c : Nat} {ls : List (List UInt8)} (h : Vr W w S (.slice A n c) n ls) (hb : Below W.heap.size W w) (hS : ∀ k ∈ S, k < W.heap.size) : RowsB w S A n ls := by
  obtain ⟨vs, ho, h1, h2, h3⟩ := h
  refine ⟨h2, fun hn => ?_⟩
  obtain ⟨g, cap, hv, hlo, hlt⟩ := World.ownsRow.form ho hn
  have hA : A = some ⟨g, 0, none⟩ := by injection hv
  subst hA
  refine ⟨g, 0, rfl, hlt, fun hm => by have := hS g hm; omega, fun j hj => ?_⟩
  obtain ⟨Aj, cj, e, q1, q2, q3⟩ := h3 j hj
  have hc := ho.cells (g := g) rfl j (vs.getD j undef) (by simp [List.getD_eq_getElem?_getD, h1, hj])
  rw [plain_add, e] at hc
  exact ⟨Aj, cj, hc, q1.below hb, q2, q3⟩
/-- A row that was there, as slices. -/
theorem RowsB.sl {W w : World} {S : List Nat} {A : Option Addr} {n : Nat} {ls : List (List UInt8)} (h : RowsB W S A n ls) (hb : Below W.heap.size W w) : 0 < n → ∃ b off, A = some ⟨b, off, none⟩ ∧ ∀ j, j < n → ∃ u, w.cell? ⟨b, off + j, none⟩ = some u ∧ Sl W S u (ls.getD j []) := fun hn => by
  obtain ⟨b, off, e, hl, _, hc⟩ := h.at_ hn
  refine ⟨b, off, e, fun j hj => ?_⟩
  obtain ⟨Aj, cj, h1, h2, h3, h4⟩ := hc j hj
  exact ⟨_, (World.cell?_of_block (w := W) (hb.block b hl)).trans h1, Aj, cj, rfl, h2, h3, h4⟩
end Go.Proofs.Ytgjdgmpjbpnjbaa.Jou
