/-
  What a slice of items, and a slice of bytes, that came in comes to. No condition beyond the form's own.
-/
import Derived.Test.YtneipblbbjcmjaaItems
import Derived.Deep.Slices
import Derived.Deep.Fields
import Derived.ChangeSlices
import Derived.ProofKit
import Derived.OpenShut
import Derived.ChangeSame
namespace Go.Proofs.Ytneipblbbjcmjaa
open Go.RowKit Codec Go.ChangeShapes Go.WideShapes Go.ChangeAt Go.Deep
theorem cell_lt {w : World} {a : Addr} {v : Value} (h : w.cell? a = some v) : a.block < w.heap.size := by
  rcases Nat.lt_or_ge a.block w.heap.size with h' | h'
  · exact h'
  · simp [World.cell?, Array.getElem?_eq_none h'] at h
section
variable {H : Type} {enc : TypeId × Value → H} {w : World} {base : Nat} {spare : Nat → Bool} {held : Bool}
/-- One item, at its place. -/
def ItemAt (w : World) (a : Addr) (it : It) : Prop :=
  w.cell? a = some (.int .i64 it.kind) ∧ w.cell? (a.add 1) = some (.int .i64 it.n) ∧ w.cell? (a.add 2) = some (.string it.s) ∧
    (-9223372036854775808 ≤ it.n ∧ it.n ≤ 9223372036854775807) ∧ it.s.size ≤ 9223372036854775807
theorem one_field {cs : List Value} {i : Nat} (h : i < cs.length) : (cs.drop i).take 1 = [cs[i]] := by
  rw [List.drop_eq_getElem_cons h]
  rfl
theorem open_item {fuel : Nat} {a : Addr} {cs : List Value} {x : DataW H × List MemPlace} (hc : w.cells? base a 3 = some cs) (h : DataW.trod enc Try.prog w base spare held fuel 39 cs = some x) : ∃ it, ItemAt w a it := by
  obtain ⟨_, hcl, hat⟩ := World.cells?_some hc
  obtain ⟨ys, n', _, _, _, hyl, hf⟩ := DataW.trod_struct Try.underlying39 h
  have hyl3 : ys.length = 3 := hyl
  have f0 : DataW.trod enc Try.prog w base spare held n' 3 ((cs.drop 0).take (Try.prog.cellsOf 3)) = ys[0]? := hf 0 _ rfl
  have f1 : DataW.trod enc Try.prog w base spare held n' 2 ((cs.drop 1).take (Try.prog.cellsOf 2)) = ys[1]? := hf 1 _ rfl
  have f2 : DataW.trod enc Try.prog w base spare held n' 9 ((cs.drop 2).take (Try.prog.cellsOf 9)) = ys[2]? := hf 2 _ rfl
  have k2 : Try.prog.cellsOf 2 = 1 := by kernel_rfl
  have k3 : Try.prog.cellsOf 3 = 1 := by kernel_rfl
  have k9 : Try.prog.cellsOf 9 = 1 := by kernel_rfl
  rw [k3] at f0
  rw [k2] at f1
  rw [k9] at f2
  rw [one_field (by omega)] at f0 f1 f2
  have y0 : ∃ y, ys[0]? = some y := ⟨ys[0]'(by omega), List.getElem?_eq_getElem _⟩
  have y1 : ∃ y, ys[1]? = some y := ⟨ys[1]'(by omega), List.getElem?_eq_getElem _⟩
  have y2 : ∃ y, ys[2]? = some y := ⟨ys[2]'(by omega), List.getElem?_eq_getElem _⟩
  obtain ⟨y0, e0⟩ := y0
  obtain ⟨y1, e1⟩ := y1
  obtain ⟨y2, e2⟩ := y2
  obtain ⟨n0, g0, _, _⟩ := DataW.trod_int Try.underlying3 (f0.trans e0)
  obtain ⟨n1, g1, _, h1⟩ := DataW.trod_int Try.underlying2 (f1.trans e1)
  obtain ⟨s2, g2, _, h2⟩ := DataW.trod_string Try.underlying9 (f2.trans e2)
  injection g0 with g0
  injection g1 with g1
  injection g2 with g2
  have a0 := hat 0 (by decide)
  have a1 := hat 1 (by decide)
  have a2 := hat 2 (by decide)
  rw [List.getElem?_eq_getElem (by omega), g0] at a0
  rw [List.getElem?_eq_getElem (by omega), g1] at a1
  rw [List.getElem?_eq_getElem (by omega), g2] at a2
  refine ⟨⟨n0, n1, s2⟩, by simpa [Addr.add] using a0, a1, a2, ?_, h2⟩
  simpa [Lit.wf, IntKind.min, IntKind.max, IntKind.signed, IntKind.bits] using h1
theorem open_items {fuel : Nat} {A : Option Addr} {n c : Nat} {x : DataW H × List MemPlace} (h : DataW.trod enc Try.prog w base spare held fuel 22 [.slice A n c] = some x) :
    n ≤ 9223372036854775807 ∧ ∃ l, Items w w.heap.size A n l := by
  rcases open_slice Try.underlying22 h with ⟨hcs, _⟩ | ⟨a, len, cap, m, _, D, Pl, hcs, _, hl, hm, hmm, _, hi⟩
  · injection hcs with hcs
    injection hcs with h1 h2 h3
    subst h1 h2 h3
    exact ⟨by omega, [], rfl, fun h => absurd h (by omega), fun i => by simp [noIt], fun i => by simp [noIt]⟩
  · injection hcs with hcs
    injection hcs with h1 h2 h3
    subst h1 h2 h3
    unfold maxLen at hm
    refine ⟨by omega, ?_⟩
    have k39 : Try.prog.cellsOf 39 = 3 := by kernel_rfl
    have hx : ∀ i, i < n → ∃ it, ItemAt w (a.add (i * 3)) it := fun i hin => by
      have hmn : i < m := by rw [hmm]; split <;> omega
      obtain ⟨cs', h1, h2⟩ := hi i hmn
      rw [k39] at h1
      exact open_item h1 h2
    classical
    let f : Nat → It := fun i => if h : i < n then (hx i h).choose else noIt
    have hf : ∀ i, i < n → ItemAt w (a.add (i * 3)) (f i) := fun i h => by
      show ItemAt w _ (if h : i < n then (hx i h).choose else noIt)
      rw [dif_pos h]
      exact (hx i h).choose_spec
    have hg : ∀ i, i < n → ((List.range n).map f).getD i noIt = f i := fun i h => by simp [List.getD_eq_getElem?_getD, h]
    have hg2 : ∀ i, ¬ i < n → ((List.range n).map f).getD i noIt = noIt := fun i h => by
      rw [List.getD_eq_getElem?_getD, List.getElem?_eq_none (by simp; omega)]
      rfl
    refine ⟨(List.range n).map f, by simp, fun h0 => ?_, fun i => ?_, fun i => ?_⟩
    · obtain ⟨b, off, spot⟩ := a
      have hspot : spot = none := by simpa [Addr.add] using World.cell?_spot (hf 0 h0).1
      subst hspot
      refine ⟨b, off, rfl, by simpa [Addr.add] using cell_lt (hf 0 h0).1, fun i hin => ?_⟩
      rw [hg i hin]
      obtain ⟨q0, q1, q2, _, _⟩ := hf i hin
      rw [plain_add] at q0 q1 q2
      rw [plain_add] at q1 q2
      exact ⟨q0, q1, q2⟩
    · by_cases h : i < n
      · rw [hg i h]; exact (hf i h).2.2.2.1
      · rw [hg2 i h]; simp [noIt]
    · by_cases h : i < n
      · rw [hg i h]; exact (hf i h).2.2.2.2
      · rw [hg2 i h]; decide
theorem open_bytes {fuel : Nat} {A : Option Addr} {n c : Nat} {x : DataW H × List MemPlace} (h : DataW.trod enc Try.prog w base spare held fuel 29 [.slice A n c] = some x) :
    n ≤ c ∧ c ≤ maxLen ∧ ∃ bs, Byts w w.heap.size A n bs := by
  rcases open_ints Try.underlying29 Try.underlying5 (by kernel_rfl) h with ⟨hcs, _⟩ | ⟨a, len, cap, zs, hcs, _, hl, hm, hz, _, hc, hw⟩
  · injection hcs with hcs
    injection hcs with h1 h2 h3
    subst h1 h2 h3
    exact ⟨by omega, by unfold maxLen; omega, [], Byts.none_⟩
  · injection hcs with hcs
    injection hcs with h1 h2 h3
    subst h1 h2 h3
    refine ⟨hl, hm, (zs.take n).map fun z => UInt8.ofNat z.toNat, ?_, fun h0 => ?_⟩
    · have : n ≤ zs.length := by rw [hz]; split <;> omega
      simp
      omega
    · obtain ⟨b, off, spot⟩ := a
      have hzl : n ≤ zs.length := by rw [hz]; split <;> omega
      have hspot : spot = none := by simpa [Addr.add] using World.cell?_spot (hc 0 (by omega))
      subst hspot
      refine ⟨b, off, rfl, by simpa [Addr.add] using cell_lt (hc 0 (by omega)), fun j hj => ?_⟩
      have h1 := hc j (by omega)
      rw [plain_add] at h1
      rw [h1]
      have hj2 : j < zs.length := by omega
      have hb := hw zs[j] (List.getElem_mem hj2)
      have hb2 : 0 ≤ zs[j] ∧ zs[j] ≤ 255 := by simpa [Lit.wf, show IntKind.u8.min = 0 from rfl, show IntKind.u8.max = 255 from rfl] using hb
      simp [byt, List.getD_eq_getElem?_getD, hj, hj2]
      omega
end
end Go.Proofs.Ytneipblbbjcmjaa
