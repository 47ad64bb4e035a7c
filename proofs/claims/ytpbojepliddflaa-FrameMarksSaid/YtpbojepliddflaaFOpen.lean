/-
  What a mark, a slice of bytes, and a slice of slices of bytes that came in come to. No condition beyond the form's own.
-/
import Derived.Test.YtpbojepliddflaaFRows
import Derived.Deep.Slices
import Derived.Deep.Fields
import Derived.ChangeSlices
import Derived.ProofKit
import Derived.OpenShut
import Derived.ChangeSame
import Derived.Lib.SmallJoins
namespace Go.Proofs.Ytpbojepliddflaa.Frm
open Go.RowKit Codec FrameM Cod Go.ChangeShapes Go.WideShapes Go.ChangeAt Go.Deep Go.Joins
set_option maxRecDepth 100000
theorem cell_low {w : World} {a : Addr} {v : Value} (h : w.cell? a = some v) : a.block < w.heap.size := by
  rcases Nat.lt_or_ge a.block w.heap.size with h' | h'
  · exact h'
  · simp [World.cell?, Array.getElem?_eq_none h'] at h
section
variable {H : Type} {enc : TypeId × Value → H} {w : World} {base : Nat} {spare : Nat → Bool} {held : Bool}
theorem fits_of {n : Int} (h : (Lit.int .i64 n).wf = true) : in64 n := by
  simpa [in64, Lit.wf, IntKind.min, IntKind.max, IntKind.signed, IntKind.bits] using h
theorem open_mark {r : Reach} {b0 : Nat} {v : Value} {d : DataW H} {p : List MemPlace} (hv : Value.okWide Try.prog w r b0 23 v) (h : DataW.Trod enc Try.prog w base spare held 23 v d p) : ∃ m : Mk, v = mkV m ∧ m.fits := by
  obtain ⟨v0, v1, v2, v3, y0, y1, y2, y3, n, rfl, _, _, t0, t1, t2, t3⟩ := open_agg4 Try.underlying23 (by kernel_rfl) (by kernel_rfl) hv h
  obtain ⟨n0, g0, _, h0⟩ := DataW.trod_int Try.underlying3 t0
  obtain ⟨n1, g1, _, h1⟩ := DataW.trod_int Try.underlying2 t1
  obtain ⟨n2, g2, _, h2⟩ := DataW.trod_int Try.underlying2 t2
  obtain ⟨n3, g3, _, h3⟩ := DataW.trod_int Try.underlying2 t3
  injection g0 with g0
  injection g1 with g1
  injection g2 with g2
  injection g3 with g3
  subst g0 g1 g2 g3
  exact ⟨⟨n0, n1, n2, n3⟩, rfl, fits_of h0, fits_of h1, fits_of h2, fits_of h3⟩
theorem open_cell {fuel : Nat} {cs : List Value} {x : DataW H × List MemPlace} (h : DataW.trod enc Try.prog w base spare held fuel 24 cs = some x) :
    ∃ A n c bs, cs = [.slice A n c] ∧ n ≤ c ∧ c ≤ maxLen ∧ Byts w w.heap.size A n bs := by
  rcases open_ints Try.underlying24 Try.underlying5 (by kernel_rfl) h with ⟨hcs, _⟩ | ⟨a, len, cap, zs, hcs, _, hl, hm, hz, _, hc, hw⟩
  · exact ⟨none, 0, 0, [], hcs, Nat.le_refl _, Nat.zero_le _, Byts.none_⟩
  · refine ⟨some a, len, cap, (zs.take len).map fun z => UInt8.ofNat z.toNat, hcs, hl, hm, ?_, fun h0 => ?_⟩
    · have : len ≤ zs.length := by rw [hz]; split <;> omega
      simp
      omega
    · obtain ⟨b, off, spot⟩ := a
      have hzl : len ≤ zs.length := by rw [hz]; split <;> omega
      have hspot : spot = none := by simpa [Addr.add] using World.cell?_spot (hc 0 (by omega))
      subst hspot
      refine ⟨b, off, rfl, by simpa [Addr.add] using cell_low (hc 0 (by omega)), fun j hj => ?_⟩
      have h1 := hc j (by omega)
      rw [plain_add] at h1
      rw [h1]
      have hj2 : j < zs.length := by omega
      have hb := hw zs[j] (List.getElem_mem hj2)
      have hb2 : 0 ≤ zs[j] ∧ zs[j] ≤ 255 := by simpa [Lit.wf, show IntKind.u8.min = 0 from rfl, show IntKind.u8.max = 255 from rfl] using hb
      simp [byt, List.getD_eq_getElem?_getD, hj, hj2]
      omega
theorem open_bytes {fuel : Nat} {A : Option Addr} {n c : Nat} {x : DataW H × List MemPlace} (h : DataW.trod enc Try.prog w base spare held fuel 24 [.slice A n c] = some x) :
    n ≤ c ∧ c ≤ maxLen ∧ ∃ bs, Byts w w.heap.size A n bs := by
  obtain ⟨A', n', c', bs, hcs, h1, h2, h3⟩ := open_cell h
  injection hcs with hcs
  injection hcs with e1 e2 e3
  subst e1 e2 e3
  exact ⟨h1, h2, bs, h3⟩
theorem open_rows {fuel : Nat} {A : Option Addr} {n c : Nat} {x : DataW H × List MemPlace} (h : DataW.trod enc Try.prog w base spare held fuel 34 [.slice A n c] = some x) :
    n ≤ maxLen ∧ ∃ ls, Rows w w.heap.size A n ls := by
  rcases open_slice Try.underlying34 h with ⟨hcs, _⟩ | ⟨a, len, cap, m, _, D, Pl, hcs, _, hl, hm, hmm, _, hi⟩
  · injection hcs with hcs
    injection hcs with h1 h2 h3
    subst h1 h2 h3
    exact ⟨Nat.zero_le _, [], Rows.none_⟩
  · injection hcs with hcs
    injection hcs with h1 h2 h3
    subst h1 h2 h3
    refine ⟨by omega, ?_⟩
    have k24 : Try.prog.cellsOf 24 = 1 := by kernel_rfl
    have hx : ∀ i, i < n → ∃ bs : List UInt8, ∃ Aj cj, w.cell? (a.add i) = some (.slice Aj bs.length cj) ∧ Byts w w.heap.size Aj bs.length bs ∧ bs.length ≤ cj ∧ cj ≤ maxLen := fun i hin => by
      have hmn : i < m := by rw [hmm]; split <;> omega
      obtain ⟨cs', h1, h2⟩ := hi i hmn
      rw [k24, Nat.mul_one] at h1
      obtain ⟨Aj, nj, cj, bs, hcs, hle, hcm, hb⟩ := open_cell h2
      obtain ⟨_, _, hat⟩ := World.cells?_some h1
      have h0 := hat 0 (by decide)
      rw [hcs] at h0
      have hl := hb.len
      subst hl
      exact ⟨bs, Aj, cj, by simpa [Addr.add] using h0, hb, hle, hcm⟩
    classical
    let f : Nat → List UInt8 := fun i => if h : i < n then (hx i h).choose else []
    have hf : ∀ i, i < n → ∃ Aj cj, w.cell? (a.add i) = some (.slice Aj (f i).length cj) ∧ Byts w w.heap.size Aj (f i).length (f i) ∧ (f i).length ≤ cj ∧ cj ≤ maxLen := fun i h => by
      have e : f i = (hx i h).choose := dif_pos h
      rw [e]
      exact (hx i h).choose_spec
    have hg : ∀ i, i < n → ((List.range n).map f).getD i [] = f i := fun i h => by simp [List.getD_eq_getElem?_getD, h]
    refine ⟨(List.range n).map f, by simp, fun h0 => ?_⟩
    obtain ⟨b, off, spot⟩ := a
    obtain ⟨A0, c0, q0, _⟩ := hf 0 h0
    have hspot : spot = none := by simpa [Addr.add] using World.cell?_spot q0
    subst hspot
    refine ⟨b, off, rfl, by simpa [Addr.add] using cell_low q0, fun j hj => ?_⟩
    rw [hg j hj]
    obtain ⟨Aj, cj, q1, q2, q3, q4⟩ := hf j hj
    rw [plain_add] at q1
    exact ⟨Aj, cj, q1, q2, q3, q4⟩
end
end Go.Proofs.Ytpbojepliddflaa.Frm
