/-
  What a slice of acts, and a slice of ints, that came in comes to. No condition beyond the form's own.
-/
import Derived.Test.YthphcidpdjopeaaSafe1
import Derived.Deep.Slices
import Derived.Deep.Fields
import Derived.ChangeSlices
import Derived.ProofKit
import Derived.OpenShut
import Derived.ChangeSame
namespace Go.Proofs.Ythphcidpdjopeaa
open Go.RowKit Go.ChangeShapes Go.WideShapes Go.ChangeAt Go.Deep
theorem cell_lt {w : World} {a : Addr} {v : Value} (h : w.cell? a = some v) : a.block < w.heap.size := by
  rcases Nat.lt_or_ge a.block w.heap.size with h' | h'
  · exact h'
  · simp [World.cell?, Array.getElem?_eq_none h'] at h
section
variable {H : Type} {enc : TypeId × Value → H} {w : World} {base : Nat} {spare : Nat → Bool} {held : Bool}
/-- One act, at its place. -/
def ActIn (w : World) (a : Addr) (x : ActR) : Prop :=
  w.cell? a = some (.int .i64 x.kind) ∧ w.cell? (a.add 1) = some (.int .i64 x.a) ∧ w.cell? (a.add 3) = some (byt x.b) ∧ -9223372036854775808 ≤ x.a ∧ x.a ≤ 9223372036854775807
theorem one_field {cs : List Value} {i : Nat} (h : i < cs.length) : (cs.drop i).take 1 = [cs[i]] := by
  rw [List.drop_eq_getElem_cons h]
  rfl
theorem open_act {fuel : Nat} {a : Addr} {cs : List Value} {x : DataW H × List MemPlace} (hc : w.cells? base a 5 = some cs) (h : DataW.trod enc Try.prog w base spare held fuel 32 cs = some x) : ∃ it, ActIn w a it := by
  obtain ⟨_, hcl, hat⟩ := World.cells?_some hc
  obtain ⟨ys, n', _, _, _, hyl, hf⟩ := DataW.trod_struct Try.underlying32 h
  have hyl5 : ys.length = 5 := hyl
  have f0 : DataW.trod enc Try.prog w base spare held n' 3 ((cs.drop 0).take (Try.prog.cellsOf 3)) = ys[0]? := hf 0 _ rfl
  have f1 : DataW.trod enc Try.prog w base spare held n' 3 ((cs.drop 1).take (Try.prog.cellsOf 3)) = ys[1]? := hf 1 _ rfl
  have f3 : DataW.trod enc Try.prog w base spare held n' 5 ((cs.drop 3).take (Try.prog.cellsOf 5)) = ys[3]? := hf 3 _ rfl
  have k3 : Try.prog.cellsOf 3 = 1 := by kernel_rfl
  have k5 : Try.prog.cellsOf 5 = 1 := by kernel_rfl
  rw [k3] at f0 f1
  rw [k5] at f3
  rw [one_field (by omega)] at f0 f1 f3
  obtain ⟨y0, e0⟩ : ∃ y, ys[0]? = some y := ⟨ys[0]'(by omega), List.getElem?_eq_getElem _⟩
  obtain ⟨y1, e1⟩ : ∃ y, ys[1]? = some y := ⟨ys[1]'(by omega), List.getElem?_eq_getElem _⟩
  obtain ⟨y3, e3⟩ : ∃ y, ys[3]? = some y := ⟨ys[3]'(by omega), List.getElem?_eq_getElem _⟩
  obtain ⟨n0, g0, _, _⟩ := DataW.trod_int Try.underlying3 (f0.trans e0)
  obtain ⟨n1, g1, _, h1⟩ := DataW.trod_int Try.underlying3 (f1.trans e1)
  obtain ⟨n3, g3, _, h3⟩ := DataW.trod_int Try.underlying5 (f3.trans e3)
  injection g0 with g0
  injection g1 with g1
  injection g3 with g3
  have a0 := hat 0 (by decide)
  have a1 := hat 1 (by decide)
  have a3 := hat 3 (by decide)
  rw [List.getElem?_eq_getElem (by omega), g0] at a0
  rw [List.getElem?_eq_getElem (by omega), g1] at a1
  rw [List.getElem?_eq_getElem (by omega), g3] at a3
  have hb2 : 0 ≤ n3 ∧ n3 ≤ 255 := by simpa [Lit.wf, show IntKind.u8.min = 0 from rfl, show IntKind.u8.max = 255 from rfl] using h3
  have eb : Value.int .u8 n3 = byt (UInt8.ofNat n3.toNat) := by
    unfold byt
    rw [UInt8.toNat_ofNat']
    congr 1
    omega
  rw [eb] at a3
  refine ⟨⟨n0, n1, UInt8.ofNat n3.toNat⟩, by simpa [Addr.add] using a0, a1, a3, ?_⟩
  simpa [Lit.wf, IntKind.min, IntKind.max, IntKind.signed, IntKind.bits] using h1
theorem open_acts {fuel : Nat} {A : Option Addr} {n c : Nat} {x : DataW H × List MemPlace} (h : DataW.trod enc Try.prog w base spare held fuel 22 [.slice A n c] = some x) :
    n ≤ 9223372036854775807 ∧ Acts w w.heap.size A n := by
  rcases open_slice Try.underlying22 h with ⟨hcs, _⟩ | ⟨a, len, cap, m, _, D, Pl, hcs, _, hl, hm, hmm, _, hi⟩
  · injection hcs with hcs
    injection hcs with h1 h2 h3
    subst h1 h2 h3
    exact ⟨by omega, fun k hk => absurd hk (by omega)⟩
  · injection hcs with hcs
    injection hcs with h1 h2 h3
    subst h1 h2 h3
    unfold maxLen at hm
    refine ⟨by omega, fun k hk => ?_⟩
    have k32 : Try.prog.cellsOf 32 = 5 := by kernel_rfl
    have hmn : k < m := by rw [hmm]; split <;> omega
    obtain ⟨cs', h1, h2⟩ := hi k hmn
    rw [k32] at h1
    obtain ⟨it, q0, q1, q3, qa, qb⟩ := open_act h1 h2
    obtain ⟨b, off, spot⟩ := a
    have hspot : spot = none := by
      obtain ⟨cs0, z1, z2⟩ := hi 0 (by omega)
      rw [k32] at z1
      obtain ⟨_, z0, _⟩ := open_act z1 z2
      simpa [Addr.add] using World.cell?_spot z0
    subst hspot
    rw [Addr.add_mid] at q0 q1 q3
    rw [Addr.add_mid] at q1 q3
    refine ⟨it, b, off + k * 5, cell_lt q0, fun c w' => ?_, q0, q1, q3, qa, qb⟩
    have hs : ∀ W, (Go.sizeOf 32).run Try.prog W = .ok 5 W := fun W => by kernel_rfl
    simp [Instr.indexAt, asIntOf, run_underlying Try.underlying22, Result.andThen, Addr.add_mid]
    intro h1
    omega
theorem open_nums {fuel : Nat} {A : Option Addr} {n c : Nat} {x : DataW H × List MemPlace} (h : DataW.trod enc Try.prog w base spare held fuel 23 [.slice A n c] = some x) :
    n ≤ 9223372036854775807 ∧ ∃ zs, NumsB w w.heap.size A n zs := by
  rcases open_ints Try.underlying23 Try.underlying3 (by kernel_rfl) h with ⟨hcs, _⟩ | ⟨a, len, cap, zs, hcs, _, hl, hm, hz, _, hc, hw⟩
  · injection hcs with hcs
    injection hcs with h1 h2 h3
    subst h1 h2 h3
    exact ⟨by omega, [], rfl, fun h => absurd h (by omega)⟩
  · injection hcs with hcs
    injection hcs with h1 h2 h3
    subst h1 h2 h3
    unfold maxLen at hm
    have hzl : n ≤ zs.length := by rw [hz]; split <;> omega
    refine ⟨by omega, zs.take n, by simp; omega, fun h0 => ?_⟩
    obtain ⟨b, off, spot⟩ := a
    have hspot : spot = none := by simpa [Addr.add] using World.cell?_spot (hc 0 (by omega))
    subst hspot
    refine ⟨b, off, rfl, by simpa [Addr.add] using cell_lt (hc 0 (by omega)), fun j hj => ?_⟩
    have h1 := hc j (by omega)
    rw [Addr.add_mid] at h1
    rw [h1]
    simp [List.getD_eq_getElem?_getD, hj]
end
end Go.Proofs.Ythphcidpdjopeaa
