/-
  What comes in: a slice of signatures; a slice of bytes. No condition beyond the form's own.
-/
import Derived.Test.YtofadlenblobnaaTOpen
import Derived.Test.YtofadlenblobnaaYSig
import Derived.Test.YtofadlenblobnaaCMem
namespace Go.Proofs.Ytofadlenblobnaa
open Go.Joins Go.RowKit Go.ChangeShapes Go.WideShapes Go.ChangeAt Go.Deep Tre
set_option maxRecDepth 100000
namespace Exp
open Typ
open Cod (Byts byt)
section
variable {H : Type} {enc : TypeId × Value → H} {w : World} {base : Nat} {spare : Nat → Bool} {held : Bool}
def Byte (t : Int) : Prop := 0 ≤ t ∧ t ≤ 255
theorem byte_wf {a : Int} (h : (Lit.int .u8 a).wf = true) : Byte a := by simpa [Byte, Lit.wf, IntKind.min, IntKind.max, IntKind.signed, IntKind.bits] using h
theorem cellsU : Try.prog.cellsOf 5 = 1 := by kernel_rfl
theorem cellsG : Try.prog.cellsOf 37 = 3 := by kernel_rfl
theorem cellsLT : Try.prog.cellsOf 34 = 1 := by kernel_rfl
theorem open_ty (fuel : Nat) (cs : List Value) (x : DataW H × List MemPlace) (h : DataW.trod enc Try.prog w base spare held fuel 35 cs = some x) : ∃ t : Int, cs = tyC t ∧ Byte t := by
  obtain ⟨n1, g1, _, h1⟩ := DataW.trod_int Try.underlying35 h
  exact ⟨n1, g1, byte_wf h1⟩
/-- A signature that came in. -/
def SgR (w : World) (g : Sg) : Prop := SgIn w g ∧ Byte g.r ∧ ∀ t ∈ g.p, Byte t
theorem open_sig (fuel : Nat) (cs : List Value) (x : DataW H × List MemPlace) (h : DataW.trod enc Try.prog w base spare held fuel 37 cs = some x) : ∃ g : Sg, cs = sgC g ∧ SgR w g := by
  obtain ⟨ys, n, hfu, _, hcl, hyl, hf⟩ := DataW.trod_struct Try.underlying37 h
  rw [cellsG] at hcl
  have hyl3 : ys.length = 3 := hyl
  have f0 : DataW.trod enc Try.prog w base spare held n 9 ((cs.drop 0).take (Try.prog.cellsOf 9)) = ys[0]? := hf 0 _ rfl
  have f1 : DataW.trod enc Try.prog w base spare held n 34 ((cs.drop 1).take (Try.prog.cellsOf 34)) = ys[1]? := hf 1 _ rfl
  have f2 : DataW.trod enc Try.prog w base spare held n 35 ((cs.drop 2).take (Try.prog.cellsOf 35)) = ys[2]? := hf 2 _ rfl
  rw [cellsStr] at f0
  rw [cellsLT] at f1
  rw [cellsTy] at f2
  match cs, hcl with
  | [c0, c1, c2], _ =>
    simp only [List.drop, List.take] at f0 f1 f2
    rw [List.getElem?_eq_getElem (by omega)] at f0 f1 f2
    obtain ⟨s0, g0, _, l0⟩ := DataW.trod_string Try.underlying9 f0
    obtain ⟨a, c, l, e1, hrow, hlm, _, hq⟩ := open_row (0 : Int) Try.underlying34 cellsTy (by decide) (fun x => rfl) f1 (fun m cs y _ hy => open_ty m cs y hy)
    obtain ⟨n2, g2, _, h2⟩ := DataW.trod_int Try.underlying35 f2
    injection g0 with g0
    injection g2 with g2
    subst g0 e1 g2
    exact ⟨⟨s0, a, c, l, n2⟩, rfl, ⟨hrow, hlm, l0⟩, byte_wf h2, hq⟩
/-- A row of signatures, by value. -/
theorem open_sigs {r : Reach} {b0 : Nat} {v : Value} {d : DataW H} {p : List MemPlace} (hv : Value.okWide Try.prog w r b0 22 v) (h : DataW.Trod enc Try.prog w base spare held 22 v d p) :
    ∃ (a : Option Addr) (c : Nat) (l : List Sg), v = .slice a l.length c ∧ Row 3 sgC w a l ∧ l.length ≤ most ∧ ∀ g ∈ l, SgR w g := by
  obtain ⟨A, n, c, rfl⟩ := okWide_slice Try.underlying22 hv
  obtain ⟨fuel, h⟩ := h
  obtain ⟨a, c', l, e, hr, h1, _, h2⟩ := open_row (⟨⟨#[]⟩, none, 0, [], 0⟩ : Sg) Try.underlying22 cellsG (by decide) (fun x => rfl) h (fun m cs y _ hy => open_sig m cs y hy)
  exact ⟨a, c', l, e, hr, h1, h2⟩
def bytC (x : UInt8) : List Value := [byt x]
theorem open_byte (fuel : Nat) (cs : List Value) (x : DataW H × List MemPlace) (h : DataW.trod enc Try.prog w base spare held fuel 5 cs = some x) : ∃ t : UInt8, cs = bytC t ∧ True := by
  obtain ⟨n1, g1, _, h1⟩ := DataW.trod_int Try.underlying5 h
  have hb := byte_wf h1
  unfold Byte at hb
  refine ⟨UInt8.ofNat n1.toNat, ?_, trivial⟩
  rw [g1]
  unfold bytC byt
  have e : ((UInt8.ofNat n1.toNat).toNat : Int) = n1 := by
    rw [UInt8.toNat_ofNat']
    omega
  rw [e]
/-- Bytes, by value. -/
theorem open_bytes {r : Reach} {b0 : Nat} {v : Value} {d : DataW H} {p : List MemPlace} (hv : Value.okWide Try.prog w r b0 23 v) (h : DataW.Trod enc Try.prog w base spare held 23 v d p) :
    ∃ (a : Option Addr) (c : Nat) (l : List UInt8), v = .slice a l.length c ∧ Byts w w.heap.size a l.length l ∧ l.length ≤ most ∧ l.length ≤ c ∧ c ≤ maxLen := by
  obtain ⟨A, n, c, rfl⟩ := okWide_slice Try.underlying23 hv
  obtain ⟨fuel, h⟩ := h
  have hcm : c ≤ maxLen := by
    rcases DataW.trod_slice Try.underlying23 h with ⟨e1, _⟩ | ⟨a, len, cap, elems, rest, n, hf, e1, _, _, hlc, hcm, _⟩
    · injection e1 with e1
      injection e1 with _ _ e3
      rw [e3]
      exact Nat.zero_le _
    · injection e1 with e1
      injection e1 with _ _ e3
      rw [e3]
      exact hcm
  obtain ⟨a, c', l, e, hr, h1, hlc, _⟩ := open_row (0 : UInt8) Try.underlying23 cellsU (by decide) (fun x => rfl) h (fun m cs y _ hy => open_byte m cs y hy)
  refine ⟨a, c', l, e, ⟨rfl, fun h0 => ?_⟩, h1, hlc, by injection e with _ _ e3; rw [← e3]; exact hcm⟩
  obtain ⟨b, o, e2, hlt, hc⟩ := hr h0
  refine ⟨b, o, e2, hlt, fun j hj => ?_⟩
  have := hc j (l.getD j 0) (by simp [List.getD_eq_getElem?_getD, hj]) 0 (byt (l.getD j 0)) rfl
  simpa using this
end
end Exp
end Go.Proofs.Ytofadlenblobnaa
