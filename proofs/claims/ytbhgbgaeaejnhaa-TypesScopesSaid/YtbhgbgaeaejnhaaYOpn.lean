/-
  What comes in: acts; types. No condition.
-/
import Derived.Test.YtbhgbgaeaejnhaaTOpen
import Derived.Test.YtbhgbgaeaejnhaaYSig
namespace Go.Proofs.Ytbhgbgaeaejnhaa
open Go.Joins Go.RowKit Go.ChangeShapes Go.WideShapes Go.ChangeAt Go.Deep Tre
set_option maxRecDepth 100000
namespace Typ
section
variable {H : Type} {enc : TypeId × Value → H} {w : World} {base : Nat} {spare : Nat → Bool} {held : Bool}
/-- An act. -/
structure Ac where
  k : Int
  s : ByteArray
  t : Int
def acC (a : Ac) : List Value := [.int .i64 a.k, .string a.s, .int .u8 a.t]
theorem cellsAc : Try.prog.cellsOf 55 = 3 := by kernel_rfl
theorem open_act (fuel : Nat) (cs : List Value) (x : DataW H × List MemPlace) (h : DataW.trod enc Try.prog w base spare held fuel 55 cs = some x) : ∃ a : Ac, cs = acC a ∧ a.s.size ≤ maxLen := by
  obtain ⟨ys, n, hfu, _, hcl, hyl, hf⟩ := DataW.trod_struct Try.underlying55 h
  rw [cellsAc] at hcl
  have hyl5 : ys.length = 3 := hyl
  have f0 : DataW.trod enc Try.prog w base spare held n 3 ((cs.drop 0).take (Try.prog.cellsOf 3)) = ys[0]? := hf 0 _ rfl
  have f1 : DataW.trod enc Try.prog w base spare held n 9 ((cs.drop 1).take (Try.prog.cellsOf 9)) = ys[1]? := hf 1 _ rfl
  have f2 : DataW.trod enc Try.prog w base spare held n 31 ((cs.drop 2).take (Try.prog.cellsOf 31)) = ys[2]? := hf 2 _ rfl
  rw [cellsI] at f0
  rw [cellsStr] at f1
  rw [cellsTy] at f2
  match cs, hcl with
  | [c0, c1, c2], _ =>
    simp only [List.drop, List.take] at f0 f1 f2
    rw [List.getElem?_eq_getElem (by omega)] at f0 f1 f2
    obtain ⟨n0, g0, _, _⟩ := DataW.trod_int Try.underlying3 f0
    obtain ⟨s0, g1, _, l0⟩ := DataW.trod_string Try.underlying9 f1
    obtain ⟨n1, g2, _, _⟩ := DataW.trod_int Try.underlying31 f2
    injection g0 with g0
    injection g1 with g1
    injection g2 with g2
    subst g0 g1 g2
    exact ⟨⟨n0, s0, n1⟩, rfl, l0⟩
/-- A row of acts, by value. -/
theorem open_acts {r : Reach} {b0 : Nat} {v : Value} {d : DataW H} {p : List MemPlace} (hv : Value.okWide Try.prog w r b0 44 v) (h : DataW.Trod enc Try.prog w base spare held 44 v d p) :
    ∃ (a : Option Addr) (c : Nat) (l : List Ac), v = .slice a l.length c ∧ Row 3 acC w a l ∧ l.length ≤ most ∧ l.length ≤ c ∧ ∀ z ∈ l, z.s.size ≤ maxLen := by
  obtain ⟨A, n, c, rfl⟩ := okWide_slice Try.underlying44 hv
  obtain ⟨fuel, h⟩ := h
  exact open_row (⟨0, ⟨#[]⟩, 0⟩ : Ac) Try.underlying44 cellsAc (by decide) (fun x => rfl) h (fun m cs y _ hy => open_act m cs y hy)
theorem open_ty (fuel : Nat) (cs : List Value) (x : DataW H × List MemPlace) (h : DataW.trod enc Try.prog w base spare held fuel 31 cs = some x) : ∃ t : Int, cs = tyC t ∧ True := by
  obtain ⟨n1, g1, _, _⟩ := DataW.trod_int Try.underlying31 h
  exact ⟨n1, g1, trivial⟩
/-- A row of types, by value. -/
theorem open_tys {r : Reach} {b0 : Nat} {v : Value} {d : DataW H} {p : List MemPlace} (hv : Value.okWide Try.prog w r b0 26 v) (h : DataW.Trod enc Try.prog w base spare held 26 v d p) :
    ∃ (a : Option Addr) (c : Nat) (l : List Int), v = .slice a l.length c ∧ Row 1 tyC w a l ∧ l.length ≤ most ∧ l.length ≤ c := by
  obtain ⟨A, n, c, rfl⟩ := okWide_slice Try.underlying26 hv
  obtain ⟨fuel, h⟩ := h
  obtain ⟨a, c', l, e, hr, h1, h2, _⟩ := open_row (0 : Int) Try.underlying26 cellsTy (by decide) (fun x => rfl) h (fun m cs y _ hy => open_ty m cs y hy)
  exact ⟨a, c', l, e, hr, h1, h2⟩
end
end Typ
end Go.Proofs.Ytbhgbgaeaejnhaa
