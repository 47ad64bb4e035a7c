/-
  A word that comes in, by value.
-/
import Derived.Test.YtjgkfdhfffbccaaDoorCards
import Derived.Test.YtjgkfdhfffbccaaDoorTie
import Derived.Test.YtjgkfdhfffbccaaDoorLBase
import Derived.Lib.SmallJoins
import Derived.WalkKit
import Derived.ProofKit
import Derived.OpenShut
import Derived.Deep.DeepHandedRow
import Derived.Lib.LaidTab
namespace Go.Proofs.YtjgkfdhfffbccaaDoor
open Go.Joins Go.ChangeShapes Go.WideShapes Go.ChangeAt Go.ChangeMaps Go.WideMaps Go.WideElems Go.RowKit

section
variable {H : Type} {enc : TypeId × Value → H} {w : World} {base : Nat} {spare : Nat → Bool} {held : Bool}
theorem open_word {r : Reach} {b0 : Nat} {v : Value} {d : DataW H} {p : List MemPlace} (hv : Value.okWide Tryd.prog w r b0 23 v) (h : DataW.Trod enc Tryd.prog w base spare held 23 v d p) :
    ∃ m : Int × ByteArray × Int, v = .agg #[.int .i64 m.1, .string m.2.1, .int .i64 m.2.2] ∧ m.2.2 ≤ 9223372036854775807 := by
  obtain ⟨v0, v1, v2, y0, y1, y2, n, rfl, _, _, t0, t1, t2⟩ := open_agg3 Tryd.underlying23 (by kernel_rfl) (by kernel_rfl) hv h
  obtain ⟨s0, g0, _, _⟩ := DataW.trod_int Tryd.underlying3 t0
  obtain ⟨s1, g1, _, _⟩ := DataW.trod_string Tryd.underlying9 t1
  obtain ⟨s2, g2, _, w2⟩ := DataW.trod_int Tryd.underlying2 t2
  injection g0 with g0
  injection g1 with g1
  injection g2 with g2
  subst g0 g1 g2
  exact ⟨⟨s0, s1, s2⟩, rfl, (fits w2).2⟩
end
end Go.Proofs.YtjgkfdhfffbccaaDoor
