/-
  The library's Equal over lists of parameters, and over lists of texts. Conditions: both lists lie in memory.
-/
import Derived.Test.YtofadlenblobnaaTSame2
namespace Go.Proofs.Ytofadlenblobnaa.Tre
open Go.RowKit
set_option maxRecDepth 100000
theorem below_drewN (w : World) (m : Nat) : Below w.heap.size w (w.drewN m) := ⟨rfl, rfl, rfl, Nat.le_refl _, fun _ _ => rfl⟩
theorem parC_at {e : Par} {w : World} {b o : Nat} (h : ∀ (r : Nat) (u : Value), (parC e)[r]? = some u → w.cell? ⟨b, o + r, none⟩ = some u) :
    w.cell? ⟨b, o, none⟩ = some (.string e.s) ∧ w.cell? ⟨b, o + 1, none⟩ = some (.int .u8 e.t) := ⟨h 0 _ rfl, h 1 _ rfl⟩
end Go.Proofs.Ytofadlenblobnaa.Tre
