/-
  TypesScopes, whole.
-/
import Derived.Test.YtbhgbgaeaejnhaaZScopes
namespace Go.Proofs.Ytbhgbgaeaejnhaa.Typ
open Go.RowKit Tre
set_option maxRecDepth 100000
theorem typesScopes_any {w : World} {A : Option Addr} {c : Nat} {l : List Ac} (hr : Row 3 acC w A l) (hl : l.length ≤ most) (hs : ∀ z ∈ l, z.s.size ≤ maxLen) :
    Calls Try.prog 4 #[.slice A l.length c] w (fun e w' => e = .returned (.bool true) ∧ Below w.heap.size w w') := by
  by_cases h : 100 < l.length
  · exact scopes_many h (by unfold most at hl; omega)
  · exact scopes_few hr rfl (by omega) hs
end Go.Proofs.Ytbhgbgaeaejnhaa.Typ
