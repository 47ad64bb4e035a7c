/-
  The library's Equal over lists of parameters, and over lists of texts. Conditions: both lists lie in memory.
-/
import Derived.Test.YtbhgbgaeaejnhaaTSame2
namespace Go.Proofs.Ytbhgbgaeaejnhaa.Tre
open Go.RowKit
set_option maxRecDepth 100000
theorem below_drewN (w : World) (m : Nat) : Below w.heap.size w (w.drewN m) := ⟨rfl, rfl, rfl, Nat.le_refl _, fun _ _ => rfl⟩
theorem parC_at {e : Par} {w : World} {b o : Nat} (h : ∀ (r : Nat) (u : Value), (parC e)[r]? = some u → w.cell? ⟨b, o + r, none⟩ = some u) :
    w.cell? ⟨b, o, none⟩ = some (.string e.s) ∧ w.cell? ⟨b, o + 1, none⟩ = some (.int .u8 e.t) := ⟨h 0 _ rfl, h 1 _ rfl⟩
theorem par_neq (a b : ByteArray) (s t : Int) (w : World) : (binOp .neq 64 (.agg #[.string a, .int .u8 s]) (.agg #[.string b, .int .u8 t])).run Try.prog w = .ok (.bool (!(a.toList == b.toList && s == t))) w := by
  have u9 := Try.underlying9
  have u33 : Try.prog.underlying 31 = some (.int .u8) := by kernel_rfl
  have a9 := Try.isAgg9
  have a33 := Try.isAgg31
  have z9 := Try.sizeOf9
  have z33 := Try.sizeOf31
  have hS : Try.prog.underlying 64 = some (.struct (Try.prog.fieldsOf 64)) := by kernel_rfl
  have hp : Try.prog.stoodInHeld 64 = false := by kernel_rfl
  rw [run_neq_struct, show (10000 : Nat) = 9999 + 1 from rfl, run_equalIn_agg w 9999 64 _ _ hS hp]
  simp only [Program.fieldsOf, Try.underlying64]
  go_simp
  by_cases h1 : a.toList = b.toList <;> by_cases h2 : s = t <;> simp [h1, h2]
theorem par_guard (op : BinOp) (x y : Operand) (xs ys : Array Value) (w : World) : (eqGuard op 64 x y (.agg xs) (.agg ys)).run Try.prog w = .ok () w := run_eqGuard_agg w op _ x y xs ys (by kernel_rfl)
end Go.Proofs.Ytbhgbgaeaejnhaa.Tre
