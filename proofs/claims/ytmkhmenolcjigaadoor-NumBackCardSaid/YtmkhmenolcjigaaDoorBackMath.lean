/-
  Quotients and what is left of them, in 64 bits. No program in this text.
-/
import Derived.RowKit
namespace Go.Proofs.YtmkhmenolcjigaaDoor
open Go.RowKit

theorem wrap64_shift (z j : Int) : wrap64 (z - 18446744073709551616 * j) = wrap64 z := by unfold wrap64; omega
theorem wrap64_is (x : Int) : ∃ j, wrap64 x = x - 18446744073709551616 * j := ⟨(x + 9223372036854775808) / 18446744073709551616, by unfold wrap64; omega⟩
theorem wrap64_fits (n : Int) (h0 : -9223372036854775808 ≤ n) (h1 : n ≤ 9223372036854775807) : wrap64 n = n := by unfold wrap64; omega
theorem back (n b : Int) (h0 : -9223372036854775808 ≤ n) (h1 : n ≤ 9223372036854775807) : wrap64 (wrap64 (wrap64 (n.tdiv b) * b) + n.tmod b) = n := by
  obtain ⟨j, hj⟩ := wrap64_is (n.tdiv b)
  obtain ⟨i, hi⟩ := wrap64_is (wrap64 (n.tdiv b) * b)
  rw [hi, hj]
  have e : (n.tdiv b - 18446744073709551616 * j) * b - 18446744073709551616 * i + n.tmod b = n - 18446744073709551616 * (j * b + i) := by
    have := Int.tdiv_mul_add_tmod n b
    rw [Int.sub_mul, Int.mul_add, Int.mul_assoc]
    omega
  rw [e, wrap64_shift, wrap64_fits n h0 h1]
theorem left_pos (n b : Int) (hb : 0 < b) : -b < n.tmod b ∧ n.tmod b < b := ⟨Int.lt_tmod_of_pos n hb, Int.tmod_lt_of_pos n hb⟩
theorem left_neg (n b : Int) (hb : b < 0) : b < n.tmod b ∧ n.tmod b < -b := by
  have := left_pos n (-b) (by omega)
  rw [Int.tmod_neg] at this
  omega
theorem left_sign (n b : Int) : (0 < n.tmod b → 0 < n) ∧ (n.tmod b < 0 → n < 0) := by
  refine ⟨fun h => ?_, fun h => ?_⟩
  · apply Classical.byContradiction
    intro hn
    have h2 : 0 ≤ (-n).tmod b := Int.tmod_nonneg b (by omega)
    rw [Int.neg_tmod] at h2
    omega
  · apply Classical.byContradiction
    intro hn
    have h2 : 0 ≤ n.tmod b := Int.tmod_nonneg b (by omega)
    omega
end Go.Proofs.YtmkhmenolcjigaaDoor
