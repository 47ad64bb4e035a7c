/-
  What the document's Crc and Fnv answer: the plain sums, for every list of bytes; nothing in memory is touched. Conditions: the slice reads as bytes; it is shorter than a slice can be.
-/
import Derived.Test.YtpbojepliddflaaSWalks
namespace Go.Proofs.Ytpbojepliddflaa.Sum
open Go.RowKit Sums
set_option maxRecDepth 100000
set_option maxHeartbeats 400000 in
theorem rcrc_some (b off n c : Nat) (xs : List Nat) (w : World) (hr : Row w b off n xs) (hn : n ≤ 140737488355328) :
    Calls Try.prog 38 #[.slice (some ⟨b, off, none⟩) n c] w (Ends (.int .u32 (crc xs)) w) := by
  have HR := Lib.hid hr
  clear hr
  go_enter Try.func38, Try.ntmps38
  go_wp2
  go_loop [3, 4] (fun r i => ∃ k : Nat, k ≤ 8 * n ∧ i = .int .i64 k ∧ r = .int .u32 (crcN 4294967295 (bitAt xs) k : Nat)) (fun _ i => 8 * n - (intOf i).toNat)
  case atStart => exact ⟨0, by omega, rfl, rfl⟩
  case round =>
    obtain ⟨k, hk, rfl, rfl⟩ := hrel
    by_cases hlt : k < 8 * n
    · have hd : k / 8 < n := by omega
      have hc := HR.out.cell (k / 8) hd
      have hb := HR.out.byte (k / 8)
      have HX : Hid (bitAt xs k = xs.getD (k / 8) 0 / 2 ^ (k % 8) % 2) := Lib.hid rfl
      generalize xs.getD (k / 8) 0 = x at *
      go_wp2
      all_goals
        go_round
        case rel =>
          refine ⟨k + 1, by omega, by go_num, ?_⟩
          first
            | (rw [ref_step_yes _ _ _ (crcN_lt (by omega) (fun i => bitAt_lt xs i) _) hb (by assumption), ← HX.out]; rfl)
            | (rw [ref_step_no _ _ _ (crcN_lt (by omega) (fun i => bitAt_lt xs i) _) hb (by assumption), ← HX.out]; rfl)
        case measure => simp [intOf]; omega
    · obtain rfl : k = 8 * n := by omega
      go_wp2
      go_ret
      exact ret32 (by rw [xor_max _ (crcN_lt (by omega) (fun i => bitAt_lt xs i) _)]; unfold crc more; rw [HR.out.len])
set_option maxHeartbeats 400000 in
theorem rcrc_none (c : Nat) (A : Option Addr) (w : World) : Calls Try.prog 38 #[.slice A 0 c] w (Ends (.int .u32 (crc [])) w) := by
  go_enter Try.func38, Try.ntmps38
  go_wp2
  go_loop [3, 4] (fun r i => i = .int .i64 0 ∧ r = .int .u32 4294967295) (fun _ _ => 0)
  case atStart => exact ⟨rfl, rfl⟩
  case round =>
    obtain ⟨rfl, rfl⟩ := hrel
    go_wp2
    go_ret
    exact ret32 rfl
end Go.Proofs.Ytpbojepliddflaa.Sum
