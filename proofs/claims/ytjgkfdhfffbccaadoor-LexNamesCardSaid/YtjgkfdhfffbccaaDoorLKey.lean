/-
  Keys, what may end a statement, names; what stands before the first quote. No condition but the texts' sizes.
-/
import Derived.Test.YtjgkfdhfffbccaaDoorLTake
namespace Go.Proofs.YtjgkfdhfffbccaaDoor.Lex
open Go.RowKit
open Num (EndsW)
set_option maxRecDepth 100000
theorem bs_toList (l : List UInt8) : (bs l).toList = l := ByteArray.toList_mk l
set_option maxHeartbeats 4000000 in
theorem key_any (s : List UInt8) (w : World) : Calls Tryd.prog 6 #[.string (bs s)] w (EndsW (.bool (keyB s)) w) := by
  obtain ⟨S, hS, hk⟩ : ∃ S : ByteArray, S = bs s ∧ keyB s = keysL.contains S.toList := ⟨_, rfl, by rw [bs_toList]; rfl⟩
  rw [hk, ← hS]
  clear hk hS
  go_enter Tryd.func6, Tryd.ntmps6
  go_wp2
  all_goals go_ret
  all_goals exact ends_bool (by simp_all [keysL])
set_option maxHeartbeats 4000000 in
/-- A word in memory of its own. -/
theorem may_any (x : Wd) (w : World) : Calls Tryd.prog 40 #[wdV x] w (EndsB (.bool (mayB x)) w) := by
  obtain ⟨k, s, n⟩ := x
  unfold wdV
  dsimp only
  have hb := Lib.hid ((Below.refl _ w).alloc (Nat.le_refl _) (.cells #[.int .i64 k, .string (bs s), .int .i64 n] 23))
  have hz := heap_alloc_new w (.cells #[.int .i64 k, .string (bs s), .int .i64 n] 23 (0, 0))
  have z0 := cell_at hz 0
  have z1 := cell_at hz 1
  clear hz
  by_cases h1 : k = 1
  · subst h1
    go_enter Tryd.func40, Tryd.ntmps40
    go_wp2
    go_ret
    exact ⟨rfl, hb.out⟩
  by_cases h2 : k = 2
  · subst h2
    go_enter Tryd.func40, Tryd.ntmps40
    go_wp2
    go_ret
    exact ⟨rfl, hb.out⟩
  by_cases h3 : k = 3
  · subst h3
    go_enter Tryd.func40, Tryd.ntmps40
    go_wp2
    go_ret
    exact ⟨rfl, hb.out⟩
  have HM := Lib.hid (show mayB ⟨k, s, n⟩ = endsL.contains (bs s).toList by rw [bs_toList]; simp [mayB, h1, h2, h3])
  have g1 : (k == 1) = false := by simpa using h1
  have g2 : (k == 2) = false := by simpa using h2
  have g3 : (k == 3) = false := by simpa using h3
  clear h1 h2 h3
  go_enter Tryd.func40, Tryd.ntmps40
  generalize bs s = S at *
  go_wp2
  all_goals go_ret
  all_goals exact ⟨by show Ending.returned (Value.bool _) = Ending.returned (Value.bool _); rw [HM.out]; clear HM z0 z1 hb g1 g2 g3; congr 2; simp_all [endsL], hb.out⟩
end Go.Proofs.YtjgkfdhfffbccaaDoor.Lex
