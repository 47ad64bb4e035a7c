/-
  Keys, what may end a statement, names; what stands before the first quote. No condition but the texts' sizes.
-/
import Derived.Test.YtofadlenblobnaaLMem
import Derived.BigQuiet
import Derived.Deep.QuietTactic
namespace Go.Proofs.Ytofadlenblobnaa.Lex
open Go.RowKit
open Num (EndsW)
set_option maxRecDepth 100000
theorem bs_toList (l : List UInt8) : (bs l).toList = l := ByteArray.toList_mk l
set_option maxHeartbeats 4000000 in
theorem key_any (s : List UInt8) (w : World) : Calls Try.prog 49 #[.string (bs s)] w (EndsW (.bool (keyB s)) w) := by
  obtain ⟨S, hS, hk⟩ : ∃ S : ByteArray, S = bs s ∧ keyB s = keysL.contains S.toList := ⟨_, rfl, by rw [bs_toList]; rfl⟩
  rw [hk, ← hS]
  clear hk hS
  go_enter Try.func49, Try.ntmps49
  go_wp2
  all_goals go_ret
  all_goals exact ends_bool (by simp_all [keysL])
end Go.Proofs.Ytofadlenblobnaa.Lex
