/-
  What the program's call Pure answers: the document's answer.
-/
import Derived.Test.YtmkhmenolcjigaaDoorPure
namespace Go.Proofs.YtmkhmenolcjigaaDoor
open Go.RowKit

theorem pure_one_two (op : Int) (h1 : op ≠ 1) (h18 : op ≠ 18) : ((one op 0).2 || (two op 0 0).2) = pure op := by
  rw [Bool.eq_iff_iff]
  simp only [one, two, pure, pures, List.contains_cons, List.contains_nil, Bool.or_eq_true, beq_iff_eq, Bool.or_false]
  by_cases h : op < 5 ∨ 13 < op
  · rw [if_pos h]
    by_cases h2 : op = 2
    · simp [h2]
    by_cases h3 : op = 3
    · simp [h3]
    by_cases h4 : op = 4
    · simp [h4]
    simp [h2, h3, h4, h1, h18]
    omega
  · obtain rfl | rfl | rfl | rfl | rfl | rfl | rfl | rfl | rfl : op = 5 ∨ op = 6 ∨ op = 7 ∨ op = 8 ∨ op = 9 ∨ op = 10 ∨ op = 11 ∨ op = 12 ∨ op = 13 := by omega
    all_goals simp
theorem pure_any (op : Int) (w : World) : Calls Tryd.prog 10 #[.int .i64 op] w (Ends (.bool (pure op)) w) := by
  by_cases h1 : op = 1
  · subst h1
    go_enter Tryd.func10, Tryd.ntmps10
    go_wp2
    go_ret
    exact ⟨rfl, rfl⟩
  by_cases h18 : op = 18
  · subst h18
    go_enter Tryd.func10, Tryd.ntmps10
    go_wp2
    go_ret
    exact ⟨rfl, rfl⟩
  have H := Lib.hid (pure_one_two op h1 h18)
  have b1 : (op == 1) = false := by simpa using h1
  have b18 : (op == 18) = false := by simpa using h18
  clear h1 h18
  unfold pair at *
  have c1 := one_any op 0 w
  have c2 := two_any op 0 0 w
  unfold pair at c1 c2
  have C1 := Lib.hid c1
  have C2 := Lib.hid c2
  clear c1 c2
  generalize one op 0 = x at *
  generalize two op 0 0 = y at *
  obtain ⟨x1, x2⟩ := x
  obtain ⟨y1, y2⟩ := y
  go_enter Tryd.func10, Tryd.ntmps10
  cases x2
  · go_wp2_with (first | (go_at_call 8; refine C1.out.mono ?_; rintro e w' ⟨rfl, rfl⟩) | (go_at_call 6; refine C2.out.mono ?_; rintro e w' ⟨rfl, rfl⟩))
    go_ret
    exact ⟨by rw [← H.out]; rfl, rfl⟩
  · go_wp2_with (first | (go_at_call 8; refine C1.out.mono ?_; rintro e w' ⟨rfl, rfl⟩) | (go_at_call 6; refine C2.out.mono ?_; rintro e w' ⟨rfl, rfl⟩))
    go_ret
    exact ⟨by rw [← H.out]; rfl, rfl⟩
end Go.Proofs.YtmkhmenolcjigaaDoor
