/-
  What the calls Two, One and Pure of the program and of the document answer: one function of each, for every argument. Conditions: the arguments are integers of their kinds.
-/
import Derived.Test.YtmkhmenolcjigaaDoorRows
import Derived.WalkKit
import Derived.WalkSpells
import Derived.WalkLawsBesides
import Derived.Lib.Hide
namespace Go.Proofs.YtmkhmenolcjigaaDoor
open Go.RowKit

/-- What a call that only reckons comes to. -/
def Ends (v : Value) (w : World) (e : Ending) (w' : World) : Prop := e = .returned v ∧ w = w'
def pair (n : Int) (b : Bool) : Value := .tuple #[.int .i64 n, .bool b]
theorem ends_pair {n m : Int} {b : Bool} {w : World} (h : n = m) : Ends (pair m b) w (.returned (.tuple #[.int .i64 n, .bool b])) w := by subst h; exact ⟨rfl, rfl⟩
def b2i (b : Bool) : Int := if b then 1 else 0

theorem truth_any (b : Bool) (w : World) : Calls Tryd.prog 17 #[.bool b] w fun e w' => e = .returned (.int .i64 (b2i b)) ∧ w = w' := by
  cases b
  · go_enter Tryd.func17, Tryd.ntmps17
    go_wp2
    go_ret
    exact ⟨rfl, rfl⟩
  · go_enter Tryd.func17, Tryd.ntmps17
    go_wp2
    go_ret
    exact ⟨rfl, rfl⟩
theorem bit_any (b : Bool) (w : World) : Calls Tryd.prog 18 #[.bool b] w fun e w' => e = .returned (.int .i64 (b2i b)) ∧ w = w' := by
  cases b
  · go_enter Tryd.func18, Tryd.ntmps18
    go_wp2
    go_ret
    exact ⟨rfl, rfl⟩
  · go_enter Tryd.func18, Tryd.ntmps18
    go_wp2
    go_ret
    exact ⟨rfl, rfl⟩
theorem sub_wrap (a b : Int) : wrap64 (a + wrap64 (-b)) = wrap64 (a - b) := by unfold wrap64; omega

theorem two_mul (a b : Int) (w : World) : Calls Tryd.prog 6 #[.int .i64 5, .int .i64 a, .int .i64 b] w (Ends (pair (wrap64 (a * b)) true) w) := by
  go_enter Tryd.func6, Tryd.ntmps6
  go_wp2
  go_ret2
  exact ends_pair rfl
theorem two_add (a b : Int) (w : World) : Calls Tryd.prog 6 #[.int .i64 8, .int .i64 a, .int .i64 b] w (Ends (pair (wrap64 (a + b)) true) w) := by
  go_enter Tryd.func6, Tryd.ntmps6
  go_wp2
  go_ret2
  exact ends_pair rfl
theorem two_sub (a b : Int) (w : World) : Calls Tryd.prog 6 #[.int .i64 9, .int .i64 a, .int .i64 b] w (Ends (pair (wrap64 (a - b)) true) w) := by
  go_enter Tryd.func6, Tryd.ntmps6
  go_wp2
  go_ret2
  exact ends_pair (sub_wrap a b)
theorem two_div (a b : Int) (hb : ¬ b = 0) (w : World) : Calls Tryd.prog 6 #[.int .i64 6, .int .i64 a, .int .i64 b] w (Ends (pair (wrap64 (a.tdiv b)) true) w) := by
  have hb' : (b == 0) = false := by simpa using hb
  go_enter Tryd.func6, Tryd.ntmps6
  go_wp2
  go_ret2
  exact ends_pair rfl
theorem two_div0 (a : Int) (w : World) : Calls Tryd.prog 6 #[.int .i64 6, .int .i64 a, .int .i64 0] w (Ends (pair 0 false) w) := by
  go_enter Tryd.func6, Tryd.ntmps6
  go_wp2
  go_ret2
  exact ends_pair rfl
theorem two_rem (a b : Int) (hb : ¬ b = 0) (w : World) : Calls Tryd.prog 6 #[.int .i64 7, .int .i64 a, .int .i64 b] w (Ends (pair (a.tmod b) true) w) := by
  have hb' : (b == 0) = false := by simpa using hb
  go_enter Tryd.func6, Tryd.ntmps6
  go_wp2
  go_ret2
  exact ends_pair rfl
theorem two_rem0 (a : Int) (w : World) : Calls Tryd.prog 6 #[.int .i64 7, .int .i64 a, .int .i64 0] w (Ends (pair 0 false) w) := by
  go_enter Tryd.func6, Tryd.ntmps6
  go_wp2
  go_ret2
  exact ends_pair rfl
theorem two_eq (a b : Int) (w : World) : Calls Tryd.prog 6 #[.int .i64 10, .int .i64 a, .int .i64 b] w (Ends (pair (b2i (a == b)) true) w) := by
  go_enter Tryd.func6, Tryd.ntmps6
  go_wp2_with (go_at_call 17; refine (truth_any _ _).mono ?_; rintro e w' ⟨rfl, rfl⟩)
  go_ret2
  exact ends_pair rfl
theorem two_ne (a b : Int) (w : World) : Calls Tryd.prog 6 #[.int .i64 11, .int .i64 a, .int .i64 b] w (Ends (pair (b2i (a != b)) true) w) := by
  go_enter Tryd.func6, Tryd.ntmps6
  go_wp2_with (go_at_call 17; refine (truth_any _ _).mono ?_; rintro e w' ⟨rfl, rfl⟩)
  go_ret2
  exact ends_pair rfl
theorem two_lt (a b : Int) (w : World) : Calls Tryd.prog 6 #[.int .i64 12, .int .i64 a, .int .i64 b] w (Ends (pair (b2i (decide (a < b))) true) w) := by
  go_enter Tryd.func6, Tryd.ntmps6
  go_wp2_with (go_at_call 17; refine (truth_any _ _).mono ?_; rintro e w' ⟨rfl, rfl⟩)
  go_ret2
  exact ends_pair rfl
theorem two_le (a b : Int) (w : World) : Calls Tryd.prog 6 #[.int .i64 13, .int .i64 a, .int .i64 b] w (Ends (pair (b2i (decide (a ≤ b))) true) w) := by
  by_cases h : a = b
  · subst h
    go_enter Tryd.func6, Tryd.ntmps6
    go_wp2
    go_ret2
    exact ends_pair (by simp [b2i])
  · have h' : (a == b) = false := by simpa using h
    have hd : decide (a < b) = decide (a ≤ b) := by rw [decide_eq_decide]; omega
    have H := Lib.hid hd
    clear hd
    go_enter Tryd.func6, Tryd.ntmps6
    go_wp2_with (go_at_call 17; refine (truth_any _ _).mono ?_; rintro e w' ⟨rfl, rfl⟩)
    go_ret2
    exact ends_pair (by rw [H.out])
theorem two_no (op a b : Int) (h : op < 5 ∨ 13 < op) (w : World) : Calls Tryd.prog 6 #[.int .i64 op, .int .i64 a, .int .i64 b] w (Ends (pair 0 false) w) := by
  have h5 : (op == 5) = false := by rw [beq_eq_false_iff_ne]; omega
  have h6 : (op == 6) = false := by rw [beq_eq_false_iff_ne]; omega
  have h7 : (op == 7) = false := by rw [beq_eq_false_iff_ne]; omega
  have h8 : (op == 8) = false := by rw [beq_eq_false_iff_ne]; omega
  have h9 : (op == 9) = false := by rw [beq_eq_false_iff_ne]; omega
  have h10 : (op == 10) = false := by rw [beq_eq_false_iff_ne]; omega
  have h11 : (op == 11) = false := by rw [beq_eq_false_iff_ne]; omega
  have h12 : (op == 12) = false := by rw [beq_eq_false_iff_ne]; omega
  have h13 : (op == 13) = false := by rw [beq_eq_false_iff_ne]; omega
  go_enter Tryd.func6, Tryd.ntmps6
  go_wp2
  go_ret2
  exact ends_pair rfl
theorem rtwo_mul (a b : Int) (w : World) : Calls Tryd.prog 7 #[.int .i64 5, .int .i64 a, .int .i64 b] w (Ends (pair (wrap64 (a * b)) true) w) := by
  go_enter Tryd.func7, Tryd.ntmps7
  go_wp2
  go_ret2
  exact ends_pair rfl
theorem rtwo_add (a b : Int) (w : World) : Calls Tryd.prog 7 #[.int .i64 8, .int .i64 a, .int .i64 b] w (Ends (pair (wrap64 (a + b)) true) w) := by
  go_enter Tryd.func7, Tryd.ntmps7
  go_wp2
  go_ret2
  exact ends_pair rfl
theorem rtwo_sub (a b : Int) (w : World) : Calls Tryd.prog 7 #[.int .i64 9, .int .i64 a, .int .i64 b] w (Ends (pair (wrap64 (a - b)) true) w) := by
  go_enter Tryd.func7, Tryd.ntmps7
  go_wp2
  go_ret2
  exact ends_pair rfl
theorem rtwo_eq (a b : Int) (w : World) : Calls Tryd.prog 7 #[.int .i64 10, .int .i64 a, .int .i64 b] w (Ends (pair (b2i (a == b)) true) w) := by
  go_enter Tryd.func7, Tryd.ntmps7
  go_wp2_with (go_at_call 18; refine (bit_any _ _).mono ?_; rintro e w' ⟨rfl, rfl⟩)
  go_ret2
  exact ends_pair rfl
theorem rtwo_ne (a b : Int) (w : World) : Calls Tryd.prog 7 #[.int .i64 11, .int .i64 a, .int .i64 b] w (Ends (pair (b2i (a != b)) true) w) := by
  go_enter Tryd.func7, Tryd.ntmps7
  go_wp2_with (go_at_call 18; refine (bit_any _ _).mono ?_; rintro e w' ⟨rfl, rfl⟩)
  go_ret2
  exact ends_pair rfl
theorem rtwo_lt (a b : Int) (w : World) : Calls Tryd.prog 7 #[.int .i64 12, .int .i64 a, .int .i64 b] w (Ends (pair (b2i (decide (a < b))) true) w) := by
  go_enter Tryd.func7, Tryd.ntmps7
  go_wp2_with (go_at_call 18; refine (bit_any _ _).mono ?_; rintro e w' ⟨rfl, rfl⟩)
  go_ret2
  exact ends_pair rfl
theorem rtwo_le (a b : Int) (w : World) : Calls Tryd.prog 7 #[.int .i64 13, .int .i64 a, .int .i64 b] w (Ends (pair (b2i (decide (a ≤ b))) true) w) := by
  go_enter Tryd.func7, Tryd.ntmps7
  go_wp2_with (go_at_call 18; refine (bit_any _ _).mono ?_; rintro e w' ⟨rfl, rfl⟩)
  go_ret2
  exact ends_pair rfl
theorem rtwo_div0 (a : Int) (w : World) : Calls Tryd.prog 7 #[.int .i64 6, .int .i64 a, .int .i64 0] w (Ends (pair 0 false) w) := by
  go_enter Tryd.func7, Tryd.ntmps7
  go_wp2
  go_ret2
  exact ends_pair rfl
theorem rtwo_rem0 (a : Int) (w : World) : Calls Tryd.prog 7 #[.int .i64 7, .int .i64 a, .int .i64 0] w (Ends (pair 0 false) w) := by
  go_enter Tryd.func7, Tryd.ntmps7
  go_wp2
  go_ret2
  exact ends_pair rfl
theorem rtwo_div (a b : Int) (hb : ¬ b = 0) (w : World) : Calls Tryd.prog 7 #[.int .i64 6, .int .i64 a, .int .i64 b] w (Ends (pair (wrap64 (a.tdiv b)) true) w) := by
  have hb' : (b == 0) = false := by simpa using hb
  by_cases h : b = -1
  · subst h
    have hd : wrap64 (-a) = wrap64 (a.tdiv (-1)) := by rw [Int.tdiv_neg, Int.tdiv_one]
    have H := Lib.hid hd
    clear hd
    go_enter Tryd.func7, Tryd.ntmps7
    go_wp2
    go_ret2
    exact ends_pair (by rw [← H.out])
  · have h' : (b == -1) = false := by simpa using h
    go_enter Tryd.func7, Tryd.ntmps7
    go_wp2
    go_ret2
    exact ends_pair rfl
theorem rtwo_rem (a b : Int) (hb : ¬ b = 0) (w : World) : Calls Tryd.prog 7 #[.int .i64 7, .int .i64 a, .int .i64 b] w (Ends (pair (a.tmod b) true) w) := by
  have hb' : (b == 0) = false := by simpa using hb
  by_cases h : b = -1
  · subst h
    go_enter Tryd.func7, Tryd.ntmps7
    go_wp2
    go_ret2
    exact ends_pair (by rw [Int.tmod_neg, Int.tmod_one])
  · have h' : (b == -1) = false := by simpa using h
    go_enter Tryd.func7, Tryd.ntmps7
    go_wp2
    go_ret2
    exact ends_pair rfl
theorem rtwo_no (op a b : Int) (h : op < 5 ∨ 13 < op) (w : World) : Calls Tryd.prog 7 #[.int .i64 op, .int .i64 a, .int .i64 b] w (Ends (pair 0 false) w) := by
  have h5 : (op == 5) = false := by rw [beq_eq_false_iff_ne]; omega
  have h6 : (op == 6) = false := by rw [beq_eq_false_iff_ne]; omega
  have h7 : (op == 7) = false := by rw [beq_eq_false_iff_ne]; omega
  have h8 : (op == 8) = false := by rw [beq_eq_false_iff_ne]; omega
  have h9 : (op == 9) = false := by rw [beq_eq_false_iff_ne]; omega
  have h10 : (op == 10) = false := by rw [beq_eq_false_iff_ne]; omega
  have h11 : (op == 11) = false := by rw [beq_eq_false_iff_ne]; omega
  have h12 : (op == 12) = false := by rw [beq_eq_false_iff_ne]; omega
  have h13 : (op == 13) = false := by rw [beq_eq_false_iff_ne]; omega
  have n6 : (op != 6) = true := by rw [bne_iff_ne]; omega
  have n7 : (op != 7) = true := by rw [bne_iff_ne]; omega
  go_enter Tryd.func7, Tryd.ntmps7
  go_wp2
  go_ret2
  exact ends_pair rfl

/-- What Two answers. -/
def two (op a b : Int) : Int × Bool :=
  if op < 5 ∨ 13 < op then (0, false) else if op = 5 then (wrap64 (a * b), true) else if op = 6 then (if b = 0 then (0, false) else (wrap64 (a.tdiv b), true))
  else if op = 7 then (if b = 0 then (0, false) else (a.tmod b, true)) else if op = 8 then (wrap64 (a + b), true) else if op = 9 then (wrap64 (a - b), true)
  else if op = 10 then (b2i (a == b), true) else if op = 11 then (b2i (a != b), true) else if op = 12 then (b2i (decide (a < b)), true) else (b2i (decide (a ≤ b)), true)
theorem two_any (op a b : Int) (w : World) : Calls Tryd.prog 6 #[.int .i64 op, .int .i64 a, .int .i64 b] w (Ends (pair (two op a b).1 (two op a b).2) w) := by
  unfold two
  by_cases h : op < 5 ∨ 13 < op
  · rw [if_pos h]; exact two_no op a b h w
  rw [if_neg h]
  by_cases h5 : op = 5
  · subst h5; exact two_mul a b w
  rw [if_neg h5]
  by_cases h6 : op = 6
  · subst h6
    rw [if_pos rfl]
    by_cases hb : b = 0
    · subst hb; exact two_div0 a w
    · rw [if_neg hb]; exact two_div a b hb w
  rw [if_neg h6]
  by_cases h7 : op = 7
  · subst h7
    rw [if_pos rfl]
    by_cases hb : b = 0
    · subst hb; exact two_rem0 a w
    · rw [if_neg hb]; exact two_rem a b hb w
  rw [if_neg h7]
  by_cases h8 : op = 8
  · subst h8; exact two_add a b w
  rw [if_neg h8]
  by_cases h9 : op = 9
  · subst h9; exact two_sub a b w
  rw [if_neg h9]
  by_cases h10 : op = 10
  · subst h10; exact two_eq a b w
  rw [if_neg h10]
  by_cases h11 : op = 11
  · subst h11; exact two_ne a b w
  rw [if_neg h11]
  by_cases h12 : op = 12
  · subst h12; exact two_lt a b w
  rw [if_neg h12]
  obtain rfl : op = 13 := by omega
  exact two_le a b w
theorem rtwo_any (op a b : Int) (w : World) : Calls Tryd.prog 7 #[.int .i64 op, .int .i64 a, .int .i64 b] w (Ends (pair (two op a b).1 (two op a b).2) w) := by
  unfold two
  by_cases h : op < 5 ∨ 13 < op
  · rw [if_pos h]; exact rtwo_no op a b h w
  rw [if_neg h]
  by_cases h5 : op = 5
  · subst h5; exact rtwo_mul a b w
  rw [if_neg h5]
  by_cases h6 : op = 6
  · subst h6
    rw [if_pos rfl]
    by_cases hb : b = 0
    · subst hb; exact rtwo_div0 a w
    · rw [if_neg hb]; exact rtwo_div a b hb w
  rw [if_neg h6]
  by_cases h7 : op = 7
  · subst h7
    rw [if_pos rfl]
    by_cases hb : b = 0
    · subst hb; exact rtwo_rem0 a w
    · rw [if_neg hb]; exact rtwo_rem a b hb w
  rw [if_neg h7]
  by_cases h8 : op = 8
  · subst h8; exact rtwo_add a b w
  rw [if_neg h8]
  by_cases h9 : op = 9
  · subst h9; exact rtwo_sub a b w
  rw [if_neg h9]
  by_cases h10 : op = 10
  · subst h10; exact rtwo_eq a b w
  rw [if_neg h10]
  by_cases h11 : op = 11
  · subst h11; exact rtwo_ne a b w
  rw [if_neg h11]
  by_cases h12 : op = 12
  · subst h12; exact rtwo_lt a b w
  rw [if_neg h12]
  obtain rfl : op = 13 := by omega
  exact rtwo_le a b w

/-- What One answers. -/
def one (op a : Int) : Int × Bool :=
  if op = 2 then (a, true) else if op = 3 then (wrap64 (-a), true) else if op = 4 then (b2i (a == 0), true) else (0, false)
theorem one_any (op a : Int) (w : World) : Calls Tryd.prog 8 #[.int .i64 op, .int .i64 a] w (Ends (pair (one op a).1 (one op a).2) w) := by
  unfold one
  by_cases h2 : op = 2
  · subst h2
    go_enter Tryd.func8, Tryd.ntmps8
    go_wp2
    go_ret2
    exact ends_pair rfl
  rw [if_neg h2]
  by_cases h3 : op = 3
  · subst h3
    go_enter Tryd.func8, Tryd.ntmps8
    go_wp2
    go_ret2
    exact ends_pair rfl
  rw [if_neg h3]
  by_cases h4 : op = 4
  · subst h4
    go_enter Tryd.func8, Tryd.ntmps8
    go_wp2_with (go_at_call 17; refine (truth_any _ _).mono ?_; rintro e w' ⟨rfl, rfl⟩)
    go_ret2
    exact ends_pair rfl
  rw [if_neg h4]
  have b2 : (op == 2) = false := by simpa using h2
  have b3 : (op == 3) = false := by simpa using h3
  have b4 : (op == 4) = false := by simpa using h4
  clear h2 h3 h4
  go_enter Tryd.func8, Tryd.ntmps8
  go_wp2
  go_ret2
  exact ends_pair rfl
theorem rone_any (op a : Int) (w : World) : Calls Tryd.prog 9 #[.int .i64 op, .int .i64 a] w (Ends (pair (one op a).1 (one op a).2) w) := by
  unfold one
  by_cases h2 : op = 2
  · subst h2
    go_enter Tryd.func9, Tryd.ntmps9
    go_wp2
    go_ret2
    exact ends_pair rfl
  rw [if_neg h2]
  by_cases h3 : op = 3
  · subst h3
    go_enter Tryd.func9, Tryd.ntmps9
    go_wp2
    go_ret2
    exact ends_pair rfl
  rw [if_neg h3]
  by_cases h4 : op = 4
  · subst h4
    go_enter Tryd.func9, Tryd.ntmps9
    go_wp2_with (go_at_call 18; refine (bit_any _ _).mono ?_; rintro e w' ⟨rfl, rfl⟩)
    go_ret2
    exact ends_pair rfl
  rw [if_neg h4]
  have b2 : (op == 2) = false := by simpa using h2
  have b3 : (op == 3) = false := by simpa using h3
  have b4 : (op == 4) = false := by simpa using h4
  clear h2 h3 h4
  go_enter Tryd.func9, Tryd.ntmps9
  go_wp2
  go_ret2
  exact ends_pair rfl
end Go.Proofs.YtmkhmenolcjigaaDoor
