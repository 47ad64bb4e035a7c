/-
  What the small calls of lex answer: digit, great, inName, what is no line feed, for every number of a letter. No condition.
-/
import Derived.Test.YtofadlenblobnaaLMath
import Derived.Test.YtofadlenblobnaaNRead
namespace Go.Proofs.Ytofadlenblobnaa.Lex
open Go.RowKit
open Num (EndsW)
set_option maxRecDepth 100000
def digI (c : Int) : Bool := decide (48 ≤ c ∧ c ≤ 57)
def greatI (c : Int) : Bool := decide (65 ≤ c ∧ c ≤ 90)
def nameI (c : Int) : Bool := decide (97 ≤ c ∧ c ≤ 122) || greatI c || digI c || decide (c = 95)
def nlI (c : Int) : Bool := decide (c ≠ 10)
theorem ends_bool {a b : Bool} {w : World} (h : a = b) : EndsW (.bool b) w (.returned (.bool a)) w := by subst h; exact ⟨rfl, rfl⟩
theorem digit_any (c : Int) (w : World) : Calls Try.prog 50 #[.int .i32 c] w (EndsW (.bool (digI c)) w) := by
  by_cases h1 : 48 ≤ c
  · by_cases h2 : c ≤ 57
    · have H := Lib.hid (show digI c = true by unfold digI; simp; omega)
      go_enter Try.func50, Try.ntmps50
      go_wp2
      go_ret
      exact ends_bool H.out.symm
    · have H := Lib.hid (show digI c = false by unfold digI; simp; omega)
      go_enter Try.func50, Try.ntmps50
      go_wp2
      go_ret
      exact ends_bool H.out.symm
  · have H := Lib.hid (show digI c = false by unfold digI; simp; omega)
    go_enter Try.func50, Try.ntmps50
    go_wp2
    go_ret
    exact ends_bool H.out.symm
theorem great_any (c : Int) (w : World) : Calls Try.prog 57 #[.int .i32 c] w (EndsW (.bool (greatI c)) w) := by
  by_cases h1 : 65 ≤ c
  · by_cases h2 : c ≤ 90
    · have H := Lib.hid (show greatI c = true by unfold greatI; simp; omega)
      go_enter Try.func57, Try.ntmps57
      go_wp2
      go_ret
      exact ends_bool H.out.symm
    · have H := Lib.hid (show greatI c = false by unfold greatI; simp; omega)
      go_enter Try.func57, Try.ntmps57
      go_wp2
      go_ret
      exact ends_bool H.out.symm
  · have H := Lib.hid (show greatI c = false by unfold greatI; simp; omega)
    go_enter Try.func57, Try.ntmps57
    go_wp2
    go_ret
    exact ends_bool H.out.symm
theorem great_yes (c : Int) (w : World) (h : 65 ≤ c ∧ c ≤ 90) : Calls Try.prog 57 #[.int .i32 c] w (EndsW (.bool true) w) := by
  have e : greatI c = true := by unfold greatI; simp; omega
  have := great_any c w
  rwa [e] at this
theorem great_no (c : Int) (w : World) (h : c < 65 ∨ 90 < c) : Calls Try.prog 57 #[.int .i32 c] w (EndsW (.bool false) w) := by
  have e : greatI c = false := by unfold greatI; simp; omega
  have := great_any c w
  rwa [e] at this
theorem digit_yes (c : Int) (w : World) (h : 48 ≤ c ∧ c ≤ 57) : Calls Try.prog 50 #[.int .i32 c] w (EndsW (.bool true) w) := by
  have e : digI c = true := by unfold digI; simp; omega
  have := digit_any c w
  rwa [e] at this
theorem digit_no (c : Int) (w : World) (h : c < 48 ∨ 57 < c) : Calls Try.prog 50 #[.int .i32 c] w (EndsW (.bool false) w) := by
  have e : digI c = false := by unfold digI; simp; omega
  have := digit_any c w
  rwa [e] at this
set_option maxHeartbeats 1000000 in
theorem inName_lo (c : Int) (w : World) (h1 : c < 97) (h2 : c < 65 ∨ 90 < c) (h3 : c < 48 ∨ 57 < c) (h4 : c ≠ 95) : Calls Try.prog 52 #[.int .i32 c] w (EndsW (.bool (nameI c)) w) := by
  have H := Lib.hid (show nameI c = false by unfold nameI greatI digI; simp; omega)
  have C := Lib.hid (great_no c w h2)
  have D := Lib.hid (digit_no c w h3)
  have h5 : (c == 95) = false := by simpa using h4
  clear h2 h3 h4
  go_enter Try.func52, Try.ntmps52
  go_wp2_with (first | (go_at_call 57; refine C.out.mono ?_; rintro e w' ⟨rfl, rfl⟩) | (go_at_call 50; refine D.out.mono ?_; rintro e w' ⟨rfl, rfl⟩))
  go_ret
  exact ends_bool H.out.symm
set_option maxHeartbeats 1000000 in
theorem inName_hi (c : Int) (w : World) (h1 : 122 < c) : Calls Try.prog 52 #[.int .i32 c] w (EndsW (.bool (nameI c)) w) := by
  have H := Lib.hid (show nameI c = false by unfold nameI greatI digI; simp; omega)
  have C := Lib.hid (great_no c w (by omega))
  have D := Lib.hid (digit_no c w (by omega))
  have h5 : (c == 95) = false := by simp; omega
  have h6 : decide (c ≤ 122) = false := by simp; omega
  have h7 : decide (97 ≤ c) = true := by simp; omega
  go_enter Try.func52, Try.ntmps52
  go_wp2_with (first | (go_at_call 57; refine C.out.mono ?_; rintro e w' ⟨rfl, rfl⟩) | (go_at_call 50; refine D.out.mono ?_; rintro e w' ⟨rfl, rfl⟩))
  go_ret
  exact ends_bool H.out.symm
set_option maxHeartbeats 1000000 in
theorem inName_any (c : Int) (w : World) : Calls Try.prog 52 #[.int .i32 c] w (EndsW (.bool (nameI c)) w) := by
  rcases (show (97 ≤ c ∧ c ≤ 122) ∨ (65 ≤ c ∧ c ≤ 90) ∨ (48 ≤ c ∧ c ≤ 57) ∨ c = 95 ∨ c < 48 ∨ (58 ≤ c ∧ c ≤ 64) ∨ (91 ≤ c ∧ c ≤ 94) ∨ c = 96 ∨ 122 < c by omega) with h | h | h | h | h | h | h | h | h
  · have H := Lib.hid (show nameI c = true by unfold nameI greatI digI; simp; omega)
    obtain ⟨h1, h2⟩ := h
    go_enter Try.func52, Try.ntmps52
    go_wp2_with fail
    go_ret
    exact ends_bool H.out.symm
  · have H := Lib.hid (show nameI c = true by unfold nameI greatI digI; simp; omega)
    have C := Lib.hid (great_yes c w h)
    obtain ⟨h1, h2⟩ := h
    have h3 : c < 97 := by omega
    go_enter Try.func52, Try.ntmps52
    go_wp2_with (go_at_call 57; refine C.out.mono ?_; rintro e w' ⟨rfl, rfl⟩)
    go_ret
    exact ends_bool H.out.symm
  · have H := Lib.hid (show nameI c = true by unfold nameI greatI digI; simp; omega)
    have C := Lib.hid (great_no c w (by omega))
    have D := Lib.hid (digit_yes c w h)
    obtain ⟨h1, h2⟩ := h
    have h3 : c < 97 := by omega
    go_enter Try.func52, Try.ntmps52
    go_wp2_with (first | (go_at_call 57; refine C.out.mono ?_; rintro e w' ⟨rfl, rfl⟩) | (go_at_call 50; refine D.out.mono ?_; rintro e w' ⟨rfl, rfl⟩))
    go_ret
    exact ends_bool H.out.symm
  · subst h
    have C := Lib.hid (great_no 95 w (by omega))
    have D := Lib.hid (digit_no 95 w (by omega))
    go_enter Try.func52, Try.ntmps52
    go_wp2_with (first | (go_at_call 57; refine C.out.mono ?_; rintro e w' ⟨rfl, rfl⟩) | (go_at_call 50; refine D.out.mono ?_; rintro e w' ⟨rfl, rfl⟩))
    go_ret
    exact ends_bool (by decide)
  · exact inName_lo c w (by omega) (by omega) (by omega) (by omega)
  · exact inName_lo c w (by omega) (by omega) (by omega) (by omega)
  · exact inName_lo c w (by omega) (by omega) (by omega) (by omega)
  · exact inName_lo c w (by omega) (by omega) (by omega) (by omega)
  · exact inName_hi c w h
theorem digI_nat (c : UInt8) : digI (c.toNat : Int) = dig c := by
  unfold digI dig Num.isDig; rw [decide_eq_decide]; omega
theorem greatI_nat (c : UInt8) : greatI (c.toNat : Int) = great c := by
  unfold greatI great; rw [decide_eq_decide]; omega
theorem nameI_nat (c : UInt8) : nameI (c.toNat : Int) = nameB c := by
  unfold nameI nameB small; rw [digI_nat, greatI_nat]
  have e1 : decide (97 ≤ (c.toNat : Int) ∧ (c.toNat : Int) ≤ 122) = decide (97 ≤ c.toNat ∧ c.toNat ≤ 122) := by rw [decide_eq_decide]; omega
  have e2 : decide ((c.toNat : Int) = 95) = decide (c.toNat = 95) := by rw [decide_eq_decide]; omega
  rw [e1, e2]
theorem nlI_nat (c : UInt8) : nlI (c.toNat : Int) = notNL c := by
  unfold nlI notNL; rw [decide_eq_decide]; omega
theorem dig_high (c : UInt8) (h : 128 ≤ c.toNat) : dig c = false := by unfold dig Num.isDig; simp; omega
theorem nameB_high (c : UInt8) (h : 128 ≤ c.toNat) : nameB c = false := by unfold nameB small great; rw [dig_high c h]; simp; omega
theorem notNL_high (c : UInt8) (h : 128 ≤ c.toNat) : notNL c = true := by unfold notNL; simp; omega
theorem digI_high (n : Int) (h : 128 ≤ n) : digI n = false := by unfold digI; simp; omega
theorem nameI_high (n : Int) (h : 128 ≤ n) : nameI n = false := by unfold nameI greatI digI; simp; omega
theorem nlI_high (n : Int) (h : 128 ≤ n) : nlI n = true := by unfold nlI; simp; omega
end Go.Proofs.Ytofadlenblobnaa.Lex
