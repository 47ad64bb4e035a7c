/-
  The walks of the three statements of layer 1: each answers true, for every argument, in every world that holds the library's table.
-/
import Derived.Test.YtmkhmenolcjigaaDoorPure2
import Derived.Test.YtmkhmenolcjigaaDoorRead
import Derived.Test.YtmkhmenolcjigaaDoorDigits
namespace Go.Proofs.YtmkhmenolcjigaaDoor
open Go.RowKit

theorem k_two (w : World) : Calls Tryd.prog 6 #[.int .i64 6, .int .i64 (-7), .int .i64 2] w (Ends (pair (-3) true) w) := by
  have h := two_any 6 (-7) 2 w
  have e : two 6 (-7) 2 = (-3, true) := by
    unfold two wrap64
    decide
  rw [e] at h
  exact h
def s120 : ByteArray := ⟨#[49, 50, 48]⟩
theorem k_read (w : World) : Calls Tryd.prog 13 #[.string ⟨#[49, 50, 48]⟩] w (Ends (pair 120 true) w) := by
  have h := read_any ⟨#[49, 50, 48]⟩ w (by decide)
  have e : readV (⟨#[49, 50, 48]⟩ : ByteArray).data.toList = (120, true) := by decide
  rw [e] at h
  exact h
theorem k_digits (w : World) (ht : Tab w) : Calls Tryd.prog 15 #[.int .i64 (-5)] w (EndsBelow (.string ⟨#[45, 53]⟩) w) := by
  have h := digits_any (-5) w (by omega) (by omega) ht
  have e : Lib.itoa (-5) = [45, 53] := by
    unfold Lib.itoa
    rw [if_pos (by omega), decDigits_lt (by decide)]
    rfl
  rw [e] at h
  exact h
theorem k_pure (w : World) : Calls Tryd.prog 10 #[.int .i64 8] w (Ends (.bool true) w) := pure_any 8 w
theorem knows_any (w : World) (ht : Tab w) : Calls Tryd.prog 12 #[] w (EndsBelow (.bool true) w) := by
  have H := Lib.hid ht
  clear ht
  go_enter Tryd.func12, Tryd.ntmps12
  go_wp2_with fail
  refine (k_two _).mono ?_
  rintro e w1 ⟨rfl, rfl⟩
  unfold pair
  go_wp2_with fail
  refine (k_read _).mono ?_
  rintro e w1 ⟨rfl, rfl⟩
  unfold pair
  go_wp2_with fail
  refine (k_digits _ H.out).mono ?_
  rintro e w1 ⟨rfl, b1⟩
  go_wp2_with fail
  refine (k_pure _).mono ?_
  rintro e w2 ⟨rfl, rfl⟩
  go_wp2_with fail
  go_ret
  exact ⟨rfl, b1⟩

set_option maxHeartbeats 400000 in
theorem reckons (op a b : Int) (w : World) (ht : Tab w) : Calls Tryd.prog 3 #[.int .i64 op, .int .i64 a, .int .i64 b] w (EndsBelow (.bool true) w) := by
  have H := Lib.hid ht
  clear ht
  have C1 := Lib.hid (fun w => two_any op a b w)
  have C2 := Lib.hid (fun w => rtwo_any op a b w)
  have C3 := Lib.hid (fun w => one_any op a w)
  have C4 := Lib.hid (fun w => rone_any op a w)
  have C5 := Lib.hid (fun w => pure_any op w)
  have C6 := Lib.hid (fun w => rpure_any op w)
  generalize two op a b = x at *
  generalize one op a = y at *
  generalize pure op = z at *
  obtain ⟨x1, x2⟩ := x
  obtain ⟨y1, y2⟩ := y
  unfold pair at *
  go_enter Tryd.func3, Tryd.ntmps3
  go_wp2_with fail
  refine (C1.out _).mono ?_
  rintro e w1 ⟨rfl, rfl⟩
  go_wp2_with fail
  refine (C2.out _).mono ?_
  rintro e w1 ⟨rfl, rfl⟩
  go_wp2_with fail
  refine (C3.out _).mono ?_
  rintro e w1 ⟨rfl, rfl⟩
  go_wp2_with fail
  refine (C4.out _).mono ?_
  rintro e w1 ⟨rfl, rfl⟩
  go_wp2_with fail
  refine (C5.out _).mono ?_
  rintro e w1 ⟨rfl, rfl⟩
  go_wp2_with fail
  refine (C6.out _).mono ?_
  rintro e w1 ⟨rfl, b1⟩
  go_wp2_with fail
  refine (knows_any _ (tab_below H.out b1)).mono ?_
  rintro e w2 ⟨rfl, b2⟩
  go_wp2_with fail
  go_ret
  exact ⟨rfl, b1.trans (b2.mono b1.size)⟩

set_option maxHeartbeats 400000 in
theorem texts (n : Int) (s : ByteArray) (w : World) (h0 : -9223372036854775808 ≤ n) (h1 : n ≤ 9223372036854775807) (hs : s.size ≤ maxLen) (ht : Tab w) :
    Calls Tryd.prog 4 #[.int .i64 n, .string s] w (EndsBelow (.bool true) w) := by
  have H := Lib.hid ht
  clear ht
  have HM := Lib.hid hs
  unfold maxLen at hs
  by_cases hl : 100 < s.size
  · go_enter Tryd.func4, Tryd.ntmps4
    go_wp2_with fail
    refine (knows_any _ H.out).mono ?_
    rintro e w2 ⟨rfl, b2⟩
    go_wp2_with fail
    go_ret
    exact ⟨rfl, b2⟩
  · have C1 := Lib.hid (fun w => read_any s w HM.out)
    have C2 := Lib.hid (fun w => rread_any s w HM.out)
    have C3 := Lib.hid (fun w ht => digits_any n w h0 h1 ht)
    have C4 := Lib.hid (fun w => rdigits_any n w h0 h1)
    generalize readV s.data.toList = x at *
    generalize Lib.itoa n = y at *
    unfold str at *
    generalize (⟨y.toArray⟩ : ByteArray) = z at *
    obtain ⟨x1, x2⟩ := x
    unfold pair at *
    have hl' : s.size ≤ 100 := by omega
    clear hl
    go_enter Tryd.func4, Tryd.ntmps4
    go_wp2_with fail
    refine (C1.out _).mono ?_
    rintro e w1 ⟨rfl, rfl⟩
    go_wp2_with fail
    refine (C2.out _).mono ?_
    rintro e w1 ⟨rfl, rfl⟩
    go_wp2_with fail
    refine (C3.out _ H.out).mono ?_
    rintro e w1 ⟨rfl, b1⟩
    go_wp2_with fail
    refine (C4.out _).mono ?_
    rintro e w2 ⟨rfl, b2⟩
    go_wp2_with fail
    have b3 := b1.trans (b2.mono b1.size)
    refine (knows_any _ (tab_below H.out b3)).mono ?_
    rintro e w3 ⟨rfl, b4⟩
    go_wp2_with fail
    go_ret
    exact ⟨rfl, b3.trans (b4.mono b3.size)⟩
end Go.Proofs.YtmkhmenolcjigaaDoor
