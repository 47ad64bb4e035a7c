/-
  Names; what stands before the first quote; whether a text begins with a great letter. No condition but the texts' sizes.
-/
import Derived.Test.YtofadlenblobnaaLKey
namespace Go.Proofs.Ytofadlenblobnaa.Lex
open Go.RowKit
open Num (EndsW)
set_option maxRecDepth 100000
theorem key_at (S : ByteArray) (w : World) : Calls Try.prog 49 #[.string S] w (EndsW (.bool (keyB S.data.toList)) w) := by
  have := key_any S.data.toList w
  rwa [bs_of] at this
theorem toList_data (S : ByteArray) : S.toList = S.data.toList := ByteArray.toList_eq S
theorem empty_of (S : ByteArray) (h : S.size = 0) : S = ⟨#[]⟩ := by
  apply ByteArray.ext
  exact Array.eq_empty_of_size_eq_zero h
theorem not_empty (S : ByteArray) (h : 0 < S.size) : (S.toList == []) = false := by
  rw [toList_data]
  have := len_bytes S
  cases h2 : S.data.toList with
  | nil => rw [h2] at this; simp at this; omega
  | cons c r => rfl
theorem rowN_all (p : UInt8 → Bool) (l : List UInt8) : decide (rowN p l = l.length) = l.all p := by
  unfold rowN
  induction l with
  | nil => simp
  | cons c r ih =>
    rw [List.takeWhile_cons, List.all_cons]
    cases p c
    · simp
    · simp only [if_true, List.length_cons, Bool.true_and]
      rw [← ih, decide_eq_decide]; omega
theorem cons_of (S : ByteArray) (h : 0 < S.size) : ∃ r, S.data.toList = S[0] :: r := by
  have hl := len_bytes S
  cases h2 : S.data.toList with
  | nil => rw [h2] at hl; simp at hl; omega
  | cons c r =>
    refine ⟨r, ?_⟩
    have : S.data.toList[0]'(by omega) = S[0] := rfl
    rw [← this]
    simp [h2]
theorem quiet_b {v : Value} {w : World} {e : Ending} {w' : World} (h : EndsW v w e w') : EndsB v w e w' := by
  obtain ⟨h1, rfl⟩ := h
  exact ⟨h1, Below.refl _ _⟩
theorem endsb_bool {a b : Bool} {w w' : World} (h : a = b) (hb : Below w.heap.size w w') : EndsB (.bool b) w (.returned (.bool a)) w' := by subst h; exact ⟨rfl, hb⟩
theorem wrap_byte (c : UInt8) : wrap32 (c.toNat : Int) = (c.toNat : Int) := by
  have := c.toNat_lt
  unfold wrap32; omega
set_option maxHeartbeats 2000000 in
theorem name_any (S : ByteArray) (w : World) (hs : S.size ≤ maxLen) : Calls Try.prog 42 #[.string S] w (EndsB (.bool (nameOk S.data.toList)) w) := by
  have HS := Lib.hid hs
  have hl := len_bytes S
  unfold maxLen at hs
  by_cases h0 : S.size = 0
  · obtain rfl := empty_of S h0
    clear h0 hl
    go_enter Try.func42, Try.ntmps42
    go_wp2
    go_ret
    exact ⟨rfl, Below.refl _ _⟩
  have h00 : 0 < S.size := by omega
  clear h0
  have e1 := not_empty S h00
  have e2 : (!S.toList.isEmpty) = true := by
    cases h : S.toList with
    | nil => rw [h] at e1; simp at e1
    | cons c r => rfl
  have HN : Hid (decide (S.data.toList = []) = false) := Lib.hid (by
    obtain ⟨r, hr⟩ := cons_of S h00
    rw [hr]; rfl)
  have HC := Lib.hid (cons_of S h00)
  by_cases h1 : 16 < S.size
  · have h1'' : decide ((16 : Int) < (S.size : Int)) = true := by simp; omega
    have H := Lib.hid (show nameOk S.data.toList = false by unfold nameOk; rw [show decide (16 < S.data.toList.length) = true by rw [hl]; simpa using h1]; simp)
    clear hl HC
    go_enter Try.func42, Try.ntmps42
    go_wp2
    go_ret
    exact endsb_bool H.out.symm (Below.refl _ _)
  have h1' : S.size ≤ 16 := by omega
  have h1'' : decide ((16 : Int) < (S.size : Int)) = false := by simp; omega
  rcases Bool.eq_false_or_eq_true (keyB S.data.toList) with hk | hk
  · have H := Lib.hid (show nameOk S.data.toList = false by unfold nameOk; rw [hk]; simp)
    have CK := Lib.hid (show Calls Try.prog 49 #[.string S] w (EndsW (.bool true) w) by have := key_at S w; rwa [hk] at this)
    clear hk hl HC
    go_enter Try.func42, Try.ntmps42
    go_wp2_with (go_at_call 49; refine CK.out.mono ?_; rintro e w' ⟨rfl, rfl⟩)
    go_ret
    exact endsb_bool H.out.symm (Below.refl _ _)
  have CK := Lib.hid (show Calls Try.prog 49 #[.string S] w (EndsW (.bool false) w) by have := key_at S w; rwa [hk] at this)
  rcases Bool.eq_false_or_eq_true (dig (S[0]'h00)) with hd | hd
  · have H := Lib.hid (show nameOk S.data.toList = false by
      obtain ⟨r, hr⟩ := HC.out
      unfold nameOk; rw [hr]; simp [hd])
    have CD := Lib.hid (show Calls Try.prog 50 #[.int .i32 (wrap32 ((S[0]'h00).toNat : Int))] w (EndsW (.bool true) w) by rw [wrap_byte]; have := digit_any ((S[0]'h00).toNat : Int) w; rwa [digI_nat, hd] at this)
    clear hk hd hl HC
    go_enter Try.func42, Try.ntmps42
    go_wp2_with (first | (go_at_call 49; refine CK.out.mono ?_; rintro e w' ⟨rfl, rfl⟩) | (go_at_call 50; refine CD.out.mono ?_; rintro e w' ⟨rfl, rfl⟩))
    go_ret
    exact endsb_bool H.out.symm (Below.refl _ _)
  have CD := Lib.hid (show Calls Try.prog 50 #[.int .i32 (wrap32 ((S[0]'h00).toNat : Int))] w (EndsW (.bool false) w) by rw [wrap_byte]; have := digit_any ((S[0]'h00).toNat : Int) w; rwa [digI_nat, hd] at this)
  have HA : Hid (nameOk S.data.toList = decide (rowN nameB S.data.toList = S.size)) := Lib.hid (by
    rw [← hl, rowN_all]
    have hh : decide (16 < S.data.toList.length) = false := by simp; omega
    obtain ⟨r, hr⟩ := HC.out
    unfold nameOk
    rw [HN.out, hh, hk]
    rw [hr]
    simp [hd])
  have CR := Lib.hid (row_name S w HS.out)
  clear hk hd hl HC HN h1
  go_enter Try.func42, Try.ntmps42
  generalize rowN nameB S.data.toList = m at *
  go_wp2_with (first | (go_at_call 49; refine CK.out.mono ?_; rintro e w' ⟨rfl, rfl⟩) | (go_at_call 50; refine CD.out.mono ?_; rintro e w' ⟨rfl, rfl⟩) | (go_at_call 51; refine CR.out.mono ?_; rintro e w1 ⟨rfl, hb⟩))
  all_goals go_ret
  all_goals exact endsb_bool (by rw [HA.out, Bool.eq_iff_iff]; simp; omega) (by assumption)
end Go.Proofs.Ytofadlenblobnaa.Lex
