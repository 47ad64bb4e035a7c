/-
  Upper, of the program and of the document; the document's Show. Conditions: sizes; the number is an int64.
-/
import Derived.Test.YtjgkfdhfffbccaaDoorLRef
namespace Go.Proofs.YtjgkfdhfffbccaaDoor.Lex
open Go.RowKit
open Num (EndsW)
set_option maxRecDepth 100000
def upperB (s : List UInt8) : Bool := match s with | [] => false | c :: _ => great c
theorem upper_cons (S : ByteArray) (h : 0 < S.size) : upperB S.data.toList = great (S[0]'h) := by
  obtain ⟨r, hr⟩ := cons_of S h
  rw [hr]; rfl
theorem upper_any (S : ByteArray) (w : World) : Calls Tryd.prog 10 #[.string S] w (EndsW (.bool (upperB S.data.toList)) w) := by
  by_cases h0 : S.size = 0
  · obtain rfl := empty_of S h0
    clear h0
    go_enter Tryd.func10, Tryd.ntmps10
    go_wp2
    go_ret
    exact ends_bool rfl
  have h00 : 0 < S.size := by omega
  have H := Lib.hid (upper_cons S h00)
  have e1 := not_empty S h00
  have hwr := wrap_byte (S[0]'h00)
  have CG := Lib.hid (show Calls Tryd.prog 23 #[.int .i32 ((S[0]'h00).toNat : Int)] w (EndsW (.bool (great (S[0]'h00))) w) by have := great_any ((S[0]'h00).toNat : Int) w; rwa [greatI_nat] at this)
  generalize upperB S.data.toList = B at *
  have HB := H.out
  subst HB
  clear h0 H
  have CG2 := Lib.hid (show Calls Tryd.prog 23 #[.int .i32 (wrap32 ((S[0]'h00).toNat : Int))] w (EndsW (.bool (great (S[0]'h00))) w) by rw [hwr]; exact CG.out)
  clear hwr CG
  go_enter Tryd.func10, Tryd.ntmps10
  go_wp2_with (go_at_call 23; refine CG2.out.mono ?_; rintro e w' ⟨rfl, rfl⟩)
  go_ret
  exact ends_bool rfl
theorem rupper_any (S : ByteArray) (w : World) : Calls Tryd.prog 11 #[.string S] w (EndsW (.bool (upperB S.data.toList)) w) := by
  by_cases h0 : S.size = 0
  · obtain rfl := empty_of S h0
    clear h0
    go_enter Tryd.func11, Tryd.ntmps11
    go_wp2
    go_ret
    exact ends_bool rfl
  have h00 : 0 < S.size := by omega
  have a1 : decide ((0 : Int) < (S.size : Int)) = true := by simpa using h00
  have H := Lib.hid (upper_cons S h00)
  clear h0
  by_cases h1 : 65 ≤ (S[0]'h00).toNat
  · have b1 : decide ((65 : Int) ≤ ((S[0]'h00).toNat : Int)) = true := by simp; omega
    by_cases h2 : (S[0]'h00).toNat ≤ 90
    · have HV := Lib.hid (show upperB S.data.toList = true by rw [H.out]; unfold great; simp; omega)
      have b2 : decide (((S[0]'h00).toNat : Int) ≤ 90) = true := by simp; omega
      go_enter Tryd.func11, Tryd.ntmps11
      go_wp2
      go_ret
      exact ends_bool HV.out.symm
    · have HV := Lib.hid (show upperB S.data.toList = false by rw [H.out]; unfold great; simp; omega)
      have b2 : decide (((S[0]'h00).toNat : Int) ≤ 90) = false := by simp; omega
      go_enter Tryd.func11, Tryd.ntmps11
      go_wp2
      go_ret
      exact ends_bool HV.out.symm
  · have HV := Lib.hid (show upperB S.data.toList = false by rw [H.out]; unfold great; simp; omega)
    have b1 : decide ((65 : Int) ≤ ((S[0]'h00).toNat : Int)) = false := by simp; omega
    go_enter Tryd.func11, Tryd.ntmps11
    go_wp2
    go_ret
    exact ends_bool HV.out.symm
theorem rdigits_at (n : Int) (w : World) (h0 : -9223372036854775808 ≤ n) (h1 : n ≤ 9223372036854775807) : Calls Tryd.prog 26 #[.int .i64 n] w (EndsB (str (Lib.itoa n)) w) := Num.rdigits_any n w h0 h1
theorem conv_q (w : World) : (convert 41 9 (.slice (some ⟨w.heap.size, 0, none⟩) 1 1)).run Tryd.prog (w.alloc (.cells #[.int .u8 34] 5)) = .ok (.string ⟨#[34]⟩) (w.alloc (.cells #[.int .u8 34] 5)) := Num.conv_one w 34
set_option maxHeartbeats 2000000 in
theorem rshow_w1 (w : World) (s : List UInt8) (n : Int) :
    Calls Tryd.prog 13 #[.agg #[.int .i64 1, .string (bs s), .int .i64 n]] w (EndsB (str s) w) := by
  have HB := Lib.hid (new_below w 1 (bs s) n)
  have HN := Lib.hid (new_at w 1 (bs s) n)
  have z0 := cell_at HN.out 0
  have z1 := cell_at HN.out 1
  have z2 := cell_at HN.out 2
  unfold newW at *
  clear HN
  go_enter Tryd.func13, Tryd.ntmps13
  go_wp2_with fail
  go_ret
  exact endsb_str rfl HB.out (Below.refl _ _)
set_option maxHeartbeats 2000000 in
theorem rshow_w4 (w : World) (s : List UInt8) (n : Int) :
    Calls Tryd.prog 13 #[.agg #[.int .i64 4, .string (bs s), .int .i64 n]] w (EndsB (str s) w) := by
  have HB := Lib.hid (new_below w 4 (bs s) n)
  have HN := Lib.hid (new_at w 4 (bs s) n)
  have z0 := cell_at HN.out 0
  have z1 := cell_at HN.out 1
  have z2 := cell_at HN.out 2
  unfold newW at *
  clear HN
  go_enter Tryd.func13, Tryd.ntmps13
  go_wp2_with fail
  go_ret
  exact endsb_str rfl HB.out (Below.refl _ _)
set_option maxHeartbeats 2000000 in
theorem rshow_w5 (w : World) (s : List UInt8) (n : Int) :
    Calls Tryd.prog 13 #[.agg #[.int .i64 5, .string (bs s), .int .i64 n]] w (EndsB (str s) w) := by
  have HB := Lib.hid (new_below w 5 (bs s) n)
  have HN := Lib.hid (new_at w 5 (bs s) n)
  have z0 := cell_at HN.out 0
  have z1 := cell_at HN.out 1
  have z2 := cell_at HN.out 2
  unfold newW at *
  clear HN
  go_enter Tryd.func13, Tryd.ntmps13
  go_wp2_with fail
  go_ret
  exact endsb_str rfl HB.out (Below.refl _ _)
set_option maxHeartbeats 2000000 in
theorem rshow_w3 (w : World) (s : List UInt8) (n : Int) (hs : s.length ≤ 1000000) :
    Calls Tryd.prog 13 #[.agg #[.int .i64 3, .string (bs s), .int .i64 n]] w (EndsB (str (quoted s)) w) := by
  have HB := Lib.hid (new_below w 3 (bs s) n)
  have HN := Lib.hid (new_at w 3 (bs s) n)
  have z0 := cell_at HN.out 0
  have z1 := cell_at HN.out 1
  have z2 := cell_at HN.out 2
  unfold newW at *
  have hz : (bs s).size ≤ 1000000 := hs
  have HQ : Hid ((⟨#[34]⟩ : ByteArray) ++ bs s ++ ⟨#[34]⟩ = bs (quoted s)) := Lib.hid (by unfold quoted; rw [← cat_bs, ← cat_bs]; rfl)
  have e : ∃ X, X = w.alloc (.cells #[.int .i64 3, .string (bs s), .int .i64 n] 23) := ⟨_, rfl⟩
  obtain ⟨X, hX⟩ := e
  rw [← hX] at HB HN z0 z1 z2
  have q1 := conv_q X
  have q2 := conv_q (X.alloc (.cells #[.int .u8 34] 5))
  have z3 : (X.alloc (.cells #[.int .u8 34] 5)).cell? ⟨w.heap.size, 1, none⟩ = some (.string (bs s)) := (World.cell?_of_block (w := X) (Below.heap_alloc X _ _ (lt_of_heap HN.out))).trans z1
  have HC : Hid (Below w.heap.size w ((X.alloc (.cells #[.int .u8 34] 5)).alloc (.cells #[.int .u8 34] 5))) := Lib.hid ((HB.out.alloc HB.out.size _).alloc (by have := HB.out.size; simp; omega) _)
  rw [World.size_alloc] at q2
  rw [hX, World.size_alloc] at q1 q2
  rw [hX] at z0 z1 z2 z3 HC
  clear hs HN hX HB
  go_enter Tryd.func13, Tryd.ntmps13
  go_wp2_with fail
  go_ret
  refine ⟨?_, HC.out⟩
  show Ending.returned (Value.string ((⟨#[34]⟩ : ByteArray) ++ bs s ++ ⟨#[34]⟩)) = _
  rw [HQ.out]; rfl
set_option maxHeartbeats 2000000 in
theorem rshow_w2 (w : World) (s : List UInt8) (n : Int) (h0 : 0 ≤ n) (h1 : n ≤ 9223372036854775807) :
    Calls Tryd.prog 13 #[.agg #[.int .i64 2, .string (bs s), .int .i64 n]] w (EndsB (str (Lib.itoa n)) w) := by
  have HB := Lib.hid (new_below w 2 (bs s) n)
  have HN := Lib.hid (new_at w 2 (bs s) n)
  have z0 := cell_at HN.out 0
  have z1 := cell_at HN.out 1
  have z2 := cell_at HN.out 2
  unfold newW at *
  have C := Lib.hid (rdigits_at n (w.alloc (.cells #[.int .i64 2, .string (bs s), .int .i64 n] 23)) (by omega) h1)
  clear HN h1
  go_enter Tryd.func13, Tryd.ntmps13
  go_wp2_with fail
  refine C.out.mono ?_
  rintro e w1 ⟨rfl, hb1⟩
  have HB1 := Lib.hid hb1
  clear hb1 z0 z1 z2
  unfold str
  go_wp2_with fail
  go_ret
  exact endsb_str rfl HB.out HB1.out
set_option maxHeartbeats 2000000 in
theorem rshow_w2n (w : World) (s : List UInt8) (n : Int) (h0 : n < 0) :
    Calls Tryd.prog 13 #[.agg #[.int .i64 2, .string (bs s), .int .i64 n]] w (EndsB (str []) w) := by
  have HB := Lib.hid (new_below w 2 (bs s) n)
  have HN := Lib.hid (new_at w 2 (bs s) n)
  have z0 := cell_at HN.out 0
  have z1 := cell_at HN.out 1
  have z2 := cell_at HN.out 2
  unfold newW at *
  clear HN
  go_enter Tryd.func13, Tryd.ntmps13
  go_wp2_with fail
  go_ret
  exact ⟨rfl, HB.out⟩
set_option maxHeartbeats 2000000 in
theorem rshow_wx (w : World) (k : Int) (s : List UInt8) (n : Int) (h1 : (k == 1) = false) (h4 : (k == 4) = false) (h5 : (k == 5) = false) (h3 : (k == 3) = false) (h2 : (k == 2) = false) :
    Calls Tryd.prog 13 #[.agg #[.int .i64 k, .string (bs s), .int .i64 n]] w (EndsB (str []) w) := by
  have HB := Lib.hid (new_below w k (bs s) n)
  have HN := Lib.hid (new_at w k (bs s) n)
  have z0 := cell_at HN.out 0
  have z1 := cell_at HN.out 1
  have z2 := cell_at HN.out 2
  unfold newW at *
  clear HN
  go_enter Tryd.func13, Tryd.ntmps13
  go_wp2_with fail
  go_ret
  exact ⟨rfl, HB.out⟩
theorem rshow_any (x : Wd) (w : World) (hs : x.s.length ≤ 1000000) (h1 : x.n ≤ 9223372036854775807) : Calls Tryd.prog 13 #[wdV x] w (EndsB (str (shown x)) w) := by
  obtain ⟨k, s, n⟩ := x
  unfold wdV shown
  dsimp only at *
  by_cases k1 : k = 1
  · subst k1; simp only [true_or, if_true]; exact rshow_w1 w s n
  by_cases k4 : k = 4
  · subst k4; simp only [true_or, or_true, if_true]; exact rshow_w4 w s n
  by_cases k5 : k = 5
  · subst k5; simp only [or_true, if_true]; exact rshow_w5 w s n
  rw [if_neg (by omega)]
  by_cases k3 : k = 3
  · subst k3; rw [if_pos rfl]; exact rshow_w3 w s n hs
  rw [if_neg k3]
  by_cases k2 : k = 2
  · subst k2
    by_cases h0 : 0 ≤ n
    · rw [if_pos ⟨rfl, h0⟩]; exact rshow_w2 w s n h0 h1
    · rw [if_neg (by omega)]; exact rshow_w2n w s n (by omega)
  rw [if_neg (by omega)]
  exact rshow_wx w k s n (by simpa using k1) (by simpa using k4) (by simpa using k5) (by simpa using k3) (by simpa using k2)
end Go.Proofs.YtjgkfdhfffbccaaDoor.Lex
