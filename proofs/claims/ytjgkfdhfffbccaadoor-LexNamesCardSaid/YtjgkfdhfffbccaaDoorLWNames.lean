/-
  The walk of the law on names: it answers true, for every text and every word, in every world that holds the two tables.
-/
import Derived.Test.YtjgkfdhfffbccaaDoorLKnow
import Derived.Test.YtjgkfdhfffbccaaDoorFHeld
namespace Go.Proofs.YtjgkfdhfffbccaaDoor.Lex
open Go.RowKit
open Num (EndsW)
set_option maxRecDepth 100000
set_option maxHeartbeats 4000000 in
theorem names_long (t : List UInt8) (k : Int) (s : List UInt8) (n : Int) (w : World) (hS : Signs w) (hl : 300 < t.length ∨ 300 < s.length) : Calls Tryd.prog 3 #[.string (bs t), .agg #[.int .i64 k, .string (bs s), .int .i64 n]] w (EndsB (.bool true) w) := by
  have HB := Lib.hid (new_below w k (bs s) n)
  have HN := Lib.hid (new_at w k (bs s) n)
  have CK := Lib.hid (knows_any (newW w k (bs s) n) (hS.below hS.pos HB.out))
  have z1 := cell_at HN.out 1
  unfold newW at *
  clear HN hS
  by_cases h1 : 300 < t.length
  · have hd : decide ((300 : Int) < ((bs t).size : Int)) = true := by rw [bs_size]; simp; omega
    clear h1 hl
    go_enter Tryd.func3, Tryd.ntmps3
    go_wp2_with fail
    refine CK.out.mono ?_
    rintro e w1 ⟨rfl, hb⟩
    have HB1 := Lib.hid (HB.out.trans (hb.mono HB.out.size))
    clear hb z1
    go_wp2_with fail
    go_ret
    exact ⟨rfl, HB1.out⟩
  · have hd : decide ((300 : Int) < ((bs t).size : Int)) = false := by rw [bs_size]; simp; omega
    have hd2 : decide ((300 : Int) < ((bs s).size : Int)) = true := by rw [bs_size]; simp; omega
    clear h1 hl
    go_enter Tryd.func3, Tryd.ntmps3
    go_wp2_with fail
    refine CK.out.mono ?_
    rintro e w1 ⟨rfl, hb⟩
    have HB1 := Lib.hid (HB.out.trans (hb.mono HB.out.size))
    clear hb z1
    go_wp2_with fail
    go_ret
    exact ⟨rfl, HB1.out⟩
set_option maxHeartbeats 8000000 in
theorem names_short (t : List UInt8) (k : Int) (s : List UInt8) (n : Int) (w : World) (hS : Signs w) (hT : Num.Tab w) (h1 : t.length ≤ 300) (h2 : s.length ≤ 300) (hn : n ≤ 9223372036854775807) : Calls Tryd.prog 3 #[.string (bs t), .agg #[.int .i64 k, .string (bs s), .int .i64 n]] w (EndsB (.bool true) w) := by
  have HB := Lib.hid (new_below w k (bs s) n)
  have HN := Lib.hid (new_at w k (bs s) n)
  have HS0 := Lib.hid hS
  have HT0 := Lib.hid hT
  have CKEY := fun w' => Lib.hid (key_at (bs t) w')
  have CRKEY := fun w' => Lib.hid (rkey_any (bs t) w')
  have CNAME := fun w' => Lib.hid (name_any (bs t) w' (by rw [bs_size]; unfold maxLen; omega))
  have CRNAME := fun w' => Lib.hid (rname_is (bs t) w' (by rw [bs_size]; omega))
  have CUP := fun w' => Lib.hid (upper_any (bs t) w')
  have CRUP := fun w' => Lib.hid (rupper_any (bs t) w')
  have CSHOW := fun w' (ht : Num.Tab w') => Lib.hid (show_any ⟨k, s, n⟩ w' (by show s.length ≤ 1000000; omega) hn ht)
  have CRSHOW := fun w' => Lib.hid (rshow_any ⟨k, s, n⟩ w' (by show s.length ≤ 1000000; omega) hn)
  unfold wdV str at CSHOW CRSHOW
  dsimp only at CSHOW CRSHOW
  have z1 := cell_at HN.out 1
  have hd : decide ((300 : Int) < ((bs t).size : Int)) = false := by rw [bs_size]; simp; omega
  have hd2 : decide ((300 : Int) < ((bs s).size : Int)) = false := by rw [bs_size]; simp; omega
  unfold newW at *
  clear h1 h2 hS hT hn
  generalize bs t = X at *
  generalize keyB X.data.toList = b1 at *
  generalize nameOk X.data.toList = b2 at *
  generalize upperB X.data.toList = b3 at *
  generalize shown ⟨k, s, n⟩ = sh at *
  generalize bs s = Y at *
  have hsh : (bs sh).toList = sh := bs_toList sh
  go_enter Tryd.func3, Tryd.ntmps3
  go_wp2_with fail
  have HB0 : Hid (Below w.heap.size w (w.alloc (.cells #[.int .i64 k, .string Y, .int .i64 n] 23)).drew) := Lib.hid ⟨HB.out.os, HB.out.tape, HB.out.output, HB.out.size, HB.out.block⟩
  have HS : Hid ((w.alloc (.cells #[.int .i64 k, .string Y, .int .i64 n] 23)).drew.heap[w.heap.size]? = some (.cells #[.int .i64 k, .string Y, .int .i64 n] 23 (0, 0))) := HN
  clear HN z1 hd hd2 HB
  refine Frm.wh_start (fun u => u.heap[w.heap.size]? = some (.cells #[.int .i64 k, .string Y, .int .i64 n] 23 (0, 0))) (by kernel_rfl) ?_
  generalize (w.alloc (.cells #[.int .i64 k, .string Y, .int .i64 n] 23)).drew = u0 at *
  refine Frm.wh_take 0 15 (.string X) rfl rfl (by kernel_rfl) (fun _ _ _ h => h) rfl (HS.out) (fun w' hw' => ?_) ?_
  · exact rfl
  go_frame
  refine Frm.wh_take 2 17 (.string X) rfl rfl (by kernel_rfl) (fun _ _ _ h => h) rfl (HS.out) (fun w' hw' => ?_) ?_
  · exact rfl
  go_frame
  refine Frm.wh_call 1 16 6 #[.string X] rfl rfl (by kernel_rfl) rfl ?_ ?_
  · go_simp
  refine (CKEY _).out.mono ?_
  rintro e u' ⟨rfl, rfl⟩
  refine ⟨_, rfl, HS.out, ?_⟩
  go_frame
  refine Frm.wh_call 3 18 7 #[.string X] rfl rfl (by kernel_rfl) rfl ?_ ?_
  · go_simp
  refine (CRKEY _).out.mono ?_
  rintro e u1 ⟨rfl, hb⟩
  have HB1 := Lib.hid (HB0.out.trans (hb.mono HB0.out.size))
  have HS' := Lib.hid ((hb.block _ (lt_of_heap HS.out)).trans HS.out)
  clear HS hb HB0
  have HS := HS'
  clear HS'
  refine ⟨_, rfl, HS.out, ?_⟩
  go_frame
  refine Frm.wh_take 4 19 (.bool true) rfl rfl (by kernel_rfl) (fun _ _ _ h => h) rfl (HS.out) (fun w' hw' => ?_) ?_
  · go_simp
  go_frame
  refine Frm.wh_take 5 20 (.bool true) rfl rfl (by kernel_rfl) (fun _ _ _ h => h) rfl (HS.out) (fun w' hw' => ?_) ?_
  · exact rfl
  go_frame
  refine Frm.wh_take 6 21 (.string X) rfl rfl (by kernel_rfl) (fun _ _ _ h => h) rfl (HS.out) (fun w' hw' => ?_) ?_
  · exact rfl
  go_frame
  refine Frm.wh_take 8 23 (.string X) rfl rfl (by kernel_rfl) (fun _ _ _ h => h) rfl (HS.out) (fun w' hw' => ?_) ?_
  · exact rfl
  go_frame
  refine Frm.wh_call 7 22 8 #[.string X] rfl rfl (by kernel_rfl) rfl ?_ ?_
  · go_simp
  refine (CNAME _).out.mono ?_
  rintro e u2 ⟨rfl, hb⟩
  have HB2 := Lib.hid (HB1.out.trans (hb.mono HB1.out.size))
  have HS' := Lib.hid ((hb.block _ (lt_of_heap HS.out)).trans HS.out)
  clear HS hb HB1
  have HS := HS'
  clear HS'
  refine ⟨_, rfl, HS.out, ?_⟩
  go_frame
  refine Frm.wh_call 9 24 9 #[.string X] rfl rfl (by kernel_rfl) rfl ?_ ?_
  · go_simp
  refine (CRNAME _).out.mono ?_
  rintro e u3 ⟨rfl, hb⟩
  have HB3 := Lib.hid (HB2.out.trans (hb.mono HB2.out.size))
  have HS' := Lib.hid ((hb.block _ (lt_of_heap HS.out)).trans HS.out)
  clear HS hb HB2
  have HS := HS'
  clear HS'
  refine ⟨_, rfl, HS.out, ?_⟩
  go_frame
  refine Frm.wh_take 10 25 (.bool true) rfl rfl (by kernel_rfl) (fun _ _ _ h => h) rfl (HS.out) (fun w' hw' => ?_) ?_
  · go_simp
  go_frame
  refine Frm.wh_take 11 26 (.bool true) rfl rfl (by kernel_rfl) (fun _ _ _ h => h) rfl (HS.out) (fun w' hw' => ?_) ?_
  · go_simp
  go_frame
  refine Frm.wh_take 12 27 (.bool true) rfl rfl (by kernel_rfl) (fun _ _ _ h => h) rfl (HS.out) (fun w' hw' => ?_) ?_
  · exact rfl
  go_frame
  refine Frm.wh_take 13 28 (.string X) rfl rfl (by kernel_rfl) (fun _ _ _ h => h) rfl (HS.out) (fun w' hw' => ?_) ?_
  · exact rfl
  go_frame
  refine Frm.wh_take 15 30 (.string X) rfl rfl (by kernel_rfl) (fun _ _ _ h => h) rfl (HS.out) (fun w' hw' => ?_) ?_
  · exact rfl
  go_frame
  refine Frm.wh_call 14 29 10 #[.string X] rfl rfl (by kernel_rfl) rfl ?_ ?_
  · go_simp
  refine (CUP _).out.mono ?_
  rintro e u' ⟨rfl, rfl⟩
  refine ⟨_, rfl, HS.out, ?_⟩
  go_frame
  refine Frm.wh_call 16 31 11 #[.string X] rfl rfl (by kernel_rfl) rfl ?_ ?_
  · go_simp
  refine (CRUP _).out.mono ?_
  rintro e u' ⟨rfl, rfl⟩
  refine ⟨_, rfl, HS.out, ?_⟩
  go_frame
  refine Frm.wh_take 17 32 (.bool true) rfl rfl (by kernel_rfl) (fun _ _ _ h => h) rfl (HS.out) (fun w' hw' => ?_) ?_
  · go_simp
  go_frame
  refine Frm.wh_take 18 33 (.bool true) rfl rfl (by kernel_rfl) (fun _ _ _ h => h) rfl (HS.out) (fun w' hw' => ?_) ?_
  · go_simp
  go_frame
  refine Frm.wh_take 19 34 (.bool true) rfl rfl (by kernel_rfl) (fun _ _ _ h => h) rfl (HS.out) (fun w' hw' => ?_) ?_
  · exact rfl
  go_frame
  refine Frm.wh_take 20 35 (.agg #[.int .i64 k, .string Y, .int .i64 n]) rfl rfl (by kernel_rfl) (fun _ _ _ h => h) rfl (HS.out) (fun w' hw' => ?_) ?_
  · have y0 := cell_at hw' 0
    have y1 := cell_at hw' 1
    have y2 := cell_at hw' 2
    go_simp
  go_frame
  refine Frm.wh_take 22 37 (.agg #[.int .i64 k, .string Y, .int .i64 n]) rfl rfl (by kernel_rfl) (fun _ _ _ h => h) rfl (HS.out) (fun w' hw' => ?_) ?_
  · have y0 := cell_at hw' 0
    have y1 := cell_at hw' 1
    have y2 := cell_at hw' 2
    go_simp
  go_frame
  refine Frm.wh_call 21 36 12 #[.agg #[.int .i64 k, .string Y, .int .i64 n]] rfl rfl (by kernel_rfl) rfl ?_ ?_
  · go_simp
  refine (CSHOW _ (Num.tab_below HT0.out HB3.out)).out.mono ?_
  rintro e u4 ⟨rfl, hb⟩
  have HB4 := Lib.hid (HB3.out.trans (hb.mono HB3.out.size))
  have HS' := Lib.hid ((hb.block _ (lt_of_heap HS.out)).trans HS.out)
  clear HS hb HB3
  have HS := HS'
  clear HS'
  refine ⟨_, rfl, HS.out, ?_⟩
  go_frame
  refine Frm.wh_call 23 38 13 #[.agg #[.int .i64 k, .string Y, .int .i64 n]] rfl rfl (by kernel_rfl) rfl ?_ ?_
  · go_simp
  refine (CRSHOW _).out.mono ?_
  rintro e u5 ⟨rfl, hb⟩
  have HB5 := Lib.hid (HB4.out.trans (hb.mono HB4.out.size))
  have HS' := Lib.hid ((hb.block _ (lt_of_heap HS.out)).trans HS.out)
  clear HS hb HB4
  have HS := HS'
  clear HS'
  refine ⟨_, rfl, HS.out, ?_⟩
  go_frame
  refine Frm.wh_take 24 39 (.bool true) rfl rfl (by kernel_rfl) (fun _ _ _ h => h) rfl (HS.out) (fun w' hw' => ?_) ?_
  · go_simp
  go_frame
  refine Frm.wh_take 25 40 (.bool true) rfl rfl (by kernel_rfl) (fun _ _ _ h => h) rfl (HS.out) (fun w' hw' => ?_) ?_
  · go_simp
  go_frame
  refine Frm.wh_take 26 41 (.bool true) rfl rfl (by kernel_rfl) (fun _ _ _ h => h) rfl (HS.out) (fun w' hw' => ?_) ?_
  · exact rfl
  go_frame
  refine Frm.wh_call 27 42 5 #[] rfl rfl (by kernel_rfl) rfl ?_ ?_
  · go_simp
  refine (Lib.hid (knows_any _ (HS0.out.below HS0.out.pos HB5.out))).out.mono ?_
  rintro e u6 ⟨rfl, hb⟩
  have HB6 := Lib.hid (HB5.out.trans (hb.mono HB5.out.size))
  have HS' := Lib.hid ((hb.block _ (lt_of_heap HS.out)).trans HS.out)
  clear HS hb HB5
  have HS := HS'
  clear HS'
  refine ⟨_, rfl, HS.out, ?_⟩
  go_frame
  refine Frm.wh_take 28 43 (.bool true) rfl rfl (by kernel_rfl) (fun _ _ _ h => h) rfl (HS.out) (fun w' hw' => ?_) ?_
  · go_simp
  go_frame
  refine Frm.wh_take 29 4 (.bool true) rfl rfl (by kernel_rfl) (fun _ _ _ h => h) rfl (HS.out) (fun w' hw' => ?_) ?_
  · exact rfl
  go_frame
  refine wpAnyH_done (by kernel_rfl) ?_ _
  go_wp2_with fail
  go_ret
  exact ⟨rfl, HB6.out⟩
theorem names_any (t : ByteArray) (k : Int) (s : ByteArray) (n : Int) (w : World) (hS : Signs w) (hT : Num.Tab w) (hn : n ≤ 9223372036854775807) : Calls Tryd.prog 3 #[.string t, .agg #[.int .i64 k, .string s, .int .i64 n]] w (EndsB (.bool true) w) := by
  rw [← bs_of t, ← bs_of s]
  by_cases h : 300 < t.data.toList.length ∨ 300 < s.data.toList.length
  · exact names_long _ k _ n w hS h
  · exact names_short _ k _ n w hS hT (by omega) (by omega) hn
end Go.Proofs.YtjgkfdhfffbccaaDoor.Lex
