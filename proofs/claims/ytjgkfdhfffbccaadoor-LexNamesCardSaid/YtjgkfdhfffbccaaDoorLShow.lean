/-
  Show: a word as it is written. Conditions: sizes; the number is an int64; the library's table of powers lies as it is laid.
-/
import Derived.Test.YtjgkfdhfffbccaaDoorLWords
import Derived.Test.YtjgkfdhfffbccaaDoorNDigits
namespace Go.Proofs.YtjgkfdhfffbccaaDoor.Lex
open Go.RowKit
open Num (EndsW)
set_option maxRecDepth 100000
theorem digits_at (n : Int) (w : World) (h0 : -9223372036854775808 ≤ n) (h1 : n ≤ 9223372036854775807) (ht : Num.Tab w) : Calls Tryd.prog 25 #[.int .i64 n] w (EndsB (str (Lib.itoa n)) w) := Num.digits_any n w h0 h1 ht
theorem cat_bs (a b : List UInt8) : bs a ++ bs b = bs (a ++ b) := by
  apply ByteArray.ext
  simp [bs]
def newW (w : World) (k : Int) (S : ByteArray) (n : Int) : World := w.alloc (.cells #[.int .i64 k, .string S, .int .i64 n] 23)
theorem new_below (w : World) (k : Int) (S : ByteArray) (n : Int) : Below w.heap.size w (newW w k S n) := (Below.refl _ w).alloc (Nat.le_refl _) _
theorem new_at (w : World) (k : Int) (S : ByteArray) (n : Int) : (newW w k S n).heap[w.heap.size]? = some (.cells #[.int .i64 k, .string S, .int .i64 n] 23 (0, 0)) := heap_alloc_new _ _
theorem endsb_str {a b : List UInt8} {w w1 w' : World} (hab : a = b) (h1 : Below w.heap.size w w1) (h2 : Below w1.heap.size w1 w') : EndsB (str b) w (.returned (.string (bs a))) w' := by subst hab; exact ⟨rfl, h1.trans (h2.mono h1.size)⟩
set_option maxHeartbeats 2000000 in
theorem show_w1 (w : World) (s : List UInt8) (n : Int) (hs : s.length ≤ 1000000) :
    Calls Tryd.prog 12 #[.agg #[.int .i64 1, .string (bs s), .int .i64 n]] w (EndsB (str s) w) := by
  have HB := Lib.hid (new_below w 1 (bs s) n)
  have HN := Lib.hid (new_at w 1 (bs s) n)
  have z0 := cell_at HN.out 0
  have z1 := cell_at HN.out 1
  have z2 := cell_at HN.out 2
  unfold newW at *
  have C := fun w' => Lib.hid (clone_any (bs s) w' (by rw [bs_size]; omega))
  clear hs HN
  go_enter Tryd.func12, Tryd.ntmps12
  go_wp2_with fail
  refine (C _).out.mono ?_
  rintro e w1 ⟨rfl, hb1⟩
  have HB1 := Lib.hid hb1
  clear hb1 z0 z1 z2
  go_wp2_with fail
  go_ret
  exact endsb_str rfl HB.out HB1.out
set_option maxHeartbeats 2000000 in
theorem show_w4 (w : World) (s : List UInt8) (n : Int) (hs : s.length ≤ 1000000) :
    Calls Tryd.prog 12 #[.agg #[.int .i64 4, .string (bs s), .int .i64 n]] w (EndsB (str s) w) := by
  have HB := Lib.hid (new_below w 4 (bs s) n)
  have HN := Lib.hid (new_at w 4 (bs s) n)
  have z0 := cell_at HN.out 0
  have z1 := cell_at HN.out 1
  have z2 := cell_at HN.out 2
  unfold newW at *
  have C := fun w' => Lib.hid (clone_any (bs s) w' (by rw [bs_size]; omega))
  clear hs HN
  go_enter Tryd.func12, Tryd.ntmps12
  go_wp2_with fail
  refine (C _).out.mono ?_
  rintro e w1 ⟨rfl, hb1⟩
  have HB1 := Lib.hid hb1
  clear hb1 z0 z1 z2
  go_wp2_with fail
  go_ret
  exact endsb_str rfl HB.out HB1.out
set_option maxHeartbeats 2000000 in
theorem show_w5 (w : World) (s : List UInt8) (n : Int) (hs : s.length ≤ 1000000) :
    Calls Tryd.prog 12 #[.agg #[.int .i64 5, .string (bs s), .int .i64 n]] w (EndsB (str s) w) := by
  have HB := Lib.hid (new_below w 5 (bs s) n)
  have HN := Lib.hid (new_at w 5 (bs s) n)
  have z0 := cell_at HN.out 0
  have z1 := cell_at HN.out 1
  have z2 := cell_at HN.out 2
  unfold newW at *
  have C := fun w' => Lib.hid (clone_any (bs s) w' (by rw [bs_size]; omega))
  clear hs HN
  go_enter Tryd.func12, Tryd.ntmps12
  go_wp2_with fail
  refine (C _).out.mono ?_
  rintro e w1 ⟨rfl, hb1⟩
  have HB1 := Lib.hid hb1
  clear hb1 z0 z1 z2
  go_wp2_with fail
  go_ret
  exact endsb_str rfl HB.out HB1.out
set_option maxHeartbeats 2000000 in
theorem show_w3 (w : World) (s : List UInt8) (n : Int) (hs : s.length ≤ 1000000) :
    Calls Tryd.prog 12 #[.agg #[.int .i64 3, .string (bs s), .int .i64 n]] w (EndsB (str (quoted s)) w) := by
  have HB := Lib.hid (new_below w 3 (bs s) n)
  have HN := Lib.hid (new_at w 3 (bs s) n)
  have z0 := cell_at HN.out 0
  have z1 := cell_at HN.out 1
  have z2 := cell_at HN.out 2
  unfold newW at *
  have hz : (bs s).size ≤ 1000000 := hs
  have HQ : Hid ((⟨#[34]⟩ : ByteArray) ++ bs s ++ ⟨#[34]⟩ = bs (quoted s)) := Lib.hid (by unfold quoted; rw [← cat_bs, ← cat_bs]; rfl)
  clear hs HN
  go_enter Tryd.func12, Tryd.ntmps12
  go_wp2_with fail
  go_ret
  refine ⟨?_, HB.out⟩
  show Ending.returned (Value.string ((⟨#[34]⟩ : ByteArray) ++ bs s ++ ⟨#[34]⟩)) = _
  rw [HQ.out]; rfl
set_option maxHeartbeats 2000000 in
theorem show_w2 (w : World) (s : List UInt8) (n : Int)  (h0 : 0 ≤ n) (h1 : n ≤ 9223372036854775807) (ht : Num.Tab w) :
    Calls Tryd.prog 12 #[.agg #[.int .i64 2, .string (bs s), .int .i64 n]] w (EndsB (str (Lib.itoa n)) w) := by
  have HB := Lib.hid (new_below w 2 (bs s) n)
  have HN := Lib.hid (new_at w 2 (bs s) n)
  have z0 := cell_at HN.out 0
  have z1 := cell_at HN.out 1
  have z2 := cell_at HN.out 2
  unfold newW at *
  have C := Lib.hid (digits_at n (w.alloc (.cells #[.int .i64 2, .string (bs s), .int .i64 n] 23)) (by omega) h1 (Num.tab_below ht HB.out))
  clear HN h1 ht
  go_enter Tryd.func12, Tryd.ntmps12
  go_wp2_with fail
  refine C.out.mono ?_
  rintro e w1 ⟨rfl, hb1⟩
  have HB1 := Lib.hid hb1
  clear hb1 z0 z1 z2
  unfold str
  go_wp2_with fail
  go_ret
  exact endsb_str rfl HB.out HB1.out
set_option maxHeartbeats 2000000 in
theorem show_w2n (w : World) (s : List UInt8) (n : Int)  (h0 : n < 0) :
    Calls Tryd.prog 12 #[.agg #[.int .i64 2, .string (bs s), .int .i64 n]] w (EndsB (str []) w) := by
  have HB := Lib.hid (new_below w 2 (bs s) n)
  have HN := Lib.hid (new_at w 2 (bs s) n)
  have z0 := cell_at HN.out 0
  have z1 := cell_at HN.out 1
  have z2 := cell_at HN.out 2
  unfold newW at *
  clear HN
  go_enter Tryd.func12, Tryd.ntmps12
  go_wp2_with fail
  go_ret
  exact ⟨rfl, HB.out⟩
set_option maxHeartbeats 2000000 in
theorem show_wx (w : World) (k : Int) (s : List UInt8) (n : Int)  (h1 : (k == 1) = false) (h4 : (k == 4) = false) (h5 : (k == 5) = false) (h3 : (k == 3) = false) (h2 : (k == 2) = false) :
    Calls Tryd.prog 12 #[.agg #[.int .i64 k, .string (bs s), .int .i64 n]] w (EndsB (str []) w) := by
  have HB := Lib.hid (new_below w k (bs s) n)
  have HN := Lib.hid (new_at w k (bs s) n)
  have z0 := cell_at HN.out 0
  have z1 := cell_at HN.out 1
  have z2 := cell_at HN.out 2
  unfold newW at *
  clear HN
  go_enter Tryd.func12, Tryd.ntmps12
  go_wp2_with fail
  go_ret
  exact ⟨rfl, HB.out⟩
theorem show_any (x : Wd) (w : World) (hs : x.s.length ≤ 1000000) (h1 : x.n ≤ 9223372036854775807) (ht : Num.Tab w) : Calls Tryd.prog 12 #[wdV x] w (EndsB (str (shown x)) w) := by
  obtain ⟨k, s, n⟩ := x
  unfold wdV shown
  dsimp only at *
  by_cases k1 : k = 1
  · subst k1; simp only [true_or, if_true]; exact show_w1 w s n hs
  by_cases k4 : k = 4
  · subst k4; simp only [true_or, or_true, if_true]; exact show_w4 w s n hs
  by_cases k5 : k = 5
  · subst k5; simp only [or_true, if_true]; exact show_w5 w s n hs
  rw [if_neg (by omega)]
  by_cases k3 : k = 3
  · subst k3; rw [if_pos rfl]; exact show_w3 w s n hs
  rw [if_neg k3]
  by_cases k2 : k = 2
  · subst k2
    by_cases h0 : 0 ≤ n
    · rw [if_pos ⟨rfl, h0⟩]; exact show_w2 w s n h0 h1 ht
    · rw [if_neg (by omega)]; exact show_w2n w s n (by omega)
  rw [if_neg (by omega)]
  exact show_wx w k s n (by simpa using k1) (by simpa using k4) (by simpa using k5) (by simpa using k3) (by simpa using k2)
end Go.Proofs.YtjgkfdhfffbccaaDoor.Lex
