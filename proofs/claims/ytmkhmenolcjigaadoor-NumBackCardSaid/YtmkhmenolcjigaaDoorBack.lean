/-
  The walk of the stage's theorem of layer 1: it answers true, for every argument, in every world that holds the library's table.
-/
import Derived.Test.YtmkhmenolcjigaaDoorLaws
import Derived.Test.YtmkhmenolcjigaaDoorBackMath
import Derived.Deep.DeepCutAuto
namespace Go.Proofs.YtmkhmenolcjigaaDoor
open Go.RowKit

theorem back_long (n b : Int) (s : ByteArray) (w : World) (hl : 100 < s.size) (hs : s.size ≤ maxLen) (ht : Tab w) :
    Calls Tryd.prog 5 #[.int .i64 n, .string s, .int .i64 b] w (EndsBelow (.bool true) w) := by
  have H := Lib.hid ht
  clear ht
  unfold maxLen at hs
  go_enter Tryd.func5, Tryd.ntmps5
  go_wp2_with fail
  refine (knows_any _ H.out).mono ?_
  rintro e w2 ⟨rfl, b2⟩
  go_wp2_with fail
  go_ret
  exact ⟨rfl, b2⟩

/-- What Read answers for the text of n. -/
theorem read_digits (n : Int) (h0 : -9223372036854775808 ≤ n) (h1 : n ≤ 9223372036854775807) : ∃ m ok, (∀ w, Calls Tryd.prog 13 #[.string ⟨(Lib.itoa n).toArray⟩] w (Ends (pair m ok) w)) ∧ ((0 ≤ n ∧ ok = true ∧ m = n) ∨ (n < 0 ∧ ok = false)) := by
  have e : readV (⟨(Lib.itoa n).toArray⟩ : ByteArray).data.toList = if 0 ≤ n then (n, true) else (0, false) := readV_itoa n h1
  refine ⟨_, _, fun w => read_any ⟨(Lib.itoa n).toArray⟩ w (by
    have := itoa_len n h0 h1
    show (Lib.itoa n).toArray.size ≤ maxLen
    rw [List.size_toArray]
    unfold maxLen
    omega), ?_⟩
  rw [e]
  by_cases hn : 0 ≤ n
  · rw [if_pos hn]; exact Or.inl ⟨hn, rfl, rfl⟩
  · rw [if_neg hn]; exact Or.inr ⟨by omega, rfl⟩
theorem str_read (s : ByteArray) (h : (readV s.data.toList).2 = true) : str (Lib.itoa (readV s.data.toList).1) = .string s := by
  rw [itoa_readV _ h]
  rfl
/-- The second half: what the quotient and what is left of it come to. -/
structure Halves (n b q r : Int) (may : Bool) : Prop where
  div : two 6 n b = (q, may)
  rem : two 7 n b = (r, may)
  may : may = !(b == 0)
  zero : b = 0 → q = 0 ∧ r = 0
  sum : b ≠ 0 → wrap64 (wrap64 (q * b) + r) = n
  pos : 0 < b → -b < r ∧ r < b
  neg : b < 0 → b < r ∧ r < -b
  sign : (0 < r → 0 < n) ∧ (r < 0 → n < 0)
theorem halves (n b : Int) (h0 : -9223372036854775808 ≤ n) (h1 : n ≤ 9223372036854775807) : ∃ q r may, Halves n b q r may := by
  by_cases hb : b = 0
  · subst hb
    exact ⟨0, 0, false, rfl, rfl, rfl, fun _ => ⟨rfl, rfl⟩, fun h => absurd rfl h, fun h => by omega, fun h => by omega, by omega, by omega⟩
  · refine ⟨wrap64 (n.tdiv b), n.tmod b, true, ?_, ?_, by simp [hb], fun h => absurd h hb, fun _ => back n b h0 h1, fun h => left_pos n b h, fun h => left_neg n b h, left_sign n b⟩
    · unfold two; simp [hb]
    · unfold two; simp [hb]

set_option maxHeartbeats 2000000 in
set_option maxRecDepth 100000 in
theorem back_short (n b : Int) (s : ByteArray) (w : World) (h0 : -9223372036854775808 ≤ n) (h1 : n ≤ 9223372036854775807) (g0 : -9223372036854775808 ≤ b) (g1 : b ≤ 9223372036854775807) (hl : s.size ≤ 100) (ht : Tab w) :
    Calls Tryd.prog 5 #[.int .i64 n, .string s, .int .i64 b] w (EndsBelow (.bool true) w) := by
  have H := Lib.hid ht
  clear ht
  obtain ⟨q, r, may, Q⟩ := halves n b h0 h1
  have D := Lib.hid (fun w => two_any 6 n b w)
  have R := Lib.hid (fun w => two_any 7 n b w)
  rw [Q.div] at D
  rw [Q.rem] at R
  have HQ := Lib.hid Q
  clear Q
  have rd := readV_range s.data.toList
  have S := Lib.hid (fun w => read_any s w (by unfold maxLen; omega))
  have T := Lib.hid (fun w ht => digits_any (readV s.data.toList).1 w (by omega) (by omega) ht)
  have U := Lib.hid (str_read s)
  obtain ⟨m, ok, RN, hok⟩ := read_digits n h0 h1
  have RNH := Lib.hid RN
  have DN := Lib.hid (fun w ht => digits_any n w h0 h1 ht)
  have OK := Lib.hid hok
  clear RN hok rd
  unfold str pair at *
  generalize readV s.data.toList = x at *
  obtain ⟨k, is⟩ := x
  go_enter Tryd.func5, Tryd.ntmps5
  go_wp2_with fail
  refine (knows_any _ H.out).mono ?_
  rintro e w1 ⟨rfl, b1⟩
  go_wp2_with fail
  refine (DN.out _ (tab_below H.out b1)).mono ?_
  rintro e w2 ⟨rfl, b2⟩
  go_wp2_with fail
  refine (RNH.out _).mono ?_
  rintro e w3 ⟨rfl, rfl⟩
  go_wp2_with fail
  refine (S.out _).mono ?_
  rintro e w3 ⟨rfl, rfl⟩
  have b3 := b1.trans (b2.mono b1.size)
  go_upto_region 5 with fail
  go_cut [55] (fun s55 wc => s55 = .bool false ∧ Below w.heap.size w wc)
  case first =>
    rcases OK.out with ⟨hn, rfl, rfl⟩ | ⟨hn, rfl⟩
    · cases is
      · go_wp2_with fail
        go_meet
        exact ⟨rfl, b3⟩
      · have T' := Lib.hid (fun w ht => (T.out w ht).mono fun e w' (h : EndsBelow _ _ _ _) => (by rw [U.out rfl] at h; exact h : EndsBelow (.string s) w e w'))
        go_wp2_with fail
        refine (T'.out _ (tab_below H.out b3)).mono ?_
        rintro e w4 ⟨rfl, b4⟩
        go_wp2_with fail
        go_meet
        exact ⟨rfl, b3.trans (b4.mono b3.size)⟩
    · cases is
      · go_wp2_with fail
        go_meet
        exact ⟨by rw [decide_eq_false (by omega)], b3⟩
      · have T' := Lib.hid (fun w ht => (T.out w ht).mono fun e w' (h : EndsBelow _ _ _ _) => (by rw [U.out rfl] at h; exact h : EndsBelow (.string s) w e w'))
        go_wp2_with fail
        refine (T'.out _ (tab_below H.out b3)).mono ?_
        rintro e w4 ⟨rfl, b4⟩
        go_wp2_with fail
        go_meet
        exact ⟨by rw [decide_eq_false (by omega)], b3.trans (b4.mono b3.size)⟩
  case rest =>
    obtain ⟨rfl, b4⟩ := hcut
    go_wp2_with fail
    refine (D.out _).mono ?_
    rintro e w5 ⟨rfl, rfl⟩
    go_wp2_with fail
    refine (R.out _).mono ?_
    rintro e w5 ⟨rfl, rfl⟩
    by_cases hb : b = 0
    · have hm : may = false := by rw [HQ.out.may, hb]; rfl
      have hq := HQ.out.zero hb
      obtain ⟨rfl, rfl⟩ := hq
      subst hb hm
      go_wp2_with fail
      go_ret
      exact ⟨rfl, b4⟩
    have hm : may = true := by rw [HQ.out.may]; simp [hb]
    subst hm
    have bb : (b == 0) = false := by simpa using hb
    have bn : (b != 0) = true := by simpa using hb
    have hs := HQ.out.sum hb
    have hs' : (wrap64 (wrap64 (q * b) + r) == n) = true := by rw [hs]; simp
    have HS := Lib.hid hs'
    clear hs hs'
    have hsgn : (r = 0 ∨ (0 < r ∧ 0 < n) ∨ (r < 0 ∧ n < 0)) := by have := HQ.out.sign; omega
    by_cases hpos : 0 < b
    · obtain ⟨r1, r2⟩ := HQ.out.pos hpos
      clear hb
      rcases hsgn with h0r | ⟨s1, s2⟩ | ⟨s1, s2⟩
      · have z : (r == 0) = true := by rw [beq_iff_eq]; exact h0r
        clear h0r
        have hs := HS.out
        go_wp2_with fail
        go_ret
        exact ⟨rfl, b4⟩
      · have z : (r == 0) = false := by rw [beq_eq_false_iff_ne]; omega
        have hs := HS.out
        go_wp2_with fail
        go_ret
        exact ⟨rfl, b4⟩
      · have z : (r == 0) = false := by rw [beq_eq_false_iff_ne]; omega
        have hs := HS.out
        go_wp2_with fail
        go_ret
        exact ⟨by show Ending.returned (Value.bool (decide (0 < r) == decide (0 < n))) = _; rw [decide_eq_false (p := 0 < r) (by omega), decide_eq_false (p := 0 < n) (by omega)]; rfl, b4⟩
    · obtain ⟨r1, r2⟩ := HQ.out.neg (by omega)
      have hneg : b < 0 := by omega
      clear hb hpos
      by_cases hmin : -9223372036854775807 ≤ b
      · have hc : (b == -9223372036854775808) = false := by rw [beq_eq_false_iff_ne]; omega
        rcases hsgn with h0r | ⟨s1, s2⟩ | ⟨s1, s2⟩
        · have z : (r == 0) = true := by rw [beq_iff_eq]; exact h0r
          clear h0r
          have hs := HS.out
          go_wp2_with fail
          go_ret
          exact ⟨rfl, b4⟩
        · have z : (r == 0) = false := by rw [beq_eq_false_iff_ne]; omega
          have hs := HS.out
          go_wp2_with fail
          go_ret
          exact ⟨rfl, b4⟩
        · have z : (r == 0) = false := by rw [beq_eq_false_iff_ne]; omega
          have hs := HS.out
          go_wp2_with fail
          go_ret
          exact ⟨by show Ending.returned (Value.bool (decide (0 < r) == decide (0 < n))) = _; rw [decide_eq_false (p := 0 < r) (by omega), decide_eq_false (p := 0 < n) (by omega)]; rfl, b4⟩
      · have hc : (b == -9223372036854775808) = true := by rw [beq_iff_eq]; omega
        clear hmin
        rcases hsgn with h0r | ⟨s1, s2⟩ | ⟨s1, s2⟩
        · have z : (r == 0) = true := by rw [beq_iff_eq]; exact h0r
          clear h0r
          have hs := HS.out
          go_wp2_with fail
          go_ret
          exact ⟨rfl, b4⟩
        · have z : (r == 0) = false := by rw [beq_eq_false_iff_ne]; omega
          have hs := HS.out
          go_wp2_with fail
          go_ret
          exact ⟨rfl, b4⟩
        · have z : (r == 0) = false := by rw [beq_eq_false_iff_ne]; omega
          have hs := HS.out
          go_wp2_with fail
          go_ret
          exact ⟨by show Ending.returned (Value.bool (decide (0 < r) == decide (0 < n))) = _; rw [decide_eq_false (p := 0 < r) (by omega), decide_eq_false (p := 0 < n) (by omega)]; rfl, b4⟩
theorem back_any (n b : Int) (s : ByteArray) (w : World) (h0 : -9223372036854775808 ≤ n) (h1 : n ≤ 9223372036854775807) (g0 : -9223372036854775808 ≤ b) (g1 : b ≤ 9223372036854775807) (hs : s.size ≤ maxLen) (ht : Tab w) :
    Calls Tryd.prog 5 #[.int .i64 n, .string s, .int .i64 b] w (EndsBelow (.bool true) w) := by
  by_cases hl : 100 < s.size
  · exact back_long n b s w hl hs ht
  · exact back_short n b s w h0 h1 g0 g1 (by omega) ht
end Go.Proofs.YtmkhmenolcjigaaDoor
