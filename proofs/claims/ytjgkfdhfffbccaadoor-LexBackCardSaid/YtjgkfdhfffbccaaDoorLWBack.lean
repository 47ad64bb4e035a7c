/-
  The walk of the stage's theorem of layer 8: it answers true, for every text, in every world that holds the two tables.
-/
import Derived.Test.YtjgkfdhfffbccaaDoorLBack
import Derived.Test.YtjgkfdhfffbccaaDoorLKnow
namespace Go.Proofs.YtjgkfdhfffbccaaDoor.Lex
open Go.RowKit
open Num (EndsW)
set_option maxRecDepth 100000
theorem flat_take {l : List Wd} {k : Nat} {x : Wd} (hx : l[k]? = some x) : flat (l.take (k + 1)) = flat (l.take k) ++ (shown x ++ [32]) := by
  obtain ⟨hk, e⟩ := List.getElem?_eq_some_iff.1 hx
  rw [List.take_succ_eq_append_getElem hk, flat_snoc, e]
theorem good_n {x : Wd} (h : Good x) : x.n ≤ 9223372036854775807 ∧ x.s.length ≤ 1000000 := by
  cases h with
  | name s c q e ha hd hl => exact ⟨by show (0 : Int) ≤ 9223372036854775807; omega, by show s.length ≤ 1000000; omega⟩
  | num n h0 h1 => exact ⟨h1, Nat.zero_le _⟩
  | text s h => exact ⟨by show (0 : Int) ≤ 9223372036854775807; omega, by have := (text_all h).2; show s.length ≤ 1000000; omega⟩
  | sign s h => exact ⟨by show (0 : Int) ≤ 9223372036854775807; omega, by have := (signs_len h).2; show s.length ≤ 1000000; omega⟩
set_option maxHeartbeats 4000000 in
theorem back_long (t : List UInt8) (w : World) (hS : Signs w) (hl : 1200 < t.length) : Calls Tryd.prog 4 #[.string (bs t)] w (EndsB (.bool true) w) := by
  have CK := Lib.hid (knows_any w hS)
  have hd : decide ((1200 : Int) < ((bs t).size : Int)) = true := by rw [bs_size]; simp; omega
  clear hS hl
  go_enter Tryd.func4, Tryd.ntmps4
  go_wp2_with fail
  refine CK.out.mono ?_
  rintro e w1 ⟨rfl, hb⟩
  have HB := Lib.hid hb
  clear hb
  go_wp2_with fail
  go_ret
  exact ⟨rfl, HB.out⟩
set_option maxHeartbeats 8000000 in
theorem back_short (t : List UInt8) (w : World) (hS : Signs w) (hT : Num.Tab w) (hl : t.length ≤ 1200) : Calls Tryd.prog 4 #[.string (bs t)] w (EndsB (.bool true) w) := by
  have CK := Lib.hid (knows_any w hS)
  have CN := fun e w' => Lib.hid (num_any e w')
  have HS := Lib.hid hS
  have HT := Lib.hid hT
  have hd : decide ((1200 : Int) < ((bs t).size : Int)) = false := by rw [bs_size]; simp; omega
  clear hS hl hT
  go_enter Tryd.func4, Tryd.ntmps4
  go_wp2_with fail
  refine CK.out.mono ?_
  rintro e w1 ⟨rfl, hb⟩
  have HB := Lib.hid hb
  have HS1 := Lib.hid (HS.out.below HS.out.pos hb)
  have HT1 := Lib.hid (Num.tab_below HT.out hb)
  have CW := Lib.hid (words_any t w1 HS1.out)
  clear hb CK
  go_wp2_with fail
  refine CW.out.mono ?_
  rintro e w2 ⟨v, rfl, hv, hb⟩
  have HB2 := Lib.hid (HB.out.trans (hb.mono HB.out.size))
  have HS2 := Lib.hid (HS1.out.below HS1.out.pos hb)
  have HT2 := Lib.hid (Num.tab_below HT1.out hb)
  clear HB HS1 HT1 CW
  obtain ⟨A, c, rfl⟩ := hv.form
  by_cases he : (words t).2 = 0
  · obtain ⟨l, hw⟩ : ∃ l, words t = (l, 0) := ⟨(words t).1, by rw [← he]⟩
    have HG := Lib.hid (words_good hw)
    have hwd := hv.wds
    rw [hw] at hwd ⊢
    dsimp only at hwd ⊢
    have HW := Lib.hid hwd
    have HNN := Lib.hid (rfl : l.length = l.length)
    clear hv hb he hw hwd hd
    obtain ⟨n, hn⟩ : ∃ n, n = l.length := ⟨_, rfl⟩
    rw [← hn]
    have HN := Lib.hid hn
    have hn2 : n ≤ 2048 := by rw [hn]; exact HG.out.2.2
    clear hn HNN
    go_wp2_with (go_at_call 15; refine (CN _ _).out.mono ?_; rintro e w' ⟨rfl, rfl⟩)
    go_loopw [5, 6] (fun s i wr => ∃ k : Nat, k ≤ n ∧ i = .int .i64 k ∧ s = .string (bs (flat (l.take k))) ∧ Below w2.heap.size w2 wr) (fun _ i _ => n - (intOf i).toNat)
    case atStart => exact ⟨0, by omega, rfl, rfl, Below.refl _ _⟩
    case round =>
      obtain ⟨k, hk, rfl, rfl, hb⟩ := hrel
      have HBW := Lib.hid hb
      clear hb
      by_cases hlt : k < n
      · obtain ⟨x, hx⟩ : ∃ x, l[k]? = some x := ⟨_, List.getElem?_eq_getElem (by rw [← HN.out]; exact hlt)⟩
        have HGX := Lib.hid (HG.out.1 x (List.mem_of_getElem? hx))
        have HF := Lib.hid (flat_take hx)
        have HFL := Lib.hid (flat_len (l := l.take k) (fun y hy => HG.out.1 y (List.mem_of_mem_take hy)))
        obtain ⟨b, o, hA, _, hc⟩ := (HW.out.below HBW.out) (by rw [← HN.out]; omega)
        obtain ⟨p0, p1, p2⟩ := hc k x hx
        have CS := Lib.hid (show_any x wr (good_n HGX.out).2 (good_n HGX.out).1 (Num.tab_below HT2.out HBW.out))
        have HSL := Lib.hid (shown_len HGX.out)
        subst hA
        clear hc hx
        rw [← Nat.add_assoc] at p1 p2
        have hz1 : (bs (flat (l.take k))).size ≤ 50000 := by
          rw [bs_size]
          have := HFL.out
          rw [List.length_take] at this
          omega
        have hz2 : (bs (shown x)).size ≤ 20 := by rw [bs_size]; exact HSL.out.2
        have HCAT : Hid (bs (flat (l.take k)) ++ bs (shown x) ++ (⟨#[32]⟩ : ByteArray) = bs (flat (l.take (k + 1)))) := Lib.hid (by
          rw [HF.out, ← cat_bs, ← cat_bs, ByteArray.append_assoc]; rfl)
        unfold wdV str at CS
        go_wp2_with fail
        refine CS.out.mono ?_
        rintro e w' ⟨rfl, hb⟩
        have HB3 := Lib.hid (HBW.out.trans (hb.mono HBW.out.size))
        clear p0 p1 p2 hb CS
        go_wp2_with fail
        go_roundw
        case rel => exact ⟨k + 1, by omega, by go_num, by rw [HCAT.out], HB3.out⟩
        case measure => simp [intOf]; omega
      · obtain rfl : k = n := by omega
        have HFF : Hid (flat (l.take k) = flat l) := Lib.hid (by rw [HN.out, List.take_length])
        rw [HFF.out]
        have HB3 := Lib.hid (HB2.out.trans (HBW.out.mono HB2.out.size))
        have HW3 := Lib.hid (HW.out.below HBW.out)
        have HS3 := Lib.hid (HS2.out.below HS2.out.pos HBW.out)
        clear hlt hk HFF HBW
        by_cases hs : 4096 < (flat l).length
        · have hd1 : decide ((4096 : Int) < ((bs (flat l)).size : Int)) = true := by rw [bs_size]; simp; omega
          clear hs
          go_wp2_with fail
          go_ret
          exact ⟨rfl, HB3.out⟩
        have hd1 : decide ((4096 : Int) < ((bs (flat l)).size : Int)) = false := by rw [bs_size]; simp; omega
        by_cases hm : 2048 ≤ k
        · clear hs
          go_wp2_with fail
          all_goals go_ret
          all_goals exact ⟨rfl, HB3.out⟩
        have CW := Lib.hid (words_any (flat l) wr HS3.out)
        have HWF := Lib.hid (words_flat HG.out.1 HG.out.2.1 (by omega) HG.out.2.2)
        clear hs
        go_wp2_with fail
        refine CW.out.mono ?_
        rintro e w4 ⟨v4, rfl, hv4, hb4⟩
        rw [HWF.out] at hv4 ⊢
        dsimp only at hv4 ⊢
        obtain ⟨A4, c4, rfl⟩ := hv4.form
        have HW4 := Lib.hid hv4.wds
        have HW5 := Lib.hid (HW3.out.below hb4)
        have HB4 := Lib.hid (HB3.out.trans (hb4.mono HB3.out.size))
        rw [← HN.out]
        clear hv4 hb4 CW
        go_wp2_with fail
        have HA4 : Hid (Below w4.heap.size w4 (w4.alloc (.cells #[.int .i64 5, .string ⟨#[59]⟩, .int .i64 0] 23))) := Lib.hid ((Below.refl _ w4).alloc (Nat.le_refl _) _)
        have HW6 := Lib.hid (HW4.out.below HA4.out)
        have HW7 := Lib.hid (HW5.out.below HA4.out)
        have HB5 := Lib.hid (HB4.out.trans (HA4.out.mono HB4.out.size))
        clear HA4 HW4 HW5 HB4
        generalize w4.alloc (.cells #[.int .i64 5, .string ⟨#[59]⟩, .int .i64 0] 23) = w5 at *
        go_loopw [7] (fun v wr => v = .slice A4 k c4 ∧ ∃ m, wr = w5.drewN m) (fun _ _ => 0)
        case atStart => exact ⟨rfl, 0, rfl⟩
        case round =>
          obtain ⟨rfl, m, rfl⟩ := hrel
          go_wp2_with fail
          go_quiet (fail)
          have HX : Hid (Below w5.heap.size w5 ((w5.drewN m).drewN nq)) := Lib.hid ⟨rfl, rfl, rfl, Nat.le_refl _, fun _ _ => rfl⟩
          generalize (w5.drewN m).drewN nq = w6 at *
          have HB6 := Lib.hid (HB5.out.trans (HX.out.mono HB5.out.size))
          have CY := Lib.hid (same_yes w6 A A4 k c c4 l (HW7.out.below HX.out) (HW6.out.below HX.out) HN.out.symm (by omega))
          go_wp2_with (go_at_call 15; refine (CN _ _).out.mono ?_; rintro e w' ⟨rfl, rfl⟩)
          refine CY.out.mono ?_
          rintro e w7 ⟨rfl, hb⟩
          have HB7 := Lib.hid (HB6.out.trans (hb.mono HB6.out.size))
          clear hb
          go_wp2_with fail
          go_ret
          exact ⟨rfl, HB7.out⟩
  · have hno := words_none he
    rw [hno] at ⊢
    have b1 : ((words t).2 == 0) = false := by simpa using he
    have b2 : ((words t).2 != 0) = true := by simpa using he
    clear hno hv hb he HS2 HT2
    generalize (words t).2 = E at *
    go_wp2_with (go_at_call 15; refine (CN _ _).out.mono ?_; rintro e w' ⟨rfl, rfl⟩)
    go_ret
    exact ⟨rfl, HB2.out⟩
theorem back_any (t : ByteArray) (w : World) (hS : Signs w) (hT : Num.Tab w) : Calls Tryd.prog 4 #[.string t] w (EndsB (.bool true) w) := by
  rw [← bs_of t]
  by_cases h : 1200 < t.data.toList.length
  · exact back_long _ w hS h
  · exact back_short _ w hS hT (by omega)
end Go.Proofs.YtjgkfdhfffbccaaDoor.Lex
