/-
  What the document's Key, Name, Upper and Show answer: the same functions of the bytes. Conditions: sizes; the number is an int64.
-/
import Derived.Test.YtofadlenblobnaaLName
namespace Go.Proofs.Ytofadlenblobnaa.Lex
open Go.RowKit
open Num (EndsW)
set_option maxRecDepth 100000
def letterI (c : Int) : Bool := decide (97 ≤ c ∧ c ≤ 122) || greatI c || decide (c = 95)
theorem name_split (c : Int) : nameI c = (letterI c || digI c) := by
  unfold nameI letterI
  cases decide (97 ≤ c ∧ c ≤ 122) <;> cases greatI c <;> cases digI c <;> cases decide (c = 95) <;> rfl
theorem rdigit_any (c : Int) (w : World) : Calls Try.prog 53 #[.int .u8 c] w (EndsW (.bool (digI c)) w) := by
  by_cases h1 : 48 ≤ c
  · by_cases h2 : c ≤ 57
    · have H := Lib.hid (show digI c = true by unfold digI; simp; omega)
      go_enter Try.func53, Try.ntmps53
      go_wp2
      go_ret
      exact ends_bool H.out.symm
    · have H := Lib.hid (show digI c = false by unfold digI; simp; omega)
      have b1 : decide (c ≤ 57) = false := by simpa using h2
      go_enter Try.func53, Try.ntmps53
      go_wp2
      go_ret
      exact ends_bool H.out.symm
  · have H := Lib.hid (show digI c = false by unfold digI; simp; omega)
    go_enter Try.func53, Try.ntmps53
    go_wp2
    go_ret
    exact ends_bool H.out.symm
theorem rletter_small (c : Int) (w : World) (h1 : 97 ≤ c) (h2 : c ≤ 122) : Calls Try.prog 54 #[.int .u8 c] w (EndsW (.bool (letterI c)) w) := by
  have H := Lib.hid (show letterI c = true by unfold letterI greatI; simp; omega)
  have b1 : decide (97 ≤ c) = true := by simp; omega
  have b2 : decide (c ≤ 122) = true := by simp; omega
  go_enter Try.func54, Try.ntmps54
  go_wp2
  go_ret
  exact ends_bool H.out.symm
theorem rletter_great (c : Int) (w : World) (h1 : 65 ≤ c) (h2 : c ≤ 90) : Calls Try.prog 54 #[.int .u8 c] w (EndsW (.bool (letterI c)) w) := by
  have H := Lib.hid (show letterI c = true by unfold letterI greatI; simp; omega)
  have b1 : decide (97 ≤ c) = false := by simp; omega
  have b3 : decide (65 ≤ c) = true := by simp; omega
  have b4 : decide (c ≤ 90) = true := by simp; omega
  go_enter Try.func54, Try.ntmps54
  go_wp2
  go_ret
  exact ends_bool H.out.symm
theorem rletter_low (c : Int) (w : World) (h1 : c < 65) : Calls Try.prog 54 #[.int .u8 c] w (EndsW (.bool (letterI c)) w) := by
  have H := Lib.hid (show letterI c = false by unfold letterI greatI; simp; omega)
  have b1 : decide (97 ≤ c) = false := by simp; omega
  have b3 : decide (65 ≤ c) = false := by simp; omega
  have b5 : (c == 95) = false := by simp; omega
  go_enter Try.func54, Try.ntmps54
  go_wp2
  go_ret
  exact ends_bool H.out.symm
theorem rletter_mid (c : Int) (w : World) (h1 : 90 < c) (h2 : c < 97) (h3 : c ≠ 95) : Calls Try.prog 54 #[.int .u8 c] w (EndsW (.bool (letterI c)) w) := by
  have H := Lib.hid (show letterI c = false by unfold letterI greatI; simp; omega)
  have b1 : decide (97 ≤ c) = false := by simp; omega
  have b3 : decide (65 ≤ c) = true := by simp; omega
  have b4 : decide (c ≤ 90) = false := by simp; omega
  have b5 : (c == 95) = false := by simp; omega
  clear h3
  go_enter Try.func54, Try.ntmps54
  go_wp2
  go_ret
  exact ends_bool H.out.symm
theorem rletter_high (c : Int) (w : World) (h1 : 122 < c) : Calls Try.prog 54 #[.int .u8 c] w (EndsW (.bool (letterI c)) w) := by
  have H := Lib.hid (show letterI c = false by unfold letterI greatI; simp; omega)
  have b1 : decide (97 ≤ c) = true := by simp; omega
  have b2 : decide (c ≤ 122) = false := by simp; omega
  have b3 : decide (65 ≤ c) = true := by simp; omega
  have b4 : decide (c ≤ 90) = false := by simp; omega
  have b5 : (c == 95) = false := by simp; omega
  go_enter Try.func54, Try.ntmps54
  go_wp2
  go_ret
  exact ends_bool H.out.symm
theorem rletter_bar (w : World) : Calls Try.prog 54 #[.int .u8 95] w (EndsW (.bool true) w) := by
  go_enter Try.func54, Try.ntmps54
  go_wp2
  go_ret
  exact ends_bool rfl
theorem rletter_any (c : Int) (w : World) : Calls Try.prog 54 #[.int .u8 c] w (EndsW (.bool (letterI c)) w) := by
  by_cases h1 : c < 65
  · exact rletter_low c w h1
  by_cases h2 : c ≤ 90
  · exact rletter_great c w (by omega) h2
  by_cases h3 : c = 95
  · subst h3; exact rletter_bar w
  by_cases h4 : c < 97
  · exact rletter_mid c w (by omega) h4 h3
  by_cases h5 : c ≤ 122
  · exact rletter_small c w (by omega) h5
  · exact rletter_high c w (by omega)
def hasS (L : List (List UInt8)) (s : List UInt8) : Bool := L.contains s
/-- A slice of texts. -/
def Strs (w : World) (b : Nat) (L : List (List UInt8)) : Prop := ∀ j x, L[j]? = some x → w.cell? ⟨b, j, none⟩ = some (.string (bs x))
set_option maxHeartbeats 1000000 in
theorem rin_any (w : World) (b n c : Nat) (L : List (List UInt8)) (s : List UInt8) (hL : Strs w b L) (hn : L.length = n) (hs : n ≤ 1000000) :
    Calls Try.prog 55 #[.slice (some ⟨b, 0, none⟩) n c, .string (bs s)] w (EndsW (.bool (hasS L s)) w) := by
  have HL := Lib.hid hL
  have HN := Lib.hid hn
  clear hL hn
  go_enter Try.func55, Try.ntmps55
  go_wp2
  go_loop [5] (fun i => ∃ k : Nat, k ≤ n ∧ i = .int .i64 k ∧ ∀ j x, L[j]? = some x → j < k → x ≠ s) (fun i => n - (intOf i).toNat)
  case atStart => exact ⟨0, by omega, rfl, fun j x _ h => absurd h (by omega)⟩
  case round =>
    obtain ⟨k, hk, rfl, hno⟩ := hrel
    have HNO := Lib.hid hno
    clear hno
    by_cases hlt : k < n
    · obtain ⟨x, hx⟩ : ∃ x, L[k]? = some x := ⟨_, List.getElem?_eq_getElem (by rw [HN.out]; exact hlt)⟩
      have hc := HL.out k x hx
      have HX := Lib.hid hx
      clear hx
      have e1 := bs_toList x
      have e2 := bs_toList s
      by_cases hxs : x = s
      · have H := Lib.hid (show hasS L s = true by unfold hasS; rw [List.contains_iff_mem, ← hxs]; exact List.mem_of_getElem? HX.out)
        have hb : (x == s) = true := by simpa using hxs
        clear hxs
        go_wp2
        go_ret
        exact ends_bool H.out.symm
      · have hb : (x == s) = false := by simpa using hxs
        have HXS := Lib.hid hxs
        clear hxs
        go_wp2
        go_round
        case rel => exact ⟨k + 1, by omega, by go_num, fun j y hy hj => by
          by_cases hjk : j = k
          · subst hjk; rw [HX.out] at hy; injection hy with hy; rw [← hy]; exact HXS.out
          · exact HNO.out j y hy (by omega)⟩
        case measure => simp [intOf]; omega
    · obtain rfl : k = n := by omega
      have H := Lib.hid (show hasS L s = false by
        unfold hasS
        rw [Bool.eq_false_iff, ne_eq, List.contains_iff_mem]
        intro hm
        obtain ⟨j, hj, e⟩ := List.getElem_of_mem hm
        exact HNO.out j _ (List.getElem?_eq_getElem hj) (by have := HN.out; omega) e)
      go_wp2
      go_ret
      exact ends_bool H.out.symm
def keysA : Array Value := (keysL.map str).toArray
theorem keys_any (w : World) : Calls Try.prog 56 #[] w fun e w' => e = .returned (.slice (some ⟨w.heap.size, 0, none⟩) 14 14) ∧ w' = w.alloc (.cells keysA 9) := by
  go_enter Try.func56, Try.ntmps56
  go_wp2
  go_ret
  exact ⟨rfl, rfl⟩
theorem keys_strs (w : World) : Strs (w.alloc (.cells keysA 9)) w.heap.size keysL := fun j x hx => by
  rw [cell_at (heap_alloc_new w (.cells keysA 9 (0, 0)))]
  unfold keysA
  rw [List.getElem?_toArray, List.getElem?_map, hx]
  rfl
theorem rkey_any (S : ByteArray) (w : World) : Calls Try.prog 45 #[.string S] w (EndsB (.bool (keyB S.data.toList)) w) := by
  have CI := Lib.hid (rin_any (w.alloc (.cells keysA 9)) w.heap.size 14 14 keysL S.data.toList (keys_strs w) rfl (by omega))
  rw [bs_of, show hasS keysL S.data.toList = keyB S.data.toList from rfl] at CI
  have CK := Lib.hid (keys_any w)
  go_enter Try.func45, Try.ntmps45
  go_wp2_with fail
  refine CK.out.mono ?_
  rintro e w' ⟨rfl, rfl⟩
  go_wp2_with fail
  refine CI.out.mono ?_
  rintro e w' ⟨rfl, rfl⟩
  go_wp2_with fail
  go_ret
  exact ⟨rfl, (Below.refl _ w).alloc (Nat.le_refl _) _⟩
def wordOk (s : List UInt8) : Bool := !decide (s = []) && !decide (16 < s.length) && !(match s with | [] => false | c :: _ => dig c) && s.all nameB
theorem nameOk_word (s : List UInt8) : nameOk s = (wordOk s && !keyB s) := by
  unfold nameOk wordOk
  generalize (!(match s with | [] => false | c :: _ => dig c)) = a
  cases decide (s = []) <;> cases decide (16 < s.length) <;> cases keyB s <;> cases a <;> cases s.all nameB <;> rfl
theorem all_upto {s : ByteArray} (h : Upto nameB s s.size) : s.data.toList.all nameB = true := by
  rw [List.all_eq_true]
  intro x hx
  obtain ⟨j, hj, e⟩ := List.getElem_of_mem hx
  have hl := len_bytes s
  rw [← e]
  exact h j (by omega) (by omega)
theorem not_all {s : ByteArray} {k : Nat} (hk : k < s.size) (h : nameB (s[k]'hk) = false) : s.data.toList.all nameB = false := by
  rw [Bool.eq_false_iff, ne_eq, List.all_eq_true]
  intro ha
  have hl := len_bytes s
  have := ha _ (List.getElem_mem (show k < s.data.toList.length by omega))
  rw [list_get s k hk, h] at this
  cases this
set_option maxHeartbeats 4000000 in
theorem word_any (S : ByteArray) (w : World) (hs : S.size ≤ 1000000) : Calls Try.prog 44 #[.string S] w (EndsW (.bool (wordOk S.data.toList)) w) := by
  have hl := len_bytes S
  by_cases h0 : S.size = 0
  · obtain rfl := empty_of S h0
    clear h0 hl
    go_enter Try.func44, Try.ntmps44
    go_wp2
    go_ret
    exact ends_bool rfl
  have h00 : 0 < S.size := by omega
  have a1 : decide ((S.size : Int) < 1) = false := by simp; omega
  clear h0
  by_cases h1 : 16 < S.size
  · have b1 : decide ((16 : Int) < (S.size : Int)) = true := by simp; omega
    have H := Lib.hid (show wordOk S.data.toList = false by unfold wordOk; rw [show decide (16 < S.data.toList.length) = true by rw [hl]; simpa using h1]; simp)
    clear hl
    go_enter Try.func44, Try.ntmps44
    go_wp2
    go_ret
    exact ends_bool H.out.symm
  have b1 : decide ((16 : Int) < (S.size : Int)) = false := by simp; omega
  have h16 : S.size ≤ 16 := by omega
  have HC := Lib.hid (cons_of S h00)
  rcases Bool.eq_false_or_eq_true (dig (S[0]'h00)) with hd | hd
  · have H := Lib.hid (show wordOk S.data.toList = false by
      obtain ⟨r, hr⟩ := HC.out
      unfold wordOk; rw [hr]; simp [hd])
    have CD := Lib.hid (show Calls Try.prog 53 #[.int .u8 ((S[0]'h00).toNat : Int)] w (EndsW (.bool true) w) by have := rdigit_any ((S[0]'h00).toNat : Int) w; rwa [digI_nat, hd] at this)
    clear hd hl HC h1
    go_enter Try.func44, Try.ntmps44
    go_wp2_with (go_at_call 53; refine CD.out.mono ?_; rintro e w' ⟨rfl, rfl⟩)
    go_ret
    exact ends_bool H.out.symm
  have CD := Lib.hid (show Calls Try.prog 53 #[.int .u8 ((S[0]'h00).toNat : Int)] w (EndsW (.bool false) w) by have := rdigit_any ((S[0]'h00).toNat : Int) w; rwa [digI_nat, hd] at this)
  have HA : Hid (wordOk S.data.toList = S.data.toList.all nameB) := Lib.hid (by
    have hh : decide (16 < S.data.toList.length) = false := by simp; omega
    obtain ⟨r, hr⟩ := HC.out
    unfold wordOk
    rw [hh]
    rw [hr]
    simp [hd])
  clear hd hl HC h1
  go_enter Try.func44, Try.ntmps44
  go_wp2_with (go_at_call 53; refine CD.out.mono ?_; rintro e w' ⟨rfl, rfl⟩)
  go_loop [3] (fun i => ∃ k : Nat, k ≤ S.size ∧ i = .int .i64 k ∧ Upto nameB S k) (fun i => S.size - (intOf i).toNat)
  case atStart => exact ⟨0, by omega, rfl, fun k hk h => absurd h (by omega)⟩
  case round =>
    obtain ⟨k, hk, rfl, hu⟩ := hrel
    have HU := Lib.hid hu
    clear hu
    by_cases hlt : k < S.size
    · have HSP := Lib.hid (name_split ((S[k]'hlt).toNat : Int))
      have HNI := Lib.hid (nameI_nat (S[k]'hlt))
      rcases Bool.eq_false_or_eq_true (letterI ((S[k]'hlt).toNat : Int)) with hL | hL
      · have CL := Lib.hid (show Calls Try.prog 54 #[.int .u8 ((S[k]'hlt).toNat : Int)] w (EndsW (.bool true) w) by have := rletter_any ((S[k]'hlt).toNat : Int) w; rwa [hL] at this)
        have HT := Lib.hid (show nameB (S[k]'hlt) = true by rw [← HNI.out, HSP.out, hL]; rfl)
        clear hL
        go_wp2_with (go_at_call 54; refine CL.out.mono ?_; rintro e w' ⟨rfl, rfl⟩)
        go_round
        case rel => exact ⟨k + 1, by omega, by go_num, HU.out.one hlt HT.out⟩
        case measure => simp [intOf]; omega
      · have CL := Lib.hid (show Calls Try.prog 54 #[.int .u8 ((S[k]'hlt).toNat : Int)] w (EndsW (.bool false) w) by have := rletter_any ((S[k]'hlt).toNat : Int) w; rwa [hL] at this)
        rcases Bool.eq_false_or_eq_true (digI ((S[k]'hlt).toNat : Int)) with hD | hD
        · have CE := Lib.hid (show Calls Try.prog 53 #[.int .u8 ((S[k]'hlt).toNat : Int)] w (EndsW (.bool true) w) by have := rdigit_any ((S[k]'hlt).toNat : Int) w; rwa [hD] at this)
          have HT := Lib.hid (show nameB (S[k]'hlt) = true by rw [← HNI.out, HSP.out, hL, hD]; rfl)
          clear hL hD
          go_wp2_with (first | (go_at_call 54; refine CL.out.mono ?_; rintro e w' ⟨rfl, rfl⟩) | (go_at_call 53; refine CE.out.mono ?_; rintro e w' ⟨rfl, rfl⟩))
          go_round
          case rel => exact ⟨k + 1, by omega, by go_num, HU.out.one hlt HT.out⟩
          case measure => simp [intOf]; omega
        · have CE := Lib.hid (show Calls Try.prog 53 #[.int .u8 ((S[k]'hlt).toNat : Int)] w (EndsW (.bool false) w) by have := rdigit_any ((S[k]'hlt).toNat : Int) w; rwa [hD] at this)
          have HT := Lib.hid (show wordOk S.data.toList = false by rw [HA.out]; exact not_all hlt (by rw [← HNI.out, HSP.out, hL, hD]; rfl))
          clear hL hD
          go_wp2_with (first | (go_at_call 54; refine CL.out.mono ?_; rintro e w' ⟨rfl, rfl⟩) | (go_at_call 53; refine CE.out.mono ?_; rintro e w' ⟨rfl, rfl⟩))
          go_ret
          exact ends_bool HT.out.symm
    · obtain rfl : k = S.size := by omega
      have HT := Lib.hid (show wordOk S.data.toList = true by rw [HA.out]; exact all_upto HU.out)
      go_wp2_with fail
      go_ret
      exact ends_bool HT.out.symm
theorem rname_is (S : ByteArray) (w : World) (hs : S.size ≤ 1000000) : Calls Try.prog 28 #[.string S] w (EndsB (.bool (nameOk S.data.toList)) w) := by
  have HN := Lib.hid (nameOk_word S.data.toList)
  rcases Bool.eq_false_or_eq_true (wordOk S.data.toList) with hw | hw
  · have CW := Lib.hid (show Calls Try.prog 44 #[.string S] w (EndsW (.bool true) w) by have := word_any S w hs; rwa [hw] at this)
    have CK := Lib.hid (rkey_any S w)
    have H := Lib.hid (show nameOk S.data.toList = !keyB S.data.toList by rw [HN.out, hw]; rfl)
    clear hw hs
    go_enter Try.func28, Try.ntmps28
    go_wp2_with (first | (go_at_call 44; refine CW.out.mono ?_; rintro e w' ⟨rfl, rfl⟩) | (go_at_call 45; refine CK.out.mono ?_; rintro e w' ⟨rfl, hb⟩))
    go_ret
    exact endsb_bool H.out.symm hb
  · have CW := Lib.hid (show Calls Try.prog 44 #[.string S] w (EndsW (.bool false) w) by have := word_any S w hs; rwa [hw] at this)
    have H := Lib.hid (show nameOk S.data.toList = false by rw [HN.out, hw]; rfl)
    clear hw hs
    go_enter Try.func28, Try.ntmps28
    go_wp2_with (go_at_call 44; refine CW.out.mono ?_; rintro e w' ⟨rfl, rfl⟩)
    go_ret
    exact endsb_bool H.out.symm (Below.refl _ _)
end Go.Proofs.Ytofadlenblobnaa.Lex
