/-
  The document's row: how many bytes from a place on may stand in a name, or in a number. No condition.
-/
import Derived.Test.YtlhbhpdpjidpgaaGreatDoorX01
import Derived.Test.YtlhbhpdpjidpgaaGreatDoorX13
import Derived.Test.YtlhbhpdpjidpgaaGreatDoorX30
import Derived.Test.YtlhbhpdpjidpgaaGreatDoorX37
namespace Go.Proofs.YtlhbhpdpjidpgaaGreatDoor.Lex
open Go.RowKit
open Num (EndsW)
set_option maxRecDepth 100000
theorem rowN_cons (p : UInt8 → Bool) (c : UInt8) (l : List UInt8) : rowN p (c :: l) = if p c = true then rowN p l + 1 else 0 := by
  unfold rowN
  rw [List.takeWhile_cons]
  cases p c <;> rfl
theorem rowN_step {p : UInt8 → Bool} : ∀ {l : List UInt8} {k : Nat} {c : UInt8}, k ≤ rowN p l → l[k]? = some c → p c = true → k + 1 ≤ rowN p l
  | [], k, c, _, hc, _ => by simp at hc
  | a :: l, 0, c, _, hc, hp => by
    obtain rfl : a = c := by simpa using hc
    rw [rowN_cons, if_pos hp]
    omega
  | a :: l, k + 1, c, hk, hc, hp => by
    rw [rowN_cons] at hk ⊢
    split at hk
    · next ha =>
      rw [if_pos ha]
      have := rowN_step (l := l) (k := k) (c := c) (p := p) (by omega) (by simpa using hc) hp
      omega
    · omega
theorem rowN_stop {p : UInt8 → Bool} : ∀ {l : List UInt8} {k : Nat} {c : UInt8}, k ≤ rowN p l → l[k]? = some c → p c = false → rowN p l = k
  | [], k, c, _, hc, _ => by simp at hc
  | a :: l, 0, c, _, hc, hp => by
    obtain rfl : a = c := by simpa using hc
    rw [rowN_cons, hp]
    rfl
  | a :: l, k + 1, c, hk, hc, hp => by
    rw [rowN_cons] at hk ⊢
    split at hk
    · next ha =>
      rw [if_pos ha]
      have := rowN_stop (l := l) (k := k) (c := c) (p := p) (by omega) (by simpa using hc) hp
      omega
    · omega
def rowP (b : Bool) : UInt8 → Bool := if b then dig else nameB
theorem at_drop (S : ByteArray) (i k : Nat) (h : i + k < S.size) : (S.data.toList.drop i)[k]? = some (S[i + k]'h) := by
  have hl := len_bytes S
  rw [List.getElem?_drop, List.getElem?_eq_getElem (show i + k < S.data.toList.length by omega), list_get S (i + k) h]
theorem end_drop (S : ByteArray) (i k : Nat) (p : UInt8 → Bool) (hi : i ≤ S.size) (h : i + k = S.size) (hk : k ≤ rowN p (S.data.toList.drop i)) : rowN p (S.data.toList.drop i) = k := by
  have hl := len_bytes S
  have := rowN_le p (S.data.toList.drop i)
  rw [List.length_drop] at this
  omega
set_option maxHeartbeats 4000000 in
theorem rrow_any (S : ByteArray) (i : Nat) (b : Bool) (w : World) (hs : S.size ≤ 1000000) (hi : i ≤ S.size) : Calls Tryz.prog 120 #[.string S, .int .i64 i, .bool b] w (EndsW (.int .i64 (rowN (rowP b) (S.data.toList.drop i))) w) := by
  obtain ⟨R, hR⟩ : ∃ R, R = rowN (rowP b) (S.data.toList.drop i) := ⟨_, rfl⟩
  rw [← hR]
  have HR := Lib.hid hR
  clear hR
  go_enter Tryz.func120, Tryz.ntmps120
  go_wp2_with fail
  go_loop [7] (fun v => ∃ k : Nat, i + k ≤ S.size ∧ v = .int .i64 k ∧ k ≤ R) (fun v => S.size - i - (intOf v).toNat)
  case atStart => exact ⟨0, by omega, rfl, Nat.zero_le _⟩
  case round =>
    obtain ⟨k, hk, rfl, hu⟩ := hrel
    have HU := Lib.hid hu
    clear hu
    obtain ⟨m, hm⟩ : ∃ m, m = i + k := ⟨_, rfl⟩
    have hm2 : (i : Int) + (k : Int) = (m : Int) := by omega
    have HM := Lib.hid hm
    have hk2 : m ≤ S.size := by omega
    clear hm
    by_cases hlt : m < S.size
    · have HAT : Hid ((S.data.toList.drop i)[k]? = some (S[m]'hlt)) := Lib.hid (by have h1 := HM.out; subst h1; exact at_drop S i k hlt)
      have HSP := Lib.hid (name_split ((S[m]'hlt).toNat : Int))
      have HNI := Lib.hid (nameI_nat (S[m]'hlt))
      have HDI := Lib.hid (digI_nat (S[m]'hlt))
      cases b with
      | true =>
        rcases Bool.eq_false_or_eq_true (digI ((S[m]'hlt).toNat : Int)) with hD | hD
        · have CE := Lib.hid (show Calls Tryz.prog 119 #[.int .u8 ((S[m]'hlt).toNat : Int)] w (EndsW (.bool true) w) by have := rdigit_any ((S[m]'hlt).toNat : Int) w; rwa [hD] at this)
          have HT := Lib.hid (show k + 1 ≤ R by rw [HR.out]; exact rowN_step (by rw [← HR.out]; exact HU.out) HAT.out (show dig _ = true by rw [← HDI.out, hD]))
          go_wp2_with ((go_at_call 119; refine CE.out.mono ?_; rintro e w' ⟨rfl, rfl⟩))
          go_round
          case rel => exact ⟨k + 1, by have := HM.out; omega, by go_num, HT.out⟩
          case measure => have := HM.out; simp [intOf]; omega
        · have CE := Lib.hid (show Calls Tryz.prog 119 #[.int .u8 ((S[m]'hlt).toNat : Int)] w (EndsW (.bool false) w) by have := rdigit_any ((S[m]'hlt).toNat : Int) w; rwa [hD] at this)
          have HT := Lib.hid (show R = k by rw [HR.out]; exact rowN_stop (by rw [← HR.out]; exact HU.out) HAT.out (show dig _ = false by rw [← HDI.out, hD]))
          go_wp2_with ((go_at_call 119; refine CE.out.mono ?_; rintro e w' ⟨rfl, rfl⟩))
          go_ret
          exact ⟨by rw [HT.out]; rfl, rfl⟩
      | false =>
        rcases Bool.eq_false_or_eq_true (digI ((S[m]'hlt).toNat : Int)) with hD | hD
        · have CE := Lib.hid (show Calls Tryz.prog 119 #[.int .u8 ((S[m]'hlt).toNat : Int)] w (EndsW (.bool true) w) by have := rdigit_any ((S[m]'hlt).toNat : Int) w; rwa [hD] at this)
          have HT := Lib.hid (show k + 1 ≤ R by rw [HR.out]; exact rowN_step (by rw [← HR.out]; exact HU.out) HAT.out (show nameB _ = true by rw [← HNI.out, HSP.out, hD]; simp))
          go_wp2_with ((go_at_call 119; refine CE.out.mono ?_; rintro e w' ⟨rfl, rfl⟩))
          go_round
          case rel => exact ⟨k + 1, by have := HM.out; omega, by go_num, HT.out⟩
          case measure => have := HM.out; simp [intOf]; omega
        · rcases Bool.eq_false_or_eq_true (letterI ((S[m]'hlt).toNat : Int)) with hL | hL
          · have CE := Lib.hid (show Calls Tryz.prog 119 #[.int .u8 ((S[m]'hlt).toNat : Int)] w (EndsW (.bool false) w) by have := rdigit_any ((S[m]'hlt).toNat : Int) w; rwa [hD] at this)
            have CL := Lib.hid (show Calls Tryz.prog 122 #[.int .u8 ((S[m]'hlt).toNat : Int)] w (EndsW (.bool true) w) by have := rletter_any ((S[m]'hlt).toNat : Int) w; rwa [hL] at this)
            have HT := Lib.hid (show k + 1 ≤ R by rw [HR.out]; exact rowN_step (by rw [← HR.out]; exact HU.out) HAT.out (show nameB _ = true by rw [← HNI.out, HSP.out, hL]; rfl))
            go_wp2_with (first | (go_at_call 119; refine CE.out.mono ?_; rintro e w' ⟨rfl, rfl⟩) | (go_at_call 122; refine CL.out.mono ?_; rintro e w' ⟨rfl, rfl⟩))
            go_round
            case rel => exact ⟨k + 1, by have := HM.out; omega, by go_num, HT.out⟩
            case measure => have := HM.out; simp [intOf]; omega
          · have CE := Lib.hid (show Calls Tryz.prog 119 #[.int .u8 ((S[m]'hlt).toNat : Int)] w (EndsW (.bool false) w) by have := rdigit_any ((S[m]'hlt).toNat : Int) w; rwa [hD] at this)
            have CL := Lib.hid (show Calls Tryz.prog 122 #[.int .u8 ((S[m]'hlt).toNat : Int)] w (EndsW (.bool false) w) by have := rletter_any ((S[m]'hlt).toNat : Int) w; rwa [hL] at this)
            have HT := Lib.hid (show R = k by rw [HR.out]; exact rowN_stop (by rw [← HR.out]; exact HU.out) HAT.out (show nameB _ = false by rw [← HNI.out, HSP.out, hL, hD]; rfl))
            go_wp2_with (first | (go_at_call 119; refine CE.out.mono ?_; rintro e w' ⟨rfl, rfl⟩) | (go_at_call 122; refine CL.out.mono ?_; rintro e w' ⟨rfl, rfl⟩))
            go_ret
            exact ⟨by rw [HT.out]; rfl, rfl⟩
    · have HT := Lib.hid (show R = k by rw [HR.out]; exact end_drop S i k _ hi (by have := HM.out; omega) (by rw [← HR.out]; exact HU.out))
      go_wp2_with fail
      go_ret
      exact ⟨by rw [HT.out]; rfl, rfl⟩
end Go.Proofs.YtlhbhpdpjidpgaaGreatDoor.Lex
/- The document's ends: does a word end a line? For the words of a text. No condition. -/
namespace Go.Proofs.YtlhbhpdpjidpgaaGreatDoor.Lex
open Go.RowKit
open Num (EndsW)
set_option maxRecDepth 100000
def ends7 : List (List UInt8) := [[114, 101, 116, 117, 114, 110], [98, 114, 101, 97, 107], [99, 111, 110, 116, 105, 110, 117, 101], [105, 110, 116], [98, 111, 111, 108], [116, 114, 117, 101], [102, 97, 108, 115, 101]]
def endsA : Array Value := (ends7.map str).toArray
theorem ends_strs (w : World) : Strs (w.alloc (.cells endsA 9)) w.heap.size ends7 := fun j x hx => by
  rw [cell_at (heap_alloc_new w (.cells endsA 9 (0, 0)))]
  unfold endsA
  rw [List.getElem?_toArray, List.getElem?_map, hx]
  rfl
theorem new_cells (w : World) (k : Int) (S : ByteArray) (n : Int) : (newW w k S n).cell? ⟨w.heap.size, 0, none⟩ = some (.int .i64 k) ∧ (newW w k S n).cell? ⟨w.heap.size, 1, none⟩ = some (.string S) := ⟨cell_at (new_at w k S n) 0, cell_at (new_at w k S n) 1⟩
set_option maxHeartbeats 1000000 in
theorem rends_yes (k : Int) (S : ByteArray) (n : Int) (w : World) (hk : k = 1 ∨ k = 2 ∨ k = 3) : Calls Tryz.prog 86 #[.agg #[.int .i64 k, .string S, .int .i64 n]] w (EndsB (.bool true) w) := by
  have HB := Lib.hid (new_below w k S n)
  obtain ⟨y0, y1⟩ := new_cells w k S n
  unfold newW at y0 y1 HB
  rcases hk with rfl | rfl | rfl
  all_goals go_enter Tryz.func86, Tryz.ntmps86
  all_goals go_wp2
  all_goals go_ret
  all_goals exact ⟨rfl, HB.out⟩
set_option maxHeartbeats 1000000 in
theorem rends_sign (s : List UInt8) (n : Int) (w : World) : Calls Tryz.prog 86 #[.agg #[.int .i64 5, .string (bs s), .int .i64 n]] w (EndsB (.bool (s == [41] || s == [125])) w) := by
  have HB := Lib.hid (new_below w 5 (bs s) n)
  obtain ⟨y0, y1⟩ := new_cells w 5 (bs s) n
  unfold newW at y0 y1 HB
  have e1 := bs_toList s
  rcases Bool.eq_false_or_eq_true (s == [41]) with h1 | h1
  all_goals rcases Bool.eq_false_or_eq_true (s == [125]) with h2 | h2
  all_goals go_enter Tryz.func86, Tryz.ntmps86
  all_goals go_wp2
  all_goals go_ret
  all_goals exact ⟨by rw [h1, h2]; rfl, HB.out⟩
set_option maxHeartbeats 1000000 in
theorem rends_key (s : List UInt8) (n : Int) (w : World) : Calls Tryz.prog 86 #[.agg #[.int .i64 4, .string (bs s), .int .i64 n]] w (EndsB (.bool (hasS ends7 s)) w) := by
  have hb := new_below w 4 (bs s) n
  have hb2 := hb.alloc hb.size (.cells endsA 9)
  have HB := Lib.hid hb2
  have CI := Lib.hid (rin_any ((newW w 4 (bs s) n).alloc (.cells endsA 9)) (newW w 4 (bs s) n).heap.size 7 7 ends7 s (ends_strs _) rfl (by omega))
  have h1 := Below.heap_alloc (newW w 4 (bs s) n) (.cells endsA 9) _ (by simp [newW] : w.heap.size < (newW w 4 (bs s) n).heap.size)
  have y1 := (World.cell?_of_block (a := ⟨w.heap.size, 1, none⟩) h1).trans (new_cells w 4 (bs s) n).2
  obtain ⟨y0, _⟩ := new_cells w 4 (bs s) n
  unfold newW at y0 y1 HB CI
  rw [World.size_alloc] at CI
  clear hb hb2 h1
  go_enter Tryz.func86, Tryz.ntmps86
  go_wp2_with fail
  refine CI.out.mono ?_
  rintro e w' ⟨rfl, rfl⟩
  go_wp2_with fail
  go_ret
  exact ⟨rfl, HB.out⟩
theorem key_ends {s : List UInt8} (h : keyB s = true) : hasS ends7 s = endsL.contains s := by
  have : ∀ s ∈ keysL, hasS ends7 s = endsL.contains s := by decide
  exact this s (by unfold keyB at h; exact List.contains_iff_mem.1 h)
theorem sign_ends {s : List UInt8} (h : s ∈ signsL) : (s == [41] || s == [125]) = endsL.contains s := by
  have : ∀ s ∈ signsL, (s == [41] || s == [125]) = endsL.contains s := by decide
  exact this s h
theorem rends_any (x : Wd) (hx : Good x) (w : World) : Calls Tryz.prog 86 #[wdV x] w (EndsB (.bool (mayB x)) w) := by
  cases hx with
  | name s c r e ha hd hl =>
    by_cases hk : keyB s = true
    · have h := rends_key s 0 w
      rw [key_ends hk] at h
      rw [if_pos hk]
      exact h
    · rw [if_neg hk]
      exact rends_yes 1 (bs s) 0 w (.inl rfl)
  | num n h0 h1 => exact rends_yes 2 (bs []) n w (.inr (.inl rfl))
  | text s h => exact rends_yes 3 (bs s) 0 w (.inr (.inr rfl))
  | sign s h =>
    have h1 := rends_sign s 0 w
    rw [sign_ends h] at h1
    exact h1
end Go.Proofs.YtlhbhpdpjidpgaaGreatDoor.Lex
/- The document's signs: the first that a text begins with is the longest. No condition. -/
namespace Go.Proofs.YtlhbhpdpjidpgaaGreatDoor.Lex
open Go.RowKit
open Num (EndsW)
set_option maxRecDepth 100000
/-- The signs, the longer ones first. -/
def signs8 : List (List UInt8) := [[58, 61], [61, 61], [33, 61], [60, 61], [62, 61], [38, 38], [124, 124], [40], [41], [123], [125], [44], [59], [46], [61], [60], [62], [43], [45], [42], [47], [37], [33]]
def signs8A : Array Value := (signs8.map str).toArray
theorem signs8_any (w : World) : Calls Tryz.prog 125 #[] w fun e w' => e = .returned (.slice (some ⟨w.heap.size, 0, none⟩) 23 23) ∧ w' = w.alloc (.cells signs8A 9) := by
  go_enter Tryz.func125, Tryz.ntmps125
  go_wp2
  go_ret
  exact ⟨rfl, rfl⟩
theorem signs8_strs (w : World) : Strs (w.alloc (.cells signs8A 9)) w.heap.size signs8 := fun j x hx => by
  rw [cell_at (heap_alloc_new w (.cells signs8A 9 (0, 0)))]
  unfold signs8A
  rw [List.getElem?_toArray, List.getElem?_map, hx]
  rfl
theorem signs8_mem (s : List UInt8) : s ∈ signs8 ↔ s ∈ signsL := by
  constructor
  · intro h; have : ∀ s ∈ signs8, s ∈ signsL := by decide
    exact this s h
  · intro h; have : ∀ s ∈ signsL, s ∈ signs8 := by decide
    exact this s h
theorem fold_len : ∀ (ss : List (List UInt8)) (l b : List UInt8), b.length ≤ (ss.foldl (better l) b).length ∧ ∀ s ∈ ss, s.isPrefixOf l = true → s.length ≤ (ss.foldl (better l) b).length
  | [], l, b => ⟨Nat.le_refl _, fun s hs => by cases hs⟩
  | a :: ss, l, b => by
    obtain ⟨h1, h2⟩ := fold_len ss l (better l b a)
    rw [List.foldl_cons]
    have h3 : b.length ≤ (better l b a).length := by
      unfold better
      split
      · next h => omega
      · exact Nat.le_refl _
    refine ⟨by omega, fun s hs hp => ?_⟩
    rcases List.mem_cons.1 hs with rfl | hs
    · have h4 : s.length ≤ (better l b s).length := by
        unfold better
        split
        · exact Nat.le_refl _
        · next h => simp only [not_and, Bool.not_eq_true] at h; rcases Nat.lt_or_ge b.length s.length with h5 | h5
                    · rw [h h5] at hp; cases hp
                    · exact h5
      omega
    · exact h2 s hs hp
/-- Two signs that a text begins with, of one length, are the same. -/
theorem prefix_same {s r l : List UInt8} (h1 : s.isPrefixOf l = true) (h2 : r.isPrefixOf l = true) (h : s.length = r.length) : s = r := by
  have h3 := List.isPrefixOf_iff_prefix.1 h1
  have h4 := List.isPrefixOf_iff_prefix.1 h2
  exact (List.prefix_of_prefix_length_le h3 h4 (by omega)).eq_of_length h
/-- Ahead of a sign stand none that are shorter. -/
theorem signs8_sorted : ∀ i, i < 23 → ∀ j, j < i → ((signs8.getD i []).length ≤ (signs8.getD j []).length) := by decide
theorem first_same {l s L : List UInt8} {k : Nat} (hL : L ∈ signs8) (h3 : L.isPrefixOf l = true) (h4 : s.length ≤ L.length) (hs : signs8[k]? = some s) (hp : s.isPrefixOf l = true) (hno : ∀ j x, signs8[j]? = some x → j < k → x.isPrefixOf l = false) : L = s := by
  obtain ⟨j, hj, e⟩ := List.getElem_of_mem hL
  have hjl : signs8[j]? = some L := by rw [List.getElem?_eq_getElem hj, e]
  have hk := (List.getElem?_eq_some_iff.1 hs).1
  by_cases hlt : j < k
  · rw [hno j _ hjl hlt] at h3
    cases h3
  · refine prefix_same h3 hp ?_
    rcases Nat.lt_or_ge k j with h5 | h5
    · have h6 := signs8_sorted j hj k h5
      have g1 : signs8.getD j [] = L := by rw [List.getD_eq_getElem?_getD, hjl]; rfl
      have g2 : signs8.getD k [] = s := by rw [List.getD_eq_getElem?_getD, hs]; rfl
      rw [g1, g2] at h6
      omega
    · obtain rfl : j = k := by omega
      rw [hjl] at hs
      injection hs with hs
      rw [hs]
/-- The first that fits is the longest. -/
theorem first_longest {l s : List UInt8} {k : Nat} (hs : signs8[k]? = some s) (hp : s.isPrefixOf l = true) (hno : ∀ j x, signs8[j]? = some x → j < k → x.isPrefixOf l = false) : longest l = s := by
  have hm : s ∈ signsL := (signs8_mem s).1 (List.mem_of_getElem? hs)
  have h1 : s.length ≤ (longest l).length := (fold_len signsL l []).2 s hm hp
  have h0 := longest_mem l
  generalize longest l = L at *
  rcases h0 with h | ⟨h2, h3⟩
  · subst h
    have := (signs_len hm).1
    simp at h1
    subst h1
    simp at this
  · exact first_same ((signs8_mem _).2 h2) h3 h1 hs hp hno
theorem none_longest {l : List UInt8} (hno : ∀ j x, signs8[j]? = some x → j < 23 → x.isPrefixOf l = false) : longest l = [] := by
  have h0 := longest_mem l
  generalize longest l = L at *
  rcases h0 with h | ⟨h2, h3⟩
  · exact h
  · obtain ⟨j, hj, e⟩ := List.getElem_of_mem ((signs8_mem _).2 h2)
    rw [hno j _ (by rw [List.getElem?_eq_getElem hj, e]) hj] at h3
    cases h3
end Go.Proofs.YtlhbhpdpjidpgaaGreatDoor.Lex
/- The document's Read: what a text is as a number. Conditions: sizes. -/
namespace Go.Proofs.YtlhbhpdpjidpgaaGreatDoor.Num
open Go.RowKit
set_option maxRecDepth 100000
theorem rread_short (s : ByteArray) (w : World) (h : s.size < 1) : Calls Tryz.prog 121 #[.string s] w (EndsW (pair 0 false) w) := by
  go_enter Tryz.func121, Tryz.ntmps121
  go_wp2
  go_ret2
  exact ends_pair rfl
theorem rread_long (s : ByteArray) (w : World) (h : 19 < s.size) (hs : s.size ≤ maxLen) : Calls Tryz.prog 121 #[.string s] w (EndsW (pair 0 false) w) := by
  unfold maxLen at hs
  go_enter Tryz.func121, Tryz.ntmps121
  go_wp2
  all_goals go_ret2
  all_goals exact ends_pair rfl
theorem rread_zero (s : ByteArray) (w : World) (h : 1 < s.size) (h2 : s.size ≤ 19) (h0 : 0 < s.size) (hb : ((s[0].toNat : Int) == 48) = true) : Calls Tryz.prog 121 #[.string s] w (EndsW (pair 0 false) w) := by
  go_enter Tryz.func121, Tryz.ntmps121
  go_wp2
  all_goals go_ret2
  all_goals exact ends_pair rfl

set_option maxHeartbeats 800000 in
theorem rread_loop (s : ByteArray) (w : World) (h1 : 1 ≤ s.size) (h2 : s.size ≤ 19) (hb : bad s.data.toList = false) : Calls Tryz.prog 121 #[.string s] w (EndsW (pair (readV s.data.toList).1 (readV s.data.toList).2) w) := by
  have hz := three s hb (by omega)
  have HB := Lib.hid hb
  clear hb
  go_enter Tryz.func121, Tryz.ntmps121
  rcases hz with ⟨hone, hz'⟩ | ⟨hone, hz'⟩ | ⟨hone, hz'⟩
  all_goals
    go_wp2
    go_loop [4, 5] (fun n i => ∃ k : Nat, k ≤ s.size ∧ i = .int .i64 k ∧ n = .int .u64 (vk s k) ∧ Sofar s k) (fun _ i => s.size - (intOf i).toNat)
    case atStart => exact ⟨0, by omega, rfl, rfl, rfl⟩
    case round =>
      obtain ⟨k, hk, rfl, rfl, hf⟩ := hrel
      by_cases hlt : k < s.size
      · have hv := vk_lt s k (by omega) hf
        by_cases hd : 48 ≤ s[k].toNat
        · by_cases hd2 : s[k].toNat ≤ 57
          · have HS := Lib.hid (vk_succ s k hlt hd)
            have HF := Lib.hid (sofar_succ s k hlt hf hd hd2)
            go_wp2
            go_round
            case rel => exact ⟨k + 1, by omega, by go_num, by rw [HS.out, Int.mul_comm], HF.out⟩
            case measure => simp [intOf]; omega
          · have HR := Lib.hid (readV_bad s k HB.out hlt (by omega))
            go_wp2
            go_ret2
            exact ⟨by rw [HR.out]; rfl, rfl⟩
        · have HR := Lib.hid (readV_bad s k HB.out hlt (by omega))
          go_wp2
          go_ret2
          exact ⟨by rw [HR.out]; rfl, rfl⟩
      · obtain rfl : k = s.size := by omega
        have he := vk_end s h2 hf
        by_cases hv : 9223372036854775807 < vk s s.size
        · have HR := Lib.hid (readV_big s HB.out hf hv)
          go_wp2
          go_ret2
          exact ⟨by rw [HR.out]; rfl, rfl⟩
        · have HR := Lib.hid (readV_good s HB.out hf (by omega))
          have hv' : vk s s.size ≤ 9223372036854775807 := by omega
          clear hv
          go_wp2
          go_ret2
          exact ⟨by rw [HR.out]; rfl, rfl⟩

theorem rread_any (s : ByteArray) (w : World) (hs : s.size ≤ maxLen) : Calls Tryz.prog 121 #[.string s] w (EndsW (pair (readV s.data.toList).1 (readV s.data.toList).2) w) := by
  by_cases hb : bad s.data.toList = true
  · have hr : readV s.data.toList = (0, false) := by unfold readV; rw [if_pos hb]
    rw [hr]
    rcases bad_true s hb with h | h | ⟨h0, h1, hz⟩
    · exact rread_short s w h
    · exact rread_long s w h hs
    · by_cases h2 : s.size ≤ 19
      · exact rread_zero s w h1 h2 h0 hz
      · exact rread_long s w (by omega) hs
  · rw [Bool.not_eq_true] at hb
    have hb2 := hb
    unfold bad at hb2
    rw [decide_eq_false_iff_not, not_or, not_or] at hb2
    exact rread_loop s w (by have := hb2.1; rw [len_eq] at this; omega) (by have := hb2.2.1; rw [len_eq] at this; omega) hb
end Go.Proofs.YtlhbhpdpjidpgaaGreatDoor.Num
/- The document's one: the word at a place, a number. Conditions: sizes. -/
namespace Go.Proofs.YtlhbhpdpjidpgaaGreatDoor.Lex
open Go.RowKit
open Num (EndsW)
set_option maxRecDepth 100000
theorem results_one {fn : Func} {p q r : Tmp} (h : fn.results = #[.cell p 73, .tmp q, .tmp r]) (tmps : Array Value) (w : World) (g : Nat) (v0 v1 v2 u t : Value) (hv : tmps.getD p undef = .pointer (some ⟨g, 0, none⟩)) (hu : tmps.getD q undef = u) (ht : tmps.getD r undef = t) (hc : w.heap[g]? = some (.cells #[v0, v1, v2] 73 (0, 0))) :
    (results fn tmps).run Tryz.prog w = .ok (.tuple #[.agg #[v0, v1, v2], u, t]) w := by
  have a4 := Tryz.isAgg73
  have z4 := Tryz.sizeOf73
  have c0 := cell_at hc 0
  have c1 := cell_at hc 1
  have c2 := cell_at hc 2
  simp only [List.getElem?_toArray, List.getElem?_cons_succ, List.getElem?_cons_zero] at c0 c1 c2
  simp only [Array.getD_eq_getD_getElem?] at hv hu ht
  unfold results
  rw [h]
  go_simp
/-- What one leaves: as the reader's step q from l on. -/
def OneE (l : List UInt8) (q : St) (w : World) (e : Ending) (w' : World) : Prop := ∃ (a : Int) (b : ByteArray) (c : Int) (n : Nat), e = .returned (.tuple #[.agg #[.int .i64 a, .string b, .int .i64 c], .int .i64 n, .int .i64 q.e]) ∧ (q.e = 0 → ∃ x, q.ws = [x] ∧ a = x.k ∧ b = bs x.s ∧ c = x.n ∧ q.l = l.drop n ∧ n ≤ l.length) ∧ Below w.heap.size w w'
theorem cut_bs (S : ByteArray) (i n : Nat) : S.extract i (i + n) = bs ((S.data.toList.drop i).take n) := by
  have h := extract_bs S.data.toList i (i + n)
  rw [bs_of, Nat.add_sub_cancel_left] at h
  exact h
theorem drop_at (S : ByteArray) (i : Nat) (hi : i < S.size) : S.data.toList.drop i = (S[i]'hi) :: S.data.toList.drop (i + 1) := by
  have hl := len_bytes S
  rw [List.drop_eq_getElem_cons (show i < S.data.toList.length by omega), list_get S i hi]
theorem one_dig {c : UInt8} (h : dig c = true) : (Num.readV [c]).2 = true := by
  have : ∀ c : UInt8, dig c = true → (Num.readV [c]).2 = true := by
    intro c
    obtain ⟨⟨⟨k, hk⟩⟩⟩ := c
    revert k
    decide +kernel
  exact this c h
set_option maxHeartbeats 4000000 in
theorem one_num (S : ByteArray) (i : Nat) (w : World) (hi : i < S.size) (hs : S.size ≤ 1000000) (hd : dig (S[i]'hi) = true) : Calls Tryz.prog 87 #[.string S, .int .i64 i] w (OneE (S.data.toList.drop i) (numS (S.data.toList.drop i) []) w) := by
  have CD := Lib.hid (show Calls Tryz.prog 119 #[.int .u8 ((S[i]'hi).toNat : Int)] (w.alloc (.cells #[.int .i64 0, .string ⟨#[]⟩, .int .i64 0] 73)) (EndsW (.bool true) (w.alloc (.cells #[.int .i64 0, .string ⟨#[]⟩, .int .i64 0] 73))) by have := rdigit_any ((S[i]'hi).toNat : Int) (w.alloc (.cells #[.int .i64 0, .string ⟨#[]⟩, .int .i64 0] 73)); rwa [digI_nat, hd] at this)
  have CR := Lib.hid (rrow_any S i true (w.alloc (.cells #[.int .i64 0, .string ⟨#[]⟩, .int .i64 0] 73)) hs (by omega))
  rw [show rowP true = dig from rfl] at CR
  have HE := Lib.hid (cut_bs S i (rowN dig (S.data.toList.drop i)))
  have HLE : Hid (i + rowN dig (S.data.toList.drop i) ≤ S.size) := Lib.hid (by have := rowN_le dig (S.data.toList.drop i); rw [List.length_drop, len_bytes] at this; omega)
  obtain ⟨n, hn⟩ : ∃ n, n = rowN dig (S.data.toList.drop i) := ⟨_, rfl⟩
  rw [← hn] at CR HE HLE
  have hle := HLE.out
  obtain ⟨m, hm⟩ : ∃ m, m = i + n := ⟨_, rfl⟩
  have hm2 : (i : Int) + (n : Int) = (m : Int) := by omega
  rw [← hm] at HE hle
  have him : i ≤ m := by omega
  have HN := Lib.hid hn
  have HM := Lib.hid hm
  clear hm
  obtain ⟨v, ok, hr⟩ : ∃ v ok, Num.readV ((S.data.toList.drop i).take n) = (v, ok) := ⟨_, _, rfl⟩
  have hpos : 1 ≤ n := by rw [hn]; rw [show S.data.toList.drop i = (S[i]'hi) :: S.data.toList.drop (i + 1) from drop_at S i hi]; exact rowN_pos hd
  obtain ⟨q, hq⟩ : ∃ q, (S.data.toList.drop i).take n = (S[i]'hi) :: q := by
    rw [drop_at S i hi]
    obtain ⟨k, rfl⟩ : ∃ k, n = k + 1 := ⟨n - 1, by omega⟩
    exact ⟨_, rfl⟩
  have hlq : q.length + 1 = n := by
    have := congrArg List.length hq
    rw [List.length_take, List.length_drop, len_bytes] at this
    simp at this
    have := HLE.out
    omega
  have CN : Hid (Calls Tryz.prog 121 #[.string (bs ((S[i]'hi) :: q))] (w.alloc (.cells #[.int .i64 0, .string ⟨#[]⟩, .int .i64 0] 73)) (EndsW (.tuple #[.int .i64 v, .bool ok]) (w.alloc (.cells #[.int .i64 0, .string ⟨#[]⟩, .int .i64 0] 73)))) := Lib.hid (by
    have h := Num.rread_any (bs ((S[i]'hi) :: q)) (w.alloc (.cells #[.int .i64 0, .string ⟨#[]⟩, .int .i64 0] 73)) (by rw [bs_size, List.length_cons]; unfold maxLen; omega)
    rw [bs_data, ← hq, hr] at h
    rw [← hq]
    exact h)
  have hx : S.extract i m = bs ((S[i]'hi) :: q) := by rw [HE.out, hq]
  have h2 : ok = false → 2 ≤ n := fun h => by
    rcases Nat.lt_or_ge 1 n with h1 | h1
    · exact h1
    · have : q = [] := List.eq_nil_of_length_eq_zero (by omega)
      rw [hq, this] at hr
      have h3 := one_dig hd
      rw [hr] at h3
      rw [h] at h3
      cases h3
  have HQ := Lib.hid hq
  have hqs : 0 < (bs ((S[i]'hi) :: q)).size := by rw [bs_size]; simp
  clear hq hlq hpos
  have HR := Lib.hid (hn ▸ hr)
  have HNW := Lib.hid (heap_alloc_new w (.cells #[.int .i64 0, .string ⟨#[]⟩, .int .i64 0] 73 (0, 0)))
  have HBW : Hid (Below w.heap.size w (w.alloc (.cells #[.int .i64 0, .string ⟨#[]⟩, .int .i64 0] 73))) := Lib.hid ((Below.refl _ w).alloc (Nat.le_refl _) _)
  clear hn hr
  go_enter Tryz.func87, Tryz.ntmps87
  go_wp2_with (go_at_call 119; refine CD.out.mono ?_; rintro e w' ⟨rfl, rfl⟩)
  refine CR.out.mono ?_
  rintro e w' ⟨rfl, rfl⟩
  go_wp2_with fail
  refine CN.out.mono ?_
  rintro e w' ⟨rfl, rfl⟩
  cases ok with
  | true =>
    clear h2
    have HE2 := Lib.hid (numS_ok (ws := []) HR.out)
    go_wp2_with fail
    refine bodyPost_ret (results_one rfl _ _ w.heap.size _ _ _ _ _ rfl rfl rfl (heap_alloc_new w (.cells #[.int .i64 2, .string ⟨#[]⟩, .int .i64 v] 73 (0, 0)))) rfl ?_
    exact ⟨2, bs ([]), v, n, by rw [HE2.out]; rfl, fun _ => ⟨⟨2, [], v⟩, by rw [HE2.out]; rfl, rfl, rfl, rfl, by rw [HE2.out, HN.out], by rw [HN.out]; exact rowN_le _ _⟩, (Below.refl _ w).alloc (Nat.le_refl _) _⟩
  | false =>
    have h3 := h2 rfl
    have H48 : ((S[i]'hi).toNat = 48) ↔ (S.data.toList.drop i).head? = some 48 := by
      rw [drop_at S i hi]
      simp only [List.head?_cons, Option.some.injEq]
      exact ⟨fun h => UInt8.toNat_inj.1 h, fun h => by rw [h]; rfl⟩
    clear h2
    by_cases hz : (S[i]'hi).toNat = 48
    · have hz2 : ((((bs ((S[i]'hi) :: q))[0]'hqs).toNat : Int) == 48) = true := by
        show (((S[i]'hi).toNat : Int) == 48) = true
        simp; omega
      have HZ := Lib.hid (H48.1 hz)
      clear H48 hz
      have HE2 := Lib.hid (numS_zero (ws := []) HR.out HZ.out)
      go_wp2_with fail
      refine bodyPost_ret (results_one rfl _ _ w.heap.size _ _ _ _ _ rfl rfl rfl (heap_alloc_new w (.cells #[.int .i64 0, .string ⟨#[]⟩, .int .i64 0] 73 (0, 0)))) rfl ?_
      exact ⟨_, _, _, 0, by rw [HE2.out]; rfl, (fun h => absurd h (by rw [HE2.out]; exact fun h => by cases h)), (Below.refl _ w).alloc (Nat.le_refl _) _⟩
    · have hz2 : ((((bs ((S[i]'hi) :: q))[0]'hqs).toNat : Int) == 48) = false := by
        show (((S[i]'hi).toNat : Int) == 48) = false
        simp; omega
      have HZ := Lib.hid (fun h => hz (H48.2 h))
      clear H48 hz
      have HE2 := Lib.hid (numS_big (ws := []) HR.out HZ.out)
      go_wp2_with fail
      refine bodyPost_ret (results_one rfl _ _ w.heap.size _ _ _ _ _ rfl rfl rfl (heap_alloc_new w (.cells #[.int .i64 0, .string ⟨#[]⟩, .int .i64 0] 73 (0, 0)))) rfl ?_
      exact ⟨_, _, _, 0, by rw [HE2.out]; rfl, (fun h => absurd h (by rw [HE2.out]; exact fun h => by cases h)), (Below.refl _ w).alloc (Nat.le_refl _) _⟩
end Go.Proofs.YtlhbhpdpjidpgaaGreatDoor.Lex
/- The document's one: the word at a place, a name or a key. Conditions: sizes. -/
namespace Go.Proofs.YtlhbhpdpjidpgaaGreatDoor.Lex
open Go.RowKit
open Num (EndsW)
set_option maxRecDepth 100000
set_option maxHeartbeats 4000000 in
theorem one_name (S : ByteArray) (i : Nat) (w : World) (hi : i < S.size) (hs : S.size ≤ 1000000) (hd : dig (S[i]'hi) = false) (hc : nameB (S[i]'hi) = true) : Calls Tryz.prog 87 #[.string S, .int .i64 i] w (OneE (S.data.toList.drop i) (nameS (S.data.toList.drop i) []) w) := by
  have CD := Lib.hid (show Calls Tryz.prog 119 #[.int .u8 ((S[i]'hi).toNat : Int)] (w.alloc (.cells #[.int .i64 0, .string ⟨#[]⟩, .int .i64 0] 73)) (EndsW (.bool false) (w.alloc (.cells #[.int .i64 0, .string ⟨#[]⟩, .int .i64 0] 73))) by have := rdigit_any ((S[i]'hi).toNat : Int) (w.alloc (.cells #[.int .i64 0, .string ⟨#[]⟩, .int .i64 0] 73)); rwa [digI_nat, hd] at this)
  have CL := Lib.hid (show Calls Tryz.prog 122 #[.int .u8 ((S[i]'hi).toNat : Int)] (w.alloc (.cells #[.int .i64 0, .string ⟨#[]⟩, .int .i64 0] 73)) (EndsW (.bool true) (w.alloc (.cells #[.int .i64 0, .string ⟨#[]⟩, .int .i64 0] 73))) by
    have h := rletter_any ((S[i]'hi).toNat : Int) (w.alloc (.cells #[.int .i64 0, .string ⟨#[]⟩, .int .i64 0] 73))
    have e : letterI ((S[i]'hi).toNat : Int) = true := by
      have h1 := name_split ((S[i]'hi).toNat : Int)
      rw [nameI_nat, hc, digI_nat, hd, Bool.or_false] at h1
      exact h1.symm
    rwa [e] at h)
  have CR := Lib.hid (rrow_any S i false (w.alloc (.cells #[.int .i64 0, .string ⟨#[]⟩, .int .i64 0] 73)) hs (by omega))
  rw [show rowP false = nameB from rfl] at CR
  have HE := Lib.hid (cut_bs S i (rowN nameB (S.data.toList.drop i)))
  have HLE : Hid (i + rowN nameB (S.data.toList.drop i) ≤ S.size) := Lib.hid (by have := rowN_le nameB (S.data.toList.drop i); rw [List.length_drop, len_bytes] at this; omega)
  obtain ⟨n, hn⟩ : ∃ n, n = rowN nameB (S.data.toList.drop i) := ⟨_, rfl⟩
  rw [← hn] at CR HE HLE
  have hle := HLE.out
  obtain ⟨m, hm⟩ : ∃ m, m = i + n := ⟨_, rfl⟩
  have hm2 : (i : Int) + (n : Int) = (m : Int) := by omega
  rw [← hm] at HE hle
  have him : i ≤ m := by omega
  have HN := Lib.hid hn
  have HM := Lib.hid hm
  clear hm
  have hx : S.extract i m = bs ((S.data.toList.drop i).take n) := HE.out
  have HNW := Lib.hid (heap_alloc_new w (.cells #[.int .i64 0, .string ⟨#[]⟩, .int .i64 0] 73 (0, 0)))
  have HBW : Hid (Below w.heap.size w (w.alloc (.cells #[.int .i64 0, .string ⟨#[]⟩, .int .i64 0] 73))) := Lib.hid ((Below.refl _ w).alloc (Nat.le_refl _) _)
  have CK := Lib.hid (rkey_any (bs ((S.data.toList.drop i).take n)) (w.alloc (.cells #[.int .i64 0, .string ⟨#[]⟩, .int .i64 0] 73)))
  rw [bs_data] at CK
  clear hn
  by_cases h16 : 16 < n
  · have HE2 := Lib.hid (nameS_long (ws := []) (l := S.data.toList.drop i) (by rw [← HN.out]; exact h16))
    clear CK
    go_enter Tryz.func87, Tryz.ntmps87
    go_wp2_with (first | (go_at_call 119; refine CD.out.mono ?_; rintro e w' ⟨rfl, rfl⟩) | (go_at_call 122; refine CL.out.mono ?_; rintro e w' ⟨rfl, rfl⟩))
    refine CR.out.mono ?_
    rintro e w' ⟨rfl, rfl⟩
    go_wp2_with fail
    refine bodyPost_ret (results_one rfl _ _ w.heap.size _ _ _ _ _ rfl rfl rfl (heap_alloc_new w (.cells #[.int .i64 0, .string ⟨#[]⟩, .int .i64 0] 73 (0, 0)))) rfl ?_
    exact ⟨_, _, _, 0, by rw [HE2.out]; rfl, (fun h => absurd h (by rw [HE2.out]; exact fun h => by cases h)), (Below.refl _ w).alloc (Nat.le_refl _) _⟩
  · have H16 : Hid (¬ 16 < rowN nameB (S.data.toList.drop i)) := Lib.hid (by rw [← HN.out]; exact h16)
    rcases Bool.eq_false_or_eq_true (keyB ((S.data.toList.drop i).take n)) with hk | hk
    all_goals rw [hk] at CK
    all_goals have HK := Lib.hid (HN.out ▸ hk)
    all_goals clear hk
    all_goals go_enter Tryz.func87, Tryz.ntmps87
    all_goals go_wp2_with (first | (go_at_call 119; refine CD.out.mono ?_; rintro e w' ⟨rfl, rfl⟩) | (go_at_call 122; refine CL.out.mono ?_; rintro e w' ⟨rfl, rfl⟩))
    all_goals refine CR.out.mono ?_
    all_goals rintro e w' ⟨rfl, rfl⟩
    · skip
      have HE2 := Lib.hid (nameS_key (ws := []) H16.out HK.out)
      go_wp2_with fail
      refine CK.out.mono ?_
      rintro e w2 ⟨rfl, hb⟩
      have HN2 := Lib.hid ((hb.block _ (by simp)).trans HNW.out)
      have y0 := cell_at HN2.out 0
      have y1 := cell_at HN2.out 1
      have y2 := cell_at HN2.out 2
      simp only [List.getElem?_toArray, List.getElem?_cons_succ, List.getElem?_cons_zero] at y0 y1 y2
      have f0 := free_at HN2.out 0
      have f1 := free_at HN2.out 1
      have f2 := free_at HN2.out 2
      have HT := Lib.hid (((Turn.refl [w.heap.size] w).below HBW.out).below hb)
      clear hb CK
      go_wp2_with fail
      refine bodyPost_ret (results_one rfl _ _ w.heap.size _ _ _ _ _ rfl rfl rfl (set_at (set_at (set_at HN2.out 0 (.int .i64 4)) 1 (.string (bs ((S.data.toList.drop i).take n)))) 2 (.int .i64 0))) rfl ?_
      exact ⟨4, bs ((S.data.toList.drop i).take n), 0, n, by rw [HE2.out]; rfl, fun _ => ⟨⟨4, (S.data.toList.drop i).take n, 0⟩, by rw [HE2.out, HN.out]; rfl, rfl, rfl, rfl, by rw [HE2.out, HN.out], by rw [HN.out]; exact rowN_le _ _⟩, Turn.low (((HT.out.setCell (.inl (List.mem_singleton.2 rfl)) _).setCell (.inl (List.mem_singleton.2 rfl)) _).setCell (.inl (List.mem_singleton.2 rfl)) _) (by simp) (Nat.le_refl _)⟩
    · skip
      have HE2 := Lib.hid (nameS_name (ws := []) H16.out HK.out)
      go_wp2_with fail
      refine CK.out.mono ?_
      rintro e w2 ⟨rfl, hb⟩
      have HN2 := Lib.hid ((hb.block _ (by simp)).trans HNW.out)
      have y0 := cell_at HN2.out 0
      have y1 := cell_at HN2.out 1
      have y2 := cell_at HN2.out 2
      simp only [List.getElem?_toArray, List.getElem?_cons_succ, List.getElem?_cons_zero] at y0 y1 y2
      have f0 := free_at HN2.out 0
      have f1 := free_at HN2.out 1
      have f2 := free_at HN2.out 2
      have HT := Lib.hid (((Turn.refl [w.heap.size] w).below HBW.out).below hb)
      clear hb CK
      go_wp2_with fail
      refine bodyPost_ret (results_one rfl _ _ w.heap.size _ _ _ _ _ rfl rfl rfl (set_at (set_at (set_at HN2.out 0 (.int .i64 1)) 1 (.string (bs ((S.data.toList.drop i).take n)))) 2 (.int .i64 0))) rfl ?_
      exact ⟨1, bs ((S.data.toList.drop i).take n), 0, n, by rw [HE2.out]; rfl, fun _ => ⟨⟨1, (S.data.toList.drop i).take n, 0⟩, by rw [HE2.out, HN.out]; rfl, rfl, rfl, rfl, by rw [HE2.out, HN.out], by rw [HN.out]; exact rowN_le _ _⟩, Turn.low (((HT.out.setCell (.inl (List.mem_singleton.2 rfl)) _).setCell (.inl (List.mem_singleton.2 rfl)) _).setCell (.inl (List.mem_singleton.2 rfl)) _) (by simp) (Nat.le_refl _)⟩
end Go.Proofs.YtlhbhpdpjidpgaaGreatDoor.Lex
/- The document's one: the word at a place, a text. Conditions: sizes. -/
namespace Go.Proofs.YtlhbhpdpjidpgaaGreatDoor.Lex
open Go.RowKit
open Num (EndsW)
set_option maxRecDepth 100000
def noQ (c : UInt8) : Bool := decide (c.toNat ≠ 34)
theorem cutQ_row (l : List UInt8) : cutQ l = if rowN noQ l < l.length then some (l.take (rowN noQ l)) else none := by
  rw [take_rowN]
  rfl
theorem text_word {s : List UInt8} : textOk s = wordOk s := by
  unfold textOk
  rw [nameOk_word]
  cases hk : keyB s with
  | false => simp
  | true =>
    have : ∀ s ∈ keysL, wordOk s = true := by decide
    rw [this s (by unfold keyB at hk; exact List.contains_iff_mem.1 hk)]
    rfl
theorem textD_none {l : List UInt8} (h : cutQ (l.drop 1) = none) : textS l [] = ⟨7, l, []⟩ := by unfold textS; rw [h]
theorem textD_bad {l s : List UInt8} (h : cutQ (l.drop 1) = some s) (hw : wordOk s = false) : textS l [] = ⟨7, l, []⟩ := by unfold textS; rw [h]; dsimp only; rw [text_word, hw]; rfl
theorem textD_ok {l s : List UInt8} (h : cutQ (l.drop 1) = some s) (hw : wordOk s = true) : textS l [] = ⟨0, l.drop (s.length + 2), [⟨3, s, 0⟩]⟩ := by unfold textS; rw [h]; dsimp only; rw [text_word, hw]; rfl
set_option maxHeartbeats 4000000 in
theorem one_text (S : ByteArray) (i : Nat) (w : World) (hi : i < S.size) (hs : S.size ≤ 1000000) (hc : (S[i]'hi).toNat = 34) : Calls Tryz.prog 87 #[.string S, .int .i64 i] w (OneE (S.data.toList.drop i) (textS (S.data.toList.drop i) []) w) := by
  have CD := Lib.hid (show Calls Tryz.prog 119 #[.int .u8 ((S[i]'hi).toNat : Int)] (w.alloc (.cells #[.int .i64 0, .string ⟨#[]⟩, .int .i64 0] 73)) (EndsW (.bool false) (w.alloc (.cells #[.int .i64 0, .string ⟨#[]⟩, .int .i64 0] 73))) by have h := rdigit_any ((S[i]'hi).toNat : Int) (w.alloc (.cells #[.int .i64 0, .string ⟨#[]⟩, .int .i64 0] 73)); rw [show digI ((S[i]'hi).toNat : Int) = false by rw [hc]; decide] at h; exact h)
  have CL := Lib.hid (show Calls Tryz.prog 122 #[.int .u8 ((S[i]'hi).toNat : Int)] (w.alloc (.cells #[.int .i64 0, .string ⟨#[]⟩, .int .i64 0] 73)) (EndsW (.bool false) (w.alloc (.cells #[.int .i64 0, .string ⟨#[]⟩, .int .i64 0] 73))) by have h := rletter_any ((S[i]'hi).toNat : Int) (w.alloc (.cells #[.int .i64 0, .string ⟨#[]⟩, .int .i64 0] 73)); rw [show letterI ((S[i]'hi).toNat : Int) = false by rw [hc]; decide] at h; exact h)
  have h34 : (((S[i]'hi).toNat : Int) == 34) = true := by rw [hc]; rfl
  obtain ⟨j, hj⟩ : ∃ j, j = i + 1 := ⟨_, rfl⟩
  have hj2 : (i : Int) + 1 = (j : Int) := by omega
  have HJ := Lib.hid hj
  have hj3 : j ≤ S.size := by omega
  have HDD : Hid ((S.data.toList.drop i).drop 1 = S.data.toList.drop j) := Lib.hid (by rw [List.drop_drop, hj])
  have HLN : Hid ((S.data.toList.drop j).length = S.size - j) := Lib.hid (by rw [List.length_drop, len_bytes])
  clear hc hj
  go_enter Tryz.func87, Tryz.ntmps87
  go_wp2_with (first | (go_at_call 119; refine CD.out.mono ?_; rintro e w' ⟨rfl, rfl⟩) | (go_at_call 122; refine CL.out.mono ?_; rintro e w' ⟨rfl, rfl⟩))
  go_loop [12] (fun v => ∃ m : Nat, j ≤ m ∧ m ≤ S.size ∧ v = .int .i64 m ∧ m - j ≤ rowN noQ (S.data.toList.drop j)) (fun v => S.size - (intOf v).toNat)
  case atStart => exact ⟨j, Nat.le_refl _, hj3, by first | rfl | go_num, by rw [Nat.sub_self]; exact Nat.zero_le _⟩
  case round =>
    obtain ⟨m, hm1, hm2, rfl, hu⟩ := hrel
    have HU := Lib.hid hu
    clear hu
    by_cases hlt : m < S.size
    · have HAT : Hid ((S.data.toList.drop j)[m - j]? = some (S[m]'hlt)) := Lib.hid (by have h := at_drop S j (m - j) (by omega); simpa only [show j + (m - j) = m by omega] using h)
      by_cases hq : (S[m]'hlt).toNat = 34
      · have hq2 : (((S[m]'hlt).toNat : Int) == 34) = true := by rw [hq]; rfl
        have HRW : Hid (rowN noQ (S.data.toList.drop j) = m - j) := Lib.hid (rowN_stop HU.out HAT.out (by unfold noQ; rw [hq]; rfl))
        have HCQ : Hid (cutQ ((S.data.toList.drop i).drop 1) = some ((S.data.toList.drop j).take (m - j))) := Lib.hid (by rw [HDD.out, cutQ_row, HRW.out, if_pos (by rw [HLN.out]; omega)])
        have hx : S.extract j m = bs ((S.data.toList.drop j).take (m - j)) := by
          have h := cut_bs S j (m - j)
          rwa [show j + (m - j) = m by omega] at h
        have CW := Lib.hid (word_any (bs ((S.data.toList.drop j).take (m - j))) (w.alloc (.cells #[.int .i64 0, .string ⟨#[]⟩, .int .i64 0] 73)) (by rw [bs_size, List.length_take, HLN.out]; omega))
        rw [bs_data] at CW
        obtain ⟨u, hu⟩ : ∃ u, u = m + 1 - i := ⟨_, rfl⟩
        have hu2 : (m : Int) + 1 - (i : Int) = (u : Int) := by have := HJ.out; omega
        have HLT : Hid (((S.data.toList.drop j).take (m - j)).length + 2 = u) := Lib.hid (by rw [List.length_take, HLN.out]; have := HJ.out; omega)
        clear hq hu
        rcases Bool.eq_false_or_eq_true (wordOk ((S.data.toList.drop j).take (m - j))) with hk | hk
        · rw [hk] at CW
          have HE2 := Lib.hid (textD_ok HCQ.out hk)
          clear hk
          go_wp2_with fail
          refine CW.out.mono ?_
          rintro e w' ⟨rfl, rfl⟩
          go_wp2_with fail
          refine bodyPost_ret (results_one rfl _ _ w.heap.size _ _ _ _ _ rfl rfl rfl (heap_alloc_new w (.cells #[.int .i64 3, .string (bs ((S.data.toList.drop j).take (m - j))), .int .i64 0] 73 (0, 0)))) rfl ?_
          exact ⟨3, bs ((S.data.toList.drop j).take (m - j)), 0, u, by rw [HE2.out]; rfl, fun _ => ⟨⟨3, (S.data.toList.drop j).take (m - j), 0⟩, by rw [HE2.out], rfl, rfl, rfl, by rw [HE2.out, ← HLT.out], by rw [List.length_drop, len_bytes]; omega⟩, (Below.refl _ w).alloc (Nat.le_refl _) _⟩
        · rw [hk] at CW
          have HE2 := Lib.hid (textD_bad HCQ.out hk)
          clear hk
          go_wp2_with fail
          refine CW.out.mono ?_
          rintro e w' ⟨rfl, rfl⟩
          go_wp2_with fail
          refine bodyPost_ret (results_one rfl _ _ w.heap.size _ _ _ _ _ rfl rfl rfl (heap_alloc_new w (.cells #[.int .i64 0, .string ⟨#[]⟩, .int .i64 0] 73 (0, 0)))) rfl ?_
          exact ⟨_, _, _, 0, by rw [HE2.out]; rfl, (fun h => absurd h (by rw [HE2.out]; exact fun h => by cases h)), (Below.refl _ w).alloc (Nat.le_refl _) _⟩
      · have hq2 : (((S[m]'hlt).toNat : Int) == 34) = false := by simp; omega
        have HRW : Hid (m - j + 1 ≤ rowN noQ (S.data.toList.drop j)) := Lib.hid (rowN_step HU.out HAT.out (by unfold noQ; simpa using hq))
        clear hq
        go_wp2_with fail
        go_round
        case rel => exact ⟨m + 1, by omega, by omega, by go_num, by have := HRW.out; omega⟩
        case measure => simp [intOf]; omega
    · have HCQ : Hid (cutQ ((S.data.toList.drop i).drop 1) = none) := Lib.hid (by
        rw [HDD.out, cutQ_row, if_neg]
        have := HU.out
        have := HLN.out
        omega)
      have HE2 := Lib.hid (textD_none HCQ.out)
      go_wp2_with fail
      refine bodyPost_ret (results_one rfl _ _ w.heap.size _ _ _ _ _ rfl rfl rfl (heap_alloc_new w (.cells #[.int .i64 0, .string ⟨#[]⟩, .int .i64 0] 73 (0, 0)))) rfl ?_
      exact ⟨_, _, _, 0, by rw [HE2.out]; rfl, (fun h => absurd h (by rw [HE2.out]; exact fun h => by cases h)), (Below.refl _ w).alloc (Nat.le_refl _) _⟩
end Go.Proofs.YtlhbhpdpjidpgaaGreatDoor.Lex
