/-
  What Read answers: a function of the bytes.
-/
import Derived.Test.YtjgkfdhfffbccaaDoorRows
import Derived.WalkKit
import Derived.WalkSpells
import Derived.WalkLawsBesides
import Derived.Lib.Hide
import Derived.Test.YtjgkfdhfffbccaaDoorNMath
namespace Go.Proofs.YtjgkfdhfffbccaaDoor.Num
open Go.RowKit
/-- What a call that only reckons comes to. -/
def EndsW (v : Value) (w : World) (e : Ending) (w' : World) : Prop := e = .returned v ∧ w = w'
def pair (n : Int) (b : Bool) : Value := .tuple #[.int .i64 n, .bool b]
theorem ends_pair {n m : Int} {b : Bool} {w : World} (h : n = m) : EndsW (pair m b) w (.returned (.tuple #[.int .i64 n, .bool b])) w := by subst h; exact ⟨rfl, rfl⟩

theorem read_short (s : ByteArray) (w : World) (h : s.size < 1) : Calls Tryd.prog 44 #[.string s] w (EndsW (pair 0 false) w) := by
  go_enter Tryd.func44, Tryd.ntmps44
  go_wp2
  go_ret2
  exact ends_pair rfl
theorem read_long (s : ByteArray) (w : World) (h : 19 < s.size) (hs : s.size ≤ maxLen) : Calls Tryd.prog 44 #[.string s] w (EndsW (pair 0 false) w) := by
  unfold maxLen at hs
  go_enter Tryd.func44, Tryd.ntmps44
  go_wp2
  all_goals go_ret2
  all_goals exact ends_pair rfl
theorem read_zero (s : ByteArray) (w : World) (h : 1 < s.size) (h2 : s.size ≤ 19) (h0 : 0 < s.size) (hb : ((s[0].toNat : Int) == 48) = true) : Calls Tryd.prog 44 #[.string s] w (EndsW (pair 0 false) w) := by
  go_enter Tryd.func44, Tryd.ntmps44
  go_wp2
  all_goals go_ret2
  all_goals exact ends_pair rfl

theorem take_snoc (s : ByteArray) (k : Nat) (h : k < s.size) : s.data.toList.take (k + 1) = s.data.toList.take k ++ [s[k]] := by
  rw [List.take_succ_eq_append_getElem (by simpa using h)]; rfl
/-- What a round of the loop leaves of the text's first k bytes. -/
def Sofar (s : ByteArray) (k : Nat) : Prop := (s.data.toList.take k).all isDig = true
def vk (s : ByteArray) (k : Nat) : Nat := val (s.data.toList.take k)
theorem vk_lt (s : ByteArray) (k : Nat) (hk : k ≤ 18) (h : Sofar s k) : vk s k ≤ 999999999999999999 := by
  have := val_lt _ h
  have hl : (s.data.toList.take k).length ≤ 18 := by rw [List.length_take]; omega
  have := Nat.pow_le_pow_right (show 0 < 10 by omega) hl
  unfold vk
  omega
theorem sofar_succ (s : ByteArray) (k : Nat) (hk : k < s.size) (h : Sofar s k) (hc : 48 ≤ s[k].toNat) (hd : s[k].toNat ≤ 57) : Sofar s (k + 1) := by
  unfold Sofar at h ⊢
  rw [take_snoc s k hk, List.all_append, h]
  simp [isDig, hc, hd]
theorem vk_succ (s : ByteArray) (k : Nat) (hk : k < s.size) (hc : 48 ≤ s[k].toNat) : (vk s (k + 1) : Int) = vk s k * 10 + (s[k].toNat - 48) := by
  unfold vk
  rw [take_snoc s k hk, val_snoc]
  omega
theorem not_all (s : ByteArray) (k : Nat) (hk : k < s.size) (hc : s[k].toNat < 48 ∨ 57 < s[k].toNat) : s.data.toList.all isDig = false := by
  rw [List.all_eq_false]
  refine ⟨s[k], ?_, ?_⟩
  · exact Array.getElem_mem_toList hk
  · simp [isDig]; omega

theorem bad_zero (s : ByteArray) (hb : bad s.data.toList = false) (h0 : 0 < s.size) (h1 : 1 < s.size) : ((s[0].toNat : Int) == 48) = false := by
  rw [beq_eq_false_iff_ne]
  intro e
  unfold bad at hb
  rw [decide_eq_false_iff_not] at hb
  apply hb
  refine Or.inr (Or.inr ⟨by simpa using h1, ?_⟩)
  rw [List.head?_eq_getElem?, List.getElem?_eq_getElem (by simpa using h0)]
  congr 1
  apply UInt8.toNat_inj.1
  show s[0].toNat = 48
  omega
theorem three (s : ByteArray) (hb : bad s.data.toList = false) (h0 : 0 < s.size) :
    (1 < s.size ∧ ((s[0].toNat : Int) == 48) = false) ∨ (s.size ≤ 1 ∧ ((s[0].toNat : Int) == 48) = false) ∨ (s.size ≤ 1 ∧ ((s[0].toNat : Int) == 48) = true) := by
  by_cases h1 : 1 < s.size
  · exact Or.inl ⟨h1, bad_zero s hb h0 h1⟩
  · cases h : ((s[0].toNat : Int) == 48)
    · exact Or.inr (Or.inl ⟨by omega, rfl⟩)
    · exact Or.inr (Or.inr ⟨by omega, rfl⟩)
theorem readV_bad (s : ByteArray) (k : Nat) (hb : bad s.data.toList = false) (hk : k < s.size) (hc : s[k].toNat < 48 ∨ 57 < s[k].toNat) : readV s.data.toList = (0, false) := by
  unfold readV
  rw [if_neg (by rw [hb]; simp), not_all s k hk hc, if_neg (by simp)]
theorem readV_big (s : ByteArray) (hb : bad s.data.toList = false) (h : Sofar s s.size) (hv : 9223372036854775807 < vk s s.size) : readV s.data.toList = (0, false) := by
  unfold Sofar at h
  unfold vk at hv
  rw [List.take_of_length_le (by simp)] at h hv
  unfold readV
  rw [if_neg (by rw [hb]; simp), if_pos h, if_pos hv]
theorem readV_good (s : ByteArray) (hb : bad s.data.toList = false) (h : Sofar s s.size) (hv : vk s s.size ≤ 9223372036854775807) : readV s.data.toList = ((vk s s.size : Int), true) := by
  unfold Sofar at h
  unfold vk at hv ⊢
  rw [List.take_of_length_le (by simp)] at h hv ⊢
  unfold readV
  rw [if_neg (by rw [hb]; simp), if_pos h, if_neg (by omega)]
theorem vk_end (s : ByteArray) (h : s.size ≤ 19) (hf : Sofar s s.size) : vk s s.size ≤ 9999999999999999999 := by
  unfold Sofar at hf
  have := val_lt _ hf
  have hl : (s.data.toList.take s.size).length ≤ 19 := by rw [List.length_take]; omega
  have := Nat.pow_le_pow_right (show 0 < 10 by omega) hl
  unfold vk
  omega

set_option maxHeartbeats 800000 in
theorem read_loop (s : ByteArray) (w : World) (h1 : 1 ≤ s.size) (h2 : s.size ≤ 19) (hb : bad s.data.toList = false) : Calls Tryd.prog 44 #[.string s] w (EndsW (pair (readV s.data.toList).1 (readV s.data.toList).2) w) := by
  have hz := three s hb (by omega)
  have HB := Lib.hid hb
  clear hb
  go_enter Tryd.func44, Tryd.ntmps44
  rcases hz with ⟨hone, hz'⟩ | ⟨hone, hz'⟩ | ⟨hone, hz'⟩
  all_goals
    go_wp2
    go_loop [4, 26] (fun n i => ∃ k : Nat, k ≤ s.size ∧ i = .int .i64 k ∧ n = .int .u64 (vk s k) ∧ Sofar s k) (fun _ i => s.size - (intOf i).toNat)
    case atStart => exact ⟨0, by omega, rfl, rfl, rfl⟩
    case round =>
      obtain ⟨k, hk, rfl, rfl, hf⟩ := hrel
      by_cases hlt : k < s.size
      · have hv := vk_lt s k (by omega) hf
        by_cases hd : 48 ≤ s[k].toNat
        · by_cases hd2 : s[k].toNat ≤ 57
          · have HS := Lib.hid (vk_succ s k hlt hd)
            have HF := Lib.hid (sofar_succ s k hlt hf hd hd2)
            go_wp2
            go_round
            case rel => exact ⟨k + 1, by omega, by go_num, by rw [HS.out], HF.out⟩
            case measure => simp [intOf]; omega
          · have HR := Lib.hid (readV_bad s k HB.out hlt (by omega))
            go_wp2
            go_ret2
            exact ⟨by rw [HR.out]; rfl, rfl⟩
        · have HR := Lib.hid (readV_bad s k HB.out hlt (by omega))
          go_wp2
          go_ret2
          exact ⟨by rw [HR.out]; rfl, rfl⟩
      · obtain rfl : k = s.size := by omega
        have he := vk_end s h2 hf
        by_cases hv : 9223372036854775807 < vk s s.size
        · have HR := Lib.hid (readV_big s HB.out hf hv)
          go_wp2
          go_ret2
          exact ⟨by rw [HR.out]; rfl, rfl⟩
        · have HR := Lib.hid (readV_good s HB.out hf (by omega))
          have hv' : vk s s.size ≤ 9223372036854775807 := by omega
          clear hv
          go_wp2
          go_ret2
          exact ⟨by rw [HR.out]; rfl, rfl⟩

theorem len_eq (s : ByteArray) : s.data.toList.length = s.size := by rw [Array.length_toList]; rfl
theorem bad_true (s : ByteArray) (hb : bad s.data.toList = true) : s.size < 1 ∨ 19 < s.size ∨ ∃ h0 : 0 < s.size, 1 < s.size ∧ ((s[0].toNat : Int) == 48) = true := by
  unfold bad at hb
  rw [decide_eq_true_eq] at hb
  rcases hb with h | h | ⟨h, h2⟩
  · exact Or.inl (by simpa using h)
  · exact Or.inr (Or.inl (by simpa using h))
  · have h1 : 1 < s.size := by simpa using h
    refine Or.inr (Or.inr ⟨by omega, h1, ?_⟩)
    rw [List.head?_eq_getElem?, List.getElem?_eq_getElem (by simpa using (show 0 < s.size by omega))] at h2
    have h3 : s[0] = 48 := Option.some.inj h2
    rw [h3]
    rfl
theorem read_any (s : ByteArray) (w : World) (hs : s.size ≤ maxLen) : Calls Tryd.prog 44 #[.string s] w (EndsW (pair (readV s.data.toList).1 (readV s.data.toList).2) w) := by
  by_cases hb : bad s.data.toList = true
  · have hr : readV s.data.toList = (0, false) := by unfold readV; rw [if_pos hb]
    rw [hr]
    rcases bad_true s hb with h | h | ⟨h0, h1, hz⟩
    · exact read_short s w h
    · exact read_long s w h hs
    · by_cases h2 : s.size ≤ 19
      · exact read_zero s w h1 h2 h0 hz
      · exact read_long s w (by omega) hs
  · rw [Bool.not_eq_true] at hb
    have hb2 := hb
    unfold bad at hb2
    rw [decide_eq_false_iff_not, not_or, not_or] at hb2
    exact read_loop s w (by have := hb2.1; rw [len_eq] at this; omega) (by have := hb2.2.1; rw [len_eq] at this; omega) hb
end Go.Proofs.YtjgkfdhfffbccaaDoor.Num
