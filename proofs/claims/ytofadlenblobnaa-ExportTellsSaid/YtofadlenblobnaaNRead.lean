/-
  What Read answers: a function of the bytes.
-/
import Derived.Test.YtofadlenblobnaaRows
import Derived.WalkKit
import Derived.WalkSpells
import Derived.WalkLawsBesides
import Derived.Lib.Hide
import Derived.Test.YtofadlenblobnaaNMath
namespace Go.Proofs.Ytofadlenblobnaa.Num
open Go.RowKit
/-- What a call that only reckons comes to. -/
def EndsW (v : Value) (w : World) (e : Ending) (w' : World) : Prop := e = .returned v ∧ w = w'
def pair (n : Int) (b : Bool) : Value := .tuple #[.int .i64 n, .bool b]
theorem ends_pair {n m : Int} {b : Bool} {w : World} (h : n = m) : EndsW (pair m b) w (.returned (.tuple #[.int .i64 n, .bool b])) w := by subst h; exact ⟨rfl, rfl⟩

theorem take_snoc (s : ByteArray) (k : Nat) (h : k < s.size) : s.data.toList.take (k + 1) = s.data.toList.take k ++ [s[k]] := by
  rw [List.take_succ_eq_append_getElem (by simpa using h)]; rfl
/-- What a round of the loop leaves of the text's first k bytes. -/
def Sofar (s : ByteArray) (k : Nat) : Prop := (s.data.toList.take k).all isDig = true
def vk (s : ByteArray) (k : Nat) : Nat := val (s.data.toList.take k)
theorem vk_lt (s : ByteArray) (k : Nat) (hk : k ≤ 18) (h : Sofar s k) : vk s k ≤ 999999999999999999 := by
  have := val_lt _ h
  have hl : (s.data.toList.take k).length ≤ 18 := by rw [List.length_take]; omega
  have := Nat.pow_le_pow_right (show 0 < 10 by omega) hl
  unfold vk
  omega
theorem sofar_succ (s : ByteArray) (k : Nat) (hk : k < s.size) (h : Sofar s k) (hc : 48 ≤ s[k].toNat) (hd : s[k].toNat ≤ 57) : Sofar s (k + 1) := by
  unfold Sofar at h ⊢
  rw [take_snoc s k hk, List.all_append, h]
  simp [isDig, hc, hd]
theorem vk_succ (s : ByteArray) (k : Nat) (hk : k < s.size) (hc : 48 ≤ s[k].toNat) : (vk s (k + 1) : Int) = vk s k * 10 + (s[k].toNat - 48) := by
  unfold vk
  rw [take_snoc s k hk, val_snoc]
  omega
theorem not_all (s : ByteArray) (k : Nat) (hk : k < s.size) (hc : s[k].toNat < 48 ∨ 57 < s[k].toNat) : s.data.toList.all isDig = false := by
  rw [List.all_eq_false]
  refine ⟨s[k], ?_, ?_⟩
  · exact Array.getElem_mem_toList hk
  · simp [isDig]; omega

theorem bad_zero (s : ByteArray) (hb : bad s.data.toList = false) (h0 : 0 < s.size) (h1 : 1 < s.size) : ((s[0].toNat : Int) == 48) = false := by
  rw [beq_eq_false_iff_ne]
  intro e
  unfold bad at hb
  rw [decide_eq_false_iff_not] at hb
  apply hb
  refine Or.inr (Or.inr ⟨by simpa using h1, ?_⟩)
  rw [List.head?_eq_getElem?, List.getElem?_eq_getElem (by simpa using h0)]
  congr 1
  apply UInt8.toNat_inj.1
  show s[0].toNat = 48
  omega
theorem three (s : ByteArray) (hb : bad s.data.toList = false) (h0 : 0 < s.size) :
    (1 < s.size ∧ ((s[0].toNat : Int) == 48) = false) ∨ (s.size ≤ 1 ∧ ((s[0].toNat : Int) == 48) = false) ∨ (s.size ≤ 1 ∧ ((s[0].toNat : Int) == 48) = true) := by
  by_cases h1 : 1 < s.size
  · exact Or.inl ⟨h1, bad_zero s hb h0 h1⟩
  · cases h : ((s[0].toNat : Int) == 48)
    · exact Or.inr (Or.inl ⟨by omega, rfl⟩)
    · exact Or.inr (Or.inr ⟨by omega, rfl⟩)
theorem readV_bad (s : ByteArray) (k : Nat) (hb : bad s.data.toList = false) (hk : k < s.size) (hc : s[k].toNat < 48 ∨ 57 < s[k].toNat) : readV s.data.toList = (0, false) := by
  unfold readV
  rw [if_neg (by rw [hb]; simp), not_all s k hk hc, if_neg (by simp)]
theorem readV_big (s : ByteArray) (hb : bad s.data.toList = false) (h : Sofar s s.size) (hv : 9223372036854775807 < vk s s.size) : readV s.data.toList = (0, false) := by
  unfold Sofar at h
  unfold vk at hv
  rw [List.take_of_length_le (by simp)] at h hv
  unfold readV
  rw [if_neg (by rw [hb]; simp), if_pos h, if_pos hv]
theorem readV_good (s : ByteArray) (hb : bad s.data.toList = false) (h : Sofar s s.size) (hv : vk s s.size ≤ 9223372036854775807) : readV s.data.toList = ((vk s s.size : Int), true) := by
  unfold Sofar at h
  unfold vk at hv ⊢
  rw [List.take_of_length_le (by simp)] at h hv ⊢
  unfold readV
  rw [if_neg (by rw [hb]; simp), if_pos h, if_neg (by omega)]
theorem vk_end (s : ByteArray) (h : s.size ≤ 19) (hf : Sofar s s.size) : vk s s.size ≤ 9999999999999999999 := by
  unfold Sofar at hf
  have := val_lt _ hf
  have hl : (s.data.toList.take s.size).length ≤ 19 := by rw [List.length_take]; omega
  have := Nat.pow_le_pow_right (show 0 < 10 by omega) hl
  unfold vk
  omega

theorem len_eq (s : ByteArray) : s.data.toList.length = s.size := by rw [Array.length_toList]; rfl
theorem bad_true (s : ByteArray) (hb : bad s.data.toList = true) : s.size < 1 ∨ 19 < s.size ∨ ∃ h0 : 0 < s.size, 1 < s.size ∧ ((s[0].toNat : Int) == 48) = true := by
  unfold bad at hb
  rw [decide_eq_true_eq] at hb
  rcases hb with h | h | ⟨h, h2⟩
  · exact Or.inl (by simpa using h)
  · exact Or.inr (Or.inl (by simpa using h))
  · have h1 : 1 < s.size := by simpa using h
    refine Or.inr (Or.inr ⟨by omega, h1, ?_⟩)
    rw [List.head?_eq_getElem?, List.getElem?_eq_getElem (by simpa using (show 0 < s.size by omega))] at h2
    have h3 : s[0] = 48 := Option.some.inj h2
    rw [h3]
    rfl
end Go.Proofs.Ytofadlenblobnaa.Num
