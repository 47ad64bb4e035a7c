/-
  Decimal numerals as lists of bytes: what a text tells as a number, what a number's text is, and that the one is the other's way back. No program in this text.
-/
import Derived.Lib.ItoaNum
import Derived.RowKit
namespace Go.Proofs.Ytofadlenblobnaa.Num
open Go.Lib

def isDig (c : UInt8) : Bool := decide (48 ≤ c.toNat ∧ c.toNat ≤ 57)
/-- The number of digits, the first ahead. -/
def val (l : List UInt8) : Nat := l.foldl (fun n c => 10 * n + (c.toNat - 48)) 0
def bad (l : List UInt8) : Bool := decide (l.length < 1 ∨ 19 < l.length ∨ (1 < l.length ∧ l.head? = some 48))
/-- What Read answers. -/
def readV (l : List UInt8) : Int × Bool :=
  if bad l = true then (0, false) else if l.all isDig = true then (if 9223372036854775807 < val l then (0, false) else ((val l : Int), true)) else (0, false)

theorem val_nil : val [] = 0 := rfl
theorem val_snoc (l : List UInt8) (c : UInt8) : val (l ++ [c]) = 10 * val l + (c.toNat - 48) := by simp [val, List.foldl_append]
theorem toNat_dig (d : Nat) (h : d < 10) : (UInt8.ofNat (48 + d)).toNat = 48 + d := by simp; omega
theorem isDig_dig (d : Nat) (h : d < 10) : isDig (UInt8.ofNat (48 + d)) = true := by
  unfold isDig; rw [toNat_dig d h]; simp; omega

theorem decDigits_lt {u : Nat} (h : u < 10) : decDigits u = [UInt8.ofNat (48 + u)] := by rw [decDigits, dif_pos h]
theorem decDigits_ge {u : Nat} (h : ¬ u < 10) : decDigits u = decDigits (u / 10) ++ [UInt8.ofNat (48 + u % 10)] := by rw [decDigits, dif_neg h]

theorem val_decDigits (u : Nat) : val (decDigits u) = u := by
  induction u using Nat.strongRecOn with
  | _ u ih =>
    by_cases h : u < 10
    · rw [decDigits_lt h]
      have := toNat_dig u h
      simp [val] at this ⊢
      omega
    · rw [decDigits_ge h, val_snoc, ih (u / 10) (by omega), toNat_dig _ (Nat.mod_lt _ (by omega))]
      omega
theorem all_decDigits (u : Nat) : (decDigits u).all isDig = true := by
  induction u using Nat.strongRecOn with
  | _ u ih =>
    by_cases h : u < 10
    · rw [decDigits_lt h, List.all_cons, isDig_dig u h, List.all_nil]; rfl
    · rw [decDigits_ge h, List.all_append, ih (u / 10) (by omega), List.all_cons, isDig_dig _ (Nat.mod_lt u (show 10 > 0 by omega)), List.all_nil]
      rfl
theorem decDigits_ne (u : Nat) : decDigits u ≠ [] := by
  by_cases h : u < 10
  · rw [decDigits_lt h]; simp
  · rw [decDigits_ge h]; simp
/-- A numeral's first digit is no 0, unless the number is 0. -/
theorem head_decDigits (u : Nat) (hu : 0 < u) : (decDigits u).head? ≠ some 48 := by
  induction u using Nat.strongRecOn with
  | _ u ih =>
    by_cases h : u < 10
    · rw [decDigits_lt h]
      simp only [List.head?_cons, ne_eq, Option.some.injEq]
      intro e
      have := congrArg UInt8.toNat e
      rw [toNat_dig u h] at this
      simp at this
      omega
    · rw [decDigits_ge h]
      have := ih (u / 10) (by omega) (by omega)
      cases hd : decDigits (u / 10) with
      | nil => exact absurd hd (decDigits_ne _)
      | cons a r => rw [hd] at this; simpa using this
theorem length_decDigits (u : Nat) (h : u ≤ 9223372036854775807) : 1 ≤ (decDigits u).length ∧ (decDigits u).length ≤ 19 := by
  rw [decDigits_length]
  refine ⟨nDigits_pos u, ?_⟩
  apply Classical.byContradiction
  intro hn
  have h2 : ∀ k v : Nat, k < nDigits v → 10 ^ k ≤ v ∨ k = 0 := by
    intro k
    induction k with
    | zero => intro v _; exact Or.inr rfl
    | succ k ih =>
      intro v hv
      by_cases hs : v < 10
      · rw [nDigits_small hs] at hv; omega
      · rw [nDigits_big hs] at hv
        rcases ih (v / 10) (by omega) with h3 | h3
        · left; rw [Nat.pow_succ]; omega
        · subst h3; left; simp; omega
  have := h2 19 u (by omega)
  omega

/-- Read of the text of a number that is not below 0 is the number. -/
theorem readV_nat (u : Nat) (h : u ≤ 9223372036854775807) : readV (decDigits u) = ((u : Int), true) := by
  have hl := length_decDigits u h
  have hb : bad (decDigits u) = false := by
    unfold bad
    rw [decide_eq_false_iff_not]
    rintro (h1 | h1 | ⟨h1, h2⟩)
    · omega
    · omega
    · by_cases hu : u = 0
      · subst hu; rw [decDigits_lt (by omega)] at h1; simp at h1
      · exact head_decDigits u (by omega) h2
  unfold readV
  rw [hb, if_neg (by simp), if_pos (all_decDigits u), val_decDigits, if_neg (by omega)]
theorem readV_itoa (n : Int) (h : n ≤ 9223372036854775807) : readV (itoa n) = if 0 ≤ n then (n, true) else (0, false) := by
  unfold itoa
  by_cases hn : n < 0
  · rw [if_pos hn, if_neg (by omega)]
    unfold readV
    have : (45 :: decDigits n.natAbs).all isDig = false := by simp [isDig]
    rw [this]
    simp
  · rw [if_neg hn, if_pos (by omega), readV_nat _ (by omega)]
    congr 1
    omega

/-- A text of digits without a needless 0 ahead is its number's text. -/
theorem decDigits_val (l : List UInt8) : l ≠ [] → l.all isDig = true → (l.length = 1 ∨ l.head? ≠ some 48) → decDigits (val l) = l := by
  suffices H : ∀ n, ∀ l : List UInt8, l.length = n → l ≠ [] → l.all isDig = true → (l.length = 1 ∨ l.head? ≠ some 48) → decDigits (val l) = l from H _ l rfl
  intro n
  induction n with
  | zero => intro l hl hne _ _; exact absurd (List.length_eq_zero_iff.1 hl) hne
  | succ n ih =>
    intro l hl hne hall hhead
    obtain ⟨r, c, rfl⟩ : ∃ r c, l = r ++ [c] := ⟨l.dropLast, l.getLast hne, (List.dropLast_concat_getLast hne).symm⟩
    rw [List.all_append, Bool.and_eq_true] at hall
    have hc : 48 ≤ c.toNat ∧ c.toNat ≤ 57 := by simpa [isDig] using hall.2
    have hcc : UInt8.ofNat (48 + (c.toNat - 48)) = c := by
      rw [show 48 + (c.toNat - 48) = c.toNat by omega]; simp
    rw [val_snoc]
    cases r with
    | nil =>
      rw [val_nil, decDigits_lt (by omega)]
      simpa using hcc
    | cons a t =>
      have hh : (a :: t).head? ≠ some 48 := by
        rcases hhead with h | h
        · simp at h
        · simpa using h
      have ht : (a :: t).length = n := by simpa using hl
      have ih' := ih (a :: t) ht (by simp) hall.1 (Or.inr hh)
      have hpos : 0 < val (a :: t) := by
        apply Classical.byContradiction
        intro h0
        rw [show val (a :: t) = 0 by omega, decDigits_lt (by omega)] at ih'
        apply hh
        rw [← ih']
        rfl
      rw [decDigits_ge (by omega), show (10 * val (a :: t) + (c.toNat - 48)) / 10 = val (a :: t) by omega, ih',
        show (10 * val (a :: t) + (c.toNat - 48)) % 10 = c.toNat - 48 by omega, hcc]
/-- The text of what is read is the text. -/
theorem itoa_readV (l : List UInt8) (h : (readV l).2 = true) : itoa (readV l).1 = l := by
  unfold readV at h ⊢
  by_cases hb : bad l = true
  · rw [if_pos hb] at h; simp at h
  rw [if_neg hb] at h ⊢
  by_cases ha : l.all isDig = true
  · rw [if_pos ha] at h ⊢
    by_cases hv : 9223372036854775807 < val l
    · rw [if_pos hv] at h; simp at h
    rw [if_neg hv]
    simp only [itoa]
    rw [if_neg (by omega), Int.toNat_natCast]
    simp only [bad, decide_eq_true_eq, not_or, not_and] at hb
    refine decDigits_val l (by intro e; subst e; simp at hb) ha ?_
    by_cases h1 : l.length = 1
    · exact Or.inl h1
    · exact Or.inr (hb.2.2 (by omega))
  · rw [if_neg ha] at h; simp at h
theorem readV_range (l : List UInt8) : 0 ≤ (readV l).1 ∧ (readV l).1 ≤ 9223372036854775807 := by
  unfold readV
  split
  · simp
  split
  · split
    · simp
    · simp; omega
  · simp
/-- Nineteen digits fit into 64 bits. -/
theorem val_lt (l : List UInt8) (h : l.all isDig = true) : val l < 10 ^ l.length := by
  suffices H : ∀ n, ∀ l : List UInt8, l.length = n → l.all isDig = true → val l < 10 ^ l.length from H _ l rfl h
  intro n
  induction n with
  | zero => intro l hl _; rw [List.length_eq_zero_iff.1 hl]; simp [val]
  | succ n ih =>
    intro l hl ha
    have hne : l ≠ [] := by intro e; subst e; simp at hl
    obtain ⟨r, c, rfl⟩ : ∃ r c, l = r ++ [c] := ⟨l.dropLast, l.getLast hne, (List.dropLast_concat_getLast hne).symm⟩
    rw [List.all_append, Bool.and_eq_true] at ha
    have hc : 48 ≤ c.toNat ∧ c.toNat ≤ 57 := by simpa [isDig] using ha.2
    have := ih r (by simpa using hl) ha.1
    rw [val_snoc, List.length_append, List.length_singleton, Nat.pow_succ]
    omega
end Go.Proofs.Ytofadlenblobnaa.Num
