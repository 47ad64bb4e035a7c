/-
  Numbers and texts as bytes, in plain mathematics: how they are laid, and how they are read, step by step; what was laid is read as it was, to the end; one byte less, and it is not. No condition.
-/
import Derived.KernelRfl
namespace Go.Proofs.Ytofadlenblobnaa.Codec
set_option maxRecDepth 100000

/-- The k lowest bytes of n, the lowest first. -/
def le : Nat → Nat → List UInt8
  | 0, _ => []
  | k + 1, n => UInt8.ofNat (n % 256) :: le k (n / 256)
def leVal : List UInt8 → Nat
  | [] => 0
  | x :: r => x.toNat + 256 * leVal r
theorem le_length : ∀ k n, (le k n).length = k
  | 0, _ => rfl
  | k + 1, n => by simp [le, le_length k]
theorem le_snoc : ∀ k n, le (k + 1) n = le k n ++ [UInt8.ofNat (n / 256 ^ k % 256)]
  | 0, n => by simp [le]
  | k + 1, n => by
    rw [le, le_snoc k, le, List.cons_append, Nat.div_div_eq_div_mul, Nat.pow_succ, Nat.mul_comm]
theorem leVal_lt : ∀ l : List UInt8, leVal l < 256 ^ l.length
  | [] => by simp [leVal]
  | x :: r => by
    have := leVal_lt r
    have hx := x.toNat_lt
    simp only [leVal, List.length_cons, Nat.pow_succ]
    omega
theorem leVal_snoc : ∀ (l : List UInt8) (x : UInt8), leVal (l ++ [x]) = leVal l + 256 ^ l.length * x.toNat
  | [], x => by simp [leVal]
  | y :: r, x => by
    simp only [List.cons_append, leVal, leVal_snoc r x, List.length_cons, Nat.pow_succ, Nat.mul_add]
    rw [Nat.mul_comm (256 ^ r.length) 256, Nat.mul_assoc]
    omega
theorem leVal_le : ∀ k n, n < 256 ^ k → leVal (le k n) = n
  | 0, n, h => by simp at h; simp [le, leVal, h]
  | k + 1, n, h => by
    have h1 : n / 256 < 256 ^ k := by rw [Nat.pow_succ] at h; exact Nat.div_lt_of_lt_mul (by omega)
    rw [le, leVal, leVal_le k _ h1]
    simp
    omega

/-- What is left, and is it bad. -/
structure St where
  left : List UInt8
  bad : Bool
def St.ok (s : St) : Prop := s.bad = true → s.left = []
def short (n : Nat) (s : St) : Bool := s.bad || decide (s.left.length < n)
def tk (n : Nat) (s : St) : List UInt8 := if short n s then [] else s.left.take n
def tkS (n : Nat) (s : St) : St := if short n s then ⟨[], true⟩ else ⟨s.left.drop n, false⟩
/-- A number of 64 bits as one that has a sign. -/
def signed (n : Nat) : Int := if n < 9223372036854775808 then n else n - 18446744073709551616
def num (s : St) : Int := signed (leVal (tk 8 s))
def small (s : St) : Nat := leVal (tk 2 s)
def over (most : Int) (s : St) : Bool := decide (most < (small s : Int))
def count (most : Int) (s : St) : Nat := if over most s then 0 else small s
def countS (most : Int) (s : St) : St := if over most s then ⟨[], true⟩ else tkS 2 s
def text (most : Int) (s : St) : List UInt8 := tk (count most s) (countS most s)
def textS (most : Int) (s : St) : St := tkS (count most s) (countS most s)
def refuse (b : Bool) (s : St) : St := if b then ⟨[], true⟩ else s

theorem badOk : St.ok ⟨[], true⟩ := fun _ => rfl
theorem goodOk (l : List UInt8) : St.ok ⟨l, false⟩ := fun h => by cases h
theorem tkS_ok (n : Nat) (s : St) : (tkS n s).ok := by unfold tkS; split <;> first | exact badOk | exact goodOk _
theorem countS_ok (most : Int) (s : St) : (countS most s).ok := by unfold countS; split <;> first | exact badOk | exact tkS_ok _ _
theorem textS_ok (most : Int) (s : St) : (textS most s).ok := tkS_ok _ _
theorem refuse_ok (b : Bool) (s : St) (h : s.ok) : (refuse b s).ok := by unfold refuse; split <;> first | exact badOk | exact h
theorem tkS_len (n : Nat) (s : St) : (tkS n s).left.length ≤ s.left.length := by
  unfold tkS
  split
  · simp
  · simp
theorem small_lt (s : St) : small s < 65536 := by
  have h := leVal_lt (tk 2 s)
  have h2 : (tk 2 s).length ≤ 2 := by unfold tk; split <;> simp; omega
  have h3 : 256 ^ (tk 2 s).length ≤ 256 ^ 2 := Nat.pow_le_pow_right (by decide) h2
  unfold small
  omega
theorem signed_bound (n : Nat) (h : n < 18446744073709551616) : -9223372036854775808 ≤ signed n ∧ signed n ≤ 9223372036854775807 := by
  unfold signed; split <;> omega
theorem tk_short {n : Nat} {s : St} (h : short n s = true) : tk n s = [] := by simp [tk, h]
theorem tkS_short {n : Nat} {s : St} (h : short n s = true) : tkS n s = ⟨[], true⟩ := by simp [tkS, h]

/-! ### What is laid -/
/-- 0: a number, 1: a small one, 2: a text. -/
structure Itm where
  kind : Int
  n : Int
  s : List UInt8
def clip (n : Int) : Nat := (min (max n 0) 65535).toNat
theorem clip_lt (n : Int) : clip n < 65536 := by unfold clip; omega
def encNum (n : Int) : List UInt8 := le 8 (n % 18446744073709551616).toNat
def encSmall (n : Int) : List UInt8 := le 2 (clip n)
def encText (s : List UInt8) : List UInt8 := le 2 (min s.length 65535) ++ s.take (min s.length 65535)
def enc (i : Itm) : List UInt8 := if i.kind = 0 then encNum i.n else if i.kind = 1 then encSmall i.n else if i.kind = 2 then encText i.s else []
def encs (l : List Itm) : List UInt8 := l.flatMap enc
theorem encNum_length (n : Int) : (encNum n).length = 8 := le_length _ _
theorem encSmall_length (n : Int) : (encSmall n).length = 2 := le_length _ _
theorem encText_length (s : List UInt8) : (encText s).length = 2 + min s.length 65535 := by simp [encText, le_length]
theorem enc_length (i : Itm) (h : i.s.length ≤ 2000) : (enc i).length ≤ 2002 := by
  unfold enc
  split
  · rw [encNum_length]; omega
  · split
    · rw [encSmall_length]; omega
    · split
      · rw [encText_length]; omega
      · simp
theorem encs_length : ∀ l : List Itm, (∀ i ∈ l, i.s.length ≤ 2000) → (encs l).length ≤ 2002 * l.length
  | [], _ => by simp [encs]
  | i :: r, h => by
    have h1 := enc_length i (h i (by simp))
    have h2 := encs_length r (fun j hj => h j (by simp [hj]))
    simp only [encs, List.flatMap_cons, List.length_append, List.length_cons] at *
    omega
theorem encs_take_succ (l : List Itm) (k : Nat) (h : k < l.length) : encs (l.take (k + 1)) = encs (l.take k) ++ enc l[k] := by
  rw [List.take_succ_eq_append_getElem h]
  unfold encs
  rw [List.flatMap_append, List.flatMap_cons, List.flatMap_nil, List.append_nil]
theorem encs_drop (l : List Itm) (k : Nat) (h : k < l.length) : encs (l.drop k) = enc l[k] ++ encs (l.drop (k + 1)) := by
  rw [List.drop_eq_getElem_cons h]
  unfold encs
  rw [List.flatMap_cons]

/-! ### What was laid is read as it was -/
theorem tk_app (l r : List UInt8) (n : Nat) (hn : l.length = n) : tk n ⟨l ++ r, false⟩ = l ∧ tkS n ⟨l ++ r, false⟩ = ⟨r, false⟩ := by
  subst hn
  have h : short l.length ⟨l ++ r, false⟩ = false := by simp [short]
  simp [tk, tkS, h]
theorem num_back (n : Int) (r : List UInt8) (h : -9223372036854775808 ≤ n ∧ n ≤ 9223372036854775807) : num ⟨encNum n ++ r, false⟩ = n ∧ tkS 8 ⟨encNum n ++ r, false⟩ = ⟨r, false⟩ := by
  have h1 := tk_app (encNum n) r 8 (encNum_length n)
  refine ⟨?_, h1.2⟩
  unfold num
  rw [h1.1, encNum, leVal_le 8 _ (by simp; omega)]
  unfold signed
  split <;> omega
theorem small_back (n : Nat) (r : List UInt8) (h : n < 65536) : small ⟨le 2 n ++ r, false⟩ = n ∧ tkS 2 ⟨le 2 n ++ r, false⟩ = ⟨r, false⟩ := by
  have h1 := tk_app (le 2 n) r 2 (le_length _ _)
  exact ⟨by unfold small; rw [h1.1, leVal_le 2 _ (by simpa using h)], h1.2⟩
theorem text_back (s r : List UInt8) (h : s.length ≤ 2000) : text 2000 ⟨encText s ++ r, false⟩ = s ∧ textS 2000 ⟨encText s ++ r, false⟩ = ⟨r, false⟩ := by
  have h0 : encText s = le 2 s.length ++ s := by unfold encText; rw [Nat.min_eq_left (by omega), List.take_length]
  have h1 := small_back s.length (s ++ r) (by omega)
  have h2 := tk_app s r s.length rfl
  rw [h0, List.append_assoc]
  have ho : over 2000 ⟨le 2 s.length ++ (s ++ r), false⟩ = false := by unfold over; rw [h1.1]; simp; omega
  have hc : count 2000 ⟨le 2 s.length ++ (s ++ r), false⟩ = s.length := by unfold count; rw [ho, h1.1]; rfl
  have hs : countS 2000 ⟨le 2 s.length ++ (s ++ r), false⟩ = ⟨s ++ r, false⟩ := by unfold countS; rw [ho]; exact h1.2
  unfold text textS
  rw [hc, hs]
  exact h2

/-! ### By its kind -/
/-- What is read of an item, as the kind has it. -/
def step (i : Itm) (s : St) : St := if i.kind = 0 then tkS 8 s else if i.kind = 1 then tkS 2 s else if i.kind = 2 then textS 2000 s else s
theorem enc_0 {i : Itm} (h : i.kind = 0) : enc i = encNum i.n := by unfold enc; rw [if_pos h]
theorem enc_1 {i : Itm} (h : i.kind = 1) : enc i = encSmall i.n := by unfold enc; rw [if_neg (by omega), if_pos h]
theorem enc_2 {i : Itm} (h : i.kind = 2) : enc i = encText i.s := by unfold enc; rw [if_neg (by omega), if_neg (by omega), if_pos h]
theorem enc_no {i : Itm} (h : i.kind ≠ 0 ∧ i.kind ≠ 1 ∧ i.kind ≠ 2) : enc i = [] := by unfold enc; rw [if_neg h.1, if_neg h.2.1, if_neg h.2.2]
theorem step_0 {i : Itm} (h : i.kind = 0) (s : St) : step i s = tkS 8 s := by unfold step; rw [if_pos h]
theorem step_1 {i : Itm} (h : i.kind = 1) (s : St) : step i s = tkS 2 s := by unfold step; rw [if_neg (by omega), if_pos h]
theorem step_2 {i : Itm} (h : i.kind = 2) (s : St) : step i s = textS 2000 s := by unfold step; rw [if_neg (by omega), if_neg (by omega), if_pos h]
theorem step_no {i : Itm} (h : i.kind ≠ 0 ∧ i.kind ≠ 1 ∧ i.kind ≠ 2) (s : St) : step i s = s := by unfold step; rw [if_neg h.1, if_neg h.2.1, if_neg h.2.2]
theorem kinds (i : Itm) : i.kind = 0 ∨ i.kind = 1 ∨ i.kind = 2 ∨ (i.kind ≠ 0 ∧ i.kind ≠ 1 ∧ i.kind ≠ 2) := by omega
theorem step_ok (i : Itm) (s : St) (h : s.ok) : (step i s).ok := by
  rcases kinds i with k | k | k | k
  · rw [step_0 k]; exact tkS_ok _ _
  · rw [step_1 k]; exact tkS_ok _ _
  · rw [step_2 k]; exact textS_ok _ _
  · rw [step_no k]; exact h

/-! ### One byte less -/
theorem tkS_bad (n : Nat) (l : List UInt8) : tkS n ⟨l, true⟩ = ⟨[], true⟩ := by simp [tkS, short]
theorem countS_bad (most : Int) (l : List UInt8) : countS most ⟨l, true⟩ = ⟨[], true⟩ := by unfold countS; rw [tkS_bad]; split <;> rfl
theorem textS_bad (most : Int) (l : List UInt8) : textS most ⟨l, true⟩ = ⟨[], true⟩ := by unfold textS; rw [countS_bad, tkS_bad]
theorem step_bad (i : Itm) : step i ⟨[], true⟩ = ⟨[], true⟩ := by
  unfold step
  rw [tkS_bad, tkS_bad, textS_bad]
  simp
theorem tkS_few (n : Nat) (l : List UInt8) (b : Bool) (h : l.length < n) : tkS n ⟨l, b⟩ = ⟨[], true⟩ := by simp [tkS, short, h]
/-- Of what is left when the last byte lacks: bad, or all but the last byte of what is still to come, which is something. -/
def Less (r : List UInt8) (s : St) : Prop := s = ⟨[], true⟩ ∨ (r ≠ [] ∧ s = ⟨r.dropLast, false⟩)
theorem less_tk (l r : List UInt8) (n : Nat) (hn : l.length = n) (hne : n ≠ 0 ∨ r ≠ []) : Less r (tkS n ⟨(l ++ r).dropLast, false⟩) := by
  by_cases hr : r = []
  · subst hr
    rw [List.append_nil]
    have h0 : n ≠ 0 := by
      rcases hne with h | h
      · exact h
      · exact absurd rfl h
    exact .inl (tkS_few _ _ _ (by rw [List.length_dropLast]; omega))
  · rw [List.dropLast_append_of_ne_nil hr]
    exact .inr ⟨hr, (tk_app l r.dropLast n hn).2⟩
theorem less_text (s r : List UInt8) (hi : s.length ≤ 2000) : Less r (textS 2000 ⟨(encText s ++ r).dropLast, false⟩) := by
  have h0 : encText s = le 2 s.length ++ s := by unfold encText; rw [Nat.min_eq_left (by omega), List.take_length]
  rw [h0, List.append_assoc]
  by_cases hr : s ++ r = []
  · rw [hr, List.append_nil]
    have hf : tkS 2 ⟨(le 2 s.length).dropLast, false⟩ = ⟨[], true⟩ := tkS_few _ _ _ (by rw [List.length_dropLast, le_length]; omega)
    have hc : countS 2000 ⟨(le 2 s.length).dropLast, false⟩ = ⟨[], true⟩ := by unfold countS; rw [hf]; split <;> rfl
    refine .inl ?_
    unfold textS
    rw [hc, tkS_bad]
  · rw [List.dropLast_append_of_ne_nil hr]
    have h1 := small_back s.length (s ++ r).dropLast (by omega)
    have ho : over 2000 ⟨le 2 s.length ++ (s ++ r).dropLast, false⟩ = false := by unfold over; rw [h1.1]; simp; omega
    have hc : count 2000 ⟨le 2 s.length ++ (s ++ r).dropLast, false⟩ = s.length := by unfold count; rw [ho, h1.1]; rfl
    have hs : countS 2000 ⟨le 2 s.length ++ (s ++ r).dropLast, false⟩ = ⟨(s ++ r).dropLast, false⟩ := by unfold countS; rw [ho]; exact h1.2
    unfold textS
    rw [hc, hs]
    refine less_tk s r s.length rfl ?_
    by_cases h4 : r = []
    · subst h4
      rw [List.append_nil] at hr
      exact .inl fun h => hr (List.eq_nil_of_length_eq_zero h)
    · exact .inr h4
theorem less_step (i : Itm) (r : List UInt8) (s : St) (hi : i.s.length ≤ 2000) (h : Less (enc i ++ r) s) : Less r (step i s) := by
  rcases h with rfl | ⟨hne, rfl⟩
  · exact .inl (step_bad i)
  · rcases kinds i with k | k | k | k
    · rw [step_0 k, enc_0 k]
      exact less_tk (encNum i.n) r 8 (encNum_length _) (.inl (by decide))
    · rw [step_1 k, enc_1 k]
      exact less_tk (encSmall i.n) r 2 (encSmall_length _) (.inl (by decide))
    · rw [step_2 k, enc_2 k]
      exact less_text i.s r hi
    · rw [step_no k, enc_no k]
      rw [enc_no k] at hne
      exact .inr ⟨hne, rfl⟩
theorem less_end {s : St} (h : Less [] s) : s = ⟨[], true⟩ := by
  rcases h with h | ⟨h, _⟩
  · exact h
  · exact absurd rfl h
end Go.Proofs.Ytofadlenblobnaa.Codec
