/-
  Texts CMath, FMath, in one file. What each proves, and its conditions, stand at its head below.
-/
import Derived.Test.YtdjhlhellkajfaaGreatQ1
import Derived.KernelRfl
/-
  Numbers and texts as bytes, in plain mathematics: how they are laid, and how they are read, step by step; what was laid is read as it was, to the end; one byte less, and it is not. No condition.
-/
namespace Go.Proofs.YtdjhlhellkajfaaGreat.Codec
set_option maxRecDepth 100000

/-- The k lowest bytes of n, the lowest first. -/
def le : Nat → Nat → List UInt8
  | 0, _ => []
  | k + 1, n => UInt8.ofNat (n % 256) :: le k (n / 256)
def leVal : List UInt8 → Nat
  | [] => 0
  | x :: r => x.toNat + 256 * leVal r
theorem le_length : ∀ k n, (le k n).length = k
  | 0, _ => rfl
  | k + 1, n => by simp [le, le_length k]
theorem le_snoc : ∀ k n, le (k + 1) n = le k n ++ [UInt8.ofNat (n / 256 ^ k % 256)]
  | 0, n => by simp [le]
  | k + 1, n => by
    rw [le, le_snoc k, le, List.cons_append, Nat.div_div_eq_div_mul, Nat.pow_succ, Nat.mul_comm]
theorem leVal_lt : ∀ l : List UInt8, leVal l < 256 ^ l.length
  | [] => by simp [leVal]
  | x :: r => by
    have := leVal_lt r
    have hx := x.toNat_lt
    simp only [leVal, List.length_cons, Nat.pow_succ]
    omega
theorem leVal_snoc : ∀ (l : List UInt8) (x : UInt8), leVal (l ++ [x]) = leVal l + 256 ^ l.length * x.toNat
  | [], x => by simp [leVal]
  | y :: r, x => by
    simp only [List.cons_append, leVal, leVal_snoc r x, List.length_cons, Nat.pow_succ, Nat.mul_add]
    rw [Nat.mul_comm (256 ^ r.length) 256, Nat.mul_assoc]
    omega
theorem leVal_le : ∀ k n, n < 256 ^ k → leVal (le k n) = n
  | 0, n, h => by simp at h; simp [le, leVal, h]
  | k + 1, n, h => by
    have h1 : n / 256 < 256 ^ k := by rw [Nat.pow_succ] at h; exact Nat.div_lt_of_lt_mul (by omega)
    rw [le, leVal, leVal_le k _ h1]
    simp
    omega

/-- What is left, and is it bad. -/
structure St where
  left : List UInt8
  bad : Bool
def St.ok (s : St) : Prop := s.bad = true → s.left = []
def short (n : Nat) (s : St) : Bool := s.bad || decide (s.left.length < n)
def tk (n : Nat) (s : St) : List UInt8 := if short n s then [] else s.left.take n
def tkS (n : Nat) (s : St) : St := if short n s then ⟨[], true⟩ else ⟨s.left.drop n, false⟩
/-- A number of 64 bits as one that has a sign. -/
def signed (n : Nat) : Int := if n < 9223372036854775808 then n else n - 18446744073709551616
def num (s : St) : Int := signed (leVal (tk 8 s))
def small (s : St) : Nat := leVal (tk 2 s)
def over (most : Int) (s : St) : Bool := decide (most < (small s : Int))
def count (most : Int) (s : St) : Nat := if over most s then 0 else small s
def countS (most : Int) (s : St) : St := if over most s then ⟨[], true⟩ else tkS 2 s
def text (most : Int) (s : St) : List UInt8 := tk (count most s) (countS most s)
def textS (most : Int) (s : St) : St := tkS (count most s) (countS most s)
def refuse (b : Bool) (s : St) : St := if b then ⟨[], true⟩ else s

theorem badOk : St.ok ⟨[], true⟩ := fun _ => rfl
theorem goodOk (l : List UInt8) : St.ok ⟨l, false⟩ := fun h => by cases h
theorem tkS_ok (n : Nat) (s : St) : (tkS n s).ok := by unfold tkS; split <;> first | exact badOk | exact goodOk _
theorem countS_ok (most : Int) (s : St) : (countS most s).ok := by unfold countS; split <;> first | exact badOk | exact tkS_ok _ _
theorem textS_ok (most : Int) (s : St) : (textS most s).ok := tkS_ok _ _
theorem refuse_ok (b : Bool) (s : St) (h : s.ok) : (refuse b s).ok := by unfold refuse; split <;> first | exact badOk | exact h
theorem tkS_len (n : Nat) (s : St) : (tkS n s).left.length ≤ s.left.length := by
  unfold tkS
  split
  · simp
  · simp
theorem small_lt (s : St) : small s < 65536 := by
  have h := leVal_lt (tk 2 s)
  have h2 : (tk 2 s).length ≤ 2 := by unfold tk; split <;> simp; omega
  have h3 : 256 ^ (tk 2 s).length ≤ 256 ^ 2 := Nat.pow_le_pow_right (by decide) h2
  unfold small
  omega
theorem signed_bound (n : Nat) (h : n < 18446744073709551616) : -9223372036854775808 ≤ signed n ∧ signed n ≤ 9223372036854775807 := by
  unfold signed; split <;> omega
theorem tk_short {n : Nat} {s : St} (h : short n s = true) : tk n s = [] := by simp [tk, h]
theorem tkS_short {n : Nat} {s : St} (h : short n s = true) : tkS n s = ⟨[], true⟩ := by simp [tkS, h]

/-! ### What is laid -/
/-- 0: a number, 1: a small one, 2: a text. -/
structure Itm where
  kind : Int
  n : Int
  s : List UInt8
def clip (n : Int) : Nat := (min (max n 0) 65535).toNat
theorem clip_lt (n : Int) : clip n < 65536 := by unfold clip; omega
def encNum (n : Int) : List UInt8 := le 8 (n % 18446744073709551616).toNat
def encSmall (n : Int) : List UInt8 := le 2 (clip n)
def encText (s : List UInt8) : List UInt8 := le 2 (min s.length 65535) ++ s.take (min s.length 65535)
def enc (i : Itm) : List UInt8 := if i.kind = 0 then encNum i.n else if i.kind = 1 then encSmall i.n else if i.kind = 2 then encText i.s else []
def encs (l : List Itm) : List UInt8 := l.flatMap enc
theorem encNum_length (n : Int) : (encNum n).length = 8 := le_length _ _
theorem encSmall_length (n : Int) : (encSmall n).length = 2 := le_length _ _
theorem encText_length (s : List UInt8) : (encText s).length = 2 + min s.length 65535 := by simp [encText, le_length]
theorem enc_length (i : Itm) (h : i.s.length ≤ 2000) : (enc i).length ≤ 2002 := by
  unfold enc
  split
  · rw [encNum_length]; omega
  · split
    · rw [encSmall_length]; omega
    · split
      · rw [encText_length]; omega
      · simp
theorem encs_length : ∀ l : List Itm, (∀ i ∈ l, i.s.length ≤ 2000) → (encs l).length ≤ 2002 * l.length
  | [], _ => by simp [encs]
  | i :: r, h => by
    have h1 := enc_length i (h i (by simp))
    have h2 := encs_length r (fun j hj => h j (by simp [hj]))
    simp only [encs, List.flatMap_cons, List.length_append, List.length_cons] at *
    omega
theorem encs_take_succ (l : List Itm) (k : Nat) (h : k < l.length) : encs (l.take (k + 1)) = encs (l.take k) ++ enc l[k] := by
  rw [List.take_succ_eq_append_getElem h]
  unfold encs
  rw [List.flatMap_append, List.flatMap_cons, List.flatMap_nil, List.append_nil]
theorem encs_drop (l : List Itm) (k : Nat) (h : k < l.length) : encs (l.drop k) = enc l[k] ++ encs (l.drop (k + 1)) := by
  rw [List.drop_eq_getElem_cons h]
  unfold encs
  rw [List.flatMap_cons]

/-! ### What was laid is read as it was -/
theorem tk_app (l r : List UInt8) (n : Nat) (hn : l.length = n) : tk n ⟨l ++ r, false⟩ = l ∧ tkS n ⟨l ++ r, false⟩ = ⟨r, false⟩ := by
  subst hn
  have h : short l.length ⟨l ++ r, false⟩ = false := by simp [short]
  simp [tk, tkS, h]
theorem num_back (n : Int) (r : List UInt8) (h : -9223372036854775808 ≤ n ∧ n ≤ 9223372036854775807) : num ⟨encNum n ++ r, false⟩ = n ∧ tkS 8 ⟨encNum n ++ r, false⟩ = ⟨r, false⟩ := by
  have h1 := tk_app (encNum n) r 8 (encNum_length n)
  refine ⟨?_, h1.2⟩
  unfold num
  rw [h1.1, encNum, leVal_le 8 _ (by simp; omega)]
  unfold signed
  split <;> omega
theorem small_back (n : Nat) (r : List UInt8) (h : n < 65536) : small ⟨le 2 n ++ r, false⟩ = n ∧ tkS 2 ⟨le 2 n ++ r, false⟩ = ⟨r, false⟩ := by
  have h1 := tk_app (le 2 n) r 2 (le_length _ _)
  exact ⟨by unfold small; rw [h1.1, leVal_le 2 _ (by simpa using h)], h1.2⟩
theorem text_back (s r : List UInt8) (h : s.length ≤ 2000) : text 2000 ⟨encText s ++ r, false⟩ = s ∧ textS 2000 ⟨encText s ++ r, false⟩ = ⟨r, false⟩ := by
  have h0 : encText s = le 2 s.length ++ s := by unfold encText; rw [Nat.min_eq_left (by omega), List.take_length]
  have h1 := small_back s.length (s ++ r) (by omega)
  have h2 := tk_app s r s.length rfl
  rw [h0, List.append_assoc]
  have ho : over 2000 ⟨le 2 s.length ++ (s ++ r), false⟩ = false := by unfold over; rw [h1.1]; simp; omega
  have hc : count 2000 ⟨le 2 s.length ++ (s ++ r), false⟩ = s.length := by unfold count; rw [ho, h1.1]; rfl
  have hs : countS 2000 ⟨le 2 s.length ++ (s ++ r), false⟩ = ⟨s ++ r, false⟩ := by unfold countS; rw [ho]; exact h1.2
  unfold text textS
  rw [hc, hs]
  exact h2

/-! ### By its kind -/
/-- What is read of an item, as the kind has it. -/
def step (i : Itm) (s : St) : St := if i.kind = 0 then tkS 8 s else if i.kind = 1 then tkS 2 s else if i.kind = 2 then textS 2000 s else s
theorem enc_0 {i : Itm} (h : i.kind = 0) : enc i = encNum i.n := by unfold enc; rw [if_pos h]
theorem enc_1 {i : Itm} (h : i.kind = 1) : enc i = encSmall i.n := by unfold enc; rw [if_neg (by omega), if_pos h]
theorem enc_2 {i : Itm} (h : i.kind = 2) : enc i = encText i.s := by unfold enc; rw [if_neg (by omega), if_neg (by omega), if_pos h]
theorem enc_no {i : Itm} (h : i.kind ≠ 0 ∧ i.kind ≠ 1 ∧ i.kind ≠ 2) : enc i = [] := by unfold enc; rw [if_neg h.1, if_neg h.2.1, if_neg h.2.2]
theorem step_0 {i : Itm} (h : i.kind = 0) (s : St) : step i s = tkS 8 s := by unfold step; rw [if_pos h]
theorem step_1 {i : Itm} (h : i.kind = 1) (s : St) : step i s = tkS 2 s := by unfold step; rw [if_neg (by omega), if_pos h]
theorem step_2 {i : Itm} (h : i.kind = 2) (s : St) : step i s = textS 2000 s := by unfold step; rw [if_neg (by omega), if_neg (by omega), if_pos h]
theorem step_no {i : Itm} (h : i.kind ≠ 0 ∧ i.kind ≠ 1 ∧ i.kind ≠ 2) (s : St) : step i s = s := by unfold step; rw [if_neg h.1, if_neg h.2.1, if_neg h.2.2]
theorem kinds (i : Itm) : i.kind = 0 ∨ i.kind = 1 ∨ i.kind = 2 ∨ (i.kind ≠ 0 ∧ i.kind ≠ 1 ∧ i.kind ≠ 2) := by omega
theorem step_ok (i : Itm) (s : St) (h : s.ok) : (step i s).ok := by
  rcases kinds i with k | k | k | k
  · rw [step_0 k]; exact tkS_ok _ _
  · rw [step_1 k]; exact tkS_ok _ _
  · rw [step_2 k]; exact textS_ok _ _
  · rw [step_no k]; exact h

/-! ### One byte less -/
theorem tkS_bad (n : Nat) (l : List UInt8) : tkS n ⟨l, true⟩ = ⟨[], true⟩ := by simp [tkS, short]
theorem countS_bad (most : Int) (l : List UInt8) : countS most ⟨l, true⟩ = ⟨[], true⟩ := by unfold countS; rw [tkS_bad]; split <;> rfl
theorem textS_bad (most : Int) (l : List UInt8) : textS most ⟨l, true⟩ = ⟨[], true⟩ := by unfold textS; rw [countS_bad, tkS_bad]
theorem step_bad (i : Itm) : step i ⟨[], true⟩ = ⟨[], true⟩ := by
  unfold step
  rw [tkS_bad, tkS_bad, textS_bad]
  simp
theorem tkS_few (n : Nat) (l : List UInt8) (b : Bool) (h : l.length < n) : tkS n ⟨l, b⟩ = ⟨[], true⟩ := by simp [tkS, short, h]
/-- Of what is left when the last byte lacks: bad, or all but the last byte of what is still to come, which is something. -/
def Less (r : List UInt8) (s : St) : Prop := s = ⟨[], true⟩ ∨ (r ≠ [] ∧ s = ⟨r.dropLast, false⟩)
theorem less_tk (l r : List UInt8) (n : Nat) (hn : l.length = n) (hne : n ≠ 0 ∨ r ≠ []) : Less r (tkS n ⟨(l ++ r).dropLast, false⟩) := by
  by_cases hr : r = []
  · subst hr
    rw [List.append_nil]
    have h0 : n ≠ 0 := by
      rcases hne with h | h
      · exact h
      · exact absurd rfl h
    exact .inl (tkS_few _ _ _ (by rw [List.length_dropLast]; omega))
  · rw [List.dropLast_append_of_ne_nil hr]
    exact .inr ⟨hr, (tk_app l r.dropLast n hn).2⟩
theorem less_text (s r : List UInt8) (hi : s.length ≤ 2000) : Less r (textS 2000 ⟨(encText s ++ r).dropLast, false⟩) := by
  have h0 : encText s = le 2 s.length ++ s := by unfold encText; rw [Nat.min_eq_left (by omega), List.take_length]
  rw [h0, List.append_assoc]
  by_cases hr : s ++ r = []
  · rw [hr, List.append_nil]
    have hf : tkS 2 ⟨(le 2 s.length).dropLast, false⟩ = ⟨[], true⟩ := tkS_few _ _ _ (by rw [List.length_dropLast, le_length]; omega)
    have hc : countS 2000 ⟨(le 2 s.length).dropLast, false⟩ = ⟨[], true⟩ := by unfold countS; rw [hf]; split <;> rfl
    refine .inl ?_
    unfold textS
    rw [hc, tkS_bad]
  · rw [List.dropLast_append_of_ne_nil hr]
    have h1 := small_back s.length (s ++ r).dropLast (by omega)
    have ho : over 2000 ⟨le 2 s.length ++ (s ++ r).dropLast, false⟩ = false := by unfold over; rw [h1.1]; simp; omega
    have hc : count 2000 ⟨le 2 s.length ++ (s ++ r).dropLast, false⟩ = s.length := by unfold count; rw [ho, h1.1]; rfl
    have hs : countS 2000 ⟨le 2 s.length ++ (s ++ r).dropLast, false⟩ = ⟨(s ++ r).dropLast, false⟩ := by unfold countS; rw [ho]; exact h1.2
    unfold textS
    rw [hc, hs]
    refine less_tk s r s.length rfl ?_
    by_cases h4 : r = []
    · subst h4
      rw [List.append_nil] at hr
      exact .inl fun h => hr (List.eq_nil_of_length_eq_zero h)
    · exact .inr h4
theorem less_step (i : Itm) (r : List UInt8) (s : St) (hi : i.s.length ≤ 2000) (h : Less (enc i ++ r) s) : Less r (step i s) := by
  rcases h with rfl | ⟨hne, rfl⟩
  · exact .inl (step_bad i)
  · rcases kinds i with k | k | k | k
    · rw [step_0 k, enc_0 k]
      exact less_tk (encNum i.n) r 8 (encNum_length _) (.inl (by decide))
    · rw [step_1 k, enc_1 k]
      exact less_tk (encSmall i.n) r 2 (encSmall_length _) (.inl (by decide))
    · rw [step_2 k, enc_2 k]
      exact less_text i.s r hi
    · rw [step_no k, enc_no k]
      rw [enc_no k] at hne
      exact .inr ⟨hne, rfl⟩
theorem less_end {s : St} (h : Less [] s) : s = ⟨[], true⟩ := by
  rcases h with h | ⟨h, _⟩
  · exact h
  · exact absurd rfl h
end Go.Proofs.YtdjhlhellkajfaaGreat.Codec
/-
  Marks and sectors as plain mathematics: a mark's half and its sector; what is read where a mark would stand; bytes in sectors, sectors as bytes. Conditions: a mark's numbers fit 64 bits.
-/
namespace Go.Proofs.YtdjhlhellkajfaaGreat.FrameM
open Go.Proofs.YtdjhlhellkajfaaGreat.Codec
set_option maxRecDepth 100000
set_option maxRecDepth 100000

structure Mk where
  kind : Int
  gen : Int
  seq : Int
  n : Int
def Mk.right (m : Mk) : Bool := decide (1 ≤ m.kind) && decide (m.kind ≤ 255) && decide (0 ≤ m.gen) && decide (0 ≤ m.seq) && decide (0 ≤ m.n)
def in64 (n : Int) : Prop := -9223372036854775808 ≤ n ∧ n ≤ 9223372036854775807
structure Mk.fits (m : Mk) : Prop where
  kind : in64 m.kind
  gen : in64 m.gen
  seq : in64 m.seq
  n : in64 m.n
def Mk.eq (m o : Mk) : Bool := (m.kind == o.kind) && (m.gen == o.gen) && (m.seq == o.seq) && (m.n == o.n)
theorem Mk.eq_iff {m o : Mk} : m.eq o = true ↔ m = o := by
  cases m
  cases o
  simp [Mk.eq, and_assoc]
def zeroM : Mk := ⟨0, 0, 0, 0⟩
theorem right_iff {m : Mk} : m.right = true ↔ 1 ≤ m.kind ∧ m.kind ≤ 255 ∧ 0 ≤ m.gen ∧ 0 ≤ m.seq ∧ 0 ≤ m.n := by simp [Mk.right, and_assoc]

def nats (xs : List UInt8) : List Nat := xs.map UInt8.toNat
/-- A half without its sum; the sum; the half; the sector. -/
def body (m : Mk) : List UInt8 := encSmall 19796 ++ (encSmall m.kind ++ (encNum m.gen ++ (encNum m.seq ++ encNum m.n)))
def crcOf (xs : List UInt8) : Nat := Sums.crc (nats xs)
def half (m : Mk) : List UInt8 := body m ++ (encSmall (crcOf (body m) % 65536 : Nat) ++ encSmall (crcOf (body m) / 65536 : Nat))
def put (m : Mk) : List UInt8 := if m.right then half m ++ half m else []
theorem crcOf_lt (xs : List UInt8) : crcOf xs < 4294967296 := Sums.crc_lt _
theorem body_length (m : Mk) : (body m).length = 28 := by simp [body, encSmall_length, encNum_length]
theorem half_length (m : Mk) : (half m).length = 32 := by simp [half, body_length, encSmall_length]
theorem put_right {m : Mk} (h : m.right = true) : put m = half m ++ half m := by simp [put, h]
theorem put_wrong {m : Mk} (h : m.right = false) : put m = [] := by simp [put, h]
theorem put_length {m : Mk} (h : m.right = true) : (put m).length = 64 := by simp [put_right h, half_length]
/-- The sum's four bytes. -/
theorem encSmall_nat (n : Nat) (h : n < 65536) : encSmall (n : Int) = le 2 n := by
  unfold encSmall clip
  rw [show (min (max (n : Int) 0) 65535).toNat = n by omega]
theorem sum_bytes (s : Nat) (h : s < 4294967296) : encSmall (s % 65536 : Nat) ++ encSmall (s / 65536 : Nat) = le 4 s := by
  rw [encSmall_nat _ (by omega), encSmall_nat _ (by omega)]
  simp only [le, List.cons_append, List.nil_append]
  rw [show s % 65536 % 256 = s % 256 by omega, show s % 65536 / 256 % 256 = s / 256 % 256 by omega, show s / 65536 % 256 = s / 256 / 256 % 256 by omega, show s / 65536 / 256 % 256 = s / 256 / 256 / 256 % 256 by omega]
theorem letters_bytes : encSmall 19796 = [84, 77] := by decide

/-- What stands where a mark would. -/
def readFrom (s : St) : Mk := ⟨small s, num (tkS 2 s), num (tkS 8 (tkS 2 s)), num (tkS 8 (tkS 8 (tkS 2 s)))⟩
def readM (xs : List UInt8) : Mk := readFrom (tkS 2 ⟨xs.take 32, false⟩)
theorem readM_ref (xs : List UInt8) (h : xs.length = 64) : readM xs = readFrom ⟨(xs.drop 2).take 30, false⟩ := by
  unfold readM
  have : short 2 ⟨xs.take 32, false⟩ = false := by simp [short]; omega
  rw [tkS, this]
  simp [List.drop_take]
theorem readM_fits (xs : List UInt8) : (readM xs).fits := by
  have hn : ∀ s : St, in64 (num s) := fun s => by
    refine signed_bound _ ?_
    have h := leVal_lt (tk 8 s)
    have h2 : 256 ^ (tk 8 s).length ≤ 256 ^ 8 := Nat.pow_le_pow_right (by decide) (by unfold tk; split <;> simp; omega)
    omega
  refine ⟨?_, hn _, hn _, hn _⟩
  have := small_lt (tkS 2 ⟨xs.take 32, false⟩)
  exact ⟨by show _ ≤ ((small _ : Nat) : Int); omega, by show ((small _ : Nat) : Int) ≤ _; omega⟩
theorem small_enc (n : Int) (r : List UInt8) (h : 0 ≤ n ∧ n ≤ 65535) : ((small ⟨encSmall n ++ r, false⟩ : Nat) : Int) = n ∧ tkS 2 ⟨encSmall n ++ r, false⟩ = ⟨r, false⟩ := by
  have e : encSmall n = le 2 n.toNat := by
    unfold encSmall clip
    rw [show (min (max n 0) 65535).toNat = n.toNat by omega]
  have := small_back n.toNat r (by omega)
  rw [e]
  exact ⟨by rw [this.1]; omega, this.2⟩
theorem readM_half {m : Mk} (h : m.right = true) (hf : m.fits) (ys : List UInt8) : readM (half m ++ ys) = m := by
  obtain ⟨h1, h2, h3, h4, h5⟩ := right_iff.1 h
  have e : (half m ++ ys).take 32 = half m := by rw [List.take_append_of_le_length (by rw [half_length]; omega), List.take_of_length_le (by rw [half_length]; omega)]
  unfold readM
  rw [e]
  unfold half body
  simp only [List.append_assoc]
  rw [(small_enc 19796 _ (by omega)).2]
  unfold readFrom
  have k1 := small_enc m.kind (encNum m.gen ++ (encNum m.seq ++ (encNum m.n ++ (encSmall (crcOf (body m) % 65536 : Nat) ++ encSmall (crcOf (body m) / 65536 : Nat))))) (by omega)
  have k2 := num_back m.gen (encNum m.seq ++ (encNum m.n ++ (encSmall (crcOf (body m) % 65536 : Nat) ++ encSmall (crcOf (body m) / 65536 : Nat)))) hf.gen
  have k3 := num_back m.seq (encNum m.n ++ (encSmall (crcOf (body m) % 65536 : Nat) ++ encSmall (crcOf (body m) / 65536 : Nat))) hf.seq
  have k4 := num_back m.n (encSmall (crcOf (body m) % 65536 : Nat) ++ encSmall (crcOf (body m) / 65536 : Nat)) hf.n
  simp only [body] at k1 k2 k3 k4
  rw [k1.2, k2.2, k3.2, k1.1, k2.1, k3.1, k4.1]

/-- Are these bytes a mark's sector; whose. -/
def isM (xs : List UInt8) : Bool := decide (put (readM xs) = xs)
def getB (xs : List UInt8) : Bool := decide (xs.length = 64) && isM xs
def getM (xs : List UInt8) : Mk := if getB xs then readM xs else zeroM
theorem getB_put {m : Mk} (h : m.right = true) (hf : m.fits) : getB (put m) = true ∧ getM (put m) = m := by
  have hr : readM (put m) = m := by rw [put_right h]; exact readM_half h hf _
  have : getB (put m) = true := by simp [getB, isM, put_length h, hr]
  exact ⟨this, by simp [getM, this, hr]⟩
theorem half_inj {m o : Mk} (h : m.right = true) (hf : m.fits) (h' : o.right = true) (hf' : o.fits) (e : half m = half o) : m = o := by
  have h1 := readM_half h hf []
  have h2 := readM_half h' hf' []
  rw [e, h2] at h1
  exact h1.symm
/-- A torn sector. -/
theorem torn {m o : Mk} (h : m.right = true) (hf : m.fits) (h' : o.right = true) (hf' : o.fits) : getB (half m ++ half o) = m.eq o ∧ (m.eq o = true → getM (half m ++ half o) = m) := by
  have hr := readM_half h hf (half o)
  have key : getB (half m ++ half o) = m.eq o := by
    rw [Bool.eq_iff_iff, Mk.eq_iff]
    simp only [getB, isM, hr, put_right h, List.length_append, half_length, decide_true, Bool.true_and, decide_eq_true_eq, List.append_cancel_left_eq]
    exact ⟨half_inj h hf h' hf', fun e => by rw [e]⟩
  exact ⟨key, fun e => by rw [getM, key, e, if_pos rfl, hr]⟩
def zeros (n : Nat) : List UInt8 := List.replicate n 0
theorem zeros_length (n : Nat) : (zeros n).length = n := List.length_replicate
theorem half_ne_zeros (m : Mk) : half m ≠ zeros 32 := by
  intro e
  have := congrArg (fun l : List UInt8 => l[0]?) e
  simp [half, body, letters_bytes, zeros] at this
theorem torn_behind {m : Mk} (h : m.right = true) (hf : m.fits) : getB (half m ++ zeros 32) = false := by
  have hr := readM_half h hf (zeros 32)
  simp only [getB, isM, hr, put_right h, List.append_cancel_left_eq, half_ne_zeros, decide_false, Bool.and_false]
theorem torn_ahead (ys : List UInt8) : getB (zeros 32 ++ ys) = false := by
  have e : (zeros 32 ++ ys).take 32 = zeros 32 := by rw [List.take_append_of_le_length (by rw [zeros_length]; omega), List.take_of_length_le (by rw [zeros_length]; omega)]
  have hk : (readM (zeros 32 ++ ys)).kind = 0 := by
    unfold readM
    rw [e]
    decide
  have hw : (readM (zeros 32 ++ ys)).right = false := by
    cases hb : (readM (zeros 32 ++ ys)).right with
    | false => rfl
    | true => have := (right_iff.1 hb).1; omega
  have hne : ¬ [] = zeros 32 ++ ys := by simp [zeros]
  simp [getB, isM, put_wrong hw, hne]
theorem getM_no {xs : List UInt8} (h : getB xs = false) : getM xs = zeroM := by simp [getM, h]
theorem getM_yes {xs : List UInt8} (h : getB xs = true) : getM xs = readM xs := by simp [getM, h]

/-! ### Bytes in sectors -/
def need (n : Nat) : Nat := (n + 63) / 64
def needI (n : Int) : Int := if n ≤ 0 then 0 else (n - 1) / 64 + 1
theorem needI_nat (n : Nat) : needI (n : Int) = (need n : Int) := by
  unfold needI need
  split <;> omega
def pad (ys : List UInt8) : List UInt8 := ys ++ zeros (64 - ys.length)
def piece (xs : List UInt8) (i : Nat) : List UInt8 := (xs.drop (64 * i)).take 64
def sec (xs : List UInt8) (i : Nat) : List UInt8 := pad (piece xs i)
def pack (xs : List UInt8) : List (List UInt8) := (List.range (need xs.length)).map (sec xs)
theorem piece_length (xs : List UInt8) (i : Nat) : (piece xs i).length = min 64 (xs.length - 64 * i) := by simp [piece]
theorem sec_length (xs : List UInt8) (i : Nat) : (sec xs i).length = 64 := by
  have := piece_length xs i
  simp only [sec, pad, List.length_append, zeros_length]
  omega
theorem pack_length (xs : List UInt8) : (pack xs).length = need xs.length := by simp [pack]
theorem pack_all (xs : List UInt8) : ∀ s ∈ pack xs, s.length = 64 := by
  intro s hs
  obtain ⟨i, _, rfl⟩ := List.mem_map.1 hs
  exact sec_length xs i
theorem sec_of (xs : List UInt8) (i : Nat) (h : i < need xs.length) : sec xs i = piece (xs ++ zeros (64 * need xs.length - xs.length)) i := by
  unfold sec pad piece zeros
  unfold need at h ⊢
  rw [List.drop_append, List.take_append, List.length_take, List.length_drop, List.drop_replicate, List.take_replicate]
  congr 2
  omega
theorem take_pieces (zs : List UInt8) (k : Nat) : ((List.range k).map (piece zs)).flatten = zs.take (64 * k) := by
  induction k with
  | zero => simp
  | succ k ih =>
    rw [List.range_succ, List.map_append, List.flatten_append, ih]
    simp only [List.map_cons, List.map_nil, List.flatten_cons, List.flatten_nil, List.append_nil]
    rw [Nat.mul_add, Nat.mul_one, List.take_add]
    rfl
theorem pack_flatten (xs : List UInt8) : (pack xs).flatten = xs ++ zeros (64 * need xs.length - xs.length) := by
  have e : pack xs = (List.range (need xs.length)).map (piece (xs ++ zeros (64 * need xs.length - xs.length))) := by
    refine List.map_congr_left fun i hi => sec_of xs i (by simpa using hi)
  rw [e, take_pieces, List.take_of_length_le]
  rw [List.length_append, zeros_length]
  unfold need
  omega
/-- Sectors as bytes. -/
def unpackB (ls : List (List UInt8)) (n : Int) : Bool :=
  decide (0 ≤ n ∧ n ≤ 1048576 ∧ (ls.length : Int) = needI n) && (ls.all (fun s => decide (s.length = 64)) && (ls.flatten.drop n.toNat).all (fun x => decide (x = 0)))
def unpack (ls : List (List UInt8)) (n : Int) : List UInt8 := if unpackB ls n then ls.flatten.take n.toNat else []
theorem flatten_length (ls : List (List UInt8)) (h : ∀ s ∈ ls, s.length = 64) : ls.flatten.length = 64 * ls.length := by
  induction ls with
  | nil => rfl
  | cons a r ih =>
    have h1 := h a (by simp)
    have h2 := ih (fun s hs => h s (by simp [hs]))
    simp only [List.flatten_cons, List.length_append, List.length_cons]
    omega
theorem unpack_pack (xs : List UInt8) (h : xs.length ≤ 1048576) : unpackB (pack xs) xs.length = true ∧ unpack (pack xs) xs.length = xs := by
  have hb : unpackB (pack xs) xs.length = true := by
    unfold unpackB
    rw [needI_nat, pack_length, pack_flatten]
    simp only [Bool.and_eq_true, decide_eq_true_eq, List.all_eq_true, Int.toNat_natCast, List.drop_left]
    exact ⟨⟨by omega, by omega, trivial⟩, pack_all xs, fun x hx => (List.mem_replicate.1 hx).2⟩
  refine ⟨hb, ?_⟩
  rw [unpack, hb, if_pos rfl, pack_flatten]
  simp
theorem unpack_no {ls : List (List UInt8)} {n : Int} (h : unpackB ls n = false) : unpack ls n = [] := by simp [unpack, h]
theorem unpack_yes {ls : List (List UInt8)} {n : Int} (h : unpackB ls n = true) : unpack ls n = ls.flatten.take n.toNat := by simp [unpack, h]
end Go.Proofs.YtdjhlhellkajfaaGreat.FrameM
