/-
  Texts SMath, in one file. What each proves, and its conditions, stand at its head below.
-/

/-
  Sums of bytes as plain mathematics: the remainder behind a bit, behind the first i bits of a list of bytes; where two lists of bits part in one place their remainders part. Conditions: bits are below 2, remainders below 2^32.
-/
namespace Go.Proofs.YtdjhlhellkajfaaGreat.Sums

/-- The remainder, turned at its lowest bit by a bit, one place down, turned where its lowest bit was 1. -/
def crcBit (r b : Nat) : Nat := if (r ^^^ b) % 2 = 1 then ((r ^^^ b) / 2) ^^^ 3988292384 else (r ^^^ b) / 2
def crcN (r : Nat) (f : Nat → Nat) : Nat → Nat
  | 0 => r
  | i + 1 => crcBit (crcN r f i) (f i)
def bitAt (xs : List Nat) (i : Nat) : Nat := xs.getD (i / 8) 0 / 2 ^ (i % 8) % 2
def fnvN (xs : List Nat) : Nat → Nat
  | 0 => 14695981039346656037
  | i + 1 => (fnvN xs i ^^^ xs.getD i 0) * 1099511628211 % 18446744073709551616

theorem bitAt_lt (xs : List Nat) (i : Nat) : bitAt xs i < 2 := Nat.mod_lt _ (by decide)
theorem xor_lt {r b : Nat} (hr : r < 4294967296) (hb : b < 2) : r ^^^ b < 4294967296 :=
  Nat.xor_lt_two_pow (n := 32) hr (by omega)
theorem crcBit_lt {r b : Nat} (hr : r < 4294967296) (hb : b < 2) : crcBit r b < 4294967296 := by
  have h := xor_lt hr hb
  unfold crcBit
  split
  · exact Nat.xor_lt_two_pow (n := 32) (by omega) (by omega)
  · omega
theorem crcN_lt {r : Nat} {f : Nat → Nat} (hr : r < 4294967296) (hf : ∀ i, f i < 2) (i : Nat) : crcN r f i < 4294967296 := by
  induction i with
  | zero => exact hr
  | succ i ih => exact crcBit_lt ih (hf i)
theorem fnvN_lt (xs : List Nat) (i : Nat) : fnvN xs i < 18446744073709551616 := by
  cases i with
  | zero => show 14695981039346656037 < _; omega
  | succ i => exact Nat.mod_lt _ (by decide)

theorem crcN_add (r : Nat) (f : Nat → Nat) (a b : Nat) : crcN r f (a + b) = crcN (crcN r f a) (fun i => f (a + i)) b := by
  induction b with
  | zero => rfl
  | succ b ih => show crcBit (crcN r f (a + b)) (f (a + b)) = _; rw [ih]; rfl
theorem crcN_congr (r : Nat) {f g : Nat → Nat} {m : Nat} (h : ∀ i, i < m → f i = g i) : crcN r f m = crcN r g m := by
  induction m with
  | zero => rfl
  | succ m ih => show crcBit (crcN r f m) (f m) = crcBit (crcN r g m) (g m); rw [ih fun i hi => h i (by omega), h m (by omega)]

theorem xor_left {a x y : Nat} (h : x ^^^ a = y ^^^ a) : x = y := by
  have e := congrArg (· ^^^ a) h
  simpa [Nat.xor_assoc] using e
theorem xor_right {a x y : Nat} (h : a ^^^ x = a ^^^ y) : x = y := by
  rw [Nat.xor_comm a, Nat.xor_comm a] at h
  exact xor_left h
theorem top_bit {x : Nat} (hx : x < 2147483648) : (x ^^^ 3988292384) / 2147483648 = 1 := by
  have h := Nat.xor_div_two_pow (a := x) (b := 3988292384) (n := 31)
  rw [show (2 : Nat) ^ 31 = 2147483648 from rfl] at h
  rw [h, Nat.div_eq_of_lt hx]
  rfl
/-- What a turn leaves tells what was turned. -/
theorem crcBit_inj {x y a b : Nat} (hx : x < 4294967296) (hy : y < 4294967296) (ha : a < 2) (hb : b < 2) (h : crcBit x a = crcBit y b) : x ^^^ a = y ^^^ b := by
  have h1 := xor_lt hx ha
  have h2 := xor_lt hy hb
  unfold crcBit at h
  generalize x ^^^ a = u at *
  generalize y ^^^ b = v at *
  by_cases hu : u % 2 = 1 <;> by_cases hv : v % 2 = 1
  · rw [if_pos hu, if_pos hv] at h
    have := xor_left h
    omega
  · rw [if_pos hu, if_neg hv] at h
    have := top_bit (x := u / 2) (by omega)
    omega
  · rw [if_neg hu, if_pos hv] at h
    have := top_bit (x := v / 2) (by omega)
    omega
  · rw [if_neg hu, if_neg hv] at h
    omega
theorem crcBit_ne_left {x y a : Nat} (hx : x < 4294967296) (hy : y < 4294967296) (ha : a < 2) (h : x ≠ y) : crcBit x a ≠ crcBit y a :=
  fun e => h (xor_left (crcBit_inj hx hy ha ha e))
theorem crcBit_ne_right {x a b : Nat} (hx : x < 4294967296) (ha : a < 2) (hb : b < 2) (h : a ≠ b) : crcBit x a ≠ crcBit x b :=
  fun e => h (xor_right (crcBit_inj hx hx ha hb e))
/-- Bits that part in one place part the remainders behind it. -/
theorem crcN_ne {r : Nat} {f g : Nat → Nat} {k : Nat} (hr : r < 4294967296) (hf : ∀ i, f i < 2) (hg : ∀ i, g i < 2) (he : ∀ i, i ≠ k → f i = g i) (hk : f k ≠ g k) (m : Nat) (hm : k < m) : crcN r f m ≠ crcN r g m := by
  induction m with
  | zero => omega
  | succ m ih =>
    show crcBit (crcN r f m) (f m) ≠ crcBit (crcN r g m) (g m)
    by_cases hkm : k = m
    · subst hkm
      rw [crcN_congr (g := g) r fun i hi => he i (by omega)]
      exact crcBit_ne_right (crcN_lt hr hg _) (hf _) (hg _) hk
    · rw [he m (by omega)]
      exact crcBit_ne_left (crcN_lt hr hf _) (crcN_lt hr hg _) (hg _) (ih (by omega))

theorem bitAt_drop (xs : List Nat) (k i : Nat) : bitAt (xs.drop k) i = bitAt xs (8 * k + i) := by
  unfold bitAt
  rw [show (8 * k + i) / 8 = k + i / 8 by omega, show (8 * k + i) % 8 = i % 8 by omega]
  simp [List.getD_eq_getElem?_getD]
theorem bitAt_take (xs : List Nat) (k i : Nat) (h : i < 8 * k) : bitAt (xs.take k) i = bitAt xs i := by
  unfold bitAt
  simp [List.getD_eq_getElem?_getD, show i / 8 < k by omega]
/-- A sum of two parts. -/
theorem crcN_join (r : Nat) (xs : List Nat) (k : Nat) (hk : k ≤ xs.length) :
    crcN (crcN r (bitAt (xs.take k)) (8 * k)) (bitAt (xs.drop k)) (8 * (xs.length - k)) = crcN r (bitAt xs) (8 * xs.length) := by
  rw [show 8 * xs.length = 8 * k + 8 * (xs.length - k) by omega, crcN_add, crcN_congr r (g := bitAt xs) fun i hi => bitAt_take xs k i hi]
  exact crcN_congr _ fun i _ => bitAt_drop xs k i

/-- A byte turned at a bit, seen bit by bit. -/
theorem bit_turned (x k j : Nat) : (x ^^^ 2 ^ k) / 2 ^ j % 2 = if j = k then 1 - x / 2 ^ j % 2 else x / 2 ^ j % 2 := by
  have e : ∀ n : Nat, n / 2 ^ j % 2 = (n.testBit j).toNat := fun n => (Nat.toNat_testBit n j).symm
  rw [e, e, Nat.testBit_xor, Nat.testBit_two_pow]
  by_cases h : j = k
  · subst h
    cases x.testBit j <;> simp
  · simp [h, Ne.symm h]
theorem turned_le (x k : Nat) (hx : x ≤ 255) (hk : k < 8) : x ^^^ 2 ^ k ≤ 255 := by
  have := Nat.xor_lt_two_pow (n := 8) (x := x) (y := 2 ^ k) (by omega) (Nat.pow_lt_pow_right (by decide) hk)
  omega
theorem bitAt_set (xs : List Nat) (p k i : Nat) (hp : p < xs.length) (hk : k < 8) :
    bitAt (xs.set p (xs.getD p 0 ^^^ 2 ^ k)) i = if i = 8 * p + k then 1 - bitAt xs i else bitAt xs i := by
  unfold bitAt
  by_cases h : i / 8 = p
  · subst h
    have e : (xs.set (i / 8) (xs.getD (i / 8) 0 ^^^ 2 ^ k)).getD (i / 8) 0 = xs.getD (i / 8) 0 ^^^ 2 ^ k := by
      simp [List.getD_eq_getElem?_getD, hp]
    rw [e, bit_turned]
    by_cases h2 : i % 8 = k
    · rw [if_pos h2, if_pos (by omega)]
    · rw [if_neg h2, if_neg (by omega)]
  · rw [if_neg (by omega)]
    have e : (xs.set p (xs.getD p 0 ^^^ 2 ^ k)).getD (i / 8) 0 = xs.getD (i / 8) 0 := by
      simp [List.getD_eq_getElem?_getD, Ne.symm h]
    rw [e]
/-- A single bit that is turned turns the remainder. -/
theorem crcN_turned (r : Nat) (hr : r < 4294967296) (xs : List Nat) (p k : Nat) (hp : p < xs.length) (hk : k < 8) :
    crcN r (bitAt (xs.set p (xs.getD p 0 ^^^ 2 ^ k))) (8 * xs.length) ≠ crcN r (bitAt xs) (8 * xs.length) := by
  refine crcN_ne (k := 8 * p + k) hr (fun i => bitAt_lt _ i) (fun i => bitAt_lt _ i) (fun i hi => ?_) ?_ _ (by omega)
  · rw [bitAt_set _ _ _ _ hp hk, if_neg hi]
  · rw [bitAt_set _ _ _ _ hp hk, if_pos rfl]
    have := bitAt_lt xs (8 * p + k)
    omega

/-- The Crc of what a sum is that of, and of bytes behind it. -/
def more (s : Nat) (xs : List Nat) : Nat := 4294967295 - crcN (4294967295 - s) (bitAt xs) (8 * xs.length)
def crc (xs : List Nat) : Nat := more 0 xs
def fnv (xs : List Nat) : Nat := fnvN xs xs.length
theorem more_lt (s : Nat) (xs : List Nat) : more s xs < 4294967296 := by unfold more; omega
theorem crc_lt (xs : List Nat) : crc xs < 4294967296 := more_lt 0 xs
theorem fnv_lt (xs : List Nat) : fnv xs < 18446744073709551616 := fnvN_lt xs _
theorem join (xs : List Nat) (k : Nat) (hk : k ≤ xs.length) : more (crc (xs.take k)) (xs.drop k) = crc xs := by
  unfold crc more
  have h := crcN_lt (r := 4294967295) (f := bitAt (xs.take k)) (by decide) (fun i => bitAt_lt _ i) (8 * k)
  have e : (xs.take k).length = k := by simp [hk]
  have e2 : 4294967295 - (4294967295 - crcN (4294967295 - 0) (bitAt (xs.take k)) (8 * (xs.take k).length)) = crcN 4294967295 (bitAt (xs.take k)) (8 * k) := by
    rw [e]; show 4294967295 - (4294967295 - crcN 4294967295 _ _) = _; omega
  rw [e2, List.length_drop, crcN_join 4294967295 xs k hk]
theorem more_nil (s : Nat) (hs : s < 4294967296) : more s [] = s := by
  unfold more; show 4294967295 - (4294967295 - s) = s; omega
theorem crc_turned (xs : List Nat) (p k : Nat) (hp : p < xs.length) (hk : k < 8) : crc (xs.set p (xs.getD p 0 ^^^ 2 ^ k)) ≠ crc xs := by
  have h := crcN_turned 4294967295 (by decide) xs p k hp hk
  have h1 := crcN_lt (r := 4294967295) (f := bitAt xs) (by decide) (fun i => bitAt_lt _ i) (8 * xs.length)
  have h2 := crcN_lt (r := 4294967295) (f := bitAt (xs.set p (xs.getD p 0 ^^^ 2 ^ k))) (by decide) (fun i => bitAt_lt _ i) (8 * xs.length)
  unfold crc more
  rw [List.length_set]
  show 4294967295 - crcN 4294967295 _ _ ≠ 4294967295 - crcN 4294967295 _ _
  omega
theorem crc_nine : crc [49, 50, 51, 52, 53, 54, 55, 56, 57] = 3421780262 := by decide +kernel
theorem fnv_nil : fnv [] = 14695981039346656037 := rfl
end Go.Proofs.YtdjhlhellkajfaaGreat.Sums
