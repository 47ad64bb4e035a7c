/-
  Marks and sectors as plain mathematics: a mark's half and its sector; what is read where a mark would stand; bytes in sectors, sectors as bytes. Conditions: a mark's numbers fit 64 bits.
-/
import Derived.Test.YtpbojepliddflaaCMath
import Derived.Test.YtpbojepliddflaaSMath
namespace Go.Proofs.Ytpbojepliddflaa.FrameM
open Go.Proofs.Ytpbojepliddflaa.Codec
set_option maxRecDepth 100000

structure Mk where
  kind : Int
  gen : Int
  seq : Int
  n : Int
def Mk.right (m : Mk) : Bool := decide (1 ≤ m.kind) && decide (m.kind ≤ 255) && decide (0 ≤ m.gen) && decide (0 ≤ m.seq) && decide (0 ≤ m.n)
def in64 (n : Int) : Prop := -9223372036854775808 ≤ n ∧ n ≤ 9223372036854775807
structure Mk.fits (m : Mk) : Prop where
  kind : in64 m.kind
  gen : in64 m.gen
  seq : in64 m.seq
  n : in64 m.n
def Mk.eq (m o : Mk) : Bool := (m.kind == o.kind) && (m.gen == o.gen) && (m.seq == o.seq) && (m.n == o.n)
theorem Mk.eq_iff {m o : Mk} : m.eq o = true ↔ m = o := by
  cases m
  cases o
  simp [Mk.eq, and_assoc]
def zeroM : Mk := ⟨0, 0, 0, 0⟩
theorem right_iff {m : Mk} : m.right = true ↔ 1 ≤ m.kind ∧ m.kind ≤ 255 ∧ 0 ≤ m.gen ∧ 0 ≤ m.seq ∧ 0 ≤ m.n := by simp [Mk.right, and_assoc]

def nats (xs : List UInt8) : List Nat := xs.map UInt8.toNat
/-- A half without its sum; the sum; the half; the sector. -/
def body (m : Mk) : List UInt8 := encSmall 19796 ++ (encSmall m.kind ++ (encNum m.gen ++ (encNum m.seq ++ encNum m.n)))
def crcOf (xs : List UInt8) : Nat := Sums.crc (nats xs)
def half (m : Mk) : List UInt8 := body m ++ (encSmall (crcOf (body m) % 65536 : Nat) ++ encSmall (crcOf (body m) / 65536 : Nat))
def put (m : Mk) : List UInt8 := if m.right then half m ++ half m else []
theorem crcOf_lt (xs : List UInt8) : crcOf xs < 4294967296 := Sums.crc_lt _
theorem body_length (m : Mk) : (body m).length = 28 := by simp [body, encSmall_length, encNum_length]
theorem half_length (m : Mk) : (half m).length = 32 := by simp [half, body_length, encSmall_length]
theorem put_right {m : Mk} (h : m.right = true) : put m = half m ++ half m := by simp [put, h]
theorem put_wrong {m : Mk} (h : m.right = false) : put m = [] := by simp [put, h]
theorem put_length {m : Mk} (h : m.right = true) : (put m).length = 64 := by simp [put_right h, half_length]
/-- The sum's four bytes. -/
theorem encSmall_nat (n : Nat) (h : n < 65536) : encSmall (n : Int) = le 2 n := by
  unfold encSmall clip
  rw [show (min (max (n : Int) 0) 65535).toNat = n by omega]
theorem sum_bytes (s : Nat) (h : s < 4294967296) : encSmall (s % 65536 : Nat) ++ encSmall (s / 65536 : Nat) = le 4 s := by
  rw [encSmall_nat _ (by omega), encSmall_nat _ (by omega)]
  simp only [le, List.cons_append, List.nil_append]
  rw [show s % 65536 % 256 = s % 256 by omega, show s % 65536 / 256 % 256 = s / 256 % 256 by omega, show s / 65536 % 256 = s / 256 / 256 % 256 by omega, show s / 65536 / 256 % 256 = s / 256 / 256 / 256 % 256 by omega]
theorem letters_bytes : encSmall 19796 = [84, 77] := by decide

/-- What stands where a mark would. -/
def readFrom (s : St) : Mk := ⟨small s, num (tkS 2 s), num (tkS 8 (tkS 2 s)), num (tkS 8 (tkS 8 (tkS 2 s)))⟩
def readM (xs : List UInt8) : Mk := readFrom (tkS 2 ⟨xs.take 32, false⟩)
theorem readM_ref (xs : List UInt8) (h : xs.length = 64) : readM xs = readFrom ⟨(xs.drop 2).take 30, false⟩ := by
  unfold readM
  have : short 2 ⟨xs.take 32, false⟩ = false := by simp [short]; omega
  rw [tkS, this]
  simp [List.drop_take]
theorem readM_fits (xs : List UInt8) : (readM xs).fits := by
  have hn : ∀ s : St, in64 (num s) := fun s => by
    refine signed_bound _ ?_
    have h := leVal_lt (tk 8 s)
    have h2 : 256 ^ (tk 8 s).length ≤ 256 ^ 8 := Nat.pow_le_pow_right (by decide) (by unfold tk; split <;> simp; omega)
    omega
  refine ⟨?_, hn _, hn _, hn _⟩
  have := small_lt (tkS 2 ⟨xs.take 32, false⟩)
  exact ⟨by show _ ≤ ((small _ : Nat) : Int); omega, by show ((small _ : Nat) : Int) ≤ _; omega⟩
theorem small_enc (n : Int) (r : List UInt8) (h : 0 ≤ n ∧ n ≤ 65535) : ((small ⟨encSmall n ++ r, false⟩ : Nat) : Int) = n ∧ tkS 2 ⟨encSmall n ++ r, false⟩ = ⟨r, false⟩ := by
  have e : encSmall n = le 2 n.toNat := by
    unfold encSmall clip
    rw [show (min (max n 0) 65535).toNat = n.toNat by omega]
  have := small_back n.toNat r (by omega)
  rw [e]
  exact ⟨by rw [this.1]; omega, this.2⟩
theorem readM_half {m : Mk} (h : m.right = true) (hf : m.fits) (ys : List UInt8) : readM (half m ++ ys) = m := by
  obtain ⟨h1, h2, h3, h4, h5⟩ := right_iff.1 h
  have e : (half m ++ ys).take 32 = half m := by rw [List.take_append_of_le_length (by rw [half_length]; omega), List.take_of_length_le (by rw [half_length]; omega)]
  unfold readM
  rw [e]
  unfold half body
  simp only [List.append_assoc]
  rw [(small_enc 19796 _ (by omega)).2]
  unfold readFrom
  have k1 := small_enc m.kind (encNum m.gen ++ (encNum m.seq ++ (encNum m.n ++ (encSmall (crcOf (body m) % 65536 : Nat) ++ encSmall (crcOf (body m) / 65536 : Nat))))) (by omega)
  have k2 := num_back m.gen (encNum m.seq ++ (encNum m.n ++ (encSmall (crcOf (body m) % 65536 : Nat) ++ encSmall (crcOf (body m) / 65536 : Nat)))) hf.gen
  have k3 := num_back m.seq (encNum m.n ++ (encSmall (crcOf (body m) % 65536 : Nat) ++ encSmall (crcOf (body m) / 65536 : Nat))) hf.seq
  have k4 := num_back m.n (encSmall (crcOf (body m) % 65536 : Nat) ++ encSmall (crcOf (body m) / 65536 : Nat)) hf.n
  simp only [body] at k1 k2 k3 k4
  rw [k1.2, k2.2, k3.2, k1.1, k2.1, k3.1, k4.1]

/-- Are these bytes a mark's sector; whose. -/
def isM (xs : List UInt8) : Bool := decide (put (readM xs) = xs)
def getB (xs : List UInt8) : Bool := decide (xs.length = 64) && isM xs
def getM (xs : List UInt8) : Mk := if getB xs then readM xs else zeroM
theorem getB_put {m : Mk} (h : m.right = true) (hf : m.fits) : getB (put m) = true ∧ getM (put m) = m := by
  have hr : readM (put m) = m := by rw [put_right h]; exact readM_half h hf _
  have : getB (put m) = true := by simp [getB, isM, put_length h, hr]
  exact ⟨this, by simp [getM, this, hr]⟩
theorem half_inj {m o : Mk} (h : m.right = true) (hf : m.fits) (h' : o.right = true) (hf' : o.fits) (e : half m = half o) : m = o := by
  have h1 := readM_half h hf []
  have h2 := readM_half h' hf' []
  rw [e, h2] at h1
  exact h1.symm
/-- A torn sector. -/
theorem torn {m o : Mk} (h : m.right = true) (hf : m.fits) (h' : o.right = true) (hf' : o.fits) : getB (half m ++ half o) = m.eq o ∧ (m.eq o = true → getM (half m ++ half o) = m) := by
  have hr := readM_half h hf (half o)
  have key : getB (half m ++ half o) = m.eq o := by
    rw [Bool.eq_iff_iff, Mk.eq_iff]
    simp only [getB, isM, hr, put_right h, List.length_append, half_length, decide_true, Bool.true_and, decide_eq_true_eq, List.append_cancel_left_eq]
    exact ⟨half_inj h hf h' hf', fun e => by rw [e]⟩
  exact ⟨key, fun e => by rw [getM, key, e, if_pos rfl, hr]⟩
def zeros (n : Nat) : List UInt8 := List.replicate n 0
theorem zeros_length (n : Nat) : (zeros n).length = n := List.length_replicate
theorem half_ne_zeros (m : Mk) : half m ≠ zeros 32 := by
  intro e
  have := congrArg (fun l : List UInt8 => l[0]?) e
  simp [half, body, letters_bytes, zeros] at this
theorem torn_behind {m : Mk} (h : m.right = true) (hf : m.fits) : getB (half m ++ zeros 32) = false := by
  have hr := readM_half h hf (zeros 32)
  simp only [getB, isM, hr, put_right h, List.append_cancel_left_eq, half_ne_zeros, decide_false, Bool.and_false]
theorem torn_ahead (ys : List UInt8) : getB (zeros 32 ++ ys) = false := by
  have e : (zeros 32 ++ ys).take 32 = zeros 32 := by rw [List.take_append_of_le_length (by rw [zeros_length]; omega), List.take_of_length_le (by rw [zeros_length]; omega)]
  have hk : (readM (zeros 32 ++ ys)).kind = 0 := by
    unfold readM
    rw [e]
    decide
  have hw : (readM (zeros 32 ++ ys)).right = false := by
    cases hb : (readM (zeros 32 ++ ys)).right with
    | false => rfl
    | true => have := (right_iff.1 hb).1; omega
  have hne : ¬ [] = zeros 32 ++ ys := by simp [zeros]
  simp [getB, isM, put_wrong hw, hne]
theorem getM_no {xs : List UInt8} (h : getB xs = false) : getM xs = zeroM := by simp [getM, h]
theorem getM_yes {xs : List UInt8} (h : getB xs = true) : getM xs = readM xs := by simp [getM, h]

/-! ### Bytes in sectors -/
def need (n : Nat) : Nat := (n + 63) / 64
def needI (n : Int) : Int := if n ≤ 0 then 0 else (n - 1) / 64 + 1
theorem needI_nat (n : Nat) : needI (n : Int) = (need n : Int) := by
  unfold needI need
  split <;> omega
def pad (ys : List UInt8) : List UInt8 := ys ++ zeros (64 - ys.length)
def piece (xs : List UInt8) (i : Nat) : List UInt8 := (xs.drop (64 * i)).take 64
def sec (xs : List UInt8) (i : Nat) : List UInt8 := pad (piece xs i)
def pack (xs : List UInt8) : List (List UInt8) := (List.range (need xs.length)).map (sec xs)
theorem piece_length (xs : List UInt8) (i : Nat) : (piece xs i).length = min 64 (xs.length - 64 * i) := by simp [piece]
theorem sec_length (xs : List UInt8) (i : Nat) : (sec xs i).length = 64 := by
  have := piece_length xs i
  simp only [sec, pad, List.length_append, zeros_length]
  omega
theorem pack_length (xs : List UInt8) : (pack xs).length = need xs.length := by simp [pack]
theorem pack_all (xs : List UInt8) : ∀ s ∈ pack xs, s.length = 64 := by
  intro s hs
  obtain ⟨i, _, rfl⟩ := List.mem_map.1 hs
  exact sec_length xs i
theorem sec_of (xs : List UInt8) (i : Nat) (h : i < need xs.length) : sec xs i = piece (xs ++ zeros (64 * need xs.length - xs.length)) i := by
  unfold sec pad piece zeros
  unfold need at h ⊢
  rw [List.drop_append, List.take_append, List.length_take, List.length_drop, List.drop_replicate, List.take_replicate]
  congr 2
  omega
theorem take_pieces (zs : List UInt8) (k : Nat) : ((List.range k).map (piece zs)).flatten = zs.take (64 * k) := by
  induction k with
  | zero => simp
  | succ k ih =>
    rw [List.range_succ, List.map_append, List.flatten_append, ih]
    simp only [List.map_cons, List.map_nil, List.flatten_cons, List.flatten_nil, List.append_nil]
    rw [Nat.mul_add, Nat.mul_one, List.take_add]
    rfl
theorem pack_flatten (xs : List UInt8) : (pack xs).flatten = xs ++ zeros (64 * need xs.length - xs.length) := by
  have e : pack xs = (List.range (need xs.length)).map (piece (xs ++ zeros (64 * need xs.length - xs.length))) := by
    refine List.map_congr_left fun i hi => sec_of xs i (by simpa using hi)
  rw [e, take_pieces, List.take_of_length_le]
  rw [List.length_append, zeros_length]
  unfold need
  omega
/-- Sectors as bytes. -/
def unpackB (ls : List (List UInt8)) (n : Int) : Bool :=
  decide (0 ≤ n ∧ n ≤ 1048576 ∧ (ls.length : Int) = needI n) && (ls.all (fun s => decide (s.length = 64)) && (ls.flatten.drop n.toNat).all (fun x => decide (x = 0)))
def unpack (ls : List (List UInt8)) (n : Int) : List UInt8 := if unpackB ls n then ls.flatten.take n.toNat else []
theorem flatten_length (ls : List (List UInt8)) (h : ∀ s ∈ ls, s.length = 64) : ls.flatten.length = 64 * ls.length := by
  induction ls with
  | nil => rfl
  | cons a r ih =>
    have h1 := h a (by simp)
    have h2 := ih (fun s hs => h s (by simp [hs]))
    simp only [List.flatten_cons, List.length_append, List.length_cons]
    omega
theorem unpack_pack (xs : List UInt8) (h : xs.length ≤ 1048576) : unpackB (pack xs) xs.length = true ∧ unpack (pack xs) xs.length = xs := by
  have hb : unpackB (pack xs) xs.length = true := by
    unfold unpackB
    rw [needI_nat, pack_length, pack_flatten]
    simp only [Bool.and_eq_true, decide_eq_true_eq, List.all_eq_true, Int.toNat_natCast, List.drop_left]
    exact ⟨⟨by omega, by omega, trivial⟩, pack_all xs, fun x hx => (List.mem_replicate.1 hx).2⟩
  refine ⟨hb, ?_⟩
  rw [unpack, hb, if_pos rfl, pack_flatten]
  simp
theorem unpack_no {ls : List (List UInt8)} {n : Int} (h : unpackB ls n = false) : unpack ls n = [] := by simp [unpack, h]
theorem unpack_yes {ls : List (List UInt8)} {n : Int} (h : unpackB ls n = true) : unpack ls n = ls.flatten.take n.toNat := by simp [unpack, h]
end Go.Proofs.Ytpbojepliddflaa.FrameM
