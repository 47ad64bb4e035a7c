/-
  Texts DMath, CMath, SMath, FMath, JMath, JWhole, in one file. What each proves, and its conditions, stand at its head below.
-/
import Derived.WalkKit
import Derived.KernelRfl
/-
  Sectors and disks, as plain mathematics: what a deed, a Write, a Sync, a Stop, a Crash make of a disk; what the waiting sectors are. No program; no condition.
-/
namespace Go.Proofs.Ytgjdgmpjbpnjbaa.Disk
set_option maxRecDepth 100000
def upd {α : Type} (f : Nat → α) (i : Nat) (x : α) : Nat → α := fun j => if j = i then x else f j
theorem upd_same {α : Type} (f : Nat → α) (i : Nat) (x : α) : upd f i x i = x := by simp [upd]
theorem upd_other {α : Type} (f : Nat → α) {i j : Nat} (x : α) (h : j ≠ i) : upd f i x j = f j := by simp [upd, h]
/-- What a crash leaves of a sector: a is safe, b waits. -/
def surv (f : Int) (a b : List UInt8) : List UInt8 :=
  if f % 4 = 1 then b else if f % 4 = 2 then b.take 32 ++ a.drop 32 else if f % 4 = 3 then a.take 32 ++ b.drop 32 else a
theorem surv_length (f : Int) {a b : List UInt8} (ha : a.length = 64) (hb : b.length = 64) : (surv f a b).length = 64 := by
  unfold surv
  split
  · exact hb
  · split
    · simp; omega
    · split
      · simp; omega
      · exact ha
structure Dsk where
  n : Nat
  safe : Nat → List UInt8
  waits : Nat → Option (List UInt8)
  off : Bool
  stops : Bool
  left : Int
def Dsk.ok (d : Dsk) : Prop :=
  1 ≤ d.n ∧ d.n ≤ 65536 ∧ (∀ i, i < d.n → (d.safe i).length = 64) ∧ (∀ i s, d.waits i = some s → i < d.n ∧ s.length = 64) ∧
  -9223372036854775808 ≤ d.left ∧ d.left ≤ 9223372036854775807 ∧ (d.stops = true → d.off = false → 0 ≤ d.left)
def fresh (n : Nat) : Dsk := ⟨n, fun _ => List.replicate 64 0, fun _ => none, false, false, 0⟩
theorem fresh_ok {n : Nat} (h1 : 1 ≤ n) (h2 : n ≤ 65536) : (fresh n).ok := ⟨h1, h2, by simp [fresh], by simp [fresh], by simp [fresh], by simp [fresh], by simp [fresh]⟩
/-- Is a deed done? (The power is on.) -/
def Dsk.done (d : Dsk) : Bool := !(d.stops && d.left == 0)
def Dsk.deed (d : Dsk) : Dsk := if d.stops then (if d.left = 0 then { d with off := true } else { d with left := d.left - 1 }) else d
theorem Dsk.deed_ok {d : Dsk} (h : d.ok) (h0 : d.off = false) : d.deed.ok := by
  obtain ⟨h1, h2, h3, h4, h5, h6, h7⟩ := h
  unfold Dsk.deed
  split
  · rename_i hs
    have := h7 hs h0
    split
    · exact ⟨h1, h2, h3, h4, h5, h6, by simp⟩
    · exact ⟨h1, h2, h3, h4, by show _ ≤ d.left - 1; omega, by show d.left - 1 ≤ _; omega, fun _ _ => by show 0 ≤ d.left - 1; omega⟩
  · exact ⟨h1, h2, h3, h4, h5, h6, h7⟩
theorem Dsk.deed_parts (d : Dsk) : d.deed.n = d.n ∧ d.deed.safe = d.safe ∧ d.deed.waits = d.waits := by
  unfold Dsk.deed
  split
  · split <;> exact ⟨rfl, rfl, rfl⟩
  · exact ⟨rfl, rfl, rfl⟩
theorem Dsk.deed_on {d : Dsk} (h : d.off = false) : d.deed.off = !d.done := by
  obtain ⟨n, s, w, o, st, l⟩ := d
  cases st
  · simp_all [Dsk.deed, Dsk.done]
  · by_cases hl : l = 0 <;> simp_all [Dsk.deed, Dsk.done]
def Dsk.put (d : Dsk) (i : Nat) (s : List UInt8) : Dsk := { d with waits := upd d.waits i (some s) }
theorem Dsk.put_ok {d : Dsk} (h : d.ok) {i : Nat} (hi : i < d.n) {s : List UInt8} (hs : s.length = 64) : (d.put i s).ok := by
  obtain ⟨h1, h2, h3, h4, h5⟩ := h
  refine ⟨h1, h2, h3, fun j t ht => ?_, h5⟩
  by_cases hj : j = i
  · subst hj
    have : t = s := by simpa [Dsk.put, upd] using ht.symm
    subst this
    exact ⟨hi, hs⟩
  · exact h4 j t (by simpa [Dsk.put, upd, hj] using ht)
def Dsk.read (d : Dsk) (i : Nat) : List UInt8 := (d.waits i).getD (d.safe i)
theorem Dsk.read_length {d : Dsk} (h : d.ok) {i : Nat} (hi : i < d.n) : (d.read i).length = 64 := by
  unfold Dsk.read
  cases hw : d.waits i with
  | none => exact h.2.2.1 i hi
  | some s => exact (h.2.2.2.1 i s hw).2
def Dsk.synced (d : Dsk) : Dsk := { d with safe := d.read, waits := fun _ => none }
theorem Dsk.synced_ok {d : Dsk} (h : d.ok) : d.synced.ok := ⟨h.1, h.2.1, fun _ hi => Dsk.read_length h hi, by simp [Dsk.synced], h.2.2.2.2⟩
def Dsk.stop (d : Dsk) (k : Int) : Dsk := { d with stops := true, left := k, off := d.off || decide (k < 1) }
theorem Dsk.stop_ok {d : Dsk} (h : d.ok) {k : Int} (h1 : -9223372036854775808 ≤ k) (h2 : k ≤ 9223372036854775807) : (d.stop k).ok :=
  ⟨h.1, h.2.1, h.2.2.1, h.2.2.2.1, h1, h2, fun _ ho => by
    have : decide (k < 1) = false := by cases hd : d.off <;> simp_all [Dsk.stop]
    have : ¬ k < 1 := by simpa using this
    show 0 ≤ k
    omega⟩
/-- The sectors that wait, rising. -/
def waitsOf (n : Nat) (f : Nat → Option (List UInt8)) : List Nat := (List.range n).filter fun i => (f i).isSome
theorem waitsOf_mem {n : Nat} {f : Nat → Option (List UInt8)} {i : Nat} : i ∈ waitsOf n f ↔ i < n ∧ (f i).isSome = true := by simp [waitsOf]
theorem waitsOf_nodup (n : Nat) (f : Nat → Option (List UInt8)) : (waitsOf n f).Nodup := List.Pairwise.filter _ List.nodup_range
theorem waitsOf_length (n : Nat) (f : Nat → Option (List UInt8)) : (waitsOf n f).length ≤ n := by
  have := List.length_filter_le (fun i => (f i).isSome) (List.range n)
  simpa [waitsOf] using this
/-- What is safe behind m of the rounds of a crash. -/
def crashS (d : Dsk) (fs : List Int) : Nat → Nat → List UInt8
  | 0 => d.safe
  | m + 1 => let i := (waitsOf d.n d.waits).getD m 0
    upd (crashS d fs m) i (surv (fs.getD m 0) (crashS d fs m i) ((d.waits i).getD []))
def Dsk.crash (d : Dsk) (fs : List Int) : Dsk := ⟨d.n, crashS d fs (waitsOf d.n d.waits).length, fun _ => none, false, false, 0⟩
theorem crashS_length {d : Dsk} (h : d.ok) (fs : List Int) : ∀ m, m ≤ (waitsOf d.n d.waits).length → ∀ i, i < d.n → (crashS d fs m i).length = 64
  | 0, _, i, hi => h.2.2.1 i hi
  | m + 1, hm, i, hi => by
    show (upd (crashS d fs m) _ _ i).length = 64
    have hmem : (waitsOf d.n d.waits).getD m 0 ∈ waitsOf d.n d.waits := by
      rw [List.getD_eq_getElem?_getD, List.getElem?_eq_getElem (by omega)]
      exact List.getElem_mem _
    obtain ⟨hk, hs⟩ := waitsOf_mem.1 hmem
    generalize (waitsOf d.n d.waits).getD m 0 = k at hk hs ⊢
    by_cases he : i = k
    · subst he
      rw [upd_same]
      obtain ⟨s, hs⟩ := Option.isSome_iff_exists.1 hs
      rw [hs]
      exact surv_length _ (crashS_length h fs m (by omega) i hi) (h.2.2.2.1 i s hs).2
    · rw [upd_other _ _ he]
      exact crashS_length h fs m (by omega) i hi
theorem Dsk.crash_ok {d : Dsk} (h : d.ok) (fs : List Int) : (d.crash fs).ok :=
  ⟨h.1, h.2.1, fun i hi => crashS_length h fs _ (Nat.le_refl _) i hi, by simp [Dsk.crash], by simp [Dsk.crash], by simp [Dsk.crash], by simp [Dsk.crash]⟩
/-- Each half is a's or b's. -/
def halfs (a b x : List UInt8) : Prop := (x.take 32 = a.take 32 ∨ x.take 32 = b.take 32) ∧ (x.drop 32 = a.drop 32 ∨ x.drop 32 = b.drop 32)
theorem halfs_left (a b : List UInt8) : halfs a b a := ⟨.inl rfl, .inl rfl⟩
theorem halfs_right (a b : List UInt8) : halfs a b b := ⟨.inr rfl, .inr rfl⟩
theorem halfs_surv (f : Int) {a b d x : List UInt8} (hx : x.length = 64) (hb : d.length = 64) (h1 : halfs a b x) (h2 : halfs a b d) : halfs a b (surv f x d) := by
  unfold surv
  split
  · exact h2
  · split
    · exact ⟨by rw [List.take_append_of_le_length (by simp; omega), List.take_take, Nat.min_self]; exact h2.1,
        by rw [List.drop_append_of_le_length (by simp; omega), List.drop_take]; simpa using h1.2⟩
    · split
      · exact ⟨by rw [List.take_append_of_le_length (by simp; omega), List.take_take, Nat.min_self]; exact h1.1,
          by rw [List.drop_append_of_le_length (by simp; omega), List.drop_take]; simpa using h2.2⟩
      · exact h1
theorem crash_halfs {d : Dsk} (h : d.ok) (fs : List Int) : ∀ m, m ≤ (waitsOf d.n d.waits).length → ∀ i, i < d.n → halfs (d.safe i) (d.read i) (crashS d fs m i)
  | 0, _, i, _ => halfs_left _ _
  | m + 1, hm, i, hi => by
    show halfs _ _ (upd (crashS d fs m) _ _ i)
    have hmem : (waitsOf d.n d.waits).getD m 0 ∈ waitsOf d.n d.waits := by
      rw [List.getD_eq_getElem?_getD, List.getElem?_eq_getElem (by omega)]
      exact List.getElem_mem _
    obtain ⟨hk, hs⟩ := waitsOf_mem.1 hmem
    generalize (waitsOf d.n d.waits).getD m 0 = k at hk hs ⊢
    by_cases he : i = k
    · subst he
      rw [upd_same]
      obtain ⟨s, hs⟩ := Option.isSome_iff_exists.1 hs
      have hr : d.read i = s := by simp [Dsk.read, hs]
      rw [hs]
      exact halfs_surv _ (crashS_length h fs m (by omega) i hi) (h.2.2.2.1 i s hs).2 (crash_halfs h fs m (by omega) i hi) (by rw [hr]; exact halfs_right _ _)
    · rw [upd_other _ _ he]
      exact crash_halfs h fs m (by omega) i hi
end Go.Proofs.Ytgjdgmpjbpnjbaa.Disk
/-
  Numbers and texts as bytes, in plain mathematics: how they are laid, and how they are read, step by step; what was laid is read as it was, to the end; one byte less, and it is not. No condition.
-/
namespace Go.Proofs.Ytgjdgmpjbpnjbaa.Codec
set_option maxRecDepth 100000

/-- The k lowest bytes of n, the lowest first. -/
def le : Nat → Nat → List UInt8
  | 0, _ => []
  | k + 1, n => UInt8.ofNat (n % 256) :: le k (n / 256)
def leVal : List UInt8 → Nat
  | [] => 0
  | x :: r => x.toNat + 256 * leVal r
theorem le_length : ∀ k n, (le k n).length = k
  | 0, _ => rfl
  | k + 1, n => by simp [le, le_length k]
theorem le_snoc : ∀ k n, le (k + 1) n = le k n ++ [UInt8.ofNat (n / 256 ^ k % 256)]
  | 0, n => by simp [le]
  | k + 1, n => by
    rw [le, le_snoc k, le, List.cons_append, Nat.div_div_eq_div_mul, Nat.pow_succ, Nat.mul_comm]
theorem leVal_lt : ∀ l : List UInt8, leVal l < 256 ^ l.length
  | [] => by simp [leVal]
  | x :: r => by
    have := leVal_lt r
    have hx := x.toNat_lt
    simp only [leVal, List.length_cons, Nat.pow_succ]
    omega
theorem leVal_snoc : ∀ (l : List UInt8) (x : UInt8), leVal (l ++ [x]) = leVal l + 256 ^ l.length * x.toNat
  | [], x => by simp [leVal]
  | y :: r, x => by
    simp only [List.cons_append, leVal, leVal_snoc r x, List.length_cons, Nat.pow_succ, Nat.mul_add]
    rw [Nat.mul_comm (256 ^ r.length) 256, Nat.mul_assoc]
    omega
theorem leVal_le : ∀ k n, n < 256 ^ k → leVal (le k n) = n
  | 0, n, h => by simp at h; simp [le, leVal, h]
  | k + 1, n, h => by
    have h1 : n / 256 < 256 ^ k := by rw [Nat.pow_succ] at h; exact Nat.div_lt_of_lt_mul (by omega)
    rw [le, leVal, leVal_le k _ h1]
    simp
    omega

/-- What is left, and is it bad. -/
structure St where
  left : List UInt8
  bad : Bool
def St.ok (s : St) : Prop := s.bad = true → s.left = []
def short (n : Nat) (s : St) : Bool := s.bad || decide (s.left.length < n)
def tk (n : Nat) (s : St) : List UInt8 := if short n s then [] else s.left.take n
def tkS (n : Nat) (s : St) : St := if short n s then ⟨[], true⟩ else ⟨s.left.drop n, false⟩
/-- A number of 64 bits as one that has a sign. -/
def signed (n : Nat) : Int := if n < 9223372036854775808 then n else n - 18446744073709551616
def num (s : St) : Int := signed (leVal (tk 8 s))
def small (s : St) : Nat := leVal (tk 2 s)
def over (most : Int) (s : St) : Bool := decide (most < (small s : Int))
def count (most : Int) (s : St) : Nat := if over most s then 0 else small s
def countS (most : Int) (s : St) : St := if over most s then ⟨[], true⟩ else tkS 2 s
def text (most : Int) (s : St) : List UInt8 := tk (count most s) (countS most s)
def textS (most : Int) (s : St) : St := tkS (count most s) (countS most s)
def refuse (b : Bool) (s : St) : St := if b then ⟨[], true⟩ else s

theorem badOk : St.ok ⟨[], true⟩ := fun _ => rfl
theorem goodOk (l : List UInt8) : St.ok ⟨l, false⟩ := fun h => by cases h
theorem tkS_ok (n : Nat) (s : St) : (tkS n s).ok := by unfold tkS; split <;> first | exact badOk | exact goodOk _
theorem countS_ok (most : Int) (s : St) : (countS most s).ok := by unfold countS; split <;> first | exact badOk | exact tkS_ok _ _
theorem textS_ok (most : Int) (s : St) : (textS most s).ok := tkS_ok _ _
theorem refuse_ok (b : Bool) (s : St) (h : s.ok) : (refuse b s).ok := by unfold refuse; split <;> first | exact badOk | exact h
theorem tkS_len (n : Nat) (s : St) : (tkS n s).left.length ≤ s.left.length := by
  unfold tkS
  split
  · simp
  · simp
theorem small_lt (s : St) : small s < 65536 := by
  have h := leVal_lt (tk 2 s)
  have h2 : (tk 2 s).length ≤ 2 := by unfold tk; split <;> simp; omega
  have h3 : 256 ^ (tk 2 s).length ≤ 256 ^ 2 := Nat.pow_le_pow_right (by decide) h2
  unfold small
  omega
theorem signed_bound (n : Nat) (h : n < 18446744073709551616) : -9223372036854775808 ≤ signed n ∧ signed n ≤ 9223372036854775807 := by
  unfold signed; split <;> omega
theorem tk_short {n : Nat} {s : St} (h : short n s = true) : tk n s = [] := by simp [tk, h]
theorem tkS_short {n : Nat} {s : St} (h : short n s = true) : tkS n s = ⟨[], true⟩ := by simp [tkS, h]

/-! ### What is laid -/
/-- 0: a number, 1: a small one, 2: a text. -/
structure Itm where
  kind : Int
  n : Int
  s : List UInt8
def clip (n : Int) : Nat := (min (max n 0) 65535).toNat
theorem clip_lt (n : Int) : clip n < 65536 := by unfold clip; omega
def encNum (n : Int) : List UInt8 := le 8 (n % 18446744073709551616).toNat
def encSmall (n : Int) : List UInt8 := le 2 (clip n)
def encText (s : List UInt8) : List UInt8 := le 2 (min s.length 65535) ++ s.take (min s.length 65535)
def enc (i : Itm) : List UInt8 := if i.kind = 0 then encNum i.n else if i.kind = 1 then encSmall i.n else if i.kind = 2 then encText i.s else []
def encs (l : List Itm) : List UInt8 := l.flatMap enc
theorem encNum_length (n : Int) : (encNum n).length = 8 := le_length _ _
theorem encSmall_length (n : Int) : (encSmall n).length = 2 := le_length _ _
theorem encText_length (s : List UInt8) : (encText s).length = 2 + min s.length 65535 := by simp [encText, le_length]
theorem enc_length (i : Itm) (h : i.s.length ≤ 2000) : (enc i).length ≤ 2002 := by
  unfold enc
  split
  · rw [encNum_length]; omega
  · split
    · rw [encSmall_length]; omega
    · split
      · rw [encText_length]; omega
      · simp
theorem encs_length : ∀ l : List Itm, (∀ i ∈ l, i.s.length ≤ 2000) → (encs l).length ≤ 2002 * l.length
  | [], _ => by simp [encs]
  | i :: r, h => by
    have h1 := enc_length i (h i (by simp))
    have h2 := encs_length r (fun j hj => h j (by simp [hj]))
    simp only [encs, List.flatMap_cons, List.length_append, List.length_cons] at *
    omega
theorem encs_take_succ (l : List Itm) (k : Nat) (h : k < l.length) : encs (l.take (k + 1)) = encs (l.take k) ++ enc l[k] := by
  rw [List.take_succ_eq_append_getElem h]
  unfold encs
  rw [List.flatMap_append, List.flatMap_cons, List.flatMap_nil, List.append_nil]
theorem encs_drop (l : List Itm) (k : Nat) (h : k < l.length) : encs (l.drop k) = enc l[k] ++ encs (l.drop (k + 1)) := by
  rw [List.drop_eq_getElem_cons h]
  unfold encs
  rw [List.flatMap_cons]

/-! ### What was laid is read as it was -/
theorem tk_app (l r : List UInt8) (n : Nat) (hn : l.length = n) : tk n ⟨l ++ r, false⟩ = l ∧ tkS n ⟨l ++ r, false⟩ = ⟨r, false⟩ := by
  subst hn
  have h : short l.length ⟨l ++ r, false⟩ = false := by simp [short]
  simp [tk, tkS, h]
theorem num_back (n : Int) (r : List UInt8) (h : -9223372036854775808 ≤ n ∧ n ≤ 9223372036854775807) : num ⟨encNum n ++ r, false⟩ = n ∧ tkS 8 ⟨encNum n ++ r, false⟩ = ⟨r, false⟩ := by
  have h1 := tk_app (encNum n) r 8 (encNum_length n)
  refine ⟨?_, h1.2⟩
  unfold num
  rw [h1.1, encNum, leVal_le 8 _ (by simp; omega)]
  unfold signed
  split <;> omega
theorem small_back (n : Nat) (r : List UInt8) (h : n < 65536) : small ⟨le 2 n ++ r, false⟩ = n ∧ tkS 2 ⟨le 2 n ++ r, false⟩ = ⟨r, false⟩ := by
  have h1 := tk_app (le 2 n) r 2 (le_length _ _)
  exact ⟨by unfold small; rw [h1.1, leVal_le 2 _ (by simpa using h)], h1.2⟩
theorem text_back (s r : List UInt8) (h : s.length ≤ 2000) : text 2000 ⟨encText s ++ r, false⟩ = s ∧ textS 2000 ⟨encText s ++ r, false⟩ = ⟨r, false⟩ := by
  have h0 : encText s = le 2 s.length ++ s := by unfold encText; rw [Nat.min_eq_left (by omega), List.take_length]
  have h1 := small_back s.length (s ++ r) (by omega)
  have h2 := tk_app s r s.length rfl
  rw [h0, List.append_assoc]
  have ho : over 2000 ⟨le 2 s.length ++ (s ++ r), false⟩ = false := by unfold over; rw [h1.1]; simp; omega
  have hc : count 2000 ⟨le 2 s.length ++ (s ++ r), false⟩ = s.length := by unfold count; rw [ho, h1.1]; rfl
  have hs : countS 2000 ⟨le 2 s.length ++ (s ++ r), false⟩ = ⟨s ++ r, false⟩ := by unfold countS; rw [ho]; exact h1.2
  unfold text textS
  rw [hc, hs]
  exact h2

/-! ### By its kind -/
/-- What is read of an item, as the kind has it. -/
def step (i : Itm) (s : St) : St := if i.kind = 0 then tkS 8 s else if i.kind = 1 then tkS 2 s else if i.kind = 2 then textS 2000 s else s
theorem enc_0 {i : Itm} (h : i.kind = 0) : enc i = encNum i.n := by unfold enc; rw [if_pos h]
theorem enc_1 {i : Itm} (h : i.kind = 1) : enc i = encSmall i.n := by unfold enc; rw [if_neg (by omega), if_pos h]
theorem enc_2 {i : Itm} (h : i.kind = 2) : enc i = encText i.s := by unfold enc; rw [if_neg (by omega), if_neg (by omega), if_pos h]
theorem enc_no {i : Itm} (h : i.kind ≠ 0 ∧ i.kind ≠ 1 ∧ i.kind ≠ 2) : enc i = [] := by unfold enc; rw [if_neg h.1, if_neg h.2.1, if_neg h.2.2]
theorem step_0 {i : Itm} (h : i.kind = 0) (s : St) : step i s = tkS 8 s := by unfold step; rw [if_pos h]
theorem step_1 {i : Itm} (h : i.kind = 1) (s : St) : step i s = tkS 2 s := by unfold step; rw [if_neg (by omega), if_pos h]
theorem step_2 {i : Itm} (h : i.kind = 2) (s : St) : step i s = textS 2000 s := by unfold step; rw [if_neg (by omega), if_neg (by omega), if_pos h]
theorem step_no {i : Itm} (h : i.kind ≠ 0 ∧ i.kind ≠ 1 ∧ i.kind ≠ 2) (s : St) : step i s = s := by unfold step; rw [if_neg h.1, if_neg h.2.1, if_neg h.2.2]
theorem kinds (i : Itm) : i.kind = 0 ∨ i.kind = 1 ∨ i.kind = 2 ∨ (i.kind ≠ 0 ∧ i.kind ≠ 1 ∧ i.kind ≠ 2) := by omega
theorem step_ok (i : Itm) (s : St) (h : s.ok) : (step i s).ok := by
  rcases kinds i with k | k | k | k
  · rw [step_0 k]; exact tkS_ok _ _
  · rw [step_1 k]; exact tkS_ok _ _
  · rw [step_2 k]; exact textS_ok _ _
  · rw [step_no k]; exact h

/-! ### One byte less -/
theorem tkS_bad (n : Nat) (l : List UInt8) : tkS n ⟨l, true⟩ = ⟨[], true⟩ := by simp [tkS, short]
theorem countS_bad (most : Int) (l : List UInt8) : countS most ⟨l, true⟩ = ⟨[], true⟩ := by unfold countS; rw [tkS_bad]; split <;> rfl
theorem textS_bad (most : Int) (l : List UInt8) : textS most ⟨l, true⟩ = ⟨[], true⟩ := by unfold textS; rw [countS_bad, tkS_bad]
theorem step_bad (i : Itm) : step i ⟨[], true⟩ = ⟨[], true⟩ := by
  unfold step
  rw [tkS_bad, tkS_bad, textS_bad]
  simp
theorem tkS_few (n : Nat) (l : List UInt8) (b : Bool) (h : l.length < n) : tkS n ⟨l, b⟩ = ⟨[], true⟩ := by simp [tkS, short, h]
/-- Of what is left when the last byte lacks: bad, or all but the last byte of what is still to come, which is something. -/
def Less (r : List UInt8) (s : St) : Prop := s = ⟨[], true⟩ ∨ (r ≠ [] ∧ s = ⟨r.dropLast, false⟩)
theorem less_tk (l r : List UInt8) (n : Nat) (hn : l.length = n) (hne : n ≠ 0 ∨ r ≠ []) : Less r (tkS n ⟨(l ++ r).dropLast, false⟩) := by
  by_cases hr : r = []
  · subst hr
    rw [List.append_nil]
    have h0 : n ≠ 0 := by
      rcases hne with h | h
      · exact h
      · exact absurd rfl h
    exact .inl (tkS_few _ _ _ (by rw [List.length_dropLast]; omega))
  · rw [List.dropLast_append_of_ne_nil hr]
    exact .inr ⟨hr, (tk_app l r.dropLast n hn).2⟩
theorem less_text (s r : List UInt8) (hi : s.length ≤ 2000) : Less r (textS 2000 ⟨(encText s ++ r).dropLast, false⟩) := by
  have h0 : encText s = le 2 s.length ++ s := by unfold encText; rw [Nat.min_eq_left (by omega), List.take_length]
  rw [h0, List.append_assoc]
  by_cases hr : s ++ r = []
  · rw [hr, List.append_nil]
    have hf : tkS 2 ⟨(le 2 s.length).dropLast, false⟩ = ⟨[], true⟩ := tkS_few _ _ _ (by rw [List.length_dropLast, le_length]; omega)
    have hc : countS 2000 ⟨(le 2 s.length).dropLast, false⟩ = ⟨[], true⟩ := by unfold countS; rw [hf]; split <;> rfl
    refine .inl ?_
    unfold textS
    rw [hc, tkS_bad]
  · rw [List.dropLast_append_of_ne_nil hr]
    have h1 := small_back s.length (s ++ r).dropLast (by omega)
    have ho : over 2000 ⟨le 2 s.length ++ (s ++ r).dropLast, false⟩ = false := by unfold over; rw [h1.1]; simp; omega
    have hc : count 2000 ⟨le 2 s.length ++ (s ++ r).dropLast, false⟩ = s.length := by unfold count; rw [ho, h1.1]; rfl
    have hs : countS 2000 ⟨le 2 s.length ++ (s ++ r).dropLast, false⟩ = ⟨(s ++ r).dropLast, false⟩ := by unfold countS; rw [ho]; exact h1.2
    unfold textS
    rw [hc, hs]
    refine less_tk s r s.length rfl ?_
    by_cases h4 : r = []
    · subst h4
      rw [List.append_nil] at hr
      exact .inl fun h => hr (List.eq_nil_of_length_eq_zero h)
    · exact .inr h4
theorem less_step (i : Itm) (r : List UInt8) (s : St) (hi : i.s.length ≤ 2000) (h : Less (enc i ++ r) s) : Less r (step i s) := by
  rcases h with rfl | ⟨hne, rfl⟩
  · exact .inl (step_bad i)
  · rcases kinds i with k | k | k | k
    · rw [step_0 k, enc_0 k]
      exact less_tk (encNum i.n) r 8 (encNum_length _) (.inl (by decide))
    · rw [step_1 k, enc_1 k]
      exact less_tk (encSmall i.n) r 2 (encSmall_length _) (.inl (by decide))
    · rw [step_2 k, enc_2 k]
      exact less_text i.s r hi
    · rw [step_no k, enc_no k]
      rw [enc_no k] at hne
      exact .inr ⟨hne, rfl⟩
theorem less_end {s : St} (h : Less [] s) : s = ⟨[], true⟩ := by
  rcases h with h | ⟨h, _⟩
  · exact h
  · exact absurd rfl h
end Go.Proofs.Ytgjdgmpjbpnjbaa.Codec
/-
  Sums of bytes as plain mathematics: the remainder behind a bit, behind the first i bits of a list of bytes; where two lists of bits part in one place their remainders part. Conditions: bits are below 2, remainders below 2^32.
-/
namespace Go.Proofs.Ytgjdgmpjbpnjbaa.Sums

/-- The remainder, turned at its lowest bit by a bit, one place down, turned where its lowest bit was 1. -/
def crcBit (r b : Nat) : Nat := if (r ^^^ b) % 2 = 1 then ((r ^^^ b) / 2) ^^^ 3988292384 else (r ^^^ b) / 2
def crcN (r : Nat) (f : Nat → Nat) : Nat → Nat
  | 0 => r
  | i + 1 => crcBit (crcN r f i) (f i)
def bitAt (xs : List Nat) (i : Nat) : Nat := xs.getD (i / 8) 0 / 2 ^ (i % 8) % 2
def fnvN (xs : List Nat) : Nat → Nat
  | 0 => 14695981039346656037
  | i + 1 => (fnvN xs i ^^^ xs.getD i 0) * 1099511628211 % 18446744073709551616

theorem bitAt_lt (xs : List Nat) (i : Nat) : bitAt xs i < 2 := Nat.mod_lt _ (by decide)
theorem xor_lt {r b : Nat} (hr : r < 4294967296) (hb : b < 2) : r ^^^ b < 4294967296 :=
  Nat.xor_lt_two_pow (n := 32) hr (by omega)
theorem crcBit_lt {r b : Nat} (hr : r < 4294967296) (hb : b < 2) : crcBit r b < 4294967296 := by
  have h := xor_lt hr hb
  unfold crcBit
  split
  · exact Nat.xor_lt_two_pow (n := 32) (by omega) (by omega)
  · omega
theorem crcN_lt {r : Nat} {f : Nat → Nat} (hr : r < 4294967296) (hf : ∀ i, f i < 2) (i : Nat) : crcN r f i < 4294967296 := by
  induction i with
  | zero => exact hr
  | succ i ih => exact crcBit_lt ih (hf i)
theorem fnvN_lt (xs : List Nat) (i : Nat) : fnvN xs i < 18446744073709551616 := by
  cases i with
  | zero => show 14695981039346656037 < _; omega
  | succ i => exact Nat.mod_lt _ (by decide)

theorem crcN_add (r : Nat) (f : Nat → Nat) (a b : Nat) : crcN r f (a + b) = crcN (crcN r f a) (fun i => f (a + i)) b := by
  induction b with
  | zero => rfl
  | succ b ih => show crcBit (crcN r f (a + b)) (f (a + b)) = _; rw [ih]; rfl
theorem crcN_congr (r : Nat) {f g : Nat → Nat} {m : Nat} (h : ∀ i, i < m → f i = g i) : crcN r f m = crcN r g m := by
  induction m with
  | zero => rfl
  | succ m ih => show crcBit (crcN r f m) (f m) = crcBit (crcN r g m) (g m); rw [ih fun i hi => h i (by omega), h m (by omega)]

theorem xor_left {a x y : Nat} (h : x ^^^ a = y ^^^ a) : x = y := by
  have e := congrArg (· ^^^ a) h
  simpa [Nat.xor_assoc] using e
theorem xor_right {a x y : Nat} (h : a ^^^ x = a ^^^ y) : x = y := by
  rw [Nat.xor_comm a, Nat.xor_comm a] at h
  exact xor_left h
theorem top_bit {x : Nat} (hx : x < 2147483648) : (x ^^^ 3988292384) / 2147483648 = 1 := by
  have h := Nat.xor_div_two_pow (a := x) (b := 3988292384) (n := 31)
  rw [show (2 : Nat) ^ 31 = 2147483648 from rfl] at h
  rw [h, Nat.div_eq_of_lt hx]
  rfl
/-- What a turn leaves tells what was turned. -/
theorem crcBit_inj {x y a b : Nat} (hx : x < 4294967296) (hy : y < 4294967296) (ha : a < 2) (hb : b < 2) (h : crcBit x a = crcBit y b) : x ^^^ a = y ^^^ b := by
  have h1 := xor_lt hx ha
  have h2 := xor_lt hy hb
  unfold crcBit at h
  generalize x ^^^ a = u at *
  generalize y ^^^ b = v at *
  by_cases hu : u % 2 = 1 <;> by_cases hv : v % 2 = 1
  · rw [if_pos hu, if_pos hv] at h
    have := xor_left h
    omega
  · rw [if_pos hu, if_neg hv] at h
    have := top_bit (x := u / 2) (by omega)
    omega
  · rw [if_neg hu, if_pos hv] at h
    have := top_bit (x := v / 2) (by omega)
    omega
  · rw [if_neg hu, if_neg hv] at h
    omega
theorem crcBit_ne_left {x y a : Nat} (hx : x < 4294967296) (hy : y < 4294967296) (ha : a < 2) (h : x ≠ y) : crcBit x a ≠ crcBit y a :=
  fun e => h (xor_left (crcBit_inj hx hy ha ha e))
theorem crcBit_ne_right {x a b : Nat} (hx : x < 4294967296) (ha : a < 2) (hb : b < 2) (h : a ≠ b) : crcBit x a ≠ crcBit x b :=
  fun e => h (xor_right (crcBit_inj hx hx ha hb e))
/-- Bits that part in one place part the remainders behind it. -/
theorem crcN_ne {r : Nat} {f g : Nat → Nat} {k : Nat} (hr : r < 4294967296) (hf : ∀ i, f i < 2) (hg : ∀ i, g i < 2) (he : ∀ i, i ≠ k → f i = g i) (hk : f k ≠ g k) (m : Nat) (hm : k < m) : crcN r f m ≠ crcN r g m := by
  induction m with
  | zero => omega
  | succ m ih =>
    show crcBit (crcN r f m) (f m) ≠ crcBit (crcN r g m) (g m)
    by_cases hkm : k = m
    · subst hkm
      rw [crcN_congr (g := g) r fun i hi => he i (by omega)]
      exact crcBit_ne_right (crcN_lt hr hg _) (hf _) (hg _) hk
    · rw [he m (by omega)]
      exact crcBit_ne_left (crcN_lt hr hf _) (crcN_lt hr hg _) (hg _) (ih (by omega))

theorem bitAt_drop (xs : List Nat) (k i : Nat) : bitAt (xs.drop k) i = bitAt xs (8 * k + i) := by
  unfold bitAt
  rw [show (8 * k + i) / 8 = k + i / 8 by omega, show (8 * k + i) % 8 = i % 8 by omega]
  simp [List.getD_eq_getElem?_getD]
theorem bitAt_take (xs : List Nat) (k i : Nat) (h : i < 8 * k) : bitAt (xs.take k) i = bitAt xs i := by
  unfold bitAt
  simp [List.getD_eq_getElem?_getD, show i / 8 < k by omega]
/-- A sum of two parts. -/
theorem crcN_join (r : Nat) (xs : List Nat) (k : Nat) (hk : k ≤ xs.length) :
    crcN (crcN r (bitAt (xs.take k)) (8 * k)) (bitAt (xs.drop k)) (8 * (xs.length - k)) = crcN r (bitAt xs) (8 * xs.length) := by
  rw [show 8 * xs.length = 8 * k + 8 * (xs.length - k) by omega, crcN_add, crcN_congr r (g := bitAt xs) fun i hi => bitAt_take xs k i hi]
  exact crcN_congr _ fun i _ => bitAt_drop xs k i

/-- A byte turned at a bit, seen bit by bit. -/
theorem bit_turned (x k j : Nat) : (x ^^^ 2 ^ k) / 2 ^ j % 2 = if j = k then 1 - x / 2 ^ j % 2 else x / 2 ^ j % 2 := by
  have e : ∀ n : Nat, n / 2 ^ j % 2 = (n.testBit j).toNat := fun n => (Nat.toNat_testBit n j).symm
  rw [e, e, Nat.testBit_xor, Nat.testBit_two_pow]
  by_cases h : j = k
  · subst h
    cases x.testBit j <;> simp
  · simp [h, Ne.symm h]
theorem turned_le (x k : Nat) (hx : x ≤ 255) (hk : k < 8) : x ^^^ 2 ^ k ≤ 255 := by
  have := Nat.xor_lt_two_pow (n := 8) (x := x) (y := 2 ^ k) (by omega) (Nat.pow_lt_pow_right (by decide) hk)
  omega
theorem bitAt_set (xs : List Nat) (p k i : Nat) (hp : p < xs.length) (hk : k < 8) :
    bitAt (xs.set p (xs.getD p 0 ^^^ 2 ^ k)) i = if i = 8 * p + k then 1 - bitAt xs i else bitAt xs i := by
  unfold bitAt
  by_cases h : i / 8 = p
  · subst h
    have e : (xs.set (i / 8) (xs.getD (i / 8) 0 ^^^ 2 ^ k)).getD (i / 8) 0 = xs.getD (i / 8) 0 ^^^ 2 ^ k := by
      simp [List.getD_eq_getElem?_getD, hp]
    rw [e, bit_turned]
    by_cases h2 : i % 8 = k
    · rw [if_pos h2, if_pos (by omega)]
    · rw [if_neg h2, if_neg (by omega)]
  · rw [if_neg (by omega)]
    have e : (xs.set p (xs.getD p 0 ^^^ 2 ^ k)).getD (i / 8) 0 = xs.getD (i / 8) 0 := by
      simp [List.getD_eq_getElem?_getD, Ne.symm h]
    rw [e]
/-- A single bit that is turned turns the remainder. -/
theorem crcN_turned (r : Nat) (hr : r < 4294967296) (xs : List Nat) (p k : Nat) (hp : p < xs.length) (hk : k < 8) :
    crcN r (bitAt (xs.set p (xs.getD p 0 ^^^ 2 ^ k))) (8 * xs.length) ≠ crcN r (bitAt xs) (8 * xs.length) := by
  refine crcN_ne (k := 8 * p + k) hr (fun i => bitAt_lt _ i) (fun i => bitAt_lt _ i) (fun i hi => ?_) ?_ _ (by omega)
  · rw [bitAt_set _ _ _ _ hp hk, if_neg hi]
  · rw [bitAt_set _ _ _ _ hp hk, if_pos rfl]
    have := bitAt_lt xs (8 * p + k)
    omega

/-- The Crc of what a sum is that of, and of bytes behind it. -/
def more (s : Nat) (xs : List Nat) : Nat := 4294967295 - crcN (4294967295 - s) (bitAt xs) (8 * xs.length)
def crc (xs : List Nat) : Nat := more 0 xs
def fnv (xs : List Nat) : Nat := fnvN xs xs.length
theorem more_lt (s : Nat) (xs : List Nat) : more s xs < 4294967296 := by unfold more; omega
theorem crc_lt (xs : List Nat) : crc xs < 4294967296 := more_lt 0 xs
theorem fnv_lt (xs : List Nat) : fnv xs < 18446744073709551616 := fnvN_lt xs _
theorem join (xs : List Nat) (k : Nat) (hk : k ≤ xs.length) : more (crc (xs.take k)) (xs.drop k) = crc xs := by
  unfold crc more
  have h := crcN_lt (r := 4294967295) (f := bitAt (xs.take k)) (by decide) (fun i => bitAt_lt _ i) (8 * k)
  have e : (xs.take k).length = k := by simp [hk]
  have e2 : 4294967295 - (4294967295 - crcN (4294967295 - 0) (bitAt (xs.take k)) (8 * (xs.take k).length)) = crcN 4294967295 (bitAt (xs.take k)) (8 * k) := by
    rw [e]; show 4294967295 - (4294967295 - crcN 4294967295 _ _) = _; omega
  rw [e2, List.length_drop, crcN_join 4294967295 xs k hk]
theorem more_nil (s : Nat) (hs : s < 4294967296) : more s [] = s := by
  unfold more; show 4294967295 - (4294967295 - s) = s; omega
theorem crc_turned (xs : List Nat) (p k : Nat) (hp : p < xs.length) (hk : k < 8) : crc (xs.set p (xs.getD p 0 ^^^ 2 ^ k)) ≠ crc xs := by
  have h := crcN_turned 4294967295 (by decide) xs p k hp hk
  have h1 := crcN_lt (r := 4294967295) (f := bitAt xs) (by decide) (fun i => bitAt_lt _ i) (8 * xs.length)
  have h2 := crcN_lt (r := 4294967295) (f := bitAt (xs.set p (xs.getD p 0 ^^^ 2 ^ k))) (by decide) (fun i => bitAt_lt _ i) (8 * xs.length)
  unfold crc more
  rw [List.length_set]
  show 4294967295 - crcN 4294967295 _ _ ≠ 4294967295 - crcN 4294967295 _ _
  omega
theorem crc_nine : crc [49, 50, 51, 52, 53, 54, 55, 56, 57] = 3421780262 := by decide +kernel
theorem fnv_nil : fnv [] = 14695981039346656037 := rfl
end Go.Proofs.Ytgjdgmpjbpnjbaa.Sums
/-
  Marks and sectors as plain mathematics: a mark's half and its sector; what is read where a mark would stand; bytes in sectors, sectors as bytes. Conditions: a mark's numbers fit 64 bits.
-/
namespace Go.Proofs.Ytgjdgmpjbpnjbaa.FrameM
open Go.Proofs.Ytgjdgmpjbpnjbaa.Codec
set_option maxRecDepth 100000
set_option maxRecDepth 100000

structure Mk where
  kind : Int
  gen : Int
  seq : Int
  n : Int
def Mk.right (m : Mk) : Bool := decide (1 ≤ m.kind) && decide (m.kind ≤ 255) && decide (0 ≤ m.gen) && decide (0 ≤ m.seq) && decide (0 ≤ m.n)
def in64 (n : Int) : Prop := -9223372036854775808 ≤ n ∧ n ≤ 9223372036854775807
structure Mk.fits (m : Mk) : Prop where
  kind : in64 m.kind
  gen : in64 m.gen
  seq : in64 m.seq
  n : in64 m.n
def Mk.eq (m o : Mk) : Bool := (m.kind == o.kind) && (m.gen == o.gen) && (m.seq == o.seq) && (m.n == o.n)
theorem Mk.eq_iff {m o : Mk} : m.eq o = true ↔ m = o := by
  cases m
  cases o
  simp [Mk.eq, and_assoc]
def zeroM : Mk := ⟨0, 0, 0, 0⟩
theorem right_iff {m : Mk} : m.right = true ↔ 1 ≤ m.kind ∧ m.kind ≤ 255 ∧ 0 ≤ m.gen ∧ 0 ≤ m.seq ∧ 0 ≤ m.n := by simp [Mk.right, and_assoc]

def nats (xs : List UInt8) : List Nat := xs.map UInt8.toNat
/-- A half without its sum; the sum; the half; the sector. -/
def body (m : Mk) : List UInt8 := encSmall 19796 ++ (encSmall m.kind ++ (encNum m.gen ++ (encNum m.seq ++ encNum m.n)))
def crcOf (xs : List UInt8) : Nat := Sums.crc (nats xs)
def half (m : Mk) : List UInt8 := body m ++ (encSmall (crcOf (body m) % 65536 : Nat) ++ encSmall (crcOf (body m) / 65536 : Nat))
def put (m : Mk) : List UInt8 := if m.right then half m ++ half m else []
theorem crcOf_lt (xs : List UInt8) : crcOf xs < 4294967296 := Sums.crc_lt _
theorem body_length (m : Mk) : (body m).length = 28 := by simp [body, encSmall_length, encNum_length]
theorem half_length (m : Mk) : (half m).length = 32 := by simp [half, body_length, encSmall_length]
theorem put_right {m : Mk} (h : m.right = true) : put m = half m ++ half m := by simp [put, h]
theorem put_wrong {m : Mk} (h : m.right = false) : put m = [] := by simp [put, h]
theorem put_length {m : Mk} (h : m.right = true) : (put m).length = 64 := by simp [put_right h, half_length]
/-- The sum's four bytes. -/
theorem encSmall_nat (n : Nat) (h : n < 65536) : encSmall (n : Int) = le 2 n := by
  unfold encSmall clip
  rw [show (min (max (n : Int) 0) 65535).toNat = n by omega]
theorem sum_bytes (s : Nat) (h : s < 4294967296) : encSmall (s % 65536 : Nat) ++ encSmall (s / 65536 : Nat) = le 4 s := by
  rw [encSmall_nat _ (by omega), encSmall_nat _ (by omega)]
  simp only [le, List.cons_append, List.nil_append]
  rw [show s % 65536 % 256 = s % 256 by omega, show s % 65536 / 256 % 256 = s / 256 % 256 by omega, show s / 65536 % 256 = s / 256 / 256 % 256 by omega, show s / 65536 / 256 % 256 = s / 256 / 256 / 256 % 256 by omega]
theorem letters_bytes : encSmall 19796 = [84, 77] := by decide

/-- What stands where a mark would. -/
def readFrom (s : St) : Mk := ⟨small s, num (tkS 2 s), num (tkS 8 (tkS 2 s)), num (tkS 8 (tkS 8 (tkS 2 s)))⟩
def readM (xs : List UInt8) : Mk := readFrom (tkS 2 ⟨xs.take 32, false⟩)
theorem readM_ref (xs : List UInt8) (h : xs.length = 64) : readM xs = readFrom ⟨(xs.drop 2).take 30, false⟩ := by
  unfold readM
  have : short 2 ⟨xs.take 32, false⟩ = false := by simp [short]; omega
  rw [tkS, this]
  simp [List.drop_take]
theorem readM_fits (xs : List UInt8) : (readM xs).fits := by
  have hn : ∀ s : St, in64 (num s) := fun s => by
    refine signed_bound _ ?_
    have h := leVal_lt (tk 8 s)
    have h2 : 256 ^ (tk 8 s).length ≤ 256 ^ 8 := Nat.pow_le_pow_right (by decide) (by unfold tk; split <;> simp; omega)
    omega
  refine ⟨?_, hn _, hn _, hn _⟩
  have := small_lt (tkS 2 ⟨xs.take 32, false⟩)
  exact ⟨by show _ ≤ ((small _ : Nat) : Int); omega, by show ((small _ : Nat) : Int) ≤ _; omega⟩
theorem small_enc (n : Int) (r : List UInt8) (h : 0 ≤ n ∧ n ≤ 65535) : ((small ⟨encSmall n ++ r, false⟩ : Nat) : Int) = n ∧ tkS 2 ⟨encSmall n ++ r, false⟩ = ⟨r, false⟩ := by
  have e : encSmall n = le 2 n.toNat := by
    unfold encSmall clip
    rw [show (min (max n 0) 65535).toNat = n.toNat by omega]
  have := small_back n.toNat r (by omega)
  rw [e]
  exact ⟨by rw [this.1]; omega, this.2⟩
theorem readM_half {m : Mk} (h : m.right = true) (hf : m.fits) (ys : List UInt8) : readM (half m ++ ys) = m := by
  obtain ⟨h1, h2, h3, h4, h5⟩ := right_iff.1 h
  have e : (half m ++ ys).take 32 = half m := by rw [List.take_append_of_le_length (by rw [half_length]; omega), List.take_of_length_le (by rw [half_length]; omega)]
  unfold readM
  rw [e]
  unfold half body
  simp only [List.append_assoc]
  rw [(small_enc 19796 _ (by omega)).2]
  unfold readFrom
  have k1 := small_enc m.kind (encNum m.gen ++ (encNum m.seq ++ (encNum m.n ++ (encSmall (crcOf (body m) % 65536 : Nat) ++ encSmall (crcOf (body m) / 65536 : Nat))))) (by omega)
  have k2 := num_back m.gen (encNum m.seq ++ (encNum m.n ++ (encSmall (crcOf (body m) % 65536 : Nat) ++ encSmall (crcOf (body m) / 65536 : Nat)))) hf.gen
  have k3 := num_back m.seq (encNum m.n ++ (encSmall (crcOf (body m) % 65536 : Nat) ++ encSmall (crcOf (body m) / 65536 : Nat))) hf.seq
  have k4 := num_back m.n (encSmall (crcOf (body m) % 65536 : Nat) ++ encSmall (crcOf (body m) / 65536 : Nat)) hf.n
  simp only [body] at k1 k2 k3 k4
  rw [k1.2, k2.2, k3.2, k1.1, k2.1, k3.1, k4.1]

/-- Are these bytes a mark's sector; whose. -/
def isM (xs : List UInt8) : Bool := decide (put (readM xs) = xs)
def getB (xs : List UInt8) : Bool := decide (xs.length = 64) && isM xs
def getM (xs : List UInt8) : Mk := if getB xs then readM xs else zeroM
theorem getB_put {m : Mk} (h : m.right = true) (hf : m.fits) : getB (put m) = true ∧ getM (put m) = m := by
  have hr : readM (put m) = m := by rw [put_right h]; exact readM_half h hf _
  have : getB (put m) = true := by simp [getB, isM, put_length h, hr]
  exact ⟨this, by simp [getM, this, hr]⟩
theorem half_inj {m o : Mk} (h : m.right = true) (hf : m.fits) (h' : o.right = true) (hf' : o.fits) (e : half m = half o) : m = o := by
  have h1 := readM_half h hf []
  have h2 := readM_half h' hf' []
  rw [e, h2] at h1
  exact h1.symm
/-- A torn sector. -/
theorem torn {m o : Mk} (h : m.right = true) (hf : m.fits) (h' : o.right = true) (hf' : o.fits) : getB (half m ++ half o) = m.eq o ∧ (m.eq o = true → getM (half m ++ half o) = m) := by
  have hr := readM_half h hf (half o)
  have key : getB (half m ++ half o) = m.eq o := by
    rw [Bool.eq_iff_iff, Mk.eq_iff]
    simp only [getB, isM, hr, put_right h, List.length_append, half_length, decide_true, Bool.true_and, decide_eq_true_eq, List.append_cancel_left_eq]
    exact ⟨half_inj h hf h' hf', fun e => by rw [e]⟩
  exact ⟨key, fun e => by rw [getM, key, e, if_pos rfl, hr]⟩
def zeros (n : Nat) : List UInt8 := List.replicate n 0
theorem zeros_length (n : Nat) : (zeros n).length = n := List.length_replicate
theorem half_ne_zeros (m : Mk) : half m ≠ zeros 32 := by
  intro e
  have := congrArg (fun l : List UInt8 => l[0]?) e
  simp [half, body, letters_bytes, zeros] at this
theorem torn_behind {m : Mk} (h : m.right = true) (hf : m.fits) : getB (half m ++ zeros 32) = false := by
  have hr := readM_half h hf (zeros 32)
  simp only [getB, isM, hr, put_right h, List.append_cancel_left_eq, half_ne_zeros, decide_false, Bool.and_false]
theorem torn_ahead (ys : List UInt8) : getB (zeros 32 ++ ys) = false := by
  have e : (zeros 32 ++ ys).take 32 = zeros 32 := by rw [List.take_append_of_le_length (by rw [zeros_length]; omega), List.take_of_length_le (by rw [zeros_length]; omega)]
  have hk : (readM (zeros 32 ++ ys)).kind = 0 := by
    unfold readM
    rw [e]
    decide
  have hw : (readM (zeros 32 ++ ys)).right = false := by
    cases hb : (readM (zeros 32 ++ ys)).right with
    | false => rfl
    | true => have := (right_iff.1 hb).1; omega
  have hne : ¬ [] = zeros 32 ++ ys := by simp [zeros]
  simp [getB, isM, put_wrong hw, hne]
theorem getM_no {xs : List UInt8} (h : getB xs = false) : getM xs = zeroM := by simp [getM, h]
theorem getM_yes {xs : List UInt8} (h : getB xs = true) : getM xs = readM xs := by simp [getM, h]

/-! ### Bytes in sectors -/
def need (n : Nat) : Nat := (n + 63) / 64
def needI (n : Int) : Int := if n ≤ 0 then 0 else (n - 1) / 64 + 1
theorem needI_nat (n : Nat) : needI (n : Int) = (need n : Int) := by
  unfold needI need
  split <;> omega
def pad (ys : List UInt8) : List UInt8 := ys ++ zeros (64 - ys.length)
def piece (xs : List UInt8) (i : Nat) : List UInt8 := (xs.drop (64 * i)).take 64
def sec (xs : List UInt8) (i : Nat) : List UInt8 := pad (piece xs i)
def pack (xs : List UInt8) : List (List UInt8) := (List.range (need xs.length)).map (sec xs)
theorem piece_length (xs : List UInt8) (i : Nat) : (piece xs i).length = min 64 (xs.length - 64 * i) := by simp [piece]
theorem sec_length (xs : List UInt8) (i : Nat) : (sec xs i).length = 64 := by
  have := piece_length xs i
  simp only [sec, pad, List.length_append, zeros_length]
  omega
theorem pack_length (xs : List UInt8) : (pack xs).length = need xs.length := by simp [pack]
theorem pack_all (xs : List UInt8) : ∀ s ∈ pack xs, s.length = 64 := by
  intro s hs
  obtain ⟨i, _, rfl⟩ := List.mem_map.1 hs
  exact sec_length xs i
theorem sec_of (xs : List UInt8) (i : Nat) (h : i < need xs.length) : sec xs i = piece (xs ++ zeros (64 * need xs.length - xs.length)) i := by
  unfold sec pad piece zeros
  unfold need at h ⊢
  rw [List.drop_append, List.take_append, List.length_take, List.length_drop, List.drop_replicate, List.take_replicate]
  congr 2
  omega
theorem take_pieces (zs : List UInt8) (k : Nat) : ((List.range k).map (piece zs)).flatten = zs.take (64 * k) := by
  induction k with
  | zero => simp
  | succ k ih =>
    rw [List.range_succ, List.map_append, List.flatten_append, ih]
    simp only [List.map_cons, List.map_nil, List.flatten_cons, List.flatten_nil, List.append_nil]
    rw [Nat.mul_add, Nat.mul_one, List.take_add]
    rfl
theorem pack_flatten (xs : List UInt8) : (pack xs).flatten = xs ++ zeros (64 * need xs.length - xs.length) := by
  have e : pack xs = (List.range (need xs.length)).map (piece (xs ++ zeros (64 * need xs.length - xs.length))) := by
    refine List.map_congr_left fun i hi => sec_of xs i (by simpa using hi)
  rw [e, take_pieces, List.take_of_length_le]
  rw [List.length_append, zeros_length]
  unfold need
  omega
/-- Sectors as bytes. -/
def unpackB (ls : List (List UInt8)) (n : Int) : Bool :=
  decide (0 ≤ n ∧ n ≤ 1048576 ∧ (ls.length : Int) = needI n) && (ls.all (fun s => decide (s.length = 64)) && (ls.flatten.drop n.toNat).all (fun x => decide (x = 0)))
def unpack (ls : List (List UInt8)) (n : Int) : List UInt8 := if unpackB ls n then ls.flatten.take n.toNat else []
theorem flatten_length (ls : List (List UInt8)) (h : ∀ s ∈ ls, s.length = 64) : ls.flatten.length = 64 * ls.length := by
  induction ls with
  | nil => rfl
  | cons a r ih =>
    have h1 := h a (by simp)
    have h2 := ih (fun s hs => h s (by simp [hs]))
    simp only [List.flatten_cons, List.length_append, List.length_cons]
    omega
theorem unpack_pack (xs : List UInt8) (h : xs.length ≤ 1048576) : unpackB (pack xs) xs.length = true ∧ unpack (pack xs) xs.length = xs := by
  have hb : unpackB (pack xs) xs.length = true := by
    unfold unpackB
    rw [needI_nat, pack_length, pack_flatten]
    simp only [Bool.and_eq_true, decide_eq_true_eq, List.all_eq_true, Int.toNat_natCast, List.drop_left]
    exact ⟨⟨by omega, by omega, trivial⟩, pack_all xs, fun x hx => (List.mem_replicate.1 hx).2⟩
  refine ⟨hb, ?_⟩
  rw [unpack, hb, if_pos rfl, pack_flatten]
  simp
theorem unpack_no {ls : List (List UInt8)} {n : Int} (h : unpackB ls n = false) : unpack ls n = [] := by simp [unpack, h]
theorem unpack_yes {ls : List (List UInt8)} {n : Int} (h : unpackB ls n = true) : unpack ls n = ls.flatten.take n.toNat := by simp [unpack, h]
end Go.Proofs.Ytgjdgmpjbpnjbaa.FrameM
/-
  A journal on a disk, as plain mathematics: writes one behind the other, sectors kept, marks, heads, groups in a half, what Open, Append and Reset make of a disk. No program; no condition.
-/
namespace Go.Proofs.Ytgjdgmpjbpnjbaa.JourM
open Disk FrameM Codec
set_option maxRecDepth 100000
def nul64 : List UInt8 := List.replicate 64 0
theorem nul64_length : nul64.length = 64 := rfl
/-- Is the next deed done? What a Write, a Sync make of a disk. -/
def go (d : Dsk) : Bool := !d.off && d.done
def wr (d : Dsk) (i : Nat) (s : List UInt8) : Dsk := if d.off then d else if d.done then d.deed.put i s else d.deed
def sy (d : Dsk) : Dsk := if d.off then d else if d.done then d.deed.synced else d.deed
theorem wr_n (d : Dsk) (i : Nat) (s : List UInt8) : (wr d i s).n = d.n := by
  unfold wr
  split
  · rfl
  · split
    · exact d.deed_parts.1
    · exact d.deed_parts.1
theorem sy_n (d : Dsk) : (sy d).n = d.n := by
  unfold sy
  split
  · rfl
  · split
    · exact d.deed_parts.1
    · exact d.deed_parts.1
/-- Sectors written one behind the other, till one is not. -/
def wrsB (d : Dsk) (i : Nat) : List (List UInt8) → Bool
  | [] => true
  | s :: l => go d && wrsB (wr d i s) (i + 1) l
def wrsD (d : Dsk) (i : Nat) : List (List UInt8) → Dsk
  | [] => d
  | s :: l => if go d then wrsD (wr d i s) (i + 1) l else wr d i s
theorem wrsB_cons (d : Dsk) (i : Nat) (s : List UInt8) (l : List (List UInt8)) : wrsB d i (s :: l) = (go d && wrsB (wr d i s) (i + 1) l) := rfl
theorem wrsD_cons (d : Dsk) (i : Nat) (s : List UInt8) (l : List (List UInt8)) : wrsD d i (s :: l) = if go d then wrsD (wr d i s) (i + 1) l else wr d i s := rfl
theorem wrsD_n (d : Dsk) (i : Nat) (l : List (List UInt8)) : (wrsD d i l).n = d.n := by
  induction l generalizing d i with
  | nil => rfl
  | cons s l ih =>
    unfold wrsD
    split
    · rw [ih, wr_n]
    · exact wr_n d i s
theorem wrsB_app (d : Dsk) (i : Nat) (a b : List (List UInt8)) : wrsB d i (a ++ b) = (wrsB d i a && wrsB (wrsD d i a) (i + a.length) b) := by
  induction a generalizing d i with
  | nil => simp [wrsB, wrsD]
  | cons s a ih =>
    rw [List.cons_append, wrsB_cons, wrsB_cons, wrsD_cons, ih, List.length_cons, show i + 1 + a.length = i + (a.length + 1) by omega]
    rcases Bool.eq_false_or_eq_true (go d) with hg | hg <;> simp [hg]
theorem wrsD_app (d : Dsk) (i : Nat) (a b : List (List UInt8)) : wrsD d i (a ++ b) = if wrsB d i a then wrsD (wrsD d i a) (i + a.length) b else wrsD d i a := by
  induction a generalizing d i with
  | nil => simp [wrsB, wrsD]
  | cons s a ih =>
    rw [List.cons_append, wrsB_cons, wrsD_cons, wrsD_cons, ih, List.length_cons, show i + 1 + a.length = i + (a.length + 1) by omega]
    rcases Bool.eq_false_or_eq_true (go d) with hg | hg <;> simp [hg]
/-- Sectors written, and synced. -/
def keepB (d : Dsk) (i : Nat) (l : List (List UInt8)) : Bool := wrsB d i l && go (wrsD d i l)
def keepD (d : Dsk) (i : Nat) (l : List (List UInt8)) : Dsk := if wrsB d i l then sy (wrsD d i l) else wrsD d i l
theorem keepD_n (d : Dsk) (i : Nat) (l : List (List UInt8)) : (keepD d i l).n = d.n := by
  unfold keepD
  split
  · rw [sy_n, wrsD_n]
  · rw [wrsD_n]
theorem keepB_nil (d : Dsk) (i : Nat) : keepB d i [] = go d := by simp [keepB, wrsB, wrsD]
theorem keepD_nil (d : Dsk) (i : Nat) : keepD d i [] = sy d := by simp [keepD, wrsB, wrsD]
theorem keepB_cons (d : Dsk) (i : Nat) (s : List UInt8) (l : List (List UInt8)) : keepB d i (s :: l) = (go d && keepB (wr d i s) (i + 1) l) := by
  unfold keepB
  rw [wrsB_cons, wrsD_cons]
  rcases Bool.eq_false_or_eq_true (go d) with hg | hg <;> simp [hg]
theorem keepD_cons (d : Dsk) (i : Nat) (s : List UInt8) (l : List (List UInt8)) : keepD d i (s :: l) = if go d then keepD (wr d i s) (i + 1) l else wr d i s := by
  unfold keepD
  rw [wrsB_cons, wrsD_cons]
  rcases Bool.eq_false_or_eq_true (go d) with hg | hg <;> simp [hg]

/-! ### Places, marks, groups -/
def room (n : Nat) : Nat := (n - 2) / 2
def secAt (n gen pos : Nat) : Nat := 2 + (gen % 2) * room n + pos
def headM (g : Nat) : Mk := ⟨1, g, 0, 0⟩
def markM (gen seq : Nat) (b : List UInt8) : Mk := ⟨2, gen, seq, (b.length : Int) * 4294967296 + (crcOf b : Nat)⟩
def takes1 (b : List UInt8) : Nat := 1 + need b.length
def takes : List (List UInt8) → Nat
  | [] => 0
  | b :: l => takes1 b + takes l
theorem takes_app (a b : List (List UInt8)) : takes (a ++ b) = takes a + takes b := by
  induction a with
  | nil => simp [takes]
  | cons x a ih => simp only [List.cons_append, takes, ih]; omega
theorem takes_one (b : List UInt8) : takes [b] = takes1 b := by simp [takes]
theorem takes_snoc (a : List (List UInt8)) (b : List UInt8) : takes (a ++ [b]) = takes a + takes1 b := by rw [takes_app, takes_one]
/-- What is read of a disk whose power is on. -/
def rd (d : Dsk) (i : Nat) : List UInt8 := if i < d.n then d.read i else []
/-- The generation of the head in a sector; 0: none. -/
def headB (f : Nat → List UInt8) (i : Nat) : Bool := (getM (f i)).eq (headM (getM (f i)).gen.toNat) && decide ((getM (f i)).gen.toNat % 2 = i)
def headIn (f : Nat → List UInt8) (i : Nat) : Nat := if headB f i then (getM (f i)).gen.toNat else 0
def newest (f : Nat → List UInt8) : Nat := max (headIn f 0) (headIn f 1)
def gLen (f : Nat → List UInt8) (n gen pos : Nat) : Nat := ((getM (f (secAt n gen pos))).n / 4294967296).toNat
def gRows (f : Nat → List UInt8) (n gen pos k : Nat) : List (List UInt8) := (List.range k).map fun i => f (secAt n gen (pos + 1 + i))
def gSecs (f : Nat → List UInt8) (n gen pos : Nat) : List (List UInt8) := gRows f n gen pos (need (gLen f n gen pos))
def gFit (f : Nat → List UInt8) (n gen pos : Nat) : Bool := getB (f (secAt n gen pos)) && decide (need (gLen f n gen pos) + pos < room n)
def gX (f : Nat → List UInt8) (n gen pos : Nat) : List UInt8 := unpack (gSecs f n gen pos) (gLen f n gen pos)
def gUn (f : Nat → List UInt8) (n gen pos : Nat) : Bool := unpackB (gSecs f n gen pos) (gLen f n gen pos)
def gMk (f : Nat → List UInt8) (n gen pos seq : Nat) : Bool := (getM (f (secAt n gen pos))).eq (markM gen seq (gX f n gen pos))
def gB (f : Nat → List UInt8) (n gen pos seq : Nat) : Bool := gFit f n gen pos && (gUn f n gen pos && gMk f n gen pos seq)
/-- The groups from a place on: at most so many. -/
def groupsF (f : Nat → List UInt8) (n gen : Nat) : Nat → Nat → Nat → List (List UInt8)
  | 0, _, _ => []
  | fuel + 1, pos, seq => if gB f n gen pos seq then gX f n gen pos :: groupsF f n gen fuel (pos + takes1 (gX f n gen pos)) (seq + 1) else []
def groups (f : Nat → List UInt8) (n gen : Nat) : List (List UInt8) := groupsF f n gen (room n + 1) 0 0
theorem gX_length {f : Nat → List UInt8} {n gen pos : Nat} (h : gUn f n gen pos = true) : (gX f n gen pos).length = gLen f n gen pos := by
  unfold gX
  unfold gUn at h
  rw [unpack_yes h]
  simp only [unpackB, Bool.and_eq_true, decide_eq_true_eq, List.all_eq_true] at h
  obtain ⟨⟨h1, h2, h3⟩, h4, h5⟩ := h
  have hl := flatten_length _ h4
  rw [needI_nat] at h3
  rw [List.length_take, Int.toNat_natCast, hl]
  unfold need at h3
  omega
theorem gB_room {f : Nat → List UInt8} {n gen pos seq : Nat} (h : gB f n gen pos seq = true) : pos + takes1 (gX f n gen pos) ≤ room n := by
  simp only [gB, gFit, Bool.and_eq_true, decide_eq_true_eq] at h
  unfold takes1
  rw [gX_length h.2.1]
  omega
theorem groupsF_takes (f : Nat → List UInt8) (n gen : Nat) : ∀ fuel pos seq, pos ≤ room n → pos + takes (groupsF f n gen fuel pos seq) ≤ room n
  | 0, pos, seq, h => by simpa [groupsF, takes] using h
  | fuel + 1, pos, seq, h => by
    unfold groupsF
    cases hg : gB f n gen pos seq with
    | false => simpa [takes] using h
    | true =>
      have := groupsF_takes f n gen fuel (pos + takes1 (gX f n gen pos)) (seq + 1) (gB_room hg)
      simp only [if_true, takes]
      omega
theorem takes_length (l : List (List UInt8)) : l.length ≤ takes l := by
  induction l with
  | nil => simp [takes]
  | cons b l ih => simp only [takes, takes1, List.length_cons]; omega
/-- More fuel than room tells no more. -/
theorem groupsF_fuel (f : Nat → List UInt8) (n gen : Nat) : ∀ fuel fuel' pos seq, room n < fuel + pos → room n < fuel' + pos → pos ≤ room n → groupsF f n gen fuel pos seq = groupsF f n gen fuel' pos seq
  | 0, _, pos, _, h, _, h3 => by omega
  | _ + 1, 0, pos, _, _, h, h3 => by omega
  | fuel + 1, fuel' + 1, pos, seq, h, h', h3 => by
    unfold groupsF
    cases hg : gB f n gen pos seq with
    | false => rfl
    | true =>
      have := gB_room hg
      have ht : 1 ≤ takes1 (gX f n gen pos) := by unfold takes1; omega
      simp only [if_true]
      rw [groupsF_fuel f n gen fuel fuel' _ _ (by omega) (by omega) this]
def laid (gen seq : Nat) (b : List UInt8) : List (List UInt8) := put (markM gen seq b) :: pack b
def laidAll (gen : Nat) : Nat → List (List UInt8) → List (List UInt8)
  | _, [] => []
  | seq, b :: l => laid gen seq b ++ laidAll gen (seq + 1) l
theorem laidAll_cons (gen seq : Nat) (b : List UInt8) (l : List (List UInt8)) : laidAll gen seq (b :: l) = laid gen seq b ++ laidAll gen (seq + 1) l := rfl
def endL (n pos : Nat) : List (List UInt8) := if pos < room n then [nul64] else []
theorem laid_length (gen seq : Nat) (b : List UInt8) : (laid gen seq b).length = takes1 b := by simp [laid, pack_length, takes1]; omega
theorem laidAll_length (gen : Nat) : ∀ seq l, (laidAll gen seq l).length = takes l
  | _, [] => rfl
  | seq, b :: l => by simp [laidAll, takes, laid_length, laidAll_length gen (seq + 1) l]
theorem laidAll_app (gen : Nat) : ∀ seq a b, laidAll gen seq (a ++ b) = laidAll gen seq a ++ laidAll gen (seq + a.length) b
  | seq, [], b => by simp [laidAll]
  | seq, x :: a, b => by
    simp only [List.cons_append, laidAll, List.length_cons, List.append_assoc]
    rw [laidAll_app gen (seq + 1) a b, show seq + 1 + a.length = seq + (a.length + 1) by omega]
def beginL (n gen : Nat) (l : List (List UInt8)) : List (List UInt8) := laidAll gen 0 l ++ endL n (takes l)
def beginB (d : Dsk) (gen : Nat) (l : List (List UInt8)) : Bool :=
  keepB d (secAt d.n gen 0) (beginL d.n gen l) && keepB (keepD d (secAt d.n gen 0) (beginL d.n gen l)) (gen % 2) [put (headM gen)]
def beginD (d : Dsk) (gen : Nat) (l : List (List UInt8)) : Dsk :=
  if keepB d (secAt d.n gen 0) (beginL d.n gen l) then keepD (keepD d (secAt d.n gen 0) (beginL d.n gen l)) (gen % 2) [put (headM gen)] else keepD d (secAt d.n gen 0) (beginL d.n gen l)
def extL (n pos : Nat) (b : List UInt8) : List (List UInt8) := pack b ++ endL n (pos + takes1 b)
def extB (d : Dsk) (gen pos seq : Nat) (b : List UInt8) : Bool :=
  keepB d (secAt d.n gen (pos + 1)) (extL d.n pos b) && keepB (keepD d (secAt d.n gen (pos + 1)) (extL d.n pos b)) (secAt d.n gen pos) [put (markM gen seq b)]
def extD (d : Dsk) (gen pos seq : Nat) (b : List UInt8) : Dsk :=
  if keepB d (secAt d.n gen (pos + 1)) (extL d.n pos b) then keepD (keepD d (secAt d.n gen (pos + 1)) (extL d.n pos b)) (secAt d.n gen pos) [put (markM gen seq b)] else keepD d (secAt d.n gen (pos + 1)) (extL d.n pos b)
theorem beginD_n (d : Dsk) (gen : Nat) (l : List (List UInt8)) : (beginD d gen l).n = d.n := by
  unfold beginD
  split
  · rw [keepD_n, keepD_n]
  · rw [keepD_n]
theorem extD_n (d : Dsk) (gen pos seq : Nat) (b : List UInt8) : (extD d gen pos seq b).n = d.n := by
  unfold extD
  split
  · rw [keepD_n, keepD_n]
  · rw [keepD_n]

/-! ### The journal -/
structure Jr where
  gen : Nat
  gs : List (List UInt8)
  down : Bool
/-- Open, of a disk of at least 8 sectors whose power is on. -/
def openB (d : Dsk) : Bool := if newest (rd d) = 0 then beginB d 1 [] else true
def openD (d : Dsk) : Dsk := if newest (rd d) = 0 then beginD d 1 [] else d
def openG (d : Dsk) : Nat := if newest (rd d) = 0 then 1 else newest (rd d)
def openJ (d : Dsk) : Jr := ⟨openG d, groups (rd (openD d)) d.n (openG d), false⟩
theorem openD_n (d : Dsk) : (openD d).n = d.n := by
  unfold openD
  split
  · exact beginD_n d 1 []
  · rfl
/-- Append. -/
def appE (d : Dsk) (j : Jr) (b : List UInt8) : Int :=
  if j.down then 3 else if 1048576 < b.length then 1 else if room d.n < takes1 b + takes j.gs then 2 else if extB d j.gen (takes j.gs) j.gs.length b then 0 else 3
def appDo (d : Dsk) (j : Jr) (b : List UInt8) : Bool := !j.down && (decide (b.length ≤ 1048576) && decide (takes1 b + takes j.gs ≤ room d.n))
def appD (d : Dsk) (j : Jr) (b : List UInt8) : Dsk := if appDo d j b then extD d j.gen (takes j.gs) j.gs.length b else d
def appJ (d : Dsk) (j : Jr) (b : List UInt8) : Jr := if appDo d j b then (if extB d j.gen (takes j.gs) j.gs.length b then { j with gs := j.gs ++ [b] } else { j with down := true }) else j
/-- Reset. -/
def anyLong (l : List (List UInt8)) : Bool := l.any fun b => decide (1048576 < b.length)
def rstE (d : Dsk) (j : Jr) (l : List (List UInt8)) : Int :=
  if j.down then 3 else if anyLong l then 1 else if room d.n < takes l then 2 else if beginB d (j.gen + 1) l then 0 else 3
def rstDo (d : Dsk) (j : Jr) (l : List (List UInt8)) : Bool := !j.down && (!anyLong l && decide (takes l ≤ room d.n))
def rstD (d : Dsk) (j : Jr) (l : List (List UInt8)) : Dsk := if rstDo d j l then beginD d (j.gen + 1) l else d
def rstJ (d : Dsk) (j : Jr) (l : List (List UInt8)) : Jr := if rstDo d j l then (if beginB d (j.gen + 1) l then ⟨j.gen + 1, l, false⟩ else { j with down := true }) else j
end Go.Proofs.Ytgjdgmpjbpnjbaa.JourM
/-
  What a crash leaves of a journal, as plain mathematics: the groups that are there, behind an Append or a Reset that was on its way. No program.
-/
namespace Go.Proofs.Ytgjdgmpjbpnjbaa.JourM
open Disk FrameM Codec
set_option maxRecDepth 100000

/-! ### Writes -/
theorem go_on {d : Dsk} (h : go d = true) : d.off = false ∧ d.done = true := by
  unfold go at h
  cases ho : d.off <;> simp_all
theorem wr_go {d : Dsk} (h : go d = true) (i : Nat) (s : List UInt8) : wr d i s = d.deed.put i s := by
  obtain ⟨h1, h2⟩ := go_on h
  unfold wr
  rw [h1, h2]
  rfl
theorem wr_off {d : Dsk} (h : go d = false) (i : Nat) (s : List UInt8) : (wr d i s).off = true ∧ (wr d i s).safe = d.safe ∧ (wr d i s).waits = d.waits := by
  unfold wr
  cases ho : d.off with
  | true => exact ⟨ho, rfl, rfl⟩
  | false =>
    have hd : d.done = false := by simpa [go, ho] using h
    rw [hd]
    refine ⟨?_, d.deed_parts.2.1, d.deed_parts.2.2⟩
    have := Dsk.deed_on ho
    rw [hd] at this
    exact this
theorem sy_go {d : Dsk} (h : go d = true) : sy d = d.deed.synced := by
  obtain ⟨h1, h2⟩ := go_on h
  unfold sy
  rw [h1, h2]
  rfl
theorem sy_off {d : Dsk} (h : go d = false) : (sy d).off = true ∧ (sy d).safe = d.safe ∧ (sy d).waits = d.waits := by
  unfold sy
  cases ho : d.off with
  | true => exact ⟨ho, rfl, rfl⟩
  | false =>
    have hd : d.done = false := by simpa [go, ho] using h
    rw [hd]
    refine ⟨?_, d.deed_parts.2.1, d.deed_parts.2.2⟩
    have := Dsk.deed_on ho
    rw [hd] at this
    exact this
theorem deed_go {d : Dsk} (h : go d = true) : d.deed.off = false := by
  obtain ⟨h1, h2⟩ := go_on h
  rw [Dsk.deed_on h1, h2]
  rfl
theorem wr_ok {d : Dsk} (h : d.ok) {i : Nat} (hi : i < d.n) {s : List UInt8} (hs : s.length = 64) : (wr d i s).ok := by
  unfold wr
  split
  · exact h
  · rename_i ho
    have ho : d.off = false := by simpa using ho
    split
    · exact Dsk.put_ok (Dsk.deed_ok h ho) (by rw [d.deed_parts.1]; exact hi) hs
    · exact Dsk.deed_ok h ho
theorem sy_ok {d : Dsk} (h : d.ok) : (sy d).ok := by
  unfold sy
  split
  · exact h
  · rename_i ho
    have ho : d.off = false := by simpa using ho
    split
    · exact Dsk.synced_ok (Dsk.deed_ok h ho)
    · exact Dsk.deed_ok h ho
theorem wrsD_ok {d : Dsk} (h : d.ok) {i : Nat} {l : List (List UInt8)} (hi : i + l.length ≤ d.n) (hl : ∀ s ∈ l, s.length = 64) : (wrsD d i l).ok := by
  induction l generalizing d i with
  | nil => exact h
  | cons s l ih =>
    have hs := hl s (by simp)
    simp only [List.length_cons] at hi
    have h1 := wr_ok h (i := i) (by omega) hs
    unfold wrsD
    split
    · exact ih h1 (by rw [wr_n]; omega) (fun t ht => hl t (by simp [ht]))
    · exact h1
theorem keepD_ok {d : Dsk} (h : d.ok) {i : Nat} {l : List (List UInt8)} (hi : i + l.length ≤ d.n) (hl : ∀ s ∈ l, s.length = 64) : (keepD d i l).ok := by
  unfold keepD
  split
  · exact sy_ok (wrsD_ok h hi hl)
  · exact wrsD_ok h hi hl
/-- What waits behind writes, what is safe. -/
theorem wrsD_safe (d : Dsk) (i : Nat) (l : List (List UInt8)) : (wrsD d i l).safe = d.safe := by
  induction l generalizing d i with
  | nil => rfl
  | cons s l ih =>
    unfold wrsD
    cases hg : go d with
    | true =>
      rw [if_pos rfl, ih, wr_go hg]
      exact d.deed_parts.2.1
    | false => exact (wr_off hg i s).2.1
theorem wrsD_out (d : Dsk) (i : Nat) (l : List (List UInt8)) (k : Nat) (hk : k < i ∨ i + l.length ≤ k) : (wrsD d i l).waits k = d.waits k := by
  induction l generalizing d i with
  | nil => rfl
  | cons s l ih =>
    simp only [List.length_cons] at hk
    unfold wrsD
    cases hg : go d with
    | true =>
      rw [if_pos rfl, ih (wr d i s) (i + 1) (by omega), wr_go hg]
      show upd d.deed.waits i (some s) k = _
      rw [upd_other _ _ (by omega), d.deed_parts.2.2]
    | false => exact congrFun (wr_off hg i s).2.2 k
theorem wrsD_in (d : Dsk) (i : Nat) (l : List (List UInt8)) (k : Nat) : (wrsD d i l).waits k = d.waits k ∨ ∃ j, j < l.length ∧ k = i + j ∧ (wrsD d i l).waits k = some (l.getD j []) := by
  induction l generalizing d i with
  | nil => exact .inl rfl
  | cons s l ih =>
    unfold wrsD
    cases hg : go d with
    | true =>
      rw [if_pos rfl]
      rcases ih (wr d i s) (i + 1) with h | ⟨j, h1, h2, h3⟩
      · rw [h, wr_go hg]
        show upd d.deed.waits i (some s) k = _ ∨ _
        by_cases hk : k = i
        · subst hk
          rw [upd_same]
          exact .inr ⟨0, by simp, rfl, upd_same _ _ _⟩
        · rw [upd_other _ _ hk, d.deed_parts.2.2]
          exact .inl rfl
      · exact .inr ⟨j + 1, by simp; omega, by omega, by rw [h3]; rfl⟩
    | false => exact .inl (congrFun (wr_off hg i s).2.2 k)
theorem wrsD_all {d : Dsk} {i : Nat} {l : List (List UInt8)} (h : wrsB d i l = true) (j : Nat) (hj : j < l.length) : (wrsD d i l).waits (i + j) = some (l.getD j []) := by
  induction l generalizing d i j with
  | nil => simp at hj
  | cons s l ih =>
    simp only [wrsB, Bool.and_eq_true] at h
    unfold wrsD
    rw [h.1, if_pos rfl]
    cases j with
    | zero =>
      rw [wrsD_out _ _ _ _ (by omega), wr_go h.1]
      exact upd_same _ _ _
    | succ j =>
      have := ih h.2 j (by simpa using hj)
      rw [show i + (j + 1) = i + 1 + j by omega, this]
      rfl
theorem wrsD_fail {d : Dsk} {i : Nat} {l : List (List UInt8)} (h : wrsB d i l = false) : (wrsD d i l).off = true := by
  induction l generalizing d i with
  | nil => simp [wrsB] at h
  | cons s l ih =>
    unfold wrsD
    cases hg : go d with
    | true =>
      rw [if_pos rfl]
      exact ih (by simpa [wrsB, hg] using h)
    | false => exact (wr_off hg i s).1
theorem wrsD_on {d : Dsk} {i : Nat} {l : List (List UInt8)} (h : wrsB d i l = true) (h0 : d.off = false) : (wrsD d i l).off = false := by
  induction l generalizing d i with
  | nil => exact h0
  | cons s l ih =>
    simp only [wrsB, Bool.and_eq_true] at h
    unfold wrsD
    rw [h.1, if_pos rfl]
    exact ih h.2 (by rw [wr_go h.1]; exact deed_go h.1)
/-- Kept: nothing waits any more. -/
def laidAt (f : Nat → List UInt8) (i : Nat) (l : List (List UInt8)) (k : Nat) : List UInt8 := if i ≤ k ∧ k < i + l.length then l.getD (k - i) [] else f k
theorem keep_yes {d : Dsk} {i : Nat} {l : List (List UInt8)} (h : keepB d i l = true) (hw : d.waits = fun _ => none) :
    (keepD d i l).safe = laidAt d.safe i l ∧ (keepD d i l).waits = (fun _ => none) ∧ (keepD d i l).off = false := by
  simp only [keepB, Bool.and_eq_true] at h
  unfold keepD
  rw [h.1, if_pos rfl, sy_go h.2]
  refine ⟨?_, rfl, deed_go h.2⟩
  funext k
  show (wrsD d i l).deed.read k = _
  unfold Dsk.read
  rw [(wrsD d i l).deed_parts.2.1, (wrsD d i l).deed_parts.2.2, wrsD_safe]
  unfold laidAt
  by_cases hk : i ≤ k ∧ k < i + l.length
  · rw [if_pos hk]
    have := wrsD_all h.1 (k - i) (by omega)
    rw [show i + (k - i) = k by omega] at this
    rw [this]
    rfl
  · rw [if_neg hk, wrsD_out _ _ _ _ (by omega), hw]
    rfl
theorem keep_no {d : Dsk} {i : Nat} {l : List (List UInt8)} (h : keepB d i l = false) (hw : d.waits = fun _ => none) :
    (keepD d i l).off = true ∧ (keepD d i l).safe = d.safe ∧ ∀ k, (keepD d i l).waits k = none ∨ ∃ j, j < l.length ∧ k = i + j ∧ (keepD d i l).waits k = some (l.getD j []) := by
  have key : ∀ k, (wrsD d i l).waits k = none ∨ ∃ j, j < l.length ∧ k = i + j ∧ (wrsD d i l).waits k = some (l.getD j []) := fun k => by
    have := wrsD_in d i l k
    rwa [hw] at this
  unfold keepD
  cases hb : wrsB d i l with
  | false => exact ⟨wrsD_fail hb, wrsD_safe d i l, key⟩
  | true =>
    have hg : go (wrsD d i l) = false := by simpa [keepB, hb] using h
    obtain ⟨h1, h2, h3⟩ := sy_off hg
    rw [if_pos rfl]
    exact ⟨h1, by rw [h2, wrsD_safe], by rw [h3]; exact key⟩

/-! ### Marks -/
theorem headM_right (g : Nat) : (headM g).right = true := right_iff.2 (by simp [headM])
theorem headM_fits {g : Nat} (h : g < 9223372036854775808) : (headM g).fits := ⟨by simp [headM, in64], by simp only [headM, in64]; omega, by simp [headM, in64], by simp [headM, in64]⟩
theorem markM_right (gen seq : Nat) (b : List UInt8) : (markM gen seq b).right = true := right_iff.2 (by simp only [markM]; omega)
theorem markM_fits {gen seq : Nat} {b : List UInt8} (h : gen < 9223372036854775808) (hs : seq < 9223372036854775808) (hb : b.length ≤ 1048576) : (markM gen seq b).fits := by
  have := crcOf_lt b
  exact ⟨by simp [markM, in64], by simp only [markM, in64]; omega, by simp only [markM, in64]; omega, by simp only [markM, in64]; omega⟩
theorem getB_nul : getB nul64 = false := torn_ahead (zeros 32)
theorem nul64_eq : nul64 = zeros 32 ++ zeros 32 := rfl
/-- What is a mark's sector. -/
theorem getB_halves {x : List UInt8} (h : getB x = true) : ∃ m : Mk, m.right = true ∧ x = half m ++ half m ∧ getM x = m := by
  have hm := getM_yes h
  simp only [getB, isM, Bool.and_eq_true, decide_eq_true_eq] at h
  obtain ⟨h1, h2⟩ := h
  have hr : (readM x).right = true := by
    cases hb : (readM x).right with
    | true => rfl
    | false =>
      rw [put_wrong hb] at h2
      rw [← h2] at h1
      simp at h1
  exact ⟨readM x, hr, by rw [← put_right hr, h2], hm⟩
/-- A sector that a crash left, where a mark waited. -/
theorem torn_three {m : Mk} (hr : m.right = true) {a x : List UInt8} (h : halfs a (put m) x) : x = put m ∨ x = a ∨ getB x = false := by
  cases hb : getB x with
  | false => exact .inr (.inr rfl)
  | true =>
    obtain ⟨m', hr', hx, _⟩ := getB_halves hb
    have t1 : x.take 32 = half m' := by rw [hx, List.take_left' (half_length _)]
    have t2 : x.drop 32 = half m' := by rw [hx, List.drop_left' (half_length _)]
    have p1 : (put m).take 32 = half m := by rw [put_right hr, List.take_left' (half_length _)]
    have p2 : (put m).drop 32 = half m := by rw [put_right hr, List.drop_left' (half_length _)]
    have key : half m' = half m → x = put m := fun e => by rw [hx, e, put_right hr]
    rcases h with ⟨h1 | h1, h2 | h2⟩
    · exact .inr (.inl (by rw [← List.take_append_drop 32 x, h1, h2, List.take_append_drop]))
    · exact .inl (key (by rw [← t2, h2, p2]))
    · exact .inl (key (by rw [← t1, h1, p1]))
    · exact .inl (key (by rw [← t1, h1, p1]))

/-! ### What a half holds -/
def Holds (f : Nat → List UInt8) (n gen : Nat) : Nat → Nat → List (List UInt8) → Prop
  | pos, _, [] => pos ≤ room n ∧ (pos < room n → getB (f (secAt n gen pos)) = false)
  | pos, seq, g :: gs => pos + takes1 g ≤ room n ∧ g.length ≤ 1048576 ∧ f (secAt n gen pos) = put (markM gen seq g) ∧ (∀ i, i < need g.length → f (secAt n gen (pos + 1 + i)) = sec g i) ∧ Holds f n gen (pos + takes1 g) (seq + 1) gs
theorem Holds.room {f : Nat → List UInt8} {n gen : Nat} : ∀ {pos seq : Nat} {gs : List (List UInt8)}, Holds f n gen pos seq gs → pos + takes gs ≤ JourM.room n
  | _, _, [], h => h.1
  | pos, seq, g :: gs, h => by
    have := Holds.room h.2.2.2.2
    simp only [takes]
    omega
theorem gB_of {f : Nat → List UInt8} {n gen pos seq : Nat} {g : List UInt8} (hg : gen < 9223372036854775808) (hs : seq < 9223372036854775808) (h1 : pos + takes1 g ≤ JourM.room n) (h2 : g.length ≤ 1048576)
    (h3 : f (secAt n gen pos) = put (markM gen seq g)) (h4 : ∀ i, i < need g.length → f (secAt n gen (pos + 1 + i)) = sec g i) : gB f n gen pos seq = true ∧ gX f n gen pos = g := by
  obtain ⟨k1, k2⟩ := getB_put (markM_right gen seq g) (markM_fits hg hs h2)
  have hc := crcOf_lt g
  have hl : gLen f n gen pos = g.length := by
    unfold gLen
    rw [h3, k2]
    show (((g.length : Int) * 4294967296 + (crcOf g : Nat)) / 4294967296).toNat = _
    omega
  have hr : gSecs f n gen pos = pack g := by
    unfold gSecs gRows
    rw [hl]
    exact List.map_congr_left fun i hi => h4 i (by simpa using hi)
  obtain ⟨u1, u2⟩ := unpack_pack g h2
  have hx : gX f n gen pos = g := by unfold gX; rw [hr, hl, u2]
  refine ⟨?_, hx⟩
  unfold takes1 at h1
  simp only [gB, gFit, gUn, gMk, Bool.and_eq_true, decide_eq_true_eq]
  refine ⟨⟨by rw [h3, k1], by rw [hl]; omega⟩, by rw [hr, hl, u1], ?_⟩
  rw [Mk.eq_iff, hx, h3, k2]
theorem Holds.groups {f : Nat → List UInt8} {n gen : Nat} (hn : n ≤ 65536) (hg : gen < 9223372036854775808) : ∀ {fuel pos seq : Nat} {gs : List (List UInt8)}, Holds f n gen pos seq gs → seq ≤ pos → JourM.room n < fuel + pos → groupsF f n gen fuel pos seq = gs
  | 0, pos, seq, gs, h, _, hf => by have := h.room; omega
  | fuel + 1, pos, seq, [], h, _, _ => by
    unfold groupsF
    have : gB f n gen pos seq = false := by
      unfold gB gFit
      by_cases hp : pos < JourM.room n
      · rw [h.2 hp]; rfl
      · rw [show decide (need (gLen f n gen pos) + pos < JourM.room n) = false by simp; omega]; simp
    rw [this]
    rfl
  | fuel + 1, pos, seq, g :: gs, h, hs, hf => by
    have hrm : JourM.room n ≤ 65536 := by unfold JourM.room; omega
    obtain ⟨h1, h2, h3, h4, h5⟩ := h
    have ht : 1 ≤ takes1 g := by unfold takes1; omega
    obtain ⟨k1, k2⟩ := gB_of hg (by omega) h1 h2 h3 h4
    unfold groupsF
    rw [k1, k2, if_pos rfl, Holds.groups hn hg h5 (by omega) (by omega)]
theorem Holds.congr {f f' : Nat → List UInt8} {n gen : Nat} : ∀ {pos seq : Nat} {gs : List (List UInt8)}, Holds f n gen pos seq gs → (∀ p, pos ≤ p → p < pos + takes gs → f' (secAt n gen p) = f (secAt n gen p)) →
    (pos + takes gs < JourM.room n → getB (f' (secAt n gen (pos + takes gs))) = false) → Holds f' n gen pos seq gs
  | pos, seq, [], h, _, h2 => ⟨h.1, h2⟩
  | pos, seq, g :: gs, ⟨a, b, c, d, e⟩, h1, h2 => by
    simp only [takes] at h1 h2
    unfold takes1 at h1 a
    refine ⟨a, b, by rw [h1 pos (Nat.le_refl _) (by omega)]; exact c, fun i hi => by rw [h1 _ (by omega) (by omega)]; exact d i hi, e.congr (fun p hp1 hp2 => h1 p (by unfold takes1 at hp1; omega) (by unfold takes1 at hp2; omega)) (fun hp => ?_)⟩
    rw [Nat.add_assoc]
    exact h2 (by omega)
theorem Holds.snoc {f f' : Nat → List UInt8} {n gen : Nat} {b : List UInt8} : ∀ {pos seq : Nat} {gs : List (List UInt8)}, Holds f n gen pos seq gs → (∀ p, pos ≤ p → p < pos + takes gs → f' (secAt n gen p) = f (secAt n gen p)) →
    Holds f' n gen (pos + takes gs) (seq + gs.length) [b] → Holds f' n gen pos seq (gs ++ [b])
  | pos, seq, [], _, _, h2 => h2
  | pos, seq, g :: gs, ⟨a, b', c, d, e⟩, h1, h2 => by
    simp only [takes] at h1 h2
    unfold takes1 at h1 a
    refine ⟨a, b', by rw [h1 pos (Nat.le_refl _) (by omega)]; exact c, fun i hi => by rw [h1 _ (by omega) (by omega)]; exact d i hi, e.snoc (fun p hp1 hp2 => h1 p (by unfold takes1 at hp1; omega) (by unfold takes1 at hp2; omega)) ?_⟩
    rw [Nat.add_assoc, Nat.add_assoc, show 1 + gs.length = (g :: gs).length by simp; omega]
    exact h2
theorem getD_left {α : Type} (a b : List α) (k : Nat) (d : α) (h : k < a.length) : (a ++ b).getD k d = a.getD k d := by simp [List.getD_eq_getElem?_getD, List.getElem?_append_left h]
theorem getD_right {α : Type} (a b : List α) (k : Nat) (d : α) (h : a.length ≤ k) : (a ++ b).getD k d = b.getD (k - a.length) d := by simp [List.getD_eq_getElem?_getD, List.getElem?_append_right h]
theorem sec_get (b : List UInt8) (i : Nat) (h : i < need b.length) : (pack b).getD i [] = sec b i := by simp [pack, List.getD_eq_getElem?_getD, h]
theorem Holds.laid {f : Nat → List UInt8} {n gen : Nat} : ∀ {pos seq : Nat} {l : List (List UInt8)}, pos + takes l ≤ JourM.room n → (∀ b ∈ l, b.length ≤ 1048576) → (∀ k, k < takes l → f (secAt n gen (pos + k)) = (laidAll gen seq l).getD k []) →
    (pos + takes l < JourM.room n → getB (f (secAt n gen (pos + takes l))) = false) → Holds f n gen pos seq l
  | pos, seq, [], h1, _, _, h4 => ⟨h1, h4⟩
  | pos, seq, b :: l, h1, h2, h3, h4 => by
    have hlen := laid_length gen seq b
    have ht : takes1 b = 1 + need b.length := rfl
    simp only [takes] at h1 h3 h4
    refine ⟨by omega, h2 b (by simp), ?_, fun i hi => ?_, Holds.laid (by omega) (fun x hx => h2 x (by simp [hx])) (fun k hk => ?_) (fun hp => ?_)⟩
    · have := h3 0 (by omega)
      exact this
    · have := h3 (1 + i) (by omega)
      rw [show pos + 1 + i = pos + (1 + i) by omega, this]
      rw [laidAll_cons]
      unfold JourM.laid
      rw [getD_left _ _ _ _ (by simp [pack_length]; omega), show 1 + i = i + 1 by omega, List.getD_cons_succ, sec_get b i hi]
    · have := h3 (takes1 b + k) (by omega)
      rw [Nat.add_assoc, this]
      rw [laidAll_cons, getD_right _ _ _ _ (by omega), hlen, Nat.add_sub_cancel_left]
    · rw [Nat.add_assoc]
      exact h4 (by omega)
end Go.Proofs.Ytgjdgmpjbpnjbaa.JourM
