/-
  Decimal numerals as lists of bytes: what a text tells as a number, what a number's text is, and that the one is the other's way back. No program in this text.
-/
import Derived.Lib.ItoaNum
import Derived.RowKit
import Derived.Lib.Strings
import Derived.Test.YtmihlmlojmdhjaaGreatDoorRows
import Derived.WalkKit
import Derived.WalkSpells
import Derived.WalkLawsBesides
import Derived.Lib.Hide
namespace Go.Proofs.YtmihlmlojmdhjaaGreatDoor.Num
open Go.Lib

def isDig (c : UInt8) : Bool := decide (48 ≤ c.toNat ∧ c.toNat ≤ 57)
/-- The number of digits, the first ahead. -/
def val (l : List UInt8) : Nat := l.foldl (fun n c => 10 * n + (c.toNat - 48)) 0
def bad (l : List UInt8) : Bool := decide (l.length < 1 ∨ 19 < l.length ∨ (1 < l.length ∧ l.head? = some 48))
/-- What Read answers. -/
def readV (l : List UInt8) : Int × Bool :=
  if bad l = true then (0, false) else if l.all isDig = true then (if 9223372036854775807 < val l then (0, false) else ((val l : Int), true)) else (0, false)

theorem val_nil : val [] = 0 := rfl
theorem val_snoc (l : List UInt8) (c : UInt8) : val (l ++ [c]) = 10 * val l + (c.toNat - 48) := by simp [val, List.foldl_append]
theorem toNat_dig (d : Nat) (h : d < 10) : (UInt8.ofNat (48 + d)).toNat = 48 + d := by simp; omega
theorem isDig_dig (d : Nat) (h : d < 10) : isDig (UInt8.ofNat (48 + d)) = true := by
  unfold isDig; rw [toNat_dig d h]; simp; omega

theorem decDigits_lt {u : Nat} (h : u < 10) : decDigits u = [UInt8.ofNat (48 + u)] := by rw [decDigits, dif_pos h]
theorem decDigits_ge {u : Nat} (h : ¬ u < 10) : decDigits u = decDigits (u / 10) ++ [UInt8.ofNat (48 + u % 10)] := by rw [decDigits, dif_neg h]

theorem val_decDigits (u : Nat) : val (decDigits u) = u := by
  induction u using Nat.strongRecOn with
  | _ u ih =>
    by_cases h : u < 10
    · rw [decDigits_lt h]
      have := toNat_dig u h
      simp [val] at this ⊢
      omega
    · rw [decDigits_ge h, val_snoc, ih (u / 10) (by omega), toNat_dig _ (Nat.mod_lt _ (by omega))]
      omega
theorem all_decDigits (u : Nat) : (decDigits u).all isDig = true := by
  induction u using Nat.strongRecOn with
  | _ u ih =>
    by_cases h : u < 10
    · rw [decDigits_lt h, List.all_cons, isDig_dig u h, List.all_nil]; rfl
    · rw [decDigits_ge h, List.all_append, ih (u / 10) (by omega), List.all_cons, isDig_dig _ (Nat.mod_lt u (show 10 > 0 by omega)), List.all_nil]
      rfl
theorem decDigits_ne (u : Nat) : decDigits u ≠ [] := by
  by_cases h : u < 10
  · rw [decDigits_lt h]; simp
  · rw [decDigits_ge h]; simp
/-- A numeral's first digit is no 0, unless the number is 0. -/
theorem head_decDigits (u : Nat) (hu : 0 < u) : (decDigits u).head? ≠ some 48 := by
  induction u using Nat.strongRecOn with
  | _ u ih =>
    by_cases h : u < 10
    · rw [decDigits_lt h]
      simp only [List.head?_cons, ne_eq, Option.some.injEq]
      intro e
      have := congrArg UInt8.toNat e
      rw [toNat_dig u h] at this
      simp at this
      omega
    · rw [decDigits_ge h]
      have := ih (u / 10) (by omega) (by omega)
      cases hd : decDigits (u / 10) with
      | nil => exact absurd hd (decDigits_ne _)
      | cons a r => rw [hd] at this; simpa using this
theorem length_decDigits (u : Nat) (h : u ≤ 9223372036854775807) : 1 ≤ (decDigits u).length ∧ (decDigits u).length ≤ 19 := by
  rw [decDigits_length]
  refine ⟨nDigits_pos u, ?_⟩
  apply Classical.byContradiction
  intro hn
  have h2 : ∀ k v : Nat, k < nDigits v → 10 ^ k ≤ v ∨ k = 0 := by
    intro k
    induction k with
    | zero => intro v _; exact Or.inr rfl
    | succ k ih =>
      intro v hv
      by_cases hs : v < 10
      · rw [nDigits_small hs] at hv; omega
      · rw [nDigits_big hs] at hv
        rcases ih (v / 10) (by omega) with h3 | h3
        · left; rw [Nat.pow_succ]; omega
        · subst h3; left; simp; omega
  have := h2 19 u (by omega)
  omega

/-- Read of the text of a number that is not below 0 is the number. -/
theorem readV_nat (u : Nat) (h : u ≤ 9223372036854775807) : readV (decDigits u) = ((u : Int), true) := by
  have hl := length_decDigits u h
  have hb : bad (decDigits u) = false := by
    unfold bad
    rw [decide_eq_false_iff_not]
    rintro (h1 | h1 | ⟨h1, h2⟩)
    · omega
    · omega
    · by_cases hu : u = 0
      · subst hu; rw [decDigits_lt (by omega)] at h1; simp at h1
      · exact head_decDigits u (by omega) h2
  unfold readV
  rw [hb, if_neg (by simp), if_pos (all_decDigits u), val_decDigits, if_neg (by omega)]
theorem readV_itoa (n : Int) (h : n ≤ 9223372036854775807) : readV (itoa n) = if 0 ≤ n then (n, true) else (0, false) := by
  unfold itoa
  by_cases hn : n < 0
  · rw [if_pos hn, if_neg (by omega)]
    unfold readV
    have : (45 :: decDigits n.natAbs).all isDig = false := by simp [isDig]
    rw [this]
    simp
  · rw [if_neg hn, if_pos (by omega), readV_nat _ (by omega)]
    congr 1
    omega

theorem readV_range (l : List UInt8) : 0 ≤ (readV l).1 ∧ (readV l).1 ≤ 9223372036854775807 := by
  unfold readV
  split
  · simp
  split
  · split
    · simp
    · simp; omega
  · simp
/-- Nineteen digits fit into 64 bits. -/
theorem val_lt (l : List UInt8) (h : l.all isDig = true) : val l < 10 ^ l.length := by
  suffices H : ∀ n, ∀ l : List UInt8, l.length = n → l.all isDig = true → val l < 10 ^ l.length from H _ l rfl h
  intro n
  induction n with
  | zero => intro l hl _; rw [List.length_eq_zero_iff.1 hl]; simp [val]
  | succ n ih =>
    intro l hl ha
    have hne : l ≠ [] := by intro e; subst e; simp at hl
    obtain ⟨r, c, rfl⟩ : ∃ r c, l = r ++ [c] := ⟨l.dropLast, l.getLast hne, (List.dropLast_concat_getLast hne).symm⟩
    rw [List.all_append, Bool.and_eq_true] at ha
    have hc : 48 ≤ c.toNat ∧ c.toNat ≤ 57 := by simpa [isDig] using ha.2
    have := ih r (by simpa using hl) ha.1
    rw [val_snoc, List.length_append, List.length_singleton, Nat.pow_succ]
    omega
end Go.Proofs.YtmihlmlojmdhjaaGreatDoor.Num
/- The words of a text as plain mathematics: lists of bytes, no program. No condition. -/
namespace Go.Proofs.YtmihlmlojmdhjaaGreatDoor.Lex
/-- A word: its kind, its text, its number. -/
structure Wd where
  k : Int
  s : List UInt8
  n : Int
deriving DecidableEq
def dig (c : UInt8) : Bool := Num.isDig c
def great (c : UInt8) : Bool := decide (65 ≤ c.toNat ∧ c.toNat ≤ 90)
def small (c : UInt8) : Bool := decide (97 ≤ c.toNat ∧ c.toNat ≤ 122)
def nameB (c : UInt8) : Bool := small c || great c || dig c || decide (c.toNat = 95)
def notNL (c : UInt8) : Bool := decide (c.toNat ≠ 10)
def blank (c : UInt8) : Bool := decide (c.toNat = 32 ∨ c.toNat = 9 ∨ c.toNat = 13)
def rowN (p : UInt8 → Bool) (l : List UInt8) : Nat := (l.takeWhile p).length
/-- Keys: package import func if else for return print break continue int bool true false. -/
def keysL : List (List UInt8) := [[112, 97, 99, 107, 97, 103, 101], [105, 109, 112, 111, 114, 116], [102, 117, 110, 99], [105, 102], [101, 108, 115, 101], [102, 111, 114], [114, 101, 116, 117, 114, 110], [112, 114, 105, 110, 116], [98, 114, 101, 97, 107], [99, 111, 110, 116, 105, 110, 117, 101], [105, 110, 116], [98, 111, 111, 108], [116, 114, 117, 101], [102, 97, 108, 115, 101]]
def keyB (s : List UInt8) : Bool := keysL.contains s
def endsL : List (List UInt8) := [[41], [125], [114, 101, 116, 117, 114, 110], [98, 114, 101, 97, 107], [99, 111, 110, 116, 105, 110, 117, 101], [105, 110, 116], [98, 111, 111, 108], [116, 114, 117, 101], [102, 97, 108, 115, 101]]
def mayB (w : Wd) : Bool := decide (w.k = 1) || decide (w.k = 2) || decide (w.k = 3) || endsL.contains w.s
def nameOk (s : List UInt8) : Bool := !decide (s = []) && !decide (16 < s.length) && !keyB s && !(match s with | [] => false | c :: _ => dig c) && s.all nameB
/-- What may stand between quotes. -/
def textOk (s : List UInt8) : Bool := nameOk s || keyB s
def signsL : List (List UInt8) := [[40], [41], [123], [125], [44], [59], [46], [58, 61], [61], [61, 61], [33, 61], [60], [60, 61], [62], [62, 61], [43], [45], [42], [47], [37], [33], [38, 38], [124, 124]]
def better (l best s : List UInt8) : List UInt8 := if best.length < s.length ∧ s.isPrefixOf l = true then s else best
def longest (l : List UInt8) : List UInt8 := signsL.foldl (better l) []
def semi : Wd := ⟨5, [59], 0⟩
def endLn (ws : List Wd) : List Wd := match ws.getLast? with | some w => if mayB w = true then ws ++ [semi] else ws | none => ws
/-- What stands before the first quote; none, if there is none. -/
def cutQ (l : List UInt8) : Option (List UInt8) := if (l.takeWhile fun c => decide (c.toNat ≠ 34)).length < l.length then some (l.takeWhile fun c => decide (c.toNat ≠ 34)) else none
/-- What stands behind a step: an error's number (0: none), what is left of the text, the words. -/
structure St where
  e : Int
  l : List UInt8
  ws : List Wd
def numS (l : List UInt8) (ws : List Wd) : St :=
  let s := l.take (rowN dig l); let r := l.drop (rowN dig l)
  if (Num.readV s).2 = true then ⟨0, r, ws ++ [⟨2, [], (Num.readV s).1⟩]⟩ else if l.head? = some 48 then ⟨7, r, ws⟩ else ⟨11, r, ws⟩
def nameS (l : List UInt8) (ws : List Wd) : St :=
  let s := l.take (rowN nameB l); let r := l.drop (rowN nameB l)
  if 16 < rowN nameB l then ⟨11, r, ws⟩ else ⟨0, r, ws ++ [⟨if keyB s = true then 4 else 1, s, 0⟩]⟩
def textS (l : List UInt8) (ws : List Wd) : St :=
  match cutQ (l.drop 1) with
  | some s => if textOk s = true then ⟨0, l.drop (s.length + 2), ws ++ [⟨3, s, 0⟩]⟩ else ⟨7, l, ws⟩
  | none => ⟨7, l, ws⟩
def signS (l : List UInt8) (ws : List Wd) : St :=
  if longest l = [] then ⟨7, l, ws⟩ else ⟨0, l.drop (longest l).length, ws ++ [⟨5, longest l, 0⟩]⟩
/-- One step of the reader, of a text that is not empty. -/
def step (l : List UInt8) (ws : List Wd) : St :=
  match l with
  | [] => ⟨0, [], ws⟩
  | c :: r =>
    if c.toNat = 10 then ⟨0, r, endLn ws⟩
    else if blank c = true then ⟨0, r, ws⟩
    else if [47, 47].isPrefixOf (c :: r) = true then ⟨0, (c :: r).drop (rowN notNL (c :: r)), ws⟩
    else if dig c = true then numS (c :: r) ws
    else if nameB c = true then nameS (c :: r) ws
    else if c.toNat = 34 then textS (c :: r) ws
    else signS (c :: r) ws
/-- All steps; fuel: as many as the text has bytes. -/
def run : Nat → List UInt8 → List Wd → Int × List Wd
  | 0, _, ws => (0, ws)
  | n + 1, l, ws => if l = [] then (0, ws) else if (step l ws).e = 0 then run n (step l ws).l (step l ws).ws else ((step l ws).e, [])
/-- What Words answers. -/
def words (t : List UInt8) : List Wd × Int :=
  if 4096 < t.length then ([], 11)
  else if (run t.length t []).1 = 0 then (if 2048 < (endLn (run t.length t []).2).length then ([], 11) else (endLn (run t.length t []).2, 0))
  else ([], (run t.length t []).1)
def quoted (s : List UInt8) : List UInt8 := [34] ++ s ++ [34]
/-- What Show answers. -/
def shown (w : Wd) : List UInt8 :=
  if w.k = 1 ∨ w.k = 4 ∨ w.k = 5 then w.s
  else if w.k = 3 then quoted w.s
  else if w.k = 2 ∧ 0 ≤ w.n then Lib.itoa w.n
  else []

theorem rowN_le (p : UInt8 → Bool) (l : List UInt8) : rowN p l ≤ l.length := by
  unfold rowN
  have := (List.takeWhile_sublist p (l := l)).length_le
  omega
theorem rowN_pos {p : UInt8 → Bool} {c : UInt8} {r : List UInt8} (h : p c = true) : 1 ≤ rowN p (c :: r) := by
  unfold rowN
  rw [List.takeWhile_cons, if_pos h]
  simp
theorem take_rowN (p : UInt8 → Bool) (l : List UInt8) : l.take (rowN p l) = l.takeWhile p := by
  unfold rowN
  induction l with
  | nil => rfl
  | cons c r ih =>
    rw [List.takeWhile_cons]
    split
    · simp [ih]
    · simp
theorem longest_mem (l : List UInt8) : longest l = [] ∨ (longest l ∈ signsL ∧ (longest l).isPrefixOf l = true) := by
  unfold longest
  suffices h : ∀ (ss best : List (List UInt8)) (b : List UInt8), (∀ s ∈ ss, s ∈ signsL) → (b = [] ∨ (b ∈ signsL ∧ b.isPrefixOf l = true)) → (ss.foldl (better l) b = [] ∨ (ss.foldl (better l) b ∈ signsL ∧ (ss.foldl (better l) b).isPrefixOf l = true)) from h signsL [] [] (fun _ h => h) (.inl rfl)
  intro ss _
  induction ss with
  | nil => intro b _ h; exact h
  | cons s ss ih =>
    intro b hs hb
    refine ih _ (fun x hx => hs x (by simp [hx])) ?_
    unfold better
    split
    · rename_i h; exact .inr ⟨hs s (by simp), h.2⟩
    · exact hb
theorem signs_len {s : List UInt8} (h : s ∈ signsL) : 1 ≤ s.length ∧ s.length ≤ 2 := by
  have : ∀ s ∈ signsL, 1 ≤ s.length ∧ s.length ≤ 2 := by decide
  exact this s h
/-- A step takes a byte at least, and leaves no more than a word and a sign. -/
theorem step_less (l : List UInt8) (ws : List Wd) (hl : l ≠ []) (he : (step l ws).e = 0) : (step l ws).l.length < l.length := by
  cases l with
  | nil => exact absurd rfl hl
  | cons c r =>
    revert he
    unfold step
    dsimp only
    split
    · intro _; simp
    split
    · intro _; simp
    split
    · rename_i h
      intro _
      have : 1 ≤ rowN notNL (c :: r) := rowN_pos (by
        have : c = 47 := by simp [List.isPrefixOf] at h; exact h.1.symm
        subst this; decide)
      have := rowN_le notNL (c :: r)
      simp only [List.length_drop]
      simp only [List.length_cons] at *
      omega
    split
    · rename_i h
      unfold numS
      have := rowN_pos (r := r) h
      have := rowN_le dig (c :: r)
      dsimp only
      split
      · intro _; simp only [List.length_drop]; simp only [List.length_cons] at *; omega
      split
      · intro h; cases h
      · intro h; cases h
    split
    · rename_i h
      unfold nameS
      have := rowN_pos (r := r) h
      have := rowN_le nameB (c :: r)
      dsimp only
      split
      · intro h; cases h
      · intro _; simp only [List.length_drop]; simp only [List.length_cons] at *; omega
    split
    · unfold textS
      split
      · split
        · intro _; simp only [List.length_drop, List.length_cons]; omega
        · intro h; cases h
      · intro h; cases h
    · unfold signS
      split
      · intro h; cases h
      · rename_i h
        intro _
        rcases longest_mem (c :: r) with h1 | h1
        · exact absurd h1 h
        · have := (signs_len h1.1).1
          simp only [List.length_drop, List.length_cons]
          omega
theorem endLn_len (ws : List Wd) : ws.length ≤ (endLn ws).length ∧ (endLn ws).length ≤ ws.length + 1 := by
  unfold endLn
  split
  · split <;> simp
  · simp
theorem step_ws (l : List UInt8) (ws : List Wd) : (step l ws).ws.length ≤ ws.length + 1 := by
  unfold step
  split
  · simp
  split
  · exact (endLn_len ws).2
  split
  · simp
  split
  · simp
  split
  · unfold numS; dsimp only; split
    · simp
    split <;> simp
  split
  · unfold nameS; dsimp only; split <;> simp
  split
  · unfold textS; split
    · split <;> simp
    · simp
  · unfold signS; split <;> simp
end Go.Proofs.YtmihlmlojmdhjaaGreatDoor.Lex
/- What Read answers: a function of the bytes. -/
namespace Go.Proofs.YtmihlmlojmdhjaaGreatDoor.Num
open Go.RowKit
/-- What a call that only reckons comes to. -/
def EndsW (v : Value) (w : World) (e : Ending) (w' : World) : Prop := e = .returned v ∧ w = w'
def pair (n : Int) (b : Bool) : Value := .tuple #[.int .i64 n, .bool b]
theorem ends_pair {n m : Int} {b : Bool} {w : World} (h : n = m) : EndsW (pair m b) w (.returned (.tuple #[.int .i64 n, .bool b])) w := by subst h; exact ⟨rfl, rfl⟩

theorem read_short (s : ByteArray) (w : World) (h : s.size < 1) : Calls Tryz.prog 107 #[.string s] w (EndsW (pair 0 false) w) := by
  go_enter Tryz.func107, Tryz.ntmps107
  go_wp2
  go_ret2
  exact ends_pair rfl
theorem read_long (s : ByteArray) (w : World) (h : 19 < s.size) (hs : s.size ≤ maxLen) : Calls Tryz.prog 107 #[.string s] w (EndsW (pair 0 false) w) := by
  unfold maxLen at hs
  go_enter Tryz.func107, Tryz.ntmps107
  go_wp2
  all_goals go_ret2
  all_goals exact ends_pair rfl
theorem read_zero (s : ByteArray) (w : World) (h : 1 < s.size) (h2 : s.size ≤ 19) (h0 : 0 < s.size) (hb : ((s[0].toNat : Int) == 48) = true) : Calls Tryz.prog 107 #[.string s] w (EndsW (pair 0 false) w) := by
  go_enter Tryz.func107, Tryz.ntmps107
  go_wp2
  all_goals go_ret2
  all_goals exact ends_pair rfl

theorem take_snoc (s : ByteArray) (k : Nat) (h : k < s.size) : s.data.toList.take (k + 1) = s.data.toList.take k ++ [s[k]] := by
  rw [List.take_succ_eq_append_getElem (by simpa using h)]; rfl
/-- What a round of the loop leaves of the text's first k bytes. -/
def Sofar (s : ByteArray) (k : Nat) : Prop := (s.data.toList.take k).all isDig = true
def vk (s : ByteArray) (k : Nat) : Nat := val (s.data.toList.take k)
theorem vk_lt (s : ByteArray) (k : Nat) (hk : k ≤ 18) (h : Sofar s k) : vk s k ≤ 999999999999999999 := by
  have := val_lt _ h
  have hl : (s.data.toList.take k).length ≤ 18 := by rw [List.length_take]; omega
  have := Nat.pow_le_pow_right (show 0 < 10 by omega) hl
  unfold vk
  omega
theorem sofar_succ (s : ByteArray) (k : Nat) (hk : k < s.size) (h : Sofar s k) (hc : 48 ≤ s[k].toNat) (hd : s[k].toNat ≤ 57) : Sofar s (k + 1) := by
  unfold Sofar at h ⊢
  rw [take_snoc s k hk, List.all_append, h]
  simp [isDig, hc, hd]
theorem vk_succ (s : ByteArray) (k : Nat) (hk : k < s.size) (hc : 48 ≤ s[k].toNat) : (vk s (k + 1) : Int) = vk s k * 10 + (s[k].toNat - 48) := by
  unfold vk
  rw [take_snoc s k hk, val_snoc]
  omega
theorem not_all (s : ByteArray) (k : Nat) (hk : k < s.size) (hc : s[k].toNat < 48 ∨ 57 < s[k].toNat) : s.data.toList.all isDig = false := by
  rw [List.all_eq_false]
  refine ⟨s[k], ?_, ?_⟩
  · exact Array.getElem_mem_toList hk
  · simp [isDig]; omega

theorem bad_zero (s : ByteArray) (hb : bad s.data.toList = false) (h0 : 0 < s.size) (h1 : 1 < s.size) : ((s[0].toNat : Int) == 48) = false := by
  rw [beq_eq_false_iff_ne]
  intro e
  unfold bad at hb
  rw [decide_eq_false_iff_not] at hb
  apply hb
  refine Or.inr (Or.inr ⟨by simpa using h1, ?_⟩)
  rw [List.head?_eq_getElem?, List.getElem?_eq_getElem (by simpa using h0)]
  congr 1
  apply UInt8.toNat_inj.1
  show s[0].toNat = 48
  omega
theorem three (s : ByteArray) (hb : bad s.data.toList = false) (h0 : 0 < s.size) :
    (1 < s.size ∧ ((s[0].toNat : Int) == 48) = false) ∨ (s.size ≤ 1 ∧ ((s[0].toNat : Int) == 48) = false) ∨ (s.size ≤ 1 ∧ ((s[0].toNat : Int) == 48) = true) := by
  by_cases h1 : 1 < s.size
  · exact Or.inl ⟨h1, bad_zero s hb h0 h1⟩
  · cases h : ((s[0].toNat : Int) == 48)
    · exact Or.inr (Or.inl ⟨by omega, rfl⟩)
    · exact Or.inr (Or.inr ⟨by omega, rfl⟩)
theorem readV_bad (s : ByteArray) (k : Nat) (hb : bad s.data.toList = false) (hk : k < s.size) (hc : s[k].toNat < 48 ∨ 57 < s[k].toNat) : readV s.data.toList = (0, false) := by
  unfold readV
  rw [if_neg (by rw [hb]; simp), not_all s k hk hc, if_neg (by simp)]
theorem readV_big (s : ByteArray) (hb : bad s.data.toList = false) (h : Sofar s s.size) (hv : 9223372036854775807 < vk s s.size) : readV s.data.toList = (0, false) := by
  unfold Sofar at h
  unfold vk at hv
  rw [List.take_of_length_le (by simp)] at h hv
  unfold readV
  rw [if_neg (by rw [hb]; simp), if_pos h, if_pos hv]
theorem readV_good (s : ByteArray) (hb : bad s.data.toList = false) (h : Sofar s s.size) (hv : vk s s.size ≤ 9223372036854775807) : readV s.data.toList = ((vk s s.size : Int), true) := by
  unfold Sofar at h
  unfold vk at hv ⊢
  rw [List.take_of_length_le (by simp)] at h hv ⊢
  unfold readV
  rw [if_neg (by rw [hb]; simp), if_pos h, if_neg (by omega)]
theorem vk_end (s : ByteArray) (h : s.size ≤ 19) (hf : Sofar s s.size) : vk s s.size ≤ 9999999999999999999 := by
  unfold Sofar at hf
  have := val_lt _ hf
  have hl : (s.data.toList.take s.size).length ≤ 19 := by rw [List.length_take]; omega
  have := Nat.pow_le_pow_right (show 0 < 10 by omega) hl
  unfold vk
  omega

set_option maxHeartbeats 800000 in
theorem read_loop (s : ByteArray) (w : World) (h1 : 1 ≤ s.size) (h2 : s.size ≤ 19) (hb : bad s.data.toList = false) : Calls Tryz.prog 107 #[.string s] w (EndsW (pair (readV s.data.toList).1 (readV s.data.toList).2) w) := by
  have hz := three s hb (by omega)
  have HB := Lib.hid hb
  clear hb
  go_enter Tryz.func107, Tryz.ntmps107
  rcases hz with ⟨hone, hz'⟩ | ⟨hone, hz'⟩ | ⟨hone, hz'⟩
  all_goals
    go_wp2
    go_loop [4, 26] (fun n i => ∃ k : Nat, k ≤ s.size ∧ i = .int .i64 k ∧ n = .int .u64 (vk s k) ∧ Sofar s k) (fun _ i => s.size - (intOf i).toNat)
    case atStart => exact ⟨0, by omega, rfl, rfl, rfl⟩
    case round =>
      obtain ⟨k, hk, rfl, rfl, hf⟩ := hrel
      by_cases hlt : k < s.size
      · have hv := vk_lt s k (by omega) hf
        by_cases hd : 48 ≤ s[k].toNat
        · by_cases hd2 : s[k].toNat ≤ 57
          · have HS := Lib.hid (vk_succ s k hlt hd)
            have HF := Lib.hid (sofar_succ s k hlt hf hd hd2)
            go_wp2
            go_round
            case rel => exact ⟨k + 1, by omega, by go_num, by rw [HS.out], HF.out⟩
            case measure => simp [intOf]; omega
          · have HR := Lib.hid (readV_bad s k HB.out hlt (by omega))
            go_wp2
            go_ret2
            exact ⟨by rw [HR.out]; rfl, rfl⟩
        · have HR := Lib.hid (readV_bad s k HB.out hlt (by omega))
          go_wp2
          go_ret2
          exact ⟨by rw [HR.out]; rfl, rfl⟩
      · obtain rfl : k = s.size := by omega
        have he := vk_end s h2 hf
        by_cases hv : 9223372036854775807 < vk s s.size
        · have HR := Lib.hid (readV_big s HB.out hf hv)
          go_wp2
          go_ret2
          exact ⟨by rw [HR.out]; rfl, rfl⟩
        · have HR := Lib.hid (readV_good s HB.out hf (by omega))
          have hv' : vk s s.size ≤ 9223372036854775807 := by omega
          clear hv
          go_wp2
          go_ret2
          exact ⟨by rw [HR.out]; rfl, rfl⟩

theorem len_eq (s : ByteArray) : s.data.toList.length = s.size := by rw [Array.length_toList]; rfl
theorem bad_true (s : ByteArray) (hb : bad s.data.toList = true) : s.size < 1 ∨ 19 < s.size ∨ ∃ h0 : 0 < s.size, 1 < s.size ∧ ((s[0].toNat : Int) == 48) = true := by
  unfold bad at hb
  rw [decide_eq_true_eq] at hb
  rcases hb with h | h | ⟨h, h2⟩
  · exact Or.inl (by simpa using h)
  · exact Or.inr (Or.inl (by simpa using h))
  · have h1 : 1 < s.size := by simpa using h
    refine Or.inr (Or.inr ⟨by omega, h1, ?_⟩)
    rw [List.head?_eq_getElem?, List.getElem?_eq_getElem (by simpa using (show 0 < s.size by omega))] at h2
    have h3 : s[0] = 48 := Option.some.inj h2
    rw [h3]
    rfl
theorem read_any (s : ByteArray) (w : World) (hs : s.size ≤ maxLen) : Calls Tryz.prog 107 #[.string s] w (EndsW (pair (readV s.data.toList).1 (readV s.data.toList).2) w) := by
  by_cases hb : bad s.data.toList = true
  · have hr : readV s.data.toList = (0, false) := by unfold readV; rw [if_pos hb]
    rw [hr]
    rcases bad_true s hb with h | h | ⟨h0, h1, hz⟩
    · exact read_short s w h
    · exact read_long s w h hs
    · by_cases h2 : s.size ≤ 19
      · exact read_zero s w h1 h2 h0 hz
      · exact read_long s w (by omega) hs
  · rw [Bool.not_eq_true] at hb
    have hb2 := hb
    unfold bad at hb2
    rw [decide_eq_false_iff_not, not_or, not_or] at hb2
    exact read_loop s w (by have := hb2.1; rw [len_eq] at this; omega) (by have := hb2.2.1; rw [len_eq] at this; omega) hb
end Go.Proofs.YtmihlmlojmdhjaaGreatDoor.Num
/- What the small calls of lex answer: digit, great, inName, what is no line feed, for every number of a letter. No condition. -/
namespace Go.Proofs.YtmihlmlojmdhjaaGreatDoor.Lex
open Go.RowKit
open Num (EndsW)
set_option maxRecDepth 100000
def digI (c : Int) : Bool := decide (48 ≤ c ∧ c ≤ 57)
def greatI (c : Int) : Bool := decide (65 ≤ c ∧ c ≤ 90)
def nameI (c : Int) : Bool := decide (97 ≤ c ∧ c ≤ 122) || greatI c || digI c || decide (c = 95)
def nlI (c : Int) : Bool := decide (c ≠ 10)
theorem ends_bool {a b : Bool} {w : World} (h : a = b) : EndsW (.bool b) w (.returned (.bool a)) w := by subst h; exact ⟨rfl, rfl⟩
theorem digit_any (c : Int) (w : World) : Calls Tryz.prog 68 #[.int .i32 c] w (EndsW (.bool (digI c)) w) := by
  by_cases h1 : 48 ≤ c
  · by_cases h2 : c ≤ 57
    · have H := Lib.hid (show digI c = true by unfold digI; simp; omega)
      go_enter Tryz.func68, Tryz.ntmps68
      go_wp2
      go_ret
      exact ends_bool H.out.symm
    · have H := Lib.hid (show digI c = false by unfold digI; simp; omega)
      go_enter Tryz.func68, Tryz.ntmps68
      go_wp2
      go_ret
      exact ends_bool H.out.symm
  · have H := Lib.hid (show digI c = false by unfold digI; simp; omega)
    go_enter Tryz.func68, Tryz.ntmps68
    go_wp2
    go_ret
    exact ends_bool H.out.symm
theorem great_any (c : Int) (w : World) : Calls Tryz.prog 108 #[.int .i32 c] w (EndsW (.bool (greatI c)) w) := by
  by_cases h1 : 65 ≤ c
  · by_cases h2 : c ≤ 90
    · have H := Lib.hid (show greatI c = true by unfold greatI; simp; omega)
      go_enter Tryz.func108, Tryz.ntmps108
      go_wp2
      go_ret
      exact ends_bool H.out.symm
    · have H := Lib.hid (show greatI c = false by unfold greatI; simp; omega)
      go_enter Tryz.func108, Tryz.ntmps108
      go_wp2
      go_ret
      exact ends_bool H.out.symm
  · have H := Lib.hid (show greatI c = false by unfold greatI; simp; omega)
    go_enter Tryz.func108, Tryz.ntmps108
    go_wp2
    go_ret
    exact ends_bool H.out.symm
theorem great_yes (c : Int) (w : World) (h : 65 ≤ c ∧ c ≤ 90) : Calls Tryz.prog 108 #[.int .i32 c] w (EndsW (.bool true) w) := by
  have e : greatI c = true := by unfold greatI; simp; omega
  have := great_any c w
  rwa [e] at this
theorem great_no (c : Int) (w : World) (h : c < 65 ∨ 90 < c) : Calls Tryz.prog 108 #[.int .i32 c] w (EndsW (.bool false) w) := by
  have e : greatI c = false := by unfold greatI; simp; omega
  have := great_any c w
  rwa [e] at this
theorem digit_yes (c : Int) (w : World) (h : 48 ≤ c ∧ c ≤ 57) : Calls Tryz.prog 68 #[.int .i32 c] w (EndsW (.bool true) w) := by
  have e : digI c = true := by unfold digI; simp; omega
  have := digit_any c w
  rwa [e] at this
theorem digit_no (c : Int) (w : World) (h : c < 48 ∨ 57 < c) : Calls Tryz.prog 68 #[.int .i32 c] w (EndsW (.bool false) w) := by
  have e : digI c = false := by unfold digI; simp; omega
  have := digit_any c w
  rwa [e] at this
set_option maxHeartbeats 1000000 in
theorem inName_lo (c : Int) (w : World) (h1 : c < 97) (h2 : c < 65 ∨ 90 < c) (h3 : c < 48 ∨ 57 < c) (h4 : c ≠ 95) : Calls Tryz.prog 70 #[.int .i32 c] w (EndsW (.bool (nameI c)) w) := by
  have H := Lib.hid (show nameI c = false by unfold nameI greatI digI; simp; omega)
  have C := Lib.hid (great_no c w h2)
  have D := Lib.hid (digit_no c w h3)
  have h5 : (c == 95) = false := by simpa using h4
  clear h2 h3 h4
  go_enter Tryz.func70, Tryz.ntmps70
  go_wp2_with (first | (go_at_call 108; refine C.out.mono ?_; rintro e w' ⟨rfl, rfl⟩) | (go_at_call 68; refine D.out.mono ?_; rintro e w' ⟨rfl, rfl⟩))
  go_ret
  exact ends_bool H.out.symm
set_option maxHeartbeats 1000000 in
theorem inName_hi (c : Int) (w : World) (h1 : 122 < c) : Calls Tryz.prog 70 #[.int .i32 c] w (EndsW (.bool (nameI c)) w) := by
  have H := Lib.hid (show nameI c = false by unfold nameI greatI digI; simp; omega)
  have C := Lib.hid (great_no c w (by omega))
  have D := Lib.hid (digit_no c w (by omega))
  have h5 : (c == 95) = false := by simp; omega
  have h6 : decide (c ≤ 122) = false := by simp; omega
  have h7 : decide (97 ≤ c) = true := by simp; omega
  go_enter Tryz.func70, Tryz.ntmps70
  go_wp2_with (first | (go_at_call 108; refine C.out.mono ?_; rintro e w' ⟨rfl, rfl⟩) | (go_at_call 68; refine D.out.mono ?_; rintro e w' ⟨rfl, rfl⟩))
  go_ret
  exact ends_bool H.out.symm
set_option maxHeartbeats 1000000 in
theorem inName_any (c : Int) (w : World) : Calls Tryz.prog 70 #[.int .i32 c] w (EndsW (.bool (nameI c)) w) := by
  rcases (show (97 ≤ c ∧ c ≤ 122) ∨ (65 ≤ c ∧ c ≤ 90) ∨ (48 ≤ c ∧ c ≤ 57) ∨ c = 95 ∨ c < 48 ∨ (58 ≤ c ∧ c ≤ 64) ∨ (91 ≤ c ∧ c ≤ 94) ∨ c = 96 ∨ 122 < c by omega) with h | h | h | h | h | h | h | h | h
  · have H := Lib.hid (show nameI c = true by unfold nameI greatI digI; simp; omega)
    obtain ⟨h1, h2⟩ := h
    go_enter Tryz.func70, Tryz.ntmps70
    go_wp2_with fail
    go_ret
    exact ends_bool H.out.symm
  · have H := Lib.hid (show nameI c = true by unfold nameI greatI digI; simp; omega)
    have C := Lib.hid (great_yes c w h)
    obtain ⟨h1, h2⟩ := h
    have h3 : c < 97 := by omega
    go_enter Tryz.func70, Tryz.ntmps70
    go_wp2_with (go_at_call 108; refine C.out.mono ?_; rintro e w' ⟨rfl, rfl⟩)
    go_ret
    exact ends_bool H.out.symm
  · have H := Lib.hid (show nameI c = true by unfold nameI greatI digI; simp; omega)
    have C := Lib.hid (great_no c w (by omega))
    have D := Lib.hid (digit_yes c w h)
    obtain ⟨h1, h2⟩ := h
    have h3 : c < 97 := by omega
    go_enter Tryz.func70, Tryz.ntmps70
    go_wp2_with (first | (go_at_call 108; refine C.out.mono ?_; rintro e w' ⟨rfl, rfl⟩) | (go_at_call 68; refine D.out.mono ?_; rintro e w' ⟨rfl, rfl⟩))
    go_ret
    exact ends_bool H.out.symm
  · subst h
    have C := Lib.hid (great_no 95 w (by omega))
    have D := Lib.hid (digit_no 95 w (by omega))
    go_enter Tryz.func70, Tryz.ntmps70
    go_wp2_with (first | (go_at_call 108; refine C.out.mono ?_; rintro e w' ⟨rfl, rfl⟩) | (go_at_call 68; refine D.out.mono ?_; rintro e w' ⟨rfl, rfl⟩))
    go_ret
    exact ends_bool (by decide)
  · exact inName_lo c w (by omega) (by omega) (by omega) (by omega)
  · exact inName_lo c w (by omega) (by omega) (by omega) (by omega)
  · exact inName_lo c w (by omega) (by omega) (by omega) (by omega)
  · exact inName_lo c w (by omega) (by omega) (by omega) (by omega)
  · exact inName_hi c w h
theorem nl_any (c : Int) (w : World) : Calls Tryz.prog 67 #[.int .i32 c] w (EndsW (.bool (nlI c)) w) := by
  by_cases h : c = 10
  · subst h
    go_enter Tryz.func67, Tryz.ntmps67
    go_wp2
    go_ret
    exact ends_bool (by decide)
  · have H := Lib.hid (show nlI c = true by unfold nlI; simpa using h)
    have h1 : (c != 10) = true := by simpa using h
    clear h
    go_enter Tryz.func67, Tryz.ntmps67
    go_wp2
    go_ret
    exact ends_bool H.out.symm
theorem digI_nat (c : UInt8) : digI (c.toNat : Int) = dig c := by
  unfold digI dig Num.isDig; rw [decide_eq_decide]; omega
theorem greatI_nat (c : UInt8) : greatI (c.toNat : Int) = great c := by
  unfold greatI great; rw [decide_eq_decide]; omega
theorem nameI_nat (c : UInt8) : nameI (c.toNat : Int) = nameB c := by
  unfold nameI nameB small; rw [digI_nat, greatI_nat]
  have e1 : decide (97 ≤ (c.toNat : Int) ∧ (c.toNat : Int) ≤ 122) = decide (97 ≤ c.toNat ∧ c.toNat ≤ 122) := by rw [decide_eq_decide]; omega
  have e2 : decide ((c.toNat : Int) = 95) = decide (c.toNat = 95) := by rw [decide_eq_decide]; omega
  rw [e1, e2]
theorem nlI_nat (c : UInt8) : nlI (c.toNat : Int) = notNL c := by
  unfold nlI notNL; rw [decide_eq_decide]; omega
theorem dig_high (c : UInt8) (h : 128 ≤ c.toNat) : dig c = false := by unfold dig Num.isDig; simp; omega
theorem nameB_high (c : UInt8) (h : 128 ≤ c.toNat) : nameB c = false := by unfold nameB small great; rw [dig_high c h]; simp; omega
theorem notNL_high (c : UInt8) (h : 128 ≤ c.toNat) : notNL c = true := by unfold notNL; simp; omega
theorem digI_high (n : Int) (h : 128 ≤ n) : digI n = false := by unfold digI; simp; omega
theorem nameI_high (n : Int) (h : 128 ≤ n) : nameI n = false := by unfold nameI greatI digI; simp; omega
theorem nlI_high (n : Int) (h : 128 ≤ n) : nlI n = true := by unfold nlI; simp; omega
end Go.Proofs.YtmihlmlojmdhjaaGreatDoor.Lex
