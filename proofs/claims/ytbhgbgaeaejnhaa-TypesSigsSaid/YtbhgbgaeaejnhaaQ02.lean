/-
  Are two statements, two functions the same (the package's own): what sameStmt, sameFunc and the library's Equal over parameters, over texts answer. Conditions: both trees lie in memory.
-/
import Derived.Test.YtbhgbgaeaejnhaaQ01
import Derived.Lib.ItoaNum
import Derived.RowKit
import Derived.Lib.Strings
namespace Go.Proofs.Ytbhgbgaeaejnhaa.Tre
open Go.RowKit
set_option maxRecDepth 100000
/-- The two boxes lie as they lay. -/
theorem box_at {w w1 : World} {cs ds : Array Value} {T : TypeId} (h : Below ((w.alloc (.cells cs T)).alloc (.cells ds T)).heap.size ((w.alloc (.cells cs T)).alloc (.cells ds T)) w1) (i : Nat) :
    w1.cell? ⟨w.heap.size, i, none⟩ = cs[i]? ∧ w1.cell? ⟨w.heap.size + 1, i, none⟩ = ds[i]? := by
  have h0 : ((w.alloc (.cells cs T)).alloc (.cells ds T)).heap[w.heap.size]? = some (.cells cs T (0, 0)) := (Below.heap_alloc _ _ _ (by simp)).trans (new_at w cs T)
  have h1 : ((w.alloc (.cells cs T)).alloc (.cells ds T)).heap[w.heap.size + 1]? = some (.cells ds T (0, 0)) := by
    have := new_at (w.alloc (.cells cs T)) ds T
    rwa [World.size_alloc] at this
  exact ⟨cell_at ((h.block _ (by simp; omega)).trans h0) i, cell_at ((h.block _ (by simp)).trans h1) i⟩
theorem exV_flat (e : Ex) : Value.agg #[.int .i64 e.op, .int .i64 e.n, .string e.s, .string e.q, .slice e.a e.x.length e.c] = exV e := (exV_eq e).symm
end Go.Proofs.Ytbhgbgaeaejnhaa.Tre
/- The library's Equal over lists of parameters, and over lists of texts. Conditions: both lists lie in memory. -/
namespace Go.Proofs.Ytbhgbgaeaejnhaa.Tre
open Go.RowKit
set_option maxRecDepth 100000
theorem below_drewN (w : World) (m : Nat) : Below w.heap.size w (w.drewN m) := ⟨rfl, rfl, rfl, Nat.le_refl _, fun _ _ => rfl⟩
theorem parC_at {e : Par} {w : World} {b o : Nat} (h : ∀ (r : Nat) (u : Value), (parC e)[r]? = some u → w.cell? ⟨b, o + r, none⟩ = some u) :
    w.cell? ⟨b, o, none⟩ = some (.string e.s) ∧ w.cell? ⟨b, o + 1, none⟩ = some (.int .u8 e.t) := ⟨h 0 _ rfl, h 1 _ rfl⟩
theorem par_neq (a b : ByteArray) (s t : Int) (w : World) : (binOp .neq 64 (.agg #[.string a, .int .u8 s]) (.agg #[.string b, .int .u8 t])).run Try.prog w = .ok (.bool (!(a.toList == b.toList && s == t))) w := by
  have u9 := Try.underlying9
  have u33 : Try.prog.underlying 31 = some (.int .u8) := by kernel_rfl
  have a9 := Try.isAgg9
  have a33 := Try.isAgg31
  have z9 := Try.sizeOf9
  have z33 := Try.sizeOf31
  have hS : Try.prog.underlying 64 = some (.struct (Try.prog.fieldsOf 64)) := by kernel_rfl
  have hp : Try.prog.stoodInHeld 64 = false := by kernel_rfl
  rw [run_neq_struct, show (10000 : Nat) = 9999 + 1 from rfl, run_equalIn_agg w 9999 64 _ _ hS hp]
  simp only [Program.fieldsOf, Try.underlying64]
  go_simp
  by_cases h1 : a.toList = b.toList <;> by_cases h2 : s = t <;> simp [h1, h2]
theorem par_guard (op : BinOp) (x y : Operand) (xs ys : Array Value) (w : World) : (eqGuard op 64 x y (.agg xs) (.agg ys)).run Try.prog w = .ok () w := run_eqGuard_agg w op _ x y xs ys (by kernel_rfl)
end Go.Proofs.Ytbhgbgaeaejnhaa.Tre
/- Decimal numerals as lists of bytes: what a text tells as a number, what a number's text is, and that the one is the other's way back. No program in this text. -/
namespace Go.Proofs.Ytbhgbgaeaejnhaa.Num
open Go.Lib

def isDig (c : UInt8) : Bool := decide (48 ≤ c.toNat ∧ c.toNat ≤ 57)
/-- The number of digits, the first ahead. -/
def val (l : List UInt8) : Nat := l.foldl (fun n c => 10 * n + (c.toNat - 48)) 0
def bad (l : List UInt8) : Bool := decide (l.length < 1 ∨ 19 < l.length ∨ (1 < l.length ∧ l.head? = some 48))
/-- What Read answers. -/
def readV (l : List UInt8) : Int × Bool :=
  if bad l = true then (0, false) else if l.all isDig = true then (if 9223372036854775807 < val l then (0, false) else ((val l : Int), true)) else (0, false)

theorem val_nil : val [] = 0 := rfl
theorem val_snoc (l : List UInt8) (c : UInt8) : val (l ++ [c]) = 10 * val l + (c.toNat - 48) := by simp [val, List.foldl_append]
theorem toNat_dig (d : Nat) (h : d < 10) : (UInt8.ofNat (48 + d)).toNat = 48 + d := by simp; omega
theorem isDig_dig (d : Nat) (h : d < 10) : isDig (UInt8.ofNat (48 + d)) = true := by
  unfold isDig; rw [toNat_dig d h]; simp; omega

theorem decDigits_lt {u : Nat} (h : u < 10) : decDigits u = [UInt8.ofNat (48 + u)] := by rw [decDigits, dif_pos h]
theorem decDigits_ge {u : Nat} (h : ¬ u < 10) : decDigits u = decDigits (u / 10) ++ [UInt8.ofNat (48 + u % 10)] := by rw [decDigits, dif_neg h]

theorem val_decDigits (u : Nat) : val (decDigits u) = u := by
  induction u using Nat.strongRecOn with
  | _ u ih =>
    by_cases h : u < 10
    · rw [decDigits_lt h]
      have := toNat_dig u h
      simp [val] at this ⊢
      omega
    · rw [decDigits_ge h, val_snoc, ih (u / 10) (by omega), toNat_dig _ (Nat.mod_lt _ (by omega))]
      omega
theorem all_decDigits (u : Nat) : (decDigits u).all isDig = true := by
  induction u using Nat.strongRecOn with
  | _ u ih =>
    by_cases h : u < 10
    · rw [decDigits_lt h, List.all_cons, isDig_dig u h, List.all_nil]; rfl
    · rw [decDigits_ge h, List.all_append, ih (u / 10) (by omega), List.all_cons, isDig_dig _ (Nat.mod_lt u (show 10 > 0 by omega)), List.all_nil]
      rfl
theorem decDigits_ne (u : Nat) : decDigits u ≠ [] := by
  by_cases h : u < 10
  · rw [decDigits_lt h]; simp
  · rw [decDigits_ge h]; simp
/-- A numeral's first digit is no 0, unless the number is 0. -/
theorem head_decDigits (u : Nat) (hu : 0 < u) : (decDigits u).head? ≠ some 48 := by
  induction u using Nat.strongRecOn with
  | _ u ih =>
    by_cases h : u < 10
    · rw [decDigits_lt h]
      simp only [List.head?_cons, ne_eq, Option.some.injEq]
      intro e
      have := congrArg UInt8.toNat e
      rw [toNat_dig u h] at this
      simp at this
      omega
    · rw [decDigits_ge h]
      have := ih (u / 10) (by omega) (by omega)
      cases hd : decDigits (u / 10) with
      | nil => exact absurd hd (decDigits_ne _)
      | cons a r => rw [hd] at this; simpa using this
theorem length_decDigits (u : Nat) (h : u ≤ 9223372036854775807) : 1 ≤ (decDigits u).length ∧ (decDigits u).length ≤ 19 := by
  rw [decDigits_length]
  refine ⟨nDigits_pos u, ?_⟩
  apply Classical.byContradiction
  intro hn
  have h2 : ∀ k v : Nat, k < nDigits v → 10 ^ k ≤ v ∨ k = 0 := by
    intro k
    induction k with
    | zero => intro v _; exact Or.inr rfl
    | succ k ih =>
      intro v hv
      by_cases hs : v < 10
      · rw [nDigits_small hs] at hv; omega
      · rw [nDigits_big hs] at hv
        rcases ih (v / 10) (by omega) with h3 | h3
        · left; rw [Nat.pow_succ]; omega
        · subst h3; left; simp; omega
  have := h2 19 u (by omega)
  omega

/-- Read of the text of a number that is not below 0 is the number. -/
theorem readV_nat (u : Nat) (h : u ≤ 9223372036854775807) : readV (decDigits u) = ((u : Int), true) := by
  have hl := length_decDigits u h
  have hb : bad (decDigits u) = false := by
    unfold bad
    rw [decide_eq_false_iff_not]
    rintro (h1 | h1 | ⟨h1, h2⟩)
    · omega
    · omega
    · by_cases hu : u = 0
      · subst hu; rw [decDigits_lt (by omega)] at h1; simp at h1
      · exact head_decDigits u (by omega) h2
  unfold readV
  rw [hb, if_neg (by simp), if_pos (all_decDigits u), val_decDigits, if_neg (by omega)]
theorem readV_itoa (n : Int) (h : n ≤ 9223372036854775807) : readV (itoa n) = if 0 ≤ n then (n, true) else (0, false) := by
  unfold itoa
  by_cases hn : n < 0
  · rw [if_pos hn, if_neg (by omega)]
    unfold readV
    have : (45 :: decDigits n.natAbs).all isDig = false := by simp [isDig]
    rw [this]
    simp
  · rw [if_neg hn, if_pos (by omega), readV_nat _ (by omega)]
    congr 1
    omega

/-- A text of digits without a needless 0 ahead is its number's text. -/
theorem decDigits_val (l : List UInt8) : l ≠ [] → l.all isDig = true → (l.length = 1 ∨ l.head? ≠ some 48) → decDigits (val l) = l := by
  suffices H : ∀ n, ∀ l : List UInt8, l.length = n → l ≠ [] → l.all isDig = true → (l.length = 1 ∨ l.head? ≠ some 48) → decDigits (val l) = l from H _ l rfl
  intro n
  induction n with
  | zero => intro l hl hne _ _; exact absurd (List.length_eq_zero_iff.1 hl) hne
  | succ n ih =>
    intro l hl hne hall hhead
    obtain ⟨r, c, rfl⟩ : ∃ r c, l = r ++ [c] := ⟨l.dropLast, l.getLast hne, (List.dropLast_concat_getLast hne).symm⟩
    rw [List.all_append, Bool.and_eq_true] at hall
    have hc : 48 ≤ c.toNat ∧ c.toNat ≤ 57 := by simpa [isDig] using hall.2
    have hcc : UInt8.ofNat (48 + (c.toNat - 48)) = c := by
      rw [show 48 + (c.toNat - 48) = c.toNat by omega]; simp
    rw [val_snoc]
    cases r with
    | nil =>
      rw [val_nil, decDigits_lt (by omega)]
      simpa using hcc
    | cons a t =>
      have hh : (a :: t).head? ≠ some 48 := by
        rcases hhead with h | h
        · simp at h
        · simpa using h
      have ht : (a :: t).length = n := by simpa using hl
      have ih' := ih (a :: t) ht (by simp) hall.1 (Or.inr hh)
      have hpos : 0 < val (a :: t) := by
        apply Classical.byContradiction
        intro h0
        rw [show val (a :: t) = 0 by omega, decDigits_lt (by omega)] at ih'
        apply hh
        rw [← ih']
        rfl
      rw [decDigits_ge (by omega), show (10 * val (a :: t) + (c.toNat - 48)) / 10 = val (a :: t) by omega, ih',
        show (10 * val (a :: t) + (c.toNat - 48)) % 10 = c.toNat - 48 by omega, hcc]
/-- The text of what is read is the text. -/
theorem itoa_readV (l : List UInt8) (h : (readV l).2 = true) : itoa (readV l).1 = l := by
  unfold readV at h ⊢
  by_cases hb : bad l = true
  · rw [if_pos hb] at h; simp at h
  rw [if_neg hb] at h ⊢
  by_cases ha : l.all isDig = true
  · rw [if_pos ha] at h ⊢
    by_cases hv : 9223372036854775807 < val l
    · rw [if_pos hv] at h; simp at h
    rw [if_neg hv]
    simp only [itoa]
    rw [if_neg (by omega), Int.toNat_natCast]
    simp only [bad, decide_eq_true_eq, not_or, not_and] at hb
    refine decDigits_val l (by intro e; subst e; simp at hb) ha ?_
    by_cases h1 : l.length = 1
    · exact Or.inl h1
    · exact Or.inr (hb.2.2 (by omega))
  · rw [if_neg ha] at h; simp at h
theorem readV_range (l : List UInt8) : 0 ≤ (readV l).1 ∧ (readV l).1 ≤ 9223372036854775807 := by
  unfold readV
  split
  · simp
  split
  · split
    · simp
    · simp; omega
  · simp
/-- Nineteen digits fit into 64 bits. -/
theorem val_lt (l : List UInt8) (h : l.all isDig = true) : val l < 10 ^ l.length := by
  suffices H : ∀ n, ∀ l : List UInt8, l.length = n → l.all isDig = true → val l < 10 ^ l.length from H _ l rfl h
  intro n
  induction n with
  | zero => intro l hl _; rw [List.length_eq_zero_iff.1 hl]; simp [val]
  | succ n ih =>
    intro l hl ha
    have hne : l ≠ [] := by intro e; subst e; simp at hl
    obtain ⟨r, c, rfl⟩ : ∃ r c, l = r ++ [c] := ⟨l.dropLast, l.getLast hne, (List.dropLast_concat_getLast hne).symm⟩
    rw [List.all_append, Bool.and_eq_true] at ha
    have hc : 48 ≤ c.toNat ∧ c.toNat ≤ 57 := by simpa [isDig] using ha.2
    have := ih r (by simpa using hl) ha.1
    rw [val_snoc, List.length_append, List.length_singleton, Nat.pow_succ]
    omega
end Go.Proofs.Ytbhgbgaeaejnhaa.Num
/- The words of a text as plain mathematics: lists of bytes, no program. No condition. -/
namespace Go.Proofs.Ytbhgbgaeaejnhaa.Lex
/-- A word: its kind, its text, its number. -/
structure Wd where
  k : Int
  s : List UInt8
  n : Int
deriving DecidableEq
def dig (c : UInt8) : Bool := Num.isDig c
def great (c : UInt8) : Bool := decide (65 ≤ c.toNat ∧ c.toNat ≤ 90)
def small (c : UInt8) : Bool := decide (97 ≤ c.toNat ∧ c.toNat ≤ 122)
def nameB (c : UInt8) : Bool := small c || great c || dig c || decide (c.toNat = 95)
def notNL (c : UInt8) : Bool := decide (c.toNat ≠ 10)
def blank (c : UInt8) : Bool := decide (c.toNat = 32 ∨ c.toNat = 9 ∨ c.toNat = 13)
def rowN (p : UInt8 → Bool) (l : List UInt8) : Nat := (l.takeWhile p).length
/-- Keys: package import func if else for return print break continue int bool true false. -/
def keysL : List (List UInt8) := [[112, 97, 99, 107, 97, 103, 101], [105, 109, 112, 111, 114, 116], [102, 117, 110, 99], [105, 102], [101, 108, 115, 101], [102, 111, 114], [114, 101, 116, 117, 114, 110], [112, 114, 105, 110, 116], [98, 114, 101, 97, 107], [99, 111, 110, 116, 105, 110, 117, 101], [105, 110, 116], [98, 111, 111, 108], [116, 114, 117, 101], [102, 97, 108, 115, 101]]
def keyB (s : List UInt8) : Bool := keysL.contains s
def endsL : List (List UInt8) := [[41], [125], [114, 101, 116, 117, 114, 110], [98, 114, 101, 97, 107], [99, 111, 110, 116, 105, 110, 117, 101], [105, 110, 116], [98, 111, 111, 108], [116, 114, 117, 101], [102, 97, 108, 115, 101]]
def mayB (w : Wd) : Bool := decide (w.k = 1) || decide (w.k = 2) || decide (w.k = 3) || endsL.contains w.s
def nameOk (s : List UInt8) : Bool := !decide (s = []) && !decide (16 < s.length) && !keyB s && !(match s with | [] => false | c :: _ => dig c) && s.all nameB
/-- What may stand between quotes. -/
def textOk (s : List UInt8) : Bool := nameOk s || keyB s
def signsL : List (List UInt8) := [[40], [41], [123], [125], [44], [59], [46], [58, 61], [61], [61, 61], [33, 61], [60], [60, 61], [62], [62, 61], [43], [45], [42], [47], [37], [33], [38, 38], [124, 124]]
def better (l best s : List UInt8) : List UInt8 := if best.length < s.length ∧ s.isPrefixOf l = true then s else best
def longest (l : List UInt8) : List UInt8 := signsL.foldl (better l) []
def semi : Wd := ⟨5, [59], 0⟩
def endLn (ws : List Wd) : List Wd := match ws.getLast? with | some w => if mayB w = true then ws ++ [semi] else ws | none => ws
/-- What stands before the first quote; none, if there is none. -/
def cutQ (l : List UInt8) : Option (List UInt8) := if (l.takeWhile fun c => decide (c.toNat ≠ 34)).length < l.length then some (l.takeWhile fun c => decide (c.toNat ≠ 34)) else none
/-- What stands behind a step: an error's number (0: none), what is left of the text, the words. -/
structure St where
  e : Int
  l : List UInt8
  ws : List Wd
def numS (l : List UInt8) (ws : List Wd) : St :=
  let s := l.take (rowN dig l); let r := l.drop (rowN dig l)
  if (Num.readV s).2 = true then ⟨0, r, ws ++ [⟨2, [], (Num.readV s).1⟩]⟩ else if l.head? = some 48 then ⟨7, r, ws⟩ else ⟨11, r, ws⟩
def nameS (l : List UInt8) (ws : List Wd) : St :=
  let s := l.take (rowN nameB l); let r := l.drop (rowN nameB l)
  if 16 < rowN nameB l then ⟨11, r, ws⟩ else ⟨0, r, ws ++ [⟨if keyB s = true then 4 else 1, s, 0⟩]⟩
def textS (l : List UInt8) (ws : List Wd) : St :=
  match cutQ (l.drop 1) with
  | some s => if textOk s = true then ⟨0, l.drop (s.length + 2), ws ++ [⟨3, s, 0⟩]⟩ else ⟨7, l, ws⟩
  | none => ⟨7, l, ws⟩
def signS (l : List UInt8) (ws : List Wd) : St :=
  if longest l = [] then ⟨7, l, ws⟩ else ⟨0, l.drop (longest l).length, ws ++ [⟨5, longest l, 0⟩]⟩
/-- One step of the reader, of a text that is not empty. -/
def step (l : List UInt8) (ws : List Wd) : St :=
  match l with
  | [] => ⟨0, [], ws⟩
  | c :: r =>
    if c.toNat = 10 then ⟨0, r, endLn ws⟩
    else if blank c = true then ⟨0, r, ws⟩
    else if [47, 47].isPrefixOf (c :: r) = true then ⟨0, (c :: r).drop (rowN notNL (c :: r)), ws⟩
    else if dig c = true then numS (c :: r) ws
    else if nameB c = true then nameS (c :: r) ws
    else if c.toNat = 34 then textS (c :: r) ws
    else signS (c :: r) ws
/-- All steps; fuel: as many as the text has bytes. -/
def run : Nat → List UInt8 → List Wd → Int × List Wd
  | 0, _, ws => (0, ws)
  | n + 1, l, ws => if l = [] then (0, ws) else if (step l ws).e = 0 then run n (step l ws).l (step l ws).ws else ((step l ws).e, [])
/-- What Words answers. -/
def words (t : List UInt8) : List Wd × Int :=
  if 4096 < t.length then ([], 11)
  else if (run t.length t []).1 = 0 then (if 2048 < (endLn (run t.length t []).2).length then ([], 11) else (endLn (run t.length t []).2, 0))
  else ([], (run t.length t []).1)
def quoted (s : List UInt8) : List UInt8 := [34] ++ s ++ [34]
/-- What Show answers. -/
def shown (w : Wd) : List UInt8 :=
  if w.k = 1 ∨ w.k = 4 ∨ w.k = 5 then w.s
  else if w.k = 3 then quoted w.s
  else if w.k = 2 ∧ 0 ≤ w.n then Lib.itoa w.n
  else []

theorem rowN_le (p : UInt8 → Bool) (l : List UInt8) : rowN p l ≤ l.length := by
  unfold rowN
  have := (List.takeWhile_sublist p (l := l)).length_le
  omega
theorem rowN_pos {p : UInt8 → Bool} {c : UInt8} {r : List UInt8} (h : p c = true) : 1 ≤ rowN p (c :: r) := by
  unfold rowN
  rw [List.takeWhile_cons, if_pos h]
  simp
theorem take_rowN (p : UInt8 → Bool) (l : List UInt8) : l.take (rowN p l) = l.takeWhile p := by
  unfold rowN
  induction l with
  | nil => rfl
  | cons c r ih =>
    rw [List.takeWhile_cons]
    split
    · simp [ih]
    · simp
theorem longest_mem (l : List UInt8) : longest l = [] ∨ (longest l ∈ signsL ∧ (longest l).isPrefixOf l = true) := by
  unfold longest
  suffices h : ∀ (ss best : List (List UInt8)) (b : List UInt8), (∀ s ∈ ss, s ∈ signsL) → (b = [] ∨ (b ∈ signsL ∧ b.isPrefixOf l = true)) → (ss.foldl (better l) b = [] ∨ (ss.foldl (better l) b ∈ signsL ∧ (ss.foldl (better l) b).isPrefixOf l = true)) from h signsL [] [] (fun _ h => h) (.inl rfl)
  intro ss _
  induction ss with
  | nil => intro b _ h; exact h
  | cons s ss ih =>
    intro b hs hb
    refine ih _ (fun x hx => hs x (by simp [hx])) ?_
    unfold better
    split
    · rename_i h; exact .inr ⟨hs s (by simp), h.2⟩
    · exact hb
theorem signs_len {s : List UInt8} (h : s ∈ signsL) : 1 ≤ s.length ∧ s.length ≤ 2 := by
  have : ∀ s ∈ signsL, 1 ≤ s.length ∧ s.length ≤ 2 := by decide
  exact this s h
/-- A step takes a byte at least, and leaves no more than a word and a sign. -/
theorem step_less (l : List UInt8) (ws : List Wd) (hl : l ≠ []) (he : (step l ws).e = 0) : (step l ws).l.length < l.length := by
  cases l with
  | nil => exact absurd rfl hl
  | cons c r =>
    revert he
    unfold step
    dsimp only
    split
    · intro _; simp
    split
    · intro _; simp
    split
    · rename_i h
      intro _
      have : 1 ≤ rowN notNL (c :: r) := rowN_pos (by
        have : c = 47 := by simp [List.isPrefixOf] at h; exact h.1.symm
        subst this; decide)
      have := rowN_le notNL (c :: r)
      simp only [List.length_drop]
      simp only [List.length_cons] at *
      omega
    split
    · rename_i h
      unfold numS
      have := rowN_pos (r := r) h
      have := rowN_le dig (c :: r)
      dsimp only
      split
      · intro _; simp only [List.length_drop]; simp only [List.length_cons] at *; omega
      split
      · intro h; cases h
      · intro h; cases h
    split
    · rename_i h
      unfold nameS
      have := rowN_pos (r := r) h
      have := rowN_le nameB (c :: r)
      dsimp only
      split
      · intro h; cases h
      · intro _; simp only [List.length_drop]; simp only [List.length_cons] at *; omega
    split
    · unfold textS
      split
      · split
        · intro _; simp only [List.length_drop, List.length_cons]; omega
        · intro h; cases h
      · intro h; cases h
    · unfold signS
      split
      · intro h; cases h
      · rename_i h
        intro _
        rcases longest_mem (c :: r) with h1 | h1
        · exact absurd h1 h
        · have := (signs_len h1.1).1
          simp only [List.length_drop, List.length_cons]
          omega
theorem endLn_len (ws : List Wd) : ws.length ≤ (endLn ws).length ∧ (endLn ws).length ≤ ws.length + 1 := by
  unfold endLn
  split
  · split <;> simp
  · simp
theorem step_ws (l : List UInt8) (ws : List Wd) : (step l ws).ws.length ≤ ws.length + 1 := by
  unfold step
  split
  · simp
  split
  · exact (endLn_len ws).2
  split
  · simp
  split
  · simp
  split
  · unfold numS; dsimp only; split
    · simp
    split <;> simp
  split
  · unfold nameS; dsimp only; split <;> simp
  split
  · unfold textS; split
    · split <;> simp
    · simp
  · unfold signS; split <;> simp
end Go.Proofs.Ytbhgbgaeaejnhaa.Lex
/- What makes a tree right, as plain mathematics. No condition. -/
namespace Go.Proofs.Ytbhgbgaeaejnhaa.Tre
set_option maxRecDepth 100000
def nameB (s : ByteArray) : Bool := Lex.nameOk s.data.toList
def wordB (s : ByteArray) : Bool := nameB s || Lex.keyB s.data.toList
def partsI (op : Int) : Int := if op == 1 || op == 2 || op == 3 then 0 else if op == 5 || op == 6 then 1 else if decide (7 ≤ op) && decide (op ≤ 19) then 2 else -1
def numOk (e : Ex) : Bool := if e.op == 1 then decide (0 ≤ e.n) else if e.op == 2 then e.n == 0 || e.n == 1 else e.n == 0
def namesOk (e : Ex) : Bool := if e.op == 3 then nameB e.s && e.q.toList == [] else if e.op == 4 then nameB e.s && (e.q.toList == [] || nameB e.q) else e.s.toList == [] && e.q.toList == []
def partsOk (e : Ex) : Bool := if e.op == 4 then decide (e.x.length ≤ 255) else (e.x.length : Int) == partsI e.op
def rX (e : Ex) : Bool := numOk e && namesOk e && partsOk e
def rExpr (e : Ex) : Bool := (flat e).all rX
def targetOk (s : St) : Bool := if s.op == 1 || s.op == 2 then nameB s.s else s.s.toList == []
def blocksOk (s : St) : Bool := if s.op == 3 then true else if s.op == 4 then s.b2.length == 0 else s.b.length == 0 && s.b2.length == 0
def askedOk (s : St) : Bool :=
  if s.op == 1 || s.op == 2 || s.op == 3 || s.op == 4 || s.op == 6 then rExpr s.e else if s.op == 5 then zeroX s.e || rExpr s.e else if s.op == 7 then s.e.op == 4 && rExpr s.e else if s.op == 8 || s.op == 9 then zeroX s.e else false
def rStmt (s : St) : Bool := targetOk s && blocksOk s && askedOk s
def valB (t : Int) : Bool := t == 1 || t == 2
def wPar (p : Par) : Bool := !nameB p.s || !valB p.t
def wFn (f : Fn) : Bool := !nameB f.s || decide (4 < f.p.length) || f.p.any wPar || (!(f.r == 0) && !valB f.r) || !(flatB f.b).all rStmt
def rHead (f : Fl) : Bool := wordB f.s && decide (f.i.length ≤ 8) && decide (f.f.length ≤ 32) && !f.i.any (fun s => !wordB s)
def rFile (f : Fl) : Bool := rHead f && !f.f.any wFn
end Go.Proofs.Ytbhgbgaeaejnhaa.Tre
