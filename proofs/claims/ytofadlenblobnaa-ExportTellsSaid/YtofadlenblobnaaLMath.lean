/-
  The words of a text as plain mathematics: lists of bytes, no program. No condition.
-/
import Derived.Test.YtofadlenblobnaaNMath
import Derived.Lib.Strings
namespace Go.Proofs.Ytofadlenblobnaa.Lex
/-- A word: its kind, its text, its number. -/
structure Wd where
  k : Int
  s : List UInt8
  n : Int
deriving DecidableEq
def dig (c : UInt8) : Bool := Num.isDig c
def great (c : UInt8) : Bool := decide (65 ≤ c.toNat ∧ c.toNat ≤ 90)
def small (c : UInt8) : Bool := decide (97 ≤ c.toNat ∧ c.toNat ≤ 122)
def nameB (c : UInt8) : Bool := small c || great c || dig c || decide (c.toNat = 95)
def notNL (c : UInt8) : Bool := decide (c.toNat ≠ 10)
def blank (c : UInt8) : Bool := decide (c.toNat = 32 ∨ c.toNat = 9 ∨ c.toNat = 13)
def rowN (p : UInt8 → Bool) (l : List UInt8) : Nat := (l.takeWhile p).length
/-- Keys: package import func if else for return print break continue int bool true false. -/
def keysL : List (List UInt8) := [[112, 97, 99, 107, 97, 103, 101], [105, 109, 112, 111, 114, 116], [102, 117, 110, 99], [105, 102], [101, 108, 115, 101], [102, 111, 114], [114, 101, 116, 117, 114, 110], [112, 114, 105, 110, 116], [98, 114, 101, 97, 107], [99, 111, 110, 116, 105, 110, 117, 101], [105, 110, 116], [98, 111, 111, 108], [116, 114, 117, 101], [102, 97, 108, 115, 101]]
def keyB (s : List UInt8) : Bool := keysL.contains s
def endsL : List (List UInt8) := [[41], [125], [114, 101, 116, 117, 114, 110], [98, 114, 101, 97, 107], [99, 111, 110, 116, 105, 110, 117, 101], [105, 110, 116], [98, 111, 111, 108], [116, 114, 117, 101], [102, 97, 108, 115, 101]]
def mayB (w : Wd) : Bool := decide (w.k = 1) || decide (w.k = 2) || decide (w.k = 3) || endsL.contains w.s
def nameOk (s : List UInt8) : Bool := !decide (s = []) && !decide (16 < s.length) && !keyB s && !(match s with | [] => false | c :: _ => dig c) && s.all nameB
/-- What may stand between quotes. -/
def textOk (s : List UInt8) : Bool := nameOk s || keyB s
def signsL : List (List UInt8) := [[40], [41], [123], [125], [44], [59], [46], [58, 61], [61], [61, 61], [33, 61], [60], [60, 61], [62], [62, 61], [43], [45], [42], [47], [37], [33], [38, 38], [124, 124]]
def better (l best s : List UInt8) : List UInt8 := if best.length < s.length ∧ s.isPrefixOf l = true then s else best
def longest (l : List UInt8) : List UInt8 := signsL.foldl (better l) []
def semi : Wd := ⟨5, [59], 0⟩
def endLn (ws : List Wd) : List Wd := match ws.getLast? with | some w => if mayB w = true then ws ++ [semi] else ws | none => ws
/-- What stands before the first quote; none, if there is none. -/
def cutQ (l : List UInt8) : Option (List UInt8) := if (l.takeWhile fun c => decide (c.toNat ≠ 34)).length < l.length then some (l.takeWhile fun c => decide (c.toNat ≠ 34)) else none
/-- What stands behind a step: an error's number (0: none), what is left of the text, the words. -/
structure St where
  e : Int
  l : List UInt8
  ws : List Wd
def numS (l : List UInt8) (ws : List Wd) : St :=
  let s := l.take (rowN dig l); let r := l.drop (rowN dig l)
  if (Num.readV s).2 = true then ⟨0, r, ws ++ [⟨2, [], (Num.readV s).1⟩]⟩ else if l.head? = some 48 then ⟨7, r, ws⟩ else ⟨11, r, ws⟩
def nameS (l : List UInt8) (ws : List Wd) : St :=
  let s := l.take (rowN nameB l); let r := l.drop (rowN nameB l)
  if 16 < rowN nameB l then ⟨11, r, ws⟩ else ⟨0, r, ws ++ [⟨if keyB s = true then 4 else 1, s, 0⟩]⟩
def textS (l : List UInt8) (ws : List Wd) : St :=
  match cutQ (l.drop 1) with
  | some s => if textOk s = true then ⟨0, l.drop (s.length + 2), ws ++ [⟨3, s, 0⟩]⟩ else ⟨7, l, ws⟩
  | none => ⟨7, l, ws⟩
def signS (l : List UInt8) (ws : List Wd) : St :=
  if longest l = [] then ⟨7, l, ws⟩ else ⟨0, l.drop (longest l).length, ws ++ [⟨5, longest l, 0⟩]⟩
/-- One step of the reader, of a text that is not empty. -/
def step (l : List UInt8) (ws : List Wd) : St :=
  match l with
  | [] => ⟨0, [], ws⟩
  | c :: r =>
    if c.toNat = 10 then ⟨0, r, endLn ws⟩
    else if blank c = true then ⟨0, r, ws⟩
    else if [47, 47].isPrefixOf (c :: r) = true then ⟨0, (c :: r).drop (rowN notNL (c :: r)), ws⟩
    else if dig c = true then numS (c :: r) ws
    else if nameB c = true then nameS (c :: r) ws
    else if c.toNat = 34 then textS (c :: r) ws
    else signS (c :: r) ws
/-- All steps; fuel: as many as the text has bytes. -/
def run : Nat → List UInt8 → List Wd → Int × List Wd
  | 0, _, ws => (0, ws)
  | n + 1, l, ws => if l = [] then (0, ws) else if (step l ws).e = 0 then run n (step l ws).l (step l ws).ws else ((step l ws).e, [])
/-- What Words answers. -/
def words (t : List UInt8) : List Wd × Int :=
  if 4096 < t.length then ([], 11)
  else if (run t.length t []).1 = 0 then (if 2048 < (endLn (run t.length t []).2).length then ([], 11) else (endLn (run t.length t []).2, 0))
  else ([], (run t.length t []).1)
def quoted (s : List UInt8) : List UInt8 := [34] ++ s ++ [34]
/-- What Show answers. -/
def shown (w : Wd) : List UInt8 :=
  if w.k = 1 ∨ w.k = 4 ∨ w.k = 5 then w.s
  else if w.k = 3 then quoted w.s
  else if w.k = 2 ∧ 0 ≤ w.n then Lib.itoa w.n
  else []

theorem rowN_le (p : UInt8 → Bool) (l : List UInt8) : rowN p l ≤ l.length := by
  unfold rowN
  have := (List.takeWhile_sublist p (l := l)).length_le
  omega
theorem rowN_pos {p : UInt8 → Bool} {c : UInt8} {r : List UInt8} (h : p c = true) : 1 ≤ rowN p (c :: r) := by
  unfold rowN
  rw [List.takeWhile_cons, if_pos h]
  simp
theorem take_rowN (p : UInt8 → Bool) (l : List UInt8) : l.take (rowN p l) = l.takeWhile p := by
  unfold rowN
  induction l with
  | nil => rfl
  | cons c r ih =>
    rw [List.takeWhile_cons]
    split
    · simp [ih]
    · simp
theorem longest_mem (l : List UInt8) : longest l = [] ∨ (longest l ∈ signsL ∧ (longest l).isPrefixOf l = true) := by
  unfold longest
  suffices h : ∀ (ss best : List (List UInt8)) (b : List UInt8), (∀ s ∈ ss, s ∈ signsL) → (b = [] ∨ (b ∈ signsL ∧ b.isPrefixOf l = true)) → (ss.foldl (better l) b = [] ∨ (ss.foldl (better l) b ∈ signsL ∧ (ss.foldl (better l) b).isPrefixOf l = true)) from h signsL [] [] (fun _ h => h) (.inl rfl)
  intro ss _
  induction ss with
  | nil => intro b _ h; exact h
  | cons s ss ih =>
    intro b hs hb
    refine ih _ (fun x hx => hs x (by simp [hx])) ?_
    unfold better
    split
    · rename_i h; exact .inr ⟨hs s (by simp), h.2⟩
    · exact hb
theorem signs_len {s : List UInt8} (h : s ∈ signsL) : 1 ≤ s.length ∧ s.length ≤ 2 := by
  have : ∀ s ∈ signsL, 1 ≤ s.length ∧ s.length ≤ 2 := by decide
  exact this s h
/-- A step takes a byte at least, and leaves no more than a word and a sign. -/
theorem step_less (l : List UInt8) (ws : List Wd) (hl : l ≠ []) (he : (step l ws).e = 0) : (step l ws).l.length < l.length := by
  cases l with
  | nil => exact absurd rfl hl
  | cons c r =>
    revert he
    unfold step
    dsimp only
    split
    · intro _; simp
    split
    · intro _; simp
    split
    · rename_i h
      intro _
      have : 1 ≤ rowN notNL (c :: r) := rowN_pos (by
        have : c = 47 := by simp [List.isPrefixOf] at h; exact h.1.symm
        subst this; decide)
      have := rowN_le notNL (c :: r)
      simp only [List.length_drop]
      simp only [List.length_cons] at *
      omega
    split
    · rename_i h
      unfold numS
      have := rowN_pos (r := r) h
      have := rowN_le dig (c :: r)
      dsimp only
      split
      · intro _; simp only [List.length_drop]; simp only [List.length_cons] at *; omega
      split
      · intro h; cases h
      · intro h; cases h
    split
    · rename_i h
      unfold nameS
      have := rowN_pos (r := r) h
      have := rowN_le nameB (c :: r)
      dsimp only
      split
      · intro h; cases h
      · intro _; simp only [List.length_drop]; simp only [List.length_cons] at *; omega
    split
    · unfold textS
      split
      · split
        · intro _; simp only [List.length_drop, List.length_cons]; omega
        · intro h; cases h
      · intro h; cases h
    · unfold signS
      split
      · intro h; cases h
      · rename_i h
        intro _
        rcases longest_mem (c :: r) with h1 | h1
        · exact absurd h1 h
        · have := (signs_len h1.1).1
          simp only [List.length_drop, List.length_cons]
          omega
theorem endLn_len (ws : List Wd) : ws.length ≤ (endLn ws).length ∧ (endLn ws).length ≤ ws.length + 1 := by
  unfold endLn
  split
  · split <;> simp
  · simp
theorem step_ws (l : List UInt8) (ws : List Wd) : (step l ws).ws.length ≤ ws.length + 1 := by
  unfold step
  split
  · simp
  split
  · exact (endLn_len ws).2
  split
  · simp
  split
  · simp
  split
  · unfold numS; dsimp only; split
    · simp
    split <;> simp
  split
  · unfold nameS; dsimp only; split <;> simp
  split
  · unfold textS; split
    · split <;> simp
    · simp
  · unfold signS; split <;> simp
end Go.Proofs.Ytofadlenblobnaa.Lex
