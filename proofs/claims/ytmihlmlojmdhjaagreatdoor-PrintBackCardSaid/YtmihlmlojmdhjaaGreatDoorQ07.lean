/-
  What the program's parser tells against the plain grammar: expressions. No condition.
-/
import Derived.Test.YtmihlmlojmdhjaaGreatDoorQ05
import Derived.Test.YtmihlmlojmdhjaaGreatDoorQ06
import Derived.Test.YtmihlmlojmdhjaaGreatDoorChecked
import Derived.Below
import Derived.Lib.Hide
import Derived.WalkKit
import Derived.RangeFuncRecord
import Derived.LoopTactic
import Derived.Laws.StructEq
import Derived.Deep.QuietTactic
import Derived.BigQuiet
import Derived.Lib.Strings
namespace Go.Proofs.YtmihlmlojmdhjaaGreatDoor.Prg
open Tre Prs
set_option maxRecDepth 100000
/-- The reader fails: no words are left. -/
def failR (r : PS) : PS := ⟨[], true, r.big⟩
def mustP (r : PS) (s : List UInt8) : PS := if isW r s then tl r else failR r
def takeW (r : PS) (ks : List Int) : Lex.Wd := if ks.contains (peek r).k then peek r else zeroW
def takeR (r : PS) (ks : List Int) : PS := if ks.contains (peek r).k then tl r else failR r
def boundR (r : PS) (n m : Nat) : PS := ⟨r.l, r.bad, r.big || decide (m < n)⟩
/-- The words that count, and whether the reader still reads. -/
def lenB (r : PS) : Nat := if r.bad then 0 else r.l.length + 1
theorem isW_bad {r : PS} (h : r.bad = true) (s : List UInt8) : isW r s = false := by
  cases hi : isW r s with
  | false => rfl
  | true => have := (isW_pos hi).2; rw [h] at this; cases this
theorem peek_bad {r : PS} (h : r.bad = true) : peek r = zeroW := by simp [peek, h]
theorem mustW_bad {r : PS} (h : r.bad = true) (s : List UInt8) : (mustW r s).bad = true := by unfold mustW; rw [isW_bad h]; rfl
theorem wordR_bad {r : PS} (h : r.bad = true) (k : Int) (key : Bool) (hk : k ≠ 0) : (wordR r k key).bad = true := by
  unfold wordR wordNo
  rw [peek_bad h]
  have : ((zeroW.k != k) && !(key && zeroW.k == 4)) = true := by
    have h1 : (zeroW.k != k) = true := by simp [zeroW]; omega
    rw [h1]; simp [zeroW]
  rw [if_pos this]; rfl
theorem run_bad : ∀ (n : Nat) (j : Job) (r : PS), r.bad = true → (run n j r).2.bad = true
  | 0, _, _, h => h
  | n + 1, .row k, r, h => by
    unfold run
    split
    · exact run_bad n _ _ h
    · exact run_bad n _ _ (run_bad n _ _ h)
  | n + 1, .rest k x, r, h => by
    unfold run
    rw [if_pos h]
    exact h
  | n + 1, .unary, r, h => by
    have hw := wordR_bad h 1 false (by decide)
    unfold run
    rw [isW_bad h, isW_bad h, isW_bad h, isW_bad h, isW_bad h, peek_bad h, isW_bad hw, isW_bad hw]
    simp only [Bool.false_eq_true, if_false, Bool.or_false]
    have : (zeroW.k == 2) = false := rfl
    rw [this]
    exact hw
  | n + 1, .call s, r, h => by
    unfold run
    rw [isW_bad h]
    simp only [Bool.false_eq_true, if_false]
    exact run_bad n _ _ (mustW_bad h _)
  | n + 1, .args q s x, r, h => by
    unfold run
    rw [h]
    simp only [Bool.true_or, if_true]
    exact mustW_bad h _
theorem tell_bad {j : Job} {r : PS} (h : r.bad = true) : (tell j r).2.bad = true := run_bad _ _ _ h
/-- What was told agrees with the plain grammar. -/
def Ag {α : Type} (p : α × PS) (t : α) (r : PS) : Prop := (p.2.bad = true ∧ r.bad = true) ∨ (p.2.bad = false ∧ t = p.1 ∧ r = p.2)
theorem Ag.refl {α : Type} (t : α) (r : PS) : Ag (t, r) t r := by
  cases h : r.bad with
  | true => exact .inl ⟨h, h⟩
  | false => exact .inr ⟨h, rfl, rfl⟩
theorem Ag.wrap {α β : Type} {p : α × PS} {t : α} {r : PS} (f : α → β) (h : Ag p t r) : Ag (f p.1, p.2) (f t) r := by
  rcases h with h | ⟨h1, h2, h3⟩
  · exact .inl h
  · exact .inr ⟨h1, by rw [h2], h3⟩
theorem ag_fail {α : Type} {x t : α} {r r' : PS} (h : r.bad = true) (h' : r'.bad = true) : Ag (x, r) t r' := .inl ⟨h, h'⟩
theorem ag_must {α : Type} {p : α × PS} {t : α} {r : PS} (h : Ag p t r) (s : List UInt8) : Ag (p.1, mustW p.2 s) t (mustP r s) := by
  rcases h with ⟨h1, h2⟩ | ⟨h1, h2, h3⟩
  · exact .inl ⟨mustW_bad h1 s, by unfold mustP; rw [isW_bad h2]; rfl⟩
  · subst h3; subst h2
    unfold mustW mustP
    split
    · exact Ag.refl _ _
    · exact .inl ⟨rfl, rfl⟩
theorem takeR_word (r : PS) : (wordR r 1 false).bad = (takeR r [1]).bad ∧ ((takeR r [1]).bad = false → wordR r 1 false = takeR r [1] ∧ wordS r 1 false = (takeW r [1]).s) := by
  unfold wordR takeR wordS takeW wordNo
  have e : ([1] : List Int).contains (peek r).k = ((peek r).k == 1) := by simp [List.contains, List.elem]; cases hq : ((peek r).k == 1) <;> simp_all
  rw [e]
  cases hk : ((peek r).k == 1) with
  | true =>
    have : (((peek r).k != 1) && !(false && (peek r).k == 4)) = false := by simp [bne, hk]
    rw [this]
    simp
  | false =>
    have : (((peek r).k != 1) && !(false && (peek r).k == 4)) = true := by simp [bne, hk]
    rw [this]
    simp [badR, failR]
theorem ag_neg {r r' : PS} {t : Tx} (hi : isW r [45] = true) (h : Ag (tell .unary (tl r)) t r') : Ag (tell .unary r) (.mk 5 0 [] [] [t]) r' := by
  rw [tell_unary, if_pos hi]
  exact h.wrap (fun x => Tx.mk 5 0 [] [] [x])
theorem ag_bang {r r' : PS} {t : Tx} (n0 : isW r [45] = false) (hi : isW r [33] = true) (h : Ag (tell .unary (tl r)) t r') : Ag (tell .unary r) (.mk 6 0 [] [] [t]) r' := by
  rw [tell_unary, if_neg (by simp [n0]), if_pos hi]
  exact h.wrap (fun x => Tx.mk 6 0 [] [] [x])
theorem ag_true {r : PS} (n0 : isW r [45] = false) (n1 : isW r [33] = false) (hi : isW r [116, 114, 117, 101] = true) : Ag (tell .unary r) (.mk 2 1 [] [] []) (tl r) := by
  rw [tell_unary, if_neg (by simp [n0]), if_neg (by simp [n1]), if_pos hi]
  exact Ag.refl _ _
theorem ag_false {r : PS} (n0 : isW r [45] = false) (n1 : isW r [33] = false) (n2 : isW r [116, 114, 117, 101] = false) (hi : isW r [102, 97, 108, 115, 101] = true) : Ag (tell .unary r) (.mk 2 0 [] [] []) (tl r) := by
  rw [tell_unary, if_neg (by simp [n0]), if_neg (by simp [n1]), if_neg (by simp [n2]), if_pos hi]
  exact Ag.refl _ _
theorem ag_par {r r' : PS} {t : Tx} (n0 : isW r [45] = false) (n1 : isW r [33] = false) (n2 : isW r [116, 114, 117, 101] = false) (n3 : isW r [102, 97, 108, 115, 101] = false) (hi : isW r [40] = true) (h : Ag (tell (.row 0) (tl r)) t r') : Ag (tell .unary r) t (mustP r' [41]) := by
  rw [tell_unary, if_neg (by simp [n0]), if_neg (by simp [n1]), if_neg (by simp [n2]), if_neg (by simp [n3]), if_pos hi]
  exact ag_must h [41]
theorem ag_num {r : PS} (n0 : isW r [45] = false) (n1 : isW r [33] = false) (n2 : isW r [116, 114, 117, 101] = false) (n3 : isW r [102, 97, 108, 115, 101] = false) (n4 : isW r [40] = false) (hk : ((peek r).k == 2) = true) : Ag (tell .unary r) (.mk 1 (takeW r [2]).n [] [] []) (takeR r [2]) := by
  rw [tell_unary, if_neg (by simp [n0]), if_neg (by simp [n1]), if_neg (by simp [n2]), if_neg (by simp [n3]), if_neg (by simp [n4]), if_pos hk]
  have e : ([2] : List Int).contains (peek r).k = true := by simpa using hk
  unfold takeW takeR
  rw [if_pos e, if_pos e]
  exact Ag.refl _ _
/-- What is left for a value: a call, or a name. -/
structure ValR (r : PS) : Prop where
  n0 : isW r [45] = false
  n1 : isW r [33] = false
  n2 : isW r [116, 114, 117, 101] = false
  n3 : isW r [102, 97, 108, 115, 101] = false
  n4 : isW r [40] = false
  nk : ((peek r).k == 2) = false
theorem ag_val {r : PS} (v : ValR r) : tell .unary r = if isW (wordR r 1 false) [40] || isW (wordR r 1 false) [46] then tell (.call (wordS r 1 false)) (wordR r 1 false) else (.mk 3 0 (wordS r 1 false) [] [], wordR r 1 false) := by
  rw [tell_unary, if_neg (by simp [v.n0]), if_neg (by simp [v.n1]), if_neg (by simp [v.n2]), if_neg (by simp [v.n3]), if_neg (by simp [v.n4]), if_neg (by simp [v.nk])]
theorem ag_name {r : PS} (v : ValR r) (i1 : isW (takeR r [1]) [46] = false) (i2 : isW (takeR r [1]) [40] = false) : Ag (tell .unary r) (.mk 3 0 (takeW r [1]).s [] []) (takeR r [1]) := by
  obtain ⟨h1, h2⟩ := takeR_word r
  rw [ag_val v]
  cases hb : (takeR r [1]).bad with
  | true =>
    rw [hb] at h1
    rw [isW_bad h1, isW_bad h1]
    exact .inl ⟨h1, hb⟩
  | false =>
    obtain ⟨e1, e2⟩ := h2 hb
    rw [e1, e2, i1, i2]
    exact Ag.refl _ _
theorem ag_value {r r' : PS} {t : Tx} (v : ValR r) (hi : isW (takeR r [1]) [46] = true ∨ isW (takeR r [1]) [40] = true) (h : Ag (tell (.call (takeW r [1]).s) (takeR r [1])) t r') : Ag (tell .unary r) t r' := by
  obtain ⟨h1, h2⟩ := takeR_word r
  rw [ag_val v]
  have hb : (takeR r [1]).bad = false := by rcases hi with hi | hi <;> exact (isW_pos hi).2
  obtain ⟨e1, e2⟩ := h2 hb
  rw [e1, e2, if_pos (by rcases hi with hi | hi <;> simp [hi])]
  exact h
/-- A list in brackets: what was told of it. -/
def AgL (r : PS) (xs : List Tx) (r' : PS) : Prop := ∀ q s, ((tell (.args q s []) (mustW r [40])).2.bad = true ∧ r'.bad = true) ∨ (r'.bad = false ∧ tell (.args q s []) (mustW r [40]) = (.mk 4 0 s q xs, boundR r' xs.length 255))
/-- What stands behind a part of a list. -/
def after (q s : List UInt8) (xs : List Tx) (r : PS) : Tx × PS :=
  if isW r [44] then (if isW (tl r) [41] then callEnd q s xs (badR (tl r)) else tell (.args q s xs) (tl r)) else callEnd q s xs r
def AgI (r : PS) (xs : List Tx) (r' : PS) : Prop := ∀ q s, ((tell (.args q s []) (mustW r [40])).2.bad = true ∧ r'.bad = true) ∨ (r'.bad = false ∧ tell (.args q s []) (mustW r [40]) = after q s xs r')
theorem mustP_mustW (r : PS) (s : List UInt8) : (mustW r s).bad = (mustP r s).bad ∧ ((mustP r s).bad = false → mustW r s = mustP r s) := by
  unfold mustW mustP
  split
  · exact ⟨rfl, fun _ => rfl⟩
  · exact ⟨rfl, fun h => by cases h⟩
theorem callEnd_bad {q s : List UInt8} {xs : List Tx} {r : PS} (h : r.bad = true) : (callEnd q s xs r).2.bad = true := mustW_bad h _
theorem after_bad {q s : List UInt8} {xs : List Tx} {r : PS} (h : r.bad = true) : (after q s xs r).2.bad = true := by
  unfold after
  rw [isW_bad h]
  exact callEnd_bad h
theorem args_bad {q s : List UInt8} {xs : List Tx} {r : PS} (h : r.bad = true) : (tell (.args q s xs) r).2.bad = true := tell_bad h
theorem agl_none {r : PS} (hi : isW (mustP r [40]) [41] = true) : AgL r [] (tl (mustP r [40])) := fun q s => by
  obtain ⟨h1, h2⟩ := mustP_mustW r [40]
  have hb := (isW_pos hi).2
  refine .inr ⟨hb, ?_⟩
  rw [h2 hb, tell_args, if_pos (by simp [hi])]
  unfold callEnd boundR mustW
  rw [if_pos hi]
theorem agi_one {r r' : PS} {x : Tx} (hi : isW (mustP r [40]) [41] = false) (h : Ag (tell (.row 0) (mustP r [40])) x r') : AgI r [x] r' := fun q s => by
  obtain ⟨h1, h2⟩ := mustP_mustW r [40]
  cases hb : (mustP r [40]).bad with
  | true =>
    rw [hb] at h1
    refine .inl ⟨args_bad h1, ?_⟩
    rcases h with h | h
    · exact h.2
    · rw [tell_bad hb] at h; cases h.1
  | false =>
    rw [h2 hb, tell_args, if_neg (by simp [hb, hi])]
    rcases h with ⟨h3, h4⟩ | ⟨h3, h4, h5⟩
    · exact .inl ⟨after_bad (q := q) (s := s) (xs := [] ++ [(tell (.row 0) (mustP r [40])).1]) h3, h4⟩
    · subst h5; subst h4
      exact .inr ⟨h3, rfl⟩
/-- No expression begins with a bracket that closes. -/
theorem row_close {r : PS} (hi : isW r [41] = true) (k : Nat) : (tell (.row k) r).2.bad = true := by
  have hl : ∀ k, 4 < k → (tell (.row k) r).2.bad = true := fun k hk => by
    rw [tell_top hk]
    have hp : (peek r).s = [41] ∧ ((peek r).k = 5 ∨ (peek r).k = 4) := by
      unfold isW at hi
      simp only [Bool.and_eq_true, Bool.or_eq_true, beq_iff_eq] at hi
      exact ⟨hi.2, hi.1⟩
    have no : ∀ s, s ≠ [41] → isW r s = false := fun s hs => by
      unfold isW
      rw [hp.1]
      have : (([41] : List UInt8) == s) = false := by simpa using fun e => hs e.symm
      rw [this]; simp
    have hw : wordR r 1 false = badR r := by
      unfold wordR wordNo
      rw [if_pos (by rcases hp.2 with e | e <;> simp [e])]
    have hk2 : ((peek r).k == 2) = false := by rcases hp.2 with e | e <;> simp [e]
    rw [tell_unary, no _ (by decide), no _ (by decide), no _ (by decide), no _ (by decide), no _ (by decide), hk2, hw, isW_bad (r := badR r) rfl, isW_bad (r := badR r) rfl]
    rfl
  have step : ∀ k, k ≤ 4 → (tell (.row (k + 1)) r).2.bad = true → (tell (.row k) r).2.bad = true := fun k hk h => by
    rw [tell_row hk]
    exact tell_bad h
  by_cases h5 : 4 < k
  · exact hl k h5
  · have h4 := step 4 (by omega) (hl 5 (by omega))
    have h3 := step 3 (by omega) h4
    have h2 := step 2 (by omega) h3
    have h1 := step 1 (by omega) h2
    have h0 := step 0 (by omega) h1
    match k, h5 with
    | 0, _ => exact h0
    | 1, _ => exact h1
    | 2, _ => exact h2
    | 3, _ => exact h3
    | 4, _ => exact h4
    | k + 5, h => exact absurd (by omega) h
theorem agi_more {r r3 r4 : PS} {xs : List Tx} {y : Tx} (h : AgI r xs r3) (hi : isW r3 [44] = true) (hy : Ag (tell (.row 0) (tl r3)) y r4) : AgI r (xs ++ [y]) r4 := fun q s => by
  have hb := (isW_pos hi).2
  rcases h q s with ⟨_, h2⟩ | ⟨h1, h2⟩
  · rw [hb] at h2; cases h2
  · rw [h2]
    unfold after
    rw [if_pos hi]
    by_cases hc : isW (tl r3) [41] = true
    · rw [if_pos hc]
      refine .inl ⟨callEnd_bad rfl, ?_⟩
      have := row_close hc 0
      rcases hy with hy | hy
      · exact hy.2
      · rw [this] at hy; cases hy.1
    · rw [if_neg hc, tell_args, if_neg (by simp [hc]; exact hb)]
      rcases hy with ⟨h3, h4⟩ | ⟨h3, h4, h5⟩
      · exact .inl ⟨after_bad (q := q) (s := s) (xs := xs ++ [(tell (.row 0) (tl r3)).1]) h3, h4⟩
      · subst h5; subst h4
        exact .inr ⟨h3, rfl⟩
theorem agl_end {r r3 : PS} {xs : List Tx} (h : AgI r xs r3) (hi : isW r3 [44] = false) : AgL r xs (mustP r3 [41]) := fun q s => by
  rcases h q s with ⟨h1, h2⟩ | ⟨h1, h2⟩
  · exact .inl ⟨h1, by unfold mustP; rw [isW_bad h2]; rfl⟩
  · rw [h2]
    unfold after
    rw [if_neg (by simp [hi])]
    unfold callEnd boundR mustW mustP
    split
    · exact .inr ⟨h1, rfl⟩
    · exact .inl ⟨rfl, rfl⟩
theorem ag_call {r r' : PS} {s0 : List UInt8} {xs : List Tx} (hi : isW r [46] = false) (h : AgL r xs r') : Ag (tell (.call s0) r) (.mk 4 0 s0 [] xs) (boundR r' xs.length 255) := by
  rw [tell_call, if_neg (by simp [hi])]
  rcases h [] s0 with ⟨h1, h2⟩ | ⟨h1, h2⟩
  · exact .inl ⟨h1, h2⟩
  · rw [h2]; exact Ag.refl _ _
theorem ag_dot {r r' : PS} {s0 : List UInt8} {xs : List Tx} (hi : isW r [46] = true) (h : AgL (takeR (tl r) [1]) xs r') : Ag (tell (.call s0) r) (.mk 4 0 (takeW (tl r) [1]).s s0 xs) (boundR r' xs.length 255) := by
  rw [tell_call, if_pos hi]
  obtain ⟨h1, h2⟩ := takeR_word (tl r)
  cases hb : (takeR (tl r) [1]).bad with
  | true =>
    rw [hb] at h1
    refine .inl ⟨args_bad (mustW_bad h1 _), ?_⟩
    rcases h s0 [] with h | h
    · exact h.2
    · have := args_bad (q := s0) (s := []) (xs := []) (mustW_bad hb [40])
      rw [h.2] at this
      exact this
  | false =>
    obtain ⟨e1, e2⟩ := h2 hb
    rw [e1, e2]
    rcases h s0 (takeW (tl r) [1]).s with ⟨h3, h4⟩ | ⟨h3, h4⟩
    · exact .inl ⟨h3, h4⟩
    · rw [h4]; exact Ag.refl _ _
/-- A row of ops: what was told so far. -/
def AgR (k : Nat) (r : PS) (x : Tx) (r' : PS) : Prop := ((tell (.row k) r).2.bad = true ∧ r'.bad = true) ∨ (r'.bad = false ∧ tell (.row k) r = tell (.rest k x) r')
def opN (k : Nat) (r : PS) : Int := match (level k).find? (fun p => isW r p.1) with | none => 0 | some p => p.2
def opR (k : Nat) (r : PS) : PS := match (level k).find? (fun p => isW r p.1) with | none => r | some _ => tl r
theorem level_pos {k : Nat} : ∀ p ∈ level k, p.2 ≠ 0 := by
  intro p hp
  unfold level at hp
  repeat' split at hp
  all_goals (simp at hp; rcases hp with rfl | hp <;> first | decide | skip)
  all_goals (first | (rcases hp with rfl | rfl | rfl | rfl | rfl <;> decide) | (rcases hp with rfl | rfl <;> decide) | (subst hp; decide))
theorem agr_start {k : Nat} {r r' : PS} {x : Tx} (hk : k ≤ 4) (h : Ag (tell (.row (k + 1)) r) x r') : AgR k r x r' := by
  unfold AgR
  rw [tell_row hk]
  rcases h with ⟨h1, h2⟩ | ⟨h1, h2, h3⟩
  · exact .inl ⟨tell_bad h1, h2⟩
  · subst h3; subst h2; exact .inr ⟨h1, rfl⟩
theorem opN_bad {k : Nat} {r : PS} (h : r.bad = true) : opN k r = 0 := by
  unfold opN
  have : (level k).find? (fun p => isW r p.1) = none := List.find?_eq_none.2 fun p _ => by simp [isW_bad h]
  rw [this]
theorem agr_more {k : Nat} {r r' r2 : PS} {x y : Tx} (h : AgR k r x r') (ho : opN k r' ≠ 0) (hy : Ag (tell (.row (k + 1)) (opR k r')) y r2) : AgR k r (.mk (opN k r') 0 [] [] [x, y]) r2 := by
  rcases h with ⟨_, h2⟩ | ⟨h1, h2⟩
  · exact absurd (opN_bad h2) ho
  · unfold AgR
    rw [h2, tell_rest, if_neg (by simp [h1])]
    unfold opN opR at *
    cases hf : (level k).find? (fun p => isW r' p.1) with
    | none => rw [hf] at ho; exact absurd rfl ho
    | some p =>
      rw [hf] at hy
      dsimp only at hy ⊢
      rcases hy with ⟨h3, h4⟩ | ⟨h3, h4, h5⟩
      · exact .inl ⟨tell_bad h3, h4⟩
      · subst h5; subst h4; exact .inr ⟨h3, rfl⟩
theorem agr_end {k : Nat} {r r' : PS} {x : Tx} (h : AgR k r x r') (ho : opN k r' = 0) : Ag (tell (.row k) r) x r' := by
  rcases h with ⟨h1, h2⟩ | ⟨h1, h2⟩
  · exact .inl ⟨h1, h2⟩
  · rw [h2, tell_rest, if_neg (by simp [h1])]
    unfold opN at ho
    cases hf : (level k).find? (fun p => isW r' p.1) with
    | none => exact .inr ⟨h1, rfl, rfl⟩
    | some p =>
      rw [hf] at ho
      exact absurd ho (level_pos p (List.mem_of_find?_eq_some hf))
theorem ag_top {r r' : PS} {t : Tx} (h : Ag (tell .unary r) t r') : Ag (tell (.row 5) r) t r' := by rw [tell_top (by omega)]; exact h
/-- How the words that count go down. -/
theorem lenB_tl {r : PS} {s : List UInt8} (h : isW r s = true) : lenB (tl r) + 1 = lenB r := by
  obtain ⟨h1, h2⟩ := isW_pos h
  unfold lenB
  have : (tl r).bad = r.bad := rfl
  rw [this, tl_len, h2]
  simp
  omega
theorem lenB_tl_le (r : PS) : lenB (tl r) ≤ lenB r := by
  unfold lenB
  have : (tl r).bad = r.bad := rfl
  rw [this, tl_len]
  split <;> omega
theorem lenB_fail (r : PS) : lenB (failR r) = 0 := rfl
theorem lenB_must (r : PS) (s : List UInt8) : lenB (mustP r s) ≤ lenB r := by
  unfold mustP
  split
  · exact lenB_tl_le r
  · rw [lenB_fail]; omega
theorem lenB_must_lt {r : PS} (h : r.bad = false) (s : List UInt8) : lenB (mustP r s) < lenB r := by
  unfold mustP
  split
  · next hi => have := lenB_tl hi; omega
  · rw [lenB_fail]; unfold lenB; rw [h]; simp
theorem peek_k {r : PS} (h : (peek r).k ≠ 0) : r.bad = false ∧ 0 < r.l.length := by
  unfold peek at h
  by_cases hc : (r.l.length == 0 || r.bad) = true
  · rw [if_pos hc] at h; exact absurd rfl h
  · have h1 : ¬ r.l.length = 0 ∧ r.bad = false := by simpa using hc
    exact ⟨h1.2, by omega⟩
theorem lenB_take (r : PS) (ks : List Int) : lenB (takeR r ks) ≤ lenB r := by
  unfold takeR
  split
  · exact lenB_tl_le r
  · rw [lenB_fail]; omega
theorem lenB_take_lt {r : PS} {ks : List Int} (h0 : (0 : Int) ∉ ks) (h : (takeR r ks).bad = false) : lenB (takeR r ks) < lenB r := by
  unfold takeR at h ⊢
  split
  · next hc =>
    have hk : (peek r).k ≠ 0 := fun e => by
      rw [e] at hc
      exact h0 (List.contains_iff_mem.1 hc)
    obtain ⟨h1, h2⟩ := peek_k hk
    unfold lenB
    have : (tl r).bad = r.bad := rfl
    rw [this, tl_len, h1]
    simp
    omega
  · next hc => rw [if_neg hc] at h; cases h
theorem lenB_op (k : Nat) (r : PS) : lenB (opR k r) ≤ lenB r := by
  unfold opR
  split
  · exact Nat.le_refl _
  · exact lenB_tl_le r
theorem lenB_op_lt {k : Nat} {r : PS} (h : opN k r ≠ 0) : lenB (opR k r) < lenB r := by
  unfold opN at h
  unfold opR
  cases hf : (level k).find? (fun p => isW r p.1) with
  | none => rw [hf] at h; exact absurd rfl h
  | some p =>
    have := lenB_tl (s := p.1) (by have := List.find?_some hf; simpa using this)
    dsimp only
    omega
end Go.Proofs.YtmihlmlojmdhjaaGreatDoor.Prg
/- Trees in memory: what a tree is as a value, which cells lie behind it; all of it lies on where only new blocks came. No condition. -/
namespace Go.Proofs.YtmihlmlojmdhjaaGreatDoor.Tre
open Go.RowKit
set_option maxRecDepth 100000
/-- What a call leaves: an answer, the world as it was. -/
def EndsW (v : Value) (w : World) (e : Ending) (w' : World) : Prop := e = .returned v ∧ w' = w
/-- What a call leaves: an answer, and new blocks. -/
def EndsB (v : Value) (w : World) (e : Ending) (w' : World) : Prop := e = .returned v ∧ Below w.heap.size w w'
theorem EndsB.of {v u : Value} {w w' : World} (h : u = v) (hb : Below w.heap.size w w') : EndsB v w (.returned u) w' := ⟨by rw [h], hb⟩
theorem ends_bool {a b : Bool} {w w' : World} (h : a = b) (hb : Below w.heap.size w w') : EndsB (.bool b) w (.returned (.bool a)) w' := ⟨by rw [h], hb⟩
theorem lt_of_heap {w : World} {g : Nat} {o : Obj} (h : w.heap[g]? = some o) : g < w.heap.size := (Array.getElem?_eq_some_iff.1 h).1
theorem cell_at {w : World} {g : Nat} {cs : Array Value} {T : TypeId} (h : w.heap[g]? = some (.cells cs T (0, 0))) (i : Nat) : w.cell? ⟨g, i, none⟩ = cs[i]? := by simp [World.cell?, h]
theorem new_at (w : World) (cs : Array Value) (T : TypeId) : (w.alloc (.cells cs T)).heap[w.heap.size]? = some (.cells cs T (0, 0)) := World.alloc_heap_new w _
/-- A tree as cells; as a value. -/
def exC : Ex → List Value | .mk o n s q a c x => [.int .i64 o, .int .i64 n, .string s, .string q, .slice a x.length c]
def exV : Ex → Value | .mk o n s q a c x => .agg #[.int .i64 o, .int .i64 n, .string s, .string q, .slice a x.length c]
def stC : St → List Value | .mk o s (.mk eo en es eq ea ec ex) a c b a2 c2 b2 => [.int .i64 o, .string s, .int .i64 eo, .int .i64 en, .string es, .string eq, .slice ea ex.length ec, .slice a b.length c, .slice a2 b2.length c2]
def stV : St → Value | .mk o s (.mk eo en es eq ea ec ex) a c b a2 c2 b2 => .agg #[.int .i64 o, .string s, .int .i64 eo, .int .i64 en, .string es, .string eq, .slice ea ex.length ec, .slice a b.length c, .slice a2 b2.length c2]
def parC (p : Par) : List Value := [.string p.s, .int .u8 p.t]
def parV (p : Par) : Value := .agg #[.string p.s, .int .u8 p.t]
def fnC (f : Fn) : List Value := [.string f.s, .slice f.pa f.p.length f.pc, .int .u8 f.r, .slice f.ba f.b.length f.bc]
def fnV (f : Fn) : Value := .agg #[.string f.s, .slice f.pa f.p.length f.pc, .int .u8 f.r, .slice f.ba f.b.length f.bc]
def flV (f : Fl) : Value := .agg #[.string f.s, .slice f.ia f.i.length f.ic, .slice f.fa f.f.length f.fc]
def txC (s : ByteArray) : List Value := [.string s]
/-- A row of elements of k cells each. -/
def Row {α : Type} (k : Nat) (C : α → List Value) (w : World) (A : Option Addr) (l : List α) : Prop :=
  0 < l.length → ∃ b o, A = some ⟨b, o, none⟩ ∧ b < w.heap.size ∧ ∀ (j : Nat) (x : α), l[j]? = some x → ∀ (r : Nat) (u : Value), (C x)[r]? = some u → w.cell? ⟨b, o + j * k + r, none⟩ = some u
theorem Row.below {α : Type} {k : Nat} {C : α → List Value} {w w' : World} {A : Option Addr} {l : List α} (h : Row k C w A l) (hb : Below w.heap.size w w') : Row k C w' A l := fun h0 => by
  obtain ⟨b, o, e, hlt, hc⟩ := h h0
  exact ⟨b, o, e, Nat.lt_of_lt_of_le hlt hb.size, fun j x hx r u hu => (World.cell?_of_block (w := w) (hb.block b hlt)).trans (hc j x hx r u hu)⟩
theorem Row.nil {α : Type} (k : Nat) (C : α → List Value) (w : World) (A : Option Addr) : Row k C w A [] := fun h => by simp at h
/-- How long a row may be. -/
def most : Nat := 9223372036854775807
structure NdX (w : World) (e : Ex) : Prop where
  row : Row 5 exC w e.a e.x
  len : e.x.length ≤ most
  cap : e.x.length ≤ e.c
  s : e.s.size ≤ maxLen
  q : e.q.size ≤ maxLen
def ExIn (w : World) (e : Ex) : Prop := ∀ y ∈ flat e, NdX w y
structure NdS (w : World) (s : St) : Prop where
  e : ExIn w s.e
  row : Row 9 stC w s.a s.b
  row2 : Row 9 stC w s.a2 s.b2
  len : s.b.length ≤ most
  len2 : s.b2.length ≤ most
  s : s.s.size ≤ maxLen
def StIn (w : World) (s : St) : Prop := ∀ y ∈ flatS s, NdS w y
structure FnIn (w : World) (f : Fn) : Prop where
  p : Row 2 parC w f.pa f.p
  b : Row 9 stC w f.ba f.b
  sts : ∀ s ∈ f.b, StIn w s
  plen : f.p.length ≤ most
  blen : f.b.length ≤ most
  s : f.s.size ≤ maxLen
  ps : ∀ p ∈ f.p, p.s.size ≤ maxLen
structure FlIn (w : World) (f : Fl) : Prop where
  irow : Row 1 txC w f.ia f.i
  frow : Row 4 fnC w f.fa f.f
  fns : ∀ g ∈ f.f, FnIn w g
  ilen : f.i.length ≤ most
  flen : f.f.length ≤ most
  s : f.s.size ≤ maxLen
  is : ∀ s ∈ f.i, s.size ≤ maxLen
section
variable {w w' : World}
theorem NdX.below {e : Ex} (h : NdX w e) (hb : Below w.heap.size w w') : NdX w' e := ⟨h.row.below hb, h.len, h.cap, h.s, h.q⟩
theorem ExIn.below {e : Ex} (h : ExIn w e) (hb : Below w.heap.size w w') : ExIn w' e := fun y hy => (h y hy).below hb
theorem ExIn.nd {e : Ex} (h : ExIn w e) : NdX w e := h e (mem_flat e)
theorem ExIn.part {e x : Ex} (h : ExIn w e) (hx : x ∈ e.x) : ExIn w x := fun y hy => h y (flat_sub hx hy)
theorem ExIn.mk {e : Ex} (h : NdX w e) (hx : ∀ x ∈ e.x, ExIn w x) : ExIn w e := fun y hy => by
  rw [flat_eq] at hy
  rcases List.mem_cons.1 hy with rfl | hy
  · exact h
  · obtain ⟨x, hx1, hx2⟩ := List.mem_flatMap.1 hy
    exact hx x hx1 y hx2
theorem NdS.below {s : St} (h : NdS w s) (hb : Below w.heap.size w w') : NdS w' s := by
  exact ⟨h.e.below hb, h.row.below hb, h.row2.below hb, h.len, h.len2, h.s⟩
theorem StIn.below {s : St} (h : StIn w s) (hb : Below w.heap.size w w') : StIn w' s := fun y hy => (h y hy).below hb
theorem StIn.nd {s : St} (h : StIn w s) : NdS w s := h s (mem_flatS s)
theorem StIn.part {s x : St} (h : StIn w s) (hx : x ∈ s.b ∨ x ∈ s.b2) : StIn w x := fun y hy => h y (flatS_sub hx hy)
theorem StIn.mk {s : St} (h : NdS w s) (hx : ∀ x, x ∈ s.b ∨ x ∈ s.b2 → StIn w x) : StIn w s := fun y hy => by
  rw [flatS_eq] at hy
  rcases List.mem_cons.1 hy with rfl | hy
  · exact h
  · rcases List.mem_append.1 hy with hy | hy <;> obtain ⟨x, hx1, hx2⟩ := List.mem_flatMap.1 hy
    · exact hx x (.inl hx1) y hx2
    · exact hx x (.inr hx1) y hx2
theorem FnIn.below {f : Fn} (h : FnIn w f) (hb : Below w.heap.size w w') : FnIn w' f := ⟨h.p.below hb, h.b.below hb, fun s hs => (h.sts s hs).below hb, h.plen, h.blen, h.s, h.ps⟩
theorem FlIn.below {f : Fl} (h : FlIn w f) (hb : Below w.heap.size w w') : FlIn w' f := ⟨h.irow.below hb, h.frow.below hb, fun s hs => (h.fns s hs).below hb, h.ilen, h.flen, h.s, h.is⟩
end
end Go.Proofs.YtmihlmlojmdhjaaGreatDoor.Tre
/- Are two expressions the same (the package's own): what sameExpr and the library's EqualFunc over it answer. Conditions: both trees lie in memory. -/
namespace Go.Proofs.YtmihlmlojmdhjaaGreatDoor.Tre
open Go.RowKit
set_option maxRecDepth 100000
theorem bytes_eq {s t : ByteArray} (h : s.toList = t.toList) : s = t := by
  rw [ByteArray.toList_eq, ByteArray.toList_eq] at h
  cases s; cases t
  congr 1
  exact Array.toList_inj.1 h
theorem ball_new (w : World) (cs : Array Value) (T : TypeId) : Below w.heap.size w (w.alloc (.cells cs T)) := (Below.refl _ w).alloc (Nat.le_refl _) _
theorem two_new (w : World) (cs ds : Array Value) (T : TypeId) : Below w.heap.size w ((w.alloc (.cells cs T)).alloc (.cells ds T)) := (ball_new w cs T).trans ((ball_new _ ds T).mono (by simp))
set_option maxHeartbeats 4000000 in
theorem sameExpr_step (a b : Ex) (w : World) (C : ∀ w', Below w.heap.size w w' → Hid (Calls Tryz.prog 120 #[.slice a.a a.x.length a.c, .slice b.a b.x.length b.c, .func (.func 86) #[] #[]] w' (EndsB (.bool (sameXL a.x b.x)) w'))) :
    Calls Tryz.prog 86 #[exV a, exV b] w (EndsB (.bool (sameX a b)) w) := by
  rw [sameX_eq]
  obtain ⟨o, n, s, q, A, c, x⟩ := a
  obtain ⟨o', n', s', q', A', c', x'⟩ := b
  simp only [Ex.op, Ex.n, Ex.s, Ex.q, Ex.x, Ex.a, Ex.c, exV] at C ⊢
  generalize sameXL x x' = t at *
  generalize x.length = k at *
  generalize x'.length = k' at *
  clear x x'
  have HB := Lib.hid (Tre.two_new w #[.int .i64 o, .int .i64 n, .string s, .string q, .slice A k c] #[.int .i64 o', .int .i64 n', .string s', .string q', .slice A' k' c'] 42)
  rcases Bool.eq_false_or_eq_true (o == o') with h1 | h1
  · rcases Bool.eq_false_or_eq_true (n == n') with h2 | h2
    · rcases Bool.eq_false_or_eq_true (s.toList == s'.toList) with h3 | h3
      · rcases Bool.eq_false_or_eq_true (q.toList == q'.toList) with h4 | h4
        · go_enter Tryz.func86, Tryz.ntmps86
          go_wp2_with fail
          refine (C _ HB.out).out.mono ?_
          rintro e w1 ⟨rfl, hb1⟩
          have HB1 := Lib.hid hb1
          clear hb1
          go_wp2_with fail
          go_ret
          exact ends_bool (by simp [*]) (HB.out.trans (HB1.out.mono HB.out.size))
        · clear C
          go_enter Tryz.func86, Tryz.ntmps86
          go_wp2_with fail
          go_ret
          exact ends_bool (by simp [*]) HB.out
      · clear C
        go_enter Tryz.func86, Tryz.ntmps86
        go_wp2_with fail
        go_ret
        exact ends_bool (by simp [*]) HB.out
    · clear C
      go_enter Tryz.func86, Tryz.ntmps86
      go_wp2_with fail
      go_ret
      exact ends_bool (by simp [*]) HB.out
  · clear C
    go_enter Tryz.func86, Tryz.ntmps86
    go_wp2_with fail
    go_ret
    exact ends_bool (by simp [*]) HB.out
end Go.Proofs.YtmihlmlojmdhjaaGreatDoor.Tre
/- The library's EqualFunc over lists of expressions, with the package's own sameExpr; so sameExpr of any two expressions. Conditions: both trees lie in memory. -/
namespace Go.Proofs.YtmihlmlojmdhjaaGreatDoor.Tre
open Go.RowKit
set_option maxRecDepth 100000
theorem Row.at_ {α : Type} {k : Nat} {C : α → List Value} {w w' : World} {A : Option Addr} {l : List α} (h : Row k C w A l) (hb : Below w.heap.size w w') {j : Nat} {x : α} (hx : l[j]? = some x) :
    ∃ b o, A = some ⟨b, o, none⟩ ∧ ∀ (r : Nat) (u : Value), (C x)[r]? = some u → w'.cell? ⟨b, o + j * k + r, none⟩ = some u := by
  obtain ⟨b, o, e, _, hc⟩ := h.below hb (by have := (List.getElem?_eq_some_iff.1 hx).1; omega)
  exact ⟨b, o, e, fun r u hu => hc j x hx r u hu⟩
theorem exC_at {e : Ex} {w : World} {b o : Nat} (h : ∀ (r : Nat) (u : Value), (exC e)[r]? = some u → w.cell? ⟨b, o + r, none⟩ = some u) :
    w.cell? ⟨b, o, none⟩ = some (.int .i64 e.op) ∧ w.cell? ⟨b, o + 1, none⟩ = some (.int .i64 e.n) ∧ w.cell? ⟨b, o + 2, none⟩ = some (.string e.s) ∧ w.cell? ⟨b, o + 3, none⟩ = some (.string e.q) ∧ w.cell? ⟨b, o + 4, none⟩ = some (.slice e.a e.x.length e.c) := by
  cases e
  exact ⟨h 0 _ rfl, h 1 _ rfl, h 2 _ rfl, h 3 _ rfl, h 4 _ rfl⟩
theorem exV_eq (e : Ex) : exV e = .agg #[.int .i64 e.op, .int .i64 e.n, .string e.s, .string e.q, .slice e.a e.x.length e.c] := by cases e; rfl
theorem two_more {α : Type} {p : α → α → Bool} {x y : List α} {k : Nat} (h : ∀ (j : Nat) (a b : α), j < k → x[j]? = some a → y[j]? = some b → p a b = true) {a b : α} (ha : x[k]? = some a) (hb : y[k]? = some b) (hp : p a b = true) : ∀ (j : Nat) (a b : α), j < k + 1 → x[j]? = some a → y[j]? = some b → p a b = true := fun j a' b' hj h1 h2 => by
  by_cases e : j = k
  · subst e
    obtain rfl : a = a' := Option.some.inj (ha.symm.trans h1)
    obtain rfl : b = b' := Option.some.inj (hb.symm.trans h2)
    exact hp
  · exact h j a' b' (by omega) h1 h2
theorem all_two {α : Type} {p : α → α → Bool} {x y : List α} {n : Nat} (hl : x.length = y.length) (hn : x.length = n) (h : ∀ (j : Nat) (a b : α), j < n → x[j]? = some a → y[j]? = some b → p a b = true) : allTwo p x y = true :=
  allTwo_yes hl fun k a b h1 h2 => h k a b (by have := (List.getElem?_eq_some_iff.1 h1).1; omega) h1 h2
set_option maxHeartbeats 4000000 in
theorem equalX (x y : List Ex) (A B : Option Addr) (c d : Nat) (w : World) (hx : Row 5 exC w A x) (hy : Row 5 exC w B y) (hl : x.length ≤ most)
    (C : ∀ a ∈ x, ∀ b ∈ y, ∀ w', Below w.heap.size w w' → Hid (Calls Tryz.prog 86 #[exV a, exV b] w' (EndsB (.bool (sameX a b)) w'))) :
    Calls Tryz.prog 120 #[.slice A x.length c, .slice B y.length d, .func (.func 86) #[] #[]] w (EndsB (.bool (sameXL x y)) w) := by
  unfold most at *
  rw [sameXL_all]
  by_cases hne : x.length = y.length
  · have HX := Lib.hid hx
    have HY := Lib.hid hy
    have HC := Lib.hid C
    clear hx hy C
    rw [← hne]
    have HNE := Lib.hid hne
    clear hne
    obtain ⟨n, hn⟩ : ∃ n, x.length = n := ⟨_, rfl⟩
    rw [hn] at hl ⊢
    have HN := Lib.hid hn
    clear hn
    go_enter Tryz.func120, Tryz.ntmps120
    go_wp2
    go_loopw [17] (fun i wr => ∃ k : Nat, k ≤ n ∧ i = .int .i64 k ∧ Below w.heap.size w wr ∧ Hid (∀ (j : Nat) (a b : Ex), j < k → x[j]? = some a → y[j]? = some b → sameX a b = true)) (fun i _ => n - (intOf i).toNat)
    case atStart => exact ⟨0, Nat.zero_le _, rfl, Below.refl _ _, Lib.hid (fun j a b h => by omega)⟩
    case round =>
      obtain ⟨k, hk, rfl, hb, hs⟩ := hrel
      by_cases hlt : k < n
      · obtain ⟨a, ha⟩ : ∃ a, x[k]? = some a := ⟨_, List.getElem?_eq_getElem (by rw [HN.out]; exact hlt)⟩
        obtain ⟨b, hb2⟩ : ∃ b, y[k]? = some b := ⟨_, List.getElem?_eq_getElem (by rw [← HNE.out, HN.out]; exact hlt)⟩
        have CC := HC.out a (List.mem_of_getElem? ha) b (List.mem_of_getElem? hb2)
        obtain ⟨b1, o1, rfl, hc1⟩ := HX.out.at_ hb ha
        obtain ⟨b2, o2, rfl, hc2⟩ := HY.out.at_ (hb.trans ((ball_new wr #[.int .i64 a.op, .int .i64 a.n, .string a.s, .string a.q, .slice a.a a.x.length a.c] 42).mono hb.size)) hb2
        have HBL := Lib.hid (hb.trans ((two_new wr #[.int .i64 a.op, .int .i64 a.n, .string a.s, .string a.q, .slice a.a a.x.length a.c] #[.int .i64 b.op, .int .i64 b.n, .string b.s, .string b.q, .slice b.a b.x.length b.c] 42).mono hb.size))
        obtain ⟨p0, p1, p2, p3, p4⟩ := exC_at hc1
        obtain ⟨q0, q1, q2, q3, q4⟩ := exC_at hc2
        have HA := Lib.hid ha
        have HB := Lib.hid hb2
        clear hc1 hc2 ha hb2
        rw [exV_eq, exV_eq] at CC
        have C1 := CC _ HBL.out
        have HS := hs
        clear hs CC
        obtain ⟨t, ht0⟩ : ∃ t, sameX a b = t := ⟨_, rfl⟩
        rw [ht0] at C1
        have HT := Lib.hid ht0
        clear ht0
        rcases Bool.eq_false_or_eq_true t with ht | ht
        · subst ht
          go_wp2_with fail
          refine C1.out.mono ?_
          rintro e w1 ⟨rfl, hb1⟩
          have HB1 := Lib.hid (HBL.out.trans (hb1.mono HBL.out.size))
          clear hb1 hb
          go_wp2_with fail
          go_roundw
          case rel => exact ⟨k + 1, by omega, rfl, HB1.out, Lib.hid (two_more HS.out HA.out HB.out HT.out)⟩
          case measure => simp [intOf]; omega
        · subst ht
          go_wp2_with fail
          refine C1.out.mono ?_
          rintro e w1 ⟨rfl, hb1⟩
          have HB1 := Lib.hid (HBL.out.trans (hb1.mono HBL.out.size))
          clear hb1 hb
          go_wp2_with fail
          go_ret
          exact ends_bool (allTwo_no k a b HA.out HB.out HT.out).symm HB1.out
      · obtain rfl : k = n := by omega
        go_wp2_with fail
        go_ret
        exact ends_bool (all_two HNE.out HN.out hs.out).symm hb
  · have HN := Lib.hid (allTwo_len (p := sameX) hne)
    have HB := Lib.hid (Below.refl w.heap.size w)
    generalize allTwo sameX x y = t at *
    have hne' : ((x.length : Int) == (y.length : Int)) = false := by rw [beq_eq_false_iff_ne]; omega
    generalize x.length = n at *
    generalize y.length = n' at *
    clear hx hy C hne
    go_enter Tryz.func120, Tryz.ntmps120
    go_wp2_with fail
    go_ret
    exact ends_bool HN.out.symm HB.out
theorem sameExpr_upto : ∀ (m : Nat) (a b : Ex) (w : World), size a ≤ m → ExIn w a → ExIn w b → Calls Tryz.prog 86 #[exV a, exV b] w (EndsB (.bool (sameX a b)) w)
  | 0, a, b, w, h, _, _ => by rw [size_eq] at h; omega
  | m + 1, a, b, w, h, ha, hb => sameExpr_step a b w fun w' hw => Lib.hid (equalX a.x b.x a.a b.a a.c b.c w' (ha.nd.row.below hw) (hb.nd.row.below hw) ha.nd.len fun x hx y hy w2 hw2 =>
      Lib.hid (sameExpr_upto m x y w2 (by have := size_part hx; omega) (((ha.below hw).below hw2).part hx) (((hb.below hw).below hw2).part hy)))
/-- sameExpr: the same. -/
theorem sameExpr_any (a b : Ex) (w : World) (ha : ExIn w a) (hb : ExIn w b) : Calls Tryz.prog 86 #[exV a, exV b] w (EndsB (.bool (sameX a b)) w) := sameExpr_upto _ a b w (Nat.le_refl _) ha hb
end Go.Proofs.YtmihlmlojmdhjaaGreatDoor.Tre
