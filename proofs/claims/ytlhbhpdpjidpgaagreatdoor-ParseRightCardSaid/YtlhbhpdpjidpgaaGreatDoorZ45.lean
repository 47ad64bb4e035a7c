/-
  The words of a text with something behind it, in a line of its own, or a bracket ahead of it. No condition.
-/
import Derived.Test.YtlhbhpdpjidpgaaGreatDoorZ28
import Derived.Test.YtlhbhpdpjidpgaaGreatDoorZ34
import Derived.Test.YtlhbhpdpjidpgaaGreatDoorZ40
import Derived.Test.YtlhbhpdpjidpgaaGreatDoorZ42
namespace Go.Proofs.YtlhbhpdpjidpgaaGreatDoor.Lex
set_option maxRecDepth 100000
theorem prefix_nl : ∀ (s l r : List UInt8), (10 : UInt8) ∉ s → s.isPrefixOf (l ++ 10 :: r) = s.isPrefixOf l
  | [], l, r, _ => by cases l <;> simp
  | a :: s, [], r, h => by
    have : (a == 10) = false := by
      cases hc : a == 10 with
      | false => rfl
      | true => exact absurd (by simp [show a = 10 by simpa using hc]) h
    simp [List.isPrefixOf, this]
  | a :: s, c :: l, r, h => by
    show (a == c && s.isPrefixOf (l ++ 10 :: r)) = (a == c && s.isPrefixOf l)
    rw [prefix_nl s l r (fun hm => h (by simp [hm]))]
theorem longest_nl (l r : List UInt8) : longest (l ++ 10 :: r) = longest l := by
  unfold longest
  suffices h : ∀ (ss : List (List UInt8)) (b : List UInt8), (∀ s ∈ ss, (10 : UInt8) ∉ s) → ss.foldl (better (l ++ 10 :: r)) b = ss.foldl (better l) b from h signsL [] (by decide)
  intro ss
  induction ss with
  | nil => intro b _; rfl
  | cons s ss ih =>
    intro b hs
    rw [List.foldl_cons, List.foldl_cons]
    have e : better (l ++ 10 :: r) b s = better l b s := by
      unfold better
      rw [prefix_nl s l r (hs s (by simp))]
    rw [e]
    exact ih _ (fun x hx => hs x (by simp [hx]))
theorem rowN_nl (p : UInt8 → Bool) (hp : p 10 = false) : ∀ (l r : List UInt8), rowN p (l ++ 10 :: r) = rowN p l
  | [], r => by unfold rowN; simp [hp]
  | c :: l, r => by
    have ih := rowN_nl p hp l r
    unfold rowN at ih ⊢
    rw [List.cons_append, List.takeWhile_cons, List.takeWhile_cons]
    split
    · simp [ih]
    · rfl
theorem take_nl (k : Nat) (l r : List UInt8) (h : k ≤ l.length) : (l ++ r).take k = l.take k := List.take_append_of_le_length h
theorem drop_nl (k : Nat) (l r : List UInt8) (h : k ≤ l.length) : (l ++ r).drop k = l.drop k ++ r := List.drop_append_of_le_length h
theorem cutQ_nl {l r s : List UInt8} (h : cutQ l = some s) : cutQ (l ++ r) = some s ∧ s.length < l.length := by
  unfold cutQ at h ⊢
  split at h
  · next hl =>
    injection h with h
    have e : ∀ (l : List UInt8), (l.takeWhile fun c => decide (c.toNat ≠ 34)).length < l.length → (l ++ r).takeWhile (fun c => decide (c.toNat ≠ 34)) = l.takeWhile (fun c => decide (c.toNat ≠ 34)) := by
      intro l
      induction l with
      | nil => intro h; simp at h
      | cons c l ih =>
        intro h
        rw [List.cons_append, List.takeWhile_cons, List.takeWhile_cons] at *
        split
        · next hc =>
          rw [if_pos hc] at h
          rw [ih (by simpa using h)]
        · rfl
    rw [e l hl, h, if_pos (by rw [List.length_append]; rw [h] at hl; omega)]
    exact ⟨rfl, by rw [← h]; exact hl⟩
  · cases h
/-- A step, with a line behind. -/
theorem step_nl {l : List UInt8} (r : List UInt8) {ws : List Wd} (hl : l ≠ []) (h : (step l ws).e = 0) : step (l ++ 10 :: r) ws = ⟨0, (step l ws).l ++ 10 :: r, (step l ws).ws⟩ := by
  cases l with
  | nil => exact absurd rfl hl
  | cons c q =>
    have hsl : ([47, 47] : List UInt8).isPrefixOf (c :: (q ++ 10 :: r)) = ([47, 47] : List UInt8).isPrefixOf (c :: q) := prefix_nl [47, 47] (c :: q) r (by decide)
    revert h
    show (step (c :: q) ws).e = 0 → step (c :: (q ++ 10 :: r)) ws = _
    unfold step
    dsimp only
    rw [hsl]
    split
    · intro _; rfl
    split
    · intro _; rfl
    split
    · intro _
      have h1 := rowN_nl notNL (by decide) (c :: q) r
      have h2 := rowN_le notNL (c :: q)
      rw [List.cons_append] at h1
      rw [h1, ← List.cons_append, drop_nl _ _ _ h2]
    split
    · have h1 := rowN_nl dig (by decide) (c :: q) r
      have h2 := rowN_le dig (c :: q)
      rw [List.cons_append] at h1
      unfold numS
      dsimp only
      rw [h1, ← List.cons_append, take_nl _ _ _ h2, drop_nl _ _ _ h2]
      split
      · intro _; rfl
      split
      · intro h; cases h
      · intro h; cases h
    split
    · have h1 := rowN_nl nameB (by decide) (c :: q) r
      have h2 := rowN_le nameB (c :: q)
      rw [List.cons_append] at h1
      unfold nameS
      dsimp only
      rw [h1, ← List.cons_append, take_nl _ _ _ h2, drop_nl _ _ _ h2]
      split
      · intro h; cases h
      · intro _; rfl
    split
    · unfold textS
      rw [show (c :: (q ++ 10 :: r)).drop 1 = q ++ 10 :: r from rfl, show (c :: q).drop 1 = q from rfl]
      cases hc : cutQ q with
      | none => intro h; cases h
      | some s =>
        obtain ⟨h1, h2⟩ := cutQ_nl (r := 10 :: r) hc
        rw [h1]
        dsimp only
        split
        · intro _
          rw [← List.cons_append, drop_nl _ _ _ (by simp; omega)]
        · intro h; cases h
    · unfold signS
      have h1 := longest_nl (c :: q) r
      rw [List.cons_append] at h1
      rw [h1]
      split
      · intro h; cases h
      · next hne =>
        intro _
        rcases longest_mem (c :: q) with h2 | h2
        · exact absurd h2 hne
        · have h3 : (longest (c :: q)).length ≤ (c :: q).length := (List.isPrefixOf_iff_prefix.1 h2.2).length_le
          rw [← List.cons_append, drop_nl _ _ _ h3]
/-- All steps, with a line behind. -/
theorem run_nl (r : List UInt8) : ∀ (m : Nat) (l : List UInt8) (ws ws2 : List Wd), l.length ≤ m → run m l ws = (0, ws2) → ∀ n, (l ++ 10 :: r).length ≤ n → ∃ n', (10 :: r).length ≤ n' ∧ run n (l ++ 10 :: r) ws = run n' (10 :: r) ws2
  | 0, l, ws, ws2, hl, h, n, hn => by
    have : l = [] := List.eq_nil_of_length_eq_zero (by omega)
    subst this
    unfold run at h
    injection h with _ h
    subst h
    exact ⟨n, hn, rfl⟩
  | m + 1, l, ws, ws2, hl, h, n, hn => by
    by_cases he : l = []
    · subst he
      rw [run_nil] at h
      injection h with _ h
      subst h
      exact ⟨n, hn, rfl⟩
    · have h0 : (step l ws).e = 0 := by
        unfold run at h
        rw [if_neg he] at h
        split at h
        · next h0 => exact h0
        · next h0 => injection h with h _
      rw [run_go (k := m) he h0] at h
      have hlt := step_less l ws he h0
      have hs := step_nl r he h0
      have hne : l ++ 10 :: r ≠ [] := by simp
      obtain ⟨k, rfl⟩ : ∃ k, n = k + 1 := ⟨n - 1, by rw [List.length_append] at hn; simp at hn; omega⟩
      rw [run_go (k := k) hne (by rw [hs]), hs]
      dsimp only
      exact run_nl r m _ _ ws2 (by omega) h k (by rw [List.length_append] at hn ⊢; simp at hn ⊢; omega)
theorem words_run {t : List UInt8} {l : List Wd} (h : words t = (l, 0)) : ∃ ws, run t.length t [] = (0, ws) ∧ endLn ws = l := by
  unfold words at h
  split at h
  · cases h
  split at h
  · next h0 =>
    split at h
    · cases h
    · injection h with h _
      exact ⟨(run t.length t []).2, by rw [← h0], h⟩
  · next h0 => injection h with _ h; exact absurd h h0
theorem run_end {n : Nat} {r : List UInt8} {ws : List Wd} (hr : r ≠ []) {x : Wd} (hs : ∀ ws, step r ws = ⟨0, [], ws ++ [x]⟩) (hn : (10 :: r).length ≤ n) : run n (10 :: r) ws = (0, endLn ws ++ [x]) := by
  obtain ⟨k, rfl⟩ : ∃ k, n = k + 2 := ⟨n - 2, by
    have : 0 < r.length := List.length_pos_iff.2 hr
    simp at hn
    omega⟩
  have h1 : step (10 :: r) ws = ⟨0, r, endLn ws⟩ := rfl
  rw [run_go (k := k + 1) (by simp) (by rw [h1]), h1]
  dsimp only
  rw [run_go (k := k) hr (by rw [hs]), hs]
  dsimp only
  exact run_nil _ _
theorem words_end {t r : List UInt8} {l : List Wd} {x : Wd} (h : words t = (l, 0)) (hr : r ≠ []) (hs : ∀ ws, step r ws = ⟨0, [], ws ++ [x]⟩) : (words (t ++ 10 :: r)).2 ≠ 0 ∨ words (t ++ 10 :: r) = (endLn (l ++ [x]), 0) := by
  obtain ⟨ws, h1, h2⟩ := words_run h
  obtain ⟨n, hn, h3⟩ := run_nl r t.length t [] ws (Nat.le_refl _) h1 (t ++ 10 :: r).length (Nat.le_refl _)
  rw [run_end hr hs hn, h2] at h3
  unfold words
  rw [h3]
  split
  · exact .inl (by decide)
  · rw [if_pos rfl]
    split
    · exact .inl (by decide)
    · exact .inr rfl
def impB : List UInt8 := [105, 109, 112, 111, 114, 116]
theorem words_import {t : List UInt8} {l : List Wd} (h : words t = (l, 0)) : (words (t ++ 10 :: impB)).2 ≠ 0 ∨ words (t ++ 10 :: impB) = (l ++ [⟨4, impB, 0⟩], 0) := by
  rcases words_end (r := impB) (x := ⟨4, impB, 0⟩) h (by decide) (fun ws => rfl) with h1 | h1
  · exact .inl h1
  · rw [endLn_no (x := ⟨4, impB, 0⟩) (by simp) (by decide)] at h1
    exact .inr h1
theorem words_brace {t : List UInt8} {l : List Wd} (h : words t = (l, 0)) : (words (t ++ 10 :: [125])).2 ≠ 0 ∨ words (t ++ 10 :: [125]) = (l ++ [⟨5, [125], 0⟩, semi], 0) := by
  rcases words_end (r := [125]) (x := ⟨5, [125], 0⟩) h (by decide) (fun ws => rfl) with h1 | h1
  · exact .inl h1
  · rw [endLn_yes (x := ⟨5, [125], 0⟩) (by simp) (by decide)] at h1
    rw [List.append_assoc] at h1
    exact .inr h1
def openW : Wd := ⟨5, [123], 0⟩
theorem endLn_open (ws : List Wd) : endLn (openW :: ws) = openW :: endLn ws := by
  rcases List.eq_nil_or_concat ws with rfl | ⟨p, x, rfl⟩
  · rfl
  · rw [List.concat_eq_append]
    have hl : (p ++ [x]).getLast? = some x := by simp
    have hl2 : (openW :: (p ++ [x])).getLast? = some x := by
      rw [show openW :: (p ++ [x]) = (openW :: p) ++ [x] from rfl, List.getLast?_append]
      rfl
    rcases Bool.eq_false_or_eq_true (mayB x) with hm | hm
    · rw [endLn_yes hl hm, endLn_yes hl2 hm]
      simp
    · rw [endLn_no hl hm, endLn_no hl2 hm]
set_option maxHeartbeats 4000000 in
theorem step_open (l : List UInt8) (ws : List Wd) : step l (openW :: ws) = ⟨(step l ws).e, (step l ws).l, openW :: (step l ws).ws⟩ := by
  cases l with
  | nil => rfl
  | cons c q =>
  unfold step
  dsimp only
  split
  · rw [endLn_open]
  split
  · rfl
  split
  · rfl
  split
  · unfold numS
    dsimp only
    split
    · rfl
    split <;> rfl
  split
  · unfold nameS
    dsimp only
    split <;> rfl
  split
  · unfold textS
    split
    · split <;> rfl
    · rfl
  · unfold signS
    generalize longest (c :: q) = s
    split <;> rfl
theorem run_open : ∀ (n : Nat) (l : List UInt8) (ws ws2 : List Wd), run n l ws = (0, ws2) → run n l (openW :: ws) = (0, openW :: ws2)
  | 0, l, ws, ws2, h => by
    unfold run at h ⊢
    injection h with _ h
    rw [h]
  | n + 1, l, ws, ws2, h => by
    by_cases he : l = []
    · subst he
      rw [run_nil] at h ⊢
      injection h with _ h
      rw [h]
    · have h0 : (step l ws).e = 0 := by
        unfold run at h
        rw [if_neg he] at h
        split at h
        · next h0 => exact h0
        · next h0 => injection h with h _
      rw [run_go (k := n) he h0] at h
      have hs := step_open l ws
      rw [run_go (k := n) he (by rw [hs]; exact h0), hs]
      exact run_open n _ _ _ h
theorem longest_open (t : List UInt8) : longest (123 :: t) = [123] := by
  simp [longest, signsL, better, List.isPrefixOf]
theorem words_open {t : List UInt8} {l : List Wd} (h : words t = (l, 0)) : (words (123 :: t)).2 ≠ 0 ∨ words (123 :: t) = (openW :: l, 0) := by
  obtain ⟨ws, h1, h2⟩ := words_run h
  have hs : step (123 :: t) [] = ⟨0, t, [openW]⟩ := by
    have : step (123 :: t) [] = signS (123 :: t) [] := by
      unfold step
      dsimp only
      rw [if_neg (by decide), if_neg (by decide), if_neg (by cases t <;> simp [List.isPrefixOf]), if_neg (by decide), if_neg (by decide), if_neg (by decide)]
    rw [this]
    unfold signS
    rw [longest_open]
    rfl
  have h3 : run (123 :: t).length (123 :: t) [] = (0, openW :: ws) := by
    rw [List.length_cons, run_go (k := t.length) (by simp) (by rw [hs]), hs]
    exact run_open _ _ [] ws h1
  unfold words
  rw [h3]
  split
  · exact .inl (by decide)
  · rw [if_pos rfl, endLn_open, h2]
    split
    · exact .inl (by decide)
    · exact .inr rfl
end Go.Proofs.YtlhbhpdpjidpgaaGreatDoor.Lex
/- What the grammar tells has as many brackets { as }; a file ends in the sign ;. No condition. -/
namespace Go.Proofs.YtlhbhpdpjidpgaaGreatDoor.Prg
open Tre Prs
set_option maxRecDepth 100000
def vs (s : List UInt8) : Int := if s == [123] then 1 else if s == [125] then -1 else 0
def val (x : Lex.Wd) : Int := if x.k == 5 || x.k == 4 then vs x.s else 0
def cnt (l : List Lex.Wd) : Int := (l.map val).sum
theorem cnt_app (l m : List Lex.Wd) : cnt (l ++ m) = cnt l + cnt m := by simp [cnt]
theorem peek_cons {r : PS} (h : (peek r).k ≠ 0) : r.l = peek r :: (tl r).l := by
  obtain ⟨h1, h2⟩ := peek_k h
  unfold peek tl
  cases hl : r.l with
  | nil => rw [hl] at h2; simp at h2
  | cons x t => simp [h1]
theorem isW_kind {r : PS} {s : List UInt8} (h : isW r s = true) : ((peek r).k == 5 || (peek r).k == 4) = true ∧ (peek r).s = s := by
  unfold isW at h
  simp only [Bool.and_eq_true, beq_iff_eq] at h
  exact h
theorem cnt_is {r : PS} {s : List UInt8} (h : isW r s = true) : cnt r.l = vs s + cnt (tl r).l := by
  obtain ⟨h1, h2⟩ := isW_kind h
  have hk : (peek r).k ≠ 0 := by
    intro e
    rw [e] at h1
    simp at h1
  have e := congrArg cnt (peek_cons hk)
  rw [e]
  unfold cnt
  rw [List.map_cons, List.sum_cons]
  unfold val
  rw [if_pos h1, h2]
theorem cnt_k {r : PS} (h0 : (peek r).k ≠ 0) (h4 : (peek r).k ≠ 4) (h5 : (peek r).k ≠ 5) : cnt r.l = cnt (tl r).l := by
  have e := congrArg cnt (peek_cons h0)
  rw [e]
  unfold cnt
  rw [List.map_cons, List.sum_cons]
  unfold val
  rw [if_neg (by simp [h4, h5])]
  omega
theorem cnt_must {r : PS} {s : List UInt8} (h : (mustW r s).bad = false) : cnt r.l = vs s + cnt (mustW r s).l := by
  unfold mustW at h ⊢
  by_cases hi : isW r s = true
  · rw [if_pos hi]
    exact cnt_is hi
  · rw [if_neg hi] at h
    cases h
theorem cnt_name {r : PS} (h : (wordR r 1 false).bad = false) : cnt r.l = cnt (wordR r 1 false).l := by
  obtain ⟨h1, _, h3⟩ := wordNo_kind h
  rw [h3]
  exact cnt_k (by omega) (by omega) (by omega)
theorem level_vs {k : Nat} : ∀ p ∈ level k, vs p.1 = 0 := by
  intro p hp
  unfold level at hp
  repeat' split at hp
  all_goals (simp at hp; rcases hp with rfl | hp <;> first | decide | skip)
  all_goals (first | (rcases hp with rfl | rfl | rfl | rfl | rfl <;> decide) | (rcases hp with rfl | rfl <;> decide) | (subst hp; decide))
theorem callEnd_cnt {q s : List UInt8} {x : List Tx} {r : PS} (h : (callEnd q s x r).2.bad = false) : cnt r.l = cnt (callEnd q s x r).2.l := by
  have := cnt_must (r := r) (s := [41]) h
  rw [show vs [41] = 0 by decide] at this
  show cnt r.l = cnt (mustW r [41]).l
  omega
set_option maxHeartbeats 4000000 in
theorem cnt_upto : ∀ (N : Nat) (j : Job) (r : PS), enough j r ≤ N → (tell j r).2.bad = false → cnt r.l = cnt (tell j r).2.l
  | 0, j, r, h, _ => by
    exfalso
    cases j <;> simp only [enough, need] at h
    case args => split at h <;> omega
    all_goals omega
  | N + 1, .row k, r, h, hb => by
    simp only [enough, need] at h
    by_cases h4 : 4 < k
    · rw [tell_top h4] at hb ⊢
      exact cnt_upto N .unary r (by simp only [enough, need]; omega) hb
    · rw [tell_row (by omega)] at hb ⊢
      have hb1 := not_bad hb
      have hl := tell_lenR (.row (k + 1)) r
      have a := cnt_upto N (.row (k + 1)) r (by simp only [enough, need]; omega) hb1
      have b := cnt_upto N (.rest k (tell (.row (k + 1)) r).1) (tell (.row (k + 1)) r).2 (by simp only [enough, need]; omega) hb
      exact a.trans b
  | N + 1, .rest k x, r, h, hb => by
    simp only [enough, need] at h
    rw [tell_rest] at hb ⊢
    split at hb
    · next hr => rw [hr] at hb; cases hb
    · next hr =>
      rw [if_neg hr]
      cases hf : (level k).find? (fun p => isW r p.1) with
      | none => rfl
      | some p =>
        rw [hf] at hb
        dsimp only at hb ⊢
        have hi : isW r p.1 = true := by have := List.find?_some hf; simpa using this
        have h1 := tl_ok hi
        have h2 := cnt_is hi
        rw [level_vs p (List.mem_of_find?_eq_some hf)] at h2
        have hb1 := not_bad hb
        have hl := tell_lenR (.row (k + 1)) (tl r)
        have a := cnt_upto N (.row (k + 1)) (tl r) (by simp only [enough, need]; omega) hb1
        have b := cnt_upto N (.rest k (.mk p.2 0 [] [] [x, (tell (.row (k + 1)) (tl r)).1])) (tell (.row (k + 1)) (tl r)).2 (by simp only [enough, need]; omega) hb
        omega
  | N + 1, .unary, r, h, hb => by
    simp only [enough, need] at h
    rw [tell_unary] at hb ⊢
    split at hb
    · next hi =>
      rw [if_pos hi]
      have h1 := tl_ok hi
      have h2 := cnt_is hi
      have a := cnt_upto N .unary (tl r) (by simp only [enough, need]; omega) hb
      rw [show vs [45] = 0 by decide] at h2
      dsimp only
      omega
    next n0 =>
    rw [if_neg n0]
    split at hb
    · next hi =>
      rw [if_pos hi]
      have h1 := tl_ok hi
      have h2 := cnt_is hi
      have a := cnt_upto N .unary (tl r) (by simp only [enough, need]; omega) hb
      rw [show vs [33] = 0 by decide] at h2
      dsimp only
      omega
    next n1 =>
    rw [if_neg n1]
    split at hb
    · next hi =>
      rw [if_pos hi]
      have h2 := cnt_is hi
      rw [show vs [116, 114, 117, 101] = 0 by decide] at h2
      dsimp only
      omega
    next n2 =>
    rw [if_neg n2]
    split at hb
    · next hi =>
      rw [if_pos hi]
      have h2 := cnt_is hi
      rw [show vs [102, 97, 108, 115, 101] = 0 by decide] at h2
      dsimp only
      omega
    next n3 =>
    rw [if_neg n3]
    split at hb
    · next hi =>
      rw [if_pos hi]
      have h1 := tl_ok hi
      have h2 := cnt_is hi
      dsimp only at hb ⊢
      obtain ⟨m1, m2, _, _⟩ := mustW_ok hb
      have h3 := cnt_must hb
      have a := cnt_upto N (.row 0) (tl r) (by simp only [enough, need]; omega) m2
      rw [show vs [40] = 0 by decide] at h2
      rw [show vs [41] = 0 by decide] at h3
      omega
    next n4 =>
    rw [if_neg n4]
    split at hb
    · next hk =>
      rw [if_pos hk]
      have hk2 : (peek r).k = 2 := by simpa using hk
      exact cnt_k (by omega) (by omega) (by omega)
    next nk =>
    rw [if_neg nk]
    split at hb
    · next hi =>
      rw [if_pos hi]
      have hp := word_pos (r := r) (by simpa using hi)
      have h2 := cnt_name (not_bad hb)
      have a := cnt_upto N (.call (wordS r 1 false)) (wordR r 1 false) (by simp only [enough, need]; omega) hb
      omega
    · next hi =>
      rw [if_neg hi]
      exact cnt_name hb
  | N + 1, .call s, r, h, hb => by
    simp only [enough, need] at h
    rw [tell_call] at hb ⊢
    split at hb
    · next hi =>
      rw [if_pos hi]
      have h1 := tl_ok hi
      have h2 := cnt_is hi
      have hm := not_bad hb
      obtain ⟨m1, m2, _, _⟩ := mustW_ok hm
      have h6 := cnt_must hm
      have h7 := cnt_name m2
      have h3 := lenR_wordR (tl r) 1 false
      have h5 := enough_args s (wordS (tl r) 1 false) [] (mustW (wordR (tl r) 1 false) [40])
      have a := cnt_upto N (.args s (wordS (tl r) 1 false) []) (mustW (wordR (tl r) 1 false) [40]) (by omega) hb
      rw [show vs [46] = 0 by decide] at h2
      rw [show vs [40] = 0 by decide] at h6
      omega
    · next hi =>
      rw [if_neg hi]
      have hm := not_bad hb
      obtain ⟨m1, m2, _, _⟩ := mustW_ok hm
      have h6 := cnt_must hm
      have h5 := enough_args [] s [] (mustW r [40])
      have a := cnt_upto N (.args [] s []) (mustW r [40]) (by omega) hb
      rw [show vs [40] = 0 by decide] at h6
      omega
  | N + 1, .args q s x, r, h, hb => by
    have hr := not_bad hb
    simp only [enough, hr, need, Bool.false_eq_true, if_false] at h
    rw [tell_args] at hb ⊢
    split at hb
    · next hi =>
      rw [if_pos hi]
      exact callEnd_cnt hb
    next hi =>
    rw [if_neg hi]
    have hl := tell_lenR (.row 0) r
    split at hb
    · next hc =>
      rw [if_pos hc]
      have h1 := tl_ok hc
      have h2 := cnt_is hc
      rw [show vs [44] = 0 by decide] at h2
      have a := cnt_upto N (.row 0) r (by simp only [enough, need]; omega) (isW_pos hc).2
      split at hb
      · have hb2 := (mustW_ok (r := badR (tl (tell (.row 0) r).2)) (s := [41]) hb).2.1
        cases hb2
      · next hd =>
        rw [if_neg hd]
        have h5 := enough_args q s (x ++ [(tell (.row 0) r).1]) (tl (tell (.row 0) r).2)
        have b := cnt_upto N (.args q s (x ++ [(tell (.row 0) r).1])) (tl (tell (.row 0) r).2) (by omega) hb
        omega
    · next hc =>
      rw [if_neg hc]
      have hb2 := (mustW_ok (r := (tell (.row 0) r).2) (s := [41]) hb).2.1
      have a := cnt_upto N (.row 0) r (by simp only [enough, need]; omega) hb2
      have b := callEnd_cnt hb
      omega
theorem cnt_tell {j : Job} {r : PS} (h : (tell j r).2.bad = false) : cnt r.l = cnt (tell j r).2.l := cnt_upto _ j r (Nat.le_refl _) h
theorem not_badT {j : SJob} {r : PS} (h : (tellS j r).2.bad = false) : r.bad = false := by
  cases hb : r.bad with
  | false => rfl
  | true => rw [tellS_bad hb] at h; cases h
def sv : SJob → Int
  | .loop _ => 1
  | _ => 0
theorem forX_cnt {r : PS} (h : (forX r).2.bad = false) : cnt r.l = cnt (forX r).2.l := by
  unfold forX at h ⊢
  split at h
  · next h2 => rw [if_pos h2]
  · next h2 => rw [if_neg h2]; exact cnt_tell h
set_option maxHeartbeats 8000000 in
theorem cntS_upto : ∀ (N : Nat) (j : SJob) (r : PS), enoughS j r ≤ N → (tellS j r).2.bad = false → cnt r.l + sv j = cnt (tellS j r).2.l
  | 0, j, r, h, _ => by
    exfalso
    cases j <;> simp only [enoughS] at h
    case loop => split at h <;> omega
    all_goals omega
  | N + 1, .block, r, h, hb => by
    simp only [enoughS] at h
    rw [tellS_block] at hb ⊢
    have hm := not_badT hb
    obtain ⟨m1, m2, m3, m4⟩ := mustW_ok hm
    have h2 := cnt_must hm
    have h5 := enough_loop [] (mustW r [123])
    have a := cntS_upto N (.loop []) (mustW r [123]) (by omega) hb
    rw [show vs [123] = 1 by decide] at h2
    simp only [sv] at *
    omega
  | N + 1, .loop l, r, h, hb => by
    have hr := not_badT hb
    simp only [enoughS, hr, Bool.false_eq_true, if_false] at h
    rw [tellS_loop] at hb ⊢
    split at hb
    · next hi =>
      rw [if_pos hi]
      have h2 := cnt_must hb
      rw [show vs [125] = -1 by decide] at h2
      simp only [sv]
      omega
    next hi =>
    rw [if_neg hi]
    have hl := tellS_lenR .stmt r
    split at hb
    · next hc =>
      rw [if_pos hc]
      have h1 := tl_ok hc
      have h2 := cnt_is hc
      rw [show vs [59] = 0 by decide] at h2
      have a := cntS_upto N .stmt r (by simp only [enoughS]; omega) (isW_pos hc).2
      have h5 := enough_loop (l ++ (tellS .stmt r).1) (tl (tellS .stmt r).2)
      have b := cntS_upto N (.loop (l ++ (tellS .stmt r).1)) (tl (tellS .stmt r).2) (by omega) hb
      simp only [sv] at *
      omega
    · next hc =>
      rw [if_neg hc]
      obtain ⟨m1, m2, m3, _⟩ := mustW_ok (r := (tellS .stmt r).2) (s := [125]) hb
      have h2 := cnt_must (r := (tellS .stmt r).2) (s := [125]) hb
      rw [show vs [125] = -1 by decide] at h2
      have a := cntS_upto N .stmt r (by simp only [enoughS]; omega) m2
      simp only [sv] at *
      omega
  | N + 1, .when, r, h, hb => by
    simp only [enoughS] at h
    have hxl := tell_lenR (.row 0) r
    have hbl := tellS_lenR .block (tell (.row 0) r).2
    rw [tellS_when] at hb ⊢
    split at hb
    · next hi =>
      rw [if_pos hi]
      have h1 := tl_ok hi
      have h2 := cnt_is hi
      rw [show vs wElse = 0 by decide] at h2
      have hbk := (isW_pos hi).2
      have hx := cnt_tell (not_badT hbk)
      have a := cntS_upto N .block (tell (.row 0) r).2 (by simp only [enoughS]; omega) hbk
      split at hb
      · next h2' =>
        rw [if_pos h2']
        have h3 := tl_ok h2'
        have h4 := cnt_is h2'
        rw [show vs wIf = 0 by decide] at h4
        have b := cntS_upto N .when (tl (tl (tellS .block (tell (.row 0) r).2).2)) (by simp only [enoughS]; omega) hb
        simp only [sv, one1] at *
        omega
      · next h2' =>
        rw [if_neg h2']
        have b := cntS_upto N .block (tl (tellS .block (tell (.row 0) r).2).2) (by simp only [enoughS]; omega) hb
        simp only [sv, one1] at *
        omega
    · next hi =>
      rw [if_neg hi]
      have hx := cnt_tell (not_badT (j := .block) hb)
      have a := cntS_upto N .block (tell (.row 0) r).2 (by simp only [enoughS]; omega) hb
      simp only [sv, one1] at *
      omega
  | N + 1, .stmt, r, h, hb => by
    simp only [enoughS] at h
    rw [tellS_stmt] at hb ⊢
    split at hb
    · next hi =>
      rw [if_pos hi]
      have h1 := tl_ok hi
      have h2 := cnt_is hi
      rw [show vs wIf = 0 by decide] at h2
      have a := cntS_upto N .when (tl r) (by simp only [enoughS]; omega) hb
      simp only [sv] at *
      omega
    next n0 =>
    rw [if_neg n0]
    split at hb
    · next hi =>
      rw [if_pos hi]
      have h1 := tl_ok hi
      have h2 := cnt_is hi
      rw [show vs wFor = 0 by decide] at h2
      have hfl := forX_lenR (tl r)
      have hbk : (tellS .block (forX (tl r)).2).2.bad = false := hb
      have hx := forX_cnt (not_badT hbk)
      have a := cntS_upto N .block (forX (tl r)).2 (by simp only [enoughS]; omega) hbk
      simp only [sv, one1] at *
      omega
    next n1 =>
    rw [if_neg n1]
    split at hb
    · next hi =>
      rw [if_pos hi]
      have h2 := cnt_is hi
      rw [show vs wReturn = 0 by decide] at h2
      unfold retS at hb ⊢
      split at hb
      · next h3 =>
        rw [if_pos h3]
        have hx := cnt_tell (j := .row 0) hb
        simp only [sv, one1]
        omega
      · next h3 =>
        rw [if_neg h3]
        simp only [sv, one1]
        omega
    next n2 =>
    rw [if_neg n2]
    split at hb
    · next hi =>
      rw [if_pos hi]
      have h2 := cnt_is hi
      rw [show vs wPrint = 0 by decide] at h2
      have hb' : (mustW (tell (.row 0) (mustW (tl r) [40])).2 [41]).bad = false := hb
      have m2 := (mustW_ok hb').2.1
      have h3 := cnt_must hb'
      have h4 := cnt_tell (j := .row 0) m2
      have h5 := cnt_must (not_bad m2)
      rw [show vs [41] = 0 by decide] at h3
      rw [show vs [40] = 0 by decide] at h5
      simp only [sv, prtS, one1]
      omega
    next n3 =>
    rw [if_neg n3]
    split at hb
    · next hi =>
      rw [if_pos hi]
      have h2 := cnt_is hi
      rw [show vs wBreak = 0 by decide] at h2
      simp only [sv, one1]
      omega
    next n4 =>
    rw [if_neg n4]
    split at hb
    · next hi =>
      rw [if_pos hi]
      have h2 := cnt_is hi
      rw [show vs wNext = 0 by decide] at h2
      simp only [sv, one1]
      omega
    next n5 =>
    rw [if_neg n5]
    have hw : (wordR r 1 false).bad = false := by
      cases hc : (wordR r 1 false).bad with
      | false => rfl
      | true => rw [nameS_bad hc] at hb; cases hb
    have h0 := cnt_name hw
    unfold nameS at hb ⊢
    split at hb
    · next hi =>
      rw [if_pos hi]
      have h2 := cnt_is hi
      rw [show vs [58, 61] = 0 by decide] at h2
      have hx := cnt_tell (j := .row 0) hb
      simp only [sv, one1]
      omega
    next i1 =>
    rw [if_neg i1]
    split at hb
    · next hi =>
      rw [if_pos hi]
      have h2 := cnt_is hi
      rw [show vs [61] = 0 by decide] at h2
      have hx := cnt_tell (j := .row 0) hb
      simp only [sv, one1]
      omega
    next i2 =>
    rw [if_neg i2]
    have hx := cnt_tell (j := .call (wordS r 1 false)) hb
    simp only [sv, one1]
    omega
theorem cnt_block {r : PS} (h : (tellS .block r).2.bad = false) : cnt r.l = cnt (tellS .block r).2.l := by
  have := cntS_upto _ .block r (Nat.le_refl _) h
  simp only [sv] at this
  omega
end Go.Proofs.YtlhbhpdpjidpgaaGreatDoor.Prg
