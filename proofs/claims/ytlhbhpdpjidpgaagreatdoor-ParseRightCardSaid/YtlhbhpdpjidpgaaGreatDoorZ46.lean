/-
  A file has as many brackets { as }, and its last word is the sign ;. No condition.
-/
import Derived.Test.YtlhbhpdpjidpgaaGreatDoorZ38
import Derived.Test.YtlhbhpdpjidpgaaGreatDoorZ39
import Derived.Test.YtlhbhpdpjidpgaaGreatDoorZ40
import Derived.Test.YtlhbhpdpjidpgaaGreatDoorZ41
import Derived.Test.YtlhbhpdpjidpgaaGreatDoorZ44
import Derived.Test.YtlhbhpdpjidpgaaGreatDoorZ45
namespace Go.Proofs.YtlhbhpdpjidpgaaGreatDoor.Prg
open Tre Prs
set_option maxRecDepth 100000
theorem cnt_typeR (r : PS) : cnt r.l = cnt (typeR r).l := by
  unfold typeR
  by_cases h1 : isW r wInt = true
  · rw [if_pos (by simp [h1])]
    have := cnt_is h1
    rw [show vs wInt = 0 by decide] at this
    omega
  · by_cases h2 : isW r wBool = true
    · rw [if_pos (by simp [h2])]
      have := cnt_is h2
      rw [show vs wBool = 0 by decide] at this
      omega
    · rw [if_neg (by simp [h1, h2])]
set_option maxHeartbeats 4000000 in
theorem cnt_pars : ∀ (N : Nat) (xs : List Tp) (r : PS), lenR r ≤ N → (tellP xs r).2.bad = false → cnt r.l = cnt (tellP xs r).2.l := by
  intro N
  induction N with
  | zero =>
    intro xs r hl hb
    have := (par_upto 0 xs r hl hb).1
    omega
  | succ N ih =>
    intro xs r hl hb
    rw [tellP_eq] at hb ⊢
    split at hb
    · next hi =>
      rw [if_pos hi]
      have := cnt_must hb
      rw [show vs [41] = 0 by decide] at this
      dsimp only
      omega
    next hi =>
    rw [if_neg hi]
    have one : (typeMust (wordR r 1 false)).bad = false → lenR (typeMust (wordR r 1 false)) + 1 ≤ lenR r ∧ cnt r.l = cnt (typeMust (wordR r 1 false)).l := fun h => by
      obtain ⟨t1, t2, t3, t4, t5⟩ := typeMust_ok h
      have h1 := wordR_lt t4
      have h2 := cnt_name t4
      have h3 := cnt_typeR (wordR r 1 false)
      refine ⟨by omega, ?_⟩
      rw [t2]
      omega
    split at hb
    · next hc =>
      rw [if_pos hc]
      have h1 := tl_ok hc
      have h2 := cnt_is hc
      rw [show vs [44] = 0 by decide] at h2
      obtain ⟨o1, o2⟩ := one (isW_pos hc).2
      split at hb
      · dsimp only at hb
        have hb2 := (mustW_ok hb).2.1
        cases hb2
      · next hd =>
        rw [if_neg hd]
        have a := ih (xs ++ [⟨wordS r 1 false, typeN (wordR r 1 false)⟩]) (tl (typeMust (wordR r 1 false))) (by omega) hb
        omega
    · next hc =>
      rw [if_neg hc]
      have h2 := cnt_must (r := typeMust (wordR r 1 false)) (s := [41]) hb
      rw [show vs [41] = 0 by decide] at h2
      obtain ⟨m1, m2, m3, m4⟩ := mustW_ok (r := typeMust (wordR r 1 false)) (s := [41]) hb
      obtain ⟨o1, o2⟩ := one m2
      dsimp only
      omega
theorem cnt_fn {r : PS} (hb : (fnD r).2.bad = false) : cnt r.l = cnt (fnD r).2.l := by
  have hk : (tellS .block (typeR (tellP [] (mustW (wordR r 1 false) [40])).2)).2.bad = false := by unfold fnD at hb; dsimp only at hb; exact hb
  have h1 := not_badS hk
  have h2 : (tellP [] (mustW (wordR r 1 false) [40])).2.bad = false := by
    unfold typeR at h1
    split at h1
    · exact h1
    · exact h1
  have hmb : (mustW (wordR r 1 false) [40]).bad = false := by
    cases hm : (mustW (wordR r 1 false) [40]).bad with
    | false => rfl
    | true => rw [tellP_bad hm] at h2; cases h2
  have m2 := (mustW_ok hmb).2.1
  have c1 := cnt_name m2
  have c2 := cnt_must hmb
  have c3 := cnt_pars _ [] _ (Nat.le_refl _) h2
  have c4 := cnt_typeR (tellP [] (mustW (wordR r 1 false) [40])).2
  have c5 := cnt_block hk
  rw [show vs [40] = 0 by decide] at c2
  unfold fnD
  dsimp only
  omega
theorem fn_suf (r : PS) (hb : (fnD r).2.bad = false) : (fnD r).2.l <:+ r.l := (fn_told hb).2.1
theorem cnt_fs : ∀ (N : Nat) (xs : List Tf) (r : PS), lenR r ≤ N → (tellF xs r).2.bad = false → cnt r.l = cnt (tellF xs r).2.l := by
  intro N
  induction N with
  | zero =>
    intro xs r hl hb
    have hi : isW r wFunc = false := by
      cases hi : isW r wFunc with
      | false => rfl
      | true => have := lenR_pos hi; omega
    rw [tellF_eq, if_neg (by simp [hi])]
  | succ N ih =>
    intro xs r hl hb
    by_cases hi : isW r wFunc = true
    · rw [tellF_eq, if_pos hi] at hb ⊢
      have h1 := tl_ok hi
      have h2 : (mustW (fnD (tl r)).2 [59]).bad = false := by
        cases hm : (mustW (fnD (tl r)).2 [59]).bad with
        | false => rfl
        | true => rw [tellF_bad hm] at hb; cases hb
      obtain ⟨m1, m2, m3, _⟩ := mustW_ok h2
      have h3 := fnD_lenR (tl r)
      have c1 := cnt_is hi
      have c2 := cnt_fn m2
      have c3 := cnt_must h2
      have a := ih (xs ++ [(fnD (tl r)).1]) (mustW (fnD (tl r)).2 [59]) (by omega) hb
      rw [show vs wFunc = 0 by decide] at c1
      rw [show vs [59] = 0 by decide] at c3
      omega
    · rw [tellF_eq, if_neg hi]
theorem cnt_im : ∀ (N : Nat) (xs : List (List UInt8)) (r : PS), lenR r ≤ N → (tellI xs r).2.bad = false → cnt r.l = cnt (tellI xs r).2.l := by
  intro N
  induction N with
  | zero =>
    intro xs r hl hb
    have hi : isW r wImport = false := by
      cases hi : isW r wImport with
      | false => rfl
      | true => have := lenR_pos hi; omega
    rw [tellI_eq, if_neg (by simp [hi])]
  | succ N ih =>
    intro xs r hl hb
    by_cases hi : isW r wImport = true
    · rw [tellI_eq, if_pos hi] at hb ⊢
      have h1 := tl_ok hi
      have h2 : (mustW (wordR (tl r) 3 false) [59]).bad = false := by
        cases hm : (mustW (wordR (tl r) 3 false) [59]).bad with
        | false => rfl
        | true => rw [tellI_bad hm] at hb; cases hb
      obtain ⟨m1, m2, m3, _⟩ := mustW_ok h2
      have hwl := lenR_wordR (tl r) 3 false
      have c1 := cnt_is hi
      have c2 : cnt (tl r).l = cnt (wordR (tl r) 3 false).l := by
        unfold wordR at m2 ⊢
        by_cases hw : wordNo (tl r) 3 false = true
        · rw [if_pos hw] at m2; cases m2
        · rw [if_neg hw]
          have hk : (peek (tl r)).k = 3 := by simpa [wordNo] using hw
          exact cnt_k (by omega) (by omega) (by omega)
      have c3 := cnt_must h2
      have a := ih (xs ++ [wordS (tl r) 3 false]) (mustW (wordR (tl r) 3 false) [59]) (by omega) hb
      rw [show vs wImport = 0 by decide] at c1
      rw [show vs [59] = 0 by decide] at c3
      omega
    · rw [tellI_eq, if_neg hi]
theorem key_val {x : Lex.Wd} (h : Lex.Good x) (hk : x.k = 4) : val x = 0 := by
  cases h with
  | name s c q e ha hd hl =>
    unfold val vs
    dsimp only
    have h1 : (s == [123]) = false := by
      cases h : s == [123] with
      | false => rfl
      | true => rw [show s = [123] by simpa using h] at ha; exact absurd ha (by decide)
    have h2 : (s == [125]) = false := by
      cases h : s == [125] with
      | false => rfl
      | true => rw [show s = [125] by simpa using h] at ha; exact absurd ha (by decide)
    rw [h1, h2]
    simp
  | num n h0 h1 => simp at hk
  | text s h => simp at hk
  | sign s h => simp at hk
/-- A file's brackets. -/
theorem cnt_file {r : PS} (hg : Goods r) (hb : (fileD r).2.bad = false) : cnt r.l = cnt (fileD r).2.l := by
  have h1 : (tellF [] (tellI [] (headR r)).2).2.bad = false := by unfold fileD at hb; dsimp only at hb; exact hb
  have h3 : (tellI [] (headR r)).2.bad = false := by
    cases hm : (tellI [] (headR r)).2.bad with
    | false => rfl
    | true => rw [tellF_bad hm] at h1; cases h1
  have h4 : (headR r).bad = false := by
    cases hm : (headR r).bad with
    | false => rfl
    | true => rw [tellI_bad hm] at h3; cases h3
  have c3 := cnt_im _ [] _ (Nat.le_refl _) h3
  have c4 := cnt_fs _ [] _ (Nat.le_refl _) h1
  have c2 : cnt (wordR (mustW r wPackage) 1 true).l = vs [59] + cnt (headR r).l := cnt_must h4
  have m2 := (mustW_ok (r := wordR (mustW r wPackage) 1 true) (s := [59]) h4).2.1
  have hb0 : (mustW r wPackage).bad = false := by
    cases hm : (mustW r wPackage).bad with
    | false => rfl
    | true => rw [wordR_bad hm 1 true (by decide)] at m2; cases m2
  have c1 := cnt_must hb0
  have hg1 : Goods (mustW r wPackage) := hg.suf (mustW_suf _ _)
  have c5 : cnt (mustW r wPackage).l = cnt (wordR (mustW r wPackage) 1 true).l := by
    generalize mustW r wPackage = r0 at *
    unfold wordR at m2 ⊢
    by_cases hw : wordNo r0 1 true = true
    · rw [if_pos hw] at m2; cases m2
    · rw [if_neg hw]
      have hk : (peek r0).k = 1 ∨ (peek r0).k = 4 := by
        simp only [wordNo, Bool.true_and, Bool.and_eq_true, Bool.not_eq_true', not_and, Bool.not_eq_false] at hw
        by_cases h : (peek r0).k = 1
        · exact .inl h
        · exact .inr (by simpa using hw (by simpa using h))
      rcases hk with hk | hk
      · exact cnt_k (by omega) (by omega) (by omega)
      · have e := congrArg cnt (peek_cons (r := r0) (by omega))
        rw [e]
        unfold cnt
        rw [List.map_cons, List.sum_cons, key_val (hg1 _ (peek_mem (by omega))) hk]
        omega
  rw [show vs wPackage = 0 by decide] at c1
  rw [show vs [59] = 0 by decide] at c2
  unfold fileD
  dsimp only
  omega
/-- The last word of what was read is the sign ;, if all was read. -/
def LastS (o : List Lex.Wd) (r : PS) : Prop := r.bad = false → r.l = [] → ∃ w, o.getLast? = some w ∧ w.s = [59]
theorem last_must {o : List Lex.Wd} {q : PS} (hs : q.l <:+ o) : LastS o (mustW q [59]) := fun hb hl => by
  obtain ⟨m1, m2, m3, m4⟩ := mustW_ok hb
  have hi : isW q [59] = true := by
    unfold mustW at hb
    by_cases hi : isW q [59] = true
    · exact hi
    · rw [if_neg hi] at hb; cases hb
  obtain ⟨k1, k2⟩ := isW_kind hi
  have hc := peek_cons (r := q) (by intro e; rw [e] at k1; simp at k1)
  rw [m4] at hl
  rw [hl] at hc
  obtain ⟨p, hp⟩ := hs
  refine ⟨peek q, ?_, k2⟩
  rw [← hp, hc]
  simp
theorem last_fs : ∀ (N : Nat) (xs : List Tf) (r : PS) (o : List Lex.Wd), lenR r ≤ N → r.l <:+ o → LastS o r → LastS o (tellF xs r).2 := by
  intro N
  induction N with
  | zero =>
    intro xs r o hl hs h
    have hi : isW r wFunc = false := by
      cases hi : isW r wFunc with
      | false => rfl
      | true => have := lenR_pos hi; omega
    rw [tellF_eq, if_neg (by simp [hi])]
    exact h
  | succ N ih =>
    intro xs r o hl hs h
    by_cases hi : isW r wFunc = true
    · rw [tellF_eq, if_pos hi]
      have h1 := tl_ok hi
      have h3 := fnD_lenR (tl r)
      have h4 := lenR_mustW (fnD (tl r)).2 [59]
      cases hm : (mustW (fnD (tl r)).2 [59]).bad with
      | true => exact fun hb => by rw [tellF_bad hm] at hb; cases hb
      | false =>
        have hsf := (fn_suf (tl r) (mustW_ok hm).2.1).trans ((tl_suf r).trans hs)
        exact ih _ _ o (by omega) ((mustW_suf _ _).trans hsf) (last_must hsf)
    · rw [tellF_eq, if_neg hi]
      exact h
theorem last_im : ∀ (N : Nat) (xs : List (List UInt8)) (r : PS) (o : List Lex.Wd), lenR r ≤ N → r.l <:+ o → LastS o r → LastS o (tellI xs r).2 ∧ (tellI xs r).2.l <:+ o := by
  intro N
  induction N with
  | zero =>
    intro xs r o hl hs h
    have hi : isW r wImport = false := by
      cases hi : isW r wImport with
      | false => rfl
      | true => have := lenR_pos hi; omega
    rw [tellI_eq, if_neg (by simp [hi])]
    exact ⟨h, hs⟩
  | succ N ih =>
    intro xs r o hl hs h
    by_cases hi : isW r wImport = true
    · rw [tellI_eq, if_pos hi]
      have h1 := tl_ok hi
      have h3 := lenR_wordR (tl r) 3 false
      have h4 := lenR_mustW (wordR (tl r) 3 false) [59]
      have hsf : (wordR (tl r) 3 false).l <:+ o := (wordR_suf _ _ _).trans ((tl_suf r).trans hs)
      exact ih _ _ o (by omega) ((mustW_suf _ _).trans hsf) (last_must hsf)
    · rw [tellI_eq, if_neg hi]
      exact ⟨h, hs⟩
theorem last_file {r : PS} : LastS r.l (fileD r).2 := by
  have h0 : (wordR (mustW r wPackage) 1 true).l <:+ r.l := (wordR_suf _ _ _).trans (mustW_suf _ _)
  have h1 : LastS r.l (headR r) := last_must h0
  have h2 : (headR r).l <:+ r.l := (mustW_suf _ _).trans h0
  obtain ⟨h3, h4⟩ := last_im _ [] (headR r) r.l (Nat.le_refl _) h2 h1
  have h5 := last_fs _ [] (tellI [] (headR r)).2 r.l (Nat.le_refl _) h4 h3
  intro hb hl
  unfold fileD at hb hl
  dsimp only at hb hl
  exact h5 hb hl
/-- The errors of a file with something behind it, or ahead. -/
theorem file_import {l : List Lex.Wd} {x : Lex.Wd} (hx : x.s ≠ [59]) : endE (fileD ⟨l ++ [x], false, false⟩).2 ≠ 0 := fun h => by
  have hb : (fileD ⟨l ++ [x], false, false⟩).2.bad = false ∧ (fileD ⟨l ++ [x], false, false⟩).2.l = [] := by
    unfold endE at h
    split at h
    · cases h
    · next hc =>
      simp only [Bool.or_eq_true, decide_eq_true_eq, not_or] at hc
      refine ⟨by simpa using hc.1, List.eq_nil_of_length_eq_zero (by omega)⟩
  obtain ⟨w, h1, h2⟩ := last_file hb.1 hb.2
  rw [show (⟨l ++ [x], false, false⟩ : PS).l = l ++ [x] from rfl] at h1
  simp at h1
  subst h1
  exact hx h2
theorem file_brace {l m : List Lex.Wd} (hg : ∀ x ∈ l ++ m, Lex.Good x) (hl : endE (fileD ⟨l, false, false⟩).2 = 0) (hm : cnt m ≠ 0) : endE (fileD ⟨l ++ m, false, false⟩).2 ≠ 0 := fun h => by
  have get : ∀ p : PS, endE p = 0 → p.bad = false ∧ p.l = [] := fun p h => by
    unfold endE at h
    split at h
    · cases h
    · next hc =>
      simp only [Bool.or_eq_true, decide_eq_true_eq, not_or] at hc
      refine ⟨by simpa using hc.1, List.eq_nil_of_length_eq_zero (by omega)⟩
  obtain ⟨a1, a2⟩ := get _ hl
  obtain ⟨b1, b2⟩ := get _ h
  have c1 := cnt_file (r := ⟨l, false, false⟩) (fun x hx => hg x (by simp; exact .inl hx)) a1
  have c2 := cnt_file (r := ⟨l ++ m, false, false⟩) hg b1
  rw [a2] at c1
  rw [b2] at c2
  have e : (⟨l ++ m, false, false⟩ : PS).l = l ++ m := rfl
  rw [e, cnt_app] at c2
  have e2 : (⟨l, false, false⟩ : PS).l = l := rfl
  rw [e2] at c1
  rw [c1] at c2
  omega
theorem file_open {x : Lex.Wd} {l : List Lex.Wd} (hx : x.s ≠ wPackage) : endE (fileD ⟨x :: l, false, false⟩).2 ≠ 0 := by
  have hi : isW ⟨x :: l, false, false⟩ wPackage = false := by
    cases h : isW ⟨x :: l, false, false⟩ wPackage with
    | false => rfl
    | true =>
      have := (isW_kind h).2
      have e : peek ⟨x :: l, false, false⟩ = x := by simp [peek]
      rw [e] at this
      exact absurd this hx
  have hm : (mustW ⟨x :: l, false, false⟩ wPackage).bad = true := by unfold mustW; rw [hi]; rfl
  have h1 : (headR ⟨x :: l, false, false⟩).bad = true := mustW_bad (wordR_bad hm 1 true (by decide)) _
  have h2 : (tellF [] (tellI [] (headR ⟨x :: l, false, false⟩)).2).2.bad = true := tellF_bad (tellI_bad h1)
  have h3 : (fileD ⟨x :: l, false, false⟩).2.bad = true := by unfold fileD; dsimp only; exact h2
  unfold endE
  rw [h3]
  simp
end Go.Proofs.YtlhbhpdpjidpgaaGreatDoor.Prg
/- What the law asks of files' trees. No condition. -/
namespace Go.Proofs.YtlhbhpdpjidpgaaGreatDoor.Prg
open Tre Prs
set_option maxRecDepth 100000
theorem pick3 {α : Type} {z x : α} {a c : Int} {b : Prop} [Decidable b] {r : α × Int} (hr : r = if a ≠ 0 then (z, a) else if b then (z, 11) else if c ≠ 0 then (z, c) else (x, 0)) : (r.2 = 0 → a = 0 ∧ c = 0 ∧ r.1 = x) ∧ (r.2 ≠ 0 → r.1 = z) := by
  subst hr
  by_cases h1 : a = 0
  · rw [if_neg (by simp [h1])]
    by_cases h2 : b
    · rw [if_pos h2]
      exact And.intro (fun h => absurd h (show (11 : Int) ≠ 0 by decide)) (fun _ => rfl)
    · rw [if_neg h2]
      by_cases h3 : c = 0
      · rw [if_neg (by simp [h3])]
        exact ⟨fun _ => ⟨h1, h3, rfl⟩, fun h => absurd rfl h⟩
      · rw [if_pos h3]
        exact ⟨fun h => absurd h h3, fun _ => rfl⟩
  · rw [if_pos h1]
    exact ⟨fun h => absurd h h1, fun _ => rfl⟩
theorem told_pick (t : List UInt8) : ((fileT t).2 = 0 → (Lex.words t).2 = 0 ∧ endE (fileD ⟨(Lex.words t).1, false, false⟩).2 = 0 ∧ (fileT t).1 = (fileD ⟨(Lex.words t).1, false, false⟩).1) ∧ ((fileT t).2 ≠ 0 → (fileT t).1 = zeroL) := pick3 (b := 24 < nestD (Lex.words t).1) (by unfold fileT; rfl)
theorem told_zero {t : List UInt8} (h : (fileT t).2 ≠ 0) : (fileT t).1 = zeroL := (told_pick t).2 h
theorem told_ok {t : List UInt8} (h : (fileT t).2 = 0) : (Lex.words t).2 = 0 ∧ endE (fileD ⟨(Lex.words t).1, false, false⟩).2 = 0 ∧ (fileT t).1 = (fileD ⟨(Lex.words t).1, false, false⟩).1 := (told_pick t).1 h
theorem told_no {t : List UInt8} (h : (Lex.words t).2 ≠ 0 ∨ endE (fileD ⟨(Lex.words t).1, false, false⟩).2 ≠ 0) : (fileT t).2 ≠ 0 := fun h0 => by
  obtain ⟨h1, h2, _⟩ := told_ok h0
  rcases h with h | h
  · exact h h1
  · exact h h2
theorem told_right {t : List UInt8} {f : Fl} (h : (fileT t).2 = 0) (hc : coreL f = (fileT t).1) : (decide ((nodes givenB f.f).length ≤ 100000) && rFile f) = true := by
  obtain ⟨h1, h2, h3⟩ := told_ok h
  obtain ⟨w1, _, w3⟩ := words_ok0 h1
  have get : (fileD ⟨(Lex.words t).1, false, false⟩).2.bad = false ∧ (fileD ⟨(Lex.words t).1, false, false⟩).2.big = false := by
    unfold endE at h2
    split at h2
    · cases h2
    · next hn =>
      split at h2
      · cases h2
      · next hm =>
        simp only [Bool.or_eq_true, decide_eq_true_eq, not_or] at hn
        exact ⟨by simpa using hn.1, by simpa using hm⟩
  obtain ⟨k1, k2⟩ := file_told (r := ⟨(Lex.words t).1, false, false⟩) w1 get.1 get.2
  rw [h3] at hc
  rw [← hc] at k1 k2
  have k3 := nodes_le f.f
  have k4 : lenR ⟨(Lex.words t).1, false, false⟩ ≤ 2048 := w3
  have k5 : sumF (f.f.map coreF) ≤ 3 * lenR ⟨(Lex.words t).1, false, false⟩ := k2
  rw [file_right k1, decide_eq_true (by omega)]
  rfl
theorem words_pair {t : List UInt8} (h : (Lex.words t).2 = 0) : Lex.words t = ((Lex.words t).1, 0) := by rw [← h]
theorem told_import {t : List UInt8} (h : (fileT t).2 = 0) : (fileT (t ++ 10 :: Lex.impB)).2 ≠ 0 := by
  obtain ⟨h1, _, _⟩ := told_ok h
  rcases Lex.words_import (words_pair h1) with h2 | h2
  · exact told_no (.inl h2)
  · refine told_no (.inr ?_)
    rw [h2]
    exact file_import (by decide)
theorem told_brace {t : List UInt8} (h : (fileT t).2 = 0) : (fileT (t ++ 10 :: [125])).2 ≠ 0 := by
  obtain ⟨h1, h3, _⟩ := told_ok h
  rcases Lex.words_brace (words_pair h1) with h2 | h2
  · exact told_no (.inl h2)
  · have hg := (Lex.words_good h2).1
    refine told_no (.inr ?_)
    rw [h2]
    exact file_brace hg h3 (by decide)
theorem told_open {t : List UInt8} (h : (fileT t).2 = 0) : (fileT (123 :: t)).2 ≠ 0 := by
  obtain ⟨h1, _, _⟩ := told_ok h
  rcases Lex.words_open (words_pair h1) with h2 | h2
  · exact told_no (.inl h2)
  · refine told_no (.inr ?_)
    rw [h2]
    exact file_open (by decide)
end Go.Proofs.YtlhbhpdpjidpgaaGreatDoor.Prg
/- The program's File, Expr, Header. Conditions: the tables lie as the program's text lays them. -/
namespace Go.Proofs.YtlhbhpdpjidpgaaGreatDoor.Prg
open Go.RowKit Tre Prs
open Lex (Wd wdC wdV bs str Turn)
set_option maxRecDepth 100000
set_option linter.unusedSimpArgs false
variable {lo : Nat}
set_option maxHeartbeats 4000000 in
theorem exprb_any (w : World) (g : Nat) (r : PS) (h : InG lo w g r) : Calls Tryz.prog 29 #[.pointer (some ⟨g, 0, none⟩)] w (EvGX lo w g (exprP r)) := by
  have HG := Lib.hid h.rd.lt
  have HLO := Lib.hid h.rd.wlo
  have HB := Lib.hid (ball_new w #[.int .i64 0, .int .i64 0, .string ⟨#[]⟩, .string ⟨#[]⟩, .slice none 0 0] 36)
  have HI := Lib.hid (h.below HB.out)
  have CX := Lib.hid (exprG _ g r HI.out)
  clear h
  go_enter Tryz.func29, Tryz.ntmps29
  go_wp2_with fail
  refine CX.out.mono ?_
  rintro e w2 ⟨x, r', rfl, hx1, hx2, hx3, hx4, hx5⟩
  have HX1 := Lib.hid hx1
  have HX2 := Lib.hid hx2
  have HX3 := Lib.hid hx3
  have HX4 := Lib.hid hx4
  have HX5 := Lib.hid hx5
  rw [exV_eq]
  have hr2 := res_keep HG.out hx5
  have HB3 := Lib.hid (ball_new w2 #[.int .i64 x.op, .int .i64 x.n, .string x.s, .string x.q, .slice x.a x.x.length x.c] 36)
  have HN3 := Lib.hid (new_at w2 #[.int .i64 x.op, .int .i64 x.n, .string x.s, .string x.q, .slice x.a x.x.length x.c] 36)
  have HR3 := Lib.hid ((HB3.out.block _ (lt_of_heap hr2)).trans hr2)
  have CM := Lib.hid (must_any _ g r' [59] (hx4.below HB3.out))
  have HG2 : Hid (g < w2.heap.size) := Lib.hid hx4.lt
  clear hx1 hx2 hx3 hx4 hx5 hr2
  go_wp2_with fail
  refine CM.out.mono ?_
  rintro e w4 ⟨rfl, h1, h2⟩
  have G1 := Lib.hid h1
  have G2 := Lib.hid h2
  have HR4 := Lib.hid ((h2.block _ (lt_of_heap HR3.out) (by have := HG.out; simp; omega)).trans HR3.out)
  have hn4 := (h2.block _ (lt_of_heap HN3.out) (by have := HG2.out; simp; omega)).trans HN3.out
  obtain ⟨q0, q1, q2, q3, q4⟩ := five_at hn4
  clear h1 h2 hn4 CM
  obtain ⟨y0, y1, y2, y3, y4⟩ := five_at HR4.out
  have f0 := free_at HR4.out 0
  have f1 := free_at HR4.out 1
  have f2 := free_at HR4.out 2
  have f3 := free_at HR4.out 3
  have f4 := free_at HR4.out 4
  go_wp2_with fail
  have HT := Lib.hid (turn5 w4 w.heap.size (.int .i64 x.op) (.int .i64 x.n) (.string x.s) (.string x.q) (.slice x.a x.x.length x.c))
  refine bodyPost_ret (results_expr rfl _ _ w.heap.size _ _ _ _ _ rfl (set5 HR4.out)) rfl ?_
  have HEV := on_endG (q := exprP r) (w1 := w.alloc (.cells #[.int .i64 0, .int .i64 0, .string ⟨#[]⟩, .string ⟨#[]⟩, .slice none 0 0] 36)) (by simp) HLO.out HG.out HX2.out HX3.out HB.out (Turn.refl [g] _) HX5.out HB3.out G2.out G1.out HT.out (ag_must HX1.out [59])
  obtain ⟨y, r2, e1, e2, e3⟩ := HEV
  exact ⟨y, r2, e1, e2.w, e3⟩
theorem fileb_any (w : World) (g : Nat) (r : PS) (h : InG lo w g r) : Calls Tryz.prog 20 #[.pointer (some ⟨g, 0, none⟩)] w (EvGW lo w g (fileD r)) :=
  (file_any w g r h).mono fun _ _ ⟨f, r', h1, h2, h3⟩ => ⟨f, r', h1, h2.w, h3⟩
set_option maxHeartbeats 4000000 in
theorem parseFile_any (t : List UInt8) (w : World) (hT : Tabs w) : Calls Tryz.prog 7 #[.string (bs t)] w (TellF t w) := by
  have HB := Lib.hid (ball_new w #[.string ⟨#[]⟩, .slice none 0 0, .slice none 0 0] 26)
  have HN := Lib.hid (new_at w #[.string ⟨#[]⟩, .slice none 0 0, .slice none 0 0] 26)
  have CW := Lib.hid (wholeFile_any t _ (hT.below HB.out) (fun lo w' g r h => Lib.hid (fileb_any w' g r h)))
  clear hT
  generalize bs t = TX at *
  go_enter Tryz.func7, Tryz.ntmps7
  go_wp2_with fail
  refine CW.out.mono ?_
  rintro e w1 ⟨x, rfl, hc, hin, hnn, hb⟩
  unfold flV
  have HC := Lib.hid hc
  have HI := Lib.hid hin
  have HNN := Lib.hid hnn
  have T1 : Hid (Turn [] w w1) := Lib.hid (((Turn.refl [] w).below HB.out).below hb)
  have HR := Lib.hid ((hb.block _ (lt_of_heap HN.out)).trans HN.out)
  clear hc hin hnn hb CW
  obtain ⟨y0, y1, y2⟩ := three_at HR.out
  have f0 := free_at HR.out 0
  have f1 := free_at HR.out 1
  have f2 := free_at HR.out 2
  go_wp2_with fail
  have HT := Lib.hid (turn3 w1 w.heap.size (.string x.s) (.slice x.ia x.i.length x.ic) (.slice x.fa x.f.length x.fc))
  refine bodyPost_ret (results_fl2 rfl _ _ w.heap.size _ _ _ _ rfl rfl (set3 HR.out)) rfl ?_
  have hin := HI.out
  have hnn : NewFl (w.heap.size + 1) x := NewFl.mono HNN.out (by simp)
  exact ⟨x, by rfl, HC.out, FlIn.off hin hnn (fun k hk => by simp at hk; omega) HT.out, NewFl.mono hnn (by omega), (T1.out.then_ HT.out (fun k hk => by simp at hk; subst hk; exact .inr (Nat.le_refl _))).low (by simp) (Nat.le_refl _)⟩
set_option maxHeartbeats 4000000 in
theorem parseExpr_any (t : List UInt8) (w : World) (hT : Tabs w) : Calls Tryz.prog 11 #[.string (bs t)] w (TellX t w) := by
  have HB := Lib.hid (ball_new w #[.int .i64 0, .int .i64 0, .string ⟨#[]⟩, .string ⟨#[]⟩, .slice none 0 0] 36)
  have HN := Lib.hid (new_at w #[.int .i64 0, .int .i64 0, .string ⟨#[]⟩, .string ⟨#[]⟩, .slice none 0 0] 36)
  have CW := Lib.hid (wholeExpr_any t _ (hT.below HB.out) (fun lo w' g r h => Lib.hid (exprb_any w' g r h)))
  clear hT
  generalize bs t = TX at *
  go_enter Tryz.func11, Tryz.ntmps11
  go_wp2_with fail
  refine CW.out.mono ?_
  rintro e w1 ⟨x, rfl, hc, hin, hnn, hb⟩
  rw [exV_eq]
  have HC := Lib.hid hc
  have HI := Lib.hid hin
  have HNN := Lib.hid hnn
  have T1 : Hid (Turn [] w w1) := Lib.hid (((Turn.refl [] w).below HB.out).below hb)
  have HR := Lib.hid ((hb.block _ (lt_of_heap HN.out)).trans HN.out)
  clear hc hin hnn hb CW
  obtain ⟨y0, y1, y2, y3, y4⟩ := five_at HR.out
  have f0 := free_at HR.out 0
  have f1 := free_at HR.out 1
  have f2 := free_at HR.out 2
  have f3 := free_at HR.out 3
  have f4 := free_at HR.out 4
  go_wp2_with fail
  have HT := Lib.hid (turn5 w1 w.heap.size (.int .i64 x.op) (.int .i64 x.n) (.string x.s) (.string x.q) (.slice x.a x.x.length x.c))
  refine bodyPost_ret (results_ex2 rfl _ _ w.heap.size _ _ _ _ _ _ rfl rfl (set5 HR.out)) rfl ?_
  have hin := HI.out
  have hnn : New (w.heap.size + 1) x := New.mono HNN.out (by simp)
  exact ⟨x, by rw [exV_eq]; rfl, HC.out, ExIn.off hin (New.off hnn (fun k hk => by simp at hk; omega)) HT.out, New.mono hnn (by omega), (T1.out.then_ HT.out (fun k hk => by simp at hk; subst hk; exact .inr (Nat.le_refl _))).low (by simp) (Nat.le_refl _)⟩
end Go.Proofs.YtlhbhpdpjidpgaaGreatDoor.Prg
/- What must come, as the grammar tells it. No condition. -/
namespace Go.Proofs.YtlhbhpdpjidpgaaGreatDoor.Prg
open Tre Prs
set_option maxRecDepth 100000
def sumB : List UInt8 := [49, 43, 50, 42, 51]
def filB : List UInt8 := [112, 97, 99, 107, 97, 103, 101, 32, 112, 10, 102, 117, 110, 99, 32, 102, 40, 41, 32, 123, 32, 112, 114, 105, 110, 116, 40, 120, 46, 89, 40, 49, 41, 41, 32, 125, 10]
theorem sum_told : exprTP sumB = (Tx.mk 10 0 [] [] [Tx.mk 1 1 [] [] [], Tx.mk 7 0 [] [] [Tx.mk 1 2 [] [] [], Tx.mk 1 3 [] [] []]], 0) := by kernel_rfl
theorem fil_told : fileT filB = (Tl.mk [112] [] [Tf.mk [102] [] 0 [Ts.mk 6 [] (Tx.mk 4 0 [89] [120] [Tx.mk 1 1 [] [] []]) [] []]], 0) := by kernel_rfl
theorem sum_tree {x : Ex} (h : core x = (exprTP sumB).1) : x.op = 10 ∧ ∃ a b, x.x = [a, b] ∧ b.op = 7 := by
  rw [sum_told, core_eq] at h
  injection h with h1 _ _ _ h5
  obtain ⟨a, b, e, _, e2⟩ := map_two h5
  rw [core_eq] at e2
  injection e2 with e2
  exact ⟨h1, a, b, e, e2⟩
theorem fil_tree {f : Fl} (h : coreL f = (fileT filB).1) : f.s.data = #[112] ∧ ∃ g, f.f = [g] ∧ ∃ s, g.b = [s] ∧ s.e.q.data = #[120] := by
  rw [fil_told] at h
  unfold coreL at h
  injection h with h1 h2 h3
  obtain ⟨g, e, e2⟩ := map_one h3
  unfold coreF at e2
  injection e2 with _ _ _ e2
  obtain ⟨s, e3, e4⟩ := map_one e2
  rw [coreS_eq] at e4
  injection e4 with _ _ e4
  rw [core_eq] at e4
  injection e4 with _ _ _ e4
  exact ⟨Array.toList_inj.1 h1, g, e, s, e3, Array.toList_inj.1 e4⟩
theorem zero_tree {f : Fl} (h : coreL f = zeroL) : f.s.data = #[] ∧ f.i = [] ∧ f.f = [] := by
  unfold coreL zeroL at h
  injection h with h1 h2 h3
  exact ⟨Array.toList_inj.1 h1, List.map_eq_nil_iff.1 h2, List.map_eq_nil_iff.1 h3⟩
theorem zero_same {f : Fl} (h : coreL f = zeroL) : (decide ((nodes givenB f.f).length ≤ 100000) && sameFl f ⟨⟨#[]⟩, none, 0, [], none, 0, []⟩) = true := by
  obtain ⟨h1, h2, h3⟩ := zero_tree h
  unfold sameFl
  rw [h2, h3, text_beq (s := f.s) (t := ⟨#[]⟩) (by rw [h1])]
  rfl
end Go.Proofs.YtlhbhpdpjidpgaaGreatDoor.Prg
/- What must come comes: the law's knows. Conditions: the tables lie as the program's text lays them. -/
namespace Go.Proofs.YtlhbhpdpjidpgaaGreatDoor.Prg
open Go.RowKit Tre Prs
open Lex (bs str)
set_option maxRecDepth 100000
set_option linter.unusedSimpArgs false
theorem num_any (a : Int) (w : World) : Calls Tryz.prog 10 #[.int .i64 a] w fun e w' => e = .returned (.int .i64 a) ∧ w' = w := by
  go_enter Tryz.func10, Tryz.ntmps10
  go_wp2_with fail
  go_ret
  exact ⟨rfl, rfl⟩
/-- The sum's tree, as its cells lie. -/
theorem sum_cells {x : Ex} {w : World} (hc : core x = (exprTP sumB).1) (hx : ExIn w x) : ∃ (b o : Nat), exV x = .agg #[.int .i64 10, .int .i64 x.n, .string x.s, .string x.q, .slice (some ⟨b, o, none⟩) 2 x.c] ∧ w.cell? ⟨b, o + 5, none⟩ = some (.int .i64 7) ∧ b < w.heap.size := by
  obtain ⟨h1, y, z, h2, h3⟩ := sum_tree hc
  obtain ⟨b, o, e, hb, hr⟩ := hx.nd.row (by rw [h2]; exact Nat.succ_pos _)
  have h4 := hr 1 z (by rw [h2]; rfl) 0 (.int .i64 z.op) (by cases z; rfl)
  rw [h3] at h4
  exact ⟨b, o, by rw [exV_eq, h1, h2, e]; rfl, h4, hb⟩
/-- The file's tree, as its cells lie. -/
theorem fil_cells {f : Fl} {w : World} (hc : coreL f = (fileT filB).1) (hf : FlIn w f) : ∃ (b o d u : Nat) (k : Nat), flV f = .agg #[.string ⟨#[112]⟩, .slice f.ia f.i.length f.ic, .slice (some ⟨b, o, none⟩) 1 f.fc] ∧ w.cell? ⟨b, o + 3, none⟩ = some (.slice (some ⟨d, u, none⟩) 1 k) ∧ w.cell? ⟨d, u + 5, none⟩ = some (.string ⟨#[120]⟩) ∧ b < w.heap.size ∧ d < w.heap.size := by
  obtain ⟨h1, g, h2, s, h3, h4⟩ := fil_tree hc
  obtain ⟨b, o, e, hb, hr⟩ := hf.frow (by rw [h2]; exact Nat.succ_pos _)
  have hg := hf.fns g (by rw [h2]; exact List.mem_singleton.2 rfl)
  obtain ⟨d, u, e2, hd, hr2⟩ := hg.b (by rw [h3]; exact Nat.succ_pos _)
  have h5 := hr 0 g (by rw [h2]; rfl) 3 (.slice g.ba g.b.length g.bc) rfl
  have h6 := hr2 0 s (by rw [h3]; rfl) 5 (.string s.e.q) (by obtain ⟨_, _, ⟨_, _, _, _, _, _, _⟩, _, _, _, _, _, _⟩ := s; rfl)
  rw [Nat.zero_mul, Nat.add_zero] at h5 h6
  rw [e2, h3] at h5
  have e3 : f.s = ⟨#[112]⟩ := by cases hs : f.s; rw [hs] at h1; rw [← h1]
  have e4 : s.e.q = ⟨#[120]⟩ := by cases hs : s.e.q; rw [hs] at h4; rw [← h4]
  rw [e4] at h6
  exact ⟨b, o, d, u, g.bc, by unfold flV; rw [e3, h2, e]; rfl, h5, h6, hb, hd⟩
set_option maxHeartbeats 4000000 in
theorem knows_any (w : World) (hT : Tabs w) : Calls Tryz.prog 6 #[] w (EndsB (.bool true) w) := by
  have CX : Hid (Calls Tryz.prog 11 #[.string ⟨#[49, 43, 50, 42, 51]⟩] w (TellX sumB w)) := Lib.hid (parseExpr_any sumB w hT)
  have CF : Hid (∀ w', Below w.heap.size w w' → Calls Tryz.prog 7 #[.string ⟨#[112, 97, 99, 107, 97, 103, 101, 32, 112, 10, 102, 117, 110, 99, 32, 102, 40, 41, 32, 123, 32, 112, 114, 105, 110, 116, 40, 120, 46, 89, 40, 49, 41, 41, 32, 125, 10]⟩] w' (TellF filB w')) := Lib.hid (fun w' hb => parseFile_any filB w' (hT.below hb))
  have CN := fun e w' => Lib.hid (num_any e w')
  clear hT
  go_enter Tryz.func6, Tryz.ntmps6
  go_wp2_with fail
  refine CX.out.mono ?_
  rintro e w1 ⟨x, rfl, hc, hin, hnn, hb⟩
  obtain ⟨xb, xo, hv, hcell, hlt⟩ := sum_cells hc hin
  rw [hv, sum_told]
  dsimp only
  have HB1 := Lib.hid hb
  have HL1 := Lib.hid hlt
  have HC1 := Lib.hid hcell
  generalize x.n = xn at *
  generalize x.s = xs at *
  generalize x.q = xq at *
  generalize x.c = xc at *
  clear hc hin hnn hb hv hlt hcell CX
  have HBA := Lib.hid (ball_new w1 #[.int .i64 10, .int .i64 xn, .string xs, .string xq, .slice (some ⟨xb, xo, none⟩) 2 xc] 36)
  have HNA := Lib.hid (new_at w1 #[.int .i64 10, .int .i64 xn, .string xs, .string xq, .slice (some ⟨xb, xo, none⟩) 2 xc] 36)
  have HB2 := Lib.hid (HB1.out.trans (HBA.out.mono HB1.out.size))
  have CF2 := Lib.hid (CF.out _ HB2.out)
  clear CF
  go_wp2_with fail
  refine CF2.out.mono ?_
  rintro e w2 ⟨f, rfl, hc, hin, hnn, hb⟩
  obtain ⟨fb, fo, sb, so, k, hv, hcell, hcell2, hlt, hlt2⟩ := fil_cells hc hin
  rw [hv, fil_told]
  dsimp only
  have HB3 := Lib.hid (HB2.out.trans (hb.mono HB2.out.size))
  have HNX := Lib.hid ((hb.block _ (lt_of_heap HNA.out)).trans HNA.out)
  have HC2 : Hid (w2.cell? ⟨xb, xo + 5, none⟩ = some (.int .i64 7)) := Lib.hid ((World.cell?_of_block ((HBA.out.mono (Nat.le_refl _) |>.trans (hb.mono HBA.out.size)).block _ HL1.out)).trans HC1.out)
  have HL2 : Hid (xb < w2.heap.size) := Lib.hid (Nat.lt_of_lt_of_le HL1.out (Nat.le_trans HBA.out.size hb.size))
  have HBF := Lib.hid (ball_new w2 #[.string ⟨#[112]⟩, .slice f.ia f.i.length f.ic, .slice (some ⟨fb, fo, none⟩) 1 f.fc] 26)
  have HNF := Lib.hid (new_at w2 #[.string ⟨#[112]⟩, .slice f.ia f.i.length f.ic, .slice (some ⟨fb, fo, none⟩) 1 f.fc] 26)
  have HNX2 := Lib.hid ((HBF.out.block _ (lt_of_heap HNX.out)).trans HNX.out)
  have HB4 := Lib.hid (HB3.out.trans (HBF.out.mono HB3.out.size))
  have z1 := (World.cell?_of_block (HBF.out.block _ HL2.out)).trans HC2.out
  have z2 := (World.cell?_of_block (HBF.out.block _ hlt)).trans hcell
  have z3 := (World.cell?_of_block (HBF.out.block _ hlt2)).trans hcell2
  generalize f.ia = fi at *
  generalize f.i.length = fl at *
  generalize f.ic = fc at *
  generalize f.fc = fd at *
  clear hc hin hnn hb hv hlt hlt2 hcell hcell2 CF2 HC2 HC1 HL1 HL2 HB1 HB2 HB3 HBA HNA HNX HBF
  obtain ⟨y0, y1, y2, y3, y4⟩ := five_at HNX2.out
  obtain ⟨u0, u1, u2⟩ := three_at HNF.out
  go_wp2_with (go_at_call 10; refine (CN _ _).out.mono ?_; rintro e w' ⟨rfl, rfl⟩)
  go_ret
  exact EndsB.of rfl HB4.out
end Go.Proofs.YtlhbhpdpjidpgaaGreatDoor.Prg
/- Show: a word as it is written. Conditions: sizes; the number is an int64; the library's table of powers lies as it is laid. -/
namespace Go.Proofs.YtlhbhpdpjidpgaaGreatDoor.Lex
open Go.RowKit
open Num (EndsW)
set_option maxRecDepth 100000
theorem cat_bs (a b : List UInt8) : bs a ++ bs b = bs (a ++ b) := by
  apply ByteArray.ext
  simp [bs]
def newW (w : World) (k : Int) (S : ByteArray) (n : Int) : World := w.alloc (.cells #[.int .i64 k, .string S, .int .i64 n] 73)
theorem new_below (w : World) (k : Int) (S : ByteArray) (n : Int) : Below w.heap.size w (newW w k S n) := (Below.refl _ w).alloc (Nat.le_refl _) _
theorem new_at (w : World) (k : Int) (S : ByteArray) (n : Int) : (newW w k S n).heap[w.heap.size]? = some (.cells #[.int .i64 k, .string S, .int .i64 n] 73 (0, 0)) := heap_alloc_new _ _
theorem endsb_str {a b : List UInt8} {w w1 w' : World} (hab : a = b) (h1 : Below w.heap.size w w1) (h2 : Below w1.heap.size w1 w') : EndsB (str b) w (.returned (.string (bs a))) w' := by subst hab; exact ⟨rfl, h1.trans (h2.mono h1.size)⟩
end Go.Proofs.YtlhbhpdpjidpgaaGreatDoor.Lex
