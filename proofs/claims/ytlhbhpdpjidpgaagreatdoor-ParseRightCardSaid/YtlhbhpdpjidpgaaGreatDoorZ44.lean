/-
  What the grammar tells is right, and no greater than its words: functions, files. No condition.
-/
import Derived.Test.YtlhbhpdpjidpgaaGreatDoorZ34
import Derived.Test.YtlhbhpdpjidpgaaGreatDoorZ43
namespace Go.Proofs.YtlhbhpdpjidpgaaGreatDoor.Prg
open Tre Prs
set_option maxRecDepth 100000
def OkP (p : Tp) : Prop := Lex.nameOk p.s = true ∧ (p.t = 1 ∨ p.t = 2)
def OkF (f : Tf) : Prop := Lex.nameOk f.s = true ∧ f.p.length ≤ 4 ∧ (∀ p ∈ f.p, OkP p) ∧ (f.r = 0 ∨ f.r = 1 ∨ f.r = 2) ∧ ∀ y ∈ f.b, OkS y
def wordOk (s : List UInt8) : Prop := Lex.nameOk s = true ∨ Lex.keyB s = true
def OkL (f : Tl) : Prop := wordOk f.s ∧ f.i.length ≤ 8 ∧ f.f.length ≤ 32 ∧ (∀ s ∈ f.i, wordOk s) ∧ ∀ g ∈ f.f, OkF g
def wtF (f : Tf) : Nat := 1 + sumS f.b
def sumF (l : List Tf) : Nat := (l.map wtF).sum
theorem sumF_app (l m : List Tf) : sumF (l ++ m) = sumF l + sumF m := by simp [sumF]
theorem sumF_one (x : Tf) : sumF [x] = wtF x := by simp [sumF]
theorem typeN_kind (r : PS) : typeN r = 0 ∨ typeN r = 1 ∨ typeN r = 2 := by
  unfold typeN
  split
  · exact .inr (.inl rfl)
  split
  · exact .inr (.inr rfl)
  · exact .inl rfl
theorem typeMust_ok {r : PS} (h : (typeMust r).bad = false) : (typeN r = 1 ∨ typeN r = 2) ∧ typeMust r = typeR r ∧ lenR (typeMust r) ≤ lenR r ∧ r.bad = false ∧ (typeMust r).big = r.big := by
  have hb : r.bad = false := by
    cases hb : r.bad with
    | false => rfl
    | true => rw [typeMust_bad hb] at h; cases h
  have hl := typeMust_lenR r
  unfold typeMust at h hl ⊢
  by_cases h0 : (typeN r == 0) = true
  · rw [if_pos h0] at h; cases h
  · rw [if_neg h0] at hl ⊢
    refine ⟨?_, rfl, hl, hb, ?_⟩
    · rcases typeN_kind r with h1 | h1 | h1
      · simp [h1] at h0
      · exact .inl h1
      · exact .inr h1
    · unfold typeR
      split <;> rfl
theorem typeR_suf (r : PS) : (typeR r).l <:+ r.l := by
  unfold typeR
  split
  · exact tl_suf r
  · exact List.suffix_refl _
theorem typeMust_suf (r : PS) : (typeMust r).l <:+ r.l := by
  unfold typeMust
  split
  · exact typeR_suf r
  · exact typeR_suf r
set_option maxHeartbeats 16000000 in
/-- Parameters. -/
theorem par_upto : ∀ (N : Nat) (xs : List Tp) (r : PS), lenR r ≤ N → (tellP xs r).2.bad = false → lenR (tellP xs r).2 + 1 ≤ lenR r ∧ (tellP xs r).2.big = r.big ∧ (tellP xs r).2.l <:+ r.l ∧ (Goods r → (∀ p ∈ xs, OkP p) → ∀ p ∈ (tellP xs r).1, OkP p) := by
  intro N
  induction N with
  | zero =>
    intro xs r hl hb
    rw [tellP_eq] at hb ⊢
    split at hb
    · obtain ⟨m1, _, _, _⟩ := mustW_ok hb
      omega
    next hi =>
    have hr : r.bad = false := by
      cases hr : r.bad with
      | false => rfl
      | true => simp [hr] at hi
    have hw : (wordR r 1 false).bad = true := by
      cases hw : (wordR r 1 false).bad with
      | true => rfl
      | false => have := wordR_lt hw; omega
    have ht := typeMust_bad hw
    rw [isW_bad ht] at hb
    have hb : (mustW (typeMust (wordR r 1 false)) [41]).bad = false := hb
    rw [mustW_bad ht] at hb
    cases hb
  | succ N ih =>
    intro xs r hl hb
    rw [tellP_eq] at hb ⊢
    split at hb
    · next hi =>
      rw [if_pos hi]
      obtain ⟨m1, m2, m3, m4⟩ := mustW_ok hb
      exact ⟨by show lenR (mustW r [41]) + 1 ≤ _; omega, m3, mustW_suf _ _, fun _ h => h⟩
    next hi =>
    rw [if_neg hi]
    have one : (typeMust (wordR r 1 false)).bad = false → lenR (typeMust (wordR r 1 false)) + 1 ≤ lenR r ∧ (typeMust (wordR r 1 false)).big = r.big ∧ (typeMust (wordR r 1 false)).l <:+ r.l ∧ (Goods r → OkP ⟨wordS r 1 false, typeN (wordR r 1 false)⟩) := fun h => by
      obtain ⟨t1, t2, t3, t4, t5⟩ := typeMust_ok h
      have := wordR_lt t4
      exact ⟨by omega, by rw [t5, wordR_big], (typeMust_suf _).trans (wordR_suf _ _ _), fun hg => ⟨(name_ok t4 hg).1, t1⟩⟩
    split at hb
    · next hc =>
      rw [if_pos hc]
      have h1 := tl_ok hc
      obtain ⟨o1, o2, o3, o4⟩ := one (isW_pos hc).2
      split at hb
      · dsimp only at hb
        have hb2 := (mustW_ok hb).2.1
        cases hb2
      · next hd =>
        rw [if_neg hd]
        obtain ⟨a1, a2, a3, a4⟩ := ih (xs ++ [⟨wordS r 1 false, typeN (wordR r 1 false)⟩]) (tl (typeMust (wordR r 1 false))) (by omega) hb
        refine ⟨by omega, a2.trans o2, a3.trans ((tl_suf _).trans o3), fun hg hx => a4 (hg.suf ((tl_suf _).trans o3)) (fun p hp => ?_)⟩
        rcases List.mem_append.1 hp with hp | hp
        · exact hx p hp
        · obtain rfl : p = _ := by simpa using hp
          exact o4 hg
    · next hc =>
      rw [if_neg hc]
      obtain ⟨m1, m2, m3, m4⟩ := mustW_ok (r := typeMust (wordR r 1 false)) (s := [41]) hb
      obtain ⟨o1, o2, o3, o4⟩ := one m2
      refine ⟨by show lenR (mustW (typeMust (wordR r 1 false)) [41]) + 1 ≤ _; omega, m3.trans o2, (mustW_suf _ _).trans o3, fun hg hx p hp => ?_⟩
      rcases List.mem_append.1 hp with hp | hp
      · exact hx p hp
      · obtain rfl : p = _ := by simpa using hp
        exact o4 hg
set_option maxHeartbeats 16000000 in
/-- A function. -/
theorem fn_told {r : PS} (hb : (fnD r).2.bad = false) : wtF (fnD r).1 + 3 * lenR (fnD r).2 ≤ 3 * lenR r ∧ (fnD r).2.l <:+ r.l ∧ ((fnD r).2.big = false → r.big = false) ∧ (Goods r → (fnD r).2.big = false → OkF (fnD r).1) := by
  have hk : (tellS .block (typeR (tellP [] (mustW (wordR r 1 false) [40])).2)).2.bad = false := by unfold fnD at hb; dsimp only at hb; exact hb
  have h1 := not_badS hk
  have h2 : (tellP [] (mustW (wordR r 1 false) [40])).2.bad = false := by
    unfold typeR at h1
    split at h1
    · exact h1
    · exact h1
  obtain ⟨p1, p2, p3, p4⟩ := par_upto _ [] (mustW (wordR r 1 false) [40]) (Nat.le_refl _) h2
  have hmb : (mustW (wordR r 1 false) [40]).bad = false := by
    cases hm : (mustW (wordR r 1 false) [40]).bad with
    | false => rfl
    | true => rw [tellP_bad hm] at h2; cases h2
  obtain ⟨m1, m2, m3, _⟩ := mustW_ok hmb
  have hw := wordR_lt m2
  have ht := typeR_lenR (tellP [] (mustW (wordR r 1 false) [40])).2
  obtain ⟨b1, b2⟩ := block_told hk
  have hs0 : (tellP [] (mustW (wordR r 1 false) [40])).2.l <:+ r.l := p3.trans ((mustW_suf _ _).trans (wordR_suf _ _ _))
  have hs1 : (typeR (tellP [] (mustW (wordR r 1 false) [40])).2).l <:+ r.l := (typeR_suf _).trans hs0
  have hbig : (fnD r).2.big = false → (tellS .block (typeR (tellP [] (mustW (wordR r 1 false) [40])).2)).2.big = false ∧ (tellP [] (mustW (wordR r 1 false) [40])).1.length ≤ 4 := fun h => by
    unfold fnD at h
    dsimp only at h
    simp only [Bool.or_eq_false_iff, decide_eq_false_iff_not] at h
    exact ⟨h.1, by omega⟩
  refine ⟨?_, (by unfold fnD; dsimp only; exact (tellS_suf _ _).trans hs1), fun h => ?_, fun hg h => ?_⟩
  · have e1 : lenR (fnD r).2 = lenR (tellS .block (typeR (tellP [] (mustW (wordR r 1 false) [40])).2)).2 := by unfold fnD lenR; dsimp only
    have e2 : wtF (fnD r).1 = 1 + sumS (tellS .block (typeR (tellP [] (mustW (wordR r 1 false) [40])).2)).1 := by unfold fnD wtF; dsimp only
    omega
  · have h3 := tellS_big (hbig h).1
    have h4 : (typeR (tellP [] (mustW (wordR r 1 false) [40])).2).big = (tellP [] (mustW (wordR r 1 false) [40])).2.big := by unfold typeR; split <;> rfl
    rw [h4, p2, m3, wordR_big] at h3
    exact h3
  · obtain ⟨h5, h6⟩ := hbig h
    unfold fnD
    dsimp only
    refine ⟨(name_ok m2 hg).1, h6, p4 (hg.suf ((mustW_suf _ _).trans (wordR_suf _ _ _))) (fun p hp => by simp at hp), ?_, b2 (hg.suf hs1) h5⟩
    exact typeN_kind _
/-- Functions. -/
theorem fs_upto : ∀ (N : Nat) (xs : List Tf) (r : PS), lenR r ≤ N → (tellF xs r).2.bad = false → sumF (tellF xs r).1 + 3 * lenR (tellF xs r).2 ≤ 3 * lenR r + sumF xs ∧ ((tellF xs r).2.big = false → r.big = false) ∧ (Goods r → (∀ f ∈ xs, OkF f) → (tellF xs r).2.big = false → ∀ f ∈ (tellF xs r).1, OkF f) := by
  intro N
  induction N with
  | zero =>
    intro xs r hl hb
    have hi : isW r wFunc = false := by
      cases hi : isW r wFunc with
      | false => rfl
      | true => have := lenR_pos hi; omega
    rw [tellF_eq, if_neg (by simp [hi])]
    exact ⟨by show sumF xs + 3 * lenR r ≤ _; omega, fun h => h, fun _ h _ => h⟩
  | succ N ih =>
    intro xs r hl hb
    by_cases hi : isW r wFunc = true
    · rw [tellF_eq, if_pos hi] at hb ⊢
      have h1 := tl_ok hi
      have h2 : (mustW (fnD (tl r)).2 [59]).bad = false := by
        cases hm : (mustW (fnD (tl r)).2 [59]).bad with
        | false => rfl
        | true => rw [tellF_bad hm] at hb; cases hb
      obtain ⟨m1, m2, m3, _⟩ := mustW_ok h2
      obtain ⟨f1, f2, f3, f4⟩ := fn_told m2
      have h3 := fnD_lenR (tl r)
      obtain ⟨a1, a2, a3⟩ := ih (xs ++ [(fnD (tl r)).1]) (mustW (fnD (tl r)).2 [59]) (by omega) hb
      refine ⟨?_, fun h => f3 (by rw [← m3]; exact a2 h), fun hg hx hbig => a3 (hg.suf ((mustW_suf _ _).trans (f2.trans (tl_suf r)))) (fun f hf => ?_) hbig⟩
      · rw [sumF_app, sumF_one] at a1
        omega
      · rcases List.mem_append.1 hf with hf | hf
        · exact hx f hf
        · obtain rfl : f = _ := by simpa using hf
          exact f4 (hg.suf (tl_suf r)) (by rw [← m3]; exact a2 hbig)
    · rw [tellF_eq, if_neg hi]
      exact ⟨by show sumF xs + 3 * lenR r ≤ _; omega, fun h => h, fun _ h _ => h⟩
theorem text_ok {r : PS} (h : (wordR r 3 false).bad = false) (hg : Goods r) : wordOk (wordS r 3 false) ∧ lenR (wordR r 3 false) + 1 = lenR r := by
  have hb : r.bad = false := by
    cases hb : r.bad with
    | false => rfl
    | true => rw [wordR_bad hb 3 false (by decide)] at h; cases h
  unfold wordR wordS at *
  by_cases hw : wordNo r 3 false = true
  · rw [if_pos hw] at h
    simp [badR] at h
  · rw [if_neg hw, if_neg hw]
    have hk : (peek r).k = 3 := by simpa [wordNo] using hw
    have hgd := hg _ (peek_mem (r := r) (by omega))
    obtain ⟨h5, h6⟩ := peek_k (r := r) (by omega)
    refine ⟨?_, ?_⟩
    · generalize peek r = x at *
      cases hgd with
      | name s c q e ha hd hl => dsimp only at hk; split at hk <;> omega
      | num n h0 h1 => simp at hk
      | text s h =>
        show Lex.nameOk s = true ∨ Lex.keyB s = true
        unfold Lex.textOk at h
        simpa using h
      | sign s h => simp at hk
    · rw [lenR_tl]
      have : lenR r = r.l.length := by simp [lenR, h5]
      omega
set_option maxHeartbeats 16000000 in
/-- Imports. -/
theorem im_upto : ∀ (N : Nat) (xs : List (List UInt8)) (r : PS), lenR r ≤ N → Goods r → (tellI xs r).2.bad = false → lenR (tellI xs r).2 ≤ lenR r ∧ (tellI xs r).2.big = r.big ∧ (tellI xs r).2.l <:+ r.l ∧ ((∀ s ∈ xs, wordOk s) → ∀ s ∈ (tellI xs r).1, wordOk s) := by
  intro N
  induction N with
  | zero =>
    intro xs r hl _ hb
    have hi : isW r wImport = false := by
      cases hi : isW r wImport with
      | false => rfl
      | true => have := lenR_pos hi; omega
    rw [tellI_eq, if_neg (by simp [hi])]
    exact ⟨Nat.le_refl _, rfl, List.suffix_refl _, fun h => h⟩
  | succ N ih =>
    intro xs r hl hg hb
    by_cases hi : isW r wImport = true
    · rw [tellI_eq, if_pos hi] at hb ⊢
      have h1 := tl_ok hi
      have h2 : (mustW (wordR (tl r) 3 false) [59]).bad = false := by
        cases hm : (mustW (wordR (tl r) 3 false) [59]).bad with
        | false => rfl
        | true => rw [tellI_bad hm] at hb; cases hb
      obtain ⟨m1, m2, m3, _⟩ := mustW_ok h2
      have hg2 : Goods (tl r) := hg.suf (tl_suf r)
      obtain ⟨t1, t2⟩ := text_ok m2 hg2
      have hs : (mustW (wordR (tl r) 3 false) [59]).l <:+ r.l := (mustW_suf _ _).trans ((wordR_suf _ _ _).trans (tl_suf r))
      obtain ⟨a1, a2, a3, a4⟩ := ih (xs ++ [wordS (tl r) 3 false]) (mustW (wordR (tl r) 3 false) [59]) (by omega) (hg.suf hs) hb
      refine ⟨by omega, ?_, a3.trans hs, fun hx => a4 (fun s hs => ?_)⟩
      · rw [a2, m3, wordR_big]
        rfl
      · rcases List.mem_append.1 hs with hs | hs
        · exact hx s hs
        · obtain rfl : s = _ := by simpa using hs
          exact t1
    · rw [tellI_eq, if_neg hi]
      exact ⟨Nat.le_refl _, rfl, List.suffix_refl _, fun h => h⟩
set_option maxHeartbeats 16000000 in
/-- A file is right, and no greater than three times its words. -/
theorem file_told {r : PS} (hg : Goods r) (hb : (fileD r).2.bad = false) (hbig : (fileD r).2.big = false) : OkL (fileD r).1 ∧ sumF (fileD r).1.f ≤ 3 * lenR r := by
  have h1 : (tellF [] (tellI [] (headR r)).2).2.bad = false := by unfold fileD at hb; dsimp only at hb; exact hb
  have h2 := hbig
  unfold fileD at h2
  dsimp only at h2
  simp only [Bool.or_eq_false_iff, decide_eq_false_iff_not] at h2
  obtain ⟨f1, f2, f3⟩ := fs_upto _ [] (tellI [] (headR r)).2 (Nat.le_refl _) h1
  have h3 : (tellI [] (headR r)).2.bad = false := by
    cases hm : (tellI [] (headR r)).2.bad with
    | false => rfl
    | true => rw [tellF_bad hm] at h1; cases h1
  have h4 : (headR r).bad = false := by
    cases hm : (headR r).bad with
    | false => rfl
    | true => rw [tellI_bad hm] at h3; cases h3
  obtain ⟨m1, m2, m3, _⟩ := mustW_ok (r := wordR (mustW r wPackage) 1 true) (s := [59]) h4
  have hb0 : (mustW r wPackage).bad = false := by
    cases hm : (mustW r wPackage).bad with
    | false => rfl
    | true => rw [wordR_bad hm 1 true (by decide)] at m2; cases m2
  obtain ⟨q1, q2, q3, _⟩ := mustW_ok hb0
  have hg1 : Goods (mustW r wPackage) := hg.suf (mustW_suf _ _)
  have hs : (headR r).l <:+ r.l := (mustW_suf _ _).trans ((wordR_suf _ _ _).trans (mustW_suf _ _))
  have hg2 : Goods (headR r) := hg.suf hs
  have hwl := lenR_wordR (mustW r wPackage) 1 true
  obtain ⟨i1, i2, i3, i4⟩ := im_upto _ [] (headR r) (Nat.le_refl _) hg2 h3
  have hl : lenR (headR r) + 1 ≤ lenR r := by
    have : lenR (headR r) = lenR (mustW (wordR (mustW r wPackage) 1 true) [59]) := rfl
    omega
  unfold fileD
  dsimp only
  refine ⟨⟨?_, by dsimp only; omega, by dsimp only; omega, i4 (fun s hs => by simp at hs), f3 (hg2.suf i3) (fun f hf => by simp at hf) h2.1⟩, ?_⟩
  · show wordOk (wordS (mustW r wPackage) 1 true)
    generalize mustW r wPackage = r0 at *
    unfold wordR at m2
    unfold wordS
    by_cases hw : wordNo r0 1 true = true
    · rw [if_pos hw] at m2
      cases m2
    · rw [if_neg hw]
      have hk : (peek r0).k = 1 ∨ (peek r0).k = 4 := by
        simp only [wordNo, Bool.true_and, Bool.and_eq_true, Bool.not_eq_true', not_and, Bool.not_eq_false] at hw
        by_cases h : (peek r0).k = 1
        · exact .inl h
        · exact .inr (by simpa using hw (by simpa using h))
      have hgd := hg1 _ (peek_mem (r := r0) (by omega))
      rcases hk with hk | hk
      · exact .inl (good_name hgd hk)
      · refine .inr ?_
        generalize peek r0 = x at *
        cases hgd with
        | name s c q e ha hd hl =>
          show Lex.keyB s = true
          cases hc : Lex.keyB s with
          | true => rfl
          | false => simp [hc] at hk
        | num n h0 h1 => simp at hk
        | text s h => simp at hk
        | sign s h => simp at hk
  · have : sumF [] = 0 := rfl
    omega
end Go.Proofs.YtlhbhpdpjidpgaaGreatDoor.Prg
/- What is told is right, and not too great: of the tree that holds it. No condition. -/
namespace Go.Proofs.YtlhbhpdpjidpgaaGreatDoor.Prg
open Tre Prs
set_option maxRecDepth 100000
theorem empty_of {s : ByteArray} (h : s.data.toList = []) : (s.toList == []) = true := by
  rw [ByteArray.toList_eq, h]
  rfl
theorem size_core_upto : ∀ (m : Nat) (e : Ex), size e ≤ m → sizeT (core e) = size e
  | 0, e, h => by rw [size_eq] at h; omega
  | m + 1, e, h => by
    rw [core_eq, sizeT_eq, size_eq]
    have : ∀ l : List Ex, (∀ y ∈ l, size y ≤ m) → sumT (l.map core) = sizeL l := by
      intro l
      induction l with
      | nil => intro _; rfl
      | cons y l ih =>
        intro hl
        have h1 := size_core_upto m y (hl y (by simp))
        have h2 := ih (fun z hz => hl z (by simp [hz]))
        rw [sizeL_cons, List.map_cons]
        unfold sumT at h2 ⊢
        rw [List.map_cons, List.sum_cons, h1, h2]
    rw [this e.x (fun y hy => by have := size_part hy; omega)]
theorem size_core (e : Ex) : sizeT (core e) = size e := size_core_upto _ e (Nat.le_refl _)
theorem map_one {α β : Type} {c : α → β} {l : List α} {x : β} (h : l.map c = [x]) : ∃ a, l = [a] ∧ c a = x := by
  cases l with
  | nil => cases h
  | cons a l => cases l with
    | nil => injection h with h _; exact ⟨a, rfl, h⟩
    | cons b l => simp at h
theorem map_two {α β : Type} {c : α → β} {l : List α} {x y : β} (h : l.map c = [x, y]) : ∃ a b, l = [a, b] ∧ c a = x ∧ c b = y := by
  cases l with
  | nil => cases h
  | cons a l => cases l with
    | nil => simp at h
    | cons b l => cases l with
      | nil => simp only [List.map_cons, List.map_nil, List.cons.injEq, and_true] at h; exact ⟨a, b, rfl, h.1, h.2⟩
      | cons d l => simp at h
/-- One node. -/
theorem rX_ok {e : Ex} (h : OkX (core e)) : rX e = true ∧ ∀ y ∈ e.x, OkX (core y) := by
  rw [core_eq] at h
  generalize ho : e.op = op at h
  generalize hn : e.n = n at h
  generalize hs : e.s.data.toList = s at h
  generalize hq : e.q.data.toList = q at h
  generalize hx : e.x.map core = x at h
  unfold rX
  cases h with
  | num n h =>
    have hx0 : e.x = [] := List.map_eq_nil_iff.1 hx
    rw [hx0]
    unfold numOk namesOk partsOk partsI
    rw [ho, hn, hx0, empty_of hs, empty_of hq]
    simp [h]
  | truth n h =>
    have hx0 : e.x = [] := List.map_eq_nil_iff.1 hx
    rw [hx0]
    unfold numOk namesOk partsOk partsI
    rw [ho, hn, hx0, empty_of hs, empty_of hq]
    rcases h with rfl | rfl <;> simp
  | name s h =>
    have hx0 : e.x = [] := List.map_eq_nil_iff.1 hx
    rw [hx0]
    unfold numOk namesOk partsOk partsI nameB
    rw [ho, hn, hx0, hs, h, empty_of hq]
    simp
  | call s q x h h2 hl hy =>
    unfold numOk namesOk partsOk nameB
    rw [ho, hn, hs, h]
    have hl2 : e.x.length ≤ 255 := by rw [← hx, List.length_map] at hl; exact hl
    refine ⟨?_, fun y hm => hy _ (by rw [← hx]; exact List.mem_map_of_mem hm)⟩
    rcases h2 with h2 | h2
    · rw [empty_of (hq.trans h2)]
      simp [hl2]
    · rw [hq, h2]
      simp [hl2]
  | one op y h hy =>
    obtain ⟨a, ha, hc⟩ := map_one hx
    rw [ha]
    unfold numOk namesOk partsOk partsI
    rw [ho, hn, ha, empty_of hs, empty_of hq]
    refine ⟨?_, fun z hz => by simp at hz; subst hz; rw [hc]; exact hy⟩
    rcases h with rfl | rfl <;> simp
  | two op y z h h2 hy hz =>
    obtain ⟨a, b, ha, hc, hd⟩ := map_two hx
    rw [ha]
    unfold numOk namesOk partsOk partsI
    rw [ho, hn, ha, empty_of hs, empty_of hq]
    refine ⟨?_, fun u hu => by
      simp at hu
      rcases hu with rfl | rfl
      · rw [hc]; exact hy
      · rw [hd]; exact hz⟩
    have e1 : (op == 1) = false := by simp; omega
    have e2 : (op == 2) = false := by simp; omega
    have e3 : (op == 3) = false := by simp; omega
    have e4 : (op == 4) = false := by simp; omega
    have e5 : (op == 5) = false := by simp; omega
    have e6 : (op == 6) = false := by simp; omega
    rw [e1, e2, e3, e4, e5, e6]
    simp [h, h2]
theorem rExpr_upto : ∀ (m : Nat) (e : Ex), size e ≤ m → OkX (core e) → rExpr e = true
  | 0, e, h, _ => by rw [size_eq] at h; omega
  | m + 1, e, h, ho => by
    obtain ⟨h1, h2⟩ := rX_ok ho
    unfold rExpr
    rw [flat_eq, List.all_cons, h1, Bool.true_and]
    unfold flatL
    rw [List.all_flatMap, List.all_eq_true]
    intro y hy
    exact rExpr_upto m y (by have := size_part hy; omega) (h2 y hy)
theorem rExpr_ok {e : Ex} (h : OkX (core e)) : rExpr e = true := rExpr_upto _ e (Nat.le_refl _) h
theorem zero_nil {e : Ex} (h : core e = nilT) : zeroX e = true := by
  rw [core_eq] at h
  unfold nilT at h
  injection h with h1 h2 h3 h4 h5
  unfold zeroX
  rw [h1, h2, empty_of h3, empty_of h4, List.map_eq_nil_iff.1 h5]
  rfl
/-- One statement. -/
theorem rStmt_ok {s : St} (h : OkS (coreS s)) : rStmt s = true ∧ (∀ y ∈ s.b, OkS (coreS y)) ∧ ∀ y ∈ s.b2, OkS (coreS y) := by
  rw [coreS_eq] at h
  generalize ho : s.op = op at h
  generalize hs : s.s.data.toList = t at h
  generalize he : core s.e = e at h
  generalize hb : s.b.map coreS = b at h
  generalize hb2 : s.b2.map coreS = b2 at h
  unfold rStmt targetOk blocksOk askedOk nameB
  rw [ho]
  cases h with
  | def_ s e h hx =>
    have h0 := List.map_eq_nil_iff.1 hb
    have h2 := List.map_eq_nil_iff.1 hb2
    rw [hs, h, h0, h2, rExpr_ok (he.symm ▸ hx)]
    simp
  | set_ s e h hx =>
    have h0 := List.map_eq_nil_iff.1 hb
    have h2 := List.map_eq_nil_iff.1 hb2
    rw [hs, h, h0, h2, rExpr_ok (he.symm ▸ hx)]
    simp
  | if_ e b b2 hx h1 h2 =>
    rw [empty_of hs, rExpr_ok (he.symm ▸ hx)]
    exact ⟨rfl, fun y hy => h1 _ (by rw [← hb]; exact List.mem_map_of_mem hy), fun y hy => h2 _ (by rw [← hb2]; exact List.mem_map_of_mem hy)⟩
  | for_ e b hx h1 =>
    have h2 := List.map_eq_nil_iff.1 hb2
    rw [empty_of hs, h2, rExpr_ok (he.symm ▸ hx)]
    exact ⟨rfl, fun y hy => h1 _ (by rw [← hb]; exact List.mem_map_of_mem hy), fun y hy => by simp at hy⟩
  | ret e hx =>
    have h0 := List.map_eq_nil_iff.1 hb
    have h2 := List.map_eq_nil_iff.1 hb2
    rw [empty_of hs, h0, h2, rExpr_ok (he.symm ▸ hx)]
    simp
  | retn =>
    have h0 := List.map_eq_nil_iff.1 hb
    have h2 := List.map_eq_nil_iff.1 hb2
    rw [empty_of hs, h0, h2, zero_nil he]
    simp
  | print e hx =>
    have h0 := List.map_eq_nil_iff.1 hb
    have h2 := List.map_eq_nil_iff.1 hb2
    rw [empty_of hs, h0, h2, rExpr_ok (he.symm ▸ hx)]
    simp
  | call t q x hx =>
    have h0 := List.map_eq_nil_iff.1 hb
    have h2 := List.map_eq_nil_iff.1 hb2
    have h4 : s.e.op = 4 := by
      rw [core_eq] at he
      injection he
    rw [empty_of hs, h0, h2, rExpr_ok (he.symm ▸ hx), h4]
    simp
  | brk =>
    have h0 := List.map_eq_nil_iff.1 hb
    have h2 := List.map_eq_nil_iff.1 hb2
    rw [empty_of hs, h0, h2, zero_nil he]
    simp
  | nxt =>
    have h0 := List.map_eq_nil_iff.1 hb
    have h2 := List.map_eq_nil_iff.1 hb2
    rw [empty_of hs, h0, h2, zero_nil he]
    simp
theorem rStmts_upto : ∀ (m : Nat) (l : List St), sizeB l ≤ m → (∀ y ∈ l, OkS (coreS y)) → (flatB l).all rStmt = true
  | _, [], _, _ => rfl
  | 0, s :: l, h, _ => by rw [sizeB_cons, sizeS_eq] at h; omega
  | m + 1, s :: l, h, ho => by
    obtain ⟨h1, h2, h3⟩ := rStmt_ok (ho s (by simp))
    rw [sizeB_cons, sizeS_eq] at h
    rw [flatB_cons, flatS_eq, List.all_append, List.all_cons, List.all_append, h1, rStmts_upto m s.b (by omega) h2, rStmts_upto m s.b2 (by omega) h3, rStmts_upto m l (by omega) (fun y hy => ho y (by simp [hy]))]
    rfl
theorem rStmts_ok {l : List St} (h : ∀ y ∈ l, OkS (coreS y)) : (flatB l).all rStmt = true := rStmts_upto _ l (Nat.le_refl _) h
theorem word_ok {s : ByteArray} (h : wordOk s.data.toList) : wordB s = true := by
  unfold wordB nameB
  rcases h with h | h <;> rw [h] <;> simp
theorem par_ok {p : Par} (h : OkP (coreP p)) : wPar p = false := by
  obtain ⟨h1, h2⟩ := h
  unfold wPar nameB valB
  rw [show Lex.nameOk p.s.data.toList = true from h1]
  rcases h2 with h2 | h2
  · rw [show p.t = 1 from h2]; rfl
  · rw [show p.t = 2 from h2]; rfl
theorem fn_ok {f : Tre.Fn} (h : OkF (coreF f)) : wFn f = false := by
  obtain ⟨h1, h2, h3, h4, h5⟩ := h
  unfold wFn nameB
  rw [show Lex.nameOk f.s.data.toList = true from h1]
  have e2 : f.p.length ≤ 4 := by have : (f.p.map coreP).length ≤ 4 := h2; rwa [List.length_map] at this
  have e3 : f.p.any wPar = false := by
    rw [List.any_eq_false]
    intro p hp
    rw [par_ok (h3 _ (List.mem_map_of_mem hp))]
    simp
  have e5 : (flatB f.b).all rStmt = true := rStmts_ok (fun y hy => h5 _ (List.mem_map_of_mem hy))
  rw [e3, e5, show decide (4 < f.p.length) = false from decide_eq_false (by omega)]
  rcases h4 with h4 | h4 | h4
  · rw [show f.r = 0 from h4]; rfl
  · rw [show f.r = 1 from h4]; rfl
  · rw [show f.r = 2 from h4]; rfl
theorem file_right {f : Fl} (h : OkL (coreL f)) : rFile f = true := by
  obtain ⟨h1, h2, h3, h4, h5⟩ := h
  unfold rFile rHead
  have e2 : f.i.length ≤ 8 := by have : (f.i.map _).length ≤ 8 := h2; rwa [List.length_map] at this
  have e3 : f.f.length ≤ 32 := by have : (f.f.map coreF).length ≤ 32 := h3; rwa [List.length_map] at this
  have e4 : f.i.any (fun s => !wordB s) = false := by
    rw [List.any_eq_false]
    intro s hs
    rw [word_ok (h4 _ (List.mem_map_of_mem hs))]
    simp
  have e5 : f.f.any wFn = false := by
    rw [List.any_eq_false]
    intro g hg
    rw [fn_ok (h5 _ (List.mem_map_of_mem hg))]
    simp
  rw [word_ok h1, e4, e5, decide_eq_true e2, decide_eq_true e3]
  rfl
/-- How many nodes. -/
theorem nodesS_le (s : St) : (nodesS givenB s).length ≤ 1 + sizeT (core s.e) := by
  unfold nodesS
  rw [size_core]
  split
  · unfold size; simp; omega
  · simp
theorem nodesB_le : ∀ (m : Nat) (l : List St), sizeB l ≤ m → ((flatB l).flatMap (nodesS givenB)).length ≤ sumS (l.map coreS)
  | _, [], _ => by simp [flatB, sumS]
  | 0, s :: l, h => by rw [sizeB_cons, sizeS_eq] at h; omega
  | m + 1, s :: l, h => by
    rw [sizeB_cons, sizeS_eq] at h
    have h1 := nodesB_le m s.b (by omega)
    have h2 := nodesB_le m s.b2 (by omega)
    have h3 := nodesB_le m l (by omega)
    have h4 := nodesS_le s
    have h5 : sumS ((s :: l).map coreS) = wtS (coreS s) + sumS (l.map coreS) := by simp [sumS]
    rw [h5, coreS_eq, wtS_eq, flatB_cons, flatS_eq, List.flatMap_append, List.flatMap_cons, List.flatMap_append, List.length_append, List.length_append, List.length_append]
    omega
theorem nodes_le (l : List Tre.Fn) : (nodes givenB l).length ≤ sumF (l.map coreF) := by
  induction l with
  | nil => simp [nodes]
  | cons f l ih =>
    have h1 := nodesB_le _ f.b (Nat.le_refl _)
    have h5 : sumF ((f :: l).map coreF) = wtF (coreF f) + sumF (l.map coreF) := by simp [sumF]
    have h6 : wtF (coreF f) = 1 + sumS (f.b.map coreS) := rfl
    rw [h5, h6]
    unfold nodes at ih ⊢
    rw [List.flatMap_cons, List.length_append, show nodesF givenB f = nilX :: (flatB f.b).flatMap (nodesS givenB) from rfl, List.length_cons]
    omega
end Go.Proofs.YtlhbhpdpjidpgaaGreatDoor.Prg
