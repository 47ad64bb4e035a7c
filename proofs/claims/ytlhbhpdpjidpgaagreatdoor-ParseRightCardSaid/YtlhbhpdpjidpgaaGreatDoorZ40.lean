/-
  Words that are written, with a blank between each two, are read as they were: plain mathematics. No condition but the limits.
-/
import Derived.Test.YtlhbhpdpjidpgaaGreatDoorZ37
import Derived.Test.YtlhbhpdpjidpgaaGreatDoorZ38
import Derived.Test.YtlhbhpdpjidpgaaGreatDoorZ39
import Derived.KernelRfl
namespace Go.Proofs.YtlhbhpdpjidpgaaGreatDoor.Lex
open Go.RowKit
set_option maxRecDepth 100000
/-- What a word of a text is. -/
inductive Good : Wd → Prop where
  | name (s : List UInt8) (c : UInt8) (r : List UInt8) (e : s = c :: r) (ha : s.all nameB = true) (hd : dig c = false) (hl : s.length ≤ 16) : Good ⟨if keyB s = true then 4 else 1, s, 0⟩
  | num (n : Int) (h0 : 0 ≤ n) (h1 : n ≤ 9223372036854775807) : Good ⟨2, [], n⟩
  | text (s : List UInt8) (h : textOk s = true) : Good ⟨3, s, 0⟩
  | sign (s : List UInt8) (h : s ∈ signsL) : Good ⟨5, s, 0⟩
theorem dig_name {c : UInt8} (h : dig c = true) : nameB c = true := by unfold nameB; rw [h]; simp
theorem nameB_not {c : UInt8} (h : nameB c = true) : c.toNat ≠ 10 ∧ blank c = false ∧ c.toNat ≠ 47 ∧ c.toNat ≠ 34 ∧ c.toNat ≠ 32 := by
  unfold nameB small great dig Num.isDig at h
  simp only [Bool.or_eq_true, decide_eq_true_eq] at h
  refine ⟨by omega, ?_, by omega, by omega, by omega⟩
  unfold blank
  simp only [decide_eq_false_iff_not]
  omega
theorem slash_no {c : UInt8} (r : List UInt8) (h : c.toNat ≠ 47) : [47, 47].isPrefixOf (c :: r) = false := by
  have e : ((47 : UInt8) == c) = false := by
    rw [beq_eq_false_iff_ne]
    exact fun e => h (by rw [← e]; rfl)
  show ((47 : UInt8) == c && _) = false
  rw [e]; rfl
theorem rowN_blank (p : UInt8 → Bool) (s r : List UInt8) (hp : s.all p = true) (hb : p 32 = false) : rowN p (s ++ 32 :: r) = s.length := by
  have hl : ∀ k (hk : k < (s ++ 32 :: r).length), k < s.length → p (s ++ 32 :: r)[k] = true := fun k hk hks => by
    rw [List.getElem_append_left hks]
    exact List.all_eq_true.1 hp _ (List.getElem_mem hks)
  rw [rowN_app p _ s.length (by simp) hl, List.drop_left]
  unfold rowN
  rw [List.takeWhile_cons, if_neg (by rw [hb]; simp)]
  simp
theorem take_app (s r : List UInt8) : (s ++ r).take s.length = s := List.take_left
theorem step_name (s r : List UInt8) (c : UInt8) (q : List UInt8) (e : s = c :: q) (ha : s.all nameB = true) (hd : dig c = false) (hl : s.length ≤ 16) (ws : List Wd) :
    step (s ++ 32 :: r) ws = ⟨0, 32 :: r, ws ++ [⟨if keyB s = true then 4 else 1, s, 0⟩]⟩ := by
  have hc : nameB c = true := by rw [e] at ha; simp at ha; exact ha.1
  obtain ⟨n1, n2, n3, n4, _⟩ := nameB_not hc
  have hS : nameS (s ++ 32 :: r) ws = ⟨0, 32 :: r, ws ++ [⟨if keyB s = true then 4 else 1, s, 0⟩]⟩ := by
    unfold nameS
    dsimp only
    rw [rowN_blank nameB s r ha (by decide), if_neg (by omega), List.take_left, List.drop_left]
  rw [← hS]
  subst e
  show step (c :: (q ++ 32 :: r)) ws = nameS (c :: (q ++ 32 :: r)) ws
  unfold step
  simp only [n1, n2, slash_no _ n3, hd, hc, if_false, if_true, Bool.false_eq_true]
theorem step_num (n : Int) (h0 : 0 ≤ n) (h1 : n ≤ 9223372036854775807) (r : List UInt8) (ws : List Wd) : step (Lib.itoa n ++ 32 :: r) ws = ⟨0, 32 :: r, ws ++ [⟨2, [], n⟩]⟩ := by
  have hi : Lib.itoa n = Lib.decDigits n.natAbs := by unfold Lib.itoa; rw [if_neg (by omega)]; congr 1; omega
  have ha : (Lib.itoa n).all dig = true := by rw [hi]; exact Num.all_decDigits _
  have hv : Num.readV (Lib.itoa n) = (n, true) := by rw [Num.readV_itoa n h1, if_pos h0]
  obtain ⟨c, q, e⟩ : ∃ c q, Lib.itoa n = c :: q := by
    cases h : Lib.itoa n with
    | nil => rw [hi] at h; exact absurd h (Num.decDigits_ne _)
    | cons c q => exact ⟨c, q, rfl⟩
  have hd : dig c = true := by rw [e] at ha; simp at ha; exact ha.1
  obtain ⟨n1, n2, n3, n4, _⟩ := nameB_not (dig_name hd)
  have hS : numS (Lib.itoa n ++ 32 :: r) ws = ⟨0, 32 :: r, ws ++ [⟨2, [], n⟩]⟩ := by
    have hr := rowN_blank dig (Lib.itoa n) r ha (by decide)
    rw [numS_ok (n := n) (by rw [hr, List.take_left, hv]), hr, List.drop_left]
  rw [← hS, e]
  show step (c :: (q ++ 32 :: r)) ws = numS (c :: (q ++ 32 :: r)) ws
  unfold step
  simp only [n1, n2, slash_no _ n3, hd, if_false, if_true, Bool.false_eq_true]
theorem key_all {s : List UInt8} (h : keyB s = true) : s.all nameB = true ∧ s.length ≤ 16 := by
  have : ∀ s ∈ keysL, s.all nameB = true ∧ s.length ≤ 16 := by decide
  exact this s (List.contains_iff_mem.1 h)
theorem text_all {s : List UInt8} (h : textOk s = true) : s.all nameB = true ∧ s.length ≤ 16 := by
  unfold textOk at h
  rw [Bool.or_eq_true] at h
  rcases h with h | h
  · unfold nameOk at h
    simp only [Bool.and_eq_true, Bool.not_eq_true', decide_eq_false_iff_not] at h
    exact ⟨h.2, by omega⟩
  · exact key_all h
theorem cutQ_text {s : List UInt8} (ha : s.all nameB = true) (r : List UInt8) : cutQ (s ++ 34 :: r) = some s := by
  have hp : s.all (fun c => decide (c.toNat ≠ 34)) = true := by
    rw [List.all_eq_true] at ha ⊢
    intro c hc
    have := nameB_not (ha c hc)
    simpa using this.2.2.2.1
  have e : (s ++ 34 :: r).takeWhile (fun c => decide (c.toNat ≠ 34)) = s := by
    rw [List.takeWhile_append_of_pos (fun c hc => List.all_eq_true.1 hp c hc), List.takeWhile_cons]
    simp
  unfold cutQ
  rw [e, if_pos (by simp)]
theorem step_text (s r : List UInt8) (h : textOk s = true) (ws : List Wd) : step (quoted s ++ 32 :: r) ws = ⟨0, 32 :: r, ws ++ [⟨3, s, 0⟩]⟩ := by
  have e : quoted s ++ 32 :: r = 34 :: (s ++ 34 :: 32 :: r) := by simp [quoted]
  rw [e]
  have hS : textS (34 :: (s ++ 34 :: 32 :: r)) ws = ⟨0, 32 :: r, ws ++ [⟨3, s, 0⟩]⟩ := by
    rw [textS_ok (s := s) (by rw [List.drop_succ_cons, List.drop_zero]; exact cutQ_text (text_all h).1 _) h]
    have hd : (34 :: (s ++ 34 :: 32 :: r)).drop (s.length + 2) = 32 :: r := by
      rw [show s.length + 2 = (s.length + 1) + 1 by omega, List.drop_succ_cons, List.drop_append]
      simp
    rw [hd]
  rw [← hS]
  rfl
theorem step_sign (s r : List UInt8) (h : s ∈ signsL) (ws : List Wd) : step (s ++ 32 :: r) ws = ⟨0, 32 :: r, ws ++ [⟨5, s, 0⟩]⟩ := by
  simp only [signsL, List.mem_cons, List.not_mem_nil, or_false] at h
  rcases h with rfl | rfl | rfl | rfl | rfl | rfl | rfl | rfl | rfl | rfl | rfl | rfl | rfl | rfl | rfl | rfl | rfl | rfl | rfl | rfl | rfl | rfl | rfl <;> kernel_rfl
/-- A word that is written, with a blank behind it, is read as it was. -/
theorem step_good {x : Wd} (h : Good x) (r : List UInt8) (ws : List Wd) : step (shown x ++ 32 :: r) ws = ⟨0, 32 :: r, ws ++ [x]⟩ := by
  cases h with
  | name s c q e ha hd hl =>
    have es : shown ⟨if keyB s = true then 4 else 1, s, 0⟩ = s := by
      unfold shown
      rw [if_pos (by dsimp only; split <;> simp)]
    rw [es]
    exact step_name s r c q e ha hd hl ws
  | num n h0 h1 =>
    have es : shown ⟨2, [], n⟩ = Lib.itoa n := by
      unfold shown
      rw [if_neg (by dsimp only; omega), if_neg (by dsimp only; omega), if_pos ⟨rfl, h0⟩]
    rw [es]
    exact step_num n h0 h1 r ws
  | text s h =>
    have es : shown ⟨3, s, 0⟩ = quoted s := by
      unfold shown
      rw [if_neg (by dsimp only; omega), if_pos rfl]
    rw [es]
    exact step_text s r h ws
  | sign s h =>
    have es : shown ⟨5, s, 0⟩ = s := by
      unfold shown
      rw [if_pos (by simp)]
    rw [es]
    exact step_sign s r h ws
theorem shown_len {x : Wd} (h : Good x) : 1 ≤ (shown x).length ∧ (shown x).length ≤ 20 := by
  cases h with
  | name s c q e ha hd hl =>
    have es : shown ⟨if keyB s = true then 4 else 1, s, 0⟩ = s := by
      unfold shown
      rw [if_pos (by dsimp only; split <;> simp)]
    rw [es]
    exact ⟨by rw [e]; simp, by omega⟩
  | num n h0 h1 =>
    have es : shown ⟨2, [], n⟩ = Lib.itoa n := by
      unfold shown
      rw [if_neg (by dsimp only; omega), if_neg (by dsimp only; omega), if_pos ⟨rfl, h0⟩]
    rw [es]
    refine ⟨?_, Num.itoa_len n (by omega) h1⟩
    cases h : Lib.itoa n with
    | nil =>
      have hi : Lib.itoa n = Lib.decDigits n.natAbs := by unfold Lib.itoa; rw [if_neg (by omega)]; congr 1; omega
      rw [hi] at h; exact absurd h (Num.decDigits_ne _)
    | cons c q => simp
  | text s h =>
    have es : shown ⟨3, s, 0⟩ = quoted s := by
      unfold shown
      rw [if_neg (by dsimp only; omega), if_pos rfl]
    rw [es]
    have := (text_all h).2
    unfold quoted
    simp
    omega
  | sign s h =>
    have es : shown ⟨5, s, 0⟩ = s := by
      unfold shown
      rw [if_pos (by simp)]
    rw [es]
    have := signs_len h
    omega
def flat (l : List Wd) : List UInt8 := l.flatMap fun x => shown x ++ [32]
theorem flat_cons (x : Wd) (l : List Wd) : flat (x :: l) = shown x ++ 32 :: flat l := by simp [flat]
theorem flat_snoc (l : List Wd) (x : Wd) : flat (l ++ [x]) = flat l ++ (shown x ++ [32]) := by simp [flat]
theorem step_blank (r : List UInt8) (ws : List Wd) : step (32 :: r) ws = ⟨0, r, ws⟩ := rfl
theorem run_flat : ∀ (l : List Wd) (ws : List Wd) (n : Nat), (∀ x ∈ l, Good x) → (flat l).length ≤ n → run n (flat l) ws = (0, ws ++ l)
  | [], ws, n, _, _ => by rw [show flat [] = [] from rfl, run_nil]; simp
  | x :: l, ws, n, hg, hn => by
    have hx := hg x (by simp)
    have h1 := (shown_len hx).1
    rw [flat_cons] at hn ⊢
    simp only [List.length_append, List.length_cons] at hn
    obtain ⟨m, rfl⟩ : ∃ m, n = m + 2 := ⟨n - 2, by omega⟩
    have hs := step_good hx (flat l) ws
    have hne : shown x ++ 32 :: flat l ≠ [] := by simp
    rw [run_go (k := m + 1) hne (by rw [hs]), hs]
    dsimp only
    rw [run_go (k := m) (by simp) (by rw [step_blank]), step_blank]
    dsimp only
    rw [run_flat l (ws ++ [x]) m (fun y hy => hg y (by simp [hy])) (by omega)]
    simp
theorem step_keeps (l : List UInt8) (ws : List Wd) (h : ∀ x ∈ ws, Good x) : ∀ x ∈ (step l ws).ws, Good x := by
  have hend : ∀ x ∈ endLn ws, Good x := by
    intro x hx
    unfold endLn at hx
    split at hx
    · split at hx
      · rw [List.mem_append] at hx
        rcases hx with hx | hx
        · exact h x hx
        · simp at hx; subst hx; exact .sign [59] (by decide)
      · exact h x hx
    · exact h x hx
  have snoc : ∀ (y : Wd), Good y → ∀ x ∈ ws ++ [y], Good x := fun y hy x hx => by
    rw [List.mem_append] at hx
    rcases hx with hx | hx
    · exact h x hx
    · simp at hx; subst hx; exact hy
  unfold step
  split
  · exact h
  split
  · exact hend
  split
  · exact h
  split
  · exact h
  split
  · rename_i c r _ _ _ hd
    unfold numS
    dsimp only
    split
    · have hr := Num.readV_range ((c :: r).take (rowN dig (c :: r)))
      exact snoc _ (.num _ hr.1 hr.2)
    split <;> exact h
  split
  · rename_i c r _ _ _ hd hm
    unfold nameS
    dsimp only
    split
    · exact h
    · rename_i hl
      have hp := rowN_pos (p := nameB) (r := r) hm
      have hle := rowN_le nameB (c :: r)
      refine snoc _ (.name _ c (r.take (rowN nameB (c :: r) - 1)) ?_ ?_ (by simpa using hd) (by rw [List.length_take]; omega))
      · obtain ⟨m, hm⟩ : ∃ m, rowN nameB (c :: r) = m + 1 := ⟨rowN nameB (c :: r) - 1, by omega⟩
        rw [hm]; rfl
      · rw [take_rowN]
        exact List.all_takeWhile
  split
  · unfold textS
    split
    · split
      · rename_i ht
        exact snoc _ (.text _ ht)
      · exact h
    · exact h
  · unfold signS
    split
    · exact h
    · rename_i c r _ _ _ _ _ _ hne
      rcases longest_mem (c :: r) with h1 | h1
      · exact absurd h1 hne
      · exact snoc _ (.sign _ h1.1)
theorem run_keeps : ∀ (n : Nat) (l : List UInt8) (ws : List Wd), (∀ x ∈ ws, Good x) → ∀ x ∈ (run n l ws).2, Good x
  | 0, _, _, h => h
  | n + 1, l, ws, h => by
    unfold run
    split
    · exact h
    split
    · exact run_keeps n _ _ (step_keeps l ws h)
    · simp
theorem endLn_good (ws : List Wd) (h : ∀ x ∈ ws, Good x) : ∀ x ∈ endLn ws, Good x := by
  intro x hx
  unfold endLn at hx
  split at hx
  · split at hx
    · rw [List.mem_append] at hx
      rcases hx with hx | hx
      · exact h x hx
      · simp at hx; subst hx; exact .sign [59] (by decide)
    · exact h x hx
  · exact h x hx
theorem endLn_twice (ws : List Wd) : endLn (endLn ws) = endLn ws := by
  rcases List.eq_nil_or_concat ws with rfl | ⟨r, x, rfl⟩
  · rfl
  · rw [List.concat_eq_append]
    have hl : (r ++ [x]).getLast? = some x := by simp
    rcases Bool.eq_false_or_eq_true (mayB x) with hm | hm
    · rw [endLn_yes hl hm, endLn_no (x := semi) (by simp) (by decide)]
    · rw [endLn_no hl hm, endLn_no hl hm]
/-- What Words tells is good, and ends as it should. -/
theorem words_good {t : List UInt8} {l : List Wd} (h : words t = (l, 0)) : (∀ x ∈ l, Good x) ∧ endLn l = l ∧ l.length ≤ 2048 := by
  unfold words at h
  split at h
  · simp at h
  split at h
  · split at h
    · simp at h
    · simp only [Prod.mk.injEq, and_true] at h
      subst h
      exact ⟨endLn_good _ (run_keeps _ _ _ (by simp)), endLn_twice _, by omega⟩
  · rename_i hne
    simp only [Prod.mk.injEq] at h
    exact absurd h.2 hne
theorem words_none {t : List UInt8} (h : (words t).2 ≠ 0) : (words t).1 = [] := by
  revert h
  unfold words
  split
  · simp
  split
  · split <;> simp
  · simp
theorem words_flat {l : List Wd} (hg : ∀ x ∈ l, Good x) (he : endLn l = l) (hs : (flat l).length ≤ 4096) (hl : l.length ≤ 2048) : words (flat l) = (l, 0) := by
  have hr := run_flat l [] (flat l).length hg (Nat.le_refl _)
  rw [List.nil_append] at hr
  rw [words_ok (ws := l) (by omega) hr (by rw [he]; omega), he]
theorem flat_len {l : List Wd} (hg : ∀ x ∈ l, Good x) : (flat l).length ≤ l.length * 21 := by
  induction l with
  | nil => simp [flat]
  | cons x l ih =>
    have h1 := (shown_len (hg x (by simp))).2
    have h2 := ih fun y hy => hg y (by simp [hy])
    rw [flat_cons]
    simp only [List.length_append, List.length_cons]
    omega
end Go.Proofs.YtlhbhpdpjidpgaaGreatDoor.Lex
/- Words of a text, as both parsers take them: how deep their brackets stand; their row. No condition. -/
namespace Go.Proofs.YtlhbhpdpjidpgaaGreatDoor.Prg
open Go.RowKit Tre Prs
open Lex (Wd wdC wdV bs str Turn)
set_option maxRecDepth 100000
theorem isB_sign (x : Wd) {s : List UInt8} (hs : Lex.keyB s = false) : isB x s = (x.k == 5 && x.s == s) := by
  show isK x s = _
  unfold isK
  rw [if_neg (by simp [hs])]
theorem nest_same : ∀ (l : List Wd) (p : Nat × Nat), p.1 ≤ p.2 → l.foldl nest2 p = l.foldl nestS p
  | [], _, _ => rfl
  | x :: l, (d, m), h => by
    rw [List.foldl_cons, List.foldl_cons]
    have h40 := isB_sign x (s := [40]) (by decide)
    have h123 := isB_sign x (s := [123]) (by decide)
    have h41 := isB_sign x (s := [41]) (by decide)
    have h125 := isB_sign x (s := [125]) (by decide)
    have e : nest2 (d, m) x = nestS (d, m) x ∧ (nestS (d, m) x).1 ≤ (nestS (d, m) x).2 := by
      unfold nest2 nestS
      rw [h40, h123, h41, h125]
      dsimp only at h
      cases hk : x.k == 5 with
      | false => simp; exact h
      | true =>
        simp only [Bool.true_and, if_true]
        cases h1 : (x.s == [40] || x.s == [123]) with
        | true =>
          simp only [if_true]
          exact ⟨trivial, by omega⟩
        | false =>
          simp only [Bool.false_eq_true, if_false]
          cases h2 : (x.s == [41] || x.s == [125]) with
          | true =>
            simp only [if_true]
            refine ⟨?_, by omega⟩
            rw [show max m (d - 1) = m by omega]
          | false =>
            simp only [Bool.false_eq_true, if_false]
            refine ⟨?_, by omega⟩
            rw [show max m d = m by omega]
    rw [e.1]
    exact nest_same l _ e.2
theorem nestG_all (l : List Wd) : nestG l = nestD l := by
  unfold nestG nestD
  rw [nest_same l (0, 0) (Nat.le_refl _)]
theorem nestG_good {l : List Wd} (_ : ∀ x ∈ l, Lex.Good x) : nestG l = nestD l := nestG_all l
theorem good_ks {x : Wd} (h : Lex.Good x) : KS x := by
  cases h with
  | name s c q e ha hd hl =>
    refine ⟨fun h => ?_, fun h => ?_⟩
    · dsimp only at h ⊢
      by_cases hk : Lex.keyB s = true
      · exact hk
      · rw [if_neg hk] at h
        cases h
    · dsimp only at h
      split at h <;> cases h
  | num n h0 h1 => exact ⟨fun h => (by cases h), fun h => (by cases h)⟩
  | text s h => exact ⟨fun h => (by cases h), fun h => (by cases h)⟩
  | sign s h =>
    refine ⟨fun h => (by cases h), fun _ => ?_⟩
    have : ∀ s ∈ Lex.signsL, Lex.keyB s = false := by decide
    exact this s h
theorem good_len {x : Wd} (h : Lex.Good x) : x.s.length ≤ 1000000 := by
  cases h with
  | name s c q e ha hd hl => show s.length ≤ 1000000; omega
  | num n h0 h1 => exact Nat.zero_le _
  | text s h =>
    show s.length ≤ 1000000
    unfold Lex.textOk at h
    simp only [Bool.or_eq_true] at h
    rcases h with h | h
    · unfold Lex.nameOk at h
      simp at h
      omega
    · have : ∀ t ∈ Lex.keysL, t.length ≤ 1000000 := by decide
      exact this s (by simpa [Lex.keyB] using h)
  | sign s h => have := (Lex.signs_len h).2; show s.length ≤ 1000000; omega
theorem words_ok0 {t : List UInt8} (h : (Lex.words t).2 = 0) : (∀ x ∈ (Lex.words t).1, Lex.Good x) ∧ Lex.endLn (Lex.words t).1 = (Lex.words t).1 ∧ (Lex.words t).1.length ≤ 2048 := Lex.words_good (l := (Lex.words t).1) (by rw [← h])
theorem OwnW.row {w : World} {lo : Nat} {A : Option Addr} {n c : Nat} {l : List Wd} (h : Lex.OwnW w lo (.slice A n c) l) : Row 3 wdC w A l := OwnG.row (C := wdC) (T := 73) (fun _ => rfl) h
theorem OwnW.cap {w : World} {lo : Nat} {v : Value} {l : List Wd} (h : Lex.OwnW w lo v l) : ∃ A c, v = .slice A l.length c ∧ l.length ≤ c ∧ ∀ ad, A = some ad → ∃ b, ad = ⟨b, 0, none⟩ := OwnG.form (C := wdC) (k := 3) (T := 73) h
theorem results_fl2 {fn : Func} {p q : Tmp} (h : fn.results = #[.cell p 26, .tmp q]) (tmps : Array Value) (w : World) (g : Nat) (v0 v1 v2 u : Value) (hv : tmps.getD p undef = .pointer (some ⟨g, 0, none⟩)) (hu : tmps.getD q undef = u) (hc : w.heap[g]? = some (.cells #[v0, v1, v2] 26 (0, 0))) :
    (results fn tmps).run Tryz.prog w = .ok (.tuple #[.agg #[v0, v1, v2], u]) w := by
  have a4 := Tryz.isAgg26
  have z4 := Tryz.sizeOf26
  obtain ⟨c0, c1, c2⟩ := three_at hc
  simp only [Array.getD_eq_getD_getElem?] at hv hu
  unfold results
  rw [h]
  go_simp
theorem results_ex2 {fn : Func} {p q : Tmp} (h : fn.results = #[.cell p 36, .tmp q]) (tmps : Array Value) (w : World) (g : Nat) (v0 v1 v2 v3 v4 u : Value) (hv : tmps.getD p undef = .pointer (some ⟨g, 0, none⟩)) (hu : tmps.getD q undef = u) (hc : w.heap[g]? = some (.cells #[v0, v1, v2, v3, v4] 36 (0, 0))) :
    (results fn tmps).run Tryz.prog w = .ok (.tuple #[.agg #[v0, v1, v2, v3, v4], u]) w := by
  have a4 := Tryz.isAgg36
  have z4 := Tryz.sizeOf36
  obtain ⟨c0, c1, c2, c3, c4⟩ := five_at hc
  simp only [Array.getD_eq_getD_getElem?] at hv hu
  unfold results
  rw [h]
  go_simp
end Go.Proofs.YtlhbhpdpjidpgaaGreatDoor.Prg
