/-
  The grammar of statements as plain mathematics: what the document's own parser tells, step by step, and without a count of steps. No condition.
-/
import Derived.Test.YtlhbhpdpjidpgaaGreatDoorX05
import Derived.Test.YtlhbhpdpjidpgaaGreatDoorChecked
import Derived.Below
import Derived.Lib.Hide
import Derived.WalkKit
import Derived.RangeFuncRecord
import Derived.LoopTactic
import Derived.Laws.StructEq
import Derived.Deep.QuietTactic
import Derived.BigQuiet
import Derived.Lib.Strings
namespace Go.Proofs.YtlhbhpdpjidpgaaGreatDoor.Prs
open Tre
set_option maxRecDepth 100000
inductive SJob where
  | block
  | loop (l : List Ts)
  | when
  | stmt
def wIf : List UInt8 := [105, 102]
def wElse : List UInt8 := [101, 108, 115, 101]
def wFor : List UInt8 := [102, 111, 114]
def wReturn : List UInt8 := [114, 101, 116, 117, 114, 110]
def wPrint : List UInt8 := [112, 114, 105, 110, 116]
def wBreak : List UInt8 := [98, 114, 101, 97, 107]
def wNext : List UInt8 := [99, 111, 110, 116, 105, 110, 117, 101]
def one1 (t : Ts) (r : PS) : List Ts × PS := ([t], r)
/-- A return. -/
def retS (r : PS) : List Ts × PS := if !isW r [59] && !isW r [125] then one1 (.mk 5 [] (tell (.row 0) r).1 [] []) (tell (.row 0) r).2 else one1 (.mk 5 [] nilT [] []) r
/-- A print. -/
def prtS (r : PS) : List Ts × PS := one1 (.mk 6 [] (tell (.row 0) (mustW r [40])).1 [] []) (mustW (tell (.row 0) (mustW r [40])).2 [41])
/-- What begins with a name. -/
def nameS (s : List UInt8) (r : PS) : List Ts × PS :=
  if isW r [58, 61] then one1 (.mk 1 s (tell (.row 0) (tl r)).1 [] []) (tell (.row 0) (tl r)).2
  else if isW r [61] then one1 (.mk 2 s (tell (.row 0) (tl r)).1 [] []) (tell (.row 0) (tl r)).2
  else one1 (.mk 7 [] (tell (.call s) r).1 [] []) (tell (.call s) r).2
/-- What stands between for and its block. -/
def forX (r : PS) : Tx × PS := if isW r [123] then (.mk 2 1 [] [] [], r) else tell (.row 0) r
def runS : Nat → SJob → PS → List Ts × PS
  | 0, _, r => ([], r)
  | n + 1, .block, r => runS n (.loop []) (mustW r [123])
  | n + 1, .loop l, r =>
    if r.bad || isW r [125] then (l, mustW r [125])
    else if isW (runS n .stmt r).2 [59] then runS n (.loop (l ++ (runS n .stmt r).1)) (tl (runS n .stmt r).2)
    else (l ++ (runS n .stmt r).1, mustW (runS n .stmt r).2 [125])
  | n + 1, .when, r =>
    if isW (runS n .block (tell (.row 0) r).2).2 wElse then
      (if isW (tl (runS n .block (tell (.row 0) r).2).2) wIf then
        one1 (.mk 3 [] (tell (.row 0) r).1 (runS n .block (tell (.row 0) r).2).1 (runS n .when (tl (tl (runS n .block (tell (.row 0) r).2).2))).1) (runS n .when (tl (tl (runS n .block (tell (.row 0) r).2).2))).2
       else one1 (.mk 3 [] (tell (.row 0) r).1 (runS n .block (tell (.row 0) r).2).1 (runS n .block (tl (runS n .block (tell (.row 0) r).2).2)).1) (runS n .block (tl (runS n .block (tell (.row 0) r).2).2)).2)
    else one1 (.mk 3 [] (tell (.row 0) r).1 (runS n .block (tell (.row 0) r).2).1 []) (runS n .block (tell (.row 0) r).2).2
  | n + 1, .stmt, r =>
    if isW r wIf then runS n .when (tl r)
    else if isW r wFor then one1 (.mk 4 [] (forX (tl r)).1 (runS n .block (forX (tl r)).2).1 []) (runS n .block (forX (tl r)).2).2
    else if isW r wReturn then retS (tl r)
    else if isW r wPrint then prtS (tl r)
    else if isW r wBreak then one1 (.mk 8 [] nilT [] []) (tl r)
    else if isW r wNext then one1 (.mk 9 [] nilT [] []) (tl r)
    else nameS (wordS r 1 false) (wordR r 1 false)
theorem retS_lenR (r : PS) : lenR (retS r).2 ≤ lenR r := by
  unfold retS
  split
  · exact tell_lenR _ _
  · exact Nat.le_refl _
theorem prtS_lenR (r : PS) : lenR (prtS r).2 ≤ lenR r :=
  Nat.le_trans (lenR_mustW _ _) (Nat.le_trans (tell_lenR _ _) (lenR_mustW _ _))
theorem nameS_lenR (s : List UInt8) (r : PS) : lenR (nameS s r).2 ≤ lenR r := by
  have h := lenR_tl r
  unfold nameS
  split
  · exact Nat.le_trans (tell_lenR _ _) (by omega)
  split
  · exact Nat.le_trans (tell_lenR _ _) (by omega)
  · exact tell_lenR _ _
theorem forX_lenR (r : PS) : lenR (forX r).2 ≤ lenR r := by
  unfold forX
  split
  · exact Nat.le_refl _
  · exact tell_lenR _ _
theorem runS_lenR : ∀ (n : Nat) (j : SJob) (r : PS), lenR (runS n j r).2 ≤ lenR r
  | 0, _, _ => Nat.le_refl _
  | n + 1, .block, r => Nat.le_trans (runS_lenR n _ _) (lenR_mustW _ _)
  | n + 1, .loop l, r => by
    have h1 := runS_lenR n .stmt r
    have h2 := lenR_tl (runS n .stmt r).2
    unfold runS
    split
    · exact lenR_mustW _ _
    split
    · exact Nat.le_trans (runS_lenR n _ _) (by omega)
    · exact Nat.le_trans (lenR_mustW _ _) h1
  | n + 1, .when, r => by
    have h0 := tell_lenR (.row 0) r
    have h1 := runS_lenR n .block (tell (.row 0) r).2
    have h2 := lenR_tl (runS n .block (tell (.row 0) r).2).2
    have h3 := lenR_tl (tl (runS n .block (tell (.row 0) r).2).2)
    unfold runS
    split
    · split
      · exact Nat.le_trans (runS_lenR n _ _) (by omega)
      · exact Nat.le_trans (runS_lenR n _ _) (by omega)
    · exact Nat.le_trans h1 h0
  | n + 1, .stmt, r => by
    have h := lenR_tl r
    unfold runS
    split
    · exact Nat.le_trans (runS_lenR n _ _) (by omega)
    split
    · exact Nat.le_trans (runS_lenR n _ _) (Nat.le_trans (forX_lenR _) (by omega))
    split
    · exact Nat.le_trans (retS_lenR _) (by omega)
    split
    · exact Nat.le_trans (prtS_lenR _) (by omega)
    split
    · show lenR (tl r) ≤ _; omega
    split
    · show lenR (tl r) ≤ _; omega
    · exact Nat.le_trans (nameS_lenR _ _) (lenR_wordR _ _ _)
/-- The steps that are enough. -/
def enoughS (j : SJob) (r : PS) : Nat := match j with
  | .block => 8 * lenR r + 2
  | .loop _ => if r.bad then 1 else 8 * lenR r + 2
  | .when => 8 * lenR r + 3
  | .stmt => 8 * lenR r + 1
theorem enough_loop (l : List Ts) (r : PS) : enoughS (.loop l) r ≤ 8 * lenR r + 2 := by
  unfold enoughS
  dsimp only
  split <;> omega
theorem runS_same : ∀ (n n' : Nat) (j : SJob) (r : PS), enoughS j r ≤ n → enoughS j r ≤ n' → runS n j r = runS n' j r
  | 0, n', j, r, h, _ => by
    exfalso
    cases j <;> simp only [enoughS] at h
    case loop => split at h <;> omega
    all_goals omega
  | n + 1, 0, j, r, _, h => by
    exfalso
    cases j <;> simp only [enoughS] at h
    case loop => split at h <;> omega
    all_goals omega
  | n + 1, n' + 1, .block, r, h, h' => by
    simp only [enoughS] at h h'
    unfold runS
    by_cases hi : isW r [123] = true
    · have h2 := lenR_pos hi
      have h1 := lenR_tl r
      have e : mustW r [123] = tl r := by simp [mustW, hi]
      have h5 := enough_loop [] (mustW r [123])
      rw [e] at h5 ⊢
      exact runS_same n n' _ _ (by omega) (by omega)
    · have e : mustW r [123] = badR r := by simp [mustW, hi]
      have h5 : enoughS (.loop []) (badR r) = 1 := by simp [enoughS, badR]
      rw [e]
      exact runS_same n n' _ _ (by omega) (by omega)
  | n + 1, n' + 1, .loop l, r, h, h' => by
    unfold runS
    split
    · rfl
    · next hi =>
      have hb : r.bad = false := by
        have : ¬ (r.bad || isW r [125]) = true := hi
        simp only [Bool.or_eq_true, not_or] at this
        simpa using this.1
      simp only [enoughS, hb, Bool.false_eq_true, if_false] at h h'
      rw [runS_same n n' .stmt r (by simp only [enoughS]; omega) (by simp only [enoughS]; omega)]
      have hl := runS_lenR n' .stmt r
      split
      · next hc =>
        have h2 := lenR_pos hc
        have h1 := lenR_tl (runS n' .stmt r).2
        have h5 := enough_loop (l ++ (runS n' .stmt r).1) (tl (runS n' .stmt r).2)
        exact runS_same n n' _ _ (by omega) (by omega)
      · rfl
  | n + 1, n' + 1, .when, r, h, h' => by
    simp only [enoughS] at h h'
    have h0 := tell_lenR (.row 0) r
    unfold runS
    rw [runS_same n n' .block (tell (.row 0) r).2 (by simp only [enoughS]; omega) (by simp only [enoughS]; omega)]
    have h1 := runS_lenR n' .block (tell (.row 0) r).2
    have h2 := lenR_tl (runS n' .block (tell (.row 0) r).2).2
    have h3 := lenR_tl (tl (runS n' .block (tell (.row 0) r).2).2)
    split
    · next hc =>
      have h4 := lenR_pos hc
      split
      · rw [runS_same n n' .when (tl (tl (runS n' .block (tell (.row 0) r).2).2)) (by simp only [enoughS]; omega) (by simp only [enoughS]; omega)]
      · rw [runS_same n n' .block (tl (runS n' .block (tell (.row 0) r).2).2) (by simp only [enoughS]; omega) (by simp only [enoughS]; omega)]
    · rfl
  | n + 1, n' + 1, .stmt, r, h, h' => by
    simp only [enoughS] at h h'
    have h1 := lenR_tl r
    have h3 := forX_lenR (tl r)
    unfold runS
    split
    · next hi =>
      have h2 := lenR_pos hi
      exact runS_same n n' .when (tl r) (by simp only [enoughS]; omega) (by simp only [enoughS]; omega)
    split
    · next hi =>
      have h2 := lenR_pos hi
      rw [runS_same n n' .block (forX (tl r)).2 (by simp only [enoughS]; omega) (by simp only [enoughS]; omega)]
    rfl
/-- What the parser tells of statements. -/
def tellS (j : SJob) (r : PS) : List Ts × PS := runS (enoughS j r) j r
theorem tellS_lenR (j : SJob) (r : PS) : lenR (tellS j r).2 ≤ lenR r := runS_lenR _ j r
theorem tellS_run {n : Nat} {j : SJob} {r : PS} (h : enoughS j r ≤ n) : runS n j r = tellS j r := runS_same _ _ j r h (Nat.le_refl _)
theorem tellS_block (r : PS) : tellS .block r = tellS (.loop []) (mustW r [123]) := by
  obtain ⟨n, hn⟩ : ∃ n, enoughS .block r = n + 1 := ⟨8 * lenR r + 1, by simp only [enoughS]⟩
  have e1 : tellS .block r = runS (n + 1) .block r := by unfold tellS; rw [hn]
  rw [e1]
  simp only [enoughS] at hn
  unfold runS
  by_cases hi : isW r [123] = true
  · have h2 := lenR_pos hi
    have h1 := lenR_tl r
    have e : mustW r [123] = tl r := by simp [mustW, hi]
    have h5 := enough_loop [] (mustW r [123])
    rw [e] at h5 ⊢
    exact tellS_run (by omega)
  · have e : mustW r [123] = badR r := by simp [mustW, hi]
    have h5 : enoughS (.loop []) (badR r) = 1 := by simp [enoughS, badR]
    rw [e]
    exact tellS_run (by omega)
theorem tellS_loop (l : List Ts) (r : PS) : tellS (.loop l) r =
    if r.bad || isW r [125] then (l, mustW r [125])
    else if isW (tellS .stmt r).2 [59] then tellS (.loop (l ++ (tellS .stmt r).1)) (tl (tellS .stmt r).2)
    else (l ++ (tellS .stmt r).1, mustW (tellS .stmt r).2 [125]) := by
  obtain ⟨n, hn⟩ : ∃ n, enoughS (.loop l) r = n + 1 := by
    unfold enoughS
    dsimp only
    split
    · exact ⟨0, rfl⟩
    · exact ⟨8 * lenR r + 1, rfl⟩
  have e1 : tellS (.loop l) r = runS (n + 1) (.loop l) r := by unfold tellS; rw [hn]
  rw [e1]
  unfold runS
  split
  · rfl
  · next hi =>
    have hb : r.bad = false := by
      have : ¬ (r.bad || isW r [125]) = true := hi
      simp only [Bool.or_eq_true, not_or] at this
      simpa using this.1
    simp only [enoughS, hb, Bool.false_eq_true, if_false] at hn
    rw [tellS_run (n := n) (j := .stmt) (by simp only [enoughS]; omega)]
    have hl := tellS_lenR .stmt r
    split
    · next hc =>
      have h2 := lenR_pos hc
      have h1 := lenR_tl (tellS .stmt r).2
      have h5 := enough_loop (l ++ (tellS .stmt r).1) (tl (tellS .stmt r).2)
      exact tellS_run (by omega)
    · rfl
theorem tellS_when (r : PS) : tellS .when r =
    if isW (tellS .block (tell (.row 0) r).2).2 wElse then
      (if isW (tl (tellS .block (tell (.row 0) r).2).2) wIf then
        one1 (.mk 3 [] (tell (.row 0) r).1 (tellS .block (tell (.row 0) r).2).1 (tellS .when (tl (tl (tellS .block (tell (.row 0) r).2).2))).1) (tellS .when (tl (tl (tellS .block (tell (.row 0) r).2).2))).2
       else one1 (.mk 3 [] (tell (.row 0) r).1 (tellS .block (tell (.row 0) r).2).1 (tellS .block (tl (tellS .block (tell (.row 0) r).2).2)).1) (tellS .block (tl (tellS .block (tell (.row 0) r).2).2)).2)
    else one1 (.mk 3 [] (tell (.row 0) r).1 (tellS .block (tell (.row 0) r).2).1 []) (tellS .block (tell (.row 0) r).2).2 := by
  obtain ⟨n, hn⟩ : ∃ n, enoughS .when r = n + 1 := ⟨8 * lenR r + 2, by simp only [enoughS]⟩
  have e1 : tellS .when r = runS (n + 1) .when r := by unfold tellS; rw [hn]
  rw [e1]
  simp only [enoughS] at hn
  have h0 := tell_lenR (.row 0) r
  unfold runS
  rw [tellS_run (n := n) (j := .block) (r := (tell (.row 0) r).2) (by simp only [enoughS]; omega)]
  have h1 := tellS_lenR .block (tell (.row 0) r).2
  have h2 := lenR_tl (tellS .block (tell (.row 0) r).2).2
  have h3 := lenR_tl (tl (tellS .block (tell (.row 0) r).2).2)
  split
  · next hc =>
    have h4 := lenR_pos hc
    split
    · rw [tellS_run (n := n) (j := .when) (by simp only [enoughS]; omega)]
    · rw [tellS_run (n := n) (j := .block) (r := tl (tellS .block (tell (.row 0) r).2).2) (by simp only [enoughS]; omega)]
  · rfl
theorem tellS_stmt (r : PS) : tellS .stmt r =
    if isW r wIf then tellS .when (tl r)
    else if isW r wFor then one1 (.mk 4 [] (forX (tl r)).1 (tellS .block (forX (tl r)).2).1 []) (tellS .block (forX (tl r)).2).2
    else if isW r wReturn then retS (tl r)
    else if isW r wPrint then prtS (tl r)
    else if isW r wBreak then one1 (.mk 8 [] nilT [] []) (tl r)
    else if isW r wNext then one1 (.mk 9 [] nilT [] []) (tl r)
    else nameS (wordS r 1 false) (wordR r 1 false) := by
  obtain ⟨n, hn⟩ : ∃ n, enoughS .stmt r = n + 1 := ⟨8 * lenR r, by simp only [enoughS]⟩
  have e1 : tellS .stmt r = runS (n + 1) .stmt r := by unfold tellS; rw [hn]
  rw [e1]
  simp only [enoughS] at hn
  have h1 := lenR_tl r
  have h3 := forX_lenR (tl r)
  unfold runS
  split
  · next hi =>
    have h2 := lenR_pos hi
    exact tellS_run (by simp only [enoughS]; omega)
  split
  · next hi =>
    have h2 := lenR_pos hi
    rw [tellS_run (n := n) (j := .block) (by simp only [enoughS]; omega)]
  rfl
end Go.Proofs.YtlhbhpdpjidpgaaGreatDoor.Prs
/- What the program's parser tells against the plain grammar: expressions. No condition. -/
namespace Go.Proofs.YtlhbhpdpjidpgaaGreatDoor.Prg
open Tre Prs
set_option maxRecDepth 100000
/-- The reader fails: no words are left. -/
def failR (r : PS) : PS := ⟨[], true, r.big⟩
def mustP (r : PS) (s : List UInt8) : PS := if isW r s then tl r else failR r
def takeW (r : PS) (ks : List Int) : Lex.Wd := if ks.contains (peek r).k then peek r else zeroW
def takeR (r : PS) (ks : List Int) : PS := if ks.contains (peek r).k then tl r else failR r
def boundR (r : PS) (n m : Nat) : PS := ⟨r.l, r.bad, r.big || decide (m < n)⟩
/-- The words that count, and whether the reader still reads. -/
def lenB (r : PS) : Nat := if r.bad then 0 else r.l.length + 1
theorem isW_bad {r : PS} (h : r.bad = true) (s : List UInt8) : isW r s = false := by
  cases hi : isW r s with
  | false => rfl
  | true => have := (isW_pos hi).2; rw [h] at this; cases this
theorem peek_bad {r : PS} (h : r.bad = true) : peek r = zeroW := by simp [peek, h]
theorem mustW_bad {r : PS} (h : r.bad = true) (s : List UInt8) : (mustW r s).bad = true := by unfold mustW; rw [isW_bad h]; rfl
theorem wordR_bad {r : PS} (h : r.bad = true) (k : Int) (key : Bool) (hk : k ≠ 0) : (wordR r k key).bad = true := by
  unfold wordR wordNo
  rw [peek_bad h]
  have : ((zeroW.k != k) && !(key && zeroW.k == 4)) = true := by
    have h1 : (zeroW.k != k) = true := by simp [zeroW]; omega
    rw [h1]; simp [zeroW]
  rw [if_pos this]; rfl
theorem run_bad : ∀ (n : Nat) (j : Job) (r : PS), r.bad = true → (run n j r).2.bad = true
  | 0, _, _, h => h
  | n + 1, .row k, r, h => by
    unfold run
    split
    · exact run_bad n _ _ h
    · exact run_bad n _ _ (run_bad n _ _ h)
  | n + 1, .rest k x, r, h => by
    unfold run
    rw [if_pos h]
    exact h
  | n + 1, .unary, r, h => by
    have hw := wordR_bad h 1 false (by decide)
    unfold run
    rw [isW_bad h, isW_bad h, isW_bad h, isW_bad h, isW_bad h, peek_bad h, isW_bad hw, isW_bad hw]
    simp only [Bool.false_eq_true, if_false, Bool.or_false]
    have : (zeroW.k == 2) = false := rfl
    rw [this]
    exact hw
  | n + 1, .call s, r, h => by
    unfold run
    rw [isW_bad h]
    simp only [Bool.false_eq_true, if_false]
    exact run_bad n _ _ (mustW_bad h _)
  | n + 1, .args q s x, r, h => by
    unfold run
    rw [h]
    simp only [Bool.true_or, if_true]
    exact mustW_bad h _
theorem tell_bad {j : Job} {r : PS} (h : r.bad = true) : (tell j r).2.bad = true := run_bad _ _ _ h
/-- What was told agrees with the plain grammar. -/
def Ag {α : Type} (p : α × PS) (t : α) (r : PS) : Prop := (p.2.bad = true ∧ r.bad = true) ∨ (p.2.bad = false ∧ t = p.1 ∧ r = p.2)
theorem Ag.refl {α : Type} (t : α) (r : PS) : Ag (t, r) t r := by
  cases h : r.bad with
  | true => exact .inl ⟨h, h⟩
  | false => exact .inr ⟨h, rfl, rfl⟩
theorem Ag.wrap {α β : Type} {p : α × PS} {t : α} {r : PS} (f : α → β) (h : Ag p t r) : Ag (f p.1, p.2) (f t) r := by
  rcases h with h | ⟨h1, h2, h3⟩
  · exact .inl h
  · exact .inr ⟨h1, by rw [h2], h3⟩
theorem ag_fail {α : Type} {x t : α} {r r' : PS} (h : r.bad = true) (h' : r'.bad = true) : Ag (x, r) t r' := .inl ⟨h, h'⟩
theorem ag_must {α : Type} {p : α × PS} {t : α} {r : PS} (h : Ag p t r) (s : List UInt8) : Ag (p.1, mustW p.2 s) t (mustP r s) := by
  rcases h with ⟨h1, h2⟩ | ⟨h1, h2, h3⟩
  · exact .inl ⟨mustW_bad h1 s, by unfold mustP; rw [isW_bad h2]; rfl⟩
  · subst h3; subst h2
    unfold mustW mustP
    split
    · exact Ag.refl _ _
    · exact .inl ⟨rfl, rfl⟩
theorem takeR_word (r : PS) : (wordR r 1 false).bad = (takeR r [1]).bad ∧ ((takeR r [1]).bad = false → wordR r 1 false = takeR r [1] ∧ wordS r 1 false = (takeW r [1]).s) := by
  unfold wordR takeR wordS takeW wordNo
  have e : ([1] : List Int).contains (peek r).k = ((peek r).k == 1) := by simp [List.contains, List.elem]; cases hq : ((peek r).k == 1) <;> simp_all
  rw [e]
  cases hk : ((peek r).k == 1) with
  | true =>
    have : (((peek r).k != 1) && !(false && (peek r).k == 4)) = false := by simp [bne, hk]
    rw [this]
    simp
  | false =>
    have : (((peek r).k != 1) && !(false && (peek r).k == 4)) = true := by simp [bne, hk]
    rw [this]
    simp [badR, failR]
theorem ag_neg {r r' : PS} {t : Tx} (hi : isW r [45] = true) (h : Ag (tell .unary (tl r)) t r') : Ag (tell .unary r) (.mk 5 0 [] [] [t]) r' := by
  rw [tell_unary, if_pos hi]
  exact h.wrap (fun x => Tx.mk 5 0 [] [] [x])
theorem ag_bang {r r' : PS} {t : Tx} (n0 : isW r [45] = false) (hi : isW r [33] = true) (h : Ag (tell .unary (tl r)) t r') : Ag (tell .unary r) (.mk 6 0 [] [] [t]) r' := by
  rw [tell_unary, if_neg (by simp [n0]), if_pos hi]
  exact h.wrap (fun x => Tx.mk 6 0 [] [] [x])
theorem ag_true {r : PS} (n0 : isW r [45] = false) (n1 : isW r [33] = false) (hi : isW r [116, 114, 117, 101] = true) : Ag (tell .unary r) (.mk 2 1 [] [] []) (tl r) := by
  rw [tell_unary, if_neg (by simp [n0]), if_neg (by simp [n1]), if_pos hi]
  exact Ag.refl _ _
theorem ag_false {r : PS} (n0 : isW r [45] = false) (n1 : isW r [33] = false) (n2 : isW r [116, 114, 117, 101] = false) (hi : isW r [102, 97, 108, 115, 101] = true) : Ag (tell .unary r) (.mk 2 0 [] [] []) (tl r) := by
  rw [tell_unary, if_neg (by simp [n0]), if_neg (by simp [n1]), if_neg (by simp [n2]), if_pos hi]
  exact Ag.refl _ _
theorem ag_par {r r' : PS} {t : Tx} (n0 : isW r [45] = false) (n1 : isW r [33] = false) (n2 : isW r [116, 114, 117, 101] = false) (n3 : isW r [102, 97, 108, 115, 101] = false) (hi : isW r [40] = true) (h : Ag (tell (.row 0) (tl r)) t r') : Ag (tell .unary r) t (mustP r' [41]) := by
  rw [tell_unary, if_neg (by simp [n0]), if_neg (by simp [n1]), if_neg (by simp [n2]), if_neg (by simp [n3]), if_pos hi]
  exact ag_must h [41]
theorem ag_num {r : PS} (n0 : isW r [45] = false) (n1 : isW r [33] = false) (n2 : isW r [116, 114, 117, 101] = false) (n3 : isW r [102, 97, 108, 115, 101] = false) (n4 : isW r [40] = false) (hk : ((peek r).k == 2) = true) : Ag (tell .unary r) (.mk 1 (takeW r [2]).n [] [] []) (takeR r [2]) := by
  rw [tell_unary, if_neg (by simp [n0]), if_neg (by simp [n1]), if_neg (by simp [n2]), if_neg (by simp [n3]), if_neg (by simp [n4]), if_pos hk]
  have e : ([2] : List Int).contains (peek r).k = true := by simpa using hk
  unfold takeW takeR
  rw [if_pos e, if_pos e]
  exact Ag.refl _ _
/-- What is left for a value: a call, or a name. -/
structure ValR (r : PS) : Prop where
  n0 : isW r [45] = false
  n1 : isW r [33] = false
  n2 : isW r [116, 114, 117, 101] = false
  n3 : isW r [102, 97, 108, 115, 101] = false
  n4 : isW r [40] = false
  nk : ((peek r).k == 2) = false
theorem ag_val {r : PS} (v : ValR r) : tell .unary r = if isW (wordR r 1 false) [40] || isW (wordR r 1 false) [46] then tell (.call (wordS r 1 false)) (wordR r 1 false) else (.mk 3 0 (wordS r 1 false) [] [], wordR r 1 false) := by
  rw [tell_unary, if_neg (by simp [v.n0]), if_neg (by simp [v.n1]), if_neg (by simp [v.n2]), if_neg (by simp [v.n3]), if_neg (by simp [v.n4]), if_neg (by simp [v.nk])]
theorem ag_name {r : PS} (v : ValR r) (i1 : isW (takeR r [1]) [46] = false) (i2 : isW (takeR r [1]) [40] = false) : Ag (tell .unary r) (.mk 3 0 (takeW r [1]).s [] []) (takeR r [1]) := by
  obtain ⟨h1, h2⟩ := takeR_word r
  rw [ag_val v]
  cases hb : (takeR r [1]).bad with
  | true =>
    rw [hb] at h1
    rw [isW_bad h1, isW_bad h1]
    exact .inl ⟨h1, hb⟩
  | false =>
    obtain ⟨e1, e2⟩ := h2 hb
    rw [e1, e2, i1, i2]
    exact Ag.refl _ _
theorem ag_value {r r' : PS} {t : Tx} (v : ValR r) (hi : isW (takeR r [1]) [46] = true ∨ isW (takeR r [1]) [40] = true) (h : Ag (tell (.call (takeW r [1]).s) (takeR r [1])) t r') : Ag (tell .unary r) t r' := by
  obtain ⟨h1, h2⟩ := takeR_word r
  rw [ag_val v]
  have hb : (takeR r [1]).bad = false := by rcases hi with hi | hi <;> exact (isW_pos hi).2
  obtain ⟨e1, e2⟩ := h2 hb
  rw [e1, e2, if_pos (by rcases hi with hi | hi <;> simp [hi])]
  exact h
/-- A list in brackets: what was told of it. -/
def AgL (r : PS) (xs : List Tx) (r' : PS) : Prop := ∀ q s, ((tell (.args q s []) (mustW r [40])).2.bad = true ∧ r'.bad = true) ∨ (r'.bad = false ∧ tell (.args q s []) (mustW r [40]) = (.mk 4 0 s q xs, boundR r' xs.length 255))
/-- What stands behind a part of a list. -/
def after (q s : List UInt8) (xs : List Tx) (r : PS) : Tx × PS :=
  if isW r [44] then (if isW (tl r) [41] then callEnd q s xs (badR (tl r)) else tell (.args q s xs) (tl r)) else callEnd q s xs r
def AgI (r : PS) (xs : List Tx) (r' : PS) : Prop := ∀ q s, ((tell (.args q s []) (mustW r [40])).2.bad = true ∧ r'.bad = true) ∨ (r'.bad = false ∧ tell (.args q s []) (mustW r [40]) = after q s xs r')
theorem mustP_mustW (r : PS) (s : List UInt8) : (mustW r s).bad = (mustP r s).bad ∧ ((mustP r s).bad = false → mustW r s = mustP r s) := by
  unfold mustW mustP
  split
  · exact ⟨rfl, fun _ => rfl⟩
  · exact ⟨rfl, fun h => by cases h⟩
theorem callEnd_bad {q s : List UInt8} {xs : List Tx} {r : PS} (h : r.bad = true) : (callEnd q s xs r).2.bad = true := mustW_bad h _
theorem after_bad {q s : List UInt8} {xs : List Tx} {r : PS} (h : r.bad = true) : (after q s xs r).2.bad = true := by
  unfold after
  rw [isW_bad h]
  exact callEnd_bad h
theorem args_bad {q s : List UInt8} {xs : List Tx} {r : PS} (h : r.bad = true) : (tell (.args q s xs) r).2.bad = true := tell_bad h
theorem agl_none {r : PS} (hi : isW (mustP r [40]) [41] = true) : AgL r [] (tl (mustP r [40])) := fun q s => by
  obtain ⟨h1, h2⟩ := mustP_mustW r [40]
  have hb := (isW_pos hi).2
  refine .inr ⟨hb, ?_⟩
  rw [h2 hb, tell_args, if_pos (by simp [hi])]
  unfold callEnd boundR mustW
  rw [if_pos hi]
theorem agi_one {r r' : PS} {x : Tx} (hi : isW (mustP r [40]) [41] = false) (h : Ag (tell (.row 0) (mustP r [40])) x r') : AgI r [x] r' := fun q s => by
  obtain ⟨h1, h2⟩ := mustP_mustW r [40]
  cases hb : (mustP r [40]).bad with
  | true =>
    rw [hb] at h1
    refine .inl ⟨args_bad h1, ?_⟩
    rcases h with h | h
    · exact h.2
    · rw [tell_bad hb] at h; cases h.1
  | false =>
    rw [h2 hb, tell_args, if_neg (by simp [hb, hi])]
    rcases h with ⟨h3, h4⟩ | ⟨h3, h4, h5⟩
    · exact .inl ⟨after_bad (q := q) (s := s) (xs := [] ++ [(tell (.row 0) (mustP r [40])).1]) h3, h4⟩
    · subst h5; subst h4
      exact .inr ⟨h3, rfl⟩
/-- No expression begins with a bracket that closes. -/
theorem row_close {r : PS} (hi : isW r [41] = true) (k : Nat) : (tell (.row k) r).2.bad = true := by
  have hl : ∀ k, 4 < k → (tell (.row k) r).2.bad = true := fun k hk => by
    rw [tell_top hk]
    have hp : (peek r).s = [41] ∧ ((peek r).k = 5 ∨ (peek r).k = 4) := by
      unfold isW at hi
      simp only [Bool.and_eq_true, Bool.or_eq_true, beq_iff_eq] at hi
      exact ⟨hi.2, hi.1⟩
    have no : ∀ s, s ≠ [41] → isW r s = false := fun s hs => by
      unfold isW
      rw [hp.1]
      have : (([41] : List UInt8) == s) = false := by simpa using fun e => hs e.symm
      rw [this]; simp
    have hw : wordR r 1 false = badR r := by
      unfold wordR wordNo
      rw [if_pos (by rcases hp.2 with e | e <;> simp [e])]
    have hk2 : ((peek r).k == 2) = false := by rcases hp.2 with e | e <;> simp [e]
    rw [tell_unary, no _ (by decide), no _ (by decide), no _ (by decide), no _ (by decide), no _ (by decide), hk2, hw, isW_bad (r := badR r) rfl, isW_bad (r := badR r) rfl]
    rfl
  have step : ∀ k, k ≤ 4 → (tell (.row (k + 1)) r).2.bad = true → (tell (.row k) r).2.bad = true := fun k hk h => by
    rw [tell_row hk]
    exact tell_bad h
  by_cases h5 : 4 < k
  · exact hl k h5
  · have h4 := step 4 (by omega) (hl 5 (by omega))
    have h3 := step 3 (by omega) h4
    have h2 := step 2 (by omega) h3
    have h1 := step 1 (by omega) h2
    have h0 := step 0 (by omega) h1
    match k, h5 with
    | 0, _ => exact h0
    | 1, _ => exact h1
    | 2, _ => exact h2
    | 3, _ => exact h3
    | 4, _ => exact h4
    | k + 5, h => exact absurd (by omega) h
theorem agi_more {r r3 r4 : PS} {xs : List Tx} {y : Tx} (h : AgI r xs r3) (hi : isW r3 [44] = true) (hy : Ag (tell (.row 0) (tl r3)) y r4) : AgI r (xs ++ [y]) r4 := fun q s => by
  have hb := (isW_pos hi).2
  rcases h q s with ⟨_, h2⟩ | ⟨h1, h2⟩
  · rw [hb] at h2; cases h2
  · rw [h2]
    unfold after
    rw [if_pos hi]
    by_cases hc : isW (tl r3) [41] = true
    · rw [if_pos hc]
      refine .inl ⟨callEnd_bad rfl, ?_⟩
      have := row_close hc 0
      rcases hy with hy | hy
      · exact hy.2
      · rw [this] at hy; cases hy.1
    · rw [if_neg hc, tell_args, if_neg (by simp [hc]; exact hb)]
      rcases hy with ⟨h3, h4⟩ | ⟨h3, h4, h5⟩
      · exact .inl ⟨after_bad (q := q) (s := s) (xs := xs ++ [(tell (.row 0) (tl r3)).1]) h3, h4⟩
      · subst h5; subst h4
        exact .inr ⟨h3, rfl⟩
theorem agl_end {r r3 : PS} {xs : List Tx} (h : AgI r xs r3) (hi : isW r3 [44] = false) : AgL r xs (mustP r3 [41]) := fun q s => by
  rcases h q s with ⟨h1, h2⟩ | ⟨h1, h2⟩
  · exact .inl ⟨h1, by unfold mustP; rw [isW_bad h2]; rfl⟩
  · rw [h2]
    unfold after
    rw [if_neg (by simp [hi])]
    unfold callEnd boundR mustW mustP
    split
    · exact .inr ⟨h1, rfl⟩
    · exact .inl ⟨rfl, rfl⟩
theorem ag_call {r r' : PS} {s0 : List UInt8} {xs : List Tx} (hi : isW r [46] = false) (h : AgL r xs r') : Ag (tell (.call s0) r) (.mk 4 0 s0 [] xs) (boundR r' xs.length 255) := by
  rw [tell_call, if_neg (by simp [hi])]
  rcases h [] s0 with ⟨h1, h2⟩ | ⟨h1, h2⟩
  · exact .inl ⟨h1, h2⟩
  · rw [h2]; exact Ag.refl _ _
theorem ag_dot {r r' : PS} {s0 : List UInt8} {xs : List Tx} (hi : isW r [46] = true) (h : AgL (takeR (tl r) [1]) xs r') : Ag (tell (.call s0) r) (.mk 4 0 (takeW (tl r) [1]).s s0 xs) (boundR r' xs.length 255) := by
  rw [tell_call, if_pos hi]
  obtain ⟨h1, h2⟩ := takeR_word (tl r)
  cases hb : (takeR (tl r) [1]).bad with
  | true =>
    rw [hb] at h1
    refine .inl ⟨args_bad (mustW_bad h1 _), ?_⟩
    rcases h s0 [] with h | h
    · exact h.2
    · have := args_bad (q := s0) (s := []) (xs := []) (mustW_bad hb [40])
      rw [h.2] at this
      exact this
  | false =>
    obtain ⟨e1, e2⟩ := h2 hb
    rw [e1, e2]
    rcases h s0 (takeW (tl r) [1]).s with ⟨h3, h4⟩ | ⟨h3, h4⟩
    · exact .inl ⟨h3, h4⟩
    · rw [h4]; exact Ag.refl _ _
/-- A row of ops: what was told so far. -/
def AgR (k : Nat) (r : PS) (x : Tx) (r' : PS) : Prop := ((tell (.row k) r).2.bad = true ∧ r'.bad = true) ∨ (r'.bad = false ∧ tell (.row k) r = tell (.rest k x) r')
def opN (k : Nat) (r : PS) : Int := match (level k).find? (fun p => isW r p.1) with | none => 0 | some p => p.2
def opR (k : Nat) (r : PS) : PS := match (level k).find? (fun p => isW r p.1) with | none => r | some _ => tl r
theorem level_pos {k : Nat} : ∀ p ∈ level k, p.2 ≠ 0 := by
  intro p hp
  unfold level at hp
  repeat' split at hp
  all_goals (simp at hp; rcases hp with rfl | hp <;> first | decide | skip)
  all_goals (first | (rcases hp with rfl | rfl | rfl | rfl | rfl <;> decide) | (rcases hp with rfl | rfl <;> decide) | (subst hp; decide))
theorem agr_start {k : Nat} {r r' : PS} {x : Tx} (hk : k ≤ 4) (h : Ag (tell (.row (k + 1)) r) x r') : AgR k r x r' := by
  unfold AgR
  rw [tell_row hk]
  rcases h with ⟨h1, h2⟩ | ⟨h1, h2, h3⟩
  · exact .inl ⟨tell_bad h1, h2⟩
  · subst h3; subst h2; exact .inr ⟨h1, rfl⟩
theorem opN_bad {k : Nat} {r : PS} (h : r.bad = true) : opN k r = 0 := by
  unfold opN
  have : (level k).find? (fun p => isW r p.1) = none := List.find?_eq_none.2 fun p _ => by simp [isW_bad h]
  rw [this]
theorem agr_more {k : Nat} {r r' r2 : PS} {x y : Tx} (h : AgR k r x r') (ho : opN k r' ≠ 0) (hy : Ag (tell (.row (k + 1)) (opR k r')) y r2) : AgR k r (.mk (opN k r') 0 [] [] [x, y]) r2 := by
  rcases h with ⟨_, h2⟩ | ⟨h1, h2⟩
  · exact absurd (opN_bad h2) ho
  · unfold AgR
    rw [h2, tell_rest, if_neg (by simp [h1])]
    unfold opN opR at *
    cases hf : (level k).find? (fun p => isW r' p.1) with
    | none => rw [hf] at ho; exact absurd rfl ho
    | some p =>
      rw [hf] at hy
      dsimp only at hy ⊢
      rcases hy with ⟨h3, h4⟩ | ⟨h3, h4, h5⟩
      · exact .inl ⟨tell_bad h3, h4⟩
      · subst h5; subst h4; exact .inr ⟨h3, rfl⟩
theorem agr_end {k : Nat} {r r' : PS} {x : Tx} (h : AgR k r x r') (ho : opN k r' = 0) : Ag (tell (.row k) r) x r' := by
  rcases h with ⟨h1, h2⟩ | ⟨h1, h2⟩
  · exact .inl ⟨h1, h2⟩
  · rw [h2, tell_rest, if_neg (by simp [h1])]
    unfold opN at ho
    cases hf : (level k).find? (fun p => isW r' p.1) with
    | none => exact .inr ⟨h1, rfl, rfl⟩
    | some p =>
      rw [hf] at ho
      exact absurd ho (level_pos p (List.mem_of_find?_eq_some hf))
theorem ag_top {r r' : PS} {t : Tx} (h : Ag (tell .unary r) t r') : Ag (tell (.row 5) r) t r' := by rw [tell_top (by omega)]; exact h
/-- How the words that count go down. -/
theorem lenB_tl {r : PS} {s : List UInt8} (h : isW r s = true) : lenB (tl r) + 1 = lenB r := by
  obtain ⟨h1, h2⟩ := isW_pos h
  unfold lenB
  have : (tl r).bad = r.bad := rfl
  rw [this, tl_len, h2]
  simp
  omega
theorem lenB_tl_le (r : PS) : lenB (tl r) ≤ lenB r := by
  unfold lenB
  have : (tl r).bad = r.bad := rfl
  rw [this, tl_len]
  split <;> omega
theorem lenB_fail (r : PS) : lenB (failR r) = 0 := rfl
theorem lenB_must (r : PS) (s : List UInt8) : lenB (mustP r s) ≤ lenB r := by
  unfold mustP
  split
  · exact lenB_tl_le r
  · rw [lenB_fail]; omega
theorem lenB_must_lt {r : PS} (h : r.bad = false) (s : List UInt8) : lenB (mustP r s) < lenB r := by
  unfold mustP
  split
  · next hi => have := lenB_tl hi; omega
  · rw [lenB_fail]; unfold lenB; rw [h]; simp
theorem peek_k {r : PS} (h : (peek r).k ≠ 0) : r.bad = false ∧ 0 < r.l.length := by
  unfold peek at h
  by_cases hc : (r.l.length == 0 || r.bad) = true
  · rw [if_pos hc] at h; exact absurd rfl h
  · have h1 : ¬ r.l.length = 0 ∧ r.bad = false := by simpa using hc
    exact ⟨h1.2, by omega⟩
theorem lenB_take (r : PS) (ks : List Int) : lenB (takeR r ks) ≤ lenB r := by
  unfold takeR
  split
  · exact lenB_tl_le r
  · rw [lenB_fail]; omega
theorem lenB_take_lt {r : PS} {ks : List Int} (h0 : (0 : Int) ∉ ks) (h : (takeR r ks).bad = false) : lenB (takeR r ks) < lenB r := by
  unfold takeR at h ⊢
  split
  · next hc =>
    have hk : (peek r).k ≠ 0 := fun e => by
      rw [e] at hc
      exact h0 (List.contains_iff_mem.1 hc)
    obtain ⟨h1, h2⟩ := peek_k hk
    unfold lenB
    have : (tl r).bad = r.bad := rfl
    rw [this, tl_len, h1]
    simp
    omega
  · next hc => rw [if_neg hc] at h; cases h
theorem lenB_op (k : Nat) (r : PS) : lenB (opR k r) ≤ lenB r := by
  unfold opR
  split
  · exact Nat.le_refl _
  · exact lenB_tl_le r
theorem lenB_op_lt {k : Nat} {r : PS} (h : opN k r ≠ 0) : lenB (opR k r) < lenB r := by
  unfold opN at h
  unfold opR
  cases hf : (level k).find? (fun p => isW r p.1) with
  | none => rw [hf] at h; exact absurd rfl h
  | some p =>
    have := lenB_tl (s := p.1) (by have := List.find?_some hf; simpa using this)
    dsimp only
    omega
end Go.Proofs.YtlhbhpdpjidpgaaGreatDoor.Prg
/- Trees in memory: what a tree is as a value, which cells lie behind it; all of it lies on where only new blocks came. No condition. -/
namespace Go.Proofs.YtlhbhpdpjidpgaaGreatDoor.Tre
open Go.RowKit
set_option maxRecDepth 100000
/-- What a call leaves: an answer, the world as it was. -/
def EndsW (v : Value) (w : World) (e : Ending) (w' : World) : Prop := e = .returned v ∧ w' = w
/-- What a call leaves: an answer, and new blocks. -/
def EndsB (v : Value) (w : World) (e : Ending) (w' : World) : Prop := e = .returned v ∧ Below w.heap.size w w'
theorem EndsB.of {v u : Value} {w w' : World} (h : u = v) (hb : Below w.heap.size w w') : EndsB v w (.returned u) w' := ⟨by rw [h], hb⟩
theorem ends_bool {a b : Bool} {w w' : World} (h : a = b) (hb : Below w.heap.size w w') : EndsB (.bool b) w (.returned (.bool a)) w' := ⟨by rw [h], hb⟩
theorem lt_of_heap {w : World} {g : Nat} {o : Obj} (h : w.heap[g]? = some o) : g < w.heap.size := (Array.getElem?_eq_some_iff.1 h).1
theorem cell_at {w : World} {g : Nat} {cs : Array Value} {T : TypeId} (h : w.heap[g]? = some (.cells cs T (0, 0))) (i : Nat) : w.cell? ⟨g, i, none⟩ = cs[i]? := by simp [World.cell?, h]
theorem new_at (w : World) (cs : Array Value) (T : TypeId) : (w.alloc (.cells cs T)).heap[w.heap.size]? = some (.cells cs T (0, 0)) := World.alloc_heap_new w _
/-- A tree as cells; as a value. -/
def exC : Ex → List Value | .mk o n s q a c x => [.int .i64 o, .int .i64 n, .string s, .string q, .slice a x.length c]
def exV : Ex → Value | .mk o n s q a c x => .agg #[.int .i64 o, .int .i64 n, .string s, .string q, .slice a x.length c]
def stC : St → List Value | .mk o s (.mk eo en es eq ea ec ex) a c b a2 c2 b2 => [.int .i64 o, .string s, .int .i64 eo, .int .i64 en, .string es, .string eq, .slice ea ex.length ec, .slice a b.length c, .slice a2 b2.length c2]
def stV : St → Value | .mk o s (.mk eo en es eq ea ec ex) a c b a2 c2 b2 => .agg #[.int .i64 o, .string s, .int .i64 eo, .int .i64 en, .string es, .string eq, .slice ea ex.length ec, .slice a b.length c, .slice a2 b2.length c2]
def parC (p : Par) : List Value := [.string p.s, .int .u8 p.t]
def parV (p : Par) : Value := .agg #[.string p.s, .int .u8 p.t]
def fnC (f : Fn) : List Value := [.string f.s, .slice f.pa f.p.length f.pc, .int .u8 f.r, .slice f.ba f.b.length f.bc]
def fnV (f : Fn) : Value := .agg #[.string f.s, .slice f.pa f.p.length f.pc, .int .u8 f.r, .slice f.ba f.b.length f.bc]
def flV (f : Fl) : Value := .agg #[.string f.s, .slice f.ia f.i.length f.ic, .slice f.fa f.f.length f.fc]
def txC (s : ByteArray) : List Value := [.string s]
/-- A row of elements of k cells each. -/
def Row {α : Type} (k : Nat) (C : α → List Value) (w : World) (A : Option Addr) (l : List α) : Prop :=
  0 < l.length → ∃ b o, A = some ⟨b, o, none⟩ ∧ b < w.heap.size ∧ ∀ (j : Nat) (x : α), l[j]? = some x → ∀ (r : Nat) (u : Value), (C x)[r]? = some u → w.cell? ⟨b, o + j * k + r, none⟩ = some u
theorem Row.below {α : Type} {k : Nat} {C : α → List Value} {w w' : World} {A : Option Addr} {l : List α} (h : Row k C w A l) (hb : Below w.heap.size w w') : Row k C w' A l := fun h0 => by
  obtain ⟨b, o, e, hlt, hc⟩ := h h0
  exact ⟨b, o, e, Nat.lt_of_lt_of_le hlt hb.size, fun j x hx r u hu => (World.cell?_of_block (w := w) (hb.block b hlt)).trans (hc j x hx r u hu)⟩
theorem Row.nil {α : Type} (k : Nat) (C : α → List Value) (w : World) (A : Option Addr) : Row k C w A [] := fun h => by simp at h
/-- How long a row may be. -/
def most : Nat := 1000000000000
structure NdX (w : World) (e : Ex) : Prop where
  row : Row 5 exC w e.a e.x
  len : e.x.length ≤ most
  cap : e.x.length ≤ e.c
  s : e.s.size ≤ maxLen
  q : e.q.size ≤ maxLen
def ExIn (w : World) (e : Ex) : Prop := ∀ y ∈ flat e, NdX w y
structure NdS (w : World) (s : St) : Prop where
  e : ExIn w s.e
  row : Row 9 stC w s.a s.b
  row2 : Row 9 stC w s.a2 s.b2
  len : s.b.length ≤ most
  len2 : s.b2.length ≤ most
  s : s.s.size ≤ maxLen
def StIn (w : World) (s : St) : Prop := ∀ y ∈ flatS s, NdS w y
structure FnIn (w : World) (f : Fn) : Prop where
  p : Row 2 parC w f.pa f.p
  b : Row 9 stC w f.ba f.b
  sts : ∀ s ∈ f.b, StIn w s
  plen : f.p.length ≤ most
  blen : f.b.length ≤ most
  s : f.s.size ≤ maxLen
  ps : ∀ p ∈ f.p, p.s.size ≤ maxLen
structure FlIn (w : World) (f : Fl) : Prop where
  irow : Row 1 txC w f.ia f.i
  frow : Row 4 fnC w f.fa f.f
  fns : ∀ g ∈ f.f, FnIn w g
  ilen : f.i.length ≤ most
  flen : f.f.length ≤ most
  s : f.s.size ≤ maxLen
  is : ∀ s ∈ f.i, s.size ≤ maxLen
section
variable {w w' : World}
theorem NdX.below {e : Ex} (h : NdX w e) (hb : Below w.heap.size w w') : NdX w' e := ⟨h.row.below hb, h.len, h.cap, h.s, h.q⟩
theorem ExIn.below {e : Ex} (h : ExIn w e) (hb : Below w.heap.size w w') : ExIn w' e := fun y hy => (h y hy).below hb
theorem ExIn.nd {e : Ex} (h : ExIn w e) : NdX w e := h e (mem_flat e)
theorem ExIn.part {e x : Ex} (h : ExIn w e) (hx : x ∈ e.x) : ExIn w x := fun y hy => h y (flat_sub hx hy)
theorem ExIn.mk {e : Ex} (h : NdX w e) (hx : ∀ x ∈ e.x, ExIn w x) : ExIn w e := fun y hy => by
  rw [flat_eq] at hy
  rcases List.mem_cons.1 hy with rfl | hy
  · exact h
  · obtain ⟨x, hx1, hx2⟩ := List.mem_flatMap.1 hy
    exact hx x hx1 y hx2
theorem NdS.below {s : St} (h : NdS w s) (hb : Below w.heap.size w w') : NdS w' s := by
  exact ⟨h.e.below hb, h.row.below hb, h.row2.below hb, h.len, h.len2, h.s⟩
theorem StIn.below {s : St} (h : StIn w s) (hb : Below w.heap.size w w') : StIn w' s := fun y hy => (h y hy).below hb
theorem StIn.nd {s : St} (h : StIn w s) : NdS w s := h s (mem_flatS s)
theorem StIn.part {s x : St} (h : StIn w s) (hx : x ∈ s.b ∨ x ∈ s.b2) : StIn w x := fun y hy => h y (flatS_sub hx hy)
theorem StIn.mk {s : St} (h : NdS w s) (hx : ∀ x, x ∈ s.b ∨ x ∈ s.b2 → StIn w x) : StIn w s := fun y hy => by
  rw [flatS_eq] at hy
  rcases List.mem_cons.1 hy with rfl | hy
  · exact h
  · rcases List.mem_append.1 hy with hy | hy <;> obtain ⟨x, hx1, hx2⟩ := List.mem_flatMap.1 hy
    · exact hx x (.inl hx1) y hx2
    · exact hx x (.inr hx1) y hx2
theorem FnIn.below {f : Fn} (h : FnIn w f) (hb : Below w.heap.size w w') : FnIn w' f := ⟨h.p.below hb, h.b.below hb, fun s hs => (h.sts s hs).below hb, h.plen, h.blen, h.s, h.ps⟩
theorem FlIn.below {f : Fl} (h : FlIn w f) (hb : Below w.heap.size w w') : FlIn w' f := ⟨h.irow.below hb, h.frow.below hb, fun s hs => (h.fns s hs).below hb, h.ilen, h.flen, h.s, h.is⟩
end
end Go.Proofs.YtlhbhpdpjidpgaaGreatDoor.Tre
/- Are two expressions the same (the package's own): what sameExpr and the library's EqualFunc over it answer. Conditions: both trees lie in memory. -/
namespace Go.Proofs.YtlhbhpdpjidpgaaGreatDoor.Tre
open Go.RowKit
set_option maxRecDepth 100000
theorem bytes_eq {s t : ByteArray} (h : s.toList = t.toList) : s = t := by
  rw [ByteArray.toList_eq, ByteArray.toList_eq] at h
  cases s; cases t
  congr 1
  exact Array.toList_inj.1 h
theorem ball_new (w : World) (cs : Array Value) (T : TypeId) : Below w.heap.size w (w.alloc (.cells cs T)) := (Below.refl _ w).alloc (Nat.le_refl _) _
theorem two_new (w : World) (cs ds : Array Value) (T : TypeId) : Below w.heap.size w ((w.alloc (.cells cs T)).alloc (.cells ds T)) := (ball_new w cs T).trans ((ball_new _ ds T).mono (by simp))
end Go.Proofs.YtlhbhpdpjidpgaaGreatDoor.Tre
