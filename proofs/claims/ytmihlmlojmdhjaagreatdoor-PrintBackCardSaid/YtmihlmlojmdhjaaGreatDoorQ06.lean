/-
  The grammar of expressions as plain mathematics: a reader of words; what the document's own parser tells, step by step. No condition.
-/
import Derived.Test.YtmihlmlojmdhjaaGreatDoorQ05
namespace Go.Proofs.YtmihlmlojmdhjaaGreatDoor.Prs
open Tre
set_option maxRecDepth 100000
/-- A reader: the words that are left; whether one was not as it must be; whether something is too many. -/
structure PS where
  l : List Lex.Wd
  bad : Bool
  big : Bool
def zeroW : Lex.Wd := ⟨0, [], 0⟩
def peek (r : PS) : Lex.Wd := if r.l.length == 0 || r.bad then zeroW else r.l.headD zeroW
def isW (r : PS) (s : List UInt8) : Bool := ((peek r).k == 5 || (peek r).k == 4) && (peek r).s == s
def tl (r : PS) : PS := ⟨r.l.tail, r.bad, r.big⟩
def badR (r : PS) : PS := ⟨r.l, true, r.big⟩
def skipW (r : PS) (s : List UInt8) : PS := if isW r s then tl r else r
def mustW (r : PS) (s : List UInt8) : PS := if isW r s then tl r else badR r
def wordNo (r : PS) (k : Int) (key : Bool) : Bool := (peek r).k != k && !(key && (peek r).k == 4)
def wordS (r : PS) (k : Int) (key : Bool) : List UInt8 := if wordNo r k key then [] else (peek r).s
def wordR (r : PS) (k : Int) (key : Bool) : PS := if wordNo r k key then badR r else tl r
/-- The signs of a row of ops, and their ops. -/
def level (k : Nat) : List (List UInt8 × Int) :=
  if k == 0 then [([124, 124], 19)] else if k == 1 then [([38, 38], 18)]
  else if k == 2 then [([61, 61], 12), ([33, 61], 13), ([60], 14), ([60, 61], 15), ([62], 16), ([62, 61], 17)]
  else if k == 3 then [([43], 10), ([45], 11)] else [([42], 7), ([47], 8), ([37], 9)]
inductive Job where
  | row (k : Nat)
  | rest (k : Nat) (x : Tx)
  | unary
  | call (s : List UInt8)
  | args (q s : List UInt8) (x : List Tx)
def nilT : Tx := .mk 0 0 [] [] []
/-- A call that is through. -/
def callEnd (q s : List UInt8) (x : List Tx) (r : PS) : Tx × PS := (.mk 4 0 s q x, ⟨(mustW r [41]).l, (mustW r [41]).bad, (mustW r [41]).big || decide (255 < x.length)⟩)
/-- What the parser tells: the expression, and the reader behind it; n: how many steps it may go. -/
def run : Nat → Job → PS → Tx × PS
  | 0, _, r => (nilT, r)
  | n + 1, .row k, r => if 4 < k then run n .unary r else run n (.rest k (run n (.row (k + 1)) r).1) (run n (.row (k + 1)) r).2
  | n + 1, .rest k x, r =>
    if r.bad then (x, r) else
    match (level k).find? (fun p => isW r p.1) with
    | none => (x, r)
    | some p => run n (.rest k (.mk p.2 0 [] [] [x, (run n (.row (k + 1)) (tl r)).1])) (run n (.row (k + 1)) (tl r)).2
  | n + 1, .unary, r =>
    if isW r [45] then (.mk 5 0 [] [] [(run n .unary (tl r)).1], (run n .unary (tl r)).2)
    else if isW r [33] then (.mk 6 0 [] [] [(run n .unary (tl r)).1], (run n .unary (tl r)).2)
    else if isW r [116, 114, 117, 101] then (.mk 2 1 [] [] [], tl r)
    else if isW r [102, 97, 108, 115, 101] then (.mk 2 0 [] [] [], tl r)
    else if isW r [40] then ((run n (.row 0) (tl r)).1, mustW (run n (.row 0) (tl r)).2 [41])
    else if (peek r).k == 2 then (.mk 1 (peek r).n [] [] [], tl r)
    else if isW (wordR r 1 false) [40] || isW (wordR r 1 false) [46] then run n (.call (wordS r 1 false)) (wordR r 1 false)
    else (.mk 3 0 (wordS r 1 false) [] [], wordR r 1 false)
  | n + 1, .call s, r =>
    if isW r [46] then run n (.args s (wordS (tl r) 1 false) []) (mustW (wordR (tl r) 1 false) [40])
    else run n (.args [] s []) (mustW r [40])
  | n + 1, .args q s x, r =>
    if r.bad || isW r [41] then callEnd q s x r
    else if isW (run n (.row 0) r).2 [44] then
      (if isW (tl (run n (.row 0) r).2) [41] then callEnd q s (x ++ [(run n (.row 0) r).1]) (badR (tl (run n (.row 0) r).2))
       else run n (.args q s (x ++ [(run n (.row 0) r).1])) (tl (run n (.row 0) r).2))
    else callEnd q s (x ++ [(run n (.row 0) r).1]) (run n (.row 0) r).2
theorem isW_pos {r : PS} {s : List UInt8} (h : isW r s = true) : 0 < r.l.length ∧ r.bad = false := by
  unfold isW peek at h
  by_cases hc : (r.l.length == 0 || r.bad) = true
  · rw [if_pos hc] at h
    simp [zeroW] at h
  · have h1 : ¬ r.l.length = 0 ∧ r.bad = false := by simpa using hc
    exact ⟨by omega, h1.2⟩
theorem tl_len (r : PS) : (tl r).l.length = r.l.length - 1 := by simp [tl]
theorem mustW_len (r : PS) (s : List UInt8) : (mustW r s).l.length ≤ r.l.length := by
  unfold mustW
  split
  · rw [tl_len]; omega
  · exact Nat.le_refl _
theorem wordR_len (r : PS) (k : Int) (key : Bool) : (wordR r k key).l.length ≤ r.l.length := by
  unfold wordR
  split
  · exact Nat.le_refl _
  · rw [tl_len]; omega
theorem callEnd_len (q s : List UInt8) (x : List Tx) (r : PS) : (callEnd q s x r).2.l.length ≤ r.l.length := mustW_len r [41]
/-- How many steps are enough. -/
def need : Job → Nat → Nat
  | .row k, m => 16 * m + 2 * (6 - k) + 2
  | .rest _ _, m => 16 * m + 1
  | .unary, m => 16 * m + 1
  | .call _, m => 16 * m + 2
  | .args _ _ _, m => 16 * m + 15
end Go.Proofs.YtmihlmlojmdhjaaGreatDoor.Prs
/- The grammar of expressions, without a count of steps: what the parser tells of a job. No condition. -/
namespace Go.Proofs.YtmihlmlojmdhjaaGreatDoor.Prs
open Tre
set_option maxRecDepth 100000
/-- The words that count: a reader that fell has none. -/
def lenR (r : PS) : Nat := if r.bad then 0 else r.l.length
theorem lenR_bad {r : PS} (h : r.bad = true) : lenR r = 0 := by simp [lenR, h]
theorem lenR_tl (r : PS) : lenR (tl r) = lenR r - 1 := by
  unfold lenR
  have : (tl r).bad = r.bad := rfl
  rw [this, tl_len]
  split <;> rfl
theorem lenR_badR (r : PS) : lenR (badR r) = 0 := rfl
theorem lenR_mustW (r : PS) (s : List UInt8) : lenR (mustW r s) ≤ lenR r := by
  unfold mustW
  split
  · rw [lenR_tl]; omega
  · rw [lenR_badR]; omega
theorem lenR_wordR (r : PS) (k : Int) (key : Bool) : lenR (wordR r k key) ≤ lenR r := by
  unfold wordR
  split
  · rw [lenR_badR]; omega
  · rw [lenR_tl]; omega
theorem lenR_pos {r : PS} {s : List UInt8} (h : isW r s = true) : 0 < lenR r := by
  obtain ⟨h1, h2⟩ := isW_pos h
  simp [lenR, h1, h2]
theorem callEnd_lenR (q s : List UInt8) (x : List Tx) (r : PS) : lenR (callEnd q s x r).2 ≤ lenR r := lenR_mustW r [41]
theorem run_lenR : ∀ (n : Nat) (j : Job) (r : PS), lenR (run n j r).2 ≤ lenR r
  | 0, _, _ => Nat.le_refl _
  | n + 1, .row k, r => by
    unfold run
    split
    · exact run_lenR n _ _
    · exact Nat.le_trans (run_lenR n _ _) (run_lenR n _ _)
  | n + 1, .rest k x, r => by
    unfold run
    split
    · exact Nat.le_refl _
    · split
      · exact Nat.le_refl _
      · have h1 := run_lenR n (.row (k + 1)) (tl r)
        rw [lenR_tl] at h1
        exact Nat.le_trans (run_lenR n _ _) (by omega)
  | n + 1, .unary, r => by
    have ht := lenR_tl r
    have hw := lenR_wordR r 1 false
    unfold run
    split
    · have := run_lenR n .unary (tl r); show lenR (run n .unary (tl r)).2 ≤ _; omega
    split
    · have := run_lenR n .unary (tl r); show lenR (run n .unary (tl r)).2 ≤ _; omega
    split
    · show lenR (tl r) ≤ _; omega
    split
    · show lenR (tl r) ≤ _; omega
    split
    · have h1 := run_lenR n (.row 0) (tl r)
      have h2 := lenR_mustW (run n (.row 0) (tl r)).2 [41]
      show lenR (mustW (run n (.row 0) (tl r)).2 [41]) ≤ _
      omega
    split
    · show lenR (tl r) ≤ _; omega
    split
    · exact Nat.le_trans (run_lenR n _ _) hw
    · exact hw
  | n + 1, .call s, r => by
    unfold run
    split
    · have h1 := lenR_tl r
      have h2 := lenR_wordR (tl r) 1 false
      have h3 := lenR_mustW (wordR (tl r) 1 false) [40]
      have h4 := run_lenR n (.args s (wordS (tl r) 1 false) []) (mustW (wordR (tl r) 1 false) [40])
      omega
    · exact Nat.le_trans (run_lenR n _ _) (lenR_mustW _ _)
  | n + 1, .args q s x, r => by
    have h1 := run_lenR n (.row 0) r
    have h2 := lenR_tl (run n (.row 0) r).2
    unfold run
    split
    · exact callEnd_lenR _ _ _ _
    split
    · split
      · have h3 := callEnd_lenR q s (x ++ [(run n (.row 0) r).1]) (badR (tl (run n (.row 0) r).2))
        rw [lenR_badR] at h3
        omega
      · have := run_lenR n (.args q s (x ++ [(run n (.row 0) r).1])) (tl (run n (.row 0) r).2)
        omega
    · exact Nat.le_trans (callEnd_lenR _ _ _ _) h1
/-- The steps that are enough. -/
def enough (j : Job) (r : PS) : Nat := match j with
  | .args _ _ _ => if r.bad then 1 else need j (lenR r)
  | _ => need j (lenR r)
theorem enough_args (q s : List UInt8) (x : List Tx) (r : PS) : enough (.args q s x) r ≤ 16 * lenR r + 15 := by
  unfold enough need
  dsimp only
  split <;> omega
theorem word_pos {r : PS} (h : isW (wordR r 1 false) [40] = true ∨ isW (wordR r 1 false) [46] = true) : lenR (wordR r 1 false) + 1 ≤ lenR r := by
  have hb : (wordR r 1 false).bad = false := by rcases h with h | h <;> exact (isW_pos h).2
  unfold wordR at hb ⊢
  by_cases hw : wordNo r 1 false = true
  · rw [if_pos hw] at hb
    simp [badR] at hb
  · rw [if_neg hw] at hb ⊢
    have hk : (peek r).k = 1 := by simpa [wordNo] using hw
    have hr : r.bad = false := hb
    have hl : 0 < r.l.length := by
      rcases Nat.eq_zero_or_pos r.l.length with h0 | h0
      · have : (peek r).k = 0 := by simp [peek, h0, zeroW]
        omega
      · exact h0
    rw [lenR_tl]
    have : lenR r = r.l.length := by simp [lenR, hr]
    omega
theorem run_same : ∀ (n n' : Nat) (j : Job) (r : PS), enough j r ≤ n → enough j r ≤ n' → run n j r = run n' j r
  | 0, n', j, r, h, _ => by
    exfalso
    cases j <;> simp only [enough, need] at h
    case args => split at h <;> omega
    all_goals omega
  | n + 1, 0, j, r, _, h => by
    exfalso
    cases j <;> simp only [enough, need] at h
    case args => split at h <;> omega
    all_goals omega
  | n + 1, n' + 1, .row k, r, h, h' => by
    simp only [enough, need] at h h'
    unfold run
    split
    · exact run_same n n' .unary r (by simp only [enough, need]; omega) (by simp only [enough, need]; omega)
    · rw [run_same n n' (.row (k + 1)) r (by simp only [enough, need]; omega) (by simp only [enough, need]; omega)]
      have hl := run_lenR n' (.row (k + 1)) r
      exact run_same n n' _ _ (by simp only [enough, need]; omega) (by simp only [enough, need]; omega)
  | n + 1, n' + 1, .rest k x, r, h, h' => by
    simp only [enough, need] at h h'
    unfold run
    split
    · rfl
    · split
      · rfl
      · next p hp =>
        have h1 := lenR_tl r
        have h2 := lenR_pos (s := p.1) (by have := List.find?_some hp; simpa using this)
        rw [run_same n n' (.row (k + 1)) (tl r) (by simp only [enough, need]; omega) (by simp only [enough, need]; omega)]
        have hl := run_lenR n' (.row (k + 1)) (tl r)
        exact run_same n n' _ _ (by simp only [enough, need]; omega) (by simp only [enough, need]; omega)
  | n + 1, n' + 1, .unary, r, h, h' => by
    simp only [enough, need] at h h'
    have h1 := lenR_tl r
    unfold run
    split
    · next hi =>
      have h2 := lenR_pos hi
      rw [run_same n n' .unary (tl r) (by simp only [enough, need]; omega) (by simp only [enough, need]; omega)]
    split
    · next hi =>
      have h2 := lenR_pos hi
      rw [run_same n n' .unary (tl r) (by simp only [enough, need]; omega) (by simp only [enough, need]; omega)]
    split
    · rfl
    split
    · rfl
    split
    · next hi =>
      have h2 := lenR_pos hi
      rw [run_same n n' (.row 0) (tl r) (by simp only [enough, need]; omega) (by simp only [enough, need]; omega)]
    split
    · rfl
    split
    · next hi =>
      have h2 := word_pos (r := r) (by simpa using hi)
      exact run_same n n' _ _ (by simp only [enough, need]; omega) (by simp only [enough, need]; omega)
    · rfl
  | n + 1, n' + 1, .call s, r, h, h' => by
    simp only [enough, need] at h h'
    unfold run
    split
    · next hi =>
      have h2 := lenR_pos hi
      have h1 := lenR_tl r
      have h3 := lenR_wordR (tl r) 1 false
      have h4 := lenR_mustW (wordR (tl r) 1 false) [40]
      have h5 := enough_args s (wordS (tl r) 1 false) [] (mustW (wordR (tl r) 1 false) [40])
      exact run_same n n' _ _ (by omega) (by omega)
    · by_cases hi : isW r [40] = true
      · have h2 := lenR_pos hi
        have h1 := lenR_tl r
        have e : mustW r [40] = tl r := by simp [mustW, hi]
        have h5 := enough_args [] s [] (mustW r [40])
        rw [e] at h5 ⊢
        exact run_same n n' _ _ (by omega) (by omega)
      · have e : mustW r [40] = badR r := by simp [mustW, hi]
        have h5 : enough (.args [] s []) (badR r) = 1 := by simp [enough, badR]
        rw [e]
        exact run_same n n' _ _ (by omega) (by omega)
  | n + 1, n' + 1, .args q s x, r, h, h' => by
    unfold run
    split
    · rfl
    · next hi =>
      have hb : r.bad = false := by
        have : ¬ (r.bad || isW r [41]) = true := hi
        simp only [Bool.or_eq_true, not_or] at this
        simpa using this.1
      simp only [enough, hb, need, Bool.false_eq_true, if_false] at h h'
      rw [run_same n n' (.row 0) r (by simp only [enough, need]; omega) (by simp only [enough, need]; omega)]
      have hl := run_lenR n' (.row 0) r
      split
      · next hc =>
        split
        · rfl
        · have h2 := lenR_pos hc
          have h1 := lenR_tl (run n' (.row 0) r).2
          have h5 := enough_args q s (x ++ [(run n' (.row 0) r).1]) (tl (run n' (.row 0) r).2)
          exact run_same n n' _ _ (by omega) (by omega)
      · rfl
/-- What the parser tells. -/
def tell (j : Job) (r : PS) : Tx × PS := run (enough j r) j r
theorem tell_lenR (j : Job) (r : PS) : lenR (tell j r).2 ≤ lenR r := run_lenR _ j r
theorem tell_run {n : Nat} {j : Job} {r : PS} (h : enough j r ≤ n) : run n j r = tell j r := run_same _ _ j r h (Nat.le_refl _)
theorem tell_top {k : Nat} {r : PS} (h : 4 < k) : tell (.row k) r = tell .unary r := by
  obtain ⟨n, hn⟩ : ∃ n, enough (.row k) r = n + 1 := ⟨16 * lenR r + 2 * (6 - k) + 1, by simp only [enough, need]⟩
  unfold tell
  rw [hn]
  unfold run
  rw [if_pos h]
  exact tell_run (by simp only [enough, need] at hn ⊢; omega)
theorem tell_row {k : Nat} {r : PS} (h : k ≤ 4) : tell (.row k) r = tell (.rest k (tell (.row (k + 1)) r).1) (tell (.row (k + 1)) r).2 := by
  obtain ⟨n, hn⟩ : ∃ n, enough (.row k) r = n + 1 := ⟨16 * lenR r + 2 * (6 - k) + 1, by simp only [enough, need]⟩
  have e1 : tell (.row k) r = run (n + 1) (.row k) r := by unfold tell; rw [hn]
  rw [e1]
  unfold run
  rw [if_neg (by omega), tell_run (n := n) (j := .row (k + 1)) (by simp only [enough, need] at hn ⊢; omega)]
  have hl := tell_lenR (.row (k + 1)) r
  exact tell_run (by simp only [enough, need] at hn ⊢; omega)
theorem tell_rest (k : Nat) (x : Tx) (r : PS) : tell (.rest k x) r = if r.bad then (x, r) else
    match (level k).find? (fun p => isW r p.1) with
    | none => (x, r)
    | some p => tell (.rest k (.mk p.2 0 [] [] [x, (tell (.row (k + 1)) (tl r)).1])) (tell (.row (k + 1)) (tl r)).2 := by
  obtain ⟨n, hn⟩ : ∃ n, enough (.rest k x) r = n + 1 := ⟨16 * lenR r, by simp only [enough, need]⟩
  have e1 : tell (.rest k x) r = run (n + 1) (.rest k x) r := by unfold tell; rw [hn]
  rw [e1]
  unfold run
  split
  · rfl
  · split
    · next hp => first | (rw [hp]; done) | rfl
    · next p hp =>
      try rw [hp]
      try dsimp only
      have h1 := lenR_tl r
      have h2 := lenR_pos (s := p.1) (by have := List.find?_some hp; simpa using this)
      rw [tell_run (n := n) (j := .row (k + 1)) (by simp only [enough, need] at hn ⊢; omega)]
      have hl := tell_lenR (.row (k + 1)) (tl r)
      exact tell_run (by simp only [enough, need] at hn ⊢; omega)
theorem tell_unary (r : PS) : tell .unary r =
    if isW r [45] then (.mk 5 0 [] [] [(tell .unary (tl r)).1], (tell .unary (tl r)).2)
    else if isW r [33] then (.mk 6 0 [] [] [(tell .unary (tl r)).1], (tell .unary (tl r)).2)
    else if isW r [116, 114, 117, 101] then (.mk 2 1 [] [] [], tl r)
    else if isW r [102, 97, 108, 115, 101] then (.mk 2 0 [] [] [], tl r)
    else if isW r [40] then ((tell (.row 0) (tl r)).1, mustW (tell (.row 0) (tl r)).2 [41])
    else if (peek r).k == 2 then (.mk 1 (peek r).n [] [] [], tl r)
    else if isW (wordR r 1 false) [40] || isW (wordR r 1 false) [46] then tell (.call (wordS r 1 false)) (wordR r 1 false)
    else (.mk 3 0 (wordS r 1 false) [] [], wordR r 1 false) := by
  obtain ⟨n, hn⟩ : ∃ n, enough .unary r = n + 1 := ⟨16 * lenR r, by simp only [enough, need]⟩
  have e1 : tell .unary r = run (n + 1) .unary r := by unfold tell; rw [hn]
  rw [e1]
  simp only [enough, need] at hn
  have h1 := lenR_tl r
  unfold run
  split
  · next hi =>
    have h2 := lenR_pos hi
    rw [tell_run (n := n) (j := .unary) (by simp only [enough, need]; omega)]
  split
  · next hi =>
    have h2 := lenR_pos hi
    rw [tell_run (n := n) (j := .unary) (by simp only [enough, need]; omega)]
  split
  · rfl
  split
  · rfl
  split
  · next hi =>
    have h2 := lenR_pos hi
    rw [tell_run (n := n) (j := .row 0) (by simp only [enough, need]; omega)]
  split
  · rfl
  split
  · next hi =>
    have h2 := word_pos (r := r) (by simpa using hi)
    exact tell_run (by simp only [enough, need]; omega)
  · rfl
theorem tell_call (s : List UInt8) (r : PS) : tell (.call s) r =
    if isW r [46] then tell (.args s (wordS (tl r) 1 false) []) (mustW (wordR (tl r) 1 false) [40])
    else tell (.args [] s []) (mustW r [40]) := by
  obtain ⟨n, hn⟩ : ∃ n, enough (.call s) r = n + 1 := ⟨16 * lenR r + 1, by simp only [enough, need]⟩
  have e1 : tell (.call s) r = run (n + 1) (.call s) r := by unfold tell; rw [hn]
  rw [e1]
  simp only [enough, need] at hn
  unfold run
  split
  · next hi =>
    have h2 := lenR_pos hi
    have h1 := lenR_tl r
    have h3 := lenR_wordR (tl r) 1 false
    have h4 := lenR_mustW (wordR (tl r) 1 false) [40]
    have h5 := enough_args s (wordS (tl r) 1 false) [] (mustW (wordR (tl r) 1 false) [40])
    exact tell_run (by omega)
  · by_cases hi : isW r [40] = true
    · have h2 := lenR_pos hi
      have h1 := lenR_tl r
      have e : mustW r [40] = tl r := by simp [mustW, hi]
      have h5 := enough_args [] s [] (mustW r [40])
      rw [e] at h5 ⊢
      exact tell_run (by omega)
    · have e : mustW r [40] = badR r := by simp [mustW, hi]
      have h5 : enough (.args [] s []) (badR r) = 1 := by simp [enough, badR]
      rw [e]
      exact tell_run (by omega)
theorem tell_args (q s : List UInt8) (x : List Tx) (r : PS) : tell (.args q s x) r =
    if r.bad || isW r [41] then callEnd q s x r
    else if isW (tell (.row 0) r).2 [44] then
      (if isW (tl (tell (.row 0) r).2) [41] then callEnd q s (x ++ [(tell (.row 0) r).1]) (badR (tl (tell (.row 0) r).2))
       else tell (.args q s (x ++ [(tell (.row 0) r).1])) (tl (tell (.row 0) r).2))
    else callEnd q s (x ++ [(tell (.row 0) r).1]) (tell (.row 0) r).2 := by
  obtain ⟨n, hn⟩ : ∃ n, enough (.args q s x) r = n + 1 := by
    unfold enough need
    dsimp only
    split
    · exact ⟨0, rfl⟩
    · exact ⟨16 * lenR r + 14, rfl⟩
  have e1 : tell (.args q s x) r = run (n + 1) (.args q s x) r := by unfold tell; rw [hn]
  rw [e1]
  unfold run
  split
  · rfl
  · next hi =>
    have hb : r.bad = false := by
      have : ¬ (r.bad || isW r [41]) = true := hi
      simp only [Bool.or_eq_true, not_or] at this
      simpa using this.1
    simp only [enough, hb, need, Bool.false_eq_true, if_false] at hn
    rw [tell_run (n := n) (j := .row 0) (by simp only [enough, need]; omega)]
    have hl := tell_lenR (.row 0) r
    split
    · next hc =>
      split
      · rfl
      · have h2 := lenR_pos hc
        have h1 := lenR_tl (tell (.row 0) r).2
        have h5 := enough_args q s (x ++ [(tell (.row 0) r).1]) (tl (tell (.row 0) r).2)
        exact tell_run (by omega)
    · rfl
end Go.Proofs.YtmihlmlojmdhjaaGreatDoor.Prs
/- The grammar of statements as plain mathematics: what the document's own parser tells, step by step, and without a count of steps. No condition. -/
namespace Go.Proofs.YtmihlmlojmdhjaaGreatDoor.Prs
open Tre
set_option maxRecDepth 100000
inductive SJob where
  | block
  | loop (l : List Ts)
  | when
  | stmt
def wIf : List UInt8 := [105, 102]
def wElse : List UInt8 := [101, 108, 115, 101]
def wFor : List UInt8 := [102, 111, 114]
def wReturn : List UInt8 := [114, 101, 116, 117, 114, 110]
def wPrint : List UInt8 := [112, 114, 105, 110, 116]
def wBreak : List UInt8 := [98, 114, 101, 97, 107]
def wNext : List UInt8 := [99, 111, 110, 116, 105, 110, 117, 101]
def one1 (t : Ts) (r : PS) : List Ts × PS := ([t], r)
/-- A return. -/
def retS (r : PS) : List Ts × PS := if !isW r [59] && !isW r [125] then one1 (.mk 5 [] (tell (.row 0) r).1 [] []) (tell (.row 0) r).2 else one1 (.mk 5 [] nilT [] []) r
/-- A print. -/
def prtS (r : PS) : List Ts × PS := one1 (.mk 6 [] (tell (.row 0) (mustW r [40])).1 [] []) (mustW (tell (.row 0) (mustW r [40])).2 [41])
/-- What begins with a name. -/
def nameS (s : List UInt8) (r : PS) : List Ts × PS :=
  if isW r [58, 61] then one1 (.mk 1 s (tell (.row 0) (tl r)).1 [] []) (tell (.row 0) (tl r)).2
  else if isW r [61] then one1 (.mk 2 s (tell (.row 0) (tl r)).1 [] []) (tell (.row 0) (tl r)).2
  else one1 (.mk 7 [] (tell (.call s) r).1 [] []) (tell (.call s) r).2
/-- What stands between for and its block. -/
def forX (r : PS) : Tx × PS := if isW r [123] then (.mk 2 1 [] [] [], r) else tell (.row 0) r
def runS : Nat → SJob → PS → List Ts × PS
  | 0, _, r => ([], r)
  | n + 1, .block, r => runS n (.loop []) (mustW r [123])
  | n + 1, .loop l, r =>
    if r.bad || isW r [125] then (l, mustW r [125])
    else if isW (runS n .stmt r).2 [59] then runS n (.loop (l ++ (runS n .stmt r).1)) (tl (runS n .stmt r).2)
    else (l ++ (runS n .stmt r).1, mustW (runS n .stmt r).2 [125])
  | n + 1, .when, r =>
    if isW (runS n .block (tell (.row 0) r).2).2 wElse then
      (if isW (tl (runS n .block (tell (.row 0) r).2).2) wIf then
        one1 (.mk 3 [] (tell (.row 0) r).1 (runS n .block (tell (.row 0) r).2).1 (runS n .when (tl (tl (runS n .block (tell (.row 0) r).2).2))).1) (runS n .when (tl (tl (runS n .block (tell (.row 0) r).2).2))).2
       else one1 (.mk 3 [] (tell (.row 0) r).1 (runS n .block (tell (.row 0) r).2).1 (runS n .block (tl (runS n .block (tell (.row 0) r).2).2)).1) (runS n .block (tl (runS n .block (tell (.row 0) r).2).2)).2)
    else one1 (.mk 3 [] (tell (.row 0) r).1 (runS n .block (tell (.row 0) r).2).1 []) (runS n .block (tell (.row 0) r).2).2
  | n + 1, .stmt, r =>
    if isW r wIf then runS n .when (tl r)
    else if isW r wFor then one1 (.mk 4 [] (forX (tl r)).1 (runS n .block (forX (tl r)).2).1 []) (runS n .block (forX (tl r)).2).2
    else if isW r wReturn then retS (tl r)
    else if isW r wPrint then prtS (tl r)
    else if isW r wBreak then one1 (.mk 8 [] nilT [] []) (tl r)
    else if isW r wNext then one1 (.mk 9 [] nilT [] []) (tl r)
    else nameS (wordS r 1 false) (wordR r 1 false)
theorem retS_lenR (r : PS) : lenR (retS r).2 ≤ lenR r := by
  unfold retS
  split
  · exact tell_lenR _ _
  · exact Nat.le_refl _
theorem prtS_lenR (r : PS) : lenR (prtS r).2 ≤ lenR r :=
  Nat.le_trans (lenR_mustW _ _) (Nat.le_trans (tell_lenR _ _) (lenR_mustW _ _))
theorem nameS_lenR (s : List UInt8) (r : PS) : lenR (nameS s r).2 ≤ lenR r := by
  have h := lenR_tl r
  unfold nameS
  split
  · exact Nat.le_trans (tell_lenR _ _) (by omega)
  split
  · exact Nat.le_trans (tell_lenR _ _) (by omega)
  · exact tell_lenR _ _
theorem forX_lenR (r : PS) : lenR (forX r).2 ≤ lenR r := by
  unfold forX
  split
  · exact Nat.le_refl _
  · exact tell_lenR _ _
theorem runS_lenR : ∀ (n : Nat) (j : SJob) (r : PS), lenR (runS n j r).2 ≤ lenR r
  | 0, _, _ => Nat.le_refl _
  | n + 1, .block, r => Nat.le_trans (runS_lenR n _ _) (lenR_mustW _ _)
  | n + 1, .loop l, r => by
    have h1 := runS_lenR n .stmt r
    have h2 := lenR_tl (runS n .stmt r).2
    unfold runS
    split
    · exact lenR_mustW _ _
    split
    · exact Nat.le_trans (runS_lenR n _ _) (by omega)
    · exact Nat.le_trans (lenR_mustW _ _) h1
  | n + 1, .when, r => by
    have h0 := tell_lenR (.row 0) r
    have h1 := runS_lenR n .block (tell (.row 0) r).2
    have h2 := lenR_tl (runS n .block (tell (.row 0) r).2).2
    have h3 := lenR_tl (tl (runS n .block (tell (.row 0) r).2).2)
    unfold runS
    split
    · split
      · exact Nat.le_trans (runS_lenR n _ _) (by omega)
      · exact Nat.le_trans (runS_lenR n _ _) (by omega)
    · exact Nat.le_trans h1 h0
  | n + 1, .stmt, r => by
    have h := lenR_tl r
    unfold runS
    split
    · exact Nat.le_trans (runS_lenR n _ _) (by omega)
    split
    · exact Nat.le_trans (runS_lenR n _ _) (Nat.le_trans (forX_lenR _) (by omega))
    split
    · exact Nat.le_trans (retS_lenR _) (by omega)
    split
    · exact Nat.le_trans (prtS_lenR _) (by omega)
    split
    · show lenR (tl r) ≤ _; omega
    split
    · show lenR (tl r) ≤ _; omega
    · exact Nat.le_trans (nameS_lenR _ _) (lenR_wordR _ _ _)
/-- The steps that are enough. -/
def enoughS (j : SJob) (r : PS) : Nat := match j with
  | .block => 8 * lenR r + 2
  | .loop _ => if r.bad then 1 else 8 * lenR r + 2
  | .when => 8 * lenR r + 3
  | .stmt => 8 * lenR r + 1
theorem enough_loop (l : List Ts) (r : PS) : enoughS (.loop l) r ≤ 8 * lenR r + 2 := by
  unfold enoughS
  dsimp only
  split <;> omega
theorem runS_same : ∀ (n n' : Nat) (j : SJob) (r : PS), enoughS j r ≤ n → enoughS j r ≤ n' → runS n j r = runS n' j r
  | 0, n', j, r, h, _ => by
    exfalso
    cases j <;> simp only [enoughS] at h
    case loop => split at h <;> omega
    all_goals omega
  | n + 1, 0, j, r, _, h => by
    exfalso
    cases j <;> simp only [enoughS] at h
    case loop => split at h <;> omega
    all_goals omega
  | n + 1, n' + 1, .block, r, h, h' => by
    simp only [enoughS] at h h'
    unfold runS
    by_cases hi : isW r [123] = true
    · have h2 := lenR_pos hi
      have h1 := lenR_tl r
      have e : mustW r [123] = tl r := by simp [mustW, hi]
      have h5 := enough_loop [] (mustW r [123])
      rw [e] at h5 ⊢
      exact runS_same n n' _ _ (by omega) (by omega)
    · have e : mustW r [123] = badR r := by simp [mustW, hi]
      have h5 : enoughS (.loop []) (badR r) = 1 := by simp [enoughS, badR]
      rw [e]
      exact runS_same n n' _ _ (by omega) (by omega)
  | n + 1, n' + 1, .loop l, r, h, h' => by
    unfold runS
    split
    · rfl
    · next hi =>
      have hb : r.bad = false := by
        have : ¬ (r.bad || isW r [125]) = true := hi
        simp only [Bool.or_eq_true, not_or] at this
        simpa using this.1
      simp only [enoughS, hb, Bool.false_eq_true, if_false] at h h'
      rw [runS_same n n' .stmt r (by simp only [enoughS]; omega) (by simp only [enoughS]; omega)]
      have hl := runS_lenR n' .stmt r
      split
      · next hc =>
        have h2 := lenR_pos hc
        have h1 := lenR_tl (runS n' .stmt r).2
        have h5 := enough_loop (l ++ (runS n' .stmt r).1) (tl (runS n' .stmt r).2)
        exact runS_same n n' _ _ (by omega) (by omega)
      · rfl
  | n + 1, n' + 1, .when, r, h, h' => by
    simp only [enoughS] at h h'
    have h0 := tell_lenR (.row 0) r
    unfold runS
    rw [runS_same n n' .block (tell (.row 0) r).2 (by simp only [enoughS]; omega) (by simp only [enoughS]; omega)]
    have h1 := runS_lenR n' .block (tell (.row 0) r).2
    have h2 := lenR_tl (runS n' .block (tell (.row 0) r).2).2
    have h3 := lenR_tl (tl (runS n' .block (tell (.row 0) r).2).2)
    split
    · next hc =>
      have h4 := lenR_pos hc
      split
      · rw [runS_same n n' .when (tl (tl (runS n' .block (tell (.row 0) r).2).2)) (by simp only [enoughS]; omega) (by simp only [enoughS]; omega)]
      · rw [runS_same n n' .block (tl (runS n' .block (tell (.row 0) r).2).2) (by simp only [enoughS]; omega) (by simp only [enoughS]; omega)]
    · rfl
  | n + 1, n' + 1, .stmt, r, h, h' => by
    simp only [enoughS] at h h'
    have h1 := lenR_tl r
    have h3 := forX_lenR (tl r)
    unfold runS
    split
    · next hi =>
      have h2 := lenR_pos hi
      exact runS_same n n' .when (tl r) (by simp only [enoughS]; omega) (by simp only [enoughS]; omega)
    split
    · next hi =>
      have h2 := lenR_pos hi
      rw [runS_same n n' .block (forX (tl r)).2 (by simp only [enoughS]; omega) (by simp only [enoughS]; omega)]
    rfl
/-- What the parser tells of statements. -/
def tellS (j : SJob) (r : PS) : List Ts × PS := runS (enoughS j r) j r
theorem tellS_lenR (j : SJob) (r : PS) : lenR (tellS j r).2 ≤ lenR r := runS_lenR _ j r
theorem tellS_run {n : Nat} {j : SJob} {r : PS} (h : enoughS j r ≤ n) : runS n j r = tellS j r := runS_same _ _ j r h (Nat.le_refl _)
theorem tellS_block (r : PS) : tellS .block r = tellS (.loop []) (mustW r [123]) := by
  obtain ⟨n, hn⟩ : ∃ n, enoughS .block r = n + 1 := ⟨8 * lenR r + 1, by simp only [enoughS]⟩
  have e1 : tellS .block r = runS (n + 1) .block r := by unfold tellS; rw [hn]
  rw [e1]
  simp only [enoughS] at hn
  unfold runS
  by_cases hi : isW r [123] = true
  · have h2 := lenR_pos hi
    have h1 := lenR_tl r
    have e : mustW r [123] = tl r := by simp [mustW, hi]
    have h5 := enough_loop [] (mustW r [123])
    rw [e] at h5 ⊢
    exact tellS_run (by omega)
  · have e : mustW r [123] = badR r := by simp [mustW, hi]
    have h5 : enoughS (.loop []) (badR r) = 1 := by simp [enoughS, badR]
    rw [e]
    exact tellS_run (by omega)
theorem tellS_loop (l : List Ts) (r : PS) : tellS (.loop l) r =
    if r.bad || isW r [125] then (l, mustW r [125])
    else if isW (tellS .stmt r).2 [59] then tellS (.loop (l ++ (tellS .stmt r).1)) (tl (tellS .stmt r).2)
    else (l ++ (tellS .stmt r).1, mustW (tellS .stmt r).2 [125]) := by
  obtain ⟨n, hn⟩ : ∃ n, enoughS (.loop l) r = n + 1 := by
    unfold enoughS
    dsimp only
    split
    · exact ⟨0, rfl⟩
    · exact ⟨8 * lenR r + 1, rfl⟩
  have e1 : tellS (.loop l) r = runS (n + 1) (.loop l) r := by unfold tellS; rw [hn]
  rw [e1]
  unfold runS
  split
  · rfl
  · next hi =>
    have hb : r.bad = false := by
      have : ¬ (r.bad || isW r [125]) = true := hi
      simp only [Bool.or_eq_true, not_or] at this
      simpa using this.1
    simp only [enoughS, hb, Bool.false_eq_true, if_false] at hn
    rw [tellS_run (n := n) (j := .stmt) (by simp only [enoughS]; omega)]
    have hl := tellS_lenR .stmt r
    split
    · next hc =>
      have h2 := lenR_pos hc
      have h1 := lenR_tl (tellS .stmt r).2
      have h5 := enough_loop (l ++ (tellS .stmt r).1) (tl (tellS .stmt r).2)
      exact tellS_run (by omega)
    · rfl
theorem tellS_when (r : PS) : tellS .when r =
    if isW (tellS .block (tell (.row 0) r).2).2 wElse then
      (if isW (tl (tellS .block (tell (.row 0) r).2).2) wIf then
        one1 (.mk 3 [] (tell (.row 0) r).1 (tellS .block (tell (.row 0) r).2).1 (tellS .when (tl (tl (tellS .block (tell (.row 0) r).2).2))).1) (tellS .when (tl (tl (tellS .block (tell (.row 0) r).2).2))).2
       else one1 (.mk 3 [] (tell (.row 0) r).1 (tellS .block (tell (.row 0) r).2).1 (tellS .block (tl (tellS .block (tell (.row 0) r).2).2)).1) (tellS .block (tl (tellS .block (tell (.row 0) r).2).2)).2)
    else one1 (.mk 3 [] (tell (.row 0) r).1 (tellS .block (tell (.row 0) r).2).1 []) (tellS .block (tell (.row 0) r).2).2 := by
  obtain ⟨n, hn⟩ : ∃ n, enoughS .when r = n + 1 := ⟨8 * lenR r + 2, by simp only [enoughS]⟩
  have e1 : tellS .when r = runS (n + 1) .when r := by unfold tellS; rw [hn]
  rw [e1]
  simp only [enoughS] at hn
  have h0 := tell_lenR (.row 0) r
  unfold runS
  rw [tellS_run (n := n) (j := .block) (r := (tell (.row 0) r).2) (by simp only [enoughS]; omega)]
  have h1 := tellS_lenR .block (tell (.row 0) r).2
  have h2 := lenR_tl (tellS .block (tell (.row 0) r).2).2
  have h3 := lenR_tl (tl (tellS .block (tell (.row 0) r).2).2)
  split
  · next hc =>
    have h4 := lenR_pos hc
    split
    · rw [tellS_run (n := n) (j := .when) (by simp only [enoughS]; omega)]
    · rw [tellS_run (n := n) (j := .block) (r := tl (tellS .block (tell (.row 0) r).2).2) (by simp only [enoughS]; omega)]
  · rfl
theorem tellS_stmt (r : PS) : tellS .stmt r =
    if isW r wIf then tellS .when (tl r)
    else if isW r wFor then one1 (.mk 4 [] (forX (tl r)).1 (tellS .block (forX (tl r)).2).1 []) (tellS .block (forX (tl r)).2).2
    else if isW r wReturn then retS (tl r)
    else if isW r wPrint then prtS (tl r)
    else if isW r wBreak then one1 (.mk 8 [] nilT [] []) (tl r)
    else if isW r wNext then one1 (.mk 9 [] nilT [] []) (tl r)
    else nameS (wordS r 1 false) (wordR r 1 false) := by
  obtain ⟨n, hn⟩ : ∃ n, enoughS .stmt r = n + 1 := ⟨8 * lenR r, by simp only [enoughS]⟩
  have e1 : tellS .stmt r = runS (n + 1) .stmt r := by unfold tellS; rw [hn]
  rw [e1]
  simp only [enoughS] at hn
  have h1 := lenR_tl r
  have h3 := forX_lenR (tl r)
  unfold runS
  split
  · next hi =>
    have h2 := lenR_pos hi
    exact tellS_run (by simp only [enoughS]; omega)
  split
  · next hi =>
    have h2 := lenR_pos hi
    rw [tellS_run (n := n) (j := .block) (by simp only [enoughS]; omega)]
  rfl
end Go.Proofs.YtmihlmlojmdhjaaGreatDoor.Prs
