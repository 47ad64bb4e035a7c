/-
  What the program's parser tells against the plain grammar: functions, files. No condition.
-/
import Derived.Test.YtlhbhpdpjidpgaaGreatDoorZ21
import Derived.Test.YtlhbhpdpjidpgaaGreatDoorZ28
import Derived.Test.YtlhbhpdpjidpgaaGreatDoorZ33
namespace Go.Proofs.YtlhbhpdpjidpgaaGreatDoor.Prg
open Tre Prs
set_option maxRecDepth 100000
/-- Something is too many. -/
def addB (r : PS) (B : Bool) : PS := ⟨r.l, r.bad, r.big || B⟩
theorem mustW_addB (r : PS) (B : Bool) (s : List UInt8) : mustW (addB r B) s = addB (mustW r s) B := by
  unfold mustW
  show (if isW r s then _ else _) = _
  split <;> rfl
theorem wordR_addB (r : PS) (B : Bool) (k : Int) (key : Bool) : wordR (addB r B) k key = addB (wordR r k key) B := by
  unfold wordR
  show (if wordNo r k key then _ else _) = _
  split <;> rfl
theorem callEnd_addB (q s : List UInt8) (x : List Tx) (r : PS) (B : Bool) : callEnd q s x (addB r B) = ((callEnd q s x r).1, addB (callEnd q s x r).2 B) := by
  unfold callEnd
  rw [mustW_addB]
  unfold addB
  simp [Bool.or_comm, Bool.or_left_comm]
theorem run_addB (B : Bool) : ∀ (n : Nat) (j : Job) (r : PS), run n j (addB r B) = ((run n j r).1, addB (run n j r).2 B)
  | 0, _, _ => rfl
  | n + 1, .row k, r => by
    unfold run
    split
    · exact run_addB B n _ _
    · rw [run_addB B n (.row (k + 1)) r]
      exact run_addB B n _ _
  | n + 1, .rest k x, r => by
    unfold run
    show (if r.bad then _ else _) = _
    split
    · rfl
    · have e : (level k).find? (fun p => isW (addB r B) p.1) = (level k).find? (fun p => isW r p.1) := rfl
      rw [e]
      cases hf : (level k).find? (fun p => isW r p.1) with
      | none => rfl
      | some p =>
        dsimp only
        have e2 : tl (addB r B) = addB (tl r) B := rfl
        rw [e2, run_addB B n (.row (k + 1)) (tl r)]
        exact run_addB B n _ _
  | n + 1, .unary, r => by
    have e2 : tl (addB r B) = addB (tl r) B := rfl
    have ew : wordS (addB r B) 1 false = wordS r 1 false := rfl
    unfold run
    rw [e2, wordR_addB, ew, run_addB B n .unary (tl r), run_addB B n (.row 0) (tl r)]
    dsimp only
    rw [mustW_addB]
    show (if isW r [45] then _ else if isW r [33] then _ else if isW r [116, 114, 117, 101] then _ else if isW r [102, 97, 108, 115, 101] then _ else if isW r [40] then _ else if (peek r).k == 2 then _ else if isW (wordR r 1 false) [40] || isW (wordR r 1 false) [46] then _ else _) = _
    split
    · rfl
    split
    · rfl
    split
    · rfl
    split
    · rfl
    split
    · rfl
    split
    · rfl
    split
    · exact run_addB B n _ _
    · rfl
  | n + 1, .call s, r => by
    have e2 : tl (addB r B) = addB (tl r) B := rfl
    have ew : wordS (addB (tl r) B) 1 false = wordS (tl r) 1 false := rfl
    unfold run
    rw [e2, wordR_addB, mustW_addB, mustW_addB, ew]
    show (if isW r [46] then _ else _) = _
    split
    · exact run_addB B n _ _
    · exact run_addB B n _ _
  | n + 1, .args q s x, r => by
    unfold run
    rw [run_addB B n (.row 0) r]
    dsimp only
    show (if r.bad || isW r [41] then _ else if isW (run n (.row 0) r).2 [44] then (if isW (tl (run n (.row 0) r).2) [41] then _ else _) else _) = _
    split
    · exact callEnd_addB _ _ _ _ _
    split
    · split
      · exact callEnd_addB _ _ _ (badR (tl (run n (.row 0) r).2)) _
      · exact run_addB B n _ (tl (run n (.row 0) r).2)
    · exact callEnd_addB _ _ _ _ _
theorem enough_addB (j : Job) (r : PS) (B : Bool) : enough j (addB r B) = enough j r := by cases j <;> rfl
theorem tell_addB (j : Job) (r : PS) (B : Bool) : tell j (addB r B) = ((tell j r).1, addB (tell j r).2 B) := by
  unfold tell
  rw [enough_addB]
  exact run_addB B _ _ _
theorem forX_addB (r : PS) (B : Bool) : forX (addB r B) = ((forX r).1, addB (forX r).2 B) := by
  unfold forX
  rw [tell_addB]
  show (if isW r [123] then _ else _) = _
  split <;> rfl
theorem retS_addB (r : PS) (B : Bool) : retS (addB r B) = ((retS r).1, addB (retS r).2 B) := by
  unfold retS
  rw [tell_addB]
  show (if !isW r [59] && !isW r [125] then _ else _) = _
  split <;> rfl
theorem prtS_addB (r : PS) (B : Bool) : prtS (addB r B) = ((prtS r).1, addB (prtS r).2 B) := by
  unfold prtS
  rw [mustW_addB, tell_addB]
  dsimp only
  rw [mustW_addB]
  rfl
theorem nameS_addB (s : List UInt8) (r : PS) (B : Bool) : nameS s (addB r B) = ((nameS s r).1, addB (nameS s r).2 B) := by
  have e2 : tl (addB r B) = addB (tl r) B := rfl
  unfold nameS
  rw [e2, tell_addB, tell_addB]
  show (if isW r [58, 61] then _ else if isW r [61] then _ else _) = _
  split
  · rfl
  split <;> rfl
theorem runS_addB (B : Bool) : ∀ (n : Nat) (j : SJob) (r : PS), runS n j (addB r B) = ((runS n j r).1, addB (runS n j r).2 B)
  | 0, _, _ => rfl
  | n + 1, .block, r => by
    unfold runS
    rw [mustW_addB]
    exact runS_addB B n _ _
  | n + 1, .loop l, r => by
    unfold runS
    rw [runS_addB B n .stmt r]
    dsimp only
    rw [mustW_addB, mustW_addB]
    show (if r.bad || isW r [125] then _ else if isW (runS n .stmt r).2 [59] then _ else _) = _
    split
    · rfl
    split
    · exact runS_addB B n _ (tl (runS n .stmt r).2)
    · rfl
  | n + 1, .when, r => by
    unfold runS
    rw [tell_addB]
    dsimp only
    rw [runS_addB B n .block (tell (.row 0) r).2]
    dsimp only
    have e2 : ∀ q : PS, tl (addB q B) = addB (tl q) B := fun _ => rfl
    rw [e2, e2, runS_addB B n .when, runS_addB B n .block]
    show (if isW (runS n .block (tell (.row 0) r).2).2 wElse then (if isW (tl (runS n .block (tell (.row 0) r).2).2) wIf then _ else _) else _) = _
    split
    · split <;> rfl
    · rfl
  | n + 1, .stmt, r => by
    have e2 : tl (addB r B) = addB (tl r) B := rfl
    have ew : wordS (addB r B) 1 false = wordS r 1 false := rfl
    unfold runS
    rw [e2, wordR_addB, ew, forX_addB, retS_addB, prtS_addB, nameS_addB, runS_addB B n .when]
    dsimp only
    rw [runS_addB B n .block]
    show (if isW r wIf then _ else if isW r wFor then _ else if isW r wReturn then _ else if isW r wPrint then _ else if isW r wBreak then _ else if isW r wNext then _ else _) = _
    split
    · rfl
    split
    · rfl
    split
    · rfl
    split
    · rfl
    split
    · rfl
    split <;> rfl
theorem enoughS_addB (j : SJob) (r : PS) (B : Bool) : enoughS j (addB r B) = enoughS j r := by cases j <;> rfl
theorem tellS_addB (j : SJob) (r : PS) (B : Bool) : tellS j (addB r B) = ((tellS j r).1, addB (tellS j r).2 B) := by
  unfold tellS
  rw [enoughS_addB]
  exact runS_addB B _ _ _
theorem mustP_bad {r : PS} {s : List UInt8} (h : r.bad = true) : (mustP r s).bad = true := by
  unfold mustP
  rw [isW_bad h]
  rfl
theorem typR_bad {r : PS} (h : r.bad = true) : (typR r).bad = true := by
  unfold typR mustP
  rw [isW_bad h, isW_bad h]
  rfl
theorem ag_typ (r : PS) : Ag (typeN r, typeMust r) (typN r) (typR r) := by
  unfold typeMust typeN typeR typN typR mustP wInt wBool
  by_cases h1 : isW r [105, 110, 116] = true
  · simp only [h1, if_true, Bool.true_or]
    exact Ag.refl _ _
  · by_cases h2 : isW r [98, 111, 111, 108] = true
    · simp only [h1, h2, if_false, if_true, Bool.or_true, Bool.false_eq_true]
      exact Ag.refl _ _
    · simp only [h1, h2, if_false, Bool.or_self, Bool.false_eq_true]
      exact .inl ⟨rfl, rfl⟩
def parT (r : PS) : Tp := ⟨(takeW r [1]).s, typN (takeR r [1])⟩
def parR (r : PS) : PS := typR (takeR r [1])
theorem typeMust_bad {r : PS} (h : r.bad = true) : (typeMust r).bad = true := by
  unfold typeMust typeR
  split
  · rfl
  · split
    · exact h
    · exact h
theorem ag_par1 (r : PS) : Ag ((⟨wordS r 1 false, typeN (wordR r 1 false)⟩ : Tp), typeMust (wordR r 1 false)) (parT r) (parR r) := by
  obtain ⟨h1, h2⟩ := takeR_word r
  unfold parT parR
  cases hb : (takeR r [1]).bad with
  | true =>
    rw [hb] at h1
    exact .inl ⟨typeMust_bad h1, typR_bad hb⟩
  | false =>
    obtain ⟨e1, e2⟩ := h2 hb
    rw [e1, e2]
    exact (ag_typ (takeR r [1])).wrap (fun t => (⟨(takeW r [1]).s, t⟩ : Tp))
theorem par_close {r : PS} (hi : isW r [41] = true) : (parR r).bad = true := by
  have hk : (peek r).k = 5 ∨ (peek r).k = 4 := by
    unfold isW at hi
    simp only [Bool.and_eq_true, Bool.or_eq_true, beq_iff_eq] at hi
    exact hi.1
  have ht : takeR r [1] = failR r := by
    unfold takeR
    rw [if_neg]
    rcases hk with e | e <;> rw [e] <;> decide
  unfold parR
  rw [ht]
  exact typR_bad rfl
theorem tellP_bad {xs : List Tp} {r : PS} (h : r.bad = true) : (tellP xs r).2.bad = true := by
  rw [tellP_eq, if_pos (by simp [h])]
  exact mustW_bad h _
/-- Parameters in brackets. -/
def AgLP (r : PS) (xs : List Tp) (r' : PS) : Prop := Ag (tellP [] (mustW r [40])) xs r'
def afterP (xs : List Tp) (r : PS) : List Tp × PS :=
  if isW r [44] then (if isW (tl r) [41] then (xs, mustW (badR (tl r)) [41]) else tellP xs (tl r)) else (xs, mustW r [41])
def AgIP (r : PS) (xs : List Tp) (r' : PS) : Prop := ((tellP [] (mustW r [40])).2.bad = true ∧ r'.bad = true) ∨ (r'.bad = false ∧ tellP [] (mustW r [40]) = afterP xs r')
theorem afterP_bad {xs : List Tp} {r : PS} (h : r.bad = true) : (afterP xs r).2.bad = true := by
  unfold afterP
  rw [isW_bad h]
  exact mustW_bad h _
theorem agp_none {r : PS} (hi : isW (mustP r [40]) [41] = true) : AgLP r [] (tl (mustP r [40])) := by
  obtain ⟨h1, h2⟩ := mustP_mustW r [40]
  have hb := (isW_pos hi).2
  refine .inr ⟨?_, ?_, ?_⟩ <;> rw [h2 hb, tellP_eq, if_pos (by simp [hi])] <;> simp only [mustW, hi, if_true]
  exact hb
theorem par_step {r : PS} {xs : List Tp} (hb : r.bad = false) (hi : isW r [41] = false) : ((tellP xs r).2.bad = true ∧ (parR r).bad = true) ∨ ((parR r).bad = false ∧ tellP xs r = afterP (xs ++ [parT r]) (parR r)) := by
  have e : tellP xs r = afterP (xs ++ [⟨wordS r 1 false, typeN (wordR r 1 false)⟩]) (typeMust (wordR r 1 false)) := by
    rw [tellP_eq, if_neg (by simp [hb, hi])]
    rfl
  rw [e]
  rcases ag_par1 r with ⟨h1, h2⟩ | ⟨h1, h2, h3⟩
  · exact .inl ⟨afterP_bad h1, h2⟩
  · dsimp only at h1 h2 h3
    rw [← h2, ← h3]
    exact .inr ⟨by rw [h3]; exact h1, rfl⟩
theorem agp_one {r : PS} (hi : isW (mustP r [40]) [41] = false) : AgIP r [parT (mustP r [40])] (parR (mustP r [40])) := by
  obtain ⟨h1, h2⟩ := mustP_mustW r [40]
  unfold AgIP
  cases hb : (mustP r [40]).bad with
  | true =>
    rw [hb] at h1
    refine .inl ⟨tellP_bad h1, ?_⟩
    unfold parR takeR
    rw [peek_bad hb]
    exact typR_bad rfl
  | false =>
    rw [h2 hb]
    exact par_step (xs := []) hb hi
theorem agp_more {r r3 : PS} {xs : List Tp} (h : AgIP r xs r3) (hi : isW r3 [44] = true) : AgIP r (xs ++ [parT (tl r3)]) (parR (tl r3)) := by
  have hb := (isW_pos hi).2
  rcases h with ⟨_, h2⟩ | ⟨_, h2⟩
  · rw [hb] at h2; cases h2
  · unfold AgIP
    rw [h2]
    unfold afterP
    rw [if_pos hi]
    by_cases hc : isW (tl r3) [41] = true
    · rw [if_pos hc]
      exact .inl ⟨mustW_bad rfl _, par_close hc⟩
    · rw [if_neg hc]
      exact par_step hb (by simpa using hc)
theorem agp_end {r r3 : PS} {xs : List Tp} (h : AgIP r xs r3) (hi : isW r3 [44] = false) : AgLP r xs (mustP r3 [41]) := by
  unfold AgLP
  rcases h with ⟨h1, h2⟩ | ⟨h1, h2⟩
  · exact .inl ⟨h1, by unfold mustP; rw [isW_bad h2]; rfl⟩
  · rw [h2]
    unfold afterP
    rw [if_neg (by simp [hi])]
    exact ag_must (Ag.refl xs r3) [41]
/-- The result's type of the program. -/
def resN (r : PS) : Int := if isW r [123] then 0 else typN r
def resR (r : PS) : PS := if isW r [123] then r else typR r
theorem fnD_bad {r : PS} (h : r.bad = true) : (fnD r).2.bad = true := by
  show (tellS .block (typeR (tellP [] (mustW (wordR r 1 false) [40])).2)).2.bad = true
  refine tellS_bad ?_
  have h1 := tellP_bad (xs := []) (mustW_bad (wordR_bad h 1 false (by decide)) [40])
  unfold typeR
  split
  · exact h1
  · exact h1
theorem resR_bad {r : PS} (h : r.bad = true) : (resR r).bad = true := by
  unfold resR
  rw [isW_bad h]
  exact typR_bad h
theorem brace_no {r : PS} (h : isW r [123] = true) : isW r wInt = false ∧ isW r wBool = false := by
  unfold isW at h ⊢
  simp only [Bool.and_eq_true, beq_iff_eq] at h
  rw [h.2]
  constructor <;> simp [wInt, wBool]
/-- A function, behind func. -/
theorem ag_fn {r r3 r6 : PS} {xs : List Tp} {b : List Ts} (h1 : AgLP (takeR r [1]) xs r3) (h2 : Ag (tellS .block (resR (boundR r3 xs.length 4))) b r6) : Ag (fnD r) ⟨(takeW r [1]).s, xs, resN (boundR r3 xs.length 4), b⟩ r6 := by
  obtain ⟨t1, t2⟩ := takeR_word r
  have hbad : r3.bad = true → r6.bad = true := fun hb => by
    have h3 : (tellS .block (resR (boundR r3 xs.length 4))).2.bad = true := tellS_bad (resR_bad hb)
    rcases h2 with h2 | h2
    · exact h2.2
    · rw [h3] at h2; cases h2.1
  cases hb : (takeR r [1]).bad with
  | true =>
    rw [hb] at t1
    have h3 : r3.bad = true := by
      have := tellP_bad (xs := []) (mustW_bad hb [40])
      rcases h1 with h1 | h1
      · exact h1.2
      · rw [this] at h1; cases h1.1
    refine .inl ⟨?_, hbad h3⟩
    show (tellS .block (typeR (tellP [] (mustW (wordR r 1 false) [40])).2)).2.bad = true
    refine tellS_bad ?_
    have h4 := tellP_bad (xs := []) (mustW_bad t1 [40])
    unfold typeR
    split
    · exact h4
    · exact h4
  | false =>
    obtain ⟨e1, e2⟩ := t2 hb
    unfold fnD
    rw [e1, e2]
    rcases h1 with ⟨h3, h4⟩ | ⟨h3, h4, h5⟩
    · refine .inl ⟨?_, hbad h4⟩
      show (tellS .block (typeR (tellP [] (mustW (takeR r [1]) [40])).2)).2.bad = true
      refine tellS_bad ?_
      unfold typeR
      split
      · exact h3
      · exact h3
    · rw [← h5, ← h4]
      have hb3 : r3.bad = false := by rw [h5]; exact h3
      have eb : boundR r3 xs.length 4 = addB r3 (decide (4 < xs.length)) := rfl
      by_cases hi : isW r3 [123] = true
      · obtain ⟨n1, n2⟩ := brace_no hi
        have e3 : typeR r3 = r3 := by unfold typeR; simp [n1, n2]
        have e4 : typeN r3 = 0 := by unfold typeN; simp [n1, n2]
        have e5 : resR (boundR r3 xs.length 4) = addB r3 (decide (4 < xs.length)) := by
          rw [eb]; unfold resR
          rw [if_pos (show isW (addB r3 _) [123] = true from hi)]
        have e6 : resN (boundR r3 xs.length 4) = 0 := by
          rw [eb]; unfold resN
          rw [if_pos (show isW (addB r3 _) [123] = true from hi)]
        rw [e5, tellS_addB] at h2
        rw [e3, e4, e6]
        exact h2.wrap (fun b => (⟨(takeW r [1]).s, xs, 0, b⟩ : Tf))
      · have e5 : resR (boundR r3 xs.length 4) = typR (addB r3 (decide (4 < xs.length))) := by
          rw [eb]; unfold resR
          rw [if_neg (show ¬ isW (addB r3 _) [123] = true from hi)]
        have e6 : resN (boundR r3 xs.length 4) = typN r3 := by
          rw [eb]; unfold resN
          rw [if_neg (show ¬ isW (addB r3 _) [123] = true from hi)]
          rfl
        have e7 : typR (addB r3 (decide (4 < xs.length))) = addB (typR r3) (decide (4 < xs.length)) := by
          unfold typR mustP
          show (if isW r3 [105, 110, 116] then _ else if isW r3 [98, 111, 111, 108] then _ else _) = _
          split
          · rfl
          split
          · rfl
          · show failR (addB r3 _) = addB (failR r3) _
            rfl
        rw [e5, e7, tellS_addB] at h2
        rw [e6]
        by_cases hc : isW r3 wInt = true ∨ isW r3 wBool = true
        · have e8 : typeR r3 = typR r3 ∧ typeN r3 = typN r3 := by
            unfold typeR typR typeN typN mustP wInt wBool
            unfold wInt wBool at hc
            by_cases h9 : isW r3 [105, 110, 116] = true
            · simp [h9]
            · have h10 : isW r3 [98, 111, 111, 108] = true := by
                rcases hc with hc | hc
                · exact absurd hc h9
                · exact hc
              simp [h9, h10]
          rw [e8.1, e8.2]
          exact h2.wrap (fun b => (⟨(takeW r [1]).s, xs, typN r3, b⟩ : Tf))
        · have hc1 : isW r3 wInt = false := by
            cases h : isW r3 wInt with
            | false => rfl
            | true => exact absurd (.inl h) hc
          have hc2 : isW r3 wBool = false := by
            cases h : isW r3 wBool with
            | false => rfl
            | true => exact absurd (.inr h) hc
          have e9 : (typR r3).bad = true := by
            unfold typR mustP
            have hc1 : isW r3 [105, 110, 116] = false := hc1
            have hc2 : isW r3 [98, 111, 111, 108] = false := hc2
            rw [hc1, hc2]
            rfl
          have h11 := tellS_bad (j := .block) e9
          refine .inl ⟨?_, ?_⟩
          · have e10 : typeR r3 = r3 := by unfold typeR; simp [hc1, hc2]
            show (tellS .block (typeR r3)).2.bad = true
            rw [e10, tellS_block]
            have : mustW r3 [123] = badR r3 := by unfold mustW; rw [if_neg hi]
            rw [this]
            exact tellS_bad rfl
          · rcases h2 with h2 | h2
            · exact h2.2
            · have h3 := h2.1
              dsimp only [addB] at h3
              rw [h11] at h3
              cases h3
/-- Imports: what was told so far. -/
def AgIm (r : PS) (xs : List (List UInt8)) (r' : PS) : Prop := ((tellI [] r).2.bad = true ∧ r'.bad = true) ∨ (r'.bad = false ∧ tellI [] r = tellI xs r')
theorem tellI_bad {xs : List (List UInt8)} {r : PS} (h : r.bad = true) : (tellI xs r).2.bad = true := by
  rw [tellI_eq, isW_bad h]
  exact h
theorem agim_start (r : PS) : AgIm r [] r := by
  unfold AgIm
  cases hb : r.bad with
  | true => exact .inl ⟨tellI_bad hb, rfl⟩
  | false => exact .inr ⟨rfl, rfl⟩
theorem takeR_word3 (r : PS) : (wordR r 3 false).bad = (takeR r [3]).bad ∧ ((takeR r [3]).bad = false → wordR r 3 false = takeR r [3] ∧ wordS r 3 false = (takeW r [3]).s) := by
  unfold wordR takeR wordS takeW wordNo
  have e : ([3] : List Int).contains (peek r).k = ((peek r).k == 3) := by simp [List.contains, List.elem]; cases hq : ((peek r).k == 3) <;> simp_all
  rw [e]
  cases hk : ((peek r).k == 3) with
  | true =>
    have : (((peek r).k != 3) && !(false && (peek r).k == 4)) = false := by simp [bne, hk]
    rw [this]
    simp
  | false =>
    have : (((peek r).k != 3) && !(false && (peek r).k == 4)) = true := by simp [bne, hk]
    rw [this]
    simp [badR, failR]
theorem takeR_word4 (r : PS) : (wordR r 1 true).bad = (takeR r [1, 4]).bad ∧ ((takeR r [1, 4]).bad = false → wordR r 1 true = takeR r [1, 4] ∧ wordS r 1 true = (takeW r [1, 4]).s) := by
  unfold wordR takeR wordS takeW wordNo
  have e : ([1, 4] : List Int).contains (peek r).k = ((peek r).k == 1 || (peek r).k == 4) := by
    simp [List.contains, List.elem]
    cases hq : ((peek r).k == 1) <;> cases hp : ((peek r).k == 4) <;> simp_all
  rw [e]
  cases hk : ((peek r).k == 1) <;> cases hp : ((peek r).k == 4) <;> simp_all [bne, badR, failR]
theorem agim_more {r r' : PS} {xs : List (List UInt8)} (h : AgIm r xs r') (hi : isW r' wImport = true) : AgIm r (xs ++ [(takeW (tl r') [3]).s]) (mustP (takeR (tl r') [3]) [59]) := by
  have hb := (isW_pos hi).2
  rcases h with ⟨_, h2⟩ | ⟨_, h2⟩
  · rw [hb] at h2; cases h2
  · unfold AgIm
    rw [h2, tellI_eq, if_pos hi]
    obtain ⟨t1, t2⟩ := takeR_word3 (tl r')
    cases ht : (takeR (tl r') [3]).bad with
    | true =>
      rw [ht] at t1
      exact .inl ⟨tellI_bad (mustW_bad t1 _), by unfold mustP; rw [isW_bad ht]; rfl⟩
    | false =>
      obtain ⟨e1, e2⟩ := t2 ht
      rw [e1, e2]
      obtain ⟨m1, m2⟩ := mustP_mustW (takeR (tl r') [3]) [59]
      cases hm : (mustP (takeR (tl r') [3]) [59]).bad with
      | true => rw [hm] at m1; exact .inl ⟨tellI_bad m1, rfl⟩
      | false => rw [m2 hm]; exact .inr ⟨rfl, rfl⟩
theorem agim_end {r r' : PS} {xs : List (List UInt8)} (h : AgIm r xs r') (hi : isW r' wImport = false) : Ag (tellI [] r) xs r' := by
  rcases h with h | ⟨h1, h2⟩
  · exact .inl h
  · rw [h2, tellI_eq, if_neg (by simp [hi])]
    exact .inr ⟨h1, rfl, rfl⟩
/-- To the end of the words. -/
def AgE {α : Type} (p : α × PS) (t : α) (r : PS) : Prop := ((p.2.bad = true ∨ p.2.l ≠ []) ∧ r.bad = true) ∨ (p.2.bad = false ∧ p.2.l = [] ∧ t = p.1 ∧ r = p.2)
def AgFs (r : PS) (xs : List Tf) (r' : PS) : Prop := (((tellF [] r).2.bad = true ∨ (tellF [] r).2.l ≠ []) ∧ r'.bad = true) ∨ (r'.bad = false ∧ tellF [] r = tellF xs r')
theorem tellF_bad {xs : List Tf} {r : PS} (h : r.bad = true) : (tellF xs r).2.bad = true := by
  rw [tellF_eq, isW_bad h]
  exact h
theorem agfs_start (r : PS) : AgFs r [] r := by
  unfold AgFs
  cases hb : r.bad with
  | true => exact .inl ⟨.inl (tellF_bad hb), rfl⟩
  | false => exact .inr ⟨rfl, rfl⟩
theorem agfs_more {r r' r2 : PS} {xs : List Tf} {f : Tf} (h : AgFs r xs r') (hi : isW r' wFunc = true) (hf : Ag (fnD (tl r')) f r2) : AgFs r (xs ++ [f]) (mustP r2 [59]) := by
  have hb := (isW_pos hi).2
  rcases h with ⟨_, h2⟩ | ⟨_, h2⟩
  · rw [hb] at h2; cases h2
  · unfold AgFs
    rw [h2, tellF_eq, if_pos hi]
    rcases hf with ⟨h3, h4⟩ | ⟨h3, h4, h5⟩
    · exact .inl ⟨.inl (tellF_bad (mustW_bad h3 _)), by unfold mustP; rw [isW_bad h4]; rfl⟩
    · subst h5; subst h4
      obtain ⟨m1, m2⟩ := mustP_mustW (fnD (tl r')).2 [59]
      cases hm : (mustP (fnD (tl r')).2 [59]).bad with
      | true => rw [hm] at m1; exact .inl ⟨.inl (tellF_bad m1), rfl⟩
      | false => rw [m2 hm]; exact .inr ⟨rfl, rfl⟩
theorem agfs_no {r r' r2 : PS} {xs : List Tf} {f : Tf} (h : AgFs r xs r') (hb : r'.bad = false) (hl : r'.l ≠ []) (hi : isW r' wFunc = false) (hr : r2.bad = true) : AgFs r (xs ++ [f]) (mustP r2 [59]) := by
  rcases h with ⟨_, h2⟩ | ⟨_, h2⟩
  · rw [hb] at h2; cases h2
  · unfold AgFs
    rw [h2, tellF_eq, if_neg (by simp [hi])]
    exact .inl ⟨.inr hl, by unfold mustP; rw [isW_bad hr]; rfl⟩
theorem agfs_end {r r' : PS} {xs : List Tf} (h : AgFs r xs r') (hl : r'.l = []) : AgE (tellF [] r) xs r' := by
  have hi : isW r' wFunc = false := by
    cases h : isW r' wFunc with
    | false => rfl
    | true => have := (isW_pos h).1; rw [hl] at this; simp at this
  rcases h with h | ⟨h1, h2⟩
  · exact .inl h
  · rw [h2, tellF_eq, if_neg (by simp [hi])]
    exact .inr ⟨h1, hl, rfl, rfl⟩
/-- A file's head. -/
theorem ag_head (r : PS) : Ag (headS r, headR r) (takeW (mustP r wPackage) [1, 4]).s (mustP (takeR (mustP r wPackage) [1, 4]) [59]) := by
  unfold headS headR
  obtain ⟨m1, m2⟩ := mustP_mustW r wPackage
  cases hm : (mustP r wPackage).bad with
  | true =>
    rw [hm] at m1
    have ht : takeR (mustP r wPackage) [1, 4] = failR (mustP r wPackage) := by unfold takeR; rw [peek_bad hm]; rfl
    refine .inl ⟨mustW_bad (wordR_bad m1 1 true (by decide)) _, ?_⟩
    rw [ht]
    rfl
  | false =>
    rw [m2 hm]
    obtain ⟨t1, t2⟩ := takeR_word4 (mustP r wPackage)
    cases ht : (takeR (mustP r wPackage) [1, 4]).bad with
    | true =>
      rw [ht] at t1
      exact .inl ⟨mustW_bad t1 _, mustP_bad ht⟩
    | false =>
      obtain ⟨e1, e2⟩ := t2 ht
      rw [e1, e2]
      exact ag_must (Ag.refl (takeW (mustP r wPackage) [1, 4]).s (takeR (mustP r wPackage) [1, 4])) [59]
/-- A file. -/
theorem ag_file {r r3 r4 r5 : PS} {s : List UInt8} {is : List (List UInt8)} {fs : List Tf} (h1 : Ag (headS r, headR r) s r3) (h2 : Ag (tellI [] r3) is r4) (h3 : AgE (tellF [] r4) fs r5) : AgE (fileD r) ⟨s, is, fs⟩ (boundR (boundR r5 is.length 8) fs.length 32) := by
  have hb5 : r4.bad = true → r5.bad = true := fun h => by
    have := tellF_bad (xs := []) h
    rcases h3 with h3 | h3
    · exact h3.2
    · rw [this] at h3; cases h3.1
  have hb4 : r3.bad = true → r4.bad = true := fun h => by
    have := tellI_bad (xs := []) h
    rcases h2 with h2 | h2
    · exact h2.2
    · rw [this] at h2; cases h2.1
  unfold AgE fileD
  rcases h1 with ⟨h4, h5⟩ | ⟨h4, h5, h6⟩
  · exact .inl ⟨.inl (tellF_bad (tellI_bad h4)), hb5 (hb4 h5)⟩
  · dsimp only at h4 h5 h6
    rw [← h5, ← h6]
    rcases h2 with ⟨h7, h8⟩ | ⟨h7, h8, h9⟩
    · exact .inl ⟨.inl (tellF_bad h7), hb5 h8⟩
    · rw [← h8, ← h9]
      rcases h3 with ⟨h10, h11⟩ | ⟨h10, h11, h12, h13⟩
      · exact .inl ⟨h10, h11⟩
      · refine .inr ⟨h10, h11, by rw [h12], ?_⟩
        rw [h13, h12]
        unfold boundR
        simp [Bool.or_assoc]
end Go.Proofs.YtlhbhpdpjidpgaaGreatDoor.Prg
