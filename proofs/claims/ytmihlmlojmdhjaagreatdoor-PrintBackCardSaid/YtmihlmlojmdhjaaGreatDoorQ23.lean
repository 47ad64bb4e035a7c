/-
  What the program's parser tells against the plain grammar: functions, files. No condition.
-/
import Derived.Test.YtmihlmlojmdhjaaGreatDoorQ14
import Derived.Test.YtmihlmlojmdhjaaGreatDoorQ18
import Derived.Test.YtmihlmlojmdhjaaGreatDoorQ22
namespace Go.Proofs.YtmihlmlojmdhjaaGreatDoor.Prg
open Tre Prs
set_option maxRecDepth 100000
/-- Something is too many. -/
def addB (r : PS) (B : Bool) : PS := ⟨r.l, r.bad, r.big || B⟩
theorem mustW_addB (r : PS) (B : Bool) (s : List UInt8) : mustW (addB r B) s = addB (mustW r s) B := by
  unfold mustW
  show (if isW r s then _ else _) = _
  split <;> rfl
theorem wordR_addB (r : PS) (B : Bool) (k : Int) (key : Bool) : wordR (addB r B) k key = addB (wordR r k key) B := by
  unfold wordR
  show (if wordNo r k key then _ else _) = _
  split <;> rfl
theorem callEnd_addB (q s : List UInt8) (x : List Tx) (r : PS) (B : Bool) : callEnd q s x (addB r B) = ((callEnd q s x r).1, addB (callEnd q s x r).2 B) := by
  unfold callEnd
  rw [mustW_addB]
  unfold addB
  simp [Bool.or_comm, Bool.or_left_comm]
theorem run_addB (B : Bool) : ∀ (n : Nat) (j : Job) (r : PS), run n j (addB r B) = ((run n j r).1, addB (run n j r).2 B)
  | 0, _, _ => rfl
  | n + 1, .row k, r => by
    unfold run
    split
    · exact run_addB B n _ _
    · rw [run_addB B n (.row (k + 1)) r]
      exact run_addB B n _ _
  | n + 1, .rest k x, r => by
    unfold run
    show (if r.bad then _ else _) = _
    split
    · rfl
    · have e : (level k).find? (fun p => isW (addB r B) p.1) = (level k).find? (fun p => isW r p.1) := rfl
      rw [e]
      cases hf : (level k).find? (fun p => isW r p.1) with
      | none => rfl
      | some p =>
        dsimp only
        have e2 : tl (addB r B) = addB (tl r) B := rfl
        rw [e2, run_addB B n (.row (k + 1)) (tl r)]
        exact run_addB B n _ _
  | n + 1, .unary, r => by
    have e2 : tl (addB r B) = addB (tl r) B := rfl
    have ew : wordS (addB r B) 1 false = wordS r 1 false := rfl
    unfold run
    rw [e2, wordR_addB, ew, run_addB B n .unary (tl r), run_addB B n (.row 0) (tl r)]
    dsimp only
    rw [mustW_addB]
    show (if isW r [45] then _ else if isW r [33] then _ else if isW r [116, 114, 117, 101] then _ else if isW r [102, 97, 108, 115, 101] then _ else if isW r [40] then _ else if (peek r).k == 2 then _ else if isW (wordR r 1 false) [40] || isW (wordR r 1 false) [46] then _ else _) = _
    split
    · rfl
    split
    · rfl
    split
    · rfl
    split
    · rfl
    split
    · rfl
    split
    · rfl
    split
    · exact run_addB B n _ _
    · rfl
  | n + 1, .call s, r => by
    have e2 : tl (addB r B) = addB (tl r) B := rfl
    have ew : wordS (addB (tl r) B) 1 false = wordS (tl r) 1 false := rfl
    unfold run
    rw [e2, wordR_addB, mustW_addB, mustW_addB, ew]
    show (if isW r [46] then _ else _) = _
    split
    · exact run_addB B n _ _
    · exact run_addB B n _ _
  | n + 1, .args q s x, r => by
    unfold run
    rw [run_addB B n (.row 0) r]
    dsimp only
    show (if r.bad || isW r [41] then _ else if isW (run n (.row 0) r).2 [44] then (if isW (tl (run n (.row 0) r).2) [41] then _ else _) else _) = _
    split
    · exact callEnd_addB _ _ _ _ _
    split
    · split
      · exact callEnd_addB _ _ _ (badR (tl (run n (.row 0) r).2)) _
      · exact run_addB B n _ (tl (run n (.row 0) r).2)
    · exact callEnd_addB _ _ _ _ _
theorem enough_addB (j : Job) (r : PS) (B : Bool) : enough j (addB r B) = enough j r := by cases j <;> rfl
theorem tell_addB (j : Job) (r : PS) (B : Bool) : tell j (addB r B) = ((tell j r).1, addB (tell j r).2 B) := by
  unfold tell
  rw [enough_addB]
  exact run_addB B _ _ _
theorem forX_addB (r : PS) (B : Bool) : forX (addB r B) = ((forX r).1, addB (forX r).2 B) := by
  unfold forX
  rw [tell_addB]
  show (if isW r [123] then _ else _) = _
  split <;> rfl
theorem retS_addB (r : PS) (B : Bool) : retS (addB r B) = ((retS r).1, addB (retS r).2 B) := by
  unfold retS
  rw [tell_addB]
  show (if !isW r [59] && !isW r [125] then _ else _) = _
  split <;> rfl
theorem prtS_addB (r : PS) (B : Bool) : prtS (addB r B) = ((prtS r).1, addB (prtS r).2 B) := by
  unfold prtS
  rw [mustW_addB, tell_addB]
  dsimp only
  rw [mustW_addB]
  rfl
theorem nameS_addB (s : List UInt8) (r : PS) (B : Bool) : nameS s (addB r B) = ((nameS s r).1, addB (nameS s r).2 B) := by
  have e2 : tl (addB r B) = addB (tl r) B := rfl
  unfold nameS
  rw [e2, tell_addB, tell_addB]
  show (if isW r [58, 61] then _ else if isW r [61] then _ else _) = _
  split
  · rfl
  split <;> rfl
theorem runS_addB (B : Bool) : ∀ (n : Nat) (j : SJob) (r : PS), runS n j (addB r B) = ((runS n j r).1, addB (runS n j r).2 B)
  | 0, _, _ => rfl
  | n + 1, .block, r => by
    unfold runS
    rw [mustW_addB]
    exact runS_addB B n _ _
  | n + 1, .loop l, r => by
    unfold runS
    rw [runS_addB B n .stmt r]
    dsimp only
    rw [mustW_addB, mustW_addB]
    show (if r.bad || isW r [125] then _ else if isW (runS n .stmt r).2 [59] then _ else _) = _
    split
    · rfl
    split
    · exact runS_addB B n _ (tl (runS n .stmt r).2)
    · rfl
  | n + 1, .when, r => by
    unfold runS
    rw [tell_addB]
    dsimp only
    rw [runS_addB B n .block (tell (.row 0) r).2]
    dsimp only
    have e2 : ∀ q : PS, tl (addB q B) = addB (tl q) B := fun _ => rfl
    rw [e2, e2, runS_addB B n .when, runS_addB B n .block]
    show (if isW (runS n .block (tell (.row 0) r).2).2 wElse then (if isW (tl (runS n .block (tell (.row 0) r).2).2) wIf then _ else _) else _) = _
    split
    · split <;> rfl
    · rfl
  | n + 1, .stmt, r => by
    have e2 : tl (addB r B) = addB (tl r) B := rfl
    have ew : wordS (addB r B) 1 false = wordS r 1 false := rfl
    unfold runS
    rw [e2, wordR_addB, ew, forX_addB, retS_addB, prtS_addB, nameS_addB, runS_addB B n .when]
    dsimp only
    rw [runS_addB B n .block]
    show (if isW r wIf then _ else if isW r wFor then _ else if isW r wReturn then _ else if isW r wPrint then _ else if isW r wBreak then _ else if isW r wNext then _ else _) = _
    split
    · rfl
    split
    · rfl
    split
    · rfl
    split
    · rfl
    split
    · rfl
    split <;> rfl
theorem enoughS_addB (j : SJob) (r : PS) (B : Bool) : enoughS j (addB r B) = enoughS j r := by cases j <;> rfl
theorem tellS_addB (j : SJob) (r : PS) (B : Bool) : tellS j (addB r B) = ((tellS j r).1, addB (tellS j r).2 B) := by
  unfold tellS
  rw [enoughS_addB]
  exact runS_addB B _ _ _
theorem mustP_bad {r : PS} {s : List UInt8} (h : r.bad = true) : (mustP r s).bad = true := by
  unfold mustP
  rw [isW_bad h]
  rfl
theorem typR_bad {r : PS} (h : r.bad = true) : (typR r).bad = true := by
  unfold typR mustP
  rw [isW_bad h, isW_bad h]
  rfl
theorem ag_typ (r : PS) : Ag (typeN r, typeMust r) (typN r) (typR r) := by
  unfold typeMust typeN typeR typN typR mustP wInt wBool
  by_cases h1 : isW r [105, 110, 116] = true
  · simp only [h1, if_true, Bool.true_or]
    exact Ag.refl _ _
  · by_cases h2 : isW r [98, 111, 111, 108] = true
    · simp only [h1, h2, if_false, if_true, Bool.or_true, Bool.false_eq_true]
      exact Ag.refl _ _
    · simp only [h1, h2, if_false, Bool.or_self, Bool.false_eq_true]
      exact .inl ⟨rfl, rfl⟩
def parT (r : PS) : Tp := ⟨(takeW r [1]).s, typN (takeR r [1])⟩
def parR (r : PS) : PS := typR (takeR r [1])
theorem typeMust_bad {r : PS} (h : r.bad = true) : (typeMust r).bad = true := by
  unfold typeMust typeR
  split
  · rfl
  · split
    · exact h
    · exact h
theorem ag_par1 (r : PS) : Ag ((⟨wordS r 1 false, typeN (wordR r 1 false)⟩ : Tp), typeMust (wordR r 1 false)) (parT r) (parR r) := by
  obtain ⟨h1, h2⟩ := takeR_word r
  unfold parT parR
  cases hb : (takeR r [1]).bad with
  | true =>
    rw [hb] at h1
    exact .inl ⟨typeMust_bad h1, typR_bad hb⟩
  | false =>
    obtain ⟨e1, e2⟩ := h2 hb
    rw [e1, e2]
    exact (ag_typ (takeR r [1])).wrap (fun t => (⟨(takeW r [1]).s, t⟩ : Tp))
theorem par_close {r : PS} (hi : isW r [41] = true) : (parR r).bad = true := by
  have hk : (peek r).k = 5 ∨ (peek r).k = 4 := by
    unfold isW at hi
    simp only [Bool.and_eq_true, Bool.or_eq_true, beq_iff_eq] at hi
    exact hi.1
  have ht : takeR r [1] = failR r := by
    unfold takeR
    rw [if_neg]
    rcases hk with e | e <;> rw [e] <;> decide
  unfold parR
  rw [ht]
  exact typR_bad rfl
theorem tellP_bad {xs : List Tp} {r : PS} (h : r.bad = true) : (tellP xs r).2.bad = true := by
  rw [tellP_eq, if_pos (by simp [h])]
  exact mustW_bad h _
/-- Parameters in brackets. -/
def AgLP (r : PS) (xs : List Tp) (r' : PS) : Prop := Ag (tellP [] (mustW r [40])) xs r'
def afterP (xs : List Tp) (r : PS) : List Tp × PS :=
  if isW r [44] then (if isW (tl r) [41] then (xs, mustW (badR (tl r)) [41]) else tellP xs (tl r)) else (xs, mustW r [41])
def AgIP (r : PS) (xs : List Tp) (r' : PS) : Prop := ((tellP [] (mustW r [40])).2.bad = true ∧ r'.bad = true) ∨ (r'.bad = false ∧ tellP [] (mustW r [40]) = afterP xs r')
theorem afterP_bad {xs : List Tp} {r : PS} (h : r.bad = true) : (afterP xs r).2.bad = true := by
  unfold afterP
  rw [isW_bad h]
  exact mustW_bad h _
theorem agp_none {r : PS} (hi : isW (mustP r [40]) [41] = true) : AgLP r [] (tl (mustP r [40])) := by
  obtain ⟨h1, h2⟩ := mustP_mustW r [40]
  have hb := (isW_pos hi).2
  refine .inr ⟨?_, ?_, ?_⟩ <;> rw [h2 hb, tellP_eq, if_pos (by simp [hi])] <;> simp only [mustW, hi, if_true]
  exact hb
theorem par_step {r : PS} {xs : List Tp} (hb : r.bad = false) (hi : isW r [41] = false) : ((tellP xs r).2.bad = true ∧ (parR r).bad = true) ∨ ((parR r).bad = false ∧ tellP xs r = afterP (xs ++ [parT r]) (parR r)) := by
  have e : tellP xs r = afterP (xs ++ [⟨wordS r 1 false, typeN (wordR r 1 false)⟩]) (typeMust (wordR r 1 false)) := by
    rw [tellP_eq, if_neg (by simp [hb, hi])]
    rfl
  rw [e]
  rcases ag_par1 r with ⟨h1, h2⟩ | ⟨h1, h2, h3⟩
  · exact .inl ⟨afterP_bad h1, h2⟩
  · dsimp only at h1 h2 h3
    rw [← h2, ← h3]
    exact .inr ⟨by rw [h3]; exact h1, rfl⟩
theorem agp_one {r : PS} (hi : isW (mustP r [40]) [41] = false) : AgIP r [parT (mustP r [40])] (parR (mustP r [40])) := by
  obtain ⟨h1, h2⟩ := mustP_mustW r [40]
  unfold AgIP
  cases hb : (mustP r [40]).bad with
  | true =>
    rw [hb] at h1
    refine .inl ⟨tellP_bad h1, ?_⟩
    unfold parR takeR
    rw [peek_bad hb]
    exact typR_bad rfl
  | false =>
    rw [h2 hb]
    exact par_step (xs := []) hb hi
theorem agp_more {r r3 : PS} {xs : List Tp} (h : AgIP r xs r3) (hi : isW r3 [44] = true) : AgIP r (xs ++ [parT (tl r3)]) (parR (tl r3)) := by
  have hb := (isW_pos hi).2
  rcases h with ⟨_, h2⟩ | ⟨_, h2⟩
  · rw [hb] at h2; cases h2
  · unfold AgIP
    rw [h2]
    unfold afterP
    rw [if_pos hi]
    by_cases hc : isW (tl r3) [41] = true
    · rw [if_pos hc]
      exact .inl ⟨mustW_bad rfl _, par_close hc⟩
    · rw [if_neg hc]
      exact par_step hb (by simpa using hc)
theorem agp_end {r r3 : PS} {xs : List Tp} (h : AgIP r xs r3) (hi : isW r3 [44] = false) : AgLP r xs (mustP r3 [41]) := by
  unfold AgLP
  rcases h with ⟨h1, h2⟩ | ⟨h1, h2⟩
  · exact .inl ⟨h1, by unfold mustP; rw [isW_bad h2]; rfl⟩
  · rw [h2]
    unfold afterP
    rw [if_neg (by simp [hi])]
    exact ag_must (Ag.refl xs r3) [41]
/-- The result's type of the program. -/
def resN (r : PS) : Int := if isW r [123] then 0 else typN r
def resR (r : PS) : PS := if isW r [123] then r else typR r
theorem fnD_bad {r : PS} (h : r.bad = true) : (fnD r).2.bad = true := by
  show (tellS .block (typeR (tellP [] (mustW (wordR r 1 false) [40])).2)).2.bad = true
  refine tellS_bad ?_
  have h1 := tellP_bad (xs := []) (mustW_bad (wordR_bad h 1 false (by decide)) [40])
  unfold typeR
  split
  · exact h1
  · exact h1
theorem resR_bad {r : PS} (h : r.bad = true) : (resR r).bad = true := by
  unfold resR
  rw [isW_bad h]
  exact typR_bad h
theorem brace_no {r : PS} (h : isW r [123] = true) : isW r wInt = false ∧ isW r wBool = false := by
  unfold isW at h ⊢
  simp only [Bool.and_eq_true, beq_iff_eq] at h
  rw [h.2]
  constructor <;> simp [wInt, wBool]
/-- A function, behind func. -/
theorem ag_fn {r r3 r6 : PS} {xs : List Tp} {b : List Ts} (h1 : AgLP (takeR r [1]) xs r3) (h2 : Ag (tellS .block (resR (boundR r3 xs.length 4))) b r6) : Ag (fnD r) ⟨(takeW r [1]).s, xs, resN (boundR r3 xs.length 4), b⟩ r6 := by
  obtain ⟨t1, t2⟩ := takeR_word r
  have hbad : r3.bad = true → r6.bad = true := fun hb => by
    have h3 : (tellS .block (resR (boundR r3 xs.length 4))).2.bad = true := tellS_bad (resR_bad hb)
    rcases h2 with h2 | h2
    · exact h2.2
    · rw [h3] at h2; cases h2.1
  cases hb : (takeR r [1]).bad with
  | true =>
    rw [hb] at t1
    have h3 : r3.bad = true := by
      have := tellP_bad (xs := []) (mustW_bad hb [40])
      rcases h1 with h1 | h1
      · exact h1.2
      · rw [this] at h1; cases h1.1
    refine .inl ⟨?_, hbad h3⟩
    show (tellS .block (typeR (tellP [] (mustW (wordR r 1 false) [40])).2)).2.bad = true
    refine tellS_bad ?_
    have h4 := tellP_bad (xs := []) (mustW_bad t1 [40])
    unfold typeR
    split
    · exact h4
    · exact h4
  | false =>
    obtain ⟨e1, e2⟩ := t2 hb
    unfold fnD
    rw [e1, e2]
    rcases h1 with ⟨h3, h4⟩ | ⟨h3, h4, h5⟩
    · refine .inl ⟨?_, hbad h4⟩
      show (tellS .block (typeR (tellP [] (mustW (takeR r [1]) [40])).2)).2.bad = true
      refine tellS_bad ?_
      unfold typeR
      split
      · exact h3
      · exact h3
    · rw [← h5, ← h4]
      have hb3 : r3.bad = false := by rw [h5]; exact h3
      have eb : boundR r3 xs.length 4 = addB r3 (decide (4 < xs.length)) := rfl
      by_cases hi : isW r3 [123] = true
      · obtain ⟨n1, n2⟩ := brace_no hi
        have e3 : typeR r3 = r3 := by unfold typeR; simp [n1, n2]
        have e4 : typeN r3 = 0 := by unfold typeN; simp [n1, n2]
        have e5 : resR (boundR r3 xs.length 4) = addB r3 (decide (4 < xs.length)) := by
          rw [eb]; unfold resR
          rw [if_pos (show isW (addB r3 _) [123] = true from hi)]
        have e6 : resN (boundR r3 xs.length 4) = 0 := by
          rw [eb]; unfold resN
          rw [if_pos (show isW (addB r3 _) [123] = true from hi)]
        rw [e5, tellS_addB] at h2
        rw [e3, e4, e6]
        exact h2.wrap (fun b => (⟨(takeW r [1]).s, xs, 0, b⟩ : Tf))
      · have e5 : resR (boundR r3 xs.length 4) = typR (addB r3 (decide (4 < xs.length))) := by
          rw [eb]; unfold resR
          rw [if_neg (show ¬ isW (addB r3 _) [123] = true from hi)]
        have e6 : resN (boundR r3 xs.length 4) = typN r3 := by
          rw [eb]; unfold resN
          rw [if_neg (show ¬ isW (addB r3 _) [123] = true from hi)]
          rfl
        have e7 : typR (addB r3 (decide (4 < xs.length))) = addB (typR r3) (decide (4 < xs.length)) := by
          unfold typR mustP
          show (if isW r3 [105, 110, 116] then _ else if isW r3 [98, 111, 111, 108] then _ else _) = _
          split
          · rfl
          split
          · rfl
          · show failR (addB r3 _) = addB (failR r3) _
            rfl
        rw [e5, e7, tellS_addB] at h2
        rw [e6]
        by_cases hc : isW r3 wInt = true ∨ isW r3 wBool = true
        · have e8 : typeR r3 = typR r3 ∧ typeN r3 = typN r3 := by
            unfold typeR typR typeN typN mustP wInt wBool
            unfold wInt wBool at hc
            by_cases h9 : isW r3 [105, 110, 116] = true
            · simp [h9]
            · have h10 : isW r3 [98, 111, 111, 108] = true := by
                rcases hc with hc | hc
                · exact absurd hc h9
                · exact hc
              simp [h9, h10]
          rw [e8.1, e8.2]
          exact h2.wrap (fun b => (⟨(takeW r [1]).s, xs, typN r3, b⟩ : Tf))
        · have hc1 : isW r3 wInt = false := by
            cases h : isW r3 wInt with
            | false => rfl
            | true => exact absurd (.inl h) hc
          have hc2 : isW r3 wBool = false := by
            cases h : isW r3 wBool with
            | false => rfl
            | true => exact absurd (.inr h) hc
          have e9 : (typR r3).bad = true := by
            unfold typR mustP
            have hc1 : isW r3 [105, 110, 116] = false := hc1
            have hc2 : isW r3 [98, 111, 111, 108] = false := hc2
            rw [hc1, hc2]
            rfl
          have h11 := tellS_bad (j := .block) e9
          refine .inl ⟨?_, ?_⟩
          · have e10 : typeR r3 = r3 := by unfold typeR; simp [hc1, hc2]
            show (tellS .block (typeR r3)).2.bad = true
            rw [e10, tellS_block]
            have : mustW r3 [123] = badR r3 := by unfold mustW; rw [if_neg hi]
            rw [this]
            exact tellS_bad rfl
          · rcases h2 with h2 | h2
            · exact h2.2
            · have h3 := h2.1
              dsimp only [addB] at h3
              rw [h11] at h3
              cases h3
/-- Imports: what was told so far. -/
def AgIm (r : PS) (xs : List (List UInt8)) (r' : PS) : Prop := ((tellI [] r).2.bad = true ∧ r'.bad = true) ∨ (r'.bad = false ∧ tellI [] r = tellI xs r')
theorem tellI_bad {xs : List (List UInt8)} {r : PS} (h : r.bad = true) : (tellI xs r).2.bad = true := by
  rw [tellI_eq, isW_bad h]
  exact h
theorem agim_start (r : PS) : AgIm r [] r := by
  unfold AgIm
  cases hb : r.bad with
  | true => exact .inl ⟨tellI_bad hb, rfl⟩
  | false => exact .inr ⟨rfl, rfl⟩
theorem takeR_word3 (r : PS) : (wordR r 3 false).bad = (takeR r [3]).bad ∧ ((takeR r [3]).bad = false → wordR r 3 false = takeR r [3] ∧ wordS r 3 false = (takeW r [3]).s) := by
  unfold wordR takeR wordS takeW wordNo
  have e : ([3] : List Int).contains (peek r).k = ((peek r).k == 3) := by simp [List.contains, List.elem]; cases hq : ((peek r).k == 3) <;> simp_all
  rw [e]
  cases hk : ((peek r).k == 3) with
  | true =>
    have : (((peek r).k != 3) && !(false && (peek r).k == 4)) = false := by simp [bne, hk]
    rw [this]
    simp
  | false =>
    have : (((peek r).k != 3) && !(false && (peek r).k == 4)) = true := by simp [bne, hk]
    rw [this]
    simp [badR, failR]
theorem takeR_word4 (r : PS) : (wordR r 1 true).bad = (takeR r [1, 4]).bad ∧ ((takeR r [1, 4]).bad = false → wordR r 1 true = takeR r [1, 4] ∧ wordS r 1 true = (takeW r [1, 4]).s) := by
  unfold wordR takeR wordS takeW wordNo
  have e : ([1, 4] : List Int).contains (peek r).k = ((peek r).k == 1 || (peek r).k == 4) := by
    simp [List.contains, List.elem]
    cases hq : ((peek r).k == 1) <;> cases hp : ((peek r).k == 4) <;> simp_all
  rw [e]
  cases hk : ((peek r).k == 1) <;> cases hp : ((peek r).k == 4) <;> simp_all [bne, badR, failR]
theorem agim_more {r r' : PS} {xs : List (List UInt8)} (h : AgIm r xs r') (hi : isW r' wImport = true) : AgIm r (xs ++ [(takeW (tl r') [3]).s]) (mustP (takeR (tl r') [3]) [59]) := by
  have hb := (isW_pos hi).2
  rcases h with ⟨_, h2⟩ | ⟨_, h2⟩
  · rw [hb] at h2; cases h2
  · unfold AgIm
    rw [h2, tellI_eq, if_pos hi]
    obtain ⟨t1, t2⟩ := takeR_word3 (tl r')
    cases ht : (takeR (tl r') [3]).bad with
    | true =>
      rw [ht] at t1
      exact .inl ⟨tellI_bad (mustW_bad t1 _), by unfold mustP; rw [isW_bad ht]; rfl⟩
    | false =>
      obtain ⟨e1, e2⟩ := t2 ht
      rw [e1, e2]
      obtain ⟨m1, m2⟩ := mustP_mustW (takeR (tl r') [3]) [59]
      cases hm : (mustP (takeR (tl r') [3]) [59]).bad with
      | true => rw [hm] at m1; exact .inl ⟨tellI_bad m1, rfl⟩
      | false => rw [m2 hm]; exact .inr ⟨rfl, rfl⟩
theorem agim_end {r r' : PS} {xs : List (List UInt8)} (h : AgIm r xs r') (hi : isW r' wImport = false) : Ag (tellI [] r) xs r' := by
  rcases h with h | ⟨h1, h2⟩
  · exact .inl h
  · rw [h2, tellI_eq, if_neg (by simp [hi])]
    exact .inr ⟨h1, rfl, rfl⟩
/-- To the end of the words. -/
def AgE {α : Type} (p : α × PS) (t : α) (r : PS) : Prop := ((p.2.bad = true ∨ p.2.l ≠ []) ∧ r.bad = true) ∨ (p.2.bad = false ∧ p.2.l = [] ∧ t = p.1 ∧ r = p.2)
def AgFs (r : PS) (xs : List Tf) (r' : PS) : Prop := (((tellF [] r).2.bad = true ∨ (tellF [] r).2.l ≠ []) ∧ r'.bad = true) ∨ (r'.bad = false ∧ tellF [] r = tellF xs r')
theorem tellF_bad {xs : List Tf} {r : PS} (h : r.bad = true) : (tellF xs r).2.bad = true := by
  rw [tellF_eq, isW_bad h]
  exact h
theorem agfs_start (r : PS) : AgFs r [] r := by
  unfold AgFs
  cases hb : r.bad with
  | true => exact .inl ⟨.inl (tellF_bad hb), rfl⟩
  | false => exact .inr ⟨rfl, rfl⟩
theorem agfs_more {r r' r2 : PS} {xs : List Tf} {f : Tf} (h : AgFs r xs r') (hi : isW r' wFunc = true) (hf : Ag (fnD (tl r')) f r2) : AgFs r (xs ++ [f]) (mustP r2 [59]) := by
  have hb := (isW_pos hi).2
  rcases h with ⟨_, h2⟩ | ⟨_, h2⟩
  · rw [hb] at h2; cases h2
  · unfold AgFs
    rw [h2, tellF_eq, if_pos hi]
    rcases hf with ⟨h3, h4⟩ | ⟨h3, h4, h5⟩
    · exact .inl ⟨.inl (tellF_bad (mustW_bad h3 _)), by unfold mustP; rw [isW_bad h4]; rfl⟩
    · subst h5; subst h4
      obtain ⟨m1, m2⟩ := mustP_mustW (fnD (tl r')).2 [59]
      cases hm : (mustP (fnD (tl r')).2 [59]).bad with
      | true => rw [hm] at m1; exact .inl ⟨.inl (tellF_bad m1), rfl⟩
      | false => rw [m2 hm]; exact .inr ⟨rfl, rfl⟩
theorem agfs_no {r r' r2 : PS} {xs : List Tf} {f : Tf} (h : AgFs r xs r') (hb : r'.bad = false) (hl : r'.l ≠ []) (hi : isW r' wFunc = false) (hr : r2.bad = true) : AgFs r (xs ++ [f]) (mustP r2 [59]) := by
  rcases h with ⟨_, h2⟩ | ⟨_, h2⟩
  · rw [hb] at h2; cases h2
  · unfold AgFs
    rw [h2, tellF_eq, if_neg (by simp [hi])]
    exact .inl ⟨.inr hl, by unfold mustP; rw [isW_bad hr]; rfl⟩
theorem agfs_end {r r' : PS} {xs : List Tf} (h : AgFs r xs r') (hl : r'.l = []) : AgE (tellF [] r) xs r' := by
  have hi : isW r' wFunc = false := by
    cases h : isW r' wFunc with
    | false => rfl
    | true => have := (isW_pos h).1; rw [hl] at this; simp at this
  rcases h with h | ⟨h1, h2⟩
  · exact .inl h
  · rw [h2, tellF_eq, if_neg (by simp [hi])]
    exact .inr ⟨h1, hl, rfl, rfl⟩
/-- A file's head. -/
theorem ag_head (r : PS) : Ag (headS r, headR r) (takeW (mustP r wPackage) [1, 4]).s (mustP (takeR (mustP r wPackage) [1, 4]) [59]) := by
  unfold headS headR
  obtain ⟨m1, m2⟩ := mustP_mustW r wPackage
  cases hm : (mustP r wPackage).bad with
  | true =>
    rw [hm] at m1
    have ht : takeR (mustP r wPackage) [1, 4] = failR (mustP r wPackage) := by unfold takeR; rw [peek_bad hm]; rfl
    refine .inl ⟨mustW_bad (wordR_bad m1 1 true (by decide)) _, ?_⟩
    rw [ht]
    rfl
  | false =>
    rw [m2 hm]
    obtain ⟨t1, t2⟩ := takeR_word4 (mustP r wPackage)
    cases ht : (takeR (mustP r wPackage) [1, 4]).bad with
    | true =>
      rw [ht] at t1
      exact .inl ⟨mustW_bad t1 _, mustP_bad ht⟩
    | false =>
      obtain ⟨e1, e2⟩ := t2 ht
      rw [e1, e2]
      exact ag_must (Ag.refl (takeW (mustP r wPackage) [1, 4]).s (takeR (mustP r wPackage) [1, 4])) [59]
/-- A file. -/
theorem ag_file {r r3 r4 r5 : PS} {s : List UInt8} {is : List (List UInt8)} {fs : List Tf} (h1 : Ag (headS r, headR r) s r3) (h2 : Ag (tellI [] r3) is r4) (h3 : AgE (tellF [] r4) fs r5) : AgE (fileD r) ⟨s, is, fs⟩ (boundR (boundR r5 is.length 8) fs.length 32) := by
  have hb5 : r4.bad = true → r5.bad = true := fun h => by
    have := tellF_bad (xs := []) h
    rcases h3 with h3 | h3
    · exact h3.2
    · rw [this] at h3; cases h3.1
  have hb4 : r3.bad = true → r4.bad = true := fun h => by
    have := tellI_bad (xs := []) h
    rcases h2 with h2 | h2
    · exact h2.2
    · rw [this] at h2; cases h2.1
  unfold AgE fileD
  rcases h1 with ⟨h4, h5⟩ | ⟨h4, h5, h6⟩
  · exact .inl ⟨.inl (tellF_bad (tellI_bad h4)), hb5 (hb4 h5)⟩
  · dsimp only at h4 h5 h6
    rw [← h5, ← h6]
    rcases h2 with ⟨h7, h8⟩ | ⟨h7, h8, h9⟩
    · exact .inl ⟨.inl (tellF_bad h7), hb5 h8⟩
    · rw [← h8, ← h9]
      rcases h3 with ⟨h10, h11⟩ | ⟨h10, h11, h12, h13⟩
      · exact .inl ⟨h10, h11⟩
      · refine .inr ⟨h10, h11, by rw [h12], ?_⟩
        rw [h13, h12]
        unfold boundR
        simp [Bool.or_assoc]
end Go.Proofs.YtmihlmlojmdhjaaGreatDoor.Prg
/- The program's parameters. Condition: the reader is known. -/
namespace Go.Proofs.YtmihlmlojmdhjaaGreatDoor.Prg
open Go.RowKit Tre Prs
open Lex (Wd wdC wdV bs str Turn)
set_option maxRecDepth 100000
set_option linter.unusedSimpArgs false
variable {lo : Nat}
def parCT (t : Tp) : List Value := [.string (bs t.s), .int .u8 t.t]
theorem parCT_len (t : Tp) : (parCT t).length = 2 := rfl
theorem parCT_one (t : Tp) : ∀ u ∈ parCT t, u.oneCell' = true := fun u hu => by
  simp only [parCT, List.mem_cons, List.not_mem_nil, or_false] at hu
  rcases hu with rfl | rfl <;> rfl
theorem infoP : (Tryz.prog.info? 38).map (fun i => (i.zero, i.size, i.bytes)) = some (some (.agg #[.string ⟨#[]⟩, .int .u8 0]), 2, 24) := by kernel_rfl
theorem app_par (w : World) (b0 : Nat) (v : Value) (l : List Tp) (x : Tp) (eb : Nat) (h : OwnG 2 parCT 38 w b0 v l) (he : w.heap[eb]? = some (.cells #[.string (bs x.s), .int .u8 x.t] 38 (0, 0))) (hl : l.length ≤ 1000000) (hlo : b0 ≤ w.heap.size) :
    ∃ v2 w2, (∀ ty, (Builtin.append_ #[32, 32] ty #[v, .slice (some ⟨eb, 0, none⟩) 1 1]).run Tryz.prog w = .ok v2 w2) ∧ OwnG 2 parCT 38 w2 b0 v2 (l ++ [x]) ∧ w.grownBy w2 v.ownBlock ∧ (v2.ownBlock = v.ownBlock ∨ v2.ownBlock = some w.heap.size) := by
  obtain ⟨i0, hi0, hz0, hz1, hz2⟩ := Lex.info_of infoP
  exact OwnG.app Tryz.underlying32 hi0 hz0 hz1 hz2 rfl (by decide) parCT_len parCT_one w v l x eb h he hl (by decide) hlo
theorem results_par {fn : Func} {p : Tmp} (h : fn.results = #[.cell p 38]) (tmps : Array Value) (w : World) (g : Nat) (v0 v1 : Value) (hv : tmps.getD p undef = .pointer (some ⟨g, 0, none⟩)) (hc : w.heap[g]? = some (.cells #[v0, v1] 38 (0, 0))) :
    (results fn tmps).run Tryz.prog w = .ok (.agg #[v0, v1]) w := by
  have a4 := Tryz.isAgg38
  have z4 := Tryz.sizeOf38
  have c0 := cell_at hc 0
  have c1 := cell_at hc 1
  simp only [List.getElem?_toArray, List.getElem?_cons_succ, List.getElem?_cons_zero] at c0 c1
  simp only [Array.getD_eq_getD_getElem?] at hv
  unfold results
  rw [h]
  go_simp
set_option maxHeartbeats 4000000 in
theorem param_any (w : World) (g : Nat) (r : PS) (h : RdG lo w g r) : Calls Tryz.prog 117 #[.pointer (some ⟨g, 0, none⟩)] w (Lg lo w g (.agg #[.string (bs (parT r).s), .int .u8 (parT r).t]) (parR r)) := by
  have HG := Lib.hid h.lt
  have HLO := Lib.hid h.wlo
  have HB := Lib.hid (ball_new w #[.string ⟨#[]⟩, .int .u8 0] 38)
  have HN := Lib.hid (new_at w #[.string ⟨#[]⟩, .int .u8 0] 38)
  have CN := Lib.hid (name_any _ g r (h.below HB.out))
  unfold parT parR
  clear h
  go_enter Tryz.func117, Tryz.ntmps117
  go_wp2_with fail
  refine CN.out.mono ?_
  rintro e w1 ⟨rfl, h1, h2⟩
  have CT := Lib.hid (typed_any w1 g _ h1)
  have H2 := Lib.hid h2
  clear h1 h2 CN
  go_wp2_with fail
  refine CT.out.mono ?_
  rintro e w2 ⟨rfl, h1, h3⟩
  have H1 := Lib.hid h1
  have H3 := Lib.hid (H2.out.trans h3)
  have HR := Lib.hid (res_keep HG.out H3.out)
  have f0 := free_at HR.out 0
  have f1 := free_at HR.out 1
  have y0 := cell_at HR.out 0
  have y1 := cell_at HR.out 1
  simp only [List.getElem?_toArray, List.getElem?_cons_succ, List.getElem?_cons_zero] at y0 y1
  clear h1 h3 CT
  generalize bs (takeW r [1]).s = S at *
  generalize typN (takeR r [1]) = T at *
  go_wp2_with fail
  have HS : Hid (((w2.setCell ⟨w.heap.size, 0, none⟩ (.string S)).setCell ⟨w.heap.size, 1, none⟩ (.int .u8 T)).heap[w.heap.size]? = some (.cells #[.string S, .int .u8 T] 38 (0, 0))) := Lib.hid (set_at (set_at HR.out 0 (.string S)) 1 (.int .u8 T))
  have HT : Hid (Turn [w.heap.size] w2 ((w2.setCell ⟨w.heap.size, 0, none⟩ (.string S)).setCell ⟨w.heap.size, 1, none⟩ (.int .u8 T))) := Lib.hid (((Turn.refl _ w2).setCell (.inl (by simp)) _).setCell (.inl (by simp)) _)
  refine bodyPost_ret (results_par rfl _ _ w.heap.size _ _ rfl HS.out) rfl ?_
  exact ⟨rfl, H1.out.but HT.out HLO.out, (((Turn.refl [g] w).below HB.out).then_ H3.out (fun k hk => .inl hk)).then_ HT.out (fun k hk => by simp at hk; subst hk; exact .inr (Nat.le_refl _))⟩
/-- The list's own memory. -/
structure HeldP (w wr : World) (g : Nat) (xs : List Tp) (A : Option Addr) (c : Nat) : Prop where
  own : OwnG 2 parCT 38 wr w.heap.size (.slice A xs.length c) xs
  turn : Turn [g] w wr
  g : g < w.heap.size
  txt : ∀ x ∈ xs, x.s.length ≤ 1000000
theorem HeldP.turned {w wr wr' : World} {g : Nat} {xs : List Tp} {A : Option Addr} {c : Nat} (h : HeldP w wr g xs A c) (ht : Turn [g] wr wr') : HeldP w wr' g xs A c := by
  have hg := h.g
  exact ⟨h.own.keep fun b hb => ht.block b (h.own.lt b hb).2 (by have := (h.own.lt b hb).1; simp; omega), h.turn.trans ht, hg, h.txt⟩
theorem HeldP.push {w v2 : World} {g c : Nat} {xs : List Tp} {A : Option Addr} {y : Tp} {r' : PS} (hh : HeldP w v2 g xs A c) (hy : y.s.length ≤ 1000000) (hl : xs.length ≤ 1000000) (hlo : lo ≤ w.heap.size) (hr : RdG lo v2 g r') :
    ∃ A2 c2 u2, (∀ ty, (Builtin.append_ #[32, 32] ty #[.slice A xs.length c, .slice (some ⟨v2.heap.size, 0, none⟩) 1 1]).run Tryz.prog (v2.alloc (.cells #[.string (bs y.s), .int .u8 y.t] 38)) = .ok (.slice A2 (xs ++ [y]).length c2) u2) ∧ HeldP w u2 g (xs ++ [y]) A2 c2 ∧ RdG lo u2 g r' := by
  have hb3 := ball_new v2 #[.string (bs y.s), .int .u8 y.t] 38
  have hn3 := new_at v2 #[.string (bs y.s), .int .u8 y.t] 38
  have hh3 := hh.turned ((Turn.refl [g] v2).below hb3)
  obtain ⟨vv, u2, hap, how, hgr, hbo⟩ := app_par _ w.heap.size (.slice A xs.length c) xs y v2.heap.size hh3.own hn3 hl hh3.turn.size
  obtain ⟨A2, c2, rfl, -⟩ := how.form
  have T2 : Turn (Value.slice A xs.length c).ownBlock.toList (v2.alloc (.cells #[.string (bs y.s), .int .u8 y.t] 38)) u2 := (Turn.refl _ _).grown hgr (fun k hk => .inl (by simp [hk]))
  have hlo2 : ∀ b ∈ (Value.slice A xs.length c).ownBlock.toList, w.heap.size ≤ b := fun b hb => (hh3.own.lt b (by simpa using hb)).1
  exact ⟨A2, c2, u2, hap, ⟨how, hh3.turn.then_ T2 (fun k hk => .inr (hlo2 k hk)), hh.g, fun x hx => by
    rcases List.mem_append.1 hx with hx | hx
    · exact hh.txt x hx
    · obtain rfl : x = y := by simpa using hx
      exact hy⟩, (hr.below hb3).buts T2 (fun b hb => by have := hlo2 b hb; omega)⟩
def EvLP (lo : Nat) (w : World) (g : Nat) (r : PS) (e : Ending) (w' : World) : Prop := ∃ (A : Option Addr) (c : Nat) (xs : List Tp) (r' : PS), e = .returned (.slice A xs.length c) ∧ AgLP r xs r' ∧ Row 2 parCT w' A xs ∧ xs.length ≤ 200000 ∧ (∀ ad, A = some ad → w.heap.size ≤ ad.block) ∧ (∀ x ∈ xs, x.s.length ≤ 1000000) ∧ RdG lo w' g r' ∧ Turn [g] w w'
theorem lp_out {w w7 : World} {g : Nat} {xs : List Tp} {A : Option Addr} {c : Nat} {r r' : PS} (h : HeldP w w7 g xs A c) (hr : RdG lo w7 g r') (hx : xs.length ≤ 200000) (hp : AgLP r xs r') : EvLP lo w g r (.returned (.slice A xs.length c)) w7 := by
  refine ⟨A, c, xs, r', rfl, hp, h.own.row parCT_len, hx, fun ad e => ?_, h.txt, hr, h.turn⟩
  subst e
  exact (h.own.lt ad.block rfl).1
structure LipAt (lo : Nat) (w wr : World) (g : Nat) (r r' : PS) (xs : List Tp) (A : Option Addr) (c : Nat) : Prop where
  rd : RdG lo wr g r'
  held : HeldP w wr g xs A c
  told : AgIP r xs r'
  len : xs.length + lenB r' ≤ 100002
theorem lenB_par (r : PS) : lenB (parR r) ≤ lenB r := by
  unfold parR typR
  have h1 := lenB_take r [1]
  split
  · have := lenB_tl_le (takeR r [1]); omega
  · have := lenB_must (takeR r [1]) [98, 111, 111, 108]; omega
theorem parT_txt {w : World} {g : Nat} {r : PS} (h : RdG lo w g r) : (parT r).s.length ≤ 1000000 := (takeS_size h [1]).2
set_option maxHeartbeats 8000000 in
theorem listp_any (w : World) (g : Nat) (r : PS) (h : RdG lo w g r) :
    Calls Tryz.prog 116 #[.pointer (some ⟨g, 0, none⟩), .func (.func 117) #[.pointer (some ⟨g, 0, none⟩)] #[]] w (EvLP lo w g r) := by
  have HG := Lib.hid h.lt
  have HLO := Lib.hid h.wlo
  have C0 := Lib.hid (must_any w g r [40] h)
  have HLM := Lib.hid (lenB_must r [40])
  have HLB := Lib.hid (lenB_le h)
  clear h
  go_enter Tryz.func116, Tryz.ntmps116
  go_wp2_with fail
  refine C0.out.mono ?_
  rintro e w1 ⟨rfl, h1, h2⟩
  have H1 := Lib.hid h1
  have HH1 : Hid (HeldP w w1 g [] none 0) := Lib.hid (HeldP.turned ⟨OwnG.nil _ _, Turn.refl [g] w, HG.out, fun x hx => by simp at hx⟩ h2)
  clear h1 h2 C0
  rcases Bool.eq_false_or_eq_true (isW (mustP r [40]) [41]) with hi | hi
  · have CH := Lib.hid (has_yes w1 g _ [41] H1.out hi)
    have HO := Lib.hid (agp_none hi)
    clear hi
    go_wp2_with fail
    refine CH.out.mono ?_
    rintro e w2 ⟨rfl, h1, h2⟩
    have H3 := Lib.hid h1
    have HH2 := Lib.hid (HH1.out.turned h2)
    clear h1 h2
    go_wp2_with fail
    go_ret
    exact lp_out HH2.out H3.out (by simp) HO.out
  · have CH := Lib.hid (has_no w1 g _ [41] H1.out hi)
    have HNO := Lib.hid (agp_one hi)
    clear hi
    go_wp2_with fail
    refine CH.out.mono ?_
    rintro e w2 ⟨rfl, h1, h2⟩
    have HH2 := Lib.hid (HH1.out.turned h2)
    have HTX := Lib.hid (parT_txt h1)
    have HLP := Lib.hid (lenB_par (mustP r [40]))
    have CX := Lib.hid (param_any w2 g _ h1)
    clear h1 h2 CH
    generalize parR (mustP r [40]) = r3 at *
    generalize parT (mustP r [40]) = y at *
    go_wp2_with fail
    refine CX.out.mono ?_
    rintro e v2 ⟨rfl, h1, h2⟩
    obtain ⟨A2, c2, u2, hap, hh, hin⟩ := HeldP.push (HH2.out.turned h2) HTX.out (by simp) HLO.out h1
    have HAP := Lib.hid hap
    have START : Hid (LipAt lo w u2 g r r3 ([] ++ [y]) A2 c2) := Lib.hid ⟨hin, hh, HNO.out, by
      have := HLP.out
      have := HLM.out
      have := HLB.out
      simp
      omega⟩
    clear h1 h2 hap hh hin CX HH1 HH2 H1 HNO HLM HLP
    simp only [List.nil_append, List.length_cons, List.length_nil] at HAP START
    obtain ⟨ys, hys⟩ : ∃ ys, [y] = ys := ⟨_, rfl⟩
    have HYL : Hid (ys.length = 1) := Lib.hid (by rw [← hys]; rfl)
    rw [hys] at START
    clear hys
    generalize bs y.s = S at *
    go_wp2_with (at_builtin; refine wpList_appG 32 rfl (.tmp 11) (.tmp 14) rfl (.slice none 0 0) (.slice (some ⟨v2.heap.size, 0, none⟩) 1 1) _ rfl rfl HAP.out ?_)
    clear HAP
    go_loopw [5] (fun l wr => ∃ (r' : PS) (xs : List Tp) (A : Option Addr) (c : Nat), l = .slice A xs.length c ∧ Hid (LipAt lo w wr g r r' xs A c)) (fun _ wr => remG wr g)
    case atStart => exact ⟨r3, ys, A2, c2, by rw [HYL.out], START⟩
    case round =>
      clear START HYL HTX
      obtain ⟨r', xs, A, c, rfl, HC⟩ := hrel
      have HM : Hid (remG wr g = lenB r') := Lib.hid HC.out.rd.rem
      rcases Bool.eq_false_or_eq_true (isW r' [44]) with hi | hi
      · have CH := Lib.hid (has_yes wr g r' [44] HC.out.rd hi)
        have HN4' := Lib.hid (agp_more HC.out.told hi)
        have HLT := Lib.hid (lenB_tl hi)
        clear hi
        go_wp2_with fail
        refine CH.out.mono ?_
        rintro e v1 ⟨rfl, h1, h2⟩
        have HH2 := Lib.hid (HC.out.held.turned h2)
        have HTX := Lib.hid (parT_txt h1)
        have HLP := Lib.hid (lenB_par (tl r'))
        have CX := Lib.hid (param_any v1 g _ h1)
        clear h1 h2 CH
        generalize parR (tl r') = r4 at *
        generalize parT (tl r') = z at *
        go_wp2_with fail
        refine CX.out.mono ?_
        rintro e v2 ⟨rfl, h1, h2⟩
        obtain ⟨A4, c4, u4, hap, hh, hin⟩ := HeldP.push (HH2.out.turned h2) HTX.out (by have := HC.out.len; omega) HLO.out h1
        have HAP := Lib.hid hap
        have HN4 : Hid (LipAt lo w u4 g r r4 (xs ++ [z]) A4 c4) := Lib.hid ⟨hin, hh, HN4'.out, by
          have := HLP.out
          have := HLT.out
          have := HC.out.len
          rw [List.length_append]
          simp
          omega⟩
        obtain ⟨n4, hn4⟩ : ∃ n, (xs ++ [z]).length = n := ⟨_, rfl⟩
        have HNL := Lib.hid hn4
        rw [hn4] at HAP
        clear h1 h2 hap hh hin CX HH2 hn4 HN4'
        generalize bs z.s = SZ at *
        go_wp2_with (at_builtin; refine wpList_appG 32 rfl (.tmp 18) (.tmp 21) rfl (.slice A xs.length c) (.slice (some ⟨v2.heap.size, 0, none⟩) 1 1) _ rfl rfl HAP.out ?_)
        go_roundw
        case rel => exact ⟨r4, xs ++ [z], A4, c4, by rw [HNL.out], HN4⟩
        case measure =>
          rw [HN4.out.rd.rem, HM.out]
          have := HLP.out
          have := HLT.out
          omega
      · have CH := Lib.hid (has_no wr g r' [44] HC.out.rd hi)
        have HO := Lib.hid (agp_end HC.out.told hi)
        clear hi
        go_wp2_with fail
        refine CH.out.mono ?_
        rintro e v1 ⟨rfl, h1, h2⟩
        have HH2 := Lib.hid (HC.out.held.turned h2)
        have CM := Lib.hid (must_any v1 g r' [41] h1)
        clear h1 h2 CH
        go_wp2_with fail
        refine CM.out.mono ?_
        rintro e v2 ⟨rfl, h1, h2⟩
        have H3 := Lib.hid h1
        have HH3 := Lib.hid (HH2.out.turned h2)
        clear h1 h2
        go_wp2_with fail
        go_ret
        exact lp_out HH3.out H3.out (by have := HC.out.len; omega) HO.out
end Go.Proofs.YtmihlmlojmdhjaaGreatDoor.Prg
