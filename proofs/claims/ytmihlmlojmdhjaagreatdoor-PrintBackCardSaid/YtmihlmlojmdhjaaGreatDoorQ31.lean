/-
  What is printed of a file, word by word, is told as it was: the grammar. No condition.
-/
import Derived.Test.YtmihlmlojmdhjaaGreatDoorQ11
import Derived.Test.YtmihlmlojmdhjaaGreatDoorQ27
import Derived.Test.YtmihlmlojmdhjaaGreatDoorQ29
import Derived.Test.YtmihlmlojmdhjaaGreatDoorQ30
namespace Go.Proofs.YtmihlmlojmdhjaaGreatDoor.Prg
open Tre Prs
open Lex (Wd)
set_option maxRecDepth 100000
def typeW (t : Int) : List Wd := if t = 1 then [kw wInt] else if t = 2 then [kw wBool] else []
def wordsP (p : Tp) : List Wd := nm p.s :: typeW p.t
def wordsF (f : Tf) : List Wd := nm f.s :: sg [40] :: (commas (f.p.map wordsP) ++ sg [41] :: (typeW f.r ++ wordsB f.b))
def headK (s : List UInt8) : Wd := ⟨if Lex.keyB s = true then 4 else 1, s, 0⟩
def wordsL (f : Tl) : List Wd := kw wPackage :: headK f.s :: sg [59] :: ((f.i.flatMap fun s => [kw wImport, tx s, sg [59]]) ++ f.f.flatMap fun g => kw wFunc :: (wordsF g ++ [sg [59]]))
theorem type_must {t : Int} (h : t = 1 ∨ t = 2) (l : List Wd) (B : Bool) : typeN ⟨typeW t ++ l, false, B⟩ = t ∧ typeMust ⟨typeW t ++ l, false, B⟩ = ⟨l, false, B⟩ := by
  rcases h with rfl | rfl
  · have e : typeW 1 ++ l = kw wInt :: l := rfl
    have h1 : isW ⟨kw wInt :: l, false, B⟩ wInt = true := by rw [isW_kw]; decide
    rw [e]
    unfold typeMust typeN typeR
    rw [h1]
    exact ⟨rfl, rfl⟩
  · have e : typeW 2 ++ l = kw wBool :: l := rfl
    have h1 : isW ⟨kw wBool :: l, false, B⟩ wInt = false := by rw [isW_kw]; decide
    have h2 : isW ⟨kw wBool :: l, false, B⟩ wBool = true := by rw [isW_kw]; decide
    rw [e]
    unfold typeMust typeN typeR
    rw [h1, h2]
    exact ⟨rfl, rfl⟩
theorem type_may {t : Int} (h : t = 0 ∨ t = 1 ∨ t = 2) (l : List Wd) (B : Bool) (h1 : isW ⟨l, false, B⟩ wInt = false) (h2 : isW ⟨l, false, B⟩ wBool = false) : typeN ⟨typeW t ++ l, false, B⟩ = t ∧ typeR ⟨typeW t ++ l, false, B⟩ = ⟨l, false, B⟩ := by
  rcases h with rfl | h
  · have e : typeW 0 ++ l = l := rfl
    rw [e]
    unfold typeN typeR
    rw [h1, h2]
    exact ⟨rfl, rfl⟩
  · obtain ⟨h3, h4⟩ := type_must h l B
    refine ⟨h3, ?_⟩
    unfold typeMust at h4
    rw [h3] at h4
    rw [if_neg (by rcases h with rfl | rfl <;> decide)] at h4
    exact h4
theorem told_par (l : List Wd) (B : Bool) : ∀ (ps xs : List Tp), (∀ p ∈ ps, OkP p) → tellP xs ⟨commas (ps.map wordsP) ++ sg [41] :: l, false, B⟩ = (xs ++ ps, ⟨l, false, B⟩)
  | [], xs, _ => by
    simp only [List.map_nil, commas, List.nil_append]
    rw [tellP_eq, if_pos (by simp [isW_sg]), mustW_sg, List.append_nil]
  | [p], xs, h => by
    obtain ⟨h1, h2⟩ := type_must (h p (by simp)).2 (sg [41] :: l) B
    simp only [List.map_cons, List.map_nil, commas, wordsP, List.cons_append]
    rw [tellP_eq, if_neg (by rw [isW_nm]; simp), wordR_nm, wordS_nm, h1, h2, if_neg (by rw [isW_sg]; decide), mustW_sg]
  | p :: q :: r, xs, h => by
    obtain ⟨h1, h2⟩ := type_must (h p (by simp)).2 (sg [44] :: (commas ((q :: r).map wordsP) ++ sg [41] :: l)) B
    have e : commas ((p :: q :: r).map wordsP) ++ sg [41] :: l = nm p.s :: (typeW p.t ++ sg [44] :: (commas ((q :: r).map wordsP) ++ sg [41] :: l)) := by
      simp only [List.map_cons, commas, wordsP, List.cons_append, List.append_assoc]
    have e2 : ∃ v, commas ((q :: r).map wordsP) ++ sg [41] :: l = nm q.s :: v := by
      cases r with
      | nil => exact ⟨_, rfl⟩
      | cons z r => exact ⟨_, rfl⟩
    rw [e, tellP_eq, if_neg (by rw [isW_nm]; simp), wordR_nm, wordS_nm, h1, h2, if_pos (by rw [isW_sg]; decide), tl_cons]
    rw [if_neg (by obtain ⟨v, hv⟩ := e2; rw [hv, isW_nm]; simp), told_par l B (q :: r) _ (fun z hz => h z (by simp at hz ⊢; exact .inr hz))]
    simp
/-- A function's words tell it. -/
theorem told_fn {f : Tf} (h : OkF f) (l : List Wd) (B : Bool) : fnD ⟨wordsF f ++ l, false, B⟩ = (f, ⟨l, false, B⟩) := by
  obtain ⟨s, p, t, b⟩ := f
  obtain ⟨_, h4, hp, ht, hb⟩ := h
  dsimp only at h4 hp ht hb
  have e : wordsF ⟨s, p, t, b⟩ ++ l = nm s :: sg [40] :: (commas (p.map wordsP) ++ sg [41] :: (typeW t ++ (wordsB b ++ l))) := by
    simp only [wordsF, List.cons_append, List.append_assoc]
  obtain ⟨h1, h2⟩ := type_may ht (wordsB b ++ l) B (by rw [blockW_head]; decide) (by rw [blockW_head]; decide)
  unfold fnD
  rw [e, wordS_nm, wordR_nm, mustW_sg, told_par _ _ _ _ hp]
  dsimp only
  rw [h1, h2, told_block hb, List.nil_append]
  dsimp only
  rw [decide_eq_false (by omega), Bool.or_false]
theorem told_fns (B : Bool) : ∀ (fs xs : List Tf), (∀ f ∈ fs, OkF f) → tellF xs ⟨fs.flatMap fun g => kw wFunc :: (wordsF g ++ [sg [59]]), false, B⟩ = (xs ++ fs, ⟨[], false, B⟩)
  | [], xs, _ => by
    simp only [List.flatMap_nil]
    rw [tellF_eq, if_neg (by simp [isW, peek, zeroW]), List.append_nil]
  | f :: fs, xs, h => by
    simp only [List.flatMap_cons, List.cons_append, List.append_assoc, List.nil_append]
    rw [tellF_eq, if_pos (by rw [isW_kw]; decide), tl_cons, told_fn (h f (by simp))]
    dsimp only
    rw [mustW_sg, told_fns B fs _ (fun z hz => h z (by simp [hz]))]
    simp
theorem wordR_tx (s : List UInt8) (l : List Wd) (B : Bool) : wordR ⟨tx s :: l, false, B⟩ 3 false = ⟨l, false, B⟩ := by simp [wordR, wordNo, peek, tl]
theorem wordS_tx (s : List UInt8) (l : List Wd) (B : Bool) : wordS ⟨tx s :: l, false, B⟩ 3 false = s := by simp [wordS, wordNo, peek]
theorem wordR_head (s : List UInt8) (l : List Wd) (B : Bool) : wordR ⟨headK s :: l, false, B⟩ 1 true = ⟨l, false, B⟩ := by
  unfold headK
  split <;> simp [wordR, wordNo, peek, tl]
theorem wordS_head (s : List UInt8) (l : List Wd) (B : Bool) : wordS ⟨headK s :: l, false, B⟩ 1 true = s := by
  unfold headK
  split <;> simp [wordS, wordNo, peek]
theorem told_ims (l : List Wd) (B : Bool) (hl : isW ⟨l, false, B⟩ wImport = false) : ∀ (is xs : List (List UInt8)), tellI xs ⟨(is.flatMap fun s => [kw wImport, tx s, sg [59]]) ++ l, false, B⟩ = (xs ++ is, ⟨l, false, B⟩)
  | [], xs => by
    simp only [List.flatMap_nil, List.nil_append]
    rw [tellI_eq, if_neg (by rw [hl]; simp), List.append_nil]
  | s :: is, xs => by
    simp only [List.flatMap_cons, List.cons_append, List.nil_append]
    rw [tellI_eq, if_pos (by rw [isW_kw]; decide), tl_cons, wordS_tx, wordR_tx, mustW_sg, told_ims l B hl is]
    simp
/-- A file's words tell it. -/
theorem told_file {f : Tl} (h : OkL f) : fileD ⟨wordsL f, false, false⟩ = (f, ⟨[], false, false⟩) := by
  obtain ⟨s, i, fs⟩ := f
  obtain ⟨_, h8, h32, _, hf⟩ := h
  dsimp only at h8 h32 hf
  have hl : isW ⟨fs.flatMap fun g => kw wFunc :: (wordsF g ++ [sg [59]]), false, false⟩ wImport = false := by
    cases fs with
    | nil => rfl
    | cons z r => simp only [List.flatMap_cons, List.cons_append]; rw [isW_kw]; decide
  have hh : headS ⟨wordsL ⟨s, i, fs⟩, false, false⟩ = s := by
    unfold headS wordsL
    rw [mustW_kw, wordS_head]
  have hr : headR ⟨wordsL ⟨s, i, fs⟩, false, false⟩ = ⟨(i.flatMap fun s => [kw wImport, tx s, sg [59]]) ++ fs.flatMap fun g => kw wFunc :: (wordsF g ++ [sg [59]]), false, false⟩ := by
    unfold headR wordsL
    rw [mustW_kw, wordR_head, mustW_sg]
  unfold fileD
  rw [hh, hr, told_ims _ _ hl, told_fns _ _ _ hf]
  dsimp only
  rw [decide_eq_false (by simp; omega), decide_eq_false (by simp; omega)]
  simp
end Go.Proofs.YtmihlmlojmdhjaaGreatDoor.Prg
/- A file's text is read as its words, and so told as it was. No condition but numbers that an int64 holds. -/
namespace Go.Proofs.YtmihlmlojmdhjaaGreatDoor.Prg
open Tre Prs
open Lex (Wd Ch textC foldC Ap cool fit textC_cons textC_app textC_nil foldC_app ap_app mayB endLn)
set_option maxRecDepth 100000
inductive LoS : Ts → Prop where
  | mk (op : Int) (s : List UInt8) (e : Tx) (b b2 : List Ts) (he : OkX e → LoX e) (hb : ∀ y ∈ b, LoS y) (hb2 : ∀ y ∈ b2, LoS y) : LoS (.mk op s e b b2)
def tabsC (n : Nat) : List Ch := List.replicate n (.b 9)
/-- Lines in brackets, so many open. -/
def blockC (o : Nat) (cs : List (List Ch)) : List Ch := cw (sg [123]) :: .nl :: (cs.flatMap (fun c => tabsC (o + 1) ++ (c ++ [.nl])) ++ (tabsC o ++ [cw (sg [125])]))
def chS : Nat → Ts → List Ch
  | o, .mk op s e b b2 =>
    if op = 1 then cw (nm s) :: bl :: cw (sg [58, 61]) :: bl :: chX e else if op = 2 then cw (nm s) :: bl :: cw (sg [61]) :: bl :: chX e
    else if op = 3 then cw (kw wIf) :: bl :: (chX e ++ bl :: (blockC o (b.attach.map fun ⟨y, _⟩ => chS (o + 1) y) ++ (if b2.isEmpty then [] else bl :: cw (kw wElse) :: bl :: blockC o (b2.attach.map fun ⟨y, _⟩ => chS (o + 1) y))))
    else if op = 4 then cw (kw wFor) :: bl :: (chX e ++ bl :: blockC o (b.attach.map fun ⟨y, _⟩ => chS (o + 1) y))
    else if op = 5 then (if opOf e = 0 then [cw (kw wReturn)] else cw (kw wReturn) :: bl :: chX e)
    else if op = 6 then cw (kw wPrint) :: cw (sg [40]) :: (chX e ++ [cw (sg [41])])
    else if op = 7 then chX e
    else if op = 8 then [cw (kw wBreak)] else [cw (kw wNext)]
theorem attachC (o : Nat) (b : List Ts) : (b.attach.map fun ⟨y, _⟩ => chS o y) = b.map (chS o) := List.map_subtype (fun _ _ => rfl) |>.trans (by simp)
theorem chS_if (o : Nat) (s : List UInt8) (e : Tx) (b b2 : List Ts) : chS o (.mk 3 s e b b2) = cw (kw wIf) :: bl :: (chX e ++ bl :: (blockC o (b.map (chS (o + 1))) ++ (if b2.isEmpty then [] else bl :: cw (kw wElse) :: bl :: blockC o (b2.map (chS (o + 1)))))) := by
  rw [chS]
  simp only [show ¬ (3 : Int) = 1 by decide, show ¬ (3 : Int) = 2 by decide, if_false, if_true]
  rw [attachC, attachC]
theorem chS_for (o : Nat) (s : List UInt8) (e : Tx) (b b2 : List Ts) : chS o (.mk 4 s e b b2) = cw (kw wFor) :: bl :: (chX e ++ bl :: blockC o (b.map (chS (o + 1)))) := by
  rw [chS]
  simp only [show ¬ (4 : Int) = 1 by decide, show ¬ (4 : Int) = 2 by decide, show ¬ (4 : Int) = 3 by decide, if_false, if_true]
  rw [attachC]
theorem chS_def (o : Nat) (s : List UInt8) (e : Tx) (b b2 : List Ts) : chS o (.mk 1 s e b b2) = cw (nm s) :: bl :: cw (sg [58, 61]) :: bl :: chX e := by rw [chS]; simp
theorem chS_set (o : Nat) (s : List UInt8) (e : Tx) (b b2 : List Ts) : chS o (.mk 2 s e b b2) = cw (nm s) :: bl :: cw (sg [61]) :: bl :: chX e := by rw [chS]; simp
theorem chS_ret (o : Nat) (s : List UInt8) (e : Tx) (b b2 : List Ts) : chS o (.mk 5 s e b b2) = if opOf e = 0 then [cw (kw wReturn)] else cw (kw wReturn) :: bl :: chX e := by rw [chS]; simp
theorem chS_prt (o : Nat) (s : List UInt8) (e : Tx) (b b2 : List Ts) : chS o (.mk 6 s e b b2) = cw (kw wPrint) :: cw (sg [40]) :: (chX e ++ [cw (sg [41])]) := by rw [chS]; simp
theorem chS_call (o : Nat) (s : List UInt8) (e : Tx) (b b2 : List Ts) : chS o (.mk 7 s e b b2) = chX e := by rw [chS]; simp
theorem chS_brk (o : Nat) (s : List UInt8) (e : Tx) (b b2 : List Ts) : chS o (.mk 8 s e b b2) = [cw (kw wBreak)] := by rw [chS]; simp
theorem chS_nxt (o : Nat) (s : List UInt8) (e : Tx) (b b2 : List Ts) : chS o (.mk 9 s e b b2) = [cw (kw wNext)] := by rw [chS]; simp
theorem fold_tabs (ws : List Wd) (n : Nat) (r : List Ch) : foldC ws (tabsC n ++ r) = foldC ws r := by
  induction n with
  | zero => rfl
  | succ n ih =>
    show foldC ws (.b 9 :: (tabsC n ++ r)) = _
    exact ih
theorem end_yes {ws l : List Wd} (h : Lasts l) : endLn (ws ++ l) = ws ++ l ++ [sg [59]] := by
  obtain ⟨x, h, hm⟩ := h
  exact Lex.endLn_yes (x := x) (by rw [List.getLast?_append, h]; rfl) hm
theorem end_no {ws : List Wd} {x : Wd} (h : mayB x = false) : endLn (ws ++ [x]) = ws ++ [x] := Lex.endLn_no (x := x) (by simp) h
/-- A statement's chunks are its words, and what ends it may end a line; they stand apart. -/
structure StC (o : Nat) (y : Ts) : Prop where
  fold : Folds (chS o y) (wordsS y)
  last : Lasts (wordsS y)
  ap : ∀ t, cool t → Ap (chS o y) t
theorem folds_rows (o : Nat) : ∀ (b : List Ts), (∀ y ∈ b, StC o y) → Folds ((b.map (chS o)).flatMap fun c => tabsC o ++ (c ++ [.nl])) ((b.map wordsS).flatMap fun w => w ++ [sg [59]])
  | [], _ => folds_nil
  | y :: b, h => by
    have hy := h y (by simp)
    simp only [List.map_cons, List.flatMap_cons]
    refine folds_app (fun ws => ?_) (folds_rows o b (fun z hz => h z (by simp [hz])))
    rw [fold_tabs, foldC_app, hy.fold]
    show endLn (ws ++ wordsS y) = _
    rw [end_yes hy.last, List.append_assoc]
theorem folds_block {o : Nat} {b : List Ts} (h : ∀ y ∈ b, StC (o + 1) y) : Folds (blockC o (b.map (chS (o + 1)))) (wordsB b) := by
  intro ws
  unfold blockC wordsB blockW
  show foldC (endLn (ws ++ [sg [123]])) _ = _
  rw [end_no (by decide)]
  refine (folds_app (folds_rows (o + 1) b h) (m := [sg [125]]) (fun ws => ?_) _).trans (by simp)
  rw [fold_tabs]
  rfl
theorem lasts_block (b : List Ts) : Lasts (wordsB b) := lasts_cons (lasts_app (lasts_one (by decide)))
theorem ap_nil (t : List UInt8) : Ap [] t := trivial
theorem ap_nl (t : List UInt8) : Ap [.nl] t := trivial
theorem ap_tabs {r : List Ch} {t : List UInt8} (h : Ap r t) : ∀ n, Ap (tabsC n ++ r) t
  | 0 => h
  | n + 1 => ⟨by decide, ap_tabs h n⟩
theorem ap_rows {o : Nat} : ∀ (b : List Ts), (∀ y ∈ b, StC o y) → ∀ t, Ap ((b.map (chS o)).flatMap fun c => tabsC o ++ (c ++ [.nl])) t
  | [], _, _ => trivial
  | y :: b, h, t => by
    have hy := h y (by simp)
    simp only [List.map_cons, List.flatMap_cons]
    refine ap_app _ _ _ (ap_tabs (ap_app _ [.nl] _ (hy.ap _ ?_) (ap_nl _)) o) (ap_rows b (fun z hz => h z (by simp [hz])) t)
    rw [textC_cons]
    exact cool_sg (c := 10) (by decide) _
theorem ap_block {o : Nat} {b : List Ts} (h : ∀ y ∈ b, StC (o + 1) y) (t : List UInt8) : Ap (blockC o (b.map (chS (o + 1)))) t := by
  unfold blockC
  refine ap_sg (by decide) (by decide) ?_
  show Ap (_ ++ _) t
  exact ap_app _ _ _ (ap_rows b h _) (ap_tabs (ap_sg (by decide) (by decide) (ap_nil _)) o)
theorem cool_bl (r : List Ch) (t : List UInt8) : cool (textC (bl :: r) ++ t) := by
  rw [textC_cons]
  exact cool_sg (c := 32) (by decide) _
theorem cool_1 {c : UInt8} (h : c ∈ [32, 40, 41, 123, 125, 44, 59, 46, 10]) (r : List Ch) (t : List UInt8) : cool (textC (cw (sg [c]) :: r) ++ t) := by
  rw [textC_cons]
  exact cool_sg h _
theorem st_c : ∀ (m : Nat) (o : Nat) (y : Ts), wtS y ≤ m → OkS y → LoS y → StC o y := fun m => by
  induction m with
  | zero => intro o y hm; obtain ⟨p, s, e, b, b2⟩ := y; rw [wtS_eq] at hm; omega
  | succ m ih =>
    intro o y hm h hlo
    cases h with
    | def_ s e h he =>
      cases hlo with
      | mk _ _ _ _ _ hl _ _ =>
        refine ⟨?_, ?_, fun t ht => ?_⟩
        · rw [chS_def, wordsS_def]; exact folds_w _ (folds_bl (folds_w _ (folds_bl (folds_x he))))
        · rw [wordsS_def]; exact lasts_cons (lasts_cons (lasts_x he))
        · rw [chS_def]; exact ap_nm h (cool_bl _ _) (ap_bl (ap_sb (by decide) (ap_x he (hl he) t ht)))
    | set_ s e h he =>
      cases hlo with
      | mk _ _ _ _ _ hl _ _ =>
        refine ⟨?_, ?_, fun t ht => ?_⟩
        · rw [chS_set, wordsS_set]; exact folds_w _ (folds_bl (folds_w _ (folds_bl (folds_x he))))
        · rw [wordsS_set]; exact lasts_cons (lasts_cons (lasts_x he))
        · rw [chS_set]; exact ap_nm h (cool_bl _ _) (ap_bl (ap_sb (by decide) (ap_x he (hl he) t ht)))
    | if_ e b b2 he hb hb2 =>
      cases hlo with
      | mk _ _ _ _ _ hl hlb hlb2 =>
        rw [wtS_eq] at hm
        have kb : ∀ y ∈ b, StC (o + 1) y := fun y hy => ih (o + 1) y (by have := le_sumS hy; omega) (hb y hy) (hlb y hy)
        have kb2 : ∀ y ∈ b2, StC (o + 1) y := fun y hy => ih (o + 1) y (by have := le_sumS hy; omega) (hb2 y hy) (hlb2 y hy)
        refine ⟨?_, ?_, fun t ht => ?_⟩
        · rw [chS_if, wordsS_if, List.append_assoc]
          refine folds_w _ (folds_bl (folds_app (folds_x he) (folds_bl (folds_app (folds_block kb) ?_))))
          split
          · exact folds_nil
          · exact folds_bl (folds_w _ (folds_bl (folds_block kb2)))
        · rw [wordsS_if]
          cases b2 with
          | nil => simp only [List.isEmpty_nil, if_true, List.append_nil]; exact lasts_cons (lasts_app (lasts_block b))
          | cons z r => simp only [List.isEmpty_cons, Bool.false_eq_true, if_false]; exact lasts_cons (lasts_app (lasts_cons (lasts_block _)))
        · rw [chS_if]
          refine ap_kw (by decide) (cool_bl _ _) (ap_bl (ap_app _ _ _ (ap_x he (hl he) _ (cool_bl _ _)) (ap_bl (ap_app _ _ _ (ap_block kb _) ?_))))
          split
          · trivial
          · exact ap_bl (ap_kw (by decide) (cool_bl _ _) (ap_bl (ap_block kb2 t)))
    | for_ e b he hb =>
      cases hlo with
      | mk _ _ _ _ _ hl hlb _ =>
        rw [wtS_eq] at hm
        have kb : ∀ y ∈ b, StC (o + 1) y := fun y hy => ih (o + 1) y (by have := le_sumS hy; omega) (hb y hy) (hlb y hy)
        refine ⟨?_, ?_, fun t ht => ?_⟩
        · rw [chS_for, wordsS_for]
          exact folds_w _ (folds_bl (folds_app (folds_x he) (folds_bl (folds_block kb))))
        · rw [wordsS_for]; exact lasts_cons (lasts_app (lasts_block b))
        · rw [chS_for]
          exact ap_kw (by decide) (cool_bl _ _) (ap_bl (ap_app _ _ _ (ap_x he (hl he) _ (cool_bl _ _)) (ap_bl (ap_block kb t))))
    | ret e he =>
      cases hlo with
      | mk _ _ _ _ _ hl _ _ =>
        refine ⟨?_, ?_, fun t ht => ?_⟩
        · rw [chS_ret, wordsS_ret, if_neg (ok_op he), if_neg (ok_op he)]; exact folds_w _ (folds_bl (folds_x he))
        · rw [wordsS_ret, if_neg (ok_op he)]; exact lasts_cons (lasts_x he)
        · rw [chS_ret, if_neg (ok_op he)]; exact ap_kw (by decide) (cool_bl _ _) (ap_bl (ap_x he (hl he) t ht))
    | retn =>
      refine ⟨?_, ?_, fun t ht => ?_⟩
      · rw [chS_ret, wordsS_ret, if_pos (by rfl), if_pos (by rfl)]; exact folds_w _ folds_nil
      · rw [wordsS_ret, if_pos (by rfl)]; exact lasts_one (by decide)
      · rw [chS_ret, if_pos (by rfl)]; exact ap_kw (by decide) (by simpa [textC] using ht) trivial
    | print e he =>
      cases hlo with
      | mk _ _ _ _ _ hl _ _ =>
        refine ⟨?_, ?_, fun t ht => ?_⟩
        · rw [chS_prt, wordsS_prt]; exact folds_w _ (folds_w _ (folds_app (folds_x he) (folds_w _ folds_nil)))
        · rw [wordsS_prt]; exact lasts_cons (lasts_cons (lasts_app (lasts_one (by decide))))
        · rw [chS_prt]; exact ap_kw (by decide) (cool_1 (by decide) _ _) (ap_sg (by decide) (by decide) (ap_app _ _ _ (ap_x he (hl he) _ (cool_1 (by decide) _ _)) (ap_sg (by decide) (by decide) trivial)))
    | call s q x he =>
      cases hlo with
      | mk _ _ _ _ _ hl _ _ =>
        refine ⟨?_, ?_, fun t ht => ?_⟩
        · rw [chS_call, wordsS_call]; exact folds_x he
        · rw [wordsS_call]; exact lasts_x he
        · rw [chS_call]; exact ap_x he (hl he) t ht
    | brk =>
      refine ⟨?_, ?_, fun t ht => ?_⟩
      · rw [chS_brk, wordsS_brk]; exact folds_w _ folds_nil
      · rw [wordsS_brk]; exact lasts_one (by decide)
      · rw [chS_brk]; exact ap_kw (by decide) (by simpa [textC] using ht) trivial
    | nxt =>
      refine ⟨?_, ?_, fun t ht => ?_⟩
      · rw [chS_nxt, wordsS_nxt]; exact folds_w _ folds_nil
      · rw [wordsS_nxt]; exact lasts_one (by decide)
      · rw [chS_nxt]; exact ap_kw (by decide) (by simpa [textC] using ht) trivial
end Go.Proofs.YtmihlmlojmdhjaaGreatDoor.Prg
/- A file's text tells the file again: P1104's mathematics. No condition but the limits. -/
namespace Go.Proofs.YtmihlmlojmdhjaaGreatDoor.Prg
open Tre Prs
open Lex (Wd Ch textC foldC Ap cool fit textC_cons textC_app textC_nil foldC_app ap_app mayB endLn)
set_option maxRecDepth 100000
def LoF (f : Tf) : Prop := ∀ y ∈ f.b, LoS y
def LoL (f : Tl) : Prop := ∀ g ∈ f.f, LoF g
def typeC (t : Int) : List Ch := if t = 1 then [cw (kw wInt)] else if t = 2 then [cw (kw wBool)] else []
def chP (p : Tp) : List Ch := cw (nm p.s) :: bl :: typeC p.t
def resC (t : Int) : List Ch := if t = 0 then [] else typeC t ++ [bl]
def chF (f : Tf) : List Ch := cw (nm f.s) :: cw (sg [40]) :: (commasC (f.p.map chP) ++ cw (sg [41]) :: bl :: (resC f.r ++ blockC 0 (f.b.map (chS 1))))
def chL (f : Tl) : List Ch := cw (kw wPackage) :: bl :: cw (headK f.s) :: cw (sg [59]) :: .nl :: ((f.i.flatMap fun s => [cw (kw wImport), bl, cw (tx s), .nl]) ++ f.f.flatMap fun g => cw (kw wFunc) :: bl :: (chF g ++ [.nl]))
/-- What is printed of a file. -/
def textL (f : Tl) : List UInt8 := textC (chL f)
theorem folds_type (t : Int) : Folds (typeC t) (typeW t) := by
  unfold typeC typeW
  split
  · exact folds_w _ folds_nil
  split
  · exact folds_w _ folds_nil
  · exact folds_nil
theorem folds_pars : ∀ (p : List Tp), Folds (commasC (p.map chP)) (commas (p.map wordsP))
  | [] => folds_nil
  | [p] => folds_w _ (folds_bl (folds_type p.t))
  | p :: q :: r => by
    simp only [List.map_cons, commasC, commas]
    exact folds_app (folds_w _ (folds_bl (folds_type p.t))) (folds_w _ (folds_bl (folds_pars (q :: r))))
theorem folds_res (t : Int) : Folds (resC t) (typeW t) := by
  unfold resC
  split
  · next h => rw [h]; exact folds_nil
  · intro ws
    rw [foldC_app, folds_type t]
    rfl
theorem ap_type {t : Int} {u : List UInt8} (hu : cool u) : Ap (typeC t) u := by
  unfold typeC
  split
  · exact ap_kw (by decide) (by simpa [textC] using hu) (ap_nil u)
  split
  · exact ap_kw (by decide) (by simpa [textC] using hu) (ap_nil u)
  · exact ap_nil u
theorem ap_pars {u : List UInt8} (hu : cool u) : ∀ (p : List Tp), (∀ x ∈ p, OkP x) → Ap (commasC (p.map chP)) u
  | [], _ => ap_nil u
  | [p], h => ap_nm (h p (by simp)).1 (cool_bl _ _) (ap_bl (ap_type hu))
  | p :: q :: r, h => by
    simp only [List.map_cons, commasC]
    exact ap_app _ _ _ (ap_nm (h p (by simp)).1 (cool_bl _ _) (ap_bl (ap_type (cool_1 (by decide) _ _)))) (ap_sg (by decide) (by decide) (ap_bl (ap_pars hu (q :: r) (fun z hz => h z (by simp at hz ⊢; exact .inr hz)))))
theorem ap_res {t : Int} (u : List UInt8) : Ap (resC t) u := by
  unfold resC
  split
  · exact ap_nil u
  · exact ap_app _ _ _ (ap_type (cool_bl _ _)) (ap_bl (ap_nil u))
/-- A function's chunks. -/
theorem folds_fn {f : Tf} (h : OkF f) (hlo : LoF f) : Folds (chF f) (wordsF f) :=
  folds_w _ (folds_w _ (folds_app (folds_pars f.p) (folds_w _ (folds_bl (folds_app (folds_res f.r) (folds_block (fun y hy => st_c _ 1 y (Nat.le_refl _) (h.2.2.2.2 y hy) (hlo y hy))))))))
theorem lasts_fn (f : Tf) : Lasts (wordsF f) := lasts_cons (lasts_cons (lasts_app (lasts_cons (lasts_app (lasts_block f.b)))))
theorem ap_fn {f : Tf} (h : OkF f) (hlo : LoF f) (u : List UInt8) : Ap (chF f) u :=
  ap_nm h.1 (cool_1 (by decide) _ _) (ap_sg (by decide) (by decide) (ap_app _ _ _ (ap_pars (cool_1 (by decide) _ _) _ h.2.2.1) (ap_sg (by decide) (by decide) (ap_bl (ap_app _ _ _ (ap_res _) (ap_block (fun y hy => st_c _ 1 y (Nat.le_refl _) (h.2.2.2.2 y hy) (hlo y hy)) u))))))
theorem folds_fns : ∀ (fs : List Tf), (∀ f ∈ fs, OkF f ∧ LoF f) → Folds (fs.flatMap fun g => cw (kw wFunc) :: bl :: (chF g ++ [.nl])) (fs.flatMap fun g => kw wFunc :: (wordsF g ++ [sg [59]]))
  | [], _ => folds_nil
  | f :: fs, h => by
    simp only [List.flatMap_cons]
    refine folds_app (folds_w _ (folds_bl (fun ws => ?_))) (folds_fns fs (fun g hg => h g (by simp [hg])))
    rw [foldC_app, folds_fn (h f (by simp)).1 (h f (by simp)).2]
    show endLn (ws ++ wordsF f) = _
    rw [end_yes (lasts_fn f), List.append_assoc]
theorem ap_fns : ∀ (fs : List Tf), (∀ f ∈ fs, OkF f ∧ LoF f) → ∀ u, Ap (fs.flatMap fun g => cw (kw wFunc) :: bl :: (chF g ++ [.nl])) u
  | [], _, u => ap_nil u
  | f :: fs, h, u => by
    simp only [List.flatMap_cons]
    exact ap_app _ _ _ (ap_kw (by decide) (cool_bl _ _) (ap_bl (ap_app _ [.nl] _ (ap_fn (h f (by simp)).1 (h f (by simp)).2 _) (ap_nl _)))) (ap_fns fs (fun g hg => h g (by simp [hg])) u)
theorem folds_ims : ∀ (is : List (List UInt8)), Folds (is.flatMap fun s => [cw (kw wImport), bl, cw (tx s), .nl]) (is.flatMap fun s => [kw wImport, tx s, sg [59]])
  | [] => folds_nil
  | s :: is => by
    simp only [List.flatMap_cons]
    refine folds_app (fun ws => ?_) (folds_ims is)
    show endLn (ws ++ [kw wImport] ++ [tx s]) = _
    rw [end_yes (lasts_one rfl)]
    simp
theorem ap_ims : ∀ (is : List (List UInt8)), (∀ s ∈ is, wordOk s) → ∀ u, Ap (is.flatMap fun s => [cw (kw wImport), bl, cw (tx s), .nl]) u
  | [], _, u => ap_nil u
  | s :: is, h, u => by
    simp only [List.flatMap_cons]
    have hs : Lex.textOk s = true := by
      have := h s (by simp)
      unfold wordOk at this
      unfold Lex.textOk
      rcases this with h | h <;> simp [h]
    exact ap_app _ _ _ (ap_kw (by decide) (cool_bl _ _) (ap_bl (show Ap [cw (tx s), .nl] _ from ⟨.text s hs, .inl rfl, ap_nl _⟩))) (ap_ims is (fun z hz => h z (by simp [hz])) u)
theorem folds_file {f : Tl} (h : OkL f) (hlo : LoL f) : Folds (chL f) (wordsL f) := by
  refine folds_w _ (folds_bl (folds_w _ (fun ws => ?_)))
  show foldC (endLn (ws ++ [sg [59]])) _ = _
  rw [end_no (by decide)]
  refine (folds_app (folds_ims f.i) (folds_fns f.f (fun g hg => ⟨h.2.2.2.2 g hg, hlo g hg⟩)) _).trans (by simp)
theorem ap_file {f : Tl} (h : OkL f) (hlo : LoL f) : Ap (chL f) [] := by
  have hh : ∀ {r : List Ch}, Ap r [] → Ap (cw (headK f.s) :: cw (sg [59]) :: r) [] := fun {r} hr => by
    have h1 := h.1
    have hin : Ap (cw (sg [59]) :: r) [] := ap_sg (by decide) (by decide) hr
    unfold headK
    by_cases hk : Lex.keyB f.s = true
    · rw [if_pos hk]
      exact ap_kw hk (cool_1 (by decide) _ _) hin
    · rw [if_neg hk]
      unfold wordOk at h1
      exact ap_nm (h1.resolve_right hk) (cool_1 (by decide) _ _) hin
  refine ap_kw (by decide) (cool_bl _ _) (ap_bl (hh ?_))
  show Ap (_ ++ _) []
  exact ap_app _ _ _ (ap_ims f.i h.2.2.2.1 _) (ap_fns f.f (fun g hg => ⟨h.2.2.2.2 g hg, hlo g hg⟩) _)
/-- Behind a file's words nothing more comes at the end. -/
theorem end_file (f : Tl) : endLn (wordsL f) = wordsL f := by
  have e : ∃ l, wordsL f = l ++ [sg [59]] := by
    unfold wordsL
    rcases List.eq_nil_or_concat f.f with h | ⟨fs, g, h⟩
    · rw [h]
      rcases List.eq_nil_or_concat f.i with h | ⟨is, s, h⟩
      · rw [h]; exact ⟨[kw wPackage, headK f.s], rfl⟩
      · rw [h]; exact ⟨kw wPackage :: headK f.s :: sg [59] :: ((is.flatMap fun s => [kw wImport, tx s, sg [59]]) ++ [kw wImport, tx s]), by simp⟩
    · rw [h]; exact ⟨kw wPackage :: headK f.s :: sg [59] :: ((f.i.flatMap fun s => [kw wImport, tx s, sg [59]]) ++ ((fs.flatMap fun g => kw wFunc :: (wordsF g ++ [sg [59]])) ++ kw wFunc :: wordsF g)), by simp⟩
  obtain ⟨l, e⟩ := e
  rw [e]
  exact end_no (by decide)
/-- A file's text is read as its words, or it is too great. -/
theorem words_file {f : Tl} (h : OkL f) (hlo : LoL f) : Lex.words (textL f) = (wordsL f, 0) ∨ Lex.words (textL f) = ([], 11) := by
  have hw := Lex.words_ch (ap_file h hlo)
  rw [folds_file h hlo, List.nil_append, end_file] at hw
  exact hw
theorem pick_zero {e : Int} {n : Nat} {a : Tl} {b : Int} {z r : Tl × Int} (h1 : e = 0) (h2 : ¬ 24 < n) (h3 : b = 0) : (if e ≠ 0 then z else if 24 < n then (zeroL, 11) else if b ≠ 0 then r else (a, 0)) = (a, 0) := by
  rw [if_neg (by simp [h1]), if_neg h2, if_neg (by simp [h3])]
/-- A file's text, if it is neither too long nor too deep, tells the file. -/
theorem back_file {f : Tl} (h : OkL f) (hlo : LoL f) (h0 : (Lex.words (textL f)).2 = 0) (hn : ¬ 24 < nestD (Lex.words (textL f)).1) : fileT (textL f) = (f, 0) := by
  have hw : Lex.words (textL f) = (wordsL f, 0) := by
    rcases words_file h hlo with hw | hw
    · exact hw
    · rw [hw] at h0; exact absurd h0 (by decide)
  have hd := told_file h
  unfold fileT
  rw [hw] at hn ⊢
  dsimp only at hn ⊢
  rw [hd]
  exact pick_zero rfl hn rfl
end Go.Proofs.YtmihlmlojmdhjaaGreatDoor.Prg
/- What the program's writer writes of an expression's parts, and of lists, once it writes each as it must. Conditions: the trees lie in memory below the writer; sizes. -/
namespace Go.Proofs.YtmihlmlojmdhjaaGreatDoor.Wr
open Go.RowKit Tre
open Lex (Ch textC textC_cons textC_app textC_nil chT)
open Prg (cw bl sg nm kw nu chX partC commasC opOf opS)
set_option maxRecDepth 100000
/-- An expression's text. -/
def TX (e : Ex) : List UInt8 := textC (chX (core e))
def TP (e : Ex) : List UInt8 := textC (partC (core e) (chX (core e)))
theorem op_core (e : Ex) : opOf (core e) = e.op := by rw [core_eq]; rfl
theorem shown_sg (s : List UInt8) : Lex.shown (sg s) = s := rfl
theorem shown_kw (s : List UInt8) : Lex.shown (kw s) = s := rfl
theorem shown_nm (s : List UInt8) : Lex.shown (nm s) = s := rfl
theorem text_w (x : Lex.Wd) (r : List Ch) : textC (cw x :: r) = Lex.shown x ++ textC r := textC_cons _ _
theorem text_bl (r : List Ch) : textC (bl :: r) = 32 :: textC r := textC_cons _ _
theorem text_nl (r : List Ch) : textC (Ch.nl :: r) = 10 :: textC r := textC_cons _ _
theorem TP_two {e : Ex} (h : 7 ≤ e.op) : TP e = [40] ++ (TX e ++ [41]) := by
  unfold TP TX partC
  rw [op_core, if_pos h, text_w, textC_app, text_w, shown_sg, shown_sg, textC_nil]
  rfl
theorem TP_no {e : Ex} (h : ¬ 7 ≤ e.op) : TP e = TX e := by
  unfold TP TX partC
  rw [op_core, if_neg h]
theorem parts_val (op : Int) : partsI op = 0 ∨ partsI op = 1 ∨ partsI op = 2 ∨ partsI op = -1 := by
  unfold partsI
  split
  · simp
  split
  · simp
  split <;> simp
theorem parts_two {op : Int} (h : partsI op = 2) : 7 ≤ op := by
  unfold partsI at h
  split at h
  · omega
  split at h
  · omega
  split at h
  · next h7 => simp at h7; omega
  · omega
theorem parts_not {op : Int} (h : partsI op ≠ 2) (h2 : op ≤ 19) : ¬ 7 ≤ op := fun h7 => by
  apply h
  unfold partsI
  rw [if_neg (by simp; omega), if_neg (by simp; omega), if_pos (by simp; omega)]
theorem x5 {w : World} {g : Nat} {a0 a1 a2 a3 a4 : Value} {T : TypeId} (h : w.heap[g]? = some (.cells #[a0, a1, a2, a3, a4] T (0, 0))) :
    w.cell? ⟨g, 0, none⟩ = some a0 ∧ w.cell? ⟨g, 1, none⟩ = some a1 ∧ w.cell? ⟨g, 2, none⟩ = some a2 ∧ w.cell? ⟨g, 3, none⟩ = some a3 ∧ w.cell? ⟨g, 4, none⟩ = some a4 :=
  ⟨cell_at h 0, cell_at h 1, cell_at h 2, cell_at h 3, cell_at h 4⟩
/-- A box beside the writer. -/
theorem Wt.box {w : World} {lo b : Nat} {n : Int} {l : List UInt8} (h : Wt w lo b n l) (cs : Array Value) (T : TypeId) :
    Wt (w.alloc (.cells cs T)) lo b n l ∧ Stp lo b w (w.alloc (.cells cs T)) ∧ (w.alloc (.cells cs T)).heap[w.heap.size]? = some (.cells cs T (0, 0)) ∧ w.heap.size ≠ b :=
  ⟨h.alloc _, Stp.alloc w _ h.lo, new_at w cs T, by have := h.lt; omega⟩
/-- What the writer writes of an expression. -/
def ElX (w0 : World) (b : Nat) (n : Int) (e : Ex) : Prop :=
  ∀ (w : World) (l : List UInt8), Wt w w0.heap.size b n l → Below w0.heap.size w0 w → l.length + (TX e).length ≤ room → Calls Tryz.prog 22 #[pb b, exV e] w (Wrote w0.heap.size b n (l ++ TX e) w)
set_option maxHeartbeats 4000000 in
theorem part_any {w0 : World} {b : Nat} {n : Int} {e : Ex} {w : World} {l : List UInt8} (h : Wt w w0.heap.size b n l) (hb : Below w0.heap.size w0 w) (hs : l.length + (TP e).length ≤ room) (h19 : e.op ≤ 19) (HE : ElX w0 b n e) :
    Calls Tryz.prog 48 #[pb b, exV e] w (Wrote w0.heap.size b n (l ++ TP e) w) := by
  obtain ⟨T0, S0, HN0, hne⟩ := h.box #[.int .i64 e.op, .int .i64 e.n, .string e.s, .string e.q, .slice e.a e.x.length e.c] 42
  have CP := Lib.hid (parts_any' e.op (w.alloc (.cells #[.int .i64 e.op, .int .i64 e.n, .string e.s, .string e.q, .slice e.a e.x.length e.c] 42)))
  obtain ⟨W0, hW0⟩ : ∃ W0, w.alloc (.cells #[.int .i64 e.op, .int .i64 e.n, .string e.s, .string e.q, .slice e.a e.x.length e.c] 42) = W0 := ⟨_, rfl⟩
  rw [hW0] at T0 S0 HN0 CP
  obtain ⟨z0, z1, z2, z3, z4⟩ := x5 HN0
  unfold ElX at HE
  rw [exV_eq] at HE ⊢
  have HX := Lib.hid HE
  have G1 := Lib.hid T0
  have G2 := Lib.hid S0
  have G3 := Lib.hid HN0
  have G4 := Lib.hid hne
  have G5 := Lib.hid (hb.trans S0.below)
  have G6 := Lib.hid hs
  clear HE T0 S0 HN0 hne hb hs h
  rcases parts_val e.op with hp | hp | hp | hp
  case' inr.inr.inl =>
    have h7 := parts_two hp
    rw [TP_two h7] at G6 ⊢
    have G7 := Lib.hid h7
    clear h7
  case' inl => have hx := TP_no (parts_not (by rw [hp]; decide) h19)
  case' inr.inl => have hx := TP_no (parts_not (by rw [hp]; decide) h19)
  case' inr.inr.inr => have hx := TP_no (parts_not (by rw [hp]; decide) h19)
  case' inl | inr.inl | inr.inr.inr =>
    rw [hx] at G6 ⊢
    rw [hp] at CP
    have C2 := Lib.hid (HX.out W0 l G1.out G5.out G6.out)
    clear hx hp h19
    go_enter Tryz.func48, Tryz.ntmps48
    go_wp2_with fail
    refine CP.out.mono ?_
    rintro e1 w1 ⟨rfl, rfl⟩
    go_wp2_with fail
    refine C2.out.mono ?_
    rintro e1 w1 ⟨rfl, h1, h2⟩
    have K1 := Lib.hid h1
    have K2 := Lib.hid (G2.out.trans h2)
    clear h1 h2
    go_wp2_with fail
    go_end0
    exact ⟨rfl, K1.out, K2.out⟩
  case inr.inr.inl =>
    rw [hp] at CP
    have G6' := G6.out
    simp only [List.length_append, List.length_cons, List.length_nil] at G6'
    have C1 := Lib.hid (lay1 G1.out ⟨#[40]⟩ (by rw [show (⟨#[40]⟩ : ByteArray).size = 1 from rfl]; omega))
    have G7 := Lib.hid G6'
    clear hp h19 G6'
    go_enter Tryz.func48, Tryz.ntmps48
    go_wp2_with fail
    refine CP.out.mono ?_
    rintro e1 w1 ⟨rfl, rfl⟩
    go_wp2_with fail
    refine C1.out.mono ?_
    rintro e1 w1 ⟨rfl, h1, h2⟩
    obtain ⟨z0, z1, z2, z3, z4⟩ := x5 (h2.keep _ _ _ (by decide) G4.out G3.out)
    have C2 := Lib.hid (HX.out w1 _ h1 (G5.out.trans h2.below) (by
      have := G7.out
      rw [List.length_append, show (⟨#[40]⟩ : ByteArray).data.toList.length = 1 from rfl]
      omega))
    have K2 := Lib.hid (G2.out.trans h2)
    clear h1 h2
    go_wp2_with fail
    refine C2.out.mono ?_
    rintro e1 w2 ⟨rfl, h1, h2⟩
    have C3 := Lib.hid (lay1 h1 ⟨#[41]⟩ (by
      have := G7.out
      rw [List.length_append, List.length_append, show (⟨#[40]⟩ : ByteArray).data.toList.length = 1 from rfl, show (⟨#[41]⟩ : ByteArray).size = 1 from rfl]
      omega))
    have K3 := Lib.hid (K2.out.trans h2)
    clear h1 h2
    go_wp2_with fail
    refine C3.out.mono ?_
    rintro e1 w3 ⟨rfl, h1, h2⟩
    have K4 := Lib.hid h1
    have K5 := Lib.hid (K3.out.trans h2)
    clear h1 h2
    go_wp2_with fail
    go_end0
    exact ⟨rfl, by simpa using K4.out, K5.out⟩
end Go.Proofs.YtmihlmlojmdhjaaGreatDoor.Wr
/- The program's list: expressions in brackets, a comma and a blank between each two. Conditions: they lie in memory below the writer; sizes. -/
namespace Go.Proofs.YtmihlmlojmdhjaaGreatDoor.Wr
open Go.RowKit Tre
open Lex (Ch textC textC_cons textC_app textC_nil chT)
open Prg (cw bl sg nm kw nu chX chP partC commasC opOf opS)
set_option maxRecDepth 100000
theorem commas_snoc : ∀ {l : List (List Ch)} {y : List Ch}, l ≠ [] → commasC (l ++ [y]) = commasC l ++ (cw (sg [44]) :: bl :: y)
  | [], _, h => absurd rfl h
  | [w], y, _ => rfl
  | w :: v :: r, y, _ => by
    have := commas_snoc (l := v :: r) (y := y) (by simp)
    show w ++ cw (sg [44]) :: bl :: commasC (v :: r ++ [y]) = (w ++ cw (sg [44]) :: bl :: commasC (v :: r)) ++ _
    rw [this]
    simp
theorem commas_le : ∀ (l r : List (List Ch)), (textC (commasC l)).length ≤ (textC (commasC (l ++ r))).length
  | [], r => by simp [commasC, textC]
  | [w], [] => Nat.le_refl _
  | [w], v :: r => by
    show (textC w).length ≤ (textC (w ++ cw (sg [44]) :: bl :: commasC (v :: r))).length
    rw [textC_app, List.length_append]
    omega
  | w :: v :: q, r => by
    have := commas_le (v :: q) r
    show (textC (w ++ cw (sg [44]) :: bl :: commasC (v :: q))).length ≤ (textC (w ++ cw (sg [44]) :: bl :: commasC (v :: q ++ r))).length
    simp only [textC_app, text_w, text_bl, List.length_append, List.length_cons]
    omega
def TCX (xs : List Ex) : List UInt8 := textC (commasC (xs.map fun x => chX (core x)))
def TLX (xs : List Ex) : List UInt8 := [40] ++ (TCX xs ++ [41])
theorem TCX_take {xs : List Ex} {k : Nat} {x : Ex} (h : xs[k]? = some x) : (k = 0 → TCX (xs.take 1) = TCX (xs.take 0) ++ TX x) ∧ (0 < k → TCX (xs.take (k + 1)) = TCX (xs.take k) ++ ([44, 32] ++ TX x)) := by
  constructor
  · rintro rfl
    cases xs with
    | nil => simp at h
    | cons y r =>
      obtain rfl : y = x := by simpa using h
      rfl
  · intro hk
    unfold TCX
    rw [List.take_add_one, h, List.map_append]
    have hne : (xs.take k).map (fun x => chX (core x)) ≠ [] := fun e => by
      have h2 : k < xs.length := (List.getElem?_eq_some_iff.1 h).1
      have := congrArg List.length e
      simp only [List.length_map, List.length_take, List.length_nil] at this
      omega
    rw [show (some x).toList.map (fun x => chX (core x)) = [chX (core x)] from rfl, commas_snoc hne, textC_app, text_w, text_bl, shown_sg]
    rfl
theorem TCX_len {xs : List Ex} {k : Nat} {x : Ex} (h : xs[k]? = some x) : (TCX (xs.take k)).length + (TX x).length + (if k = 0 then 0 else 2) ≤ (TCX xs).length ∧ (0 < k → (TCX (xs.take k)).length + 2 + (TX x).length ≤ (TCX xs).length) := by
  have e : TCX xs = TCX (xs.take (k + 1) ++ xs.drop (k + 1)) := by rw [List.take_append_drop]
  have h2 : (TCX (xs.take (k + 1))).length ≤ (TCX xs).length := by
    rw [e]
    unfold TCX
    rw [List.map_append]
    exact commas_le _ _
  have ht := TCX_take h
  rcases Nat.eq_zero_or_pos k with rfl | hk
  · rw [ht.1 rfl, List.length_append] at h2
    exact ⟨by simp only [if_true]; omega, fun h => by omega⟩
  · have := ht.2 hk
    rw [this] at h2
    simp only [List.length_append, List.length_cons, List.length_nil] at h2
    exact ⟨by rw [if_neg (by omega)]; omega, fun _ => by omega⟩
set_option maxHeartbeats 8000000 in
theorem listX_any {w0 : World} {b : Nat} {n : Int} (xs : List Ex) (A : Option Addr) (c : Nat) (hrow : Row 5 exC w0 A xs) (hl : xs.length ≤ most) (HE : ∀ x ∈ xs, ElX w0 b n x) {w : World} {l : List UInt8} (h : Wt w w0.heap.size b n l) (hb : Below w0.heap.size w0 w) (hs : l.length + (TLX xs).length ≤ room) :
    Calls Tryz.prog 91 #[pb b, .slice A xs.length c, .func (.func 22) #[pb b] #[]] w (Wrote w0.heap.size b n (l ++ TLX xs) w) := by
  unfold most at hl
  unfold ElX at HE
  have hTL : TLX xs = [40] ++ (TCX xs ++ [41]) := rfl
  rw [hTL] at hs ⊢
  have HS : Hid (l.length + (TCX xs).length + 2 ≤ room) := Lib.hid (by simp only [List.length_append, List.length_cons, List.length_nil] at hs; omega)
  have HROW := Lib.hid hrow
  have HEL := Lib.hid HE
  have HB := Lib.hid hb
  have HLO := Lib.hid h.lo
  have C1 := Lib.hid (lay1 h ⟨#[40]⟩ (by have := HS.out; rw [show (⟨#[40]⟩ : ByteArray).size = 1 from rfl]; omega))
  obtain ⟨m, hm⟩ : ∃ m, xs.length = m := ⟨_, rfl⟩
  rw [hm] at hl ⊢
  have HM := Lib.hid hm
  clear hrow HE h hb hs hm hTL
  go_enter Tryz.func91, Tryz.ntmps91
  go_wp2_with fail
  refine C1.out.mono ?_
  rintro e1 w1 ⟨rfl, h1, h2⟩
  have K1 := Lib.hid h1
  have K2 := Lib.hid h2
  clear h1 h2
  go_wp2_with fail
  go_loopw [13] (fun i wr => ∃ k : Nat, k ≤ m ∧ i = .int .i64 k ∧ Hid (Wt wr w0.heap.size b n (l ++ [40] ++ TCX (xs.take k))) ∧ Hid (Stp w0.heap.size b w wr)) (fun i _ => m - (intOf i).toNat)
  case atStart => exact ⟨0, Nat.zero_le _, rfl, Lib.hid (by rw [List.take_zero, show TCX [] = [] from rfl, List.append_nil]; exact K1.out), K2⟩
  case round =>
    obtain ⟨k, hk, rfl, H1, H2⟩ := hrel
    by_cases hlt : k < m
    · obtain ⟨x, hx⟩ : ∃ x, xs[k]? = some x := ⟨_, List.getElem?_eq_getElem (by rw [HM.out]; exact hlt)⟩
      have HTK := Lib.hid (TCX_take hx)
      have HTL := Lib.hid (TCX_len hx)
      obtain ⟨b1, o1, ha, hc1⟩ := HROW.out.at_ (HB.out.trans H2.out.below) hx
      subst ha
      obtain ⟨p0, p1, p2, p3, p4⟩ := exC_at hc1
      have CX := Lib.hid (HEL.out x (List.mem_of_getElem? hx))
      have HX := Lib.hid hx
      obtain ⟨T0, S0, HN0, hne⟩ := H1.out.box #[.int .i64 x.op, .int .i64 x.n, .string x.s, .string x.q, .slice x.a x.x.length x.c] 42
      have GN := Lib.hid hne
      clear hc1 hx hne
      rcases Nat.eq_zero_or_pos k with hk0 | hk0
      · have hkz : ¬ 0 < k := by omega
        have HK0 := Lib.hid hk0
        have C2 := Lib.hid (CX.out _ _ T0 (HB.out.trans (H2.out.below.trans S0.below)) (by
          have := HS.out
          have := HTL.out
          rw [List.length_append, List.length_append, List.length_cons, List.length_nil]
          omega))
        rw [exV_eq] at C2
        obtain ⟨z0, z1, z2, z3, z4⟩ := x5 HN0
        have GS := Lib.hid (H2.out.trans S0)
        clear T0 S0 HN0 hk0
        go_wp2_with fail
        refine C2.out.mono ?_
        rintro e1 w3 ⟨rfl, h1, h2⟩
        have G1 := Lib.hid h1
        have G2 := Lib.hid (GS.out.trans h2)
        clear h1 h2
        go_wp2_with fail
        go_roundw
        case rel =>
          refine ⟨k + 1, by omega, rfl, Lib.hid ?_, G2⟩
          have := G1.out
          have hk0 := HK0.out
          subst hk0
          rw [List.append_assoc, ← HTK.out.1 rfl] at this
          exact this
        case measure => simp [intOf]; omega
      · have C2 := Lib.hid (lay1 T0 ⟨#[44, 32]⟩ (by
          have := HS.out
          have := HTL.out
          rw [show (⟨#[44, 32]⟩ : ByteArray).size = 2 from rfl, List.length_append, List.length_append, List.length_cons, List.length_nil]
          omega))
        have hkz : 0 < k := hk0
        rw [World.size_alloc] at C2
        have HK0 := Lib.hid hk0
        have GH := Lib.hid HN0
        have GS := Lib.hid (H2.out.trans S0)
        clear T0 S0 HN0 hk0
        go_wp2_with fail
        refine C2.out.mono ?_
        rintro e1 w3 ⟨rfl, h1, h2⟩
        have HN3 := h2.keep _ _ _ (by decide) GN.out GH.out
        obtain ⟨z0, z1, z2, z3, z4⟩ := x5 HN3
        have C3 := Lib.hid (CX.out _ _ h1 (HB.out.trans (GS.out.below.trans h2.below)) (by
          have := HS.out
          have := HTL.out
          rw [List.length_append, List.length_append, List.length_append, List.length_cons, List.length_nil, show (⟨#[44, 32]⟩ : ByteArray).data.toList.length = 2 from rfl]
          omega))
        rw [exV_eq] at C3
        have GS3 := Lib.hid (GS.out.trans h2)
        clear h1 h2 HN3
        go_wp2_with fail
        refine C3.out.mono ?_
        rintro e1 w4 ⟨rfl, h1, h2⟩
        have G1 := Lib.hid h1
        have G2 := Lib.hid (GS3.out.trans h2)
        clear h1 h2
        go_wp2_with fail
        go_roundw
        case rel =>
          refine ⟨k + 1, by omega, rfl, Lib.hid ?_, G2⟩
          have := G1.out
          rw [HTK.out.2 HK0.out]
          simpa using this
        case measure => simp [intOf]; omega
    · obtain rfl : k = m := by omega
      have h1 := H1.out
      rw [List.take_of_length_le (Nat.le_of_eq HM.out)] at h1
      have C2 := Lib.hid (lay1 h1 ⟨#[41]⟩ (by
        have := HS.out
        rw [show (⟨#[41]⟩ : ByteArray).size = 1 from rfl, List.length_append, List.length_append, List.length_cons, List.length_nil]
        omega))
      clear h1
      go_wp2_with fail
      refine C2.out.mono ?_
      rintro e1 w3 ⟨rfl, h1, h2⟩
      have G1 := Lib.hid h1
      have G2 := Lib.hid (H2.out.trans h2)
      clear h1 h2
      go_wp2_with fail
      go_end0
      exact ⟨rfl, by simpa using G1.out, G2.out⟩
end Go.Proofs.YtmihlmlojmdhjaaGreatDoor.Wr
