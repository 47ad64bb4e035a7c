/-
  What the grammar tells is right, and no greater than its words: statements, functions, files. No condition.
-/
import Derived.Test.YtmihlmlojmdhjaaGreatDoorQ18
import Derived.Test.YtmihlmlojmdhjaaGreatDoorQ22
import Derived.Test.YtmihlmlojmdhjaaGreatDoorQ23
import Derived.Test.YtmihlmlojmdhjaaGreatDoorQ28
import Derived.Test.YtmihlmlojmdhjaaGreatDoorQ29
namespace Go.Proofs.YtmihlmlojmdhjaaGreatDoor.Prg
open Tre Prs
set_option maxRecDepth 100000
/-- How much a statement is: itself, its expression, its parts. -/
def wtS : Ts → Nat
  | .mk _ _ e b b2 => 1 + sizeT e + (b.attach.map (fun ⟨y, _⟩ => wtS y)).sum + (b2.attach.map (fun ⟨y, _⟩ => wtS y)).sum
def sumS (l : List Ts) : Nat := (l.map wtS).sum
theorem wtS_eq (op : Int) (s : List UInt8) (e : Tx) (b b2 : List Ts) : wtS (.mk op s e b b2) = 1 + sizeT e + sumS b + sumS b2 := by
  rw [wtS]
  congr 1
  · congr 1
    unfold sumS
    congr 1
    exact List.map_subtype (fun _ _ => rfl) |>.trans (by simp)
  · unfold sumS
    congr 1
    exact List.map_subtype (fun _ _ => rfl) |>.trans (by simp)
theorem sumS_app (l m : List Ts) : sumS (l ++ m) = sumS l + sumS m := by simp [sumS]
theorem sumS_one (x : Ts) : sumS [x] = wtS x := by simp [sumS]
theorem sumS_nil : sumS [] = 0 := rfl
theorem size_nil : sizeT nilT = 1 := by unfold nilT; rw [sizeT_eq, sumT_nil]
/-- A right statement. -/
inductive OkS : Ts → Prop
  | def_ (s : List UInt8) (e : Tx) (h : Lex.nameOk s = true) (he : OkX e) : OkS (.mk 1 s e [] [])
  | set_ (s : List UInt8) (e : Tx) (h : Lex.nameOk s = true) (he : OkX e) : OkS (.mk 2 s e [] [])
  | if_ (e : Tx) (b b2 : List Ts) (he : OkX e) (hb : ∀ y ∈ b, OkS y) (hb2 : ∀ y ∈ b2, OkS y) : OkS (.mk 3 [] e b b2)
  | for_ (e : Tx) (b : List Ts) (he : OkX e) (hb : ∀ y ∈ b, OkS y) : OkS (.mk 4 [] e b [])
  | ret (e : Tx) (he : OkX e) : OkS (.mk 5 [] e [] [])
  | retn : OkS (.mk 5 [] nilT [] [])
  | print (e : Tx) (he : OkX e) : OkS (.mk 6 [] e [] [])
  | call (s q : List UInt8) (x : List Tx) (he : OkX (.mk 4 0 s q x)) : OkS (.mk 7 [] (.mk 4 0 s q x) [] [])
  | brk : OkS (.mk 8 [] nilT [] [])
  | nxt : OkS (.mk 9 [] nilT [] [])
theorem not_badS {j : SJob} {r : PS} (h : (tellS j r).2.bad = false) : r.bad = false := by
  cases hb : r.bad with
  | false => rfl
  | true => rw [tellS_bad hb] at h; cases h
theorem forX_suf (r : PS) : (forX r).2.l <:+ r.l := by
  unfold forX
  split
  · exact List.suffix_refl _
  · exact tell_suf _ _
theorem retS_suf (r : PS) : (retS r).2.l <:+ r.l := by
  unfold retS
  split
  · exact tell_suf _ _
  · exact List.suffix_refl _
theorem prtS_suf (r : PS) : (prtS r).2.l <:+ r.l := (mustW_suf _ _).trans ((tell_suf _ _).trans (mustW_suf _ _))
theorem nameS_suf (s : List UInt8) (r : PS) : (nameS s r).2.l <:+ r.l := by
  unfold nameS
  split
  · exact (tell_suf _ _).trans (tl_suf r)
  split
  · exact (tell_suf _ _).trans (tl_suf r)
  · exact tell_suf _ _
theorem runS_suf : ∀ (n : Nat) (j : SJob) (r : PS), (runS n j r).2.l <:+ r.l
  | 0, _, _ => List.suffix_refl _
  | n + 1, .block, r => (runS_suf n _ _).trans (mustW_suf _ _)
  | n + 1, .loop l, r => by
    unfold runS
    split
    · exact mustW_suf _ _
    split
    · exact (runS_suf n _ _).trans ((tl_suf _).trans (runS_suf n _ _))
    · exact (mustW_suf _ _).trans (runS_suf n _ _)
  | n + 1, .when, r => by
    have h1 := (runS_suf n .block (tell (.row 0) r).2).trans (tell_suf (.row 0) r)
    unfold runS
    split
    · split
      · exact (runS_suf n _ _).trans ((tl_suf _).trans ((tl_suf _).trans h1))
      · exact (runS_suf n _ _).trans ((tl_suf _).trans h1)
    · exact h1
  | n + 1, .stmt, r => by
    unfold runS
    split
    · exact (runS_suf n _ _).trans (tl_suf r)
    split
    · exact (runS_suf n _ _).trans ((forX_suf _).trans (tl_suf r))
    split
    · exact (retS_suf _).trans (tl_suf r)
    split
    · exact (prtS_suf _).trans (tl_suf r)
    split
    · exact tl_suf r
    split
    · exact tl_suf r
    · exact (nameS_suf _ _).trans (wordR_suf _ _ _)
theorem tellS_suf (j : SJob) (r : PS) : (tellS j r).2.l <:+ r.l := runS_suf _ _ _
/-- What a job of statements brings along, and how much it takes at least. -/
def SOk : SJob → Prop
  | .loop l => ∀ y ∈ l, OkS y
  | _ => True
def sbase : SJob → Nat
  | .loop l => sumS l
  | _ => 0
def sless : SJob → Nat
  | .block => 6
  | .loop _ => 3
  | _ => 0
theorem one_le (x : Tx) : 1 ≤ sizeT x := by cases x; rw [sizeT_eq]; omega
end Go.Proofs.YtmihlmlojmdhjaaGreatDoor.Prg
/- What the grammar tells is right, and no greater than its words: functions, files. No condition. -/
namespace Go.Proofs.YtmihlmlojmdhjaaGreatDoor.Prg
open Tre Prs
set_option maxRecDepth 100000
def OkP (p : Tp) : Prop := Lex.nameOk p.s = true ∧ (p.t = 1 ∨ p.t = 2)
def OkF (f : Tf) : Prop := Lex.nameOk f.s = true ∧ f.p.length ≤ 4 ∧ (∀ p ∈ f.p, OkP p) ∧ (f.r = 0 ∨ f.r = 1 ∨ f.r = 2) ∧ ∀ y ∈ f.b, OkS y
def wordOk (s : List UInt8) : Prop := Lex.nameOk s = true ∨ Lex.keyB s = true
def OkL (f : Tl) : Prop := wordOk f.s ∧ f.i.length ≤ 8 ∧ f.f.length ≤ 32 ∧ (∀ s ∈ f.i, wordOk s) ∧ ∀ g ∈ f.f, OkF g
def wtF (f : Tf) : Nat := 1 + sumS f.b
def sumF (l : List Tf) : Nat := (l.map wtF).sum
theorem sumF_app (l m : List Tf) : sumF (l ++ m) = sumF l + sumF m := by simp [sumF]
theorem sumF_one (x : Tf) : sumF [x] = wtF x := by simp [sumF]
theorem typeN_kind (r : PS) : typeN r = 0 ∨ typeN r = 1 ∨ typeN r = 2 := by
  unfold typeN
  split
  · exact .inr (.inl rfl)
  split
  · exact .inr (.inr rfl)
  · exact .inl rfl
theorem typeR_suf (r : PS) : (typeR r).l <:+ r.l := by
  unfold typeR
  split
  · exact tl_suf r
  · exact List.suffix_refl _
theorem typeMust_suf (r : PS) : (typeMust r).l <:+ r.l := by
  unfold typeMust
  split
  · exact typeR_suf r
  · exact typeR_suf r
end Go.Proofs.YtmihlmlojmdhjaaGreatDoor.Prg
/- What is printed of statements and files, word by word, is told as it was: the grammar. No condition. -/
namespace Go.Proofs.YtmihlmlojmdhjaaGreatDoor.Prg
open Tre Prs
open Lex (Wd)
set_option maxRecDepth 100000
abbrev tx (s : List UInt8) : Wd := ⟨3, s, 0⟩
/-- Statements in brackets; ws: the words of each. -/
def blockW (ws : List (List Wd)) : List Wd := sg [123] :: (ws.flatMap (fun w => w ++ [sg [59]]) ++ [sg [125]])
def wordsS : Ts → List Wd
  | .mk op s e b b2 =>
    if op = 1 then nm s :: sg [58, 61] :: wordsX e else if op = 2 then nm s :: sg [61] :: wordsX e
    else if op = 3 then kw wIf :: (wordsX e ++ blockW (b.attach.map fun ⟨y, _⟩ => wordsS y) ++ (if b2.isEmpty then [] else kw wElse :: blockW (b2.attach.map fun ⟨y, _⟩ => wordsS y)))
    else if op = 4 then kw wFor :: (wordsX e ++ blockW (b.attach.map fun ⟨y, _⟩ => wordsS y))
    else if op = 5 then (if opOf e = 0 then [kw wReturn] else kw wReturn :: wordsX e)
    else if op = 6 then kw wPrint :: sg [40] :: (wordsX e ++ [sg [41]])
    else if op = 7 then wordsX e
    else if op = 8 then [kw wBreak] else [kw wNext]
def wordsB (b : List Ts) : List Wd := blockW (b.map wordsS)
theorem attachS (b : List Ts) : (b.attach.map fun ⟨y, _⟩ => wordsS y) = b.map wordsS := List.map_subtype (fun _ _ => rfl) |>.trans (by simp)
theorem wordsS_if (s : List UInt8) (e : Tx) (b b2 : List Ts) : wordsS (.mk 3 s e b b2) = kw wIf :: (wordsX e ++ wordsB b ++ (if b2.isEmpty then [] else kw wElse :: wordsB b2)) := by
  rw [wordsS]
  simp only [show ¬ (3 : Int) = 1 by decide, show ¬ (3 : Int) = 2 by decide, if_false, if_true]
  rw [attachS, attachS]
  rfl
theorem wordsS_for (s : List UInt8) (e : Tx) (b b2 : List Ts) : wordsS (.mk 4 s e b b2) = kw wFor :: (wordsX e ++ wordsB b) := by
  rw [wordsS]
  simp only [show ¬ (4 : Int) = 1 by decide, show ¬ (4 : Int) = 2 by decide, show ¬ (4 : Int) = 3 by decide, if_false, if_true]
  rw [attachS]
  rfl
theorem wordsS_def (s : List UInt8) (e : Tx) (b b2 : List Ts) : wordsS (.mk 1 s e b b2) = nm s :: sg [58, 61] :: wordsX e := by rw [wordsS]; simp
theorem wordsS_set (s : List UInt8) (e : Tx) (b b2 : List Ts) : wordsS (.mk 2 s e b b2) = nm s :: sg [61] :: wordsX e := by rw [wordsS]; simp
theorem wordsS_ret (s : List UInt8) (e : Tx) (b b2 : List Ts) : wordsS (.mk 5 s e b b2) = if opOf e = 0 then [kw wReturn] else kw wReturn :: wordsX e := by rw [wordsS]; simp
theorem wordsS_prt (s : List UInt8) (e : Tx) (b b2 : List Ts) : wordsS (.mk 6 s e b b2) = kw wPrint :: sg [40] :: (wordsX e ++ [sg [41]]) := by rw [wordsS]; simp
theorem wordsS_call (s : List UInt8) (e : Tx) (b b2 : List Ts) : wordsS (.mk 7 s e b b2) = wordsX e := by rw [wordsS]; simp
theorem wordsS_brk (s : List UInt8) (e : Tx) (b b2 : List Ts) : wordsS (.mk 8 s e b b2) = [kw wBreak] := by rw [wordsS]; simp
theorem wordsS_nxt (s : List UInt8) (e : Tx) (b b2 : List Ts) : wordsS (.mk 9 s e b b2) = [kw wNext] := by rw [wordsS]; simp
theorem stmt_nm (s : List UInt8) (l : List Wd) (B : Bool) : tellS .stmt ⟨nm s :: l, false, B⟩ = nameS s ⟨l, false, B⟩ := by
  rw [tellS_stmt]
  simp only [isW_nm, Bool.false_eq_true, if_false, wordR_nm, wordS_nm]
theorem ok_op {e : Tx} (h : OkX e) : opOf e ≠ 0 := by
  cases h <;> simp only [opOf] <;> omega
/-- What a statement's words begin with ends no block. -/
theorem headS_not {y : Ts} (h : OkS y) (l : List Wd) (B : Bool) : isW ⟨wordsS y ++ l, false, B⟩ [125] = false := by
  cases h with
  | def_ s e h he => rw [wordsS_def]; exact isW_nm _ _ _ _
  | set_ s e h he => rw [wordsS_set]; exact isW_nm _ _ _ _
  | if_ e b b2 he hb hb2 => rw [wordsS_if, List.cons_append, isW_kw]; decide
  | for_ e b he hb => rw [wordsS_for, List.cons_append, isW_kw]; decide
  | ret e he => rw [wordsS_ret, if_neg (ok_op he), List.cons_append, isW_kw]; decide
  | retn => rw [wordsS_ret, if_pos (by rfl), List.cons_append, isW_kw]; decide
  | print e he => rw [wordsS_prt, List.cons_append, isW_kw]; decide
  | call s q x he => rw [wordsS_call]; exact head_not he l B (.inr (.inr (.inl rfl)))
  | brk => rw [wordsS_brk, List.cons_append, isW_kw]; decide
  | nxt => rw [wordsS_nxt, List.cons_append, isW_kw]; decide
def StT (y : Ts) : Prop := ∀ (l : List Wd) (B : Bool), tellS .stmt ⟨wordsS y ++ sg [59] :: l, false, B⟩ = ([y], ⟨sg [59] :: l, false, B⟩)
theorem loop_of (l : List Wd) (B : Bool) : ∀ (ys xs : List Ts), (∀ y ∈ ys, OkS y ∧ StT y) → tellS (.loop xs) ⟨(ys.map wordsS).flatMap (fun w => w ++ [sg [59]]) ++ sg [125] :: l, false, B⟩ = (xs ++ ys, ⟨l, false, B⟩)
  | [], xs, _ => by
    simp only [List.map_nil, List.flatMap_nil, List.nil_append]
    rw [tellS_loop, if_pos (by simp [isW_sg]), mustW_sg, List.append_nil]
  | y :: ys, xs, h => by
    have hy := h y (by simp)
    simp only [List.map_cons, List.flatMap_cons]
    rw [List.append_assoc, List.append_assoc, List.singleton_append, tellS_loop, if_neg (by rw [headS_not hy.1]; simp), hy.2]
    dsimp only
    rw [if_pos (by rw [isW_sg]; decide), tl_cons, loop_of l B ys (xs ++ [y]) (fun z hz => h z (by simp [hz])), List.append_assoc, List.singleton_append]
theorem block_of {b : List Ts} (h : ∀ y ∈ b, OkS y ∧ StT y) (l : List Wd) (B : Bool) : tellS .block ⟨wordsB b ++ l, false, B⟩ = (b, ⟨l, false, B⟩) := by
  unfold wordsB blockW
  rw [tellS_block, List.cons_append, mustW_sg, List.append_assoc, List.singleton_append, loop_of l B b [] h, List.nil_append]
theorem le_sumS {y : Ts} : ∀ {l : List Ts}, y ∈ l → wtS y ≤ sumS l
  | [], h => by simp at h
  | x :: l, h => by
    have e : sumS (x :: l) = wtS x + sumS l := by simp [sumS]
    rcases List.mem_cons.1 h with rfl | h
    · omega
    · have := le_sumS h
      omega
theorem blockW_head (b : List Ts) (l : List Wd) (B : Bool) (t : List UInt8) : isW ⟨wordsB b ++ l, false, B⟩ t = ([123] == t) := by
  unfold wordsB blockW
  rw [List.cons_append, isW_sg]
theorem told_st : ∀ (m : Nat) (y : Ts), wtS y ≤ m → OkS y → StT y := fun m => by
  induction m with
  | zero => intro y hm; obtain ⟨o, s, e, b, b2⟩ := y; rw [wtS_eq] at hm; omega
  | succ m ih =>
    intro y hm h l B
    cases h with
    | def_ s e h he =>
      rw [wordsS_def, List.cons_append, stmt_nm, List.cons_append]
      unfold nameS
      rw [if_pos (by rw [isW_sg]; decide), tl_cons, told_words he (stop_sg [59] l B (by simp))]
      rfl
    | set_ s e h he =>
      rw [wordsS_set, List.cons_append, stmt_nm, List.cons_append]
      unfold nameS
      rw [if_neg (by rw [isW_sg]; decide), if_pos (by rw [isW_sg]; decide), tl_cons, told_words he (stop_sg [59] l B (by simp))]
      rfl
    | if_ e b b2 he hb hb2 =>
      rw [wtS_eq] at hm
      have kb : ∀ y ∈ b, OkS y ∧ StT y := fun y hy => ⟨hb y hy, ih y (by have := le_sumS hy; omega) (hb y hy)⟩
      have kb2 : ∀ y ∈ b2, OkS y ∧ StT y := fun y hy => ⟨hb2 y hy, ih y (by have := le_sumS hy; omega) (hb2 y hy)⟩
      rw [wordsS_if, List.cons_append, tellS_stmt, if_pos (by rw [isW_kw]; decide), tl_cons, List.append_assoc, List.append_assoc]
      have h1 : ∀ r, tell (.row 0) ⟨wordsX e ++ (wordsB b ++ r), false, B⟩ = (e, ⟨wordsB b ++ r, false, B⟩) := fun r => by
        unfold wordsB blockW
        rw [List.cons_append]
        exact told_words he (stop_sg [123] _ B (by simp))
      rw [tellS_when, h1]
      dsimp only
      rw [block_of kb]
      dsimp only
      cases b2 with
      | nil =>
        simp only [List.isEmpty_nil, if_true, List.nil_append]
        rw [if_neg (by rw [isW_sg]; decide)]
        rfl
      | cons z r =>
        simp only [List.isEmpty_cons, Bool.false_eq_true, if_false]
        rw [List.cons_append, if_pos (by rw [isW_kw]; decide), tl_cons, if_neg (by rw [blockW_head]; decide), block_of kb2]
        rfl
    | for_ e b he hb =>
      rw [wtS_eq] at hm
      have kb : ∀ y ∈ b, OkS y ∧ StT y := fun y hy => ⟨hb y hy, ih y (by have := le_sumS hy; omega) (hb y hy)⟩
      have h1 : ∀ r, tell (.row 0) ⟨wordsX e ++ (wordsB b ++ r), false, B⟩ = (e, ⟨wordsB b ++ r, false, B⟩) := fun r => by
        unfold wordsB blockW
        rw [List.cons_append]
        exact told_words he (stop_sg [123] _ B (by simp))
      rw [wordsS_for, List.cons_append, tellS_stmt, if_neg (by rw [isW_kw]; decide), if_pos (by rw [isW_kw]; decide), tl_cons, List.append_assoc]
      unfold forX
      rw [if_neg (by rw [head_not he _ B (.inr (.inr (.inr rfl)))]; simp), h1]
      dsimp only
      rw [block_of kb]
      rfl
    | ret e he =>
      rw [wordsS_ret, if_neg (ok_op he), List.cons_append, tellS_stmt, if_neg (by rw [isW_kw]; decide), if_neg (by rw [isW_kw]; decide), if_pos (by rw [isW_kw]; decide), tl_cons]
      unfold retS
      rw [if_pos (by rw [head_not he _ B (.inr (.inl rfl)), head_not he _ B (.inr (.inr (.inl rfl)))]; rfl), told_words he (stop_sg [59] l B (by simp))]
      rfl
    | retn =>
      rw [wordsS_ret, if_pos (by rfl), List.cons_append, List.nil_append, tellS_stmt, if_neg (by rw [isW_kw]; decide), if_neg (by rw [isW_kw]; decide), if_pos (by rw [isW_kw]; decide), tl_cons]
      unfold retS
      rw [if_neg (by simp [isW_sg])]
      rfl
    | print e he =>
      rw [wordsS_prt, List.cons_append, tellS_stmt, if_neg (by rw [isW_kw]; decide), if_neg (by rw [isW_kw]; decide), if_neg (by rw [isW_kw]; decide), if_pos (by rw [isW_kw]; decide), tl_cons]
      unfold prtS
      rw [List.cons_append, mustW_sg, List.append_assoc, List.singleton_append, told_words he (stop_sg [41] _ B (by simp))]
      dsimp only
      rw [mustW_sg]
      rfl
    | call s q x he =>
      have hu := (told_upto _ _ (Nat.le_refl _) he).1 (by simp [opOf]) (sg [59] :: l) B (by rw [isW_sg]; decide) (by rw [isW_sg]; decide)
      rw [wordsS_call]
      rw [wordsX_call] at hu ⊢
      unfold headW at hu ⊢
      split at hu
      · next hq =>
        rw [if_pos hq]
        simp only [List.cons_append, List.nil_append] at hu ⊢
        rw [un_nm, isW_sg, if_pos (by simp)] at hu
        rw [stmt_nm]
        unfold nameS
        rw [if_neg (by rw [isW_sg]; decide), if_neg (by rw [isW_sg]; decide), hu]
        rfl
      · next hq =>
        rw [if_neg hq]
        simp only [List.cons_append, List.nil_append] at hu ⊢
        rw [un_nm, isW_sg, if_pos (by simp [isW_sg])] at hu
        rw [stmt_nm]
        unfold nameS
        rw [if_neg (by rw [isW_sg]; decide), if_neg (by rw [isW_sg]; decide), hu]
        rfl
    | brk =>
      rw [wordsS_brk, List.cons_append, List.nil_append, tellS_stmt, if_neg (by rw [isW_kw]; decide), if_neg (by rw [isW_kw]; decide), if_neg (by rw [isW_kw]; decide), if_neg (by rw [isW_kw]; decide), if_pos (by rw [isW_kw]; decide), tl_cons]
      rfl
    | nxt =>
      rw [wordsS_nxt, List.cons_append, List.nil_append, tellS_stmt, if_neg (by rw [isW_kw]; decide), if_neg (by rw [isW_kw]; decide), if_neg (by rw [isW_kw]; decide), if_neg (by rw [isW_kw]; decide), if_neg (by rw [isW_kw]; decide), if_pos (by rw [isW_kw]; decide), tl_cons]
      rfl
/-- A block's words tell it. -/
theorem told_block {b : List Ts} (h : ∀ y ∈ b, OkS y) (l : List Wd) (B : Bool) : tellS .block ⟨wordsB b ++ l, false, B⟩ = (b, ⟨l, false, B⟩) := block_of (fun y hy => ⟨h y hy, told_st _ y (Nat.le_refl _) (h y hy)⟩) l B
end Go.Proofs.YtmihlmlojmdhjaaGreatDoor.Prg
