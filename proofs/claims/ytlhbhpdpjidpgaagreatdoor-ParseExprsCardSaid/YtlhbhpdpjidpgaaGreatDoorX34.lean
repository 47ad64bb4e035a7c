/-
  What the grammar tells has as many brackets { as }; a file ends in the sign ;. No condition.
-/
import Derived.Test.YtlhbhpdpjidpgaaGreatDoorX21
import Derived.Test.YtlhbhpdpjidpgaaGreatDoorX27
import Derived.Test.YtlhbhpdpjidpgaaGreatDoorX30
import Derived.Test.YtlhbhpdpjidpgaaGreatDoorX31
import Derived.Test.YtlhbhpdpjidpgaaGreatDoorX32
import Derived.Test.YtlhbhpdpjidpgaaGreatDoorX33
namespace Go.Proofs.YtlhbhpdpjidpgaaGreatDoor.Prg
open Tre Prs
set_option maxRecDepth 100000
def vs (s : List UInt8) : Int := if s == [123] then 1 else if s == [125] then -1 else 0
def val (x : Lex.Wd) : Int := if x.k == 5 || x.k == 4 then vs x.s else 0
def cnt (l : List Lex.Wd) : Int := (l.map val).sum
theorem cnt_app (l m : List Lex.Wd) : cnt (l ++ m) = cnt l + cnt m := by simp [cnt]
theorem peek_cons {r : PS} (h : (peek r).k ≠ 0) : r.l = peek r :: (tl r).l := by
  obtain ⟨h1, h2⟩ := peek_k h
  unfold peek tl
  cases hl : r.l with
  | nil => rw [hl] at h2; simp at h2
  | cons x t => simp [h1]
theorem isW_kind {r : PS} {s : List UInt8} (h : isW r s = true) : ((peek r).k == 5 || (peek r).k == 4) = true ∧ (peek r).s = s := by
  unfold isW at h
  simp only [Bool.and_eq_true, beq_iff_eq] at h
  exact h
theorem cnt_is {r : PS} {s : List UInt8} (h : isW r s = true) : cnt r.l = vs s + cnt (tl r).l := by
  obtain ⟨h1, h2⟩ := isW_kind h
  have hk : (peek r).k ≠ 0 := by
    intro e
    rw [e] at h1
    simp at h1
  have e := congrArg cnt (peek_cons hk)
  rw [e]
  unfold cnt
  rw [List.map_cons, List.sum_cons]
  unfold val
  rw [if_pos h1, h2]
theorem cnt_k {r : PS} (h0 : (peek r).k ≠ 0) (h4 : (peek r).k ≠ 4) (h5 : (peek r).k ≠ 5) : cnt r.l = cnt (tl r).l := by
  have e := congrArg cnt (peek_cons h0)
  rw [e]
  unfold cnt
  rw [List.map_cons, List.sum_cons]
  unfold val
  rw [if_neg (by simp [h4, h5])]
  omega
theorem cnt_must {r : PS} {s : List UInt8} (h : (mustW r s).bad = false) : cnt r.l = vs s + cnt (mustW r s).l := by
  unfold mustW at h ⊢
  by_cases hi : isW r s = true
  · rw [if_pos hi]
    exact cnt_is hi
  · rw [if_neg hi] at h
    cases h
theorem cnt_name {r : PS} (h : (wordR r 1 false).bad = false) : cnt r.l = cnt (wordR r 1 false).l := by
  obtain ⟨h1, _, h3⟩ := wordNo_kind h
  rw [h3]
  exact cnt_k (by omega) (by omega) (by omega)
theorem level_vs {k : Nat} : ∀ p ∈ level k, vs p.1 = 0 := by
  intro p hp
  unfold level at hp
  repeat' split at hp
  all_goals (simp at hp; rcases hp with rfl | hp <;> first | decide | skip)
  all_goals (first | (rcases hp with rfl | rfl | rfl | rfl | rfl <;> decide) | (rcases hp with rfl | rfl <;> decide) | (subst hp; decide))
theorem callEnd_cnt {q s : List UInt8} {x : List Tx} {r : PS} (h : (callEnd q s x r).2.bad = false) : cnt r.l = cnt (callEnd q s x r).2.l := by
  have := cnt_must (r := r) (s := [41]) h
  rw [show vs [41] = 0 by decide] at this
  show cnt r.l = cnt (mustW r [41]).l
  omega
theorem not_badT {j : SJob} {r : PS} (h : (tellS j r).2.bad = false) : r.bad = false := by
  cases hb : r.bad with
  | false => rfl
  | true => rw [tellS_bad hb] at h; cases h
def sv : SJob → Int
  | .loop _ => 1
  | _ => 0
end Go.Proofs.YtlhbhpdpjidpgaaGreatDoor.Prg
/- A file has as many brackets { as }, and its last word is the sign ;. No condition. -/
namespace Go.Proofs.YtlhbhpdpjidpgaaGreatDoor.Prg
open Tre Prs
set_option maxRecDepth 100000
theorem cnt_typeR (r : PS) : cnt r.l = cnt (typeR r).l := by
  unfold typeR
  by_cases h1 : isW r wInt = true
  · rw [if_pos (by simp [h1])]
    have := cnt_is h1
    rw [show vs wInt = 0 by decide] at this
    omega
  · by_cases h2 : isW r wBool = true
    · rw [if_pos (by simp [h2])]
      have := cnt_is h2
      rw [show vs wBool = 0 by decide] at this
      omega
    · rw [if_neg (by simp [h1, h2])]
theorem key_val {x : Lex.Wd} (h : Lex.Good x) (hk : x.k = 4) : val x = 0 := by
  cases h with
  | name s c q e ha hd hl =>
    unfold val vs
    dsimp only
    have h1 : (s == [123]) = false := by
      cases h : s == [123] with
      | false => rfl
      | true => rw [show s = [123] by simpa using h] at ha; exact absurd ha (by decide)
    have h2 : (s == [125]) = false := by
      cases h : s == [125] with
      | false => rfl
      | true => rw [show s = [125] by simpa using h] at ha; exact absurd ha (by decide)
    rw [h1, h2]
    simp
  | num n h0 h1 => simp at hk
  | text s h => simp at hk
  | sign s h => simp at hk
/-- The last word of what was read is the sign ;, if all was read. -/
def LastS (o : List Lex.Wd) (r : PS) : Prop := r.bad = false → r.l = [] → ∃ w, o.getLast? = some w ∧ w.s = [59]
theorem last_must {o : List Lex.Wd} {q : PS} (hs : q.l <:+ o) : LastS o (mustW q [59]) := fun hb hl => by
  obtain ⟨m1, m2, m3, m4⟩ := mustW_ok hb
  have hi : isW q [59] = true := by
    unfold mustW at hb
    by_cases hi : isW q [59] = true
    · exact hi
    · rw [if_neg hi] at hb; cases hb
  obtain ⟨k1, k2⟩ := isW_kind hi
  have hc := peek_cons (r := q) (by intro e; rw [e] at k1; simp at k1)
  rw [m4] at hl
  rw [hl] at hc
  obtain ⟨p, hp⟩ := hs
  refine ⟨peek q, ?_, k2⟩
  rw [← hp, hc]
  simp
theorem last_im : ∀ (N : Nat) (xs : List (List UInt8)) (r : PS) (o : List Lex.Wd), lenR r ≤ N → r.l <:+ o → LastS o r → LastS o (tellI xs r).2 ∧ (tellI xs r).2.l <:+ o := by
  intro N
  induction N with
  | zero =>
    intro xs r o hl hs h
    have hi : isW r wImport = false := by
      cases hi : isW r wImport with
      | false => rfl
      | true => have := lenR_pos hi; omega
    rw [tellI_eq, if_neg (by simp [hi])]
    exact ⟨h, hs⟩
  | succ N ih =>
    intro xs r o hl hs h
    by_cases hi : isW r wImport = true
    · rw [tellI_eq, if_pos hi]
      have h1 := tl_ok hi
      have h3 := lenR_wordR (tl r) 3 false
      have h4 := lenR_mustW (wordR (tl r) 3 false) [59]
      have hsf : (wordR (tl r) 3 false).l <:+ o := (wordR_suf _ _ _).trans ((tl_suf r).trans hs)
      exact ih _ _ o (by omega) ((mustW_suf _ _).trans hsf) (last_must hsf)
    · rw [tellI_eq, if_neg hi]
      exact ⟨h, hs⟩
theorem file_open {x : Lex.Wd} {l : List Lex.Wd} (hx : x.s ≠ wPackage) : endE (fileD ⟨x :: l, false, false⟩).2 ≠ 0 := by
  have hi : isW ⟨x :: l, false, false⟩ wPackage = false := by
    cases h : isW ⟨x :: l, false, false⟩ wPackage with
    | false => rfl
    | true =>
      have := (isW_kind h).2
      have e : peek ⟨x :: l, false, false⟩ = x := by simp [peek]
      rw [e] at this
      exact absurd this hx
  have hm : (mustW ⟨x :: l, false, false⟩ wPackage).bad = true := by unfold mustW; rw [hi]; rfl
  have h1 : (headR ⟨x :: l, false, false⟩).bad = true := mustW_bad (wordR_bad hm 1 true (by decide)) _
  have h2 : (tellF [] (tellI [] (headR ⟨x :: l, false, false⟩)).2).2.bad = true := tellF_bad (tellI_bad h1)
  have h3 : (fileD ⟨x :: l, false, false⟩).2.bad = true := by unfold fileD; dsimp only; exact h2
  unfold endE
  rw [h3]
  simp
end Go.Proofs.YtlhbhpdpjidpgaaGreatDoor.Prg
/- What the law asks of files' trees. No condition. -/
namespace Go.Proofs.YtlhbhpdpjidpgaaGreatDoor.Prg
open Tre Prs
set_option maxRecDepth 100000
theorem pick3 {α : Type} {z x : α} {a c : Int} {b : Prop} [Decidable b] {r : α × Int} (hr : r = if a ≠ 0 then (z, a) else if b then (z, 11) else if c ≠ 0 then (z, c) else (x, 0)) : (r.2 = 0 → a = 0 ∧ c = 0 ∧ r.1 = x) ∧ (r.2 ≠ 0 → r.1 = z) := by
  subst hr
  by_cases h1 : a = 0
  · rw [if_neg (by simp [h1])]
    by_cases h2 : b
    · rw [if_pos h2]
      exact And.intro (fun h => absurd h (show (11 : Int) ≠ 0 by decide)) (fun _ => rfl)
    · rw [if_neg h2]
      by_cases h3 : c = 0
      · rw [if_neg (by simp [h3])]
        exact ⟨fun _ => ⟨h1, h3, rfl⟩, fun h => absurd rfl h⟩
      · rw [if_pos h3]
        exact ⟨fun h => absurd h h3, fun _ => rfl⟩
  · rw [if_pos h1]
    exact ⟨fun h => absurd h h1, fun _ => rfl⟩
theorem told_pick (t : List UInt8) : ((fileT t).2 = 0 → (Lex.words t).2 = 0 ∧ endE (fileD ⟨(Lex.words t).1, false, false⟩).2 = 0 ∧ (fileT t).1 = (fileD ⟨(Lex.words t).1, false, false⟩).1) ∧ ((fileT t).2 ≠ 0 → (fileT t).1 = zeroL) := pick3 (b := 24 < nestD (Lex.words t).1) (by unfold fileT; rfl)
theorem told_zero {t : List UInt8} (h : (fileT t).2 ≠ 0) : (fileT t).1 = zeroL := (told_pick t).2 h
theorem told_ok {t : List UInt8} (h : (fileT t).2 = 0) : (Lex.words t).2 = 0 ∧ endE (fileD ⟨(Lex.words t).1, false, false⟩).2 = 0 ∧ (fileT t).1 = (fileD ⟨(Lex.words t).1, false, false⟩).1 := (told_pick t).1 h
theorem told_no {t : List UInt8} (h : (Lex.words t).2 ≠ 0 ∨ endE (fileD ⟨(Lex.words t).1, false, false⟩).2 ≠ 0) : (fileT t).2 ≠ 0 := fun h0 => by
  obtain ⟨h1, h2, _⟩ := told_ok h0
  rcases h with h | h
  · exact h h1
  · exact h h2
theorem words_pair {t : List UInt8} (h : (Lex.words t).2 = 0) : Lex.words t = ((Lex.words t).1, 0) := by rw [← h]
theorem told_open {t : List UInt8} (h : (fileT t).2 = 0) : (fileT (123 :: t)).2 ≠ 0 := by
  obtain ⟨h1, _, _⟩ := told_ok h
  rcases Lex.words_open (words_pair h1) with h2 | h2
  · exact told_no (.inl h2)
  · refine told_no (.inr ?_)
    rw [h2]
    exact file_open (by decide)
end Go.Proofs.YtlhbhpdpjidpgaaGreatDoor.Prg
/- The program's File, Expr, Header. Conditions: the tables lie as the program's text lays them. -/
namespace Go.Proofs.YtlhbhpdpjidpgaaGreatDoor.Prg
open Go.RowKit Tre Prs
open Lex (Wd wdC wdV bs str Turn)
set_option maxRecDepth 100000
set_option linter.unusedSimpArgs false
variable {lo : Nat}
set_option maxHeartbeats 4000000 in
theorem exprb_any (w : World) (g : Nat) (r : PS) (h : InG lo w g r) : Calls Tryz.prog 29 #[.pointer (some ⟨g, 0, none⟩)] w (EvGX lo w g (exprP r)) := by
  have HG := Lib.hid h.rd.lt
  have HLO := Lib.hid h.rd.wlo
  have HB := Lib.hid (ball_new w #[.int .i64 0, .int .i64 0, .string ⟨#[]⟩, .string ⟨#[]⟩, .slice none 0 0] 36)
  have HI := Lib.hid (h.below HB.out)
  have CX := Lib.hid (exprG _ g r HI.out)
  clear h
  go_enter Tryz.func29, Tryz.ntmps29
  go_wp2_with fail
  refine CX.out.mono ?_
  rintro e w2 ⟨x, r', rfl, hx1, hx2, hx3, hx4, hx5⟩
  have HX1 := Lib.hid hx1
  have HX2 := Lib.hid hx2
  have HX3 := Lib.hid hx3
  have HX4 := Lib.hid hx4
  have HX5 := Lib.hid hx5
  rw [exV_eq]
  have hr2 := res_keep HG.out hx5
  have HB3 := Lib.hid (ball_new w2 #[.int .i64 x.op, .int .i64 x.n, .string x.s, .string x.q, .slice x.a x.x.length x.c] 36)
  have HN3 := Lib.hid (new_at w2 #[.int .i64 x.op, .int .i64 x.n, .string x.s, .string x.q, .slice x.a x.x.length x.c] 36)
  have HR3 := Lib.hid ((HB3.out.block _ (lt_of_heap hr2)).trans hr2)
  have CM := Lib.hid (must_any _ g r' [59] (hx4.below HB3.out))
  have HG2 : Hid (g < w2.heap.size) := Lib.hid hx4.lt
  clear hx1 hx2 hx3 hx4 hx5 hr2
  go_wp2_with fail
  refine CM.out.mono ?_
  rintro e w4 ⟨rfl, h1, h2⟩
  have G1 := Lib.hid h1
  have G2 := Lib.hid h2
  have HR4 := Lib.hid ((h2.block _ (lt_of_heap HR3.out) (by have := HG.out; simp; omega)).trans HR3.out)
  have hn4 := (h2.block _ (lt_of_heap HN3.out) (by have := HG2.out; simp; omega)).trans HN3.out
  obtain ⟨q0, q1, q2, q3, q4⟩ := five_at hn4
  clear h1 h2 hn4 CM
  obtain ⟨y0, y1, y2, y3, y4⟩ := five_at HR4.out
  have f0 := free_at HR4.out 0
  have f1 := free_at HR4.out 1
  have f2 := free_at HR4.out 2
  have f3 := free_at HR4.out 3
  have f4 := free_at HR4.out 4
  go_wp2_with fail
  have HT := Lib.hid (turn5 w4 w.heap.size (.int .i64 x.op) (.int .i64 x.n) (.string x.s) (.string x.q) (.slice x.a x.x.length x.c))
  refine bodyPost_ret (results_expr rfl _ _ w.heap.size _ _ _ _ _ rfl (set5 HR4.out)) rfl ?_
  have HEV := on_endG (q := exprP r) (w1 := w.alloc (.cells #[.int .i64 0, .int .i64 0, .string ⟨#[]⟩, .string ⟨#[]⟩, .slice none 0 0] 36)) (by simp) HLO.out HG.out HX2.out HX3.out HB.out (Turn.refl [g] _) HX5.out HB3.out G2.out G1.out HT.out (ag_must HX1.out [59])
  obtain ⟨y, r2, e1, e2, e3⟩ := HEV
  exact ⟨y, r2, e1, e2.w, e3⟩
theorem fileb_any (w : World) (g : Nat) (r : PS) (h : InG lo w g r) : Calls Tryz.prog 20 #[.pointer (some ⟨g, 0, none⟩)] w (EvGW lo w g (fileD r)) :=
  (file_any w g r h).mono fun _ _ ⟨f, r', h1, h2, h3⟩ => ⟨f, r', h1, h2.w, h3⟩
set_option maxHeartbeats 4000000 in
theorem parseFile_any (t : List UInt8) (w : World) (hT : Tabs w) : Calls Tryz.prog 7 #[.string (bs t)] w (TellF t w) := by
  have HB := Lib.hid (ball_new w #[.string ⟨#[]⟩, .slice none 0 0, .slice none 0 0] 26)
  have HN := Lib.hid (new_at w #[.string ⟨#[]⟩, .slice none 0 0, .slice none 0 0] 26)
  have CW := Lib.hid (wholeFile_any t _ (hT.below HB.out) (fun lo w' g r h => Lib.hid (fileb_any w' g r h)))
  clear hT
  generalize bs t = TX at *
  go_enter Tryz.func7, Tryz.ntmps7
  go_wp2_with fail
  refine CW.out.mono ?_
  rintro e w1 ⟨x, rfl, hc, hin, hnn, hb⟩
  unfold flV
  have HC := Lib.hid hc
  have HI := Lib.hid hin
  have HNN := Lib.hid hnn
  have T1 : Hid (Turn [] w w1) := Lib.hid (((Turn.refl [] w).below HB.out).below hb)
  have HR := Lib.hid ((hb.block _ (lt_of_heap HN.out)).trans HN.out)
  clear hc hin hnn hb CW
  obtain ⟨y0, y1, y2⟩ := three_at HR.out
  have f0 := free_at HR.out 0
  have f1 := free_at HR.out 1
  have f2 := free_at HR.out 2
  go_wp2_with fail
  have HT := Lib.hid (turn3 w1 w.heap.size (.string x.s) (.slice x.ia x.i.length x.ic) (.slice x.fa x.f.length x.fc))
  refine bodyPost_ret (results_fl2 rfl _ _ w.heap.size _ _ _ _ rfl rfl (set3 HR.out)) rfl ?_
  have hin := HI.out
  have hnn : NewFl (w.heap.size + 1) x := NewFl.mono HNN.out (by simp)
  exact ⟨x, by rfl, HC.out, FlIn.off hin hnn (fun k hk => by simp at hk; omega) HT.out, NewFl.mono hnn (by omega), (T1.out.then_ HT.out (fun k hk => by simp at hk; subst hk; exact .inr (Nat.le_refl _))).low (by simp) (Nat.le_refl _)⟩
set_option maxHeartbeats 4000000 in
theorem parseExpr_any (t : List UInt8) (w : World) (hT : Tabs w) : Calls Tryz.prog 11 #[.string (bs t)] w (TellX t w) := by
  have HB := Lib.hid (ball_new w #[.int .i64 0, .int .i64 0, .string ⟨#[]⟩, .string ⟨#[]⟩, .slice none 0 0] 36)
  have HN := Lib.hid (new_at w #[.int .i64 0, .int .i64 0, .string ⟨#[]⟩, .string ⟨#[]⟩, .slice none 0 0] 36)
  have CW := Lib.hid (wholeExpr_any t _ (hT.below HB.out) (fun lo w' g r h => Lib.hid (exprb_any w' g r h)))
  clear hT
  generalize bs t = TX at *
  go_enter Tryz.func11, Tryz.ntmps11
  go_wp2_with fail
  refine CW.out.mono ?_
  rintro e w1 ⟨x, rfl, hc, hin, hnn, hb⟩
  rw [exV_eq]
  have HC := Lib.hid hc
  have HI := Lib.hid hin
  have HNN := Lib.hid hnn
  have T1 : Hid (Turn [] w w1) := Lib.hid (((Turn.refl [] w).below HB.out).below hb)
  have HR := Lib.hid ((hb.block _ (lt_of_heap HN.out)).trans HN.out)
  clear hc hin hnn hb CW
  obtain ⟨y0, y1, y2, y3, y4⟩ := five_at HR.out
  have f0 := free_at HR.out 0
  have f1 := free_at HR.out 1
  have f2 := free_at HR.out 2
  have f3 := free_at HR.out 3
  have f4 := free_at HR.out 4
  go_wp2_with fail
  have HT := Lib.hid (turn5 w1 w.heap.size (.int .i64 x.op) (.int .i64 x.n) (.string x.s) (.string x.q) (.slice x.a x.x.length x.c))
  refine bodyPost_ret (results_ex2 rfl _ _ w.heap.size _ _ _ _ _ _ rfl rfl (set5 HR.out)) rfl ?_
  have hin := HI.out
  have hnn : New (w.heap.size + 1) x := New.mono HNN.out (by simp)
  exact ⟨x, by rw [exV_eq]; rfl, HC.out, ExIn.off hin (New.off hnn (fun k hk => by simp at hk; omega)) HT.out, New.mono hnn (by omega), (T1.out.then_ HT.out (fun k hk => by simp at hk; subst hk; exact .inr (Nat.le_refl _))).low (by simp) (Nat.le_refl _)⟩
end Go.Proofs.YtlhbhpdpjidpgaaGreatDoor.Prg
/- What must come, as the grammar tells it. No condition. -/
namespace Go.Proofs.YtlhbhpdpjidpgaaGreatDoor.Prg
open Tre Prs
set_option maxRecDepth 100000
def sumB : List UInt8 := [49, 43, 50, 42, 51]
def filB : List UInt8 := [112, 97, 99, 107, 97, 103, 101, 32, 112, 10, 102, 117, 110, 99, 32, 102, 40, 41, 32, 123, 32, 112, 114, 105, 110, 116, 40, 120, 46, 89, 40, 49, 41, 41, 32, 125, 10]
theorem sum_told : exprTP sumB = (Tx.mk 10 0 [] [] [Tx.mk 1 1 [] [] [], Tx.mk 7 0 [] [] [Tx.mk 1 2 [] [] [], Tx.mk 1 3 [] [] []]], 0) := by kernel_rfl
theorem fil_told : fileT filB = (Tl.mk [112] [] [Tf.mk [102] [] 0 [Ts.mk 6 [] (Tx.mk 4 0 [89] [120] [Tx.mk 1 1 [] [] []]) [] []]], 0) := by kernel_rfl
theorem sum_tree {x : Ex} (h : core x = (exprTP sumB).1) : x.op = 10 ∧ ∃ a b, x.x = [a, b] ∧ b.op = 7 := by
  rw [sum_told, core_eq] at h
  injection h with h1 _ _ _ h5
  obtain ⟨a, b, e, _, e2⟩ := map_two h5
  rw [core_eq] at e2
  injection e2 with e2
  exact ⟨h1, a, b, e, e2⟩
theorem fil_tree {f : Fl} (h : coreL f = (fileT filB).1) : f.s.data = #[112] ∧ ∃ g, f.f = [g] ∧ ∃ s, g.b = [s] ∧ s.e.q.data = #[120] := by
  rw [fil_told] at h
  unfold coreL at h
  injection h with h1 h2 h3
  obtain ⟨g, e, e2⟩ := map_one h3
  unfold coreF at e2
  injection e2 with _ _ _ e2
  obtain ⟨s, e3, e4⟩ := map_one e2
  rw [coreS_eq] at e4
  injection e4 with _ _ e4
  rw [core_eq] at e4
  injection e4 with _ _ _ e4
  exact ⟨Array.toList_inj.1 h1, g, e, s, e3, Array.toList_inj.1 e4⟩
theorem zero_tree {f : Fl} (h : coreL f = zeroL) : f.s.data = #[] ∧ f.i = [] ∧ f.f = [] := by
  unfold coreL zeroL at h
  injection h with h1 h2 h3
  exact ⟨Array.toList_inj.1 h1, List.map_eq_nil_iff.1 h2, List.map_eq_nil_iff.1 h3⟩
theorem zero_same {f : Fl} (h : coreL f = zeroL) : (decide ((nodes givenB f.f).length ≤ 100000) && sameFl f ⟨⟨#[]⟩, none, 0, [], none, 0, []⟩) = true := by
  obtain ⟨h1, h2, h3⟩ := zero_tree h
  unfold sameFl
  rw [h2, h3, text_beq (s := f.s) (t := ⟨#[]⟩) (by rw [h1])]
  rfl
end Go.Proofs.YtlhbhpdpjidpgaaGreatDoor.Prg
