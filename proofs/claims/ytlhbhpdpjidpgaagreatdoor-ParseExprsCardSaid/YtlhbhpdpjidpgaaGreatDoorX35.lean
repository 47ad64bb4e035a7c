/-
  What must come comes: the law's knows. Conditions: the tables lie as the program's text lays them.
-/
import Derived.Test.YtlhbhpdpjidpgaaGreatDoorX22
import Derived.Test.YtlhbhpdpjidpgaaGreatDoorX31
import Derived.Test.YtlhbhpdpjidpgaaGreatDoorX34
import Derived.BigQuiet
import Derived.OwnWalk
namespace Go.Proofs.YtlhbhpdpjidpgaaGreatDoor.Prg
open Go.RowKit Tre Prs
open Lex (bs str)
set_option maxRecDepth 100000
set_option linter.unusedSimpArgs false
theorem num_any (a : Int) (w : World) : Calls Tryz.prog 10 #[.int .i64 a] w fun e w' => e = .returned (.int .i64 a) ∧ w' = w := by
  go_enter Tryz.func10, Tryz.ntmps10
  go_wp2_with fail
  go_ret
  exact ⟨rfl, rfl⟩
/-- The sum's tree, as its cells lie. -/
theorem sum_cells {x : Ex} {w : World} (hc : core x = (exprTP sumB).1) (hx : ExIn w x) : ∃ (b o : Nat), exV x = .agg #[.int .i64 10, .int .i64 x.n, .string x.s, .string x.q, .slice (some ⟨b, o, none⟩) 2 x.c] ∧ w.cell? ⟨b, o + 5, none⟩ = some (.int .i64 7) ∧ b < w.heap.size := by
  obtain ⟨h1, y, z, h2, h3⟩ := sum_tree hc
  obtain ⟨b, o, e, hb, hr⟩ := hx.nd.row (by rw [h2]; exact Nat.succ_pos _)
  have h4 := hr 1 z (by rw [h2]; rfl) 0 (.int .i64 z.op) (by cases z; rfl)
  rw [h3] at h4
  exact ⟨b, o, by rw [exV_eq, h1, h2, e]; rfl, h4, hb⟩
/-- The file's tree, as its cells lie. -/
theorem fil_cells {f : Fl} {w : World} (hc : coreL f = (fileT filB).1) (hf : FlIn w f) : ∃ (b o d u : Nat) (k : Nat), flV f = .agg #[.string ⟨#[112]⟩, .slice f.ia f.i.length f.ic, .slice (some ⟨b, o, none⟩) 1 f.fc] ∧ w.cell? ⟨b, o + 3, none⟩ = some (.slice (some ⟨d, u, none⟩) 1 k) ∧ w.cell? ⟨d, u + 5, none⟩ = some (.string ⟨#[120]⟩) ∧ b < w.heap.size ∧ d < w.heap.size := by
  obtain ⟨h1, g, h2, s, h3, h4⟩ := fil_tree hc
  obtain ⟨b, o, e, hb, hr⟩ := hf.frow (by rw [h2]; exact Nat.succ_pos _)
  have hg := hf.fns g (by rw [h2]; exact List.mem_singleton.2 rfl)
  obtain ⟨d, u, e2, hd, hr2⟩ := hg.b (by rw [h3]; exact Nat.succ_pos _)
  have h5 := hr 0 g (by rw [h2]; rfl) 3 (.slice g.ba g.b.length g.bc) rfl
  have h6 := hr2 0 s (by rw [h3]; rfl) 5 (.string s.e.q) (by obtain ⟨_, _, ⟨_, _, _, _, _, _, _⟩, _, _, _, _, _, _⟩ := s; rfl)
  rw [Nat.zero_mul, Nat.add_zero] at h5 h6
  rw [e2, h3] at h5
  have e3 : f.s = ⟨#[112]⟩ := by cases hs : f.s; rw [hs] at h1; rw [← h1]
  have e4 : s.e.q = ⟨#[120]⟩ := by cases hs : s.e.q; rw [hs] at h4; rw [← h4]
  rw [e4] at h6
  exact ⟨b, o, d, u, g.bc, by unfold flV; rw [e3, h2, e]; rfl, h5, h6, hb, hd⟩
set_option maxHeartbeats 4000000 in
theorem knows_any (w : World) (hT : Tabs w) : Calls Tryz.prog 6 #[] w (EndsB (.bool true) w) := by
  have CX : Hid (Calls Tryz.prog 11 #[.string ⟨#[49, 43, 50, 42, 51]⟩] w (TellX sumB w)) := Lib.hid (parseExpr_any sumB w hT)
  have CF : Hid (∀ w', Below w.heap.size w w' → Calls Tryz.prog 7 #[.string ⟨#[112, 97, 99, 107, 97, 103, 101, 32, 112, 10, 102, 117, 110, 99, 32, 102, 40, 41, 32, 123, 32, 112, 114, 105, 110, 116, 40, 120, 46, 89, 40, 49, 41, 41, 32, 125, 10]⟩] w' (TellF filB w')) := Lib.hid (fun w' hb => parseFile_any filB w' (hT.below hb))
  have CN := fun e w' => Lib.hid (num_any e w')
  clear hT
  go_enter Tryz.func6, Tryz.ntmps6
  go_wp2_with fail
  refine CX.out.mono ?_
  rintro e w1 ⟨x, rfl, hc, hin, hnn, hb⟩
  obtain ⟨xb, xo, hv, hcell, hlt⟩ := sum_cells hc hin
  rw [hv, sum_told]
  dsimp only
  have HB1 := Lib.hid hb
  have HL1 := Lib.hid hlt
  have HC1 := Lib.hid hcell
  generalize x.n = xn at *
  generalize x.s = xs at *
  generalize x.q = xq at *
  generalize x.c = xc at *
  clear hc hin hnn hb hv hlt hcell CX
  have HBA := Lib.hid (ball_new w1 #[.int .i64 10, .int .i64 xn, .string xs, .string xq, .slice (some ⟨xb, xo, none⟩) 2 xc] 36)
  have HNA := Lib.hid (new_at w1 #[.int .i64 10, .int .i64 xn, .string xs, .string xq, .slice (some ⟨xb, xo, none⟩) 2 xc] 36)
  have HB2 := Lib.hid (HB1.out.trans (HBA.out.mono HB1.out.size))
  have CF2 := Lib.hid (CF.out _ HB2.out)
  clear CF
  go_wp2_with fail
  refine CF2.out.mono ?_
  rintro e w2 ⟨f, rfl, hc, hin, hnn, hb⟩
  obtain ⟨fb, fo, sb, so, k, hv, hcell, hcell2, hlt, hlt2⟩ := fil_cells hc hin
  rw [hv, fil_told]
  dsimp only
  have HB3 := Lib.hid (HB2.out.trans (hb.mono HB2.out.size))
  have HNX := Lib.hid ((hb.block _ (lt_of_heap HNA.out)).trans HNA.out)
  have HC2 : Hid (w2.cell? ⟨xb, xo + 5, none⟩ = some (.int .i64 7)) := Lib.hid ((World.cell?_of_block ((HBA.out.mono (Nat.le_refl _) |>.trans (hb.mono HBA.out.size)).block _ HL1.out)).trans HC1.out)
  have HL2 : Hid (xb < w2.heap.size) := Lib.hid (Nat.lt_of_lt_of_le HL1.out (Nat.le_trans HBA.out.size hb.size))
  have HBF := Lib.hid (ball_new w2 #[.string ⟨#[112]⟩, .slice f.ia f.i.length f.ic, .slice (some ⟨fb, fo, none⟩) 1 f.fc] 26)
  have HNF := Lib.hid (new_at w2 #[.string ⟨#[112]⟩, .slice f.ia f.i.length f.ic, .slice (some ⟨fb, fo, none⟩) 1 f.fc] 26)
  have HNX2 := Lib.hid ((HBF.out.block _ (lt_of_heap HNX.out)).trans HNX.out)
  have HB4 := Lib.hid (HB3.out.trans (HBF.out.mono HB3.out.size))
  have z1 := (World.cell?_of_block (HBF.out.block _ HL2.out)).trans HC2.out
  have z2 := (World.cell?_of_block (HBF.out.block _ hlt)).trans hcell
  have z3 := (World.cell?_of_block (HBF.out.block _ hlt2)).trans hcell2
  generalize f.ia = fi at *
  generalize f.i.length = fl at *
  generalize f.ic = fc at *
  generalize f.fc = fd at *
  clear hc hin hnn hb hv hlt hlt2 hcell hcell2 CF2 HC2 HC1 HL1 HL2 HB1 HB2 HB3 HBA HNA HNX HBF
  obtain ⟨y0, y1, y2, y3, y4⟩ := five_at HNX2.out
  obtain ⟨u0, u1, u2⟩ := three_at HNF.out
  go_wp2_with (go_at_call 10; refine (CN _ _).out.mono ?_; rintro e w' ⟨rfl, rfl⟩)
  go_ret
  exact EndsB.of rfl HB4.out
end Go.Proofs.YtlhbhpdpjidpgaaGreatDoor.Prg
/- The program's Header. Conditions: the tables lie as the program's text lays them. -/
namespace Go.Proofs.YtlhbhpdpjidpgaaGreatDoor.Prg
open Go.RowKit Tre Prs
open Lex (bs str)
set_option maxRecDepth 100000
set_option linter.unusedSimpArgs false
/-- What Header leaves: what stands at the head of the file that the text tells. -/
def TellH (t : List UInt8) (w : World) (e : Ending) (w' : World) : Prop := ∃ f : Fl, e = .returned (.tuple #[.string f.s, .slice f.ia f.i.length f.ic, .int .i64 (fileT t).2]) ∧ coreL f = (fileT t).1 ∧ FlIn w' f ∧ NewFl w.heap.size f ∧ Below w.heap.size w w'
set_option maxHeartbeats 4000000 in
theorem header_any (t : List UInt8) (w : World) (hT : Tabs w) : Calls Tryz.prog 13 #[.string (bs t)] w (TellH t w) := by
  have CF := Lib.hid (parseFile_any t w hT)
  clear hT
  generalize bs t = TX at *
  go_enter Tryz.func13, Tryz.ntmps13
  go_wp2_with fail
  refine CF.out.mono ?_
  rintro e w1 ⟨f, rfl, hc, hin, hnn, hb⟩
  unfold flV
  have HC := Lib.hid hc
  have HBA := Lib.hid (ball_new w1 #[.string f.s, .slice f.ia f.i.length f.ic, .slice f.fa f.f.length f.fc] 26)
  have HNA := Lib.hid (new_at w1 #[.string f.s, .slice f.ia f.i.length f.ic, .slice f.fa f.f.length f.fc] 26)
  have HI := Lib.hid (hin.below HBA.out)
  have HNN := Lib.hid hnn
  have HB2 := Lib.hid (hb.trans (HBA.out.mono hb.size))
  clear hc hin hnn hb CF
  obtain ⟨y0, y1, y2⟩ := three_at HNA.out
  go_wp2_with fail
  go_quiet (fail)
  go_wp2_with fail
  have HD := Lib.hid (Tre.below_drewN (w1.alloc (.cells #[.string f.s, .slice f.ia f.i.length f.ic, .slice f.fa f.f.length f.fc] 26)) nq)
  refine bodyPost_ret (results_tmp3 rfl _ _ _) rfl ?_
  exact ⟨f, rfl, HC.out, HI.out.below HD.out, HNN.out, HB2.out.trans (HD.out.mono HB2.out.size)⟩
end Go.Proofs.YtlhbhpdpjidpgaaGreatDoor.Prg
/- An expression's last word may end a line: so a ; stands behind it in every text's words, and to ask for it or to pass over it is the same. No condition. -/
namespace Go.Proofs.YtlhbhpdpjidpgaaGreatDoor.Prg
open Tre Prs
set_option maxRecDepth 100000
def EndsW (o : List Lex.Wd) : Prop := ∃ w, o.getLast? = some w ∧ Lex.mayB w = true
theorem end_tl {o : List Lex.Wd} {r : PS} (hs : r.l <:+ o) (hk : (peek r).k ≠ 0) (hm : Lex.mayB (peek r) = true) (hl : (tl r).l = []) : EndsW o := by
  have hc := peek_cons hk
  rw [hl] at hc
  obtain ⟨p, hp⟩ := hs
  exact ⟨peek r, by rw [← hp, hc]; simp, hm⟩
theorem may_is {r : PS} {s : List UInt8} (h : isW r s = true) (hs : Lex.endsL.contains s = true) : (peek r).k ≠ 0 ∧ Lex.mayB (peek r) = true := by
  obtain ⟨h1, h2⟩ := isW_kind h
  refine ⟨fun e => by rw [e] at h1; simp at h1, ?_⟩
  unfold Lex.mayB
  rw [h2, hs]
  simp
theorem end_is {o : List Lex.Wd} {r : PS} {s : List UInt8} (hs : r.l <:+ o) (h : isW r s = true) (he : Lex.endsL.contains s = true) (hl : (tl r).l = []) : EndsW o := end_tl hs (may_is h he).1 (may_is h he).2 hl
theorem end_must {o : List Lex.Wd} {r : PS} (hs : r.l <:+ o) (hb : (mustW r [41]).bad = false) (hl : (mustW r [41]).l = []) : EndsW o := by
  unfold mustW at hb hl
  by_cases hi : isW r [41] = true
  · rw [if_pos hi] at hl
    exact end_is hs hi (by decide) hl
  · rw [if_neg hi] at hb
    cases hb
theorem end_call {o : List Lex.Wd} {q s : List UInt8} {x : List Tx} {r : PS} (hs : r.l <:+ o) (hb : (callEnd q s x r).2.bad = false) (hl : (callEnd q s x r).2.l = []) : EndsW o := end_must hs hb hl
theorem end_name {o : List Lex.Wd} {r : PS} (hs : r.l <:+ o) (hb : (wordR r 1 false).bad = false) (hl : (wordR r 1 false).l = []) : EndsW o := by
  obtain ⟨h1, _, h3⟩ := wordNo_kind hb
  rw [h3] at hl
  refine end_tl hs (by omega) ?_ hl
  unfold Lex.mayB
  rw [h1]
  rfl
def isRest : Job → Bool
  | .rest _ _ => true
  | _ => false
set_option maxHeartbeats 4000000 in
theorem end_upto : ∀ (N : Nat) (j : Job) (r : PS) (o : List Lex.Wd), enough j r ≤ N → r.l <:+ o → (isRest j = true → r.bad = false → r.l = [] → EndsW o) → (tell j r).2.bad = false → (tell j r).2.l = [] → EndsW o
  | 0, j, r, o, h, _, _, _, _ => by
    exfalso
    cases j <;> simp only [enough, need] at h
    case args => split at h <;> omega
    all_goals omega
  | N + 1, .row k, r, o, h, hs, hr0, hb, he => by
    simp only [enough, need] at h
    by_cases h4 : 4 < k
    · rw [tell_top h4] at hb he
      exact end_upto N .unary r o (by simp only [enough, need]; omega) hs (fun hc => by cases hc) hb he
    · rw [tell_row (by omega)] at hb he
      have hb1 := not_bad hb
      have hl := tell_lenR (.row (k + 1)) r
      refine end_upto N (.rest k (tell (.row (k + 1)) r).1) (tell (.row (k + 1)) r).2 o (by simp only [enough, need]; omega) ((tell_suf _ _).trans hs) (fun _ h1 h2 => ?_) hb he
      exact end_upto N (.row (k + 1)) r o (by simp only [enough, need]; omega) hs (fun hc => by cases hc) h1 h2
  | N + 1, .rest k x, r, o, h, hs, hr0, hb, he => by
    simp only [enough, need] at h
    rw [tell_rest] at hb he
    split at hb
    · next hr => rw [hr] at hb; cases hb
    · next hr =>
      rw [if_neg hr] at he
      cases hf : (level k).find? (fun p => isW r p.1) with
      | none =>
        rw [hf] at hb he
        exact hr0 rfl hb he
      | some p =>
        rw [hf] at hb he
        dsimp only at hb he
        have hi : isW r p.1 = true := by have := List.find?_some hf; simpa using this
        have h1 := tl_ok hi
        have hb1 := not_bad hb
        have hl := tell_lenR (.row (k + 1)) (tl r)
        have hs1 := (tl_suf r).trans hs
        refine end_upto N (.rest k (.mk p.2 0 [] [] [x, (tell (.row (k + 1)) (tl r)).1])) (tell (.row (k + 1)) (tl r)).2 o (by simp only [enough, need]; omega) ((tell_suf _ _).trans hs1) (fun _ k1 k2 => ?_) hb he
        exact end_upto N (.row (k + 1)) (tl r) o (by simp only [enough, need]; omega) hs1 (fun hc => by cases hc) k1 k2
  | N + 1, .unary, r, o, h, hs, hr0, hb, he => by
    simp only [enough, need] at h
    have hs1 := (tl_suf r).trans hs
    rw [tell_unary] at hb he
    split at hb
    · next hi =>
      rw [if_pos hi] at he
      have h1 := tl_ok hi
      exact end_upto N .unary (tl r) o (by simp only [enough, need]; omega) hs1 (fun hc => by cases hc) hb he
    next n0 =>
    rw [if_neg n0] at he
    split at hb
    · next hi =>
      rw [if_pos hi] at he
      have h1 := tl_ok hi
      exact end_upto N .unary (tl r) o (by simp only [enough, need]; omega) hs1 (fun hc => by cases hc) hb he
    next n1 =>
    rw [if_neg n1] at he
    split at hb
    · next hi =>
      rw [if_pos hi] at he
      exact end_is hs hi (by decide) he
    next n2 =>
    rw [if_neg n2] at he
    split at hb
    · next hi =>
      rw [if_pos hi] at he
      exact end_is hs hi (by decide) he
    next n3 =>
    rw [if_neg n3] at he
    split at hb
    · next hi =>
      rw [if_pos hi] at he
      dsimp only at hb he
      exact end_must ((tell_suf _ _).trans hs1) hb he
    next n4 =>
    rw [if_neg n4] at he
    split at hb
    · next hk =>
      rw [if_pos hk] at he
      have hk2 : (peek r).k = 2 := by simpa using hk
      refine end_tl hs (by omega) ?_ he
      unfold Lex.mayB
      rw [hk2]
      rfl
    next nk =>
    rw [if_neg nk] at he
    split at hb
    · next hi =>
      rw [if_pos hi] at he
      have hp := word_pos (r := r) (by simpa using hi)
      exact end_upto N (.call (wordS r 1 false)) (wordR r 1 false) o (by simp only [enough, need]; omega) ((wordR_suf _ _ _).trans hs) (fun hc => by cases hc) hb he
    · next hi =>
      rw [if_neg hi] at he
      exact end_name hs hb he
  | N + 1, .call s, r, o, h, hs, hr0, hb, he => by
    simp only [enough, need] at h
    rw [tell_call] at hb he
    split at hb
    · next hi =>
      rw [if_pos hi] at he
      have h1 := tl_ok hi
      have hm := not_bad hb
      obtain ⟨m1, m2, _, _⟩ := mustW_ok hm
      have h3 := lenR_wordR (tl r) 1 false
      have h5 := enough_args s (wordS (tl r) 1 false) [] (mustW (wordR (tl r) 1 false) [40])
      exact end_upto N (.args s (wordS (tl r) 1 false) []) (mustW (wordR (tl r) 1 false) [40]) o (by omega) ((mustW_suf _ _).trans ((wordR_suf _ _ _).trans ((tl_suf r).trans hs))) (fun hc => by cases hc) hb he
    · next hi =>
      rw [if_neg hi] at he
      have hm := not_bad hb
      obtain ⟨m1, m2, _, _⟩ := mustW_ok hm
      have h5 := enough_args [] s [] (mustW r [40])
      exact end_upto N (.args [] s []) (mustW r [40]) o (by omega) ((mustW_suf _ _).trans hs) (fun hc => by cases hc) hb he
  | N + 1, .args q s x, r, o, h, hs, hr0, hb, he => by
    have hr := not_bad hb
    simp only [enough, hr, need, Bool.false_eq_true, if_false] at h
    rw [tell_args] at hb he
    split at hb
    · next hi =>
      rw [if_pos hi] at he
      exact end_call hs hb he
    next hi =>
    rw [if_neg hi] at he
    have hl := tell_lenR (.row 0) r
    split at hb
    · next hc =>
      rw [if_pos hc] at he
      have h1 := tl_ok hc
      split at hb
      · have hb2 := (mustW_ok (r := badR (tl (tell (.row 0) r).2)) (s := [41]) hb).2.1
        cases hb2
      · next hd =>
        rw [if_neg hd] at he
        have h5 := enough_args q s (x ++ [(tell (.row 0) r).1]) (tl (tell (.row 0) r).2)
        exact end_upto N (.args q s (x ++ [(tell (.row 0) r).1])) (tl (tell (.row 0) r).2) o (by omega) ((tl_suf _).trans ((tell_suf _ _).trans hs)) (fun hc => by cases hc) hb he
    · next hc =>
      rw [if_neg hc] at he
      exact end_call ((tell_suf _ _).trans hs) hb he
theorem row_end {r : PS} (hb : (tell (.row 0) r).2.bad = false) (hl : (tell (.row 0) r).2.l = []) : EndsW r.l := end_upto _ (.row 0) r r.l (Nat.le_refl _) (List.suffix_refl _) (fun hc => by cases hc) hb hl
/-- To ask for the ; and to pass over it. -/
theorem end_same {l : List Lex.Wd} (he : Lex.endLn l = l) : endE (exprP ⟨l, false, false⟩).2 = endE (exprD ⟨l, false, false⟩).2 := by
  have h0 := fun h1 h2 => row_end (r := ⟨l, false, false⟩) h1 h2
  unfold exprP exprD
  dsimp only
  generalize (tell (.row 0) ⟨l, false, false⟩).2 = q at *
  unfold mustW skipW
  by_cases hi : isW q [59] = true
  · rw [if_pos hi, if_pos hi]
  · rw [if_neg hi, if_neg hi]
    cases hb : q.bad with
    | true => unfold endE badR; rw [hb]
    | false =>
      by_cases hl : q.l = []
      · obtain ⟨w, h1, h2⟩ := h0 hb hl
        have h3 := congrArg List.length (Lex.endLn_yes h1 h2)
        rw [he] at h3
        simp at h3
      · unfold endE badR
        have : decide (0 < q.l.length) = true := decide_eq_true (List.length_pos_iff.2 hl)
        rw [hb, this]
        rfl
theorem exprT_same (t : List UInt8) : exprTP t = exprT t := by
  have key : (Lex.words t).2 = 0 → endE (exprP ⟨(Lex.words t).1, false, false⟩).2 = endE (exprD ⟨(Lex.words t).1, false, false⟩).2 := fun h => end_same (words_ok0 h).2.1
  have e1 : (exprP ⟨(Lex.words t).1, false, false⟩).1 = (exprD ⟨(Lex.words t).1, false, false⟩).1 := rfl
  unfold exprTP exprT
  by_cases h : (Lex.words t).2 = 0
  · rw [key h, e1]
  · rw [if_pos h, if_pos h]
end Go.Proofs.YtlhbhpdpjidpgaaGreatDoor.Prg
/- A statement that the document's parser builds, cell by cell. No condition. -/
namespace Go.Proofs.YtlhbhpdpjidpgaaGreatDoor.Prs
open Go.RowKit Tre
open Lex (Wd wdC wdV bs str Turn)
set_option maxRecDepth 100000
set_option linter.unusedSimpArgs false
variable {lo : Nat}
/-- The statement in block sb, and the result's cells. -/
structure Bld (lo : Nat) (w W : World) (g sb : Nat) (r : PS) (o : Int) (S : ByteArray) (x : Ex) (A : Option Addr) (c : Nat) (b : List St) (A2 : Option Addr) (c2 : Nat) (b2 : List St) : Prop where
  rd : RdM lo W g r
  at_ : W.heap[sb]? = some (.cells #[.int .i64 o, .string S, .int .i64 x.op, .int .i64 x.n, .string x.s, .string x.q, .slice x.a x.x.length x.c, .slice A b.length c, .slice A2 b2.length c2] 47 (0, 0))
  res : W.heap[w.heap.size]? = some (.cells #[.int .i64 0, .string ⟨#[]⟩, .int .i64 0, .int .i64 0, .string ⟨#[]⟩, .string ⟨#[]⟩, .slice none 0 0, .slice none 0 0, .slice none 0 0] 47 (0, 0))
  st : StIn W (.mk o S x A c b A2 c2 b2)
  off : OffS [sb] (.mk o S x A c b A2 c2 b2)
  new : NewS (w.heap.size + 1) (.mk o S x A c b A2 c2 b2)
  turn : Turn [g] w W
  hi : w.heap.size < sb
  g : g < w.heap.size
  lo : lo ≤ w.heap.size
section
variable {w W : World} {g sb : Nat} {r : PS} {o : Int} {S : ByteArray} {x : Ex} {A : Option Addr} {c : Nat} {b : List St} {A2 : Option Addr} {c2 : Nat} {b2 : List St}
theorem Bld.turned {W' : World} {r' : PS} (h : Bld lo w W g sb r o S x A c b A2 c2 b2) (ht : Turn [g] W W') (hr : RdM lo W' g r') : Bld lo w W' g sb r' o S x A c b A2 c2 b2 := by
  have hg := h.g
  have hh := h.hi
  exact ⟨hr, (ht.block _ (lt_of_heap h.at_) (by simp; omega)).trans h.at_, (ht.block _ (lt_of_heap h.res) (by simp; omega)).trans h.res, StIn.off h.st (NewS.off h.new (fun k hk => by simp at hk; omega)) ht, h.off, h.new, h.turn.trans ht, hh, hg, h.lo⟩
theorem Bld.below {W' : World} (h : Bld lo w W g sb r o S x A c b A2 c2 b2) (hb : Below W.heap.size W W') : Bld lo w W' g sb r o S x A c b A2 c2 b2 := h.turned ((Turn.refl [g] W).below hb) (h.rd.below hb)
theorem StIn.build (hx : ExIn W x) (hb : Row 9 stC W A b) (hb2 : Row 9 stC W A2 b2) (hl : b.length ≤ most) (hl2 : b2.length ≤ most) (hs : S.size ≤ maxLen) (hi : ∀ s ∈ b, StIn W s) (hi2 : ∀ s ∈ b2, StIn W s) : StIn W (.mk o S x A c b A2 c2 b2) :=
  StIn.mk ⟨hx, hb, hb2, hl, hl2, hs⟩ (fun y hy => hy.elim (fun h => hi y h) (fun h => hi2 y h))
theorem mem_stmt {y : St} (hy : y ∈ flatS (.mk o S x A c b A2 c2 b2)) : y = .mk o S x A c b A2 c2 b2 ∨ (∃ s ∈ b, y ∈ flatS s) ∨ (∃ s ∈ b2, y ∈ flatS s) := by
  rw [flatS_eq] at hy
  rcases List.mem_cons.1 hy with rfl | hy
  · exact .inl rfl
  · rcases List.mem_append.1 hy with hy | hy
    · obtain ⟨s, h1, h2⟩ := List.mem_flatMap.1 hy
      exact .inr (.inl ⟨s, h1, h2⟩)
    · obtain ⟨s, h1, h2⟩ := List.mem_flatMap.1 hy
      exact .inr (.inr ⟨s, h1, h2⟩)
theorem NewS.build {n : Nat} (hx : New n x) (hA : ∀ ad, A = some ad → n ≤ ad.block) (hA2 : ∀ ad, A2 = some ad → n ≤ ad.block) (hi : ∀ s ∈ b, NewS n s) (hi2 : ∀ s ∈ b2, NewS n s) : NewS n (.mk o S x A c b A2 c2 b2) := fun y hy => by
  rcases mem_stmt hy with rfl | ⟨s, h1, h2⟩ | ⟨s, h1, h2⟩
  · exact ⟨hx, hA, hA2⟩
  · exact hi s h1 y h2
  · exact hi2 s h1 y h2
theorem OffS.build {L : List Nat} (hx : Off L x) (hA : 0 < b.length → ∀ k o, A = some ⟨k, o, none⟩ → k ∉ L) (hA2 : 0 < b2.length → ∀ k o, A2 = some ⟨k, o, none⟩ → k ∉ L) (hi : ∀ s ∈ b, OffS L s) (hi2 : ∀ s ∈ b2, OffS L s) : OffS L (.mk o S x A c b A2 c2 b2) := fun y hy => by
  rcases mem_stmt hy with rfl | ⟨s, h1, h2⟩ | ⟨s, h1, h2⟩
  · exact ⟨hx, hA, hA2⟩
  · exact hi s h1 y h2
  · exact hi2 s h1 y h2
theorem Bld.parts (h : Bld lo w W g sb r o S x A c b A2 c2 b2) : ExIn W x ∧ Row 9 stC W A b ∧ Row 9 stC W A2 b2 ∧ b.length ≤ most ∧ b2.length ≤ most ∧ S.size ≤ maxLen ∧ (∀ s ∈ b, StIn W s) ∧ (∀ s ∈ b2, StIn W s) :=
  ⟨h.st.nd.e, h.st.nd.row, h.st.nd.row2, h.st.nd.len, h.st.nd.len2, h.st.nd.s, fun _ hs => h.st.part (.inl hs), fun _ hs => h.st.part (.inr hs)⟩
theorem Bld.offs (h : Bld lo w W g sb r o S x A c b A2 c2 b2) : Off [sb] x ∧ (0 < b.length → ∀ k o, A = some ⟨k, o, none⟩ → k ∉ [sb]) ∧ (0 < b2.length → ∀ k o, A2 = some ⟨k, o, none⟩ → k ∉ [sb]) ∧ (∀ s ∈ b, OffS [sb] s) ∧ (∀ s ∈ b2, OffS [sb] s) := by
  have h0 := h.off _ (mem_flatS _)
  exact ⟨h0.1, h0.2.1, h0.2.2, fun s hs y hy => h.off y (flatS_sub (.inl hs) hy), fun s hs y hy => h.off y (flatS_sub (.inr hs) hy)⟩
theorem Bld.news (h : Bld lo w W g sb r o S x A c b A2 c2 b2) : New (w.heap.size + 1) x ∧ (∀ ad, A = some ad → w.heap.size + 1 ≤ ad.block) ∧ (∀ ad, A2 = some ad → w.heap.size + 1 ≤ ad.block) ∧ (∀ s ∈ b, NewS (w.heap.size + 1) s) ∧ (∀ s ∈ b2, NewS (w.heap.size + 1) s) := by
  have h0 := h.new _ (mem_flatS _)
  exact ⟨h0.1, h0.2.1, h0.2.2, fun s hs y hy => h.new y (flatS_sub (.inl hs) hy), fun s hs y hy => h.new y (flatS_sub (.inr hs) hy)⟩
/-- An expression that was told is stored. -/
theorem Bld.setE {W2 : World} {r' : PS} {y : Ex} (h : Bld lo w W g sb r o S x A c b A2 c2 b2) (hy2 : ExIn W2 y) (hy3 : New W.heap.size y) (hr : RdM lo W2 g r') (ht : Turn [g] W W2) :
    Bld lo w (((((W2.setCell ⟨sb, 2, none⟩ (.int .i64 y.op)).setCell ⟨sb, 3, none⟩ (.int .i64 y.n)).setCell ⟨sb, 4, none⟩ (.string y.s)).setCell ⟨sb, 5, none⟩ (.string y.q)).setCell ⟨sb, 6, none⟩ (.slice y.a y.x.length y.c)) g sb r' o S y A c b A2 c2 b2 := by
  have hg := h.g
  have hh := h.hi
  have hsb := lt_of_heap h.at_
  have h2 := h.turned ht hr
  obtain ⟨_, p2, p3, p4, p5, p6, p7, p8⟩ := h2.parts
  obtain ⟨_, q2, q3, q4, q5⟩ := h2.offs
  obtain ⟨_, n2, n3, n4, n5⟩ := h2.news
  have T : Turn [sb] W2 (((((W2.setCell ⟨sb, 2, none⟩ (.int .i64 y.op)).setCell ⟨sb, 3, none⟩ (.int .i64 y.n)).setCell ⟨sb, 4, none⟩ (.string y.s)).setCell ⟨sb, 5, none⟩ (.string y.q)).setCell ⟨sb, 6, none⟩ (.slice y.a y.x.length y.c)) := (((((Turn.refl _ W2).setCell (.inl (by simp)) _).setCell (.inl (by simp)) _).setCell (.inl (by simp)) _).setCell (.inl (by simp)) _).setCell (.inl (by simp)) _
  have hoff : OffS [sb] (.mk o S y A c b A2 c2 b2) := OffS.build (New.off hy3 (fun k hk => by simp at hk; omega)) q2 q3 q4 q5
  refine ⟨h2.rd.but T (by have := h.lo; omega), ?_, (T.block _ (lt_of_heap h2.res) (by simp; omega)).trans h2.res, StIn.off (StIn.build hy2 p2 p3 p4 p5 p6 p7 p8) hoff T, hoff, NewS.build (hy3.mono (by omega)) n2 n3 n4 n5, h2.turn.then_ T (fun k hk => by simp at hk; subst hk; exact .inr (by omega)), hh, hg, h.lo⟩
  have e := set_at (set_at (set_at (set_at (set_at h2.at_ 2 (.int .i64 y.op)) 3 (.int .i64 y.n)) 4 (.string y.s)) 5 (.string y.q)) 6 (.slice y.a y.x.length y.c)
  rw [e]
  simp only [List.setIfInBounds_toArray, List.set_cons_zero, List.set_cons_succ]
/-- A row of statements that was told is stored. -/
theorem Bld.setB {W2 : World} {r' : PS} {B : Option Addr} {d : Nat} {l : List St} (h : Bld lo w W g sb r o S x A c b A2 c2 b2) (hrow : Row 9 stC W2 B l) (hlen : l.length ≤ most) (hnew : ∀ ad, B = some ad → W.heap.size ≤ ad.block) (hin : ∀ s ∈ l, StIn W2 s) (hn : ∀ s ∈ l, NewS W.heap.size s) (hr : RdM lo W2 g r') (ht : Turn [g] W W2) :
    Bld lo w (W2.setCell ⟨sb, 7, none⟩ (.slice B l.length d)) g sb r' o S x B d l A2 c2 b2 := by
  have hg := h.g
  have hh := h.hi
  have hsb := lt_of_heap h.at_
  have h2 := h.turned ht hr
  obtain ⟨p1, _, p3, _, p5, p6, _, p8⟩ := h2.parts
  obtain ⟨q1, _, q3, _, q5⟩ := h2.offs
  obtain ⟨n1, _, n3, _, n5⟩ := h2.news
  have T : Turn [sb] W2 (W2.setCell ⟨sb, 7, none⟩ (.slice B l.length d)) := (Turn.refl _ W2).setCell (.inl (by simp)) _
  have hoff : OffS [sb] (.mk o S x B d l A2 c2 b2) := OffS.build q1 (fun _ k o e => by have := hnew _ e; simp at this ⊢; omega) q3 (fun s hs => (hn s hs).off (fun k hk => by simp at hk; omega)) q5
  refine ⟨h2.rd.but T (by have := h.lo; omega), ?_, (T.block _ (lt_of_heap h2.res) (by simp; omega)).trans h2.res, StIn.off (StIn.build p1 hrow p3 (hlen) p5 p6 hin p8) hoff T, hoff, NewS.build n1 (fun ad e => by have := hnew _ e; omega) n3 (fun s hs => (hn s hs).mono (by omega)) n5, h2.turn.then_ T (fun k hk => by simp at hk; subst hk; exact .inr (by omega)), hh, hg, h.lo⟩
  have e := set_at h2.at_ 7 (.slice B l.length d)
  rw [e]
  simp only [List.setIfInBounds_toArray, List.set_cons_zero, List.set_cons_succ]
theorem Bld.setB2 {W2 : World} {r' : PS} {B : Option Addr} {d : Nat} {l : List St} (h : Bld lo w W g sb r o S x A c b A2 c2 b2) (hrow : Row 9 stC W2 B l) (hlen : l.length ≤ most) (hnew : ∀ ad, B = some ad → W.heap.size ≤ ad.block) (hin : ∀ s ∈ l, StIn W2 s) (hn : ∀ s ∈ l, NewS W.heap.size s) (hr : RdM lo W2 g r') (ht : Turn [g] W W2) :
    Bld lo w (W2.setCell ⟨sb, 8, none⟩ (.slice B l.length d)) g sb r' o S x A c b B d l := by
  have hg := h.g
  have hh := h.hi
  have hsb := lt_of_heap h.at_
  have h2 := h.turned ht hr
  obtain ⟨p1, p2, _, p4, _, p6, p7, _⟩ := h2.parts
  obtain ⟨q1, q2, _, q4, _⟩ := h2.offs
  obtain ⟨n1, n2, _, n4, _⟩ := h2.news
  have T : Turn [sb] W2 (W2.setCell ⟨sb, 8, none⟩ (.slice B l.length d)) := (Turn.refl _ W2).setCell (.inl (by simp)) _
  have hoff : OffS [sb] (.mk o S x A c b B d l) := OffS.build q1 q2 (fun _ k o e => by have := hnew _ e; simp at this ⊢; omega) q4 (fun s hs => (hn s hs).off (fun k hk => by simp at hk; omega))
  refine ⟨h2.rd.but T (by have := h.lo; omega), ?_, (T.block _ (lt_of_heap h2.res) (by simp; omega)).trans h2.res, StIn.off (StIn.build p1 p2 hrow p4 (hlen) p6 p7 hin) hoff T, hoff, NewS.build n1 n2 (fun ad e => by have := hnew _ e; omega) n4 (fun s hs => (hn s hs).mono (by omega)), h2.turn.then_ T (fun k hk => by simp at hk; subst hk; exact .inr (by omega)), hh, hg, h.lo⟩
  have e := set_at h2.at_ 8 (.slice B l.length d)
  rw [e]
  simp only [List.setIfInBounds_toArray, List.set_cons_zero, List.set_cons_succ]
theorem stV_mk : stV (.mk o S x A c b A2 c2 b2) = .agg #[.int .i64 o, .string S, .int .i64 x.op, .int .i64 x.n, .string x.s, .string x.q, .slice x.a x.x.length x.c, .slice A b.length c, .slice A2 b2.length c2] := by
  obtain ⟨o, n, s, q, a, c, xs⟩ := x
  rfl
theorem coreS_mk : coreS (.mk o S x A c b A2 c2 b2) = .mk o S.data.toList (core x) (b.map coreS) (b2.map coreS) := by
  rw [coreS_eq]
  rfl
/-- The statement is through. -/
theorem Bld.done {W' : World} {q : List Ts × PS} (h : Bld lo w W g sb r o S x A c b A2 c2 b2) (ht : Turn [w.heap.size] W W') (hq : q = ([.mk o S.data.toList (core x) (b.map coreS) (b2.map coreS)], r)) : EvT lo w g q (.returned (.agg #[.int .i64 o, .string S, .int .i64 x.op, .int .i64 x.n, .string x.s, .string x.q, .slice x.a x.x.length x.c, .slice A b.length c, .slice A2 b2.length c2])) W' := by
  subst hq
  exact ⟨_, rfl, .mk o S x A c b A2 c2 b2, by rw [stV_mk], by rw [coreS_mk], StIn.off h.st (NewS.off h.new (fun k hk => by simp at hk; omega)) ht, h.new.mono (by omega), h.rd.but ht h.lo, h.turn.then_ ht (fun k hk => by simp at hk; subst hk; exact .inr (Nat.le_refl _))⟩
/-- A statement of one expression is laid. -/
theorem Bld.start {W1 : World} (hg : g < w.heap.size) (hlo : lo ≤ w.heap.size) (hr : RdM lo W1 g r) (hres : W1.heap[w.heap.size]? = some (.cells #[.int .i64 0, .string ⟨#[]⟩, .int .i64 0, .int .i64 0, .string ⟨#[]⟩, .string ⟨#[]⟩, .slice none 0 0, .slice none 0 0, .slice none 0 0] 47 (0, 0))) (ht : Turn [g] w W1) (hx : ExIn W1 x) (hn : New (w.heap.size + 1) x) (hs : S.size ≤ maxLen) :
    Bld lo w (W1.alloc (.cells #[.int .i64 o, .string S, .int .i64 x.op, .int .i64 x.n, .string x.s, .string x.q, .slice x.a x.x.length x.c, .slice none 0 0, .slice none 0 0] 47)) g W1.heap.size r o S x none 0 [] none 0 [] := by
  have hb := ball_new W1 #[.int .i64 o, .string S, .int .i64 x.op, .int .i64 x.n, .string x.s, .string x.q, .slice x.a x.x.length x.c, .slice none 0 0, .slice none 0 0] 47
  have hsz := lt_of_heap hres
  refine ⟨hr.below hb, new_at W1 _ _, (hb.block _ hsz).trans hres, StIn.build (Tre.ExIn.below hx hb) (Row.nil _ _ _ _) (Row.nil _ _ _ _) (by simp [most]) (by simp [most]) hs (fun s hs => by simp at hs) (fun s hs => by simp at hs), OffS.build (ExIn.fresh hx) (fun h => by simp at h) (fun h => by simp at h) (fun s hs => by simp at hs) (fun s hs => by simp at hs), NewS.build hn (fun ad e => by cases e) (fun ad e => by cases e) (fun s hs => by simp at hs) (fun s hs => by simp at hs), ht.below hb, hsz, hg, hlo⟩
end
end Go.Proofs.YtlhbhpdpjidpgaaGreatDoor.Prs
/- The document's for. Conditions: the reader is known; a block tells what the plain grammar says. -/
namespace Go.Proofs.YtlhbhpdpjidpgaaGreatDoor.Prs
open Go.RowKit Tre
open Lex (Wd wdC wdV bs str Turn)
set_option maxRecDepth 100000
set_option linter.unusedSimpArgs false
variable {lo : Nat}
def oneX : Ex := .mk 2 1 ⟨#[]⟩ ⟨#[]⟩ none 0 []
theorem core_one : core oneX = .mk 2 1 [] [] [] := by rw [core_eq]; rfl
theorem nil_max : (⟨#[]⟩ : ByteArray).size ≤ maxLen := by unfold maxLen; simp [ByteArray.size]
set_option maxHeartbeats 8000000 in
theorem stmt_for_none (w : World) (g : Nat) (r : PS) (h : RdM lo w g r) (n0 : isW r [105, 102] = false) (hi : isW r [102, 111, 114] = true) (i1 : isW (tl r) [123] = true) (CB : ∀ w' r1, RdM lo w' g r1 → lenR r1 < lenR r → Hid (Calls Tryz.prog 53 #[.pointer (some ⟨g, 0, none⟩)] w' (EvB lo w' g (tellS .block r1)))) :
    Calls Tryz.prog 88 #[.pointer (some ⟨g, 0, none⟩)] w (EvT lo w g (one1 (.mk 4 [] (forX (tl r)).1 (tellS .block (forX (tl r)).2).1 []) (tellS .block (forX (tl r)).2).2)) := by
  have HCB := Lib.hid CB
  have HLP := Lib.hid (show lenR (tl r) < lenR r by have := lenR_pos hi; have := lenR_tl r; omega)
  have I1 := fun w' (h' : RdM lo w' g (tl r)) => (by have := is_any w' g (tl r) [123] h'; rw [i1] at this; exact Lib.hid this : Hid (Calls Tryz.prog 51 #[.pointer (some ⟨g, 0, none⟩), .string (bs [123])] w' (EndsB (.bool true) w')))
  have HF : forX (tl r) = (.mk 2 1 [] [] [], tl r) := by unfold forX; rw [if_pos i1]
  rw [HF]
  dsimp only
  clear HF
  clear i1 CB
  have HG := Lib.hid h.lt
  have HLO := Lib.hid h.wlo
  have HB := Lib.hid (ball_new w #[.int .i64 0, .string ⟨#[]⟩, .int .i64 0, .int .i64 0, .string ⟨#[]⟩, .string ⟨#[]⟩, .slice none 0 0, .slice none 0 0, .slice none 0 0] 47)
  have H0 := Lib.hid (h.below HB.out)
  have N0 := fun w' (h' : RdM lo w' g r) => Lib.hid (skip_no w' g r [105, 102] h' n0)
  have Y := fun w' (h' : RdM lo w' g r) => Lib.hid (skip_yes w' g r [102, 111, 114] h' hi)
  clear h n0 hi
  go_enter Tryz.func88, Tryz.ntmps88
  go_wp2_with fail
  refine (N0 _ H0.out).out.mono ?_
  rintro e v0 ⟨rfl, h1, h2⟩
  have P0 := Lib.hid h1
  have T0 := Lib.hid h2
  clear h1 h2
  go_wp2_with fail
  refine (Y _ P0.out).out.mono ?_
  rintro e w1 ⟨rfl, h1, h2⟩
  have H1 := Lib.hid h1
  have H2 := Lib.hid (T0.out.trans h2)
  clear h1 h2 N0 Y P0 T0
  have HR1 := Lib.hid (res_keep9 HG.out H2.out)
  have B0 : Hid (Bld lo w (w1.alloc (.cells #[.int .i64 4, .string ⟨#[]⟩, .int .i64 2, .int .i64 1, .string ⟨#[]⟩, .string ⟨#[]⟩, .slice none 0 0, .slice none 0 0, .slice none 0 0] 47)) g w1.heap.size (tl r) 4 ⟨#[]⟩ oneX none 0 [] none 0 []) := Lib.hid (Bld.start HG.out HLO.out H1.out HR1.out (((Turn.refl [g] w).below HB.out).trans H2.out) (leaf_in _ 2 1 ⟨#[]⟩ nil_max) (leaf_new _ 2 1 ⟨#[]⟩) nil_max)
  clear HB H0 H1 H2 HR1
  have C1 := I1 _ B0.out.rd
  clear I1
  go_wp2_with fail
  generalize w1.heap.size = sb at *
  refine C1.out.mono ?_
  rintro e w2 ⟨rfl, hb2⟩
  have B2 := Lib.hid (B0.out.below hb2)
  clear hb2 B0 C1
  have CBW := HCB.out w2 (tl r) B2.out.rd HLP.out
  have B5 := B2
  clear B2
  go_wp2_with fail
  refine CBW.out.mono ?_
  rintro e w6 ⟨A7, c7, l7, rfl, ha, hrow, hlen, hnew, hin, hnn, hr, ht⟩
  have HA7 := Lib.hid ha
  have B7 := Lib.hid (B5.out.setB (d := c7) hrow hlen hnew hin hnn hr ht)
  have B7o := Lib.hid (B5.out.turned ht hr)
  clear ha hrow hlen hnew hin hnn hr ht
  have e7 := free_at B7o.out.at_ 7
  obtain ⟨z0, z1, z2, z3, z4, z5, z6, z7, z8⟩ := Prs.nine_at B7o.out.at_
  obtain ⟨x0, x1, x2, x3, x4, x5, x6, x7, x8⟩ := Prs.nine_at B7.out.at_
  try simp only [List.length_nil] at x2 x3 x4 x5 x6 x7 x8
  simp only [oneX, Ex.op, Ex.n, Ex.s, Ex.q, Ex.a, Ex.x, Ex.c, List.length_nil] at z2 z3 z4 z5 z6 z7 z8 x2 x3 x4 x5 x6
  obtain ⟨y0, y1, y2, y3, y4, y5, y6, y7, y8⟩ := Prs.nine_at B7o.out.res
  have f0 := free_at B7o.out.res 0
  have f1 := free_at B7o.out.res 1
  have f2 := free_at B7o.out.res 2
  have f3 := free_at B7o.out.res 3
  have f4 := free_at B7o.out.res 4
  have f5 := free_at B7o.out.res 5
  have f6 := free_at B7o.out.res 6
  have f7 := free_at B7o.out.res 7
  have f8 := free_at B7o.out.res 8
  have rr := B7o.out.hi
  clear HCB CBW B5
  go_wp2_with fail
  have HT := Lib.hid (turn9 (w6.setCell ⟨sb, 7, none⟩ (.slice A7 l7.length c7)) w.heap.size (.int .i64 4) (.string ⟨#[]⟩) (.int .i64 2) (.int .i64 1) (.string ⟨#[]⟩) (.string ⟨#[]⟩) (.slice none 0 0) (.slice A7 l7.length c7) (.slice none 0 0))
  refine bodyPost_ret (results_stmt rfl _ _ w.heap.size _ _ _ _ _ _ _ _ _ rfl (set9 B7.out.res)) rfl ?_
  exact B7.out.done HT.out (by rw [core_one, HA7.out]; rfl)
set_option maxHeartbeats 8000000 in
theorem stmt_for_expr (w : World) (g : Nat) (r : PS) (h : RdM lo w g r) (n0 : isW r [105, 102] = false) (hi : isW r [102, 111, 114] = true) (i1 : isW (tl r) [123] = false) (CB : ∀ w' r1, RdM lo w' g r1 → lenR r1 < lenR r → Hid (Calls Tryz.prog 53 #[.pointer (some ⟨g, 0, none⟩)] w' (EvB lo w' g (tellS .block r1)))) :
    Calls Tryz.prog 88 #[.pointer (some ⟨g, 0, none⟩)] w (EvT lo w g (one1 (.mk 4 [] (forX (tl r)).1 (tellS .block (forX (tl r)).2).1 []) (tellS .block (forX (tl r)).2).2)) := by
  have HCB := Lib.hid CB
  have HLP := Lib.hid (show lenR (tl r) < lenR r by have := lenR_pos hi; have := lenR_tl r; omega)
  have I1 := fun w' (h' : RdM lo w' g (tl r)) => (by have := is_any w' g (tl r) [123] h'; rw [i1] at this; exact Lib.hid this : Hid (Calls Tryz.prog 51 #[.pointer (some ⟨g, 0, none⟩), .string (bs [123])] w' (EndsB (.bool false) w')))
  have HF : forX (tl r) = tell (.row 0) (tl r) := by unfold forX; rw [if_neg (by simp [i1])]
  rw [HF]
  have CX := fun w' (h' : RdM lo w' g (tl r)) => Lib.hid (expr_any w' g (tl r) h')
  have HLT := Lib.hid (tell_lenR (.row 0) (tl r))
  clear HF
  obtain ⟨p, hp⟩ : ∃ p, tell (.row 0) (tl r) = p := ⟨_, rfl⟩
  rw [hp] at CX HLT ⊢
  clear hp
  clear i1 CB
  have HG := Lib.hid h.lt
  have HLO := Lib.hid h.wlo
  have HB := Lib.hid (ball_new w #[.int .i64 0, .string ⟨#[]⟩, .int .i64 0, .int .i64 0, .string ⟨#[]⟩, .string ⟨#[]⟩, .slice none 0 0, .slice none 0 0, .slice none 0 0] 47)
  have H0 := Lib.hid (h.below HB.out)
  have N0 := fun w' (h' : RdM lo w' g r) => Lib.hid (skip_no w' g r [105, 102] h' n0)
  have Y := fun w' (h' : RdM lo w' g r) => Lib.hid (skip_yes w' g r [102, 111, 114] h' hi)
  clear h n0 hi
  go_enter Tryz.func88, Tryz.ntmps88
  go_wp2_with fail
  refine (N0 _ H0.out).out.mono ?_
  rintro e v0 ⟨rfl, h1, h2⟩
  have P0 := Lib.hid h1
  have T0 := Lib.hid h2
  clear h1 h2
  go_wp2_with fail
  refine (Y _ P0.out).out.mono ?_
  rintro e w1 ⟨rfl, h1, h2⟩
  have H1 := Lib.hid h1
  have H2 := Lib.hid (T0.out.trans h2)
  clear h1 h2 N0 Y P0 T0
  have HR1 := Lib.hid (res_keep9 HG.out H2.out)
  have B0 : Hid (Bld lo w (w1.alloc (.cells #[.int .i64 4, .string ⟨#[]⟩, .int .i64 2, .int .i64 1, .string ⟨#[]⟩, .string ⟨#[]⟩, .slice none 0 0, .slice none 0 0, .slice none 0 0] 47)) g w1.heap.size (tl r) 4 ⟨#[]⟩ oneX none 0 [] none 0 []) := Lib.hid (Bld.start HG.out HLO.out H1.out HR1.out (((Turn.refl [g] w).below HB.out).trans H2.out) (leaf_in _ 2 1 ⟨#[]⟩ nil_max) (leaf_new _ 2 1 ⟨#[]⟩) nil_max)
  clear HB H0 H1 H2 HR1
  have C1 := I1 _ B0.out.rd
  clear I1
  go_wp2_with fail
  generalize w1.heap.size = sb at *
  refine C1.out.mono ?_
  rintro e w2 ⟨rfl, hb2⟩
  have B2 := Lib.hid (B0.out.below hb2)
  clear hb2 B0 C1
  have CX1 := CX _ B2.out.rd
  clear CX
  go_wp2_with fail
  refine CX1.out.mono ?_
  rintro e w4 ⟨x, rfl, hx1, hx2, hx3, hx4, hx5⟩
  rw [exV_eq]
  have HB4 := Lib.hid (B2.out.turned hx5 hx4)
  have B5 := Lib.hid (B2.out.setE hx2 hx3 hx4 hx5)
  have HX1 := Lib.hid hx1
  clear hx1 hx2 hx3 hx4 hx5 B2 CX1
  obtain ⟨W, hW⟩ : ∃ W, (((((w4.setCell ⟨sb, 2, none⟩ (.int .i64 x.op)).setCell ⟨sb, 3, none⟩ (.int .i64 x.n)).setCell ⟨sb, 4, none⟩ (.string x.s)).setCell ⟨sb, 5, none⟩ (.string x.q)).setCell ⟨sb, 6, none⟩ (.slice x.a x.x.length x.c)) = W := ⟨_, rfl⟩
  rw [hW] at B5
  have e2 := free_at HB4.out.at_ 2
  have e3 := free_at HB4.out.at_ 3
  have e4 := free_at HB4.out.at_ 4
  have e5 := free_at HB4.out.at_ 5
  have e6 := free_at HB4.out.at_ 6
  obtain ⟨z0, z1, z2, z3, z4, z5, z6, z7, z8⟩ := Prs.nine_at HB4.out.at_
  simp only [oneX, Ex.op, Ex.n, Ex.s, Ex.q, Ex.a, Ex.x, Ex.c, List.length_nil] at z2 z3 z4 z5 z6 z7 z8
  have CBW := HCB.out W p.2 B5.out.rd (by have := HLT.out; have := HLP.out; omega)
  go_wp2_with fail
  clear e2 e3 e4 e5 e6 z0 z1 z2 z3 z4 z5 z6 z7 z8 HB4 hW
  refine CBW.out.mono ?_
  rintro e w6 ⟨A7, c7, l7, rfl, ha, hrow, hlen, hnew, hin, hnn, hr, ht⟩
  have HA7 := Lib.hid ha
  have B7 := Lib.hid (B5.out.setB (d := c7) hrow hlen hnew hin hnn hr ht)
  have B7o := Lib.hid (B5.out.turned ht hr)
  clear ha hrow hlen hnew hin hnn hr ht
  have e7 := free_at B7o.out.at_ 7
  obtain ⟨z0, z1, z2, z3, z4, z5, z6, z7, z8⟩ := Prs.nine_at B7o.out.at_
  obtain ⟨x0, x1, x2, x3, x4, x5, x6, x7, x8⟩ := Prs.nine_at B7.out.at_
  try simp only [List.length_nil] at x2 x3 x4 x5 x6 x7 x8
  simp only [List.length_nil] at z7 z8
  obtain ⟨y0, y1, y2, y3, y4, y5, y6, y7, y8⟩ := Prs.nine_at B7o.out.res
  have f0 := free_at B7o.out.res 0
  have f1 := free_at B7o.out.res 1
  have f2 := free_at B7o.out.res 2
  have f3 := free_at B7o.out.res 3
  have f4 := free_at B7o.out.res 4
  have f5 := free_at B7o.out.res 5
  have f6 := free_at B7o.out.res 6
  have f7 := free_at B7o.out.res 7
  have f8 := free_at B7o.out.res 8
  have rr := B7o.out.hi
  clear HCB CBW B5
  go_wp2_with fail
  have HT := Lib.hid (turn9 (w6.setCell ⟨sb, 7, none⟩ (.slice A7 l7.length c7)) w.heap.size (.int .i64 4) (.string ⟨#[]⟩) (.int .i64 x.op) (.int .i64 x.n) (.string x.s) (.string x.q) (.slice x.a x.x.length x.c) (.slice A7 l7.length c7) (.slice none 0 0))
  refine bodyPost_ret (results_stmt rfl _ _ w.heap.size _ _ _ _ _ _ _ _ _ rfl (set9 B7.out.res)) rfl ?_
  exact B7.out.done HT.out (by rw [HX1.out, HA7.out]; rfl)
end Go.Proofs.YtlhbhpdpjidpgaaGreatDoor.Prs
