/-
  The document's when. Conditions: the reader is known; a block, and another when, tell what the plain grammar says.
-/
import Derived.Test.YtlhbhpdpjidpgaaGreatDoorX26
import Derived.Test.YtlhbhpdpjidpgaaGreatDoorX28
import Derived.Test.YtlhbhpdpjidpgaaGreatDoorX35
namespace Go.Proofs.YtlhbhpdpjidpgaaGreatDoor.Prs
open Go.RowKit Tre
open Lex (Wd wdC wdV bs str Turn)
set_option maxRecDepth 100000
set_option linter.unusedSimpArgs false
variable {lo : Nat}
theorem row_one {w : World} {b : Nat} {s : St} (h : w.heap[b]? = some (.cells (stC s).toArray 47 (0, 0))) : Row 9 stC w (some ⟨b, 0, none⟩) [s] := fun _ => by
  refine ⟨b, 0, rfl, lt_of_heap h, fun j x hx r u hu => ?_⟩
  cases j with
  | zero =>
    obtain rfl : s = x := by simpa using hx
    rw [cell_at h]
    simpa using hu
  | succ j => simp at hx
theorem when_none (r : PS) (h : isW (tellS .block (tell (.row 0) r).2).2 wElse = false) : tellS .when r = one1 (.mk 3 [] (tell (.row 0) r).1 (tellS .block (tell (.row 0) r).2).1 []) (tellS .block (tell (.row 0) r).2).2 := by
  rw [tellS_when, if_neg (by simp [h])]
theorem when_block (r : PS) (h : isW (tellS .block (tell (.row 0) r).2).2 wElse = true) (h2 : isW (tl (tellS .block (tell (.row 0) r).2).2) wIf = false) : tellS .when r = one1 (.mk 3 [] (tell (.row 0) r).1 (tellS .block (tell (.row 0) r).2).1 (tellS .block (tl (tellS .block (tell (.row 0) r).2).2)).1) (tellS .block (tl (tellS .block (tell (.row 0) r).2).2)).2 := by
  rw [tellS_when, if_pos h, if_neg (by simp [h2])]
theorem when_when (r : PS) (h : isW (tellS .block (tell (.row 0) r).2).2 wElse = true) (h2 : isW (tl (tellS .block (tell (.row 0) r).2).2) wIf = true) : tellS .when r = one1 (.mk 3 [] (tell (.row 0) r).1 (tellS .block (tell (.row 0) r).2).1 (tellS .when (tl (tl (tellS .block (tell (.row 0) r).2).2))).1) (tellS .when (tl (tl (tellS .block (tell (.row 0) r).2).2))).2 := by
  rw [tellS_when, if_pos h, if_pos h2]
set_option maxHeartbeats 16000000 in
theorem when_any (w : World) (g : Nat) (r : PS) (h : RdM lo w g r) (CB : ∀ w' r1, RdM lo w' g r1 → lenR r1 ≤ lenR r → Hid (Calls Tryz.prog 53 #[.pointer (some ⟨g, 0, none⟩)] w' (EvB lo w' g (tellS .block r1)))) (CW : ∀ w' r1, RdM lo w' g r1 → lenR r1 < lenR r → Hid (Calls Tryz.prog 126 #[.pointer (some ⟨g, 0, none⟩)] w' (EvT lo w' g (tellS .when r1)))) :
    Calls Tryz.prog 126 #[.pointer (some ⟨g, 0, none⟩)] w (EvT lo w g (tellS .when r)) := by
  have HCB := Lib.hid CB
  have HCW := Lib.hid CW
  have HLT := Lib.hid (tell_lenR (.row 0) r)
  have HL7 := Lib.hid (tellS_lenR .block (tell (.row 0) r).2)
  have W0 := Lib.hid (when_none r)
  have W1 := Lib.hid (when_block r)
  have W2 := Lib.hid (when_when r)
  clear CB CW
  have HG := Lib.hid h.lt
  have HLO := Lib.hid h.wlo
  have HB := Lib.hid (ball_new w #[.int .i64 0, .string ⟨#[]⟩, .int .i64 0, .int .i64 0, .string ⟨#[]⟩, .string ⟨#[]⟩, .slice none 0 0, .slice none 0 0, .slice none 0 0] 47)
  have H0 := Lib.hid (h.below HB.out)
  have CX := Lib.hid (expr_any _ g r H0.out)
  clear h H0
  generalize tellS .when r = q at *
  generalize tell (.row 0) r = p at *
  go_enter Tryz.func126, Tryz.ntmps126
  go_wp2_with fail
  refine CX.out.mono ?_
  rintro e w1 ⟨x, rfl, hx1, hx2, hx3, hx4, hx5⟩
  rw [exV_eq]
  have HR1 := Lib.hid (res_keep9 HG.out hx5)
  have B0 : Hid (Bld lo w (w1.alloc (.cells #[.int .i64 3, .string ⟨#[]⟩, .int .i64 x.op, .int .i64 x.n, .string x.s, .string x.q, .slice x.a x.x.length x.c, .slice none 0 0, .slice none 0 0] 47)) g w1.heap.size p.2 3 ⟨#[]⟩ x none 0 [] none 0 []) := Lib.hid (Bld.start HG.out HLO.out hx4 HR1.out (((Turn.refl [g] w).below HB.out).trans hx5) hx2 (hx3.mono (by simp)) nil_max)
  have HX1 := Lib.hid hx1
  clear HB HR1 hx1 hx2 hx3 hx4 hx5 CX
  have CBW := HCB.out _ p.2 B0.out.rd HLT.out
  go_wp2_with fail
  generalize w1.heap.size = sb at *
  refine CBW.out.mono ?_
  rintro e w6 ⟨A7, c7, l7, rfl, ha, hrow, hlen, hnew, hin, hnn, hr, ht⟩
  have HA7 := Lib.hid ha
  have B7 := Lib.hid (B0.out.setB (d := c7) hrow hlen hnew hin hnn hr ht)
  have B7o := Lib.hid (B0.out.turned ht hr)
  clear ha hrow hlen hnew hin hnn hr ht
  clear B0 CBW
  generalize tellS .block p.2 = p7 at *
  have e7 := free_at B7o.out.at_ 7
  obtain ⟨z0, z1, z2, z3, z4, z5, z6, z7, z8⟩ := Prs.nine_at B7o.out.at_
  simp only [List.length_nil] at z7 z8
  have rr := B7o.out.hi
  obtain ⟨V2, hV2⟩ : ∃ V2, w6.setCell ⟨sb, 7, none⟩ (.slice A7 l7.length c7) = V2 := ⟨_, rfl⟩
  rw [hV2] at B7
  rcases Bool.eq_false_or_eq_true (isW p7.2 wElse) with ie | ie
  · have CE := Lib.hid (skip_yes V2 g p7.2 [101, 108, 115, 101] B7.out.rd ie)
    have HIE := Lib.hid ie
    have HTL := Lib.hid (lenR_tl p7.2)
    have HPS := Lib.hid (lenR_pos ie)
    clear ie W0
    go_wp2_with fail
    clear e7 z0 z1 z2 z3 z4 z5 z6 z7 z8 B7o hV2
    refine CE.out.mono ?_
    rintro e v1 ⟨rfl, h1, h2⟩
    have B8 := Lib.hid (B7.out.turned h2 h1)
    clear h1 h2 CE B7
    rcases Bool.eq_false_or_eq_true (isW (tl p7.2) wIf) with ii | ii
    · have CI := Lib.hid (skip_yes v1 g (tl p7.2) [105, 102] B8.out.rd ii)
      have HDQ0 := Lib.hid (W2.out HIE.out ii)
      have HTL2 := Lib.hid (lenR_tl (tl p7.2))
      clear ii W1 W2
      go_wp2_with fail
      refine CI.out.mono ?_
      rintro e v2 ⟨rfl, h1, h2⟩
      have B9 := Lib.hid (B8.out.turned h2 h1)
      clear h1 h2 CI B8
      have CC := HCW.out v2 _ B9.out.rd (by have := HLT.out; have := HL7.out; have := HTL.out; have := HTL2.out; have := HPS.out; omega)
      generalize tellS .when (tl (tl p7.2)) = p8 at *
      go_wp2_with fail
      refine CC.out.mono ?_
      rintro e v3 ⟨t, ht, s, rfl, hs1, hs2, hs3, hs4, hs5⟩
      have HBR := Lib.hid (ball_new v3 (stC s).toArray 47)
      have HNR := Lib.hid (new_at v3 (stC s).toArray 47)
      have B10o := Lib.hid ((B9.out.turned hs5 hs4).below HBR.out)
      have B10 : Hid (Bld lo w ((v3.alloc (.cells (stC s).toArray 47)).setCell ⟨sb, 8, none⟩ (.slice (some ⟨v3.heap.size, 0, none⟩) [s].length 1)) g sb p8.2 3 ⟨#[]⟩ x A7 c7 l7 (some ⟨v3.heap.size, 0, none⟩) 1 [s]) := Lib.hid (B9.out.setB2 (row_one HNR.out) (by simp [most]) (fun ad e => by injection e with e; rw [← e]; exact hs5.size) (fun y hy => by simp at hy; subst hy; exact Tre.StIn.below hs2 HBR.out) (fun y hy => by simp at hy; subst hy; exact hs3) (hs4.below HBR.out) (hs5.below HBR.out))
      have HDQ : Hid (q = ([.mk 3 (⟨#[]⟩ : ByteArray).data.toList (core x) (l7.map coreS) ([s].map coreS)], p8.2)) := Lib.hid (by rw [HDQ0.out, HX1.out, HA7.out, List.map_cons, List.map_nil, hs1, ← ht]; rfl)
      clear ht hs1 hs2 hs3 hs4 hs5 CC B9 HBR HNR HDQ0
      obtain ⟨so, ss, ⟨eo, en, es, eq, ea, ec, ex⟩, ya, yc, yb, ya2, yc2, yb2⟩ := s
      unfold stV
      simp only [stC] at B10o B10
      have e8 := free_at B10o.out.at_ 8
      obtain ⟨z0, z1, z2, z3, z4, z5, z6, z7, z8⟩ := Prs.nine_at B10o.out.at_
      obtain ⟨x0, x1, x2, x3, x4, x5, x6, x7, x8⟩ := Prs.nine_at B10.out.at_
      simp only [List.length_cons, List.length_nil, Nat.zero_add] at x8 z8
      obtain ⟨y0, y1, y2, y3, y4, y5, y6, y7, y8⟩ := Prs.nine_at B10o.out.res
      have f0 := free_at B10o.out.res 0
      have f1 := free_at B10o.out.res 1
      have f2 := free_at B10o.out.res 2
      have f3 := free_at B10o.out.res 3
      have f4 := free_at B10o.out.res 4
      have f5 := free_at B10o.out.res 5
      have f6 := free_at B10o.out.res 6
      have f7 := free_at B10o.out.res 7
      have f8 := free_at B10o.out.res 8
      go_wp2_with fail
      have HT := Lib.hid (turn9 ((v3.alloc (.cells #[.int .i64 so, .string ss, .int .i64 eo, .int .i64 en, .string es, .string eq, .slice ea ex.length ec, .slice ya yb.length yc, .slice ya2 yb2.length yc2] 47)).setCell ⟨sb, 8, none⟩ (.slice (some ⟨v3.heap.size, 0, none⟩) 1 1)) w.heap.size (.int .i64 3) (.string ⟨#[]⟩) (.int .i64 x.op) (.int .i64 x.n) (.string x.s) (.string x.q) (.slice x.a x.x.length x.c) (.slice A7 l7.length c7) (.slice (some ⟨v3.heap.size, 0, none⟩) 1 1))
      refine bodyPost_ret (results_stmt rfl _ _ w.heap.size _ _ _ _ _ _ _ _ _ rfl (set9 B10.out.res)) rfl ?_
      exact B10.out.done HT.out HDQ.out
    · have CI := Lib.hid (skip_no v1 g (tl p7.2) [105, 102] B8.out.rd ii)
      have HDQ0 := Lib.hid (W1.out HIE.out ii)
      clear ii W1 W2
      go_wp2_with fail
      refine CI.out.mono ?_
      rintro e v2 ⟨rfl, h1, h2⟩
      have B9 := Lib.hid (B8.out.turned h2 h1)
      clear h1 h2 CI B8
      have CBV := HCB.out v2 _ B9.out.rd (by have := HLT.out; have := HL7.out; have := HTL.out; omega)
      generalize tellS .block (tl p7.2) = p8 at *
      go_wp2_with fail
      refine CBV.out.mono ?_
      rintro e v3 ⟨A8, c8, l8, rfl, ha, hrow, hlen, hnew, hin, hnn, hr, ht⟩
      have HA8 := Lib.hid ha
      have B10 := Lib.hid (B9.out.setB2 (d := c8) hrow hlen hnew hin hnn hr ht)
      have B10o := Lib.hid (B9.out.turned ht hr)
      clear ha hrow hlen hnew hin hnn hr ht
      have HDQ : Hid (q = ([.mk 3 (⟨#[]⟩ : ByteArray).data.toList (core x) (l7.map coreS) (l8.map coreS)], p8.2)) := Lib.hid (by rw [HDQ0.out, HX1.out, HA7.out, HA8.out]; rfl)
      have e8 := free_at B10o.out.at_ 8
      obtain ⟨z0, z1, z2, z3, z4, z5, z6, z7, z8⟩ := Prs.nine_at B10o.out.at_
      simp only [List.length_nil] at z8
      obtain ⟨x0, x1, x2, x3, x4, x5, x6, x7, x8⟩ := Prs.nine_at B10.out.at_
      obtain ⟨y0, y1, y2, y3, y4, y5, y6, y7, y8⟩ := Prs.nine_at B10o.out.res
      have f0 := free_at B10o.out.res 0
      have f1 := free_at B10o.out.res 1
      have f2 := free_at B10o.out.res 2
      have f3 := free_at B10o.out.res 3
      have f4 := free_at B10o.out.res 4
      have f5 := free_at B10o.out.res 5
      have f6 := free_at B10o.out.res 6
      have f7 := free_at B10o.out.res 7
      have f8 := free_at B10o.out.res 8
      go_wp2_with fail
      have HT := Lib.hid (turn9 (v3.setCell ⟨sb, 8, none⟩ (.slice A8 l8.length c8)) w.heap.size (.int .i64 3) (.string ⟨#[]⟩) (.int .i64 x.op) (.int .i64 x.n) (.string x.s) (.string x.q) (.slice x.a x.x.length x.c) (.slice A7 l7.length c7) (.slice A8 l8.length c8))
      refine bodyPost_ret (results_stmt rfl _ _ w.heap.size _ _ _ _ _ _ _ _ _ rfl (set9 B10.out.res)) rfl ?_
      exact B10.out.done HT.out HDQ.out
  · have CE := Lib.hid (skip_no V2 g p7.2 [101, 108, 115, 101] B7.out.rd ie)
    have HDQ : Hid (q = ([.mk 3 (⟨#[]⟩ : ByteArray).data.toList (core x) (l7.map coreS) (([] : List St).map coreS)], p7.2)) := Lib.hid (by rw [W0.out ie, HX1.out, HA7.out]; rfl)
    clear ie W0 W1 W2
    go_wp2_with fail
    clear e7 z0 z1 z2 z3 z4 z5 z6 z7 z8 B7o hV2
    refine CE.out.mono ?_
    rintro e v1 ⟨rfl, h1, h2⟩
    have B8 := Lib.hid (B7.out.turned h2 h1)
    clear h1 h2 CE B7
    obtain ⟨x0, x1, x2, x3, x4, x5, x6, x7, x8⟩ := Prs.nine_at B8.out.at_
    try simp only [List.length_nil] at x2 x3 x4 x5 x6 x7 x8
    obtain ⟨y0, y1, y2, y3, y4, y5, y6, y7, y8⟩ := Prs.nine_at B8.out.res
    have f0 := free_at B8.out.res 0
    have f1 := free_at B8.out.res 1
    have f2 := free_at B8.out.res 2
    have f3 := free_at B8.out.res 3
    have f4 := free_at B8.out.res 4
    have f5 := free_at B8.out.res 5
    have f6 := free_at B8.out.res 6
    have f7 := free_at B8.out.res 7
    have f8 := free_at B8.out.res 8
    go_wp2_with fail
    have HT := Lib.hid (turn9 v1 w.heap.size (.int .i64 3) (.string ⟨#[]⟩) (.int .i64 x.op) (.int .i64 x.n) (.string x.s) (.string x.q) (.slice x.a x.x.length x.c) (.slice A7 l7.length c7) (.slice none 0 0))
    refine bodyPost_ret (results_stmt rfl _ _ w.heap.size _ _ _ _ _ _ _ _ _ rfl (set9 B8.out.res)) rfl ?_
    exact B8.out.done HT.out HDQ.out
end Go.Proofs.YtlhbhpdpjidpgaaGreatDoor.Prs
/- The document's statements, whole: block, when and stmt tell what the plain grammar tells. Condition: the reader is known. -/
namespace Go.Proofs.YtlhbhpdpjidpgaaGreatDoor.Prs
open Go.RowKit Tre
open Lex (Wd wdC wdV bs str Turn)
set_option maxRecDepth 100000
set_option linter.unusedSimpArgs false
variable {lo : Nat}
theorem stmt_one (w : World) (g : Nat) (r : PS) (h : RdM lo w g r) (CB : ∀ w' r1, RdM lo w' g r1 → lenR r1 < lenR r → Hid (Calls Tryz.prog 53 #[.pointer (some ⟨g, 0, none⟩)] w' (EvB lo w' g (tellS .block r1)))) (CW : ∀ w', RdM lo w' g (tl r) → isW r wIf = true → Hid (Calls Tryz.prog 126 #[.pointer (some ⟨g, 0, none⟩)] w' (EvT lo w' g (tellS .when (tl r))))) :
    Calls Tryz.prog 88 #[.pointer (some ⟨g, 0, none⟩)] w (EvT lo w g (tellS .stmt r)) := by
  rw [tellS_stmt]
  rcases Bool.eq_false_or_eq_true (isW r wIf) with n0 | n0
  · rw [if_pos n0]
    exact stmt_if w g r h n0 _ (fun w' h' => CW w' h' n0)
  rw [if_neg (by simp [n0])]
  rcases Bool.eq_false_or_eq_true (isW r wFor) with n1 | n1
  · rw [if_pos n1]
    rcases Bool.eq_false_or_eq_true (isW (tl r) [123]) with i1 | i1
    · exact stmt_for_none w g r h n0 n1 i1 CB
    · exact stmt_for_expr w g r h n0 n1 i1 CB
  rw [if_neg (by simp [n1])]
  rcases Bool.eq_false_or_eq_true (isW r wReturn) with n2 | n2
  · rw [if_pos n2]
    rcases Bool.eq_false_or_eq_true (isW (tl r) [59]) with i1 | i1
    · exact stmt_ret_semi w g r h n0 n1 n2 i1
    rcases Bool.eq_false_or_eq_true (isW (tl r) [125]) with i2 | i2
    · exact stmt_ret_brace w g r h n0 n1 n2 i1 i2
    · exact stmt_ret_expr w g r h n0 n1 n2 i1 i2
  rw [if_neg (by simp [n2])]
  rcases Bool.eq_false_or_eq_true (isW r wPrint) with n3 | n3
  · rw [if_pos n3]
    exact stmt_print w g r h n0 n1 n2 n3
  rw [if_neg (by simp [n3])]
  rcases Bool.eq_false_or_eq_true (isW r wBreak) with n4 | n4
  · rw [if_pos n4]
    exact stmt_break w g r h n0 n1 n2 n3 n4
  rw [if_neg (by simp [n4])]
  rcases Bool.eq_false_or_eq_true (isW r wNext) with n5 | n5
  · rw [if_pos n5]
    exact stmt_next w g r h n0 n1 n2 n3 n4 n5
  rw [if_neg (by simp [n5])]
  unfold nameS
  rcases Bool.eq_false_or_eq_true (isW (wordR r 1 false) [58, 61]) with i1 | i1
  · rw [if_pos i1]
    exact stmt_def w g r h n0 n1 n2 n3 n4 n5 i1
  rw [if_neg (by simp [i1])]
  rcases Bool.eq_false_or_eq_true (isW (wordR r 1 false) [61]) with i2 | i2
  · rw [if_pos i2]
    exact stmt_set w g r h n0 n1 n2 n3 n4 n5 i1 i2
  rw [if_neg (by simp [i2])]
  exact stmt_call w g r h n0 n1 n2 n3 n4 n5 i1 i2
/-- All three, as far as N words. -/
theorem sts_upto (g : Nat) : ∀ (N : Nat),
    (∀ (r : PS) (w : World), 3 * lenR r + 1 ≤ N → RdM lo w g r → Calls Tryz.prog 88 #[.pointer (some ⟨g, 0, none⟩)] w (EvT lo w g (tellS .stmt r))) ∧
    (∀ (r : PS) (w : World), 3 * lenR r + 2 ≤ N → RdM lo w g r → Calls Tryz.prog 53 #[.pointer (some ⟨g, 0, none⟩)] w (EvB lo w g (tellS .block r))) ∧
    (∀ (r : PS) (w : World), 3 * lenR r + 3 ≤ N → RdM lo w g r → Calls Tryz.prog 126 #[.pointer (some ⟨g, 0, none⟩)] w (EvT lo w g (tellS .when r)))
  | 0 => ⟨fun r w h _ => by omega, fun r w h _ => by omega, fun r w h _ => by omega⟩
  | N + 1 => by
    obtain ⟨IS, IB, IW⟩ := sts_upto g N
    refine ⟨fun r w h hr => ?_, fun r w h hr => ?_, fun r w h hr => ?_⟩
    · exact stmt_one w g r hr (fun w' r1 h1 hl => Lib.hid (IB r1 w' (by omega) h1)) (fun w' h1 hi => Lib.hid (IW _ w' (by have := lenR_pos hi; have := lenR_tl r; omega) h1))
    · exact block_any w g r hr (fun w' r1 h1 hl => Lib.hid (IS r1 w' (by omega) h1))
    · exact when_any w g r hr (fun w' r1 h1 hl => Lib.hid (IB r1 w' (by omega) h1)) (fun w' r1 h1 hl => Lib.hid (IW r1 w' (by omega) h1))
theorem blockD (w : World) (g : Nat) (r : PS) (h : RdM lo w g r) : Calls Tryz.prog 53 #[.pointer (some ⟨g, 0, none⟩)] w (EvB lo w g (tellS .block r)) := (sts_upto g _).2.1 r w (Nat.le_refl _) h
end Go.Proofs.YtlhbhpdpjidpgaaGreatDoor.Prs
/- A function that the document's parser builds, cell by cell. Condition: the reader is known. -/
namespace Go.Proofs.YtlhbhpdpjidpgaaGreatDoor.Prs
open Go.RowKit Tre Prg
open Lex (Wd wdC wdV bs str Turn)
set_option maxRecDepth 100000
set_option linter.unusedSimpArgs false
variable {lo : Nat}
theorem typeMust_eq (r : PS) : typeMust r = ⟨(typeR r).l, (typeR r).bad || typeN r == 0, (typeR r).big⟩ := by
  unfold typeMust badR
  cases h : typeN r == 0 with
  | true => simp
  | false => simp
/-- The reader turns bad, or stays as it is. -/
theorem RdM.bads {w : World} {g : Nat} {r : PS} (h : RdM lo w g r) (B : Bool) : RdM lo (w.setCell ⟨g, 1, none⟩ (.bool B)) g ⟨r.l, B, r.big⟩ := by
  obtain ⟨a, c, h1, h2, h3, h4⟩ := h.at_
  exact RdM.set h1 h ⟨r.l, B, r.big⟩ a c 1 _ rfl h2 h3 h4 (Nat.le_refl _) (fun x hx => hx)
def EvF (lo : Nat) (w : World) (g : Nat) (q : Tf × PS) (e : Ending) (w' : World) : Prop := ∃ f : Tre.Fn, e = .returned (fnV f) ∧ coreF f = q.1 ∧ FnIn w' f ∧ NewF w.heap.size f ∧ RdM lo w' g q.2 ∧ Turn [g] w w'
/-- The function in block fb. -/
structure FD (lo : Nat) (w W : World) (g fb : Nat) (r : PS) (S : ByteArray) (pa : Option Addr) (pc : Nat) (xs : List Tp) (T : Int) (ba : Option Addr) (bc : Nat) (b : List St) : Prop where
  rd : RdM lo W g r
  at_ : W.heap[fb]? = some (.cells #[.string S, .slice pa xs.length pc, .int .u8 T, .slice ba b.length bc] 51 (0, 0))
  res : W.heap[w.heap.size]? = some (.cells #[.string ⟨#[]⟩, .slice none 0 0, .int .u8 0, .slice none 0 0] 51 (0, 0))
  own : OwnG 2 parCT 67 W (fb + 1) (.slice pa xs.length pc) xs
  ptxt : ∀ x ∈ xs, x.s.length ≤ 1000000
  brow : Row 9 stC W ba b
  blen : b.length ≤ most
  bnew : ∀ ad, ba = some ad → fb + 1 ≤ ad.block
  bin : ∀ s ∈ b, StIn W s
  bn : ∀ s ∈ b, NewS (fb + 1) s
  turn : Turn [g] w W
  hs : S.size ≤ maxLen
  hi : w.heap.size < fb
  g : g < w.heap.size
  lo : lo ≤ w.heap.size
section
variable {w W : World} {g fb : Nat} {r : PS} {S : ByteArray} {pa : Option Addr} {pc : Nat} {xs : List Tp} {T : Int} {ba : Option Addr} {bc : Nat} {b : List St}
theorem FD.keep {W' : World} {L : List Nat} (h : FD lo w W g fb r S pa pc xs T ba bc b) (ht : Turn L W W') (hL : ∀ k ∈ L, k < fb + 1) : OwnG 2 parCT 67 W' (fb + 1) (.slice pa xs.length pc) xs ∧ Row 9 stC W' ba b ∧ ∀ s ∈ b, StIn W' s :=
  ⟨h.own.keep fun k hk => ht.block k (h.own.lt k hk).2 (fun hm => by have := (h.own.lt k hk).1; have := hL _ hm; omega), Row.kept h.brow ht.size (fun k o e hlt => ht.block k hlt (fun hm => by have := h.bnew _ e; have := hL _ hm; simp at *; omega)), fun s hs => StIn.off (h.bin s hs) (NewS.off (h.bn s hs) hL) ht⟩
theorem FD.turned {W' : World} {r' : PS} (h : FD lo w W g fb r S pa pc xs T ba bc b) (ht : Turn [g] W W') (hr : RdM lo W' g r') : FD lo w W' g fb r' S pa pc xs T ba bc b := by
  have hg := h.g
  have hh := h.hi
  obtain ⟨k1, k2, k3⟩ := h.keep ht (fun k hk => by simp at hk; omega)
  exact ⟨hr, (ht.block _ (lt_of_heap h.at_) (by simp; omega)).trans h.at_, (ht.block _ (lt_of_heap h.res) (by simp; omega)).trans h.res, k1, h.ptxt, k2, h.blen, h.bnew, k3, h.bn, h.turn.trans ht, h.hs, hh, hg, h.lo⟩
theorem FD.below {W' : World} (h : FD lo w W g fb r S pa pc xs T ba bc b) (hb : Below W.heap.size W W') : FD lo w W' g fb r S pa pc xs T ba bc b := h.turned ((Turn.refl [g] W).below hb) (h.rd.below hb)
theorem FD.setT {T' : Int} (h : FD lo w W g fb r S pa pc xs T ba bc b) : FD lo w (W.setCell ⟨fb, 2, none⟩ (.int .u8 T')) g fb r S pa pc xs T' ba bc b := by
  have hg := h.g
  have hh := h.hi
  have ht := turn1 W fb 2 (.int .u8 T')
  obtain ⟨k1, k2, k3⟩ := h.keep ht (fun k hk => by simp at hk; omega)
  exact ⟨h.rd.but ht (by have := h.lo; omega), set_at h.at_ 2 (.int .u8 T'), (ht.block _ (lt_of_heap h.res) (by simp; omega)).trans h.res, k1, h.ptxt, k2, h.blen, h.bnew, k3, h.bn, h.turn.then_ ht (fun k hk => by simp at hk; subst hk; exact .inr (by omega)), h.hs, hh, hg, h.lo⟩
theorem FD.setB {W2 : World} {r' : PS} {B : Option Addr} {d : Nat} {l : List St} (h : FD lo w W g fb r S pa pc xs T ba bc b) (hrow : Row 9 stC W2 B l) (hlen : l.length ≤ most) (hnew : ∀ ad, B = some ad → W.heap.size ≤ ad.block) (hin : ∀ s ∈ l, StIn W2 s) (hn : ∀ s ∈ l, NewS W.heap.size s) (hr : RdM lo W2 g r') (ht : Turn [g] W W2) :
    FD lo w (W2.setCell ⟨fb, 3, none⟩ (.slice B l.length d)) g fb r' S pa pc xs T B d l := by
  have hg := h.g
  have hh := h.hi
  have hsz := lt_of_heap h.at_
  have h2 := h.turned ht hr
  have t1 := turn1 W2 fb 3 (.slice B l.length d)
  obtain ⟨k1, _, _⟩ := h2.keep t1 (fun k hk => by simp at hk; omega)
  exact ⟨h2.rd.but t1 (by have := h.lo; omega), set_at h2.at_ 3 (.slice B l.length d), (t1.block _ (lt_of_heap h2.res) (by simp; omega)).trans h2.res, k1, h.ptxt, Row.kept hrow t1.size (fun k o e hlt => t1.block k hlt (by have := hnew _ e; simp at this ⊢; omega)), hlen, fun ad e => by have := hnew _ e; omega, fun s hs => StIn.off (hin s hs) (NewS.off (hn s hs) (fun k hk => by simp at hk; omega)) t1, fun s hs => (hn s hs).mono (by omega), h2.turn.then_ t1 (fun k hk => by simp at hk; subst hk; exact .inr (by omega)), h.hs, hh, hg, h.lo⟩
/-- One parameter more. -/
theorem FD.push {y : Tp} (h : FD lo w W g fb r S pa pc xs 0 none 0 []) (hy : y.s.length ≤ 1000000) (hl : xs.length ≤ 1000000) :
    ∃ A2 c2 u2, (∀ ty, (Builtin.append_ #[48, 48] ty #[.slice pa xs.length pc, .slice (some ⟨W.heap.size, 0, none⟩) 1 1]).run Tryz.prog (W.alloc (.cells #[.string (bs y.s), .int .u8 y.t] 67)) = .ok (.slice A2 (xs ++ [y]).length c2) u2) ∧
      u2.heap[fb]? = some (.cells #[.string S, .slice pa xs.length pc, .int .u8 0, .slice none 0 0] 51 (0, 0)) ∧ FD lo w (u2.setCell ⟨fb, 1, none⟩ (.slice A2 (xs ++ [y]).length c2)) g fb r S A2 c2 (xs ++ [y]) 0 none 0 [] := by
  have hb3 := ball_new W #[.string (bs y.s), .int .u8 y.t] 67
  have hn3 := new_at W #[.string (bs y.s), .int .u8 y.t] 67
  have h3 := h.below hb3
  have hsz := lt_of_heap h3.at_
  obtain ⟨vv, u2, hap, how, hgr, hbo⟩ := app_par _ (fb + 1) (.slice pa xs.length pc) xs y W.heap.size h3.own hn3 hl (by omega)
  obtain ⟨A2, c2, rfl, -⟩ := how.form
  have T2 : Turn (Value.slice pa xs.length pc).ownBlock.toList (W.alloc (.cells #[.string (bs y.s), .int .u8 y.t] 67)) u2 := (Turn.refl _ _).grown hgr (fun k hk => .inl (by simp [hk]))
  have hlo2 : ∀ b ∈ (Value.slice pa xs.length pc).ownBlock.toList, fb + 1 ≤ b := fun b hb => (h3.own.lt b (by simpa using hb)).1
  have ha := (T2.block _ (lt_of_heap h3.at_) (fun hm => by have := hlo2 _ hm; omega)).trans h3.at_
  have hg := h.g
  have hh := h.hi
  have hlo := h.lo
  have hr := (T2.block _ (lt_of_heap h3.res) (fun hm => by have := hlo2 _ hm; omega)).trans h3.res
  have t1 := turn1 u2 fb 1 (.slice A2 (xs ++ [y]).length c2)
  refine ⟨A2, c2, u2, hap, ha, (h3.rd.buts T2 (fun b hb => by have := hlo2 b hb; omega)).but t1 (by omega), set_at ha 1 _, (t1.block _ (lt_of_heap hr) (by simp; omega)).trans hr, how.keep fun b hb => t1.block b (how.lt b hb).2 (by have := (how.lt b hb).1; simp; omega), fun s hs => ?_, Row.nil _ _ _ _, by simp [most], (fun ad e => by cases e), (fun s hs => by simp at hs), (fun s hs => by simp at hs), (h3.turn.then_ T2 (fun k hk => .inr (by have := hlo2 k hk; omega))).then_ t1 (fun k hk => by simp at hk; subst hk; exact .inr (by omega)), h.hs, hh, hg, hlo⟩
  rcases List.mem_append.1 hs with hs | hs
  · exact h.ptxt s hs
  · obtain rfl : s = y := by simpa using hs
    exact hy
theorem FD.done {W' : World} {q : Tf × PS} (h : FD lo w W g fb r S pa pc xs T ba bc b) (hl : xs.length ≤ 100001) (ht : Turn [w.heap.size] W W') (hq : q = (⟨S.data.toList, xs, T, b.map coreS⟩, r)) : EvF lo w g q (.returned (.agg #[.string S, .slice pa xs.length pc, .int .u8 T, .slice ba b.length bc])) W' := by
  subst hq
  have hh := h.hi
  obtain ⟨k1, k2, k3⟩ := h.keep ht (fun k hk => by simp at hk; omega)
  refine ⟨⟨S, pa, pc, xs.map toPar, T, ba, bc, b⟩, by simp [fnV], ?_, ⟨row_par (k1.row parCT_len), k2, k3, by rw [List.length_map]; unfold most; omega, h.blen, h.hs, fun p hp => ?_⟩, ⟨fun ad e => ?_, fun ad e => by have := h.bnew ad e; omega, fun s hs => (h.bn s hs).mono (by omega)⟩, h.rd.but ht h.lo, h.turn.then_ ht (fun k hk => by simp at hk; subst hk; exact .inr (Nat.le_refl _))⟩
  · unfold coreF
    rw [core_par]
  · obtain ⟨t, ht, rfl⟩ := List.mem_map.1 hp
    show (bs t.s).size ≤ maxLen
    rw [Lex.bs_size]
    have := h.ptxt t ht
    unfold maxLen
    omega
  · dsimp only at e
    subst e
    have := (h.own.lt ad.block rfl).1
    omega
end
structure FnAt (lo : Nat) (w wr : World) (g fb : Nat) (S : ByteArray) (r0 r' : PS) (pa : Option Addr) (pc : Nat) (xs : List Tp) : Prop where
  b : FD lo w wr g fb r' S pa pc xs 0 none 0 []
  told : tellP [] r0 = tellP xs r'
  len : xs.length + lenR r' ≤ 100000
structure FnEnd (lo : Nat) (w wr : World) (g fb : Nat) (S : ByteArray) (r0 r' : PS) (pa : Option Addr) (pc : Nat) (xs : List Tp) : Prop where
  b : FD lo w wr g fb r' S pa pc xs 0 none 0 []
  told : tellP [] r0 = (xs, mustW r' [41])
  len : xs.length ≤ 100001
theorem par_end {r0 r' : PS} {xs : List Tp} (h : tellP [] r0 = tellP xs r') (hb : (r'.bad || isW r' [41]) = true) : tellP [] r0 = (xs, mustW r' [41]) := by
  rw [h, tellP_eq, if_pos hb]
theorem par_last {r0 r' : PS} {xs : List Tp} (h : tellP [] r0 = tellP xs r') (hb : r'.bad = false) (hi : isW r' [41] = false) (hc : isW (typeMust (wordR r' 1 false)) [44] = false) : tellP [] r0 = (xs ++ [⟨wordS r' 1 false, typeN (wordR r' 1 false)⟩], mustW (typeMust (wordR r' 1 false)) [41]) := by
  rw [h, tellP_eq, if_neg (by simp [hb, hi]), if_neg (by simp [hc])]
theorem par_bad {r0 r' : PS} {xs : List Tp} (h : tellP [] r0 = tellP xs r') (hb : r'.bad = false) (hi : isW r' [41] = false) (hc : isW (typeMust (wordR r' 1 false)) [44] = true) (hd : isW (tl (typeMust (wordR r' 1 false))) [41] = true) : tellP [] r0 = tellP (xs ++ [⟨wordS r' 1 false, typeN (wordR r' 1 false)⟩]) (badR (tl (typeMust (wordR r' 1 false)))) := by
  rw [h, tellP_eq, if_neg (by simp [hb, hi]), if_pos hc, if_pos hd]
  conv => rhs; rw [tellP_eq]
  rw [if_pos (by simp [badR])]
theorem par_more {r0 r' : PS} {xs : List Tp} (h : tellP [] r0 = tellP xs r') (hb : r'.bad = false) (hi : isW r' [41] = false) (hc : isW (typeMust (wordR r' 1 false)) [44] = true) (hd : isW (tl (typeMust (wordR r' 1 false))) [41] = false) : tellP [] r0 = tellP (xs ++ [⟨wordS r' 1 false, typeN (wordR r' 1 false)⟩]) (tl (typeMust (wordR r' 1 false))) := by
  rw [h, tellP_eq, if_neg (by simp [hb, hi]), if_pos hc, if_neg (by simp [hd])]
theorem typeMust_len (r : PS) : lenR (typeMust (wordR r 1 false)) ≤ lenR r := Nat.le_trans (typeMust_lenR _) (lenR_wordR _ _ _)
end Go.Proofs.YtlhbhpdpjidpgaaGreatDoor.Prs
