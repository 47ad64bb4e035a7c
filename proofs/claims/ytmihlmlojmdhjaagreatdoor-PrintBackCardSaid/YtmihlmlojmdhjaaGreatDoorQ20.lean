/-
  The program's choices. Conditions: the reader is known; what they call tells what the plain grammar says.
-/
import Derived.Test.YtmihlmlojmdhjaaGreatDoorQ19
namespace Go.Proofs.YtmihlmlojmdhjaaGreatDoor.Prg
open Go.RowKit Tre Prs
open Lex (Wd wdC wdV bs str Turn)
set_option maxRecDepth 100000
set_option linter.unusedSimpArgs false
variable {lo : Nat}
set_option maxHeartbeats 16000000 in
theorem choice_any (w : World) (g : Nat) (r : PS) (h : InG lo w g r) (CB : ∀ w' r1, InG lo w' g r1 → lenB r1 ≤ lenB r → Hid (Calls Tryz.prog 119 #[.pointer (some ⟨g, 0, none⟩)] w' (EvGB lo w' g (tellS .block r1)))) (CW : ∀ w' r1, InG lo w' g r1 → lenB r1 < lenB r → Hid (Calls Tryz.prog 140 #[.pointer (some ⟨g, 0, none⟩)] w' (EvGS lo w' g (tellS .when r1)))) :
    Calls Tryz.prog 140 #[.pointer (some ⟨g, 0, none⟩)] w (EvGS lo w g (tellS .when r)) := by
  have HCB := Lib.hid CB
  have HCW := Lib.hid CW
  clear CB CW
  have HG := Lib.hid h.rd.lt
  have HLO := Lib.hid h.rd.wlo
  have HB := Lib.hid (ball_new w #[.int .i64 0, .string ⟨#[]⟩, .int .i64 0, .int .i64 0, .string ⟨#[]⟩, .string ⟨#[]⟩, .slice none 0 0, .slice none 0 0, .slice none 0 0] 47)
  have HN := Lib.hid (new_at w #[.int .i64 0, .string ⟨#[]⟩, .int .i64 0, .int .i64 0, .string ⟨#[]⟩, .string ⟨#[]⟩, .slice none 0 0, .slice none 0 0, .slice none 0 0] 47)
  have HI := Lib.hid (h.below HB.out)
  have HT0 : Hid (Turn [g] w (w.alloc (.cells #[.int .i64 0, .string ⟨#[]⟩, .int .i64 0, .int .i64 0, .string ⟨#[]⟩, .string ⟨#[]⟩, .slice none 0 0, .slice none 0 0, .slice none 0 0] 47))) := Lib.hid ((Turn.refl [g] w).below HB.out)
  clear h
  go_enter Tryz.func140, Tryz.ntmps140
  go_wp2_with fail
  have B0 : Hid (Bld lo w ((w.alloc (.cells #[.int .i64 0, .string ⟨#[]⟩, .int .i64 0, .int .i64 0, .string ⟨#[]⟩, .string ⟨#[]⟩, .slice none 0 0, .slice none 0 0, .slice none 0 0] 47)).alloc (.cells #[.int .i64 3, .string ⟨#[]⟩, .int .i64 0, .int .i64 0, .string ⟨#[]⟩, .string ⟨#[]⟩, .slice none 0 0, .slice none 0 0, .slice none 0 0] 47)) g (w.alloc (.cells #[.int .i64 0, .string ⟨#[]⟩, .int .i64 0, .int .i64 0, .string ⟨#[]⟩, .string ⟨#[]⟩, .slice none 0 0, .slice none 0 0, .slice none 0 0] 47)).heap.size r 3 ⟨#[]⟩ nilX none 0 [] none 0 []) := Lib.hid (Bld.start HG.out HLO.out HI.out HN.out HT0.out (leaf_in _ 0 0 ⟨#[]⟩ nil_max) (leaf_new _ 0 0 ⟨#[]⟩) nil_max)
  have hsz : (w.alloc (.cells #[.int .i64 0, .string ⟨#[]⟩, .int .i64 0, .int .i64 0, .string ⟨#[]⟩, .string ⟨#[]⟩, .slice none 0 0, .slice none 0 0, .slice none 0 0] 47)).heap.size = w.heap.size + 1 := by simp
  rw [hsz] at B0
  have CX := Lib.hid (exprG _ g r B0.out.rd)
  clear hsz HN HB HI HT0
  refine CX.out.mono ?_
  rintro e w4 ⟨x, r', rfl, hx1, hx2, hx3, hx4, hx5⟩
  rw [exV_eq]
  have HB4 := Lib.hid (B0.out.turned hx5 hx4)
  have B5 := Lib.hid (B0.out.setE hx2 hx3 hx4 hx5)
  have HX1 := Lib.hid hx1
  have HLX := Lib.hid (ag_lenB hx1)
  clear hx1 hx2 hx3 hx4 hx5 B0 CX
  obtain ⟨W, hW⟩ : ∃ W, (((((w4.setCell ⟨(w.heap.size + 1), 2, none⟩ (.int .i64 x.op)).setCell ⟨(w.heap.size + 1), 3, none⟩ (.int .i64 x.n)).setCell ⟨(w.heap.size + 1), 4, none⟩ (.string x.s)).setCell ⟨(w.heap.size + 1), 5, none⟩ (.string x.q)).setCell ⟨(w.heap.size + 1), 6, none⟩ (.slice x.a x.x.length x.c)) = W := ⟨_, rfl⟩
  rw [hW] at B5
  have e2 := free_at HB4.out.at_ 2
  have e3 := free_at HB4.out.at_ 3
  have e4 := free_at HB4.out.at_ 4
  have e5 := free_at HB4.out.at_ 5
  have e6 := free_at HB4.out.at_ 6
  obtain ⟨z0, z1, z2, z3, z4, z5, z6, z7, z8⟩ := Prs.nine_at HB4.out.at_
  try simp only [List.length_nil, nilX, Ex.op, Ex.n, Ex.s, Ex.q, Ex.a, Ex.x, Ex.c] at z2 z3 z4 z5 z6 z7 z8
  have CBW := HCB.out W r' B5.out.rd HLX.out
  go_wp2_with fail
  clear e2 e3 e4 e5 e6 z0 z1 z2 z3 z4 z5 z6 z7 z8 HB4 hW
  refine CBW.out.mono ?_
  rintro e w6 ⟨A7, c7, l7, r7, rfl, ha, hrow, hlen, hnew, hin, hnn, hr, ht⟩
  have HA7 := Lib.hid ha
  have B7 := Lib.hid (B5.out.setB (d := c7) hrow hlen hnew hin hnn hr ht)
  have B7o := Lib.hid (B5.out.turned ht hr)
  clear ha hrow hlen hnew hin hnn hr ht
  have e7 := free_at B7o.out.at_ 7
  obtain ⟨z0, z1, z2, z3, z4, z5, z6, z7, z8⟩ := Prs.nine_at B7o.out.at_
  try simp only [List.length_nil] at z2 z3 z4 z5 z6 z7 z8
  have HL7 := Lib.hid (ags_lenB HA7.out)
  obtain ⟨W2, hW2⟩ : ∃ W2, w6.setCell ⟨w.heap.size + 1, 7, none⟩ (.slice A7 l7.length c7) = W2 := ⟨_, rfl⟩
  rw [hW2] at B7
  rcases Bool.eq_false_or_eq_true (isW r7 wElse) with ie | ie
  · have CE := Lib.hid (has_yes W2 g r7 [101, 108, 115, 101] B7.out.rd.rd ie)
    have HIE := Lib.hid ie
    have HTL := Lib.hid (lenB_tl ie)
    clear ie
    go_wp2_with fail
    clear e7 z0 z1 z2 z3 z4 z5 z6 z7 z8 B7o hW2
    refine CE.out.mono ?_
    rintro e v1 ⟨rfl, h1, h2⟩
    have B8 := Lib.hid (B7.out.turned h2 h1)
    clear h1 h2 CE B7
    rcases Bool.eq_false_or_eq_true (isW (tl r7) wIf) with ii | ii
    · have CI := Lib.hid (has_yes v1 g (tl r7) [105, 102] B8.out.rd.rd ii)
      have HII := Lib.hid ii
      have HTL2 := Lib.hid (lenB_tl ii)
      clear ii
      go_wp2_with fail
      refine CI.out.mono ?_
      rintro e v2 ⟨rfl, h1, h2⟩
      have B9 := Lib.hid (B8.out.turned h2 h1)
      clear h1 h2 CI B8
      have CC := HCW.out v2 _ B9.out.rd (by have := HLX.out; have := HL7.out; have := HTL.out; have := HTL2.out; omega)
      go_wp2_with fail
      refine CC.out.mono ?_
      rintro e v3 ⟨s, r8, rfl, hs1, hs2, hs3, hs4, hs5⟩
      have HS1 := Lib.hid hs1
      have HBR := Lib.hid (ball_new v3 (stC s).toArray 47)
      have HNR := Lib.hid (new_at v3 (stC s).toArray 47)
      have B10o := Lib.hid ((B9.out.turned hs5 hs4).below HBR.out)
      have B10 : Hid (Bld lo w ((v3.alloc (.cells (stC s).toArray 47)).setCell ⟨w.heap.size + 1, 8, none⟩ (.slice (some ⟨v3.heap.size, 0, none⟩) [s].length 1)) g (w.heap.size + 1) r8 3 ⟨#[]⟩ x A7 c7 l7 (some ⟨v3.heap.size, 0, none⟩) 1 [s]) := Lib.hid (B9.out.setB2 (row_one HNR.out) (by simp) (fun ad e => by injection e with e; rw [← e]; exact hs5.size) (fun y hy => by simp at hy; subst hy; exact Tre.StIn.below hs2 HBR.out) (fun y hy => by simp at hy; subst hy; exact hs3) (hs4.below HBR.out) (hs5.below HBR.out))
      have HDQ : Hid (Ag (tellS .when r) [.mk 3 (⟨#[]⟩ : ByteArray).data.toList (core x) (l7.map coreS) ([s].map coreS)] r8) := Lib.hid (ag_whenw HX1.out HA7.out HIE.out HII.out HS1.out)
      clear hs1 hs2 hs3 hs4 hs5 CC B9 HBR HNR
      obtain ⟨so, ss, ⟨eo, en, es, eq, ea, ec, ex⟩, ya, yc, yb, ya2, yc2, yb2⟩ := s
      unfold stV
      simp only [stC] at B10o B10
      have e8 := free_at B10o.out.at_ 8
      obtain ⟨z0, z1, z2, z3, z4, z5, z6, z7, z8⟩ := Prs.nine_at B10o.out.at_
      obtain ⟨x0, x1, x2, x3, x4, x5, x6, x7, x8⟩ := Prs.nine_at B10.out.at_
      simp only [List.length_cons, List.length_nil, Nat.zero_add] at x8 z8
      obtain ⟨y0, y1, y2, y3, y4, y5, y6, y7, y8⟩ := Prs.nine_at B10o.out.res
      have f0 := free_at B10o.out.res 0
      have f1 := free_at B10o.out.res 1
      have f2 := free_at B10o.out.res 2
      have f3 := free_at B10o.out.res 3
      have f4 := free_at B10o.out.res 4
      have f5 := free_at B10o.out.res 5
      have f6 := free_at B10o.out.res 6
      have f7 := free_at B10o.out.res 7
      have f8 := free_at B10o.out.res 8
      go_wp2_with fail
      have HT := Lib.hid (turn9 ((v3.alloc (.cells #[.int .i64 so, .string ss, .int .i64 eo, .int .i64 en, .string es, .string eq, .slice ea ex.length ec, .slice ya yb.length yc, .slice ya2 yb2.length yc2] 47)).setCell ⟨w.heap.size + 1, 8, none⟩ (.slice (some ⟨v3.heap.size, 0, none⟩) 1 1)) w.heap.size (.int .i64 3) (.string ⟨#[]⟩) (.int .i64 x.op) (.int .i64 x.n) (.string x.s) (.string x.q) (.slice x.a x.x.length x.c) (.slice A7 l7.length c7) (.slice (some ⟨v3.heap.size, 0, none⟩) 1 1))
      refine bodyPost_ret (results_stmt rfl _ _ w.heap.size _ _ _ _ _ _ _ _ _ rfl (set9 B10.out.res)) rfl ?_
      exact B10.out.done HT.out HDQ.out
    · have CI := Lib.hid (has_no v1 g (tl r7) [105, 102] B8.out.rd.rd ii)
      have HII := Lib.hid ii
      clear ii
      go_wp2_with fail
      refine CI.out.mono ?_
      rintro e v2 ⟨rfl, h1, h2⟩
      have B9 := Lib.hid (B8.out.turned h2 h1)
      clear h1 h2 CI B8
      have CBV := HCB.out v2 _ B9.out.rd (by have := HLX.out; have := HL7.out; have := HTL.out; omega)
      go_wp2_with fail
      refine CBV.out.mono ?_
      rintro e v3 ⟨A8, c8, l8, r8, rfl, ha, hrow, hlen, hnew, hin, hnn, hr, ht⟩
      have HA8 := Lib.hid ha
      have B10 := Lib.hid (B9.out.setB2 (d := c8) hrow hlen hnew hin hnn hr ht)
      have B10o := Lib.hid (B9.out.turned ht hr)
      clear ha hrow hlen hnew hin hnn hr ht
      have HDQ : Hid (Ag (tellS .when r) [.mk 3 (⟨#[]⟩ : ByteArray).data.toList (core x) (l7.map coreS) (l8.map coreS)] r8) := Lib.hid (ag_whenb HX1.out HA7.out HIE.out HII.out HA8.out)
      have e8 := free_at B10o.out.at_ 8
      obtain ⟨z0, z1, z2, z3, z4, z5, z6, z7, z8⟩ := Prs.nine_at B10o.out.at_
      try simp only [List.length_nil] at z2 z3 z4 z5 z6 z7 z8
      obtain ⟨x0, x1, x2, x3, x4, x5, x6, x7, x8⟩ := Prs.nine_at B10.out.at_
      obtain ⟨y0, y1, y2, y3, y4, y5, y6, y7, y8⟩ := Prs.nine_at B10o.out.res
      have f0 := free_at B10o.out.res 0
      have f1 := free_at B10o.out.res 1
      have f2 := free_at B10o.out.res 2
      have f3 := free_at B10o.out.res 3
      have f4 := free_at B10o.out.res 4
      have f5 := free_at B10o.out.res 5
      have f6 := free_at B10o.out.res 6
      have f7 := free_at B10o.out.res 7
      have f8 := free_at B10o.out.res 8
      go_wp2_with fail
      have HT := Lib.hid (turn9 (v3.setCell ⟨w.heap.size + 1, 8, none⟩ (.slice A8 l8.length c8)) w.heap.size (.int .i64 3) (.string ⟨#[]⟩) (.int .i64 x.op) (.int .i64 x.n) (.string x.s) (.string x.q) (.slice x.a x.x.length x.c) (.slice A7 l7.length c7) (.slice A8 l8.length c8))
      refine bodyPost_ret (results_stmt rfl _ _ w.heap.size _ _ _ _ _ _ _ _ _ rfl (set9 B10.out.res)) rfl ?_
      exact B10.out.done HT.out HDQ.out
  · have CE := Lib.hid (has_no W2 g r7 [101, 108, 115, 101] B7.out.rd.rd ie)
    have HDQ : Hid (Ag (tellS .when r) [.mk 3 (⟨#[]⟩ : ByteArray).data.toList (core x) (l7.map coreS) (([] : List St).map coreS)] r7) := Lib.hid (ag_when HX1.out HA7.out ie)
    clear ie
    go_wp2_with fail
    clear e7 z0 z1 z2 z3 z4 z5 z6 z7 z8 B7o hW2
    refine CE.out.mono ?_
    rintro e v1 ⟨rfl, h1, h2⟩
    have B8 := Lib.hid (B7.out.turned h2 h1)
    clear h1 h2 CE B7
    obtain ⟨x0, x1, x2, x3, x4, x5, x6, x7, x8⟩ := Prs.nine_at B8.out.at_
    try simp only [List.length_nil] at x2 x3 x4 x5 x6 x7 x8
    obtain ⟨y0, y1, y2, y3, y4, y5, y6, y7, y8⟩ := Prs.nine_at B8.out.res
    have f0 := free_at B8.out.res 0
    have f1 := free_at B8.out.res 1
    have f2 := free_at B8.out.res 2
    have f3 := free_at B8.out.res 3
    have f4 := free_at B8.out.res 4
    have f5 := free_at B8.out.res 5
    have f6 := free_at B8.out.res 6
    have f7 := free_at B8.out.res 7
    have f8 := free_at B8.out.res 8
    go_wp2_with fail
    have HT := Lib.hid (turn9 v1 w.heap.size (.int .i64 3) (.string ⟨#[]⟩) (.int .i64 x.op) (.int .i64 x.n) (.string x.s) (.string x.q) (.slice x.a x.x.length x.c) (.slice A7 l7.length c7) (.slice none 0 0))
    refine bodyPost_ret (results_stmt rfl _ _ w.heap.size _ _ _ _ _ _ _ _ _ rfl (set9 B8.out.res)) rfl ?_
    exact B8.out.done HT.out HDQ.out
end Go.Proofs.YtmihlmlojmdhjaaGreatDoor.Prg
