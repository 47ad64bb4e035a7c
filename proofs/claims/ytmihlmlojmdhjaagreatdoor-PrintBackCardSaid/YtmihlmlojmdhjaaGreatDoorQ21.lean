/-
  The program's statements that begin with a name; its stmt. Conditions: the reader is known; what they call tells what the plain grammar says.
-/
import Derived.Test.YtmihlmlojmdhjaaGreatDoorQ20
namespace Go.Proofs.YtmihlmlojmdhjaaGreatDoor.Prg
open Go.RowKit Tre Prs
open Lex (Wd wdC wdV bs str Turn)
set_option maxRecDepth 100000
set_option linter.unusedSimpArgs false
variable {lo : Nat}
/-- A statement of one expression, laid at once. -/
theorem one_endG {w w2 w5 : World} {g : Nat} {x : Ex} {q : List Ts × PS} {op : Int} {S : ByteArray} {r : PS} (hlo : lo ≤ w.heap.size) (hx2 : ExIn w2 x) (hx3 : New (w.heap.size + 1) x) (hs : S.size ≤ maxLen) (t : Turn [g] w w2) (hr : RdG lo w2 g r) (ht : Turn [w.heap.size] w2 w5) (hq : Ag q [.mk op S.data.toList (core x) [] []] r) :
    EvGS lo w g q (.returned (.agg #[.int .i64 op, .string S, .int .i64 x.op, .int .i64 x.n, .string x.s, .string x.q, .slice x.a x.x.length x.c, .slice none 0 0, .slice none 0 0])) w5 := by
  have hn : NewS (w.heap.size + 1) (.mk op S x none 0 [] none 0 []) := NewS.build hx3 (fun ad e => by cases e) (fun ad e => by cases e) (fun s hs => by simp at hs) (fun s hs => by simp at hs)
  refine ⟨.mk op S x none 0 [] none 0 [], r, by rw [stV_mk]; rfl, by rw [coreS_mk]; exact hq, StIn.off (StIn.build hx2 (Row.nil _ _ _ _) (Row.nil _ _ _ _) (by simp [most]) (by simp [most]) hs (fun s hs => by simp at hs) (fun s hs => by simp at hs)) (NewS.off hn (fun k hk => by simp at hk; omega)) ht, hn.mono (by omega), hr.but ht hlo, t.then_ ht (fun k hk => by simp at hk; subst hk; exact .inr (Nat.le_refl _))⟩
theorem stpassG {w w2 w5 : World} {g : Nat} {s : St} {q : List Ts × PS} {r : PS} (hlo : lo ≤ w.heap.size) (hs : StIn w2 s) (hn : NewS (w.heap.size + 1) s) (t : Turn [g] w w2) (hr : RdG lo w2 g r) (ht : Turn [w.heap.size] w2 w5) (hq : Ag q [coreS s] r) : EvGS lo w g q (.returned (stV s)) w5 :=
  ⟨s, r, rfl, hq, StIn.off hs (NewS.off hn (fun k hk => by simp at hk; omega)) ht, hn.mono (by omega), hr.but ht hlo, t.then_ ht (fun k hk => by simp at hk; subst hk; exact .inr (Nat.le_refl _))⟩
set_option maxHeartbeats 8000000 in
theorem named_def (w : World) (g : Nat) (r : PS) (h : InG lo w g r) (hv : NamW r) (i1 : isW (takeR r [1]) [58, 61] = true) :
    Calls Tryz.prog 144 #[.pointer (some ⟨g, 0, none⟩)] w (EvGS lo w g (tellS .stmt r)) := by
  have HQ := Lib.hid (fun (t : Tx) (r' : PS) (h' : Ag (tell (.row 0) (tl (takeR r [1]))) t r') => ag_def hv i1 h')
  have A1 := Lib.hid (fun w' (h' : RdG lo w' g (takeR r [1])) => has_yes w' g _ [58, 61] h' i1)
  have HSZ := Lib.hid (takeS_size h.rd [1])
  have HSD : Hid ((bs (takeW r [1]).s).data.toList = (takeW r [1]).s) := Lib.hid (Lex.bs_data _)
  clear hv i1
  have HG := Lib.hid h.rd.lt
  have HLO := Lib.hid h.rd.wlo
  have HB := Lib.hid (ball_new w #[.int .i64 0, .string ⟨#[]⟩, .int .i64 0, .int .i64 0, .string ⟨#[]⟩, .string ⟨#[]⟩, .slice none 0 0, .slice none 0 0, .slice none 0 0] 47)
  have HN := Lib.hid (new_at w #[.int .i64 0, .string ⟨#[]⟩, .int .i64 0, .int .i64 0, .string ⟨#[]⟩, .string ⟨#[]⟩, .slice none 0 0, .slice none 0 0, .slice none 0 0] 47)
  have HI := Lib.hid (h.below HB.out)
  have HT0 : Hid (Turn [g] w (w.alloc (.cells #[.int .i64 0, .string ⟨#[]⟩, .int .i64 0, .int .i64 0, .string ⟨#[]⟩, .string ⟨#[]⟩, .slice none 0 0, .slice none 0 0, .slice none 0 0] 47))) := Lib.hid ((Turn.refl [g] w).below HB.out)
  clear h
  have CN := Lib.hid (name_any _ g r HI.out.rd)
  obtain ⟨S, hS⟩ : ∃ S, bs (takeW r [1]).s = S := ⟨_, rfl⟩
  rw [hS] at HSZ HSD CN
  clear hS
  go_enter Tryz.func144, Tryz.ntmps144
  go_wp2_with fail
  refine CN.out.mono ?_
  rintro e w1 ⟨rfl, h1, h2⟩
  have H1 := Lib.hid (HI.out.step h2 h1)
  have T1 := Lib.hid h2
  clear h1 h2 CN
  go_wp2_with fail
  refine (A1.out _ H1.out.rd).mono ?_
  rintro e w2 ⟨rfl, h1, h2⟩
  have H2 := Lib.hid (H1.out.step h2 h1)
  have T2 := Lib.hid (T1.out.trans h2)
  clear h1 h2 A1 H1 T1
  go_wp2_with fail
  have CX := Lib.hid (exprG w2 g _ H2.out)
  refine CX.out.mono ?_
  rintro e w5 ⟨x, r', rfl, hx1, hx2, hx3, hx4, hx5⟩
  rw [exV_eq]
  have HX1 := Lib.hid (HQ.out _ _ hx1)
  have HX2 := Lib.hid hx2
  have HX3 : Hid (New (w.heap.size + 1) x) := Lib.hid (hx3.mono (by have := T2.out.size; simp at this; omega))
  have HX4 := Lib.hid hx4
  have T5 := Lib.hid (T2.out.trans hx5)
  have HR5 := Lib.hid (res_keep9 HG.out T5.out)
  have TT := Lib.hid (HT0.out.trans T5.out)
  clear hx1 hx2 hx3 hx4 hx5 CX
  obtain ⟨y0, y1, y2, y3, y4, y5, y6, y7, y8⟩ := Prs.nine_at HR5.out
  have f0 := free_at HR5.out 0
  have f1 := free_at HR5.out 1
  have f2 := free_at HR5.out 2
  have f3 := free_at HR5.out 3
  have f4 := free_at HR5.out 4
  have f5 := free_at HR5.out 5
  have f6 := free_at HR5.out 6
  have f7 := free_at HR5.out 7
  have f8 := free_at HR5.out 8
  go_wp2_with fail
  have HT := Lib.hid (turn9 w5 w.heap.size (.int .i64 1) (.string S) (.int .i64 x.op) (.int .i64 x.n) (.string x.s) (.string x.q) (.slice x.a x.x.length x.c) (.slice none 0 0) (.slice none 0 0))
  refine bodyPost_ret (results_stmt rfl _ _ w.heap.size _ _ _ _ _ _ _ _ _ rfl (set9 HR5.out)) rfl ?_
  exact one_endG HLO.out HX2.out HX3.out HSZ.out.1 TT.out HX4.out HT.out (by rw [HSD.out]; exact HX1.out)
set_option maxHeartbeats 8000000 in
theorem named_set (w : World) (g : Nat) (r : PS) (h : InG lo w g r) (hv : NamW r) (i1 : isW (takeR r [1]) [58, 61] = false) (i2 : isW (takeR r [1]) [61] = true) :
    Calls Tryz.prog 144 #[.pointer (some ⟨g, 0, none⟩)] w (EvGS lo w g (tellS .stmt r)) := by
  have HQ := Lib.hid (fun (t : Tx) (r' : PS) (h' : Ag (tell (.row 0) (tl (takeR r [1]))) t r') => ag_set hv i1 i2 h')
  have A1 := Lib.hid (fun w' (h' : RdG lo w' g (takeR r [1])) => has_no w' g _ [58, 61] h' i1)
  have A2 := Lib.hid (fun w' (h' : RdG lo w' g (takeR r [1])) => has_yes w' g _ [61] h' i2)
  have HSZ := Lib.hid (takeS_size h.rd [1])
  have HSD : Hid ((bs (takeW r [1]).s).data.toList = (takeW r [1]).s) := Lib.hid (Lex.bs_data _)
  clear hv i1 i2
  have HG := Lib.hid h.rd.lt
  have HLO := Lib.hid h.rd.wlo
  have HB := Lib.hid (ball_new w #[.int .i64 0, .string ⟨#[]⟩, .int .i64 0, .int .i64 0, .string ⟨#[]⟩, .string ⟨#[]⟩, .slice none 0 0, .slice none 0 0, .slice none 0 0] 47)
  have HN := Lib.hid (new_at w #[.int .i64 0, .string ⟨#[]⟩, .int .i64 0, .int .i64 0, .string ⟨#[]⟩, .string ⟨#[]⟩, .slice none 0 0, .slice none 0 0, .slice none 0 0] 47)
  have HI := Lib.hid (h.below HB.out)
  have HT0 : Hid (Turn [g] w (w.alloc (.cells #[.int .i64 0, .string ⟨#[]⟩, .int .i64 0, .int .i64 0, .string ⟨#[]⟩, .string ⟨#[]⟩, .slice none 0 0, .slice none 0 0, .slice none 0 0] 47))) := Lib.hid ((Turn.refl [g] w).below HB.out)
  clear h
  have CN := Lib.hid (name_any _ g r HI.out.rd)
  obtain ⟨S, hS⟩ : ∃ S, bs (takeW r [1]).s = S := ⟨_, rfl⟩
  rw [hS] at HSZ HSD CN
  clear hS
  go_enter Tryz.func144, Tryz.ntmps144
  go_wp2_with fail
  refine CN.out.mono ?_
  rintro e w1 ⟨rfl, h1, h2⟩
  have H1 := Lib.hid (HI.out.step h2 h1)
  have T1 := Lib.hid h2
  clear h1 h2 CN
  go_wp2_with fail
  refine (A1.out _ H1.out.rd).mono ?_
  rintro e w2 ⟨rfl, h1, h2⟩
  have H2 := Lib.hid (H1.out.step h2 h1)
  have T2 := Lib.hid (T1.out.trans h2)
  clear h1 h2 A1 H1 T1
  go_wp2_with fail
  refine (A2.out _ H2.out.rd).mono ?_
  rintro e w3 ⟨rfl, h1, h2⟩
  replace H2 := Lib.hid (H2.out.step h2 h1)
  replace T2 := Lib.hid (T2.out.trans h2)
  clear h1 h2 A2
  go_wp2_with fail
  have CX := Lib.hid (exprG w3 g _ H2.out)
  refine CX.out.mono ?_
  rintro e w5 ⟨x, r', rfl, hx1, hx2, hx3, hx4, hx5⟩
  rw [exV_eq]
  have HX1 := Lib.hid (HQ.out _ _ hx1)
  have HX2 := Lib.hid hx2
  have HX3 : Hid (New (w.heap.size + 1) x) := Lib.hid (hx3.mono (by have := T2.out.size; simp at this; omega))
  have HX4 := Lib.hid hx4
  have T5 := Lib.hid (T2.out.trans hx5)
  have HR5 := Lib.hid (res_keep9 HG.out T5.out)
  have TT := Lib.hid (HT0.out.trans T5.out)
  clear hx1 hx2 hx3 hx4 hx5 CX
  obtain ⟨y0, y1, y2, y3, y4, y5, y6, y7, y8⟩ := Prs.nine_at HR5.out
  have f0 := free_at HR5.out 0
  have f1 := free_at HR5.out 1
  have f2 := free_at HR5.out 2
  have f3 := free_at HR5.out 3
  have f4 := free_at HR5.out 4
  have f5 := free_at HR5.out 5
  have f6 := free_at HR5.out 6
  have f7 := free_at HR5.out 7
  have f8 := free_at HR5.out 8
  go_wp2_with fail
  have HT := Lib.hid (turn9 w5 w.heap.size (.int .i64 2) (.string S) (.int .i64 x.op) (.int .i64 x.n) (.string x.s) (.string x.q) (.slice x.a x.x.length x.c) (.slice none 0 0) (.slice none 0 0))
  refine bodyPost_ret (results_stmt rfl _ _ w.heap.size _ _ _ _ _ _ _ _ _ rfl (set9 HR5.out)) rfl ?_
  exact one_endG HLO.out HX2.out HX3.out HSZ.out.1 TT.out HX4.out HT.out (by rw [HSD.out]; exact HX1.out)
set_option maxHeartbeats 8000000 in
theorem named_ask (w : World) (g : Nat) (r : PS) (h : InG lo w g r) (hv : NamW r) (i1 : isW (takeR r [1]) [58, 61] = false) (i2 : isW (takeR r [1]) [61] = false) :
    Calls Tryz.prog 144 #[.pointer (some ⟨g, 0, none⟩)] w (EvGS lo w g (tellS .stmt r)) := by
  have HQ := Lib.hid (fun (t : Tx) (r' : PS) (h' : Ag (tell (.call (takeW r [1]).s) (takeR r [1])) t r') => ag_ask hv i1 i2 h')
  have A1 := Lib.hid (fun w' (h' : RdG lo w' g (takeR r [1])) => has_no w' g _ [58, 61] h' i1)
  have A2 := Lib.hid (fun w' (h' : RdG lo w' g (takeR r [1])) => has_no w' g _ [61] h' i2)
  have HSZ := Lib.hid (takeS_size h.rd [1])
  have HSD : Hid ((bs (takeW r [1]).s).data.toList = (takeW r [1]).s) := Lib.hid (Lex.bs_data _)
  clear hv i1 i2
  have HG := Lib.hid h.rd.lt
  have HLO := Lib.hid h.rd.wlo
  have HB := Lib.hid (ball_new w #[.int .i64 0, .string ⟨#[]⟩, .int .i64 0, .int .i64 0, .string ⟨#[]⟩, .string ⟨#[]⟩, .slice none 0 0, .slice none 0 0, .slice none 0 0] 47)
  have HN := Lib.hid (new_at w #[.int .i64 0, .string ⟨#[]⟩, .int .i64 0, .int .i64 0, .string ⟨#[]⟩, .string ⟨#[]⟩, .slice none 0 0, .slice none 0 0, .slice none 0 0] 47)
  have HI := Lib.hid (h.below HB.out)
  have HT0 : Hid (Turn [g] w (w.alloc (.cells #[.int .i64 0, .string ⟨#[]⟩, .int .i64 0, .int .i64 0, .string ⟨#[]⟩, .string ⟨#[]⟩, .slice none 0 0, .slice none 0 0, .slice none 0 0] 47))) := Lib.hid ((Turn.refl [g] w).below HB.out)
  clear h
  have CN := Lib.hid (name_any _ g r HI.out.rd)
  have CC := Lib.hid (fun w' (h' : InG lo w' g (takeR r [1])) => callG w' g (takeW r [1]).s _ HSZ.out.2 h')
  obtain ⟨S, hS⟩ : ∃ S, bs (takeW r [1]).s = S := ⟨_, rfl⟩
  rw [hS] at HSZ HSD CN
  simp only [hS] at CC
  clear hS
  go_enter Tryz.func144, Tryz.ntmps144
  go_wp2_with fail
  refine CN.out.mono ?_
  rintro e w1 ⟨rfl, h1, h2⟩
  have H1 := Lib.hid (HI.out.step h2 h1)
  have T1 := Lib.hid h2
  clear h1 h2 CN
  go_wp2_with fail
  refine (A1.out _ H1.out.rd).mono ?_
  rintro e w2 ⟨rfl, h1, h2⟩
  have H2 := Lib.hid (H1.out.step h2 h1)
  have T2 := Lib.hid (T1.out.trans h2)
  clear h1 h2 A1 H1 T1
  go_wp2_with fail
  refine (A2.out _ H2.out.rd).mono ?_
  rintro e w3 ⟨rfl, h1, h2⟩
  replace H2 := Lib.hid (H2.out.step h2 h1)
  replace T2 := Lib.hid (T2.out.trans h2)
  clear h1 h2 A2
  go_wp2_with fail
  have CX := Lib.hid (CC.out w3 H2.out)
  refine CX.out.mono ?_
  rintro e w5 ⟨x, r', rfl, hx1, hx2, hx3, hx4, hx5⟩
  rw [exV_eq]
  have HX1 := Lib.hid (HQ.out _ _ hx1)
  have HX2 := Lib.hid hx2
  have HX3 : Hid (New (w.heap.size + 1) x) := Lib.hid (hx3.mono (by have := T2.out.size; simp at this; omega))
  have HX4 := Lib.hid hx4
  have T5 := Lib.hid (T2.out.trans hx5)
  have HR5 := Lib.hid (res_keep9 HG.out T5.out)
  have TT := Lib.hid (HT0.out.trans T5.out)
  clear hx1 hx2 hx3 hx4 hx5 CX
  obtain ⟨y0, y1, y2, y3, y4, y5, y6, y7, y8⟩ := Prs.nine_at HR5.out
  have f0 := free_at HR5.out 0
  have f1 := free_at HR5.out 1
  have f2 := free_at HR5.out 2
  have f3 := free_at HR5.out 3
  have f4 := free_at HR5.out 4
  have f5 := free_at HR5.out 5
  have f6 := free_at HR5.out 6
  have f7 := free_at HR5.out 7
  have f8 := free_at HR5.out 8
  go_wp2_with fail
  have HT := Lib.hid (turn9 w5 w.heap.size (.int .i64 7) (.string ⟨#[]⟩) (.int .i64 x.op) (.int .i64 x.n) (.string x.s) (.string x.q) (.slice x.a x.x.length x.c) (.slice none 0 0) (.slice none 0 0))
  refine bodyPost_ret (results_stmt rfl _ _ w.heap.size _ _ _ _ _ _ _ _ _ rfl (set9 HR5.out)) rfl ?_
  exact one_endG HLO.out HX2.out HX3.out nil_max TT.out HX4.out HT.out (by exact HX1.out)
theorem named_any (w : World) (g : Nat) (r : PS) (h : InG lo w g r) (hv : NamW r) : Calls Tryz.prog 144 #[.pointer (some ⟨g, 0, none⟩)] w (EvGS lo w g (tellS .stmt r)) := by
  rcases Bool.eq_false_or_eq_true (isW (takeR r [1]) [58, 61]) with i1 | i1
  · exact named_def w g r h hv i1
  · rcases Bool.eq_false_or_eq_true (isW (takeR r [1]) [61]) with i2 | i2
    · exact named_set w g r h hv i1 i2
    · exact named_ask w g r h hv i1 i2
set_option maxHeartbeats 8000000 in
theorem stmt_if (w : World) (g : Nat) (r : PS) (h : InG lo w g r)  (hi : isW r [105, 102] = true) (CP : ∀ w', InG lo w' g (tl r) → Hid (Calls Tryz.prog 140 #[.pointer (some ⟨g, 0, none⟩)] w' (EvGS lo w' g (tellS .stmt r)))) :
    Calls Tryz.prog 129 #[.pointer (some ⟨g, 0, none⟩)] w (EvGS lo w g (tellS .stmt r)) := by
  have Y := Lib.hid (fun w' (h' : RdG lo w' g r) => has_yes w' g r [105, 102] h' hi)
  clear hi
  have HG := Lib.hid h.rd.lt
  have HLO := Lib.hid h.rd.wlo
  have HB := Lib.hid (ball_new w #[.int .i64 0, .string ⟨#[]⟩, .int .i64 0, .int .i64 0, .string ⟨#[]⟩, .string ⟨#[]⟩, .slice none 0 0, .slice none 0 0, .slice none 0 0] 47)
  have HN := Lib.hid (new_at w #[.int .i64 0, .string ⟨#[]⟩, .int .i64 0, .int .i64 0, .string ⟨#[]⟩, .string ⟨#[]⟩, .slice none 0 0, .slice none 0 0, .slice none 0 0] 47)
  have HI := Lib.hid (h.below HB.out)
  have HT0 : Hid (Turn [g] w (w.alloc (.cells #[.int .i64 0, .string ⟨#[]⟩, .int .i64 0, .int .i64 0, .string ⟨#[]⟩, .string ⟨#[]⟩, .slice none 0 0, .slice none 0 0, .slice none 0 0] 47))) := Lib.hid ((Turn.refl [g] w).below HB.out)
  clear h
  go_enter Tryz.func129, Tryz.ntmps129
  go_wp2_with fail
  have H0 := HI
  have T0 : Hid (Turn [g] (w.alloc (.cells #[.int .i64 0, .string ⟨#[]⟩, .int .i64 0, .int .i64 0, .string ⟨#[]⟩, .string ⟨#[]⟩, .slice none 0 0, .slice none 0 0, .slice none 0 0] 47)) (w.alloc (.cells #[.int .i64 0, .string ⟨#[]⟩, .int .i64 0, .int .i64 0, .string ⟨#[]⟩, .string ⟨#[]⟩, .slice none 0 0, .slice none 0 0, .slice none 0 0] 47))) := Lib.hid (Turn.refl _ _)
  refine (Y.out _ H0.out.rd).mono ?_
  rintro e w1 ⟨rfl, h1, h2⟩
  replace H0 := Lib.hid (H0.out.step h2 h1)
  replace T0 := Lib.hid (T0.out.trans h2)
  clear h1 h2 Y
  have CX := CP _ H0.out
  go_wp2_with fail
  refine CX.out.mono ?_
  rintro e w5 ⟨s, r', rfl, hs1, hs2, hs3, hs4, hs5⟩
  have HE : Hid (∀ w9, Turn [w.heap.size] w5 w9 → EvGS lo w g (tellS .stmt r) (.returned (stV s)) w9) := Lib.hid (fun w9 ht => stpassG HLO.out hs2 (hs3.mono (by have := T0.out.size; simp at this; omega)) (HT0.out.trans (T0.out.trans hs5)) hs4 ht hs1)
  have HR5 := Lib.hid (res_keep9 HG.out (T0.out.trans hs5))
  clear hs1 hs2 hs3 hs4 hs5 CX CP
  obtain ⟨so, ss, ⟨eo, en, es, eq, ea, ec, ex⟩, ya, yc, yb, ya2, yc2, yb2⟩ := s
  unfold stV at *
  obtain ⟨y0, y1, y2, y3, y4, y5, y6, y7, y8⟩ := Prs.nine_at HR5.out
  have f0 := free_at HR5.out 0
  have f1 := free_at HR5.out 1
  have f2 := free_at HR5.out 2
  have f3 := free_at HR5.out 3
  have f4 := free_at HR5.out 4
  have f5 := free_at HR5.out 5
  have f6 := free_at HR5.out 6
  have f7 := free_at HR5.out 7
  have f8 := free_at HR5.out 8
  go_wp2_with fail
  have HT := Lib.hid (turn9 w5 w.heap.size (.int .i64 so) (.string ss) (.int .i64 eo) (.int .i64 en) (.string es) (.string eq) (.slice ea ex.length ec) (.slice ya yb.length yc) (.slice ya2 yb2.length yc2))
  refine bodyPost_ret (results_stmt rfl _ _ w.heap.size _ _ _ _ _ _ _ _ _ rfl (set9 HR5.out)) rfl ?_
  exact HE.out _ HT.out
set_option maxHeartbeats 8000000 in
theorem stmt_for (w : World) (g : Nat) (r : PS) (h : InG lo w g r) (n0 : isW r [105, 102] = false) (hi : isW r [102, 111, 114] = true) (CP : ∀ w', InG lo w' g (tl r) → Hid (Calls Tryz.prog 141 #[.pointer (some ⟨g, 0, none⟩)] w' (EvGS lo w' g (tellS .stmt r)))) :
    Calls Tryz.prog 129 #[.pointer (some ⟨g, 0, none⟩)] w (EvGS lo w g (tellS .stmt r)) := by
  have N0 := Lib.hid (fun w' (h' : RdG lo w' g r) => has_no w' g r [105, 102] h' n0)
  have Y := Lib.hid (fun w' (h' : RdG lo w' g r) => has_yes w' g r [102, 111, 114] h' hi)
  clear n0 hi
  have HG := Lib.hid h.rd.lt
  have HLO := Lib.hid h.rd.wlo
  have HB := Lib.hid (ball_new w #[.int .i64 0, .string ⟨#[]⟩, .int .i64 0, .int .i64 0, .string ⟨#[]⟩, .string ⟨#[]⟩, .slice none 0 0, .slice none 0 0, .slice none 0 0] 47)
  have HN := Lib.hid (new_at w #[.int .i64 0, .string ⟨#[]⟩, .int .i64 0, .int .i64 0, .string ⟨#[]⟩, .string ⟨#[]⟩, .slice none 0 0, .slice none 0 0, .slice none 0 0] 47)
  have HI := Lib.hid (h.below HB.out)
  have HT0 : Hid (Turn [g] w (w.alloc (.cells #[.int .i64 0, .string ⟨#[]⟩, .int .i64 0, .int .i64 0, .string ⟨#[]⟩, .string ⟨#[]⟩, .slice none 0 0, .slice none 0 0, .slice none 0 0] 47))) := Lib.hid ((Turn.refl [g] w).below HB.out)
  clear h
  go_enter Tryz.func129, Tryz.ntmps129
  go_wp2_with fail
  have H0 := HI
  have T0 : Hid (Turn [g] (w.alloc (.cells #[.int .i64 0, .string ⟨#[]⟩, .int .i64 0, .int .i64 0, .string ⟨#[]⟩, .string ⟨#[]⟩, .slice none 0 0, .slice none 0 0, .slice none 0 0] 47)) (w.alloc (.cells #[.int .i64 0, .string ⟨#[]⟩, .int .i64 0, .int .i64 0, .string ⟨#[]⟩, .string ⟨#[]⟩, .slice none 0 0, .slice none 0 0, .slice none 0 0] 47))) := Lib.hid (Turn.refl _ _)
  refine (N0.out _ H0.out.rd).mono ?_
  rintro e v0 ⟨rfl, h1, h2⟩
  replace H0 := Lib.hid (H0.out.step h2 h1)
  replace T0 := Lib.hid (T0.out.trans h2)
  clear h1 h2 N0
  go_wp2_with fail
  refine (Y.out _ H0.out.rd).mono ?_
  rintro e w1 ⟨rfl, h1, h2⟩
  replace H0 := Lib.hid (H0.out.step h2 h1)
  replace T0 := Lib.hid (T0.out.trans h2)
  clear h1 h2 Y
  have CX := CP _ H0.out
  go_wp2_with fail
  refine CX.out.mono ?_
  rintro e w5 ⟨s, r', rfl, hs1, hs2, hs3, hs4, hs5⟩
  have HE : Hid (∀ w9, Turn [w.heap.size] w5 w9 → EvGS lo w g (tellS .stmt r) (.returned (stV s)) w9) := Lib.hid (fun w9 ht => stpassG HLO.out hs2 (hs3.mono (by have := T0.out.size; simp at this; omega)) (HT0.out.trans (T0.out.trans hs5)) hs4 ht hs1)
  have HR5 := Lib.hid (res_keep9 HG.out (T0.out.trans hs5))
  clear hs1 hs2 hs3 hs4 hs5 CX CP
  obtain ⟨so, ss, ⟨eo, en, es, eq, ea, ec, ex⟩, ya, yc, yb, ya2, yc2, yb2⟩ := s
  unfold stV at *
  obtain ⟨y0, y1, y2, y3, y4, y5, y6, y7, y8⟩ := Prs.nine_at HR5.out
  have f0 := free_at HR5.out 0
  have f1 := free_at HR5.out 1
  have f2 := free_at HR5.out 2
  have f3 := free_at HR5.out 3
  have f4 := free_at HR5.out 4
  have f5 := free_at HR5.out 5
  have f6 := free_at HR5.out 6
  have f7 := free_at HR5.out 7
  have f8 := free_at HR5.out 8
  go_wp2_with fail
  have HT := Lib.hid (turn9 w5 w.heap.size (.int .i64 so) (.string ss) (.int .i64 eo) (.int .i64 en) (.string es) (.string eq) (.slice ea ex.length ec) (.slice ya yb.length yc) (.slice ya2 yb2.length yc2))
  refine bodyPost_ret (results_stmt rfl _ _ w.heap.size _ _ _ _ _ _ _ _ _ rfl (set9 HR5.out)) rfl ?_
  exact HE.out _ HT.out
set_option maxHeartbeats 8000000 in
theorem stmt_return (w : World) (g : Nat) (r : PS) (h : InG lo w g r) (n0 : isW r [105, 102] = false) (n1 : isW r [102, 111, 114] = false) (hi : isW r [114, 101, 116, 117, 114, 110] = true) (CP : ∀ w', InG lo w' g (tl r) → Hid (Calls Tryz.prog 142 #[.pointer (some ⟨g, 0, none⟩)] w' (EvGS lo w' g (tellS .stmt r)))) :
    Calls Tryz.prog 129 #[.pointer (some ⟨g, 0, none⟩)] w (EvGS lo w g (tellS .stmt r)) := by
  have N0 := Lib.hid (fun w' (h' : RdG lo w' g r) => has_no w' g r [105, 102] h' n0)
  have N1 := Lib.hid (fun w' (h' : RdG lo w' g r) => has_no w' g r [102, 111, 114] h' n1)
  have Y := Lib.hid (fun w' (h' : RdG lo w' g r) => has_yes w' g r [114, 101, 116, 117, 114, 110] h' hi)
  clear n0 n1 hi
  have HG := Lib.hid h.rd.lt
  have HLO := Lib.hid h.rd.wlo
  have HB := Lib.hid (ball_new w #[.int .i64 0, .string ⟨#[]⟩, .int .i64 0, .int .i64 0, .string ⟨#[]⟩, .string ⟨#[]⟩, .slice none 0 0, .slice none 0 0, .slice none 0 0] 47)
  have HN := Lib.hid (new_at w #[.int .i64 0, .string ⟨#[]⟩, .int .i64 0, .int .i64 0, .string ⟨#[]⟩, .string ⟨#[]⟩, .slice none 0 0, .slice none 0 0, .slice none 0 0] 47)
  have HI := Lib.hid (h.below HB.out)
  have HT0 : Hid (Turn [g] w (w.alloc (.cells #[.int .i64 0, .string ⟨#[]⟩, .int .i64 0, .int .i64 0, .string ⟨#[]⟩, .string ⟨#[]⟩, .slice none 0 0, .slice none 0 0, .slice none 0 0] 47))) := Lib.hid ((Turn.refl [g] w).below HB.out)
  clear h
  go_enter Tryz.func129, Tryz.ntmps129
  go_wp2_with fail
  have H0 := HI
  have T0 : Hid (Turn [g] (w.alloc (.cells #[.int .i64 0, .string ⟨#[]⟩, .int .i64 0, .int .i64 0, .string ⟨#[]⟩, .string ⟨#[]⟩, .slice none 0 0, .slice none 0 0, .slice none 0 0] 47)) (w.alloc (.cells #[.int .i64 0, .string ⟨#[]⟩, .int .i64 0, .int .i64 0, .string ⟨#[]⟩, .string ⟨#[]⟩, .slice none 0 0, .slice none 0 0, .slice none 0 0] 47))) := Lib.hid (Turn.refl _ _)
  refine (N0.out _ H0.out.rd).mono ?_
  rintro e v0 ⟨rfl, h1, h2⟩
  replace H0 := Lib.hid (H0.out.step h2 h1)
  replace T0 := Lib.hid (T0.out.trans h2)
  clear h1 h2 N0
  go_wp2_with fail
  refine (N1.out _ H0.out.rd).mono ?_
  rintro e v1 ⟨rfl, h1, h2⟩
  replace H0 := Lib.hid (H0.out.step h2 h1)
  replace T0 := Lib.hid (T0.out.trans h2)
  clear h1 h2 N1
  go_wp2_with fail
  refine (Y.out _ H0.out.rd).mono ?_
  rintro e w1 ⟨rfl, h1, h2⟩
  replace H0 := Lib.hid (H0.out.step h2 h1)
  replace T0 := Lib.hid (T0.out.trans h2)
  clear h1 h2 Y
  have CX := CP _ H0.out
  go_wp2_with fail
  refine CX.out.mono ?_
  rintro e w5 ⟨s, r', rfl, hs1, hs2, hs3, hs4, hs5⟩
  have HE : Hid (∀ w9, Turn [w.heap.size] w5 w9 → EvGS lo w g (tellS .stmt r) (.returned (stV s)) w9) := Lib.hid (fun w9 ht => stpassG HLO.out hs2 (hs3.mono (by have := T0.out.size; simp at this; omega)) (HT0.out.trans (T0.out.trans hs5)) hs4 ht hs1)
  have HR5 := Lib.hid (res_keep9 HG.out (T0.out.trans hs5))
  clear hs1 hs2 hs3 hs4 hs5 CX CP
  obtain ⟨so, ss, ⟨eo, en, es, eq, ea, ec, ex⟩, ya, yc, yb, ya2, yc2, yb2⟩ := s
  unfold stV at *
  obtain ⟨y0, y1, y2, y3, y4, y5, y6, y7, y8⟩ := Prs.nine_at HR5.out
  have f0 := free_at HR5.out 0
  have f1 := free_at HR5.out 1
  have f2 := free_at HR5.out 2
  have f3 := free_at HR5.out 3
  have f4 := free_at HR5.out 4
  have f5 := free_at HR5.out 5
  have f6 := free_at HR5.out 6
  have f7 := free_at HR5.out 7
  have f8 := free_at HR5.out 8
  go_wp2_with fail
  have HT := Lib.hid (turn9 w5 w.heap.size (.int .i64 so) (.string ss) (.int .i64 eo) (.int .i64 en) (.string es) (.string eq) (.slice ea ex.length ec) (.slice ya yb.length yc) (.slice ya2 yb2.length yc2))
  refine bodyPost_ret (results_stmt rfl _ _ w.heap.size _ _ _ _ _ _ _ _ _ rfl (set9 HR5.out)) rfl ?_
  exact HE.out _ HT.out
set_option maxHeartbeats 8000000 in
theorem stmt_named (w : World) (g : Nat) (r : PS) (h : InG lo w g r) (n0 : isW r [105, 102] = false) (n1 : isW r [102, 111, 114] = false) (n2 : isW r [114, 101, 116, 117, 114, 110] = false) (n3 : isW r [112, 114, 105, 110, 116] = false) (n4 : isW r [98, 114, 101, 97, 107] = false) (n5 : isW r [99, 111, 110, 116, 105, 110, 117, 101] = false) (CP : ∀ w', InG lo w' g r → Hid (Calls Tryz.prog 144 #[.pointer (some ⟨g, 0, none⟩)] w' (EvGS lo w' g (tellS .stmt r)))) :
    Calls Tryz.prog 129 #[.pointer (some ⟨g, 0, none⟩)] w (EvGS lo w g (tellS .stmt r)) := by
  have N0 := Lib.hid (fun w' (h' : RdG lo w' g r) => has_no w' g r [105, 102] h' n0)
  have N1 := Lib.hid (fun w' (h' : RdG lo w' g r) => has_no w' g r [102, 111, 114] h' n1)
  have N2 := Lib.hid (fun w' (h' : RdG lo w' g r) => has_no w' g r [114, 101, 116, 117, 114, 110] h' n2)
  have N3 := Lib.hid (fun w' (h' : RdG lo w' g r) => has_no w' g r [112, 114, 105, 110, 116] h' n3)
  have N4 := Lib.hid (fun w' (h' : RdG lo w' g r) => has_no w' g r [98, 114, 101, 97, 107] h' n4)
  have N5 := Lib.hid (fun w' (h' : RdG lo w' g r) => has_no w' g r [99, 111, 110, 116, 105, 110, 117, 101] h' n5)
  clear n0 n1 n2 n3 n4 n5
  have HG := Lib.hid h.rd.lt
  have HLO := Lib.hid h.rd.wlo
  have HB := Lib.hid (ball_new w #[.int .i64 0, .string ⟨#[]⟩, .int .i64 0, .int .i64 0, .string ⟨#[]⟩, .string ⟨#[]⟩, .slice none 0 0, .slice none 0 0, .slice none 0 0] 47)
  have HN := Lib.hid (new_at w #[.int .i64 0, .string ⟨#[]⟩, .int .i64 0, .int .i64 0, .string ⟨#[]⟩, .string ⟨#[]⟩, .slice none 0 0, .slice none 0 0, .slice none 0 0] 47)
  have HI := Lib.hid (h.below HB.out)
  have HT0 : Hid (Turn [g] w (w.alloc (.cells #[.int .i64 0, .string ⟨#[]⟩, .int .i64 0, .int .i64 0, .string ⟨#[]⟩, .string ⟨#[]⟩, .slice none 0 0, .slice none 0 0, .slice none 0 0] 47))) := Lib.hid ((Turn.refl [g] w).below HB.out)
  clear h
  go_enter Tryz.func129, Tryz.ntmps129
  go_wp2_with fail
  have H0 := HI
  have T0 : Hid (Turn [g] (w.alloc (.cells #[.int .i64 0, .string ⟨#[]⟩, .int .i64 0, .int .i64 0, .string ⟨#[]⟩, .string ⟨#[]⟩, .slice none 0 0, .slice none 0 0, .slice none 0 0] 47)) (w.alloc (.cells #[.int .i64 0, .string ⟨#[]⟩, .int .i64 0, .int .i64 0, .string ⟨#[]⟩, .string ⟨#[]⟩, .slice none 0 0, .slice none 0 0, .slice none 0 0] 47))) := Lib.hid (Turn.refl _ _)
  refine (N0.out _ H0.out.rd).mono ?_
  rintro e v0 ⟨rfl, h1, h2⟩
  replace H0 := Lib.hid (H0.out.step h2 h1)
  replace T0 := Lib.hid (T0.out.trans h2)
  clear h1 h2 N0
  go_wp2_with fail
  refine (N1.out _ H0.out.rd).mono ?_
  rintro e v1 ⟨rfl, h1, h2⟩
  replace H0 := Lib.hid (H0.out.step h2 h1)
  replace T0 := Lib.hid (T0.out.trans h2)
  clear h1 h2 N1
  go_wp2_with fail
  refine (N2.out _ H0.out.rd).mono ?_
  rintro e v2 ⟨rfl, h1, h2⟩
  replace H0 := Lib.hid (H0.out.step h2 h1)
  replace T0 := Lib.hid (T0.out.trans h2)
  clear h1 h2 N2
  go_wp2_with fail
  refine (N3.out _ H0.out.rd).mono ?_
  rintro e v3 ⟨rfl, h1, h2⟩
  replace H0 := Lib.hid (H0.out.step h2 h1)
  replace T0 := Lib.hid (T0.out.trans h2)
  clear h1 h2 N3
  go_wp2_with fail
  refine (N4.out _ H0.out.rd).mono ?_
  rintro e v4 ⟨rfl, h1, h2⟩
  replace H0 := Lib.hid (H0.out.step h2 h1)
  replace T0 := Lib.hid (T0.out.trans h2)
  clear h1 h2 N4
  go_wp2_with fail
  refine (N5.out _ H0.out.rd).mono ?_
  rintro e v5 ⟨rfl, h1, h2⟩
  replace H0 := Lib.hid (H0.out.step h2 h1)
  replace T0 := Lib.hid (T0.out.trans h2)
  clear h1 h2 N5
  go_wp2_with fail
  have CX := CP _ H0.out
  refine CX.out.mono ?_
  rintro e w5 ⟨s, r', rfl, hs1, hs2, hs3, hs4, hs5⟩
  have HE : Hid (∀ w9, Turn [w.heap.size] w5 w9 → EvGS lo w g (tellS .stmt r) (.returned (stV s)) w9) := Lib.hid (fun w9 ht => stpassG HLO.out hs2 (hs3.mono (by have := T0.out.size; simp at this; omega)) (HT0.out.trans (T0.out.trans hs5)) hs4 ht hs1)
  have HR5 := Lib.hid (res_keep9 HG.out (T0.out.trans hs5))
  clear hs1 hs2 hs3 hs4 hs5 CX CP
  obtain ⟨so, ss, ⟨eo, en, es, eq, ea, ec, ex⟩, ya, yc, yb, ya2, yc2, yb2⟩ := s
  unfold stV at *
  obtain ⟨y0, y1, y2, y3, y4, y5, y6, y7, y8⟩ := Prs.nine_at HR5.out
  have f0 := free_at HR5.out 0
  have f1 := free_at HR5.out 1
  have f2 := free_at HR5.out 2
  have f3 := free_at HR5.out 3
  have f4 := free_at HR5.out 4
  have f5 := free_at HR5.out 5
  have f6 := free_at HR5.out 6
  have f7 := free_at HR5.out 7
  have f8 := free_at HR5.out 8
  go_wp2_with fail
  have HT := Lib.hid (turn9 w5 w.heap.size (.int .i64 so) (.string ss) (.int .i64 eo) (.int .i64 en) (.string es) (.string eq) (.slice ea ex.length ec) (.slice ya yb.length yc) (.slice ya2 yb2.length yc2))
  refine bodyPost_ret (results_stmt rfl _ _ w.heap.size _ _ _ _ _ _ _ _ _ rfl (set9 HR5.out)) rfl ?_
  exact HE.out _ HT.out
set_option maxHeartbeats 8000000 in
theorem stmt_break (w : World) (g : Nat) (r : PS) (h : InG lo w g r) (n0 : isW r [105, 102] = false) (n1 : isW r [102, 111, 114] = false) (n2 : isW r [114, 101, 116, 117, 114, 110] = false) (n3 : isW r [112, 114, 105, 110, 116] = false) (hi : isW r [98, 114, 101, 97, 107] = true) :
    Calls Tryz.prog 129 #[.pointer (some ⟨g, 0, none⟩)] w (EvGS lo w g (tellS .stmt r)) := by
  have HQ := Lib.hid (ag_break n0 n1 n2 n3 hi)
  have N0 := Lib.hid (fun w' (h' : RdG lo w' g r) => has_no w' g r [105, 102] h' n0)
  have N1 := Lib.hid (fun w' (h' : RdG lo w' g r) => has_no w' g r [102, 111, 114] h' n1)
  have N2 := Lib.hid (fun w' (h' : RdG lo w' g r) => has_no w' g r [114, 101, 116, 117, 114, 110] h' n2)
  have N3 := Lib.hid (fun w' (h' : RdG lo w' g r) => has_no w' g r [112, 114, 105, 110, 116] h' n3)
  have Y := Lib.hid (fun w' (h' : RdG lo w' g r) => has_yes w' g r [98, 114, 101, 97, 107] h' hi)
  clear n0 n1 n2 n3 hi
  have HG := Lib.hid h.rd.lt
  have HLO := Lib.hid h.rd.wlo
  have HB := Lib.hid (ball_new w #[.int .i64 0, .string ⟨#[]⟩, .int .i64 0, .int .i64 0, .string ⟨#[]⟩, .string ⟨#[]⟩, .slice none 0 0, .slice none 0 0, .slice none 0 0] 47)
  have HN := Lib.hid (new_at w #[.int .i64 0, .string ⟨#[]⟩, .int .i64 0, .int .i64 0, .string ⟨#[]⟩, .string ⟨#[]⟩, .slice none 0 0, .slice none 0 0, .slice none 0 0] 47)
  have HI := Lib.hid (h.below HB.out)
  have HT0 : Hid (Turn [g] w (w.alloc (.cells #[.int .i64 0, .string ⟨#[]⟩, .int .i64 0, .int .i64 0, .string ⟨#[]⟩, .string ⟨#[]⟩, .slice none 0 0, .slice none 0 0, .slice none 0 0] 47))) := Lib.hid ((Turn.refl [g] w).below HB.out)
  clear h
  go_enter Tryz.func129, Tryz.ntmps129
  go_wp2_with fail
  have H0 := HI
  have T0 : Hid (Turn [g] (w.alloc (.cells #[.int .i64 0, .string ⟨#[]⟩, .int .i64 0, .int .i64 0, .string ⟨#[]⟩, .string ⟨#[]⟩, .slice none 0 0, .slice none 0 0, .slice none 0 0] 47)) (w.alloc (.cells #[.int .i64 0, .string ⟨#[]⟩, .int .i64 0, .int .i64 0, .string ⟨#[]⟩, .string ⟨#[]⟩, .slice none 0 0, .slice none 0 0, .slice none 0 0] 47))) := Lib.hid (Turn.refl _ _)
  refine (N0.out _ H0.out.rd).mono ?_
  rintro e v0 ⟨rfl, h1, h2⟩
  replace H0 := Lib.hid (H0.out.step h2 h1)
  replace T0 := Lib.hid (T0.out.trans h2)
  clear h1 h2 N0
  go_wp2_with fail
  refine (N1.out _ H0.out.rd).mono ?_
  rintro e v1 ⟨rfl, h1, h2⟩
  replace H0 := Lib.hid (H0.out.step h2 h1)
  replace T0 := Lib.hid (T0.out.trans h2)
  clear h1 h2 N1
  go_wp2_with fail
  refine (N2.out _ H0.out.rd).mono ?_
  rintro e v2 ⟨rfl, h1, h2⟩
  replace H0 := Lib.hid (H0.out.step h2 h1)
  replace T0 := Lib.hid (T0.out.trans h2)
  clear h1 h2 N2
  go_wp2_with fail
  refine (N3.out _ H0.out.rd).mono ?_
  rintro e v3 ⟨rfl, h1, h2⟩
  replace H0 := Lib.hid (H0.out.step h2 h1)
  replace T0 := Lib.hid (T0.out.trans h2)
  clear h1 h2 N3
  go_wp2_with fail
  refine (Y.out _ H0.out.rd).mono ?_
  rintro e w1 ⟨rfl, h1, h2⟩
  replace H0 := Lib.hid (H0.out.step h2 h1)
  replace T0 := Lib.hid (T0.out.trans h2)
  clear h1 h2 Y
  have HR5 := Lib.hid (res_keep9 HG.out T0.out)
  have TT := Lib.hid (HT0.out.trans T0.out)
  obtain ⟨y0, y1, y2, y3, y4, y5, y6, y7, y8⟩ := Prs.nine_at HR5.out
  have f0 := free_at HR5.out 0
  have f1 := free_at HR5.out 1
  have f2 := free_at HR5.out 2
  have f3 := free_at HR5.out 3
  have f4 := free_at HR5.out 4
  have f5 := free_at HR5.out 5
  have f6 := free_at HR5.out 6
  have f7 := free_at HR5.out 7
  have f8 := free_at HR5.out 8
  go_wp2_with fail
  have HT := Lib.hid (turn9 w1 w.heap.size (.int .i64 8) (.string ⟨#[]⟩) (.int .i64 0) (.int .i64 0) (.string ⟨#[]⟩) (.string ⟨#[]⟩) (.slice none 0 0) (.slice none 0 0) (.slice none 0 0))
  refine bodyPost_ret (results_stmt rfl _ _ w.heap.size _ _ _ _ _ _ _ _ _ rfl (set9 HR5.out)) rfl ?_
  exact one_endG (x := nilX) HLO.out (leaf_in _ 0 0 ⟨#[]⟩ nil_max) (leaf_new _ 0 0 ⟨#[]⟩) nil_max TT.out H0.out.rd HT.out (by have := HQ.out; rw [show core nilX = nilT by rw [core_eq]; rfl]; exact this)
set_option maxHeartbeats 8000000 in
theorem stmt_next (w : World) (g : Nat) (r : PS) (h : InG lo w g r) (n0 : isW r [105, 102] = false) (n1 : isW r [102, 111, 114] = false) (n2 : isW r [114, 101, 116, 117, 114, 110] = false) (n3 : isW r [112, 114, 105, 110, 116] = false) (n4 : isW r [98, 114, 101, 97, 107] = false) (hi : isW r [99, 111, 110, 116, 105, 110, 117, 101] = true) :
    Calls Tryz.prog 129 #[.pointer (some ⟨g, 0, none⟩)] w (EvGS lo w g (tellS .stmt r)) := by
  have HQ := Lib.hid (ag_next n0 n1 n2 n3 n4 hi)
  have N0 := Lib.hid (fun w' (h' : RdG lo w' g r) => has_no w' g r [105, 102] h' n0)
  have N1 := Lib.hid (fun w' (h' : RdG lo w' g r) => has_no w' g r [102, 111, 114] h' n1)
  have N2 := Lib.hid (fun w' (h' : RdG lo w' g r) => has_no w' g r [114, 101, 116, 117, 114, 110] h' n2)
  have N3 := Lib.hid (fun w' (h' : RdG lo w' g r) => has_no w' g r [112, 114, 105, 110, 116] h' n3)
  have N4 := Lib.hid (fun w' (h' : RdG lo w' g r) => has_no w' g r [98, 114, 101, 97, 107] h' n4)
  have Y := Lib.hid (fun w' (h' : RdG lo w' g r) => has_yes w' g r [99, 111, 110, 116, 105, 110, 117, 101] h' hi)
  clear n0 n1 n2 n3 n4 hi
  have HG := Lib.hid h.rd.lt
  have HLO := Lib.hid h.rd.wlo
  have HB := Lib.hid (ball_new w #[.int .i64 0, .string ⟨#[]⟩, .int .i64 0, .int .i64 0, .string ⟨#[]⟩, .string ⟨#[]⟩, .slice none 0 0, .slice none 0 0, .slice none 0 0] 47)
  have HN := Lib.hid (new_at w #[.int .i64 0, .string ⟨#[]⟩, .int .i64 0, .int .i64 0, .string ⟨#[]⟩, .string ⟨#[]⟩, .slice none 0 0, .slice none 0 0, .slice none 0 0] 47)
  have HI := Lib.hid (h.below HB.out)
  have HT0 : Hid (Turn [g] w (w.alloc (.cells #[.int .i64 0, .string ⟨#[]⟩, .int .i64 0, .int .i64 0, .string ⟨#[]⟩, .string ⟨#[]⟩, .slice none 0 0, .slice none 0 0, .slice none 0 0] 47))) := Lib.hid ((Turn.refl [g] w).below HB.out)
  clear h
  go_enter Tryz.func129, Tryz.ntmps129
  go_wp2_with fail
  have H0 := HI
  have T0 : Hid (Turn [g] (w.alloc (.cells #[.int .i64 0, .string ⟨#[]⟩, .int .i64 0, .int .i64 0, .string ⟨#[]⟩, .string ⟨#[]⟩, .slice none 0 0, .slice none 0 0, .slice none 0 0] 47)) (w.alloc (.cells #[.int .i64 0, .string ⟨#[]⟩, .int .i64 0, .int .i64 0, .string ⟨#[]⟩, .string ⟨#[]⟩, .slice none 0 0, .slice none 0 0, .slice none 0 0] 47))) := Lib.hid (Turn.refl _ _)
  refine (N0.out _ H0.out.rd).mono ?_
  rintro e v0 ⟨rfl, h1, h2⟩
  replace H0 := Lib.hid (H0.out.step h2 h1)
  replace T0 := Lib.hid (T0.out.trans h2)
  clear h1 h2 N0
  go_wp2_with fail
  refine (N1.out _ H0.out.rd).mono ?_
  rintro e v1 ⟨rfl, h1, h2⟩
  replace H0 := Lib.hid (H0.out.step h2 h1)
  replace T0 := Lib.hid (T0.out.trans h2)
  clear h1 h2 N1
  go_wp2_with fail
  refine (N2.out _ H0.out.rd).mono ?_
  rintro e v2 ⟨rfl, h1, h2⟩
  replace H0 := Lib.hid (H0.out.step h2 h1)
  replace T0 := Lib.hid (T0.out.trans h2)
  clear h1 h2 N2
  go_wp2_with fail
  refine (N3.out _ H0.out.rd).mono ?_
  rintro e v3 ⟨rfl, h1, h2⟩
  replace H0 := Lib.hid (H0.out.step h2 h1)
  replace T0 := Lib.hid (T0.out.trans h2)
  clear h1 h2 N3
  go_wp2_with fail
  refine (N4.out _ H0.out.rd).mono ?_
  rintro e v4 ⟨rfl, h1, h2⟩
  replace H0 := Lib.hid (H0.out.step h2 h1)
  replace T0 := Lib.hid (T0.out.trans h2)
  clear h1 h2 N4
  go_wp2_with fail
  refine (Y.out _ H0.out.rd).mono ?_
  rintro e w1 ⟨rfl, h1, h2⟩
  replace H0 := Lib.hid (H0.out.step h2 h1)
  replace T0 := Lib.hid (T0.out.trans h2)
  clear h1 h2 Y
  have HR5 := Lib.hid (res_keep9 HG.out T0.out)
  have TT := Lib.hid (HT0.out.trans T0.out)
  obtain ⟨y0, y1, y2, y3, y4, y5, y6, y7, y8⟩ := Prs.nine_at HR5.out
  have f0 := free_at HR5.out 0
  have f1 := free_at HR5.out 1
  have f2 := free_at HR5.out 2
  have f3 := free_at HR5.out 3
  have f4 := free_at HR5.out 4
  have f5 := free_at HR5.out 5
  have f6 := free_at HR5.out 6
  have f7 := free_at HR5.out 7
  have f8 := free_at HR5.out 8
  go_wp2_with fail
  have HT := Lib.hid (turn9 w1 w.heap.size (.int .i64 9) (.string ⟨#[]⟩) (.int .i64 0) (.int .i64 0) (.string ⟨#[]⟩) (.string ⟨#[]⟩) (.slice none 0 0) (.slice none 0 0) (.slice none 0 0))
  refine bodyPost_ret (results_stmt rfl _ _ w.heap.size _ _ _ _ _ _ _ _ _ rfl (set9 HR5.out)) rfl ?_
  exact one_endG (x := nilX) HLO.out (leaf_in _ 0 0 ⟨#[]⟩ nil_max) (leaf_new _ 0 0 ⟨#[]⟩) nil_max TT.out H0.out.rd HT.out (by have := HQ.out; rw [show core nilX = nilT by rw [core_eq]; rfl]; exact this)
set_option maxHeartbeats 8000000 in
theorem stmt_print (w : World) (g : Nat) (r : PS) (h : InG lo w g r) (n0 : isW r [105, 102] = false) (n1 : isW r [102, 111, 114] = false) (n2 : isW r [114, 101, 116, 117, 114, 110] = false) (hi : isW r [112, 114, 105, 110, 116] = true) :
    Calls Tryz.prog 129 #[.pointer (some ⟨g, 0, none⟩)] w (EvGS lo w g (tellS .stmt r)) := by
  have HQ := Lib.hid (fun (t : Tx) (r' : PS) (h' : Ag (tell (.row 0) (mustP (tl r) [40])) t r') => ag_print n0 n1 n2 hi h')
  have N0 := Lib.hid (fun w' (h' : RdG lo w' g r) => has_no w' g r [105, 102] h' n0)
  have N1 := Lib.hid (fun w' (h' : RdG lo w' g r) => has_no w' g r [102, 111, 114] h' n1)
  have N2 := Lib.hid (fun w' (h' : RdG lo w' g r) => has_no w' g r [114, 101, 116, 117, 114, 110] h' n2)
  have Y := Lib.hid (fun w' (h' : RdG lo w' g r) => has_yes w' g r [112, 114, 105, 110, 116] h' hi)
  clear n0 n1 n2 hi
  have HG := Lib.hid h.rd.lt
  have HLO := Lib.hid h.rd.wlo
  have HB := Lib.hid (ball_new w #[.int .i64 0, .string ⟨#[]⟩, .int .i64 0, .int .i64 0, .string ⟨#[]⟩, .string ⟨#[]⟩, .slice none 0 0, .slice none 0 0, .slice none 0 0] 47)
  have HN := Lib.hid (new_at w #[.int .i64 0, .string ⟨#[]⟩, .int .i64 0, .int .i64 0, .string ⟨#[]⟩, .string ⟨#[]⟩, .slice none 0 0, .slice none 0 0, .slice none 0 0] 47)
  have HI := Lib.hid (h.below HB.out)
  have HT0 : Hid (Turn [g] w (w.alloc (.cells #[.int .i64 0, .string ⟨#[]⟩, .int .i64 0, .int .i64 0, .string ⟨#[]⟩, .string ⟨#[]⟩, .slice none 0 0, .slice none 0 0, .slice none 0 0] 47))) := Lib.hid ((Turn.refl [g] w).below HB.out)
  clear h
  go_enter Tryz.func129, Tryz.ntmps129
  go_wp2_with fail
  have H0 := HI
  have T0 : Hid (Turn [g] (w.alloc (.cells #[.int .i64 0, .string ⟨#[]⟩, .int .i64 0, .int .i64 0, .string ⟨#[]⟩, .string ⟨#[]⟩, .slice none 0 0, .slice none 0 0, .slice none 0 0] 47)) (w.alloc (.cells #[.int .i64 0, .string ⟨#[]⟩, .int .i64 0, .int .i64 0, .string ⟨#[]⟩, .string ⟨#[]⟩, .slice none 0 0, .slice none 0 0, .slice none 0 0] 47))) := Lib.hid (Turn.refl _ _)
  refine (N0.out _ H0.out.rd).mono ?_
  rintro e v0 ⟨rfl, h1, h2⟩
  replace H0 := Lib.hid (H0.out.step h2 h1)
  replace T0 := Lib.hid (T0.out.trans h2)
  clear h1 h2 N0
  go_wp2_with fail
  refine (N1.out _ H0.out.rd).mono ?_
  rintro e v1 ⟨rfl, h1, h2⟩
  replace H0 := Lib.hid (H0.out.step h2 h1)
  replace T0 := Lib.hid (T0.out.trans h2)
  clear h1 h2 N1
  go_wp2_with fail
  refine (N2.out _ H0.out.rd).mono ?_
  rintro e v2 ⟨rfl, h1, h2⟩
  replace H0 := Lib.hid (H0.out.step h2 h1)
  replace T0 := Lib.hid (T0.out.trans h2)
  clear h1 h2 N2
  go_wp2_with fail
  refine (Y.out _ H0.out.rd).mono ?_
  rintro e w1 ⟨rfl, h1, h2⟩
  replace H0 := Lib.hid (H0.out.step h2 h1)
  replace T0 := Lib.hid (T0.out.trans h2)
  clear h1 h2 Y
  have CM := Lib.hid (must_any w1 g (tl r) [40] H0.out.rd)
  go_wp2_with fail
  refine CM.out.mono ?_
  rintro e w2 ⟨rfl, h1, h2⟩
  have H2 := Lib.hid (H0.out.step h2 h1)
  have T2 := Lib.hid (T0.out.trans h2)
  clear h1 h2 CM H0 T0
  have CX := Lib.hid (exprG w2 g _ H2.out)
  go_wp2_with fail
  refine CX.out.mono ?_
  rintro e w3 ⟨x, r', rfl, hx1, hx2, hx3, hx4, hx5⟩
  rw [exV_eq]
  have HX1 := Lib.hid (HQ.out _ _ hx1)
  have HB3 := Lib.hid (ball_new w3 #[.int .i64 x.op, .int .i64 x.n, .string x.s, .string x.q, .slice x.a x.x.length x.c] 42)
  have HN3 := Lib.hid (new_at w3 #[.int .i64 x.op, .int .i64 x.n, .string x.s, .string x.q, .slice x.a x.x.length x.c] 42)
  have HX2 := Lib.hid (Tre.ExIn.below hx2 HB3.out)
  have HX3 : Hid (New (w.heap.size + 1) x) := Lib.hid (hx3.mono (by have := T2.out.size; simp at this; omega))
  have HX4 := Lib.hid (hx4.below HB3.out)
  have T3 := Lib.hid ((T2.out.trans hx5).below HB3.out)
  have HGL : Hid (g < w3.heap.size) := Lib.hid hx4.lt
  have CM := Lib.hid (must_any _ g r' [41] HX4.out)
  clear hx1 hx2 hx3 hx4 hx5 CX H2
  go_wp2_with fail
  refine CM.out.mono ?_
  rintro e w5 ⟨rfl, h1, h2⟩
  have HX5 : Hid (ExIn w5 x) := Lib.hid (ExIn.off HX2.out (New.off HX3.out (fun k hk => by have := HG.out; simp at hk; omega)) h2)
  have HR4 := Lib.hid h1
  have T5 := Lib.hid (T3.out.trans h2)
  have HE5 := (h2.block _ (lt_of_heap HN3.out) (by have := HGL.out; simp; omega)).trans HN3.out
  have HR5 := Lib.hid (res_keep9 HG.out T5.out)
  have TT := Lib.hid (HT0.out.trans T5.out)
  obtain ⟨x0, x1, x2, x3, x4⟩ := five_at HE5
  clear h1 h2 CM HE5
  obtain ⟨y0, y1, y2, y3, y4, y5, y6, y7, y8⟩ := Prs.nine_at HR5.out
  have f0 := free_at HR5.out 0
  have f1 := free_at HR5.out 1
  have f2 := free_at HR5.out 2
  have f3 := free_at HR5.out 3
  have f4 := free_at HR5.out 4
  have f5 := free_at HR5.out 5
  have f6 := free_at HR5.out 6
  have f7 := free_at HR5.out 7
  have f8 := free_at HR5.out 8
  go_wp2_with fail
  have HT := Lib.hid (turn9 w5 w.heap.size (.int .i64 6) (.string ⟨#[]⟩) (.int .i64 x.op) (.int .i64 x.n) (.string x.s) (.string x.q) (.slice x.a x.x.length x.c) (.slice none 0 0) (.slice none 0 0))
  refine bodyPost_ret (results_stmt rfl _ _ w.heap.size _ _ _ _ _ _ _ _ _ rfl (set9 HR5.out)) rfl ?_
  exact one_endG HLO.out HX5.out HX3.out nil_max TT.out HR4.out HT.out HX1.out
end Go.Proofs.YtmihlmlojmdhjaaGreatDoor.Prg
