/-
  The program's unary: signs ahead, truths, brackets. Conditions: the reader is known; what it calls does as the plain grammar says.
-/
import Derived.Test.YtlhbhpdpjidpgaaGreatDoorX16
import Derived.Maps.AppendAt
namespace Go.Proofs.YtlhbhpdpjidpgaaGreatDoor.Prg
open Go.RowKit Tre Prs
open Lex (Wd wdC wdV bs str Turn)
set_option maxRecDepth 100000
set_option linter.unusedSimpArgs false
variable {lo : Nat}
set_option maxHeartbeats 4000000 in
theorem unary_neg (w : World) (g : Nat) (r : PS) (h : InG lo w g r)  (hi : isW r [45] = true) (CU : ∀ w', InG lo w' g (tl r) → Hid (Calls Tryz.prog 54 #[.pointer (some ⟨g, 0, none⟩)] w' (EvG lo w' g (tell .unary (tl r))))) :
    Calls Tryz.prog 54 #[.pointer (some ⟨g, 0, none⟩)] w (EvG lo w g (tell .unary r)) := by
  have HQ := fun (t : Tx) (r' : PS) (h' : Ag (tell .unary (tl r)) t r') => Lib.hid (ag_neg  hi h')
  have hb := ball_new w #[.int .i64 0, .int .i64 0, .string ⟨#[]⟩, .string ⟨#[]⟩, .slice none 0 0] 36
  have HG := Lib.hid h.rd.lt
  have HB := Lib.hid hb
  have HLO := Lib.hid h.rd.wlo
  have HI := Lib.hid (h.below hb)
  have Y := fun w' (h' : RdG lo w' g r) => Lib.hid (has_yes w' g r [45] h' hi)
  clear h hb  hi
  go_enter Tryz.func54, Tryz.ntmps54
  go_wp2_with fail
  refine (Y _ HI.out.rd).out.mono ?_
  rintro e w1 ⟨rfl, h1, h2⟩
  have H1 := Lib.hid h1
  have H2 := Lib.hid (h2)
  have HW : Hid (w.heap.size < w1.heap.size) := Lib.hid (by have := H2.out.size; simp at this; omega)
  clear h1 h2
  have CU1 := CU w1 (HI.out.step H2.out H1.out)
  go_wp2_with fail
  refine CU1.out.mono ?_
  rintro e w2 ⟨x, r', rfl, hx1, hx2, hx3, hx4, hx5⟩
  have HX1 := Lib.hid hx1
  have HX2 := Lib.hid hx2
  have HX3 := Lib.hid hx3
  have HX4 := Lib.hid hx4
  have HX5 := Lib.hid hx5
  rw [exV_eq]
  have hr1 := res_keep HG.out H2.out
  have hr2 := (hx5.block _ (lt_of_heap hr1) (by have := HG.out; simp; omega)).trans hr1
  have HB3 := Lib.hid (ball_new w2 #[.int .i64 x.op, .int .i64 x.n, .string x.s, .string x.q, .slice x.a x.x.length x.c] 36)
  have HN3 := Lib.hid (new_at w2 #[.int .i64 x.op, .int .i64 x.n, .string x.s, .string x.q, .slice x.a x.x.length x.c] 36)
  have HR3 := Lib.hid ((HB3.out.block _ (lt_of_heap hr2)).trans hr2)
  clear hx1 hx2 hx3 hx4 hx5 hr1 hr2
  obtain ⟨y0, y1, y2, y3, y4⟩ := five_at HR3.out
  have f0 := free_at HR3.out 0
  have f1 := free_at HR3.out 1
  have f2 := free_at HR3.out 2
  have f3 := free_at HR3.out 3
  have f4 := free_at HR3.out 4
  go_wp2_with fail
  have HT := Lib.hid (turn5 (w2.alloc (.cells #[.int .i64 x.op, .int .i64 x.n, .string x.s, .string x.q, .slice x.a x.x.length x.c] 36)) w.heap.size (.int .i64 5) (.int .i64 0) (.string ⟨#[]⟩) (.string ⟨#[]⟩) (.slice (some ⟨w2.heap.size, 0, none⟩) 1 1))
  refine bodyPost_ret (results_expr rfl _ _ w.heap.size _ _ _ _ _ rfl (set5 HR3.out)) rfl ?_
  exact un_endG (op := 5) HW.out HLO.out HX2.out HX3.out HX4.out HB.out H2.out HX5.out HB3.out HN3.out HT.out (HQ _ _ HX1.out).out
set_option maxHeartbeats 4000000 in
theorem unary_bang (w : World) (g : Nat) (r : PS) (h : InG lo w g r) (n0 : isW r [45] = false) (hi : isW r [33] = true) (CU : ∀ w', InG lo w' g (tl r) → Hid (Calls Tryz.prog 54 #[.pointer (some ⟨g, 0, none⟩)] w' (EvG lo w' g (tell .unary (tl r))))) :
    Calls Tryz.prog 54 #[.pointer (some ⟨g, 0, none⟩)] w (EvG lo w g (tell .unary r)) := by
  have HQ := fun (t : Tx) (r' : PS) (h' : Ag (tell .unary (tl r)) t r') => Lib.hid (ag_bang n0 hi h')
  have hb := ball_new w #[.int .i64 0, .int .i64 0, .string ⟨#[]⟩, .string ⟨#[]⟩, .slice none 0 0] 36
  have HG := Lib.hid h.rd.lt
  have HB := Lib.hid hb
  have HLO := Lib.hid h.rd.wlo
  have HI := Lib.hid (h.below hb)
  have N0 := fun w' (h' : RdG lo w' g r) => Lib.hid (has_no w' g r [45] h' n0)
  have Y := fun w' (h' : RdG lo w' g r) => Lib.hid (has_yes w' g r [33] h' hi)
  clear h hb n0 hi
  go_enter Tryz.func54, Tryz.ntmps54
  go_wp2_with fail
  refine (N0 _ HI.out.rd).out.mono ?_
  rintro e v0 ⟨rfl, h1, h2⟩
  have P0 := Lib.hid h1
  have T0 := Lib.hid (h2)
  clear h1 h2
  go_wp2_with fail
  refine (Y _ P0.out).out.mono ?_
  rintro e w1 ⟨rfl, h1, h2⟩
  have H1 := Lib.hid h1
  have H2 := Lib.hid (T0.out.trans h2)
  have HW : Hid (w.heap.size < w1.heap.size) := Lib.hid (by have := H2.out.size; simp at this; omega)
  clear h1 h2
  have CU1 := CU w1 (HI.out.step H2.out H1.out)
  go_wp2_with fail
  refine CU1.out.mono ?_
  rintro e w2 ⟨x, r', rfl, hx1, hx2, hx3, hx4, hx5⟩
  have HX1 := Lib.hid hx1
  have HX2 := Lib.hid hx2
  have HX3 := Lib.hid hx3
  have HX4 := Lib.hid hx4
  have HX5 := Lib.hid hx5
  rw [exV_eq]
  have hr1 := res_keep HG.out H2.out
  have hr2 := (hx5.block _ (lt_of_heap hr1) (by have := HG.out; simp; omega)).trans hr1
  have HB3 := Lib.hid (ball_new w2 #[.int .i64 x.op, .int .i64 x.n, .string x.s, .string x.q, .slice x.a x.x.length x.c] 36)
  have HN3 := Lib.hid (new_at w2 #[.int .i64 x.op, .int .i64 x.n, .string x.s, .string x.q, .slice x.a x.x.length x.c] 36)
  have HR3 := Lib.hid ((HB3.out.block _ (lt_of_heap hr2)).trans hr2)
  clear hx1 hx2 hx3 hx4 hx5 hr1 hr2
  obtain ⟨y0, y1, y2, y3, y4⟩ := five_at HR3.out
  have f0 := free_at HR3.out 0
  have f1 := free_at HR3.out 1
  have f2 := free_at HR3.out 2
  have f3 := free_at HR3.out 3
  have f4 := free_at HR3.out 4
  go_wp2_with fail
  have HT := Lib.hid (turn5 (w2.alloc (.cells #[.int .i64 x.op, .int .i64 x.n, .string x.s, .string x.q, .slice x.a x.x.length x.c] 36)) w.heap.size (.int .i64 6) (.int .i64 0) (.string ⟨#[]⟩) (.string ⟨#[]⟩) (.slice (some ⟨w2.heap.size, 0, none⟩) 1 1))
  refine bodyPost_ret (results_expr rfl _ _ w.heap.size _ _ _ _ _ rfl (set5 HR3.out)) rfl ?_
  exact un_endG (op := 6) HW.out HLO.out HX2.out HX3.out HX4.out HB.out H2.out HX5.out HB3.out HN3.out HT.out (HQ _ _ HX1.out).out
set_option maxHeartbeats 4000000 in
theorem unary_true (w : World) (g : Nat) (r : PS) (h : InG lo w g r) (n0 : isW r [45] = false) (n1 : isW r [33] = false) (hi : isW r [116, 114, 117, 101] = true) :
    Calls Tryz.prog 54 #[.pointer (some ⟨g, 0, none⟩)] w (EvG lo w g (tell .unary r)) := by
  have HQ := Lib.hid (ag_true n0 n1 hi)
  have hb := ball_new w #[.int .i64 0, .int .i64 0, .string ⟨#[]⟩, .string ⟨#[]⟩, .slice none 0 0] 36
  have HG := Lib.hid h.rd.lt
  have HB := Lib.hid hb
  have HLO := Lib.hid h.rd.wlo
  have HI := Lib.hid (h.below hb)
  have N0 := fun w' (h' : RdG lo w' g r) => Lib.hid (has_no w' g r [45] h' n0)
  have N1 := fun w' (h' : RdG lo w' g r) => Lib.hid (has_no w' g r [33] h' n1)
  have Y := fun w' (h' : RdG lo w' g r) => Lib.hid (has_yes w' g r [116, 114, 117, 101] h' hi)
  clear h hb n0 n1 hi
  have CT := Lib.hid (fun w' => truth_any w' 1)
  go_enter Tryz.func54, Tryz.ntmps54
  go_wp2_with fail
  refine (N0 _ HI.out.rd).out.mono ?_
  rintro e v0 ⟨rfl, h1, h2⟩
  have P0 := Lib.hid h1
  have T0 := Lib.hid (h2)
  clear h1 h2
  go_wp2_with fail
  refine (N1 _ P0.out).out.mono ?_
  rintro e v1 ⟨rfl, h1, h2⟩
  have P1 := Lib.hid h1
  have T1 := Lib.hid (T0.out.trans h2)
  clear h1 h2
  go_wp2_with fail
  refine (Y _ P1.out).out.mono ?_
  rintro e w1 ⟨rfl, h1, h2⟩
  have H1 := Lib.hid h1
  have H2 := Lib.hid (T1.out.trans h2)
  have HW : Hid (w.heap.size < w1.heap.size) := Lib.hid (by have := H2.out.size; simp at this; omega)
  clear h1 h2
  go_wp2_with fail
  refine (CT.out _).mono ?_
  rintro e w2 ⟨rfl, hb2⟩
  have HB2 := Lib.hid hb2
  have H3 := Lib.hid (H2.out.below hb2)
  clear hb2
  have HR1 := Lib.hid (res_keep HG.out H3.out)
  obtain ⟨y0, y1, y2, y3, y4⟩ := five_at HR1.out
  have f0 := free_at HR1.out 0
  have f1 := free_at HR1.out 1
  have f2 := free_at HR1.out 2
  have f3 := free_at HR1.out 3
  have f4 := free_at HR1.out 4
  go_wp2_with fail
  have HT := Lib.hid (turn5 w2 w.heap.size (.int .i64 2) (.int .i64 1) (.string ⟨#[]⟩) (.string ⟨#[]⟩) (.slice none 0 0))
  refine bodyPost_ret (results_expr rfl _ _ w.heap.size _ _ _ _ _ rfl (set5 HR1.out)) rfl ?_
  exact leaf_endG HLO.out (by show (⟨#[]⟩ : ByteArray).size ≤ maxLen; unfold maxLen; simp [ByteArray.size]) (H1.out.below HB2.out) HB.out H3.out HT.out HQ.out
set_option maxHeartbeats 4000000 in
theorem unary_false (w : World) (g : Nat) (r : PS) (h : InG lo w g r) (n0 : isW r [45] = false) (n1 : isW r [33] = false) (n2 : isW r [116, 114, 117, 101] = false) (hi : isW r [102, 97, 108, 115, 101] = true) :
    Calls Tryz.prog 54 #[.pointer (some ⟨g, 0, none⟩)] w (EvG lo w g (tell .unary r)) := by
  have HQ := Lib.hid (ag_false n0 n1 n2 hi)
  have hb := ball_new w #[.int .i64 0, .int .i64 0, .string ⟨#[]⟩, .string ⟨#[]⟩, .slice none 0 0] 36
  have HG := Lib.hid h.rd.lt
  have HB := Lib.hid hb
  have HLO := Lib.hid h.rd.wlo
  have HI := Lib.hid (h.below hb)
  have N0 := fun w' (h' : RdG lo w' g r) => Lib.hid (has_no w' g r [45] h' n0)
  have N1 := fun w' (h' : RdG lo w' g r) => Lib.hid (has_no w' g r [33] h' n1)
  have N2 := fun w' (h' : RdG lo w' g r) => Lib.hid (has_no w' g r [116, 114, 117, 101] h' n2)
  have Y := fun w' (h' : RdG lo w' g r) => Lib.hid (has_yes w' g r [102, 97, 108, 115, 101] h' hi)
  clear h hb n0 n1 n2 hi
  have CT := Lib.hid (fun w' => truth_any w' 0)
  go_enter Tryz.func54, Tryz.ntmps54
  go_wp2_with fail
  refine (N0 _ HI.out.rd).out.mono ?_
  rintro e v0 ⟨rfl, h1, h2⟩
  have P0 := Lib.hid h1
  have T0 := Lib.hid (h2)
  clear h1 h2
  go_wp2_with fail
  refine (N1 _ P0.out).out.mono ?_
  rintro e v1 ⟨rfl, h1, h2⟩
  have P1 := Lib.hid h1
  have T1 := Lib.hid (T0.out.trans h2)
  clear h1 h2
  go_wp2_with fail
  refine (N2 _ P1.out).out.mono ?_
  rintro e v2 ⟨rfl, h1, h2⟩
  have P2 := Lib.hid h1
  have T2 := Lib.hid (T1.out.trans h2)
  clear h1 h2
  go_wp2_with fail
  refine (Y _ P2.out).out.mono ?_
  rintro e w1 ⟨rfl, h1, h2⟩
  have H1 := Lib.hid h1
  have H2 := Lib.hid (T2.out.trans h2)
  have HW : Hid (w.heap.size < w1.heap.size) := Lib.hid (by have := H2.out.size; simp at this; omega)
  clear h1 h2
  go_wp2_with fail
  refine (CT.out _).mono ?_
  rintro e w2 ⟨rfl, hb2⟩
  have HB2 := Lib.hid hb2
  have H3 := Lib.hid (H2.out.below hb2)
  clear hb2
  have HR1 := Lib.hid (res_keep HG.out H3.out)
  obtain ⟨y0, y1, y2, y3, y4⟩ := five_at HR1.out
  have f0 := free_at HR1.out 0
  have f1 := free_at HR1.out 1
  have f2 := free_at HR1.out 2
  have f3 := free_at HR1.out 3
  have f4 := free_at HR1.out 4
  go_wp2_with fail
  have HT := Lib.hid (turn5 w2 w.heap.size (.int .i64 2) (.int .i64 0) (.string ⟨#[]⟩) (.string ⟨#[]⟩) (.slice none 0 0))
  refine bodyPost_ret (results_expr rfl _ _ w.heap.size _ _ _ _ _ rfl (set5 HR1.out)) rfl ?_
  exact leaf_endG HLO.out (by show (⟨#[]⟩ : ByteArray).size ≤ maxLen; unfold maxLen; simp [ByteArray.size]) (H1.out.below HB2.out) HB.out H3.out HT.out HQ.out
set_option maxHeartbeats 4000000 in
theorem unary_par (w : World) (g : Nat) (r : PS) (h : InG lo w g r) (n0 : isW r [45] = false) (n1 : isW r [33] = false) (n2 : isW r [116, 114, 117, 101] = false) (n3 : isW r [102, 97, 108, 115, 101] = false) (hi : isW r [40] = true) (CR : ∀ w', InG lo w' g (tl r) → Hid (Calls Tryz.prog 30 #[.pointer (some ⟨g, 0, none⟩)] w' (EvG lo w' g (tell (.row 0) (tl r))))) :
    Calls Tryz.prog 54 #[.pointer (some ⟨g, 0, none⟩)] w (EvG lo w g (tell .unary r)) := by
  have HQ := fun (t : Tx) (r' : PS) (h' : Ag (tell (.row 0) (tl r)) t r') => Lib.hid (ag_par n0 n1 n2 n3 hi h')
  have hb := ball_new w #[.int .i64 0, .int .i64 0, .string ⟨#[]⟩, .string ⟨#[]⟩, .slice none 0 0] 36
  have HG := Lib.hid h.rd.lt
  have HB := Lib.hid hb
  have HLO := Lib.hid h.rd.wlo
  have HI := Lib.hid (h.below hb)
  have N0 := fun w' (h' : RdG lo w' g r) => Lib.hid (has_no w' g r [45] h' n0)
  have N1 := fun w' (h' : RdG lo w' g r) => Lib.hid (has_no w' g r [33] h' n1)
  have N2 := fun w' (h' : RdG lo w' g r) => Lib.hid (has_no w' g r [116, 114, 117, 101] h' n2)
  have N3 := fun w' (h' : RdG lo w' g r) => Lib.hid (has_no w' g r [102, 97, 108, 115, 101] h' n3)
  have Y := fun w' (h' : RdG lo w' g r) => Lib.hid (has_yes w' g r [40] h' hi)
  clear h hb n0 n1 n2 n3 hi
  go_enter Tryz.func54, Tryz.ntmps54
  go_wp2_with fail
  refine (N0 _ HI.out.rd).out.mono ?_
  rintro e v0 ⟨rfl, h1, h2⟩
  have P0 := Lib.hid h1
  have T0 := Lib.hid (h2)
  clear h1 h2
  go_wp2_with fail
  refine (N1 _ P0.out).out.mono ?_
  rintro e v1 ⟨rfl, h1, h2⟩
  have P1 := Lib.hid h1
  have T1 := Lib.hid (T0.out.trans h2)
  clear h1 h2
  go_wp2_with fail
  refine (N2 _ P1.out).out.mono ?_
  rintro e v2 ⟨rfl, h1, h2⟩
  have P2 := Lib.hid h1
  have T2 := Lib.hid (T1.out.trans h2)
  clear h1 h2
  go_wp2_with fail
  refine (N3 _ P2.out).out.mono ?_
  rintro e v3 ⟨rfl, h1, h2⟩
  have P3 := Lib.hid h1
  have T3 := Lib.hid (T2.out.trans h2)
  clear h1 h2
  go_wp2_with fail
  refine (Y _ P3.out).out.mono ?_
  rintro e w1 ⟨rfl, h1, h2⟩
  have H1 := Lib.hid h1
  have H2 := Lib.hid (T3.out.trans h2)
  have HW : Hid (w.heap.size < w1.heap.size) := Lib.hid (by have := H2.out.size; simp at this; omega)
  clear h1 h2
  have CR1 := CR w1 (HI.out.step H2.out H1.out)
  go_wp2_with fail
  refine CR1.out.mono ?_
  rintro e w2 ⟨x, r', rfl, hx1, hx2, hx3, hx4, hx5⟩
  have HX1 := Lib.hid hx1
  have HX2 := Lib.hid hx2
  have HX3 := Lib.hid hx3
  have HX4 := Lib.hid hx4
  have HX5 := Lib.hid hx5
  rw [exV_eq]
  have hr1 := res_keep HG.out H2.out
  have hr2 := (hx5.block _ (lt_of_heap hr1) (by have := HG.out; simp; omega)).trans hr1
  have HB3 := Lib.hid (ball_new w2 #[.int .i64 x.op, .int .i64 x.n, .string x.s, .string x.q, .slice x.a x.x.length x.c] 36)
  have HN3 := Lib.hid (new_at w2 #[.int .i64 x.op, .int .i64 x.n, .string x.s, .string x.q, .slice x.a x.x.length x.c] 36)
  have HR3 := Lib.hid ((HB3.out.block _ (lt_of_heap hr2)).trans hr2)
  have CM := Lib.hid (must_any _ g r' [41] (hx4.below HB3.out))
  have HG2 : Hid (g < w2.heap.size) := Lib.hid hx4.lt
  clear hx1 hx2 hx3 hx4 hx5 hr1 hr2
  go_wp2_with fail
  refine CM.out.mono ?_
  rintro e w4 ⟨rfl, h1, h2⟩
  have G1 := Lib.hid h1
  have G2 := Lib.hid h2
  have HR4 := Lib.hid ((h2.block _ (lt_of_heap HR3.out) (by have := HG.out; simp; omega)).trans HR3.out)
  have hn4 := (h2.block _ (lt_of_heap HN3.out) (by have := HG2.out; simp; omega)).trans HN3.out
  obtain ⟨q0, q1, q2, q3, q4⟩ := five_at hn4
  clear h1 h2 hn4 CM
  obtain ⟨y0, y1, y2, y3, y4⟩ := five_at HR4.out
  have f0 := free_at HR4.out 0
  have f1 := free_at HR4.out 1
  have f2 := free_at HR4.out 2
  have f3 := free_at HR4.out 3
  have f4 := free_at HR4.out 4
  go_wp2_with fail
  have HT := Lib.hid (turn5 w4 w.heap.size (.int .i64 x.op) (.int .i64 x.n) (.string x.s) (.string x.q) (.slice x.a x.x.length x.c))
  refine bodyPost_ret (results_expr rfl _ _ w.heap.size _ _ _ _ _ rfl (set5 HR4.out)) rfl ?_
  exact on_endG HW.out HLO.out HG.out HX2.out HX3.out HB.out H2.out HX5.out HB3.out G2.out G1.out HT.out (HQ _ _ HX1.out).out
end Go.Proofs.YtlhbhpdpjidpgaaGreatDoor.Prg
/- The program's unary: numbers, values. Conditions: the reader is known; what it calls does as the plain grammar says. -/
namespace Go.Proofs.YtlhbhpdpjidpgaaGreatDoor.Prg
open Go.RowKit Tre Prs
open Lex (Wd wdC wdV bs str Turn)
set_option maxRecDepth 100000
set_option linter.unusedSimpArgs false
variable {lo : Nat}
set_option maxHeartbeats 4000000 in
theorem unary_num (w : World) (g : Nat) (r : PS) (h : InG lo w g r) (n0 : isW r [45] = false) (n1 : isW r [33] = false) (n2 : isW r [116, 114, 117, 101] = false) (n3 : isW r [102, 97, 108, 115, 101] = false) (n4 : isW r [40] = false) (hk : ((peek r).k == 2) = true) :
    Calls Tryz.prog 54 #[.pointer (some ⟨g, 0, none⟩)] w (EvG lo w g (tell .unary r)) := by
  have HQ := Lib.hid (ag_num n0 n1 n2 n3 n4 hk)
  have hb := ball_new w #[.int .i64 0, .int .i64 0, .string ⟨#[]⟩, .string ⟨#[]⟩, .slice none 0 0] 36
  have HG := Lib.hid h.rd.lt
  have HB := Lib.hid hb
  have HLO := Lib.hid h.rd.wlo
  have HI := Lib.hid (h.below hb)
  have N0 := fun w' (h' : RdG lo w' g r) => Lib.hid (has_no w' g r [45] h' n0)
  have N1 := fun w' (h' : RdG lo w' g r) => Lib.hid (has_no w' g r [33] h' n1)
  have N2 := fun w' (h' : RdG lo w' g r) => Lib.hid (has_no w' g r [116, 114, 117, 101] h' n2)
  have N3 := fun w' (h' : RdG lo w' g r) => Lib.hid (has_no w' g r [102, 97, 108, 115, 101] h' n3)
  have N4 := fun w' (h' : RdG lo w' g r) => Lib.hid (has_no w' g r [40] h' n4)
  clear h hb n0 n1 n2 n3 n4
  have CP := fun w' (h' : RdG lo w' g r) => Lib.hid (next_any w' g r h')
  obtain ⟨x, hx⟩ : ∃ x, peek r = x := ⟨_, rfl⟩
  rw [hx] at hk CP
  clear hx
  simp only [wdV_eq] at CP
  have HFK := fun w' => field_k (.int .i64 x.k) (.string (bs x.s)) (.int .i64 x.n) w'
  go_enter Tryz.func54, Tryz.ntmps54
  go_wp2_with fail
  refine (N0 _ HI.out.rd).out.mono ?_
  rintro e v0 ⟨rfl, h1, h2⟩
  have P0 := Lib.hid h1
  have T0 := Lib.hid (h2)
  clear h1 h2
  go_wp2_with fail
  refine (N1 _ P0.out).out.mono ?_
  rintro e v1 ⟨rfl, h1, h2⟩
  have P1 := Lib.hid h1
  have T1 := Lib.hid (T0.out.trans h2)
  clear h1 h2
  go_wp2_with fail
  refine (N2 _ P1.out).out.mono ?_
  rintro e v2 ⟨rfl, h1, h2⟩
  have P2 := Lib.hid h1
  have T2 := Lib.hid (T1.out.trans h2)
  clear h1 h2
  go_wp2_with fail
  refine (N3 _ P2.out).out.mono ?_
  rintro e v3 ⟨rfl, h1, h2⟩
  have P3 := Lib.hid h1
  have T3 := Lib.hid (T2.out.trans h2)
  clear h1 h2
  go_wp2_with fail
  refine (N4 _ P3.out).out.mono ?_
  rintro e v4 ⟨rfl, h1, h2⟩
  have P4 := Lib.hid h1
  have T4 := Lib.hid (T3.out.trans h2)
  clear h1 h2
  go_wp2_with fail
  refine (CP _ P4.out).out.mono ?_
  rintro e w1 ⟨rfl, hb1⟩
  have HB1 := Lib.hid hb1
  have HQ1 := Lib.hid (P4.out.below hb1)
  have HT1 := Lib.hid (T4.out.below hb1)
  clear hb1
  have HBK := Lib.hid (ball_new w1 #[.int .i64 2] 3)
  have CT := Lib.hid (take_any _ g w1.heap.size r [2] (HQ1.out.below HBK.out) (by decide) (by decide) (by have := HQ1.out.lt; omega) ⟨_, new_at w1 _ _⟩)
  have HT1b := Lib.hid (HT1.out.below HBK.out)
  obtain ⟨y, hy⟩ : ∃ y, takeW r [2] = y := ⟨_, rfl⟩
  rw [hy] at CT HQ
  rw [wdV_eq] at CT
  have HFN := fun w' => field_n (.int .i64 y.k) (.string (bs y.s)) (.int .i64 y.n) w'
  clear hy
  go_wp2_with fail
  refine CT.out.mono ?_
  rintro e w2 ⟨rfl, h1, h2⟩
  have H1 := Lib.hid h1
  have HT2 := Lib.hid (HT1b.out.trans h2)
  clear h1 h2
  have HR2 := Lib.hid (res_keep HG.out HT2.out)
  obtain ⟨y0, y1, y2, y3, y4⟩ := five_at HR2.out
  have f0 := free_at HR2.out 0
  have f1 := free_at HR2.out 1
  have f2 := free_at HR2.out 2
  have f3 := free_at HR2.out 3
  have f4 := free_at HR2.out 4
  go_wp2_with fail
  have HT := Lib.hid (turn5 w2 w.heap.size (.int .i64 1) (.int .i64 y.n) (.string ⟨#[]⟩) (.string ⟨#[]⟩) (.slice none 0 0))
  refine bodyPost_ret (results_expr rfl _ _ w.heap.size _ _ _ _ _ rfl (set5 HR2.out)) rfl ?_
  exact leaf_endG HLO.out (by show (⟨#[]⟩ : ByteArray).size ≤ maxLen; unfold maxLen; simp [ByteArray.size]) H1.out HB.out HT2.out HT.out HQ.out
set_option maxHeartbeats 4000000 in
theorem unary_val (w : World) (g : Nat) (r : PS) (h : InG lo w g r) (n0 : isW r [45] = false) (n1 : isW r [33] = false) (n2 : isW r [116, 114, 117, 101] = false) (n3 : isW r [102, 97, 108, 115, 101] = false) (n4 : isW r [40] = false) (hk : ((peek r).k == 2) = false) (CV : ∀ w', InG lo w' g r → Hid (Calls Tryz.prog 90 #[.pointer (some ⟨g, 0, none⟩)] w' (EvG lo w' g (tell .unary r)))) :
    Calls Tryz.prog 54 #[.pointer (some ⟨g, 0, none⟩)] w (EvG lo w g (tell .unary r)) := by
  have HQ := CV
  have hb := ball_new w #[.int .i64 0, .int .i64 0, .string ⟨#[]⟩, .string ⟨#[]⟩, .slice none 0 0] 36
  have HG := Lib.hid h.rd.lt
  have HB := Lib.hid hb
  have HLO := Lib.hid h.rd.wlo
  have HI := Lib.hid (h.below hb)
  have N0 := fun w' (h' : RdG lo w' g r) => Lib.hid (has_no w' g r [45] h' n0)
  have N1 := fun w' (h' : RdG lo w' g r) => Lib.hid (has_no w' g r [33] h' n1)
  have N2 := fun w' (h' : RdG lo w' g r) => Lib.hid (has_no w' g r [116, 114, 117, 101] h' n2)
  have N3 := fun w' (h' : RdG lo w' g r) => Lib.hid (has_no w' g r [102, 97, 108, 115, 101] h' n3)
  have N4 := fun w' (h' : RdG lo w' g r) => Lib.hid (has_no w' g r [40] h' n4)
  clear h hb n0 n1 n2 n3 n4
  have CP := fun w' (h' : RdG lo w' g r) => Lib.hid (next_any w' g r h')
  obtain ⟨x, hx⟩ : ∃ x, peek r = x := ⟨_, rfl⟩
  rw [hx] at hk CP
  clear hx
  simp only [wdV_eq] at CP
  have HFK := fun w' => field_k (.int .i64 x.k) (.string (bs x.s)) (.int .i64 x.n) w'
  go_enter Tryz.func54, Tryz.ntmps54
  go_wp2_with fail
  refine (N0 _ HI.out.rd).out.mono ?_
  rintro e v0 ⟨rfl, h1, h2⟩
  have P0 := Lib.hid h1
  have T0 := Lib.hid (h2)
  clear h1 h2
  go_wp2_with fail
  refine (N1 _ P0.out).out.mono ?_
  rintro e v1 ⟨rfl, h1, h2⟩
  have P1 := Lib.hid h1
  have T1 := Lib.hid (T0.out.trans h2)
  clear h1 h2
  go_wp2_with fail
  refine (N2 _ P1.out).out.mono ?_
  rintro e v2 ⟨rfl, h1, h2⟩
  have P2 := Lib.hid h1
  have T2 := Lib.hid (T1.out.trans h2)
  clear h1 h2
  go_wp2_with fail
  refine (N3 _ P2.out).out.mono ?_
  rintro e v3 ⟨rfl, h1, h2⟩
  have P3 := Lib.hid h1
  have T3 := Lib.hid (T2.out.trans h2)
  clear h1 h2
  go_wp2_with fail
  refine (N4 _ P3.out).out.mono ?_
  rintro e v4 ⟨rfl, h1, h2⟩
  have P4 := Lib.hid h1
  have T4 := Lib.hid (T3.out.trans h2)
  clear h1 h2
  go_wp2_with fail
  refine (CP _ P4.out).out.mono ?_
  rintro e w1 ⟨rfl, hb1⟩
  have HB1 := Lib.hid hb1
  have HQ1 := Lib.hid (P4.out.below hb1)
  have HT1 := Lib.hid (T4.out.below hb1)
  clear hb1
  have C1 := HQ _ (HI.out.step HT1.out HQ1.out)
  go_wp2_with fail
  refine C1.out.mono ?_
  rintro e w5 ⟨x, r', rfl, hx1, hx2, hx3, hx4, hx5⟩
  have HX1 := Lib.hid hx1
  have HX2 := Lib.hid hx2
  have HX3 := Lib.hid hx3
  have HX4 := Lib.hid hx4
  have HX5 := Lib.hid hx5
  rw [exV_eq]
  have hr1 := res_keep HG.out HT1.out
  have HR5 := Lib.hid ((hx5.block _ (lt_of_heap hr1) (by have := HG.out; simp; omega)).trans hr1)
  clear hx1 hx2 hx3 hx4 hx5 hr1
  obtain ⟨y0, y1, y2, y3, y4⟩ := five_at HR5.out
  have f0 := free_at HR5.out 0
  have f1 := free_at HR5.out 1
  have f2 := free_at HR5.out 2
  have f3 := free_at HR5.out 3
  have f4 := free_at HR5.out 4
  go_wp2_with fail
  have HT := Lib.hid (turn5 w5 w.heap.size (.int .i64 x.op) (.int .i64 x.n) (.string x.s) (.string x.q) (.slice x.a x.x.length x.c))
  refine bodyPost_ret (results_expr rfl _ _ w.heap.size _ _ _ _ _ rfl (set5 HR5.out)) rfl ?_
  exact pass_endG (by have := HT1.out.size; simp at this; omega) HLO.out HX2.out HX3.out HB.out HT1.out HX5.out HX4.out HT.out HX1.out
end Go.Proofs.YtlhbhpdpjidpgaaGreatDoor.Prg
/- Rows of the call's own, of any element: what they read as; one more element behind the others. Conditions: sizes. -/
namespace Go.Proofs.YtlhbhpdpjidpgaaGreatDoor.Prs
open Go.RowKit Tre
open Lex (Wd wdC wdV bs str Turn info_of plain_add)
set_option maxRecDepth 100000
set_option linter.unusedSimpArgs false
variable {lo : Nat} {α : Type} {k : Nat} {C : α → List Value} {T : TypeId}
/-- A row of the call's own, from block lo on. -/
def OwnG (k : Nat) (C : α → List Value) (T : TypeId) (w : World) (lo : Nat) (v : Value) (l : List α) : Prop := w.ownsRow lo T k v l.length (l.flatMap C)
theorem OwnG.nil (w : World) (lo : Nat) : OwnG k C T w lo (.slice none 0 0) [] := World.ownsRow_nil _ _ _ _
theorem OwnG.form {w : World} {v : Value} {l : List α} (h : OwnG k C T w lo v l) : ∃ A c, v = .slice A l.length c ∧ l.length ≤ c ∧ ∀ ad, A = some ad → ∃ b, ad = ⟨b, 0, none⟩ := by
  rcases h.2 with ⟨e1, e2⟩ | ⟨g, cap, cur, e, _, _, hc, _⟩
  · exact ⟨none, 0, by rw [e1, e2], by omega, fun ad e => by cases e⟩
  · exact ⟨_, cap, e, hc, fun ad e => by injection e with e; exact ⟨g, e.symm⟩⟩
theorem flat_get (hC : ∀ x, (C x).length = k) : ∀ (l : List α) (p r : Nat), r < k → (l.flatMap C)[p * k + r]? = (l[p]?).bind fun x => (C x)[r]?
  | [], p, r, _ => by simp
  | x :: l, 0, r, hr => by
    rw [List.flatMap_cons, List.getElem?_append_left (by rw [hC]; omega)]
    simp
  | x :: l, p + 1, r, hr => by
    rw [List.flatMap_cons, List.getElem?_append_right (by rw [hC, Nat.add_mul]; omega), hC, show (p + 1) * k + r - k = p * k + r by rw [Nat.add_mul]; omega, flat_get hC l p r hr]
    simp
theorem OwnG.row (hC : ∀ x, (C x).length = k) {w : World} {A : Option Addr} {n c : Nat} {l : List α} (h : OwnG k C T w lo (.slice A n c) l) : Row k C w A l := fun h0 => by
  obtain ⟨g, cap, hv, _, hlt⟩ := World.ownsRow.form h h0
  injection hv with e1 e2 e3
  subst e1
  have hc := World.ownsRow.cells h (g := g) rfl
  refine ⟨g, 0, rfl, hlt, fun j x hx r u hu => ?_⟩
  have hr : r < k := by have := (List.getElem?_eq_some_iff.1 hu).1; rwa [hC] at this
  have := hc (j * k + r) u (by rw [flat_get hC l j r hr, hx]; exact hu)
  rw [plain_add] at this
  rwa [Nat.add_assoc]
theorem OwnG.keep {w w' : World} {v : Value} {l : List α} (h : OwnG k C T w lo v l) (hb : ∀ g, v.ownBlock = some g → w'.heap[g]? = w.heap[g]?) : OwnG k C T w' lo v l := by
  refine ⟨h.1, ?_⟩
  rcases h.2 with h2 | ⟨g, cap, cur, e, hlo, hh, r⟩
  · exact .inl h2
  · exact .inr ⟨g, cap, cur, e, hlo, (hb g (by rw [e]; rfl)).trans hh, r⟩
theorem OwnG.lt {w : World} {v : Value} {l : List α} (h : OwnG k C T w lo v l) : ∀ b, v.ownBlock = some b → lo ≤ b ∧ b < w.heap.size := World.ownsRow.lt h
/-- One more behind a row. -/
theorem OwnG.app {P : Program} {L : TypeId} {i : TypeInfo} {z : Value} {bytes : Nat} (hL : P.underlying L = some (.slice T)) (hi : P.info? T = some i) (hz : i.zero = some z) (hk : i.size = k) (hby : i.bytes = bytes) (hzs : z.cells.size = k) (h0 : 0 < k)
    (hC : ∀ x, (C x).length = k) (h1 : ∀ x, ∀ u ∈ C x, u.oneCell' = true) (w : World) (v : Value) (l : List α) (x : α) (eb : Nat) (h : OwnG k C T w lo v l) (he : w.heap[eb]? = some (.cells (C x).toArray T (0, 0))) (hl : l.length ≤ 1000000) (hb : bytes ≤ 10000) (hlo : lo ≤ w.heap.size) :
    ∃ v2 w2, (∀ ty, (Builtin.append_ #[L, L] ty #[v, .slice (some ⟨eb, 0, none⟩) 1 1]).run P w = .ok v2 w2) ∧ OwnG k C T w2 lo v2 (l ++ [x]) ∧ w.grownBy w2 v.ownBlock ∧ (v2.ownBlock = v.ownBlock ∨ v2.ownBlock = some w.heap.size) := by
  have hm : (l.length + 1) * bytes ≤ 1000001 * 10000 := Nat.mul_le_mul (by omega) hb
  obtain ⟨v2, w2, hrun, r1, r2, _, r4⟩ := run_append_own_at (P := P) (w := w) lo L T T i z k bytes hL hi hz hk hby hzs h0 v l.length (l.flatMap C) h ⟨eb, 0, none⟩ 1 1 (C x) (by rw [hC]; omega) (fun j u hu => by
    rw [plain_add, Nat.zero_add, cell_at he]
    simpa using hu) (h1 x) (by unfold maxLen; omega) (by omega) hlo
  exact ⟨v2, w2, fun _ => hrun, by unfold OwnG; rw [List.flatMap_append, List.length_append]; simpa using r1, r2, r4⟩
end Go.Proofs.YtlhbhpdpjidpgaaGreatDoor.Prs
