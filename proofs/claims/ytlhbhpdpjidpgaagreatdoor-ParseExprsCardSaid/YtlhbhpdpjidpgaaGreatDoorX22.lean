/-
  The document's stmt: some of its ways. Conditions: the reader is known; what it calls does as the plain grammar says.
-/
import Derived.Test.YtlhbhpdpjidpgaaGreatDoorX21
namespace Go.Proofs.YtlhbhpdpjidpgaaGreatDoor.Prs
open Go.RowKit Tre
open Lex (Wd wdC wdV bs str Turn info_of)
set_option maxRecDepth 100000
set_option linter.unusedSimpArgs false
variable {lo : Nat}
theorem res_keep9 {w w1 : World} {g : Nat} {cs : Array Value} {T : TypeId} (hg : g < w.heap.size) (h2 : Turn [g] (w.alloc (.cells cs T)) w1) : w1.heap[w.heap.size]? = some (.cells cs T (0, 0)) := res_keep hg h2
theorem stleaf_in (w : World) (op : Int) : StIn w (.mk op ⟨#[]⟩ (.mk 0 0 ⟨#[]⟩ ⟨#[]⟩ none 0 []) none 0 [] none 0 []) :=
  StIn.mk ⟨leaf_in w 0 0 ⟨#[]⟩ (by unfold maxLen; simp [ByteArray.size]), Row.nil _ _ _ _, Row.nil _ _ _ _, by simp [St.b, most], by simp [St.b2, most], by show (⟨#[]⟩ : ByteArray).size ≤ maxLen; unfold maxLen; simp [ByteArray.size]⟩ (fun x hx => by rcases hx with hx | hx <;> simp [St.b, St.b2] at hx)
theorem stleaf_new (b : Nat) (op : Int) : NewS b (.mk op ⟨#[]⟩ (.mk 0 0 ⟨#[]⟩ ⟨#[]⟩ none 0 []) none 0 [] none 0 []) := fun y hy => by
  rw [flatS_eq] at hy
  obtain rfl : y = .mk op ⟨#[]⟩ (.mk 0 0 ⟨#[]⟩ ⟨#[]⟩ none 0 []) none 0 [] none 0 [] := by simpa [flatB, St.b, St.b2] using hy
  exact ⟨leaf_new b 0 0 ⟨#[]⟩, fun ad e => (by cases e), fun ad e => (by cases e)⟩
theorem stleaf_end {w w1 w4 : World} {g : Nat} {op : Int} {r : PS} {cs : Array Value} {T : TypeId} (hlo : lo ≤ w.heap.size) (hr : RdM lo w1 g r) (hb : Below w.heap.size w (w.alloc (.cells cs T))) (h2 : Turn [g] (w.alloc (.cells cs T)) w1) (ht : Turn [w.heap.size] w1 w4) :
    EvT lo w g (one1 (.mk op [] nilT [] []) r) (.returned (.agg #[.int .i64 op, .string ⟨#[]⟩, .int .i64 0, .int .i64 0, .string ⟨#[]⟩, .string ⟨#[]⟩, .slice none 0 0, .slice none 0 0, .slice none 0 0])) w4 :=
  ⟨_, rfl, .mk op ⟨#[]⟩ (.mk 0 0 ⟨#[]⟩ ⟨#[]⟩ none 0 []) none 0 [] none 0 [], rfl, by rw [coreS_eq]; show Ts.mk op _ (core (.mk 0 0 ⟨#[]⟩ ⟨#[]⟩ none 0 [])) _ _ = _; rw [core_eq]; rfl, stleaf_in _ _, stleaf_new _ _, hr.but ht hlo, (((Turn.refl [g] w).below hb).then_ h2 (fun k hk => .inl hk)).then_ ht (fun k hk => by simp at hk; subst hk; exact .inr (Nat.le_refl _))⟩
set_option maxHeartbeats 4000000 in
theorem stmt_break (w : World) (g : Nat) (r : PS) (h : RdM lo w g r) (n0 : isW r [105, 102] = false) (n1 : isW r [102, 111, 114] = false) (n2 : isW r [114, 101, 116, 117, 114, 110] = false) (n3 : isW r [112, 114, 105, 110, 116] = false) (hi : isW r [98, 114, 101, 97, 107] = true) :
    Calls Tryz.prog 88 #[.pointer (some ⟨g, 0, none⟩)] w (EvT lo w g (one1 (.mk 8 [] nilT [] []) (tl r))) := by
  have hb := ball_new w #[.int .i64 0, .string ⟨#[]⟩, .int .i64 0, .int .i64 0, .string ⟨#[]⟩, .string ⟨#[]⟩, .slice none 0 0, .slice none 0 0, .slice none 0 0] 47
  have HG := Lib.hid h.lt
  have HB := Lib.hid hb
  have HLO := Lib.hid h.wlo
  have H0 := Lib.hid (h.below hb)
  have N0 := fun w' (h' : RdM lo w' g r) => Lib.hid (skip_no w' g r [105, 102] h' n0)
  have N1 := fun w' (h' : RdM lo w' g r) => Lib.hid (skip_no w' g r [102, 111, 114] h' n1)
  have N2 := fun w' (h' : RdM lo w' g r) => Lib.hid (skip_no w' g r [114, 101, 116, 117, 114, 110] h' n2)
  have N3 := fun w' (h' : RdM lo w' g r) => Lib.hid (skip_no w' g r [112, 114, 105, 110, 116] h' n3)
  have Y := fun w' (h' : RdM lo w' g r) => Lib.hid (skip_yes w' g r [98, 114, 101, 97, 107] h' hi)
  clear h hb n0 n1 n2 n3 hi
  go_enter Tryz.func88, Tryz.ntmps88
  go_wp2_with fail
  refine (N0 _ H0.out).out.mono ?_
  rintro e v0 ⟨rfl, h1, h2⟩
  have P0 := Lib.hid h1
  have T0 := Lib.hid (h2)
  clear h1 h2
  go_wp2_with fail
  refine (N1 _ P0.out).out.mono ?_
  rintro e v1 ⟨rfl, h1, h2⟩
  have P1 := Lib.hid h1
  have T1 := Lib.hid (T0.out.trans h2)
  clear h1 h2
  go_wp2_with fail
  refine (N2 _ P1.out).out.mono ?_
  rintro e v2 ⟨rfl, h1, h2⟩
  have P2 := Lib.hid h1
  have T2 := Lib.hid (T1.out.trans h2)
  clear h1 h2
  go_wp2_with fail
  refine (N3 _ P2.out).out.mono ?_
  rintro e v3 ⟨rfl, h1, h2⟩
  have P3 := Lib.hid h1
  have T3 := Lib.hid (T2.out.trans h2)
  clear h1 h2
  go_wp2_with fail
  refine (Y _ P3.out).out.mono ?_
  rintro e w1 ⟨rfl, h1, h2⟩
  have H1 := Lib.hid h1
  have H2 := Lib.hid (T3.out.trans h2)
  have HW : Hid (w.heap.size < w1.heap.size) := Lib.hid (by have := H2.out.size; simp at this; omega)
  clear h1 h2
  have HR1 := Lib.hid (res_keep9 HG.out H2.out)
  obtain ⟨y0, y1, y2, y3, y4, y5, y6, y7, y8⟩ := nine_at HR1.out
  have f0 := free_at HR1.out 0
  have f1 := free_at HR1.out 1
  have f2 := free_at HR1.out 2
  have f3 := free_at HR1.out 3
  have f4 := free_at HR1.out 4
  have f5 := free_at HR1.out 5
  have f6 := free_at HR1.out 6
  have f7 := free_at HR1.out 7
  have f8 := free_at HR1.out 8
  go_wp2_with fail
  have HT := Lib.hid (turn9 w1 w.heap.size (.int .i64 8) (.string ⟨#[]⟩) (.int .i64 0) (.int .i64 0) (.string ⟨#[]⟩) (.string ⟨#[]⟩) (.slice none 0 0) (.slice none 0 0) (.slice none 0 0))
  refine bodyPost_ret (results_stmt rfl _ _ w.heap.size _ _ _ _ _ _ _ _ _ rfl (set9 HR1.out)) rfl ?_
  exact stleaf_end HLO.out H1.out HB.out H2.out HT.out
set_option maxHeartbeats 4000000 in
theorem stmt_next (w : World) (g : Nat) (r : PS) (h : RdM lo w g r) (n0 : isW r [105, 102] = false) (n1 : isW r [102, 111, 114] = false) (n2 : isW r [114, 101, 116, 117, 114, 110] = false) (n3 : isW r [112, 114, 105, 110, 116] = false) (n4 : isW r [98, 114, 101, 97, 107] = false) (hi : isW r [99, 111, 110, 116, 105, 110, 117, 101] = true) :
    Calls Tryz.prog 88 #[.pointer (some ⟨g, 0, none⟩)] w (EvT lo w g (one1 (.mk 9 [] nilT [] []) (tl r))) := by
  have hb := ball_new w #[.int .i64 0, .string ⟨#[]⟩, .int .i64 0, .int .i64 0, .string ⟨#[]⟩, .string ⟨#[]⟩, .slice none 0 0, .slice none 0 0, .slice none 0 0] 47
  have HG := Lib.hid h.lt
  have HB := Lib.hid hb
  have HLO := Lib.hid h.wlo
  have H0 := Lib.hid (h.below hb)
  have N0 := fun w' (h' : RdM lo w' g r) => Lib.hid (skip_no w' g r [105, 102] h' n0)
  have N1 := fun w' (h' : RdM lo w' g r) => Lib.hid (skip_no w' g r [102, 111, 114] h' n1)
  have N2 := fun w' (h' : RdM lo w' g r) => Lib.hid (skip_no w' g r [114, 101, 116, 117, 114, 110] h' n2)
  have N3 := fun w' (h' : RdM lo w' g r) => Lib.hid (skip_no w' g r [112, 114, 105, 110, 116] h' n3)
  have N4 := fun w' (h' : RdM lo w' g r) => Lib.hid (skip_no w' g r [98, 114, 101, 97, 107] h' n4)
  have Y := fun w' (h' : RdM lo w' g r) => Lib.hid (skip_yes w' g r [99, 111, 110, 116, 105, 110, 117, 101] h' hi)
  clear h hb n0 n1 n2 n3 n4 hi
  go_enter Tryz.func88, Tryz.ntmps88
  go_wp2_with fail
  refine (N0 _ H0.out).out.mono ?_
  rintro e v0 ⟨rfl, h1, h2⟩
  have P0 := Lib.hid h1
  have T0 := Lib.hid (h2)
  clear h1 h2
  go_wp2_with fail
  refine (N1 _ P0.out).out.mono ?_
  rintro e v1 ⟨rfl, h1, h2⟩
  have P1 := Lib.hid h1
  have T1 := Lib.hid (T0.out.trans h2)
  clear h1 h2
  go_wp2_with fail
  refine (N2 _ P1.out).out.mono ?_
  rintro e v2 ⟨rfl, h1, h2⟩
  have P2 := Lib.hid h1
  have T2 := Lib.hid (T1.out.trans h2)
  clear h1 h2
  go_wp2_with fail
  refine (N3 _ P2.out).out.mono ?_
  rintro e v3 ⟨rfl, h1, h2⟩
  have P3 := Lib.hid h1
  have T3 := Lib.hid (T2.out.trans h2)
  clear h1 h2
  go_wp2_with fail
  refine (N4 _ P3.out).out.mono ?_
  rintro e v4 ⟨rfl, h1, h2⟩
  have P4 := Lib.hid h1
  have T4 := Lib.hid (T3.out.trans h2)
  clear h1 h2
  go_wp2_with fail
  refine (Y _ P4.out).out.mono ?_
  rintro e w1 ⟨rfl, h1, h2⟩
  have H1 := Lib.hid h1
  have H2 := Lib.hid (T4.out.trans h2)
  have HW : Hid (w.heap.size < w1.heap.size) := Lib.hid (by have := H2.out.size; simp at this; omega)
  clear h1 h2
  have HR1 := Lib.hid (res_keep9 HG.out H2.out)
  obtain ⟨y0, y1, y2, y3, y4, y5, y6, y7, y8⟩ := nine_at HR1.out
  have f0 := free_at HR1.out 0
  have f1 := free_at HR1.out 1
  have f2 := free_at HR1.out 2
  have f3 := free_at HR1.out 3
  have f4 := free_at HR1.out 4
  have f5 := free_at HR1.out 5
  have f6 := free_at HR1.out 6
  have f7 := free_at HR1.out 7
  have f8 := free_at HR1.out 8
  go_wp2_with fail
  have HT := Lib.hid (turn9 w1 w.heap.size (.int .i64 9) (.string ⟨#[]⟩) (.int .i64 0) (.int .i64 0) (.string ⟨#[]⟩) (.string ⟨#[]⟩) (.slice none 0 0) (.slice none 0 0) (.slice none 0 0))
  refine bodyPost_ret (results_stmt rfl _ _ w.heap.size _ _ _ _ _ _ _ _ _ rfl (set9 HR1.out)) rfl ?_
  exact stleaf_end HLO.out H1.out HB.out H2.out HT.out
theorem stpass {w w1 w2 w5 : World} {g : Nat} {y : St} {t : Ts} {p : List Ts × PS} {cs : Array Value} {T : TypeId} (hw : w.heap.size < w1.heap.size) (hlo : lo ≤ w.heap.size) (hp : p.1 = [t]) (hy1 : coreS y = t) (hy2 : StIn w2 y) (hy3 : NewS w1.heap.size y) (hb : Below w.heap.size w (w.alloc (.cells cs T))) (h2 : Turn [g] (w.alloc (.cells cs T)) w1) (hy5 : Turn [g] w1 w2) (hr : RdM lo w2 g p.2) (ht : Turn [w.heap.size] w2 w5) :
    EvT lo w g p (.returned (stV y)) w5 := by
  refine ⟨t, hp, y, rfl, hy1, StIn.off hy2 (NewS.off hy3 (fun k hk => by simp at hk; omega)) ht, hy3.mono (by omega), hr.but ht hlo, ?_⟩
  exact ((((Turn.refl [g] w).below hb).then_ h2 (fun k hk => .inl hk)).trans hy5).then_ ht (fun k hk => by simp at hk; subst hk; exact .inr (Nat.le_refl _))
set_option maxHeartbeats 4000000 in
theorem stmt_if (w : World) (g : Nat) (r : PS) (h : RdM lo w g r) (hi : isW r [105, 102] = true) (p : List Ts × PS) (CW : ∀ w', RdM lo w' g (tl r) → Hid (Calls Tryz.prog 126 #[.pointer (some ⟨g, 0, none⟩)] w' (EvT lo w' g p))) :
    Calls Tryz.prog 88 #[.pointer (some ⟨g, 0, none⟩)] w (EvT lo w g p) := by
  have hb := ball_new w #[.int .i64 0, .string ⟨#[]⟩, .int .i64 0, .int .i64 0, .string ⟨#[]⟩, .string ⟨#[]⟩, .slice none 0 0, .slice none 0 0, .slice none 0 0] 47
  have HG := Lib.hid h.lt
  have HB := Lib.hid hb
  have HLO := Lib.hid h.wlo
  have H0 := Lib.hid (h.below hb)
  have Y := fun w' (h' : RdM lo w' g r) => Lib.hid (skip_yes w' g r [105, 102] h' hi)
  clear h hb hi
  go_enter Tryz.func88, Tryz.ntmps88
  go_wp2_with fail
  refine (Y _ H0.out).out.mono ?_
  rintro e w1 ⟨rfl, h1, h2⟩
  have H1 := Lib.hid h1
  have H2 := Lib.hid (h2)
  have HW : Hid (w.heap.size < w1.heap.size) := Lib.hid (by have := H2.out.size; simp at this; omega)
  clear h1 h2
  have CW1 := CW _ H1.out
  clear CW
  go_wp2_with fail
  refine CW1.out.mono ?_
  rintro e w2 ⟨t, ht, y, rfl, hy1, hy2, hy3, hy4, hy5⟩
  have HE : Hid (∀ w5, Turn [w.heap.size] w2 w5 → EvT lo w g p (.returned (stV y)) w5) := Lib.hid (fun w5 ht5 => stpass HW.out HLO.out ht hy1 hy2 hy3 HB.out H2.out hy5 hy4 ht5)
  have HR2 := Lib.hid (res_keep9 HG.out (H2.out.trans hy5))
  clear ht hy1 hy2 hy3 hy4 hy5 CW1
  obtain ⟨so, ss, ⟨eo, en, es, eq, ea, ec, ex⟩, ya, yc, yb, ya2, yc2, yb2⟩ := y
  unfold stV at HE
  unfold stV
  obtain ⟨y0, y1, y2, y3, y4, y5, y6, y7, y8⟩ := nine_at HR2.out
  have f0 := free_at HR2.out 0
  have f1 := free_at HR2.out 1
  have f2 := free_at HR2.out 2
  have f3 := free_at HR2.out 3
  have f4 := free_at HR2.out 4
  have f5 := free_at HR2.out 5
  have f6 := free_at HR2.out 6
  have f7 := free_at HR2.out 7
  have f8 := free_at HR2.out 8
  go_wp2_with fail
  have HT := Lib.hid (turn9 w2 w.heap.size (.int .i64 so) (.string ss) (.int .i64 eo) (.int .i64 en) (.string es) (.string eq) (.slice ea ex.length ec) (.slice ya yb.length yc) (.slice ya2 yb2.length yc2))
  refine bodyPost_ret (results_stmt rfl _ _ w.heap.size _ _ _ _ _ _ _ _ _ rfl (set9 HR2.out)) rfl ?_
  exact HE.out _ HT.out
theorem stexp {w w1 w2 w5 : World} {g : Nat} {x : Ex} {p : Tx × PS} {op : Int} {S : ByteArray} {ss : List UInt8} {cs : Array Value} {T : TypeId} (hw : w.heap.size < w1.heap.size) (hlo : lo ≤ w.heap.size) (hx1 : core x = p.1) (hx2 : ExIn w2 x) (hx3 : New w1.heap.size x) (hs : S.size ≤ maxLen) (hd : S.data.toList = ss) (hb : Below w.heap.size w (w.alloc (.cells cs T))) (h2 : Turn [g] (w.alloc (.cells cs T)) w1) (hx5 : Turn [g] w1 w2) (hr : RdM lo w2 g p.2) (ht : Turn [w.heap.size] w2 w5) :
    EvT lo w g (one1 (.mk op ss p.1 [] []) p.2) (.returned (.agg #[.int .i64 op, .string S, .int .i64 x.op, .int .i64 x.n, .string x.s, .string x.q, .slice x.a x.x.length x.c, .slice none 0 0, .slice none 0 0])) w5 := by
  have e5 : ExIn w5 x := ExIn.turn hx2 (b := w1.heap.size) (g := w.heap.size) hx3 hw ht
  refine ⟨_, rfl, .mk op S x none 0 [] none 0 [], ?_, ?_, StIn.mk ⟨e5, Row.nil _ _ _ _, Row.nil _ _ _ _, by simp [St.b, most], by simp [St.b2, most], hs⟩ (fun y hy => by rcases hy with hy | hy <;> simp [St.b, St.b2] at hy), fun y hy => ?_, hr.but ht hlo, ((((Turn.refl [g] w).below hb).then_ h2 (fun k hk => .inl hk)).trans hx5).then_ ht (fun k hk => by simp at hk; subst hk; exact .inr (Nat.le_refl _))⟩
  · obtain ⟨o, n, s, q, a, c, xs⟩ := x
    rfl
  · rw [coreS_eq]
    show Ts.mk op S.data.toList (core x) _ _ = _
    rw [hd, hx1]
    rfl
  · rw [flatS_eq] at hy
    obtain rfl : y = .mk op S x none 0 [] none 0 [] := by simpa [flatB, St.b, St.b2] using hy
    exact ⟨hx3.mono (by omega), fun ad e => (by cases e), fun ad e => (by cases e)⟩
set_option maxHeartbeats 4000000 in
theorem stmt_def (w : World) (g : Nat) (r : PS) (h : RdM lo w g r) (n0 : isW r [105, 102] = false) (n1 : isW r [102, 111, 114] = false) (n2 : isW r [114, 101, 116, 117, 114, 110] = false) (n3 : isW r [112, 114, 105, 110, 116] = false) (n4 : isW r [98, 114, 101, 97, 107] = false) (n5 : isW r [99, 111, 110, 116, 105, 110, 117, 101] = false) (i1 : isW (wordR r 1 false) [58, 61] = true) :
    Calls Tryz.prog 88 #[.pointer (some ⟨g, 0, none⟩)] w (EvT lo w g (one1 (.mk 1 (wordS r 1 false) (tell (.row 0) (tl (wordR r 1 false))).1 [] []) (tell (.row 0) (tl (wordR r 1 false))).2)) := by
  have HSS := Lib.hid (wordS_size h 1 false)
  have HSC : Hid ((bs (wordS r 1 false)).data.toList = wordS r 1 false) := Lib.hid (Lex.bs_data _)
  have HSL := Lib.hid (wordS_len h 1 false)
  have C1 := fun w' (h' : RdM lo w' g (wordR r 1 false)) => Lib.hid (skip_yes w' g (wordR r 1 false) [58, 61] h' i1)
  clear i1
  have CX := fun w' (h' : RdM lo w' g (tl (wordR r 1 false))) => Lib.hid (expr_any w' g (tl (wordR r 1 false)) h')
  obtain ⟨p, hp⟩ : ∃ p, tell (.row 0) (tl (wordR r 1 false)) = p := ⟨_, rfl⟩
  rw [hp] at CX ⊢
  clear hp HSL
  have hb := ball_new w #[.int .i64 0, .string ⟨#[]⟩, .int .i64 0, .int .i64 0, .string ⟨#[]⟩, .string ⟨#[]⟩, .slice none 0 0, .slice none 0 0, .slice none 0 0] 47
  have HG := Lib.hid h.lt
  have HB := Lib.hid hb
  have HLO := Lib.hid h.wlo
  have H0 := Lib.hid (h.below hb)
  have N0 := fun w' (h' : RdM lo w' g r) => Lib.hid (skip_no w' g r [105, 102] h' n0)
  have N1 := fun w' (h' : RdM lo w' g r) => Lib.hid (skip_no w' g r [102, 111, 114] h' n1)
  have N2 := fun w' (h' : RdM lo w' g r) => Lib.hid (skip_no w' g r [114, 101, 116, 117, 114, 110] h' n2)
  have N3 := fun w' (h' : RdM lo w' g r) => Lib.hid (skip_no w' g r [112, 114, 105, 110, 116] h' n3)
  have N4 := fun w' (h' : RdM lo w' g r) => Lib.hid (skip_no w' g r [98, 114, 101, 97, 107] h' n4)
  have N5 := fun w' (h' : RdM lo w' g r) => Lib.hid (skip_no w' g r [99, 111, 110, 116, 105, 110, 117, 101] h' n5)
  clear h hb n0 n1 n2 n3 n4 n5
  go_enter Tryz.func88, Tryz.ntmps88
  go_wp2_with fail
  refine (N0 _ H0.out).out.mono ?_
  rintro e v0 ⟨rfl, h1, h2⟩
  have P0 := Lib.hid h1
  have T0 := Lib.hid (h2)
  clear h1 h2
  go_wp2_with fail
  refine (N1 _ P0.out).out.mono ?_
  rintro e v1 ⟨rfl, h1, h2⟩
  have P1 := Lib.hid h1
  have T1 := Lib.hid (T0.out.trans h2)
  clear h1 h2
  go_wp2_with fail
  refine (N2 _ P1.out).out.mono ?_
  rintro e v2 ⟨rfl, h1, h2⟩
  have P2 := Lib.hid h1
  have T2 := Lib.hid (T1.out.trans h2)
  clear h1 h2
  go_wp2_with fail
  refine (N3 _ P2.out).out.mono ?_
  rintro e v3 ⟨rfl, h1, h2⟩
  have P3 := Lib.hid h1
  have T3 := Lib.hid (T2.out.trans h2)
  clear h1 h2
  go_wp2_with fail
  refine (N4 _ P3.out).out.mono ?_
  rintro e v4 ⟨rfl, h1, h2⟩
  have P4 := Lib.hid h1
  have T4 := Lib.hid (T3.out.trans h2)
  clear h1 h2
  go_wp2_with fail
  refine (N5 _ P4.out).out.mono ?_
  rintro e v5 ⟨rfl, h1, h2⟩
  have P5 := Lib.hid h1
  have T5 := Lib.hid (T4.out.trans h2)
  clear h1 h2
  have CWD := Lib.hid (word_any _ g r 1 false (by decide) P5.out)
  generalize bs (wordS r 1 false) = S at *
  generalize wordS r 1 false = ss at *
  go_wp2_with fail
  refine CWD.out.mono ?_
  rintro e v6 ⟨rfl, h1, h2⟩
  have P6 := Lib.hid h1
  have T6 := Lib.hid (T5.out.trans h2)
  clear h1 h2 CWD
  go_wp2_with fail
  refine (C1 _ P6.out).out.mono ?_
  rintro e v7 ⟨rfl, h1, h2⟩
  have P7 := Lib.hid h1
  have T7 := Lib.hid (T6.out.trans h2)
  clear h1 h2 C1
  have CX1 := CX _ P7.out
  have HW : Hid (w.heap.size < v7.heap.size) := Lib.hid (by have := T7.out.size; simp at this; omega)
  clear CX
  go_wp2_with fail
  refine CX1.out.mono ?_
  rintro e w2 ⟨x, rfl, hx1, hx2, hx3, hx4, hx5⟩
  rw [exV_eq]
  have HE : Hid (∀ w5, Turn [w.heap.size] w2 w5 → EvT lo w g (one1 (.mk 1 ss p.1 [] []) p.2) (.returned (.agg #[.int .i64 1, .string S, .int .i64 x.op, .int .i64 x.n, .string x.s, .string x.q, .slice x.a x.x.length x.c, .slice none 0 0, .slice none 0 0])) w5) := Lib.hid (fun w5 ht5 => stexp HW.out HLO.out hx1 hx2 hx3 HSS.out HSC.out HB.out T7.out hx5 hx4 ht5)
  have HR2 := Lib.hid (res_keep9 HG.out (T7.out.trans hx5))
  clear hx1 hx2 hx3 hx4 hx5 CX1
  obtain ⟨y0, y1, y2, y3, y4, y5, y6, y7, y8⟩ := nine_at HR2.out
  have f0 := free_at HR2.out 0
  have f1 := free_at HR2.out 1
  have f2 := free_at HR2.out 2
  have f3 := free_at HR2.out 3
  have f4 := free_at HR2.out 4
  have f5 := free_at HR2.out 5
  have f6 := free_at HR2.out 6
  have f7 := free_at HR2.out 7
  have f8 := free_at HR2.out 8
  go_wp2_with fail
  have HT := Lib.hid (turn9 w2 w.heap.size (.int .i64 1) (.string S) (.int .i64 x.op) (.int .i64 x.n) (.string x.s) (.string x.q) (.slice x.a x.x.length x.c) (.slice none 0 0) (.slice none 0 0))
  refine bodyPost_ret (results_stmt rfl _ _ w.heap.size _ _ _ _ _ _ _ _ _ rfl (set9 HR2.out)) rfl ?_
  exact HE.out _ HT.out
set_option maxHeartbeats 4000000 in
theorem stmt_set (w : World) (g : Nat) (r : PS) (h : RdM lo w g r) (n0 : isW r [105, 102] = false) (n1 : isW r [102, 111, 114] = false) (n2 : isW r [114, 101, 116, 117, 114, 110] = false) (n3 : isW r [112, 114, 105, 110, 116] = false) (n4 : isW r [98, 114, 101, 97, 107] = false) (n5 : isW r [99, 111, 110, 116, 105, 110, 117, 101] = false) (i1 : isW (wordR r 1 false) [58, 61] = false) (i2 : isW (wordR r 1 false) [61] = true) :
    Calls Tryz.prog 88 #[.pointer (some ⟨g, 0, none⟩)] w (EvT lo w g (one1 (.mk 2 (wordS r 1 false) (tell (.row 0) (tl (wordR r 1 false))).1 [] []) (tell (.row 0) (tl (wordR r 1 false))).2)) := by
  have HSS := Lib.hid (wordS_size h 1 false)
  have HSC : Hid ((bs (wordS r 1 false)).data.toList = wordS r 1 false) := Lib.hid (Lex.bs_data _)
  have HSL := Lib.hid (wordS_len h 1 false)
  have C1 := fun w' (h' : RdM lo w' g (wordR r 1 false)) => Lib.hid (skip_no w' g (wordR r 1 false) [58, 61] h' i1)
  have C2 := fun w' (h' : RdM lo w' g (wordR r 1 false)) => Lib.hid (skip_yes w' g (wordR r 1 false) [61] h' i2)
  clear i1 i2
  have CX := fun w' (h' : RdM lo w' g (tl (wordR r 1 false))) => Lib.hid (expr_any w' g (tl (wordR r 1 false)) h')
  obtain ⟨p, hp⟩ : ∃ p, tell (.row 0) (tl (wordR r 1 false)) = p := ⟨_, rfl⟩
  rw [hp] at CX ⊢
  clear hp HSL
  have hb := ball_new w #[.int .i64 0, .string ⟨#[]⟩, .int .i64 0, .int .i64 0, .string ⟨#[]⟩, .string ⟨#[]⟩, .slice none 0 0, .slice none 0 0, .slice none 0 0] 47
  have HG := Lib.hid h.lt
  have HB := Lib.hid hb
  have HLO := Lib.hid h.wlo
  have H0 := Lib.hid (h.below hb)
  have N0 := fun w' (h' : RdM lo w' g r) => Lib.hid (skip_no w' g r [105, 102] h' n0)
  have N1 := fun w' (h' : RdM lo w' g r) => Lib.hid (skip_no w' g r [102, 111, 114] h' n1)
  have N2 := fun w' (h' : RdM lo w' g r) => Lib.hid (skip_no w' g r [114, 101, 116, 117, 114, 110] h' n2)
  have N3 := fun w' (h' : RdM lo w' g r) => Lib.hid (skip_no w' g r [112, 114, 105, 110, 116] h' n3)
  have N4 := fun w' (h' : RdM lo w' g r) => Lib.hid (skip_no w' g r [98, 114, 101, 97, 107] h' n4)
  have N5 := fun w' (h' : RdM lo w' g r) => Lib.hid (skip_no w' g r [99, 111, 110, 116, 105, 110, 117, 101] h' n5)
  clear h hb n0 n1 n2 n3 n4 n5
  go_enter Tryz.func88, Tryz.ntmps88
  go_wp2_with fail
  refine (N0 _ H0.out).out.mono ?_
  rintro e v0 ⟨rfl, h1, h2⟩
  have P0 := Lib.hid h1
  have T0 := Lib.hid (h2)
  clear h1 h2
  go_wp2_with fail
  refine (N1 _ P0.out).out.mono ?_
  rintro e v1 ⟨rfl, h1, h2⟩
  have P1 := Lib.hid h1
  have T1 := Lib.hid (T0.out.trans h2)
  clear h1 h2
  go_wp2_with fail
  refine (N2 _ P1.out).out.mono ?_
  rintro e v2 ⟨rfl, h1, h2⟩
  have P2 := Lib.hid h1
  have T2 := Lib.hid (T1.out.trans h2)
  clear h1 h2
  go_wp2_with fail
  refine (N3 _ P2.out).out.mono ?_
  rintro e v3 ⟨rfl, h1, h2⟩
  have P3 := Lib.hid h1
  have T3 := Lib.hid (T2.out.trans h2)
  clear h1 h2
  go_wp2_with fail
  refine (N4 _ P3.out).out.mono ?_
  rintro e v4 ⟨rfl, h1, h2⟩
  have P4 := Lib.hid h1
  have T4 := Lib.hid (T3.out.trans h2)
  clear h1 h2
  go_wp2_with fail
  refine (N5 _ P4.out).out.mono ?_
  rintro e v5 ⟨rfl, h1, h2⟩
  have P5 := Lib.hid h1
  have T5 := Lib.hid (T4.out.trans h2)
  clear h1 h2
  have CWD := Lib.hid (word_any _ g r 1 false (by decide) P5.out)
  generalize bs (wordS r 1 false) = S at *
  generalize wordS r 1 false = ss at *
  go_wp2_with fail
  refine CWD.out.mono ?_
  rintro e v6 ⟨rfl, h1, h2⟩
  have P6 := Lib.hid h1
  have T6 := Lib.hid (T5.out.trans h2)
  clear h1 h2 CWD
  go_wp2_with fail
  refine (C1 _ P6.out).out.mono ?_
  rintro e v7 ⟨rfl, h1, h2⟩
  have P7 := Lib.hid h1
  have T7 := Lib.hid (T6.out.trans h2)
  clear h1 h2 C1
  go_wp2_with fail
  refine (C2 _ P7.out).out.mono ?_
  rintro e v8 ⟨rfl, h1, h2⟩
  have P8 := Lib.hid h1
  have T8 := Lib.hid (T7.out.trans h2)
  clear h1 h2 C2
  have CX1 := CX _ P8.out
  have HW : Hid (w.heap.size < v8.heap.size) := Lib.hid (by have := T8.out.size; simp at this; omega)
  clear CX
  go_wp2_with fail
  refine CX1.out.mono ?_
  rintro e w2 ⟨x, rfl, hx1, hx2, hx3, hx4, hx5⟩
  rw [exV_eq]
  have HE : Hid (∀ w5, Turn [w.heap.size] w2 w5 → EvT lo w g (one1 (.mk 2 ss p.1 [] []) p.2) (.returned (.agg #[.int .i64 2, .string S, .int .i64 x.op, .int .i64 x.n, .string x.s, .string x.q, .slice x.a x.x.length x.c, .slice none 0 0, .slice none 0 0])) w5) := Lib.hid (fun w5 ht5 => stexp HW.out HLO.out hx1 hx2 hx3 HSS.out HSC.out HB.out T8.out hx5 hx4 ht5)
  have HR2 := Lib.hid (res_keep9 HG.out (T8.out.trans hx5))
  clear hx1 hx2 hx3 hx4 hx5 CX1
  obtain ⟨y0, y1, y2, y3, y4, y5, y6, y7, y8⟩ := nine_at HR2.out
  have f0 := free_at HR2.out 0
  have f1 := free_at HR2.out 1
  have f2 := free_at HR2.out 2
  have f3 := free_at HR2.out 3
  have f4 := free_at HR2.out 4
  have f5 := free_at HR2.out 5
  have f6 := free_at HR2.out 6
  have f7 := free_at HR2.out 7
  have f8 := free_at HR2.out 8
  go_wp2_with fail
  have HT := Lib.hid (turn9 w2 w.heap.size (.int .i64 2) (.string S) (.int .i64 x.op) (.int .i64 x.n) (.string x.s) (.string x.q) (.slice x.a x.x.length x.c) (.slice none 0 0) (.slice none 0 0))
  refine bodyPost_ret (results_stmt rfl _ _ w.heap.size _ _ _ _ _ _ _ _ _ rfl (set9 HR2.out)) rfl ?_
  exact HE.out _ HT.out
set_option maxHeartbeats 4000000 in
theorem stmt_call (w : World) (g : Nat) (r : PS) (h : RdM lo w g r) (n0 : isW r [105, 102] = false) (n1 : isW r [102, 111, 114] = false) (n2 : isW r [114, 101, 116, 117, 114, 110] = false) (n3 : isW r [112, 114, 105, 110, 116] = false) (n4 : isW r [98, 114, 101, 97, 107] = false) (n5 : isW r [99, 111, 110, 116, 105, 110, 117, 101] = false) (i1 : isW (wordR r 1 false) [58, 61] = false) (i2 : isW (wordR r 1 false) [61] = false) :
    Calls Tryz.prog 88 #[.pointer (some ⟨g, 0, none⟩)] w (EvT lo w g (one1 (.mk 7 [] (tell (.call (wordS r 1 false)) (wordR r 1 false)).1 [] []) (tell (.call (wordS r 1 false)) (wordR r 1 false)).2)) := by
  have HSS := Lib.hid (wordS_size h 1 false)
  have HSC : Hid ((bs (wordS r 1 false)).data.toList = wordS r 1 false) := Lib.hid (Lex.bs_data _)
  have HSL := Lib.hid (wordS_len h 1 false)
  have C1 := fun w' (h' : RdM lo w' g (wordR r 1 false)) => Lib.hid (skip_no w' g (wordR r 1 false) [58, 61] h' i1)
  have C2 := fun w' (h' : RdM lo w' g (wordR r 1 false)) => Lib.hid (skip_no w' g (wordR r 1 false) [61] h' i2)
  clear i1 i2
  have CX := fun w' (h' : RdM lo w' g (wordR r 1 false)) => Lib.hid (call_any w' g (wordS r 1 false) (wordR r 1 false) h' HSL.out)
  obtain ⟨p, hp⟩ : ∃ p, tell (.call (wordS r 1 false)) (wordR r 1 false) = p := ⟨_, rfl⟩
  rw [hp] at CX ⊢
  clear hp HSL
  have hb := ball_new w #[.int .i64 0, .string ⟨#[]⟩, .int .i64 0, .int .i64 0, .string ⟨#[]⟩, .string ⟨#[]⟩, .slice none 0 0, .slice none 0 0, .slice none 0 0] 47
  have HG := Lib.hid h.lt
  have HB := Lib.hid hb
  have HLO := Lib.hid h.wlo
  have H0 := Lib.hid (h.below hb)
  have N0 := fun w' (h' : RdM lo w' g r) => Lib.hid (skip_no w' g r [105, 102] h' n0)
  have N1 := fun w' (h' : RdM lo w' g r) => Lib.hid (skip_no w' g r [102, 111, 114] h' n1)
  have N2 := fun w' (h' : RdM lo w' g r) => Lib.hid (skip_no w' g r [114, 101, 116, 117, 114, 110] h' n2)
  have N3 := fun w' (h' : RdM lo w' g r) => Lib.hid (skip_no w' g r [112, 114, 105, 110, 116] h' n3)
  have N4 := fun w' (h' : RdM lo w' g r) => Lib.hid (skip_no w' g r [98, 114, 101, 97, 107] h' n4)
  have N5 := fun w' (h' : RdM lo w' g r) => Lib.hid (skip_no w' g r [99, 111, 110, 116, 105, 110, 117, 101] h' n5)
  clear h hb n0 n1 n2 n3 n4 n5
  go_enter Tryz.func88, Tryz.ntmps88
  go_wp2_with fail
  refine (N0 _ H0.out).out.mono ?_
  rintro e v0 ⟨rfl, h1, h2⟩
  have P0 := Lib.hid h1
  have T0 := Lib.hid (h2)
  clear h1 h2
  go_wp2_with fail
  refine (N1 _ P0.out).out.mono ?_
  rintro e v1 ⟨rfl, h1, h2⟩
  have P1 := Lib.hid h1
  have T1 := Lib.hid (T0.out.trans h2)
  clear h1 h2
  go_wp2_with fail
  refine (N2 _ P1.out).out.mono ?_
  rintro e v2 ⟨rfl, h1, h2⟩
  have P2 := Lib.hid h1
  have T2 := Lib.hid (T1.out.trans h2)
  clear h1 h2
  go_wp2_with fail
  refine (N3 _ P2.out).out.mono ?_
  rintro e v3 ⟨rfl, h1, h2⟩
  have P3 := Lib.hid h1
  have T3 := Lib.hid (T2.out.trans h2)
  clear h1 h2
  go_wp2_with fail
  refine (N4 _ P3.out).out.mono ?_
  rintro e v4 ⟨rfl, h1, h2⟩
  have P4 := Lib.hid h1
  have T4 := Lib.hid (T3.out.trans h2)
  clear h1 h2
  go_wp2_with fail
  refine (N5 _ P4.out).out.mono ?_
  rintro e v5 ⟨rfl, h1, h2⟩
  have P5 := Lib.hid h1
  have T5 := Lib.hid (T4.out.trans h2)
  clear h1 h2
  have CWD := Lib.hid (word_any _ g r 1 false (by decide) P5.out)
  generalize bs (wordS r 1 false) = S at *
  generalize wordS r 1 false = ss at *
  go_wp2_with fail
  refine CWD.out.mono ?_
  rintro e v6 ⟨rfl, h1, h2⟩
  have P6 := Lib.hid h1
  have T6 := Lib.hid (T5.out.trans h2)
  clear h1 h2 CWD
  go_wp2_with fail
  refine (C1 _ P6.out).out.mono ?_
  rintro e v7 ⟨rfl, h1, h2⟩
  have P7 := Lib.hid h1
  have T7 := Lib.hid (T6.out.trans h2)
  clear h1 h2 C1
  go_wp2_with fail
  refine (C2 _ P7.out).out.mono ?_
  rintro e v8 ⟨rfl, h1, h2⟩
  have P8 := Lib.hid h1
  have T8 := Lib.hid (T7.out.trans h2)
  clear h1 h2 C2
  have CX1 := CX _ P8.out
  have HW : Hid (w.heap.size < v8.heap.size) := Lib.hid (by have := T8.out.size; simp at this; omega)
  clear CX
  go_wp2_with fail
  refine CX1.out.mono ?_
  rintro e w2 ⟨x, rfl, hx1, hx2, hx3, hx4, hx5⟩
  rw [exV_eq]
  have HE : Hid (∀ w5, Turn [w.heap.size] w2 w5 → EvT lo w g (one1 (.mk 7 [] p.1 [] []) p.2) (.returned (.agg #[.int .i64 7, .string ⟨#[]⟩, .int .i64 x.op, .int .i64 x.n, .string x.s, .string x.q, .slice x.a x.x.length x.c, .slice none 0 0, .slice none 0 0])) w5) := Lib.hid (fun w5 ht5 => stexp HW.out HLO.out hx1 hx2 hx3 (by unfold maxLen; simp [ByteArray.size]) rfl HB.out T8.out hx5 hx4 ht5)
  have HR2 := Lib.hid (res_keep9 HG.out (T8.out.trans hx5))
  clear hx1 hx2 hx3 hx4 hx5 CX1
  obtain ⟨y0, y1, y2, y3, y4, y5, y6, y7, y8⟩ := nine_at HR2.out
  have f0 := free_at HR2.out 0
  have f1 := free_at HR2.out 1
  have f2 := free_at HR2.out 2
  have f3 := free_at HR2.out 3
  have f4 := free_at HR2.out 4
  have f5 := free_at HR2.out 5
  have f6 := free_at HR2.out 6
  have f7 := free_at HR2.out 7
  have f8 := free_at HR2.out 8
  go_wp2_with fail
  have HT := Lib.hid (turn9 w2 w.heap.size (.int .i64 7) (.string ⟨#[]⟩) (.int .i64 x.op) (.int .i64 x.n) (.string x.s) (.string x.q) (.slice x.a x.x.length x.c) (.slice none 0 0) (.slice none 0 0))
  refine bodyPost_ret (results_stmt rfl _ _ w.heap.size _ _ _ _ _ _ _ _ _ rfl (set9 HR2.out)) rfl ?_
  exact HE.out _ HT.out
set_option maxHeartbeats 4000000 in
theorem stmt_print (w : World) (g : Nat) (r : PS) (h : RdM lo w g r) (n0 : isW r [105, 102] = false) (n1 : isW r [102, 111, 114] = false) (n2 : isW r [114, 101, 116, 117, 114, 110] = false) (hi : isW r [112, 114, 105, 110, 116] = true) :
    Calls Tryz.prog 88 #[.pointer (some ⟨g, 0, none⟩)] w (EvT lo w g (prtS (tl r))) := by
  have CM := fun w' (h' : RdM lo w' g (tl r)) => Lib.hid (must_any w' g (tl r) [40] h')
  have CX := fun w' (h' : RdM lo w' g (mustW (tl r) [40])) => Lib.hid (expr_any w' g (mustW (tl r) [40]) h')
  unfold prtS
  obtain ⟨p, hp⟩ : ∃ p, tell (.row 0) (mustW (tl r) [40]) = p := ⟨_, rfl⟩
  rw [hp] at CX ⊢
  clear hp
  have hb := ball_new w #[.int .i64 0, .string ⟨#[]⟩, .int .i64 0, .int .i64 0, .string ⟨#[]⟩, .string ⟨#[]⟩, .slice none 0 0, .slice none 0 0, .slice none 0 0] 47
  have HG := Lib.hid h.lt
  have HB := Lib.hid hb
  have HLO := Lib.hid h.wlo
  have H0 := Lib.hid (h.below hb)
  have N0 := fun w' (h' : RdM lo w' g r) => Lib.hid (skip_no w' g r [105, 102] h' n0)
  have N1 := fun w' (h' : RdM lo w' g r) => Lib.hid (skip_no w' g r [102, 111, 114] h' n1)
  have N2 := fun w' (h' : RdM lo w' g r) => Lib.hid (skip_no w' g r [114, 101, 116, 117, 114, 110] h' n2)
  have Y := fun w' (h' : RdM lo w' g r) => Lib.hid (skip_yes w' g r [112, 114, 105, 110, 116] h' hi)
  clear h hb n0 n1 n2 hi
  go_enter Tryz.func88, Tryz.ntmps88
  go_wp2_with fail
  refine (N0 _ H0.out).out.mono ?_
  rintro e v0 ⟨rfl, h1, h2⟩
  have P0 := Lib.hid h1
  have T0 := Lib.hid (h2)
  clear h1 h2
  go_wp2_with fail
  refine (N1 _ P0.out).out.mono ?_
  rintro e v1 ⟨rfl, h1, h2⟩
  have P1 := Lib.hid h1
  have T1 := Lib.hid (T0.out.trans h2)
  clear h1 h2
  go_wp2_with fail
  refine (N2 _ P1.out).out.mono ?_
  rintro e v2 ⟨rfl, h1, h2⟩
  have P2 := Lib.hid h1
  have T2 := Lib.hid (T1.out.trans h2)
  clear h1 h2
  go_wp2_with fail
  refine (Y _ P2.out).out.mono ?_
  rintro e w1 ⟨rfl, h1, h2⟩
  have H1 := Lib.hid h1
  have H2 := Lib.hid (T2.out.trans h2)
  have HW : Hid (w.heap.size < w1.heap.size) := Lib.hid (by have := H2.out.size; simp at this; omega)
  clear h1 h2
  have CM1 := CM _ H1.out
  clear CM
  go_wp2_with fail
  refine CM1.out.mono ?_
  rintro e v5 ⟨rfl, h1, h2⟩
  have H5 := Lib.hid (H2.out.trans h2)
  have HW5 : Hid (w.heap.size < v5.heap.size) := Lib.hid (by have := h2.size; have := HW.out; omega)
  have CX1 := CX _ h1
  clear h1 h2 CX CM1
  go_wp2_with fail
  refine CX1.out.mono ?_
  rintro e w3 ⟨x, rfl, hx1, hx2, hx3, hx4, hx5⟩
  rw [exV_eq]
  have HB4 := Lib.hid (ball_new w3 #[.int .i64 6, .string ⟨#[]⟩, .int .i64 x.op, .int .i64 x.n, .string x.s, .string x.q, .slice x.a x.x.length x.c, .slice none 0 0, .slice none 0 0] 47)
  have HN4 := Lib.hid (new_at w3 #[.int .i64 6, .string ⟨#[]⟩, .int .i64 x.op, .int .i64 x.n, .string x.s, .string x.q, .slice x.a x.x.length x.c, .slice none 0 0, .slice none 0 0] 47)
  have CM2 := Lib.hid (must_any _ g p.2 [41] (hx4.below HB4.out))
  have HX1 := Lib.hid hx1
  have HX2 := Lib.hid hx2
  have HX3 := Lib.hid hx3
  have HX5 := Lib.hid hx5
  have HG3 : Hid (g < w3.heap.size) := Lib.hid hx4.lt
  clear hx1 hx2 hx3 hx4 hx5 CX1
  go_wp2_with fail
  refine CM2.out.mono ?_
  rintro e w6 ⟨rfl, h1, h2⟩
  have HE6 : Hid (w6.heap[w3.heap.size]? = some (.cells #[.int .i64 6, .string ⟨#[]⟩, .int .i64 x.op, .int .i64 x.n, .string x.s, .string x.q, .slice x.a x.x.length x.c, .slice none 0 0, .slice none 0 0] 47 (0, 0))) := Lib.hid ((h2.block _ (lt_of_heap HN4.out) (by have := HG3.out; simp; omega)).trans HN4.out)
  have HT6 : Hid (Turn [g] v5 w6) := Lib.hid ((HX5.out.below HB4.out).trans h2)
  have HX6 : Hid (ExIn w6 x) := Lib.hid (ExIn.turn (Tre.ExIn.below HX2.out HB4.out) (b := v5.heap.size) (g := g) HX3.out (by have := HG.out; have := HW5.out; omega) h2)
  have HR2 := Lib.hid (res_keep9 HG.out (H5.out.trans HT6.out))
  have HE : Hid (∀ w7, Turn [w.heap.size] w6 w7 → EvT lo w g (one1 (.mk 6 [] p.1 [] []) (mustW p.2 [41])) (.returned (.agg #[.int .i64 6, .string ⟨#[]⟩, .int .i64 x.op, .int .i64 x.n, .string x.s, .string x.q, .slice x.a x.x.length x.c, .slice none 0 0, .slice none 0 0])) w7) := Lib.hid (fun w7 ht7 => stexp (p := (p.1, mustW p.2 [41])) HW5.out HLO.out HX1.out HX6.out HX3.out (by unfold maxLen; simp [ByteArray.size]) rfl HB.out H5.out HT6.out h1 ht7)
  clear h1 h2 CM2 HX1 HX2 HX3 HX5 HB4 HN4
  obtain ⟨x0, x1, x2, x3, x4, x5, x6, x7, x8⟩ := nine_at HE6.out
  obtain ⟨y0, y1, y2, y3, y4, y5, y6, y7, y8⟩ := nine_at HR2.out
  have f0 := free_at HR2.out 0
  have f1 := free_at HR2.out 1
  have f2 := free_at HR2.out 2
  have f3 := free_at HR2.out 3
  have f4 := free_at HR2.out 4
  have f5 := free_at HR2.out 5
  have f6 := free_at HR2.out 6
  have f7 := free_at HR2.out 7
  have f8 := free_at HR2.out 8
  go_wp2_with fail
  have HT := Lib.hid (turn9 w6 w.heap.size (.int .i64 6) (.string ⟨#[]⟩) (.int .i64 x.op) (.int .i64 x.n) (.string x.s) (.string x.q) (.slice x.a x.x.length x.c) (.slice none 0 0) (.slice none 0 0))
  refine bodyPost_ret (results_stmt rfl _ _ w.heap.size _ _ _ _ _ _ _ _ _ rfl (set9 HR2.out)) rfl ?_
  exact HE.out _ HT.out
set_option maxHeartbeats 4000000 in
theorem stmt_ret_semi (w : World) (g : Nat) (r : PS) (h : RdM lo w g r) (n0 : isW r [105, 102] = false) (n1 : isW r [102, 111, 114] = false) (hi : isW r [114, 101, 116, 117, 114, 110] = true) (i1 : isW (tl r) [59] = true) :
    Calls Tryz.prog 88 #[.pointer (some ⟨g, 0, none⟩)] w (EvT lo w g (retS (tl r))) := by
  have e0 : retS (tl r) = one1 (.mk 5 [] nilT [] []) (tl r) := by unfold retS; simp [i1]
  rw [e0]
  have I1 := fun w' (h' : RdM lo w' g (tl r)) => (by have := is_any w' g (tl r) [59] h'; rw [i1] at this; exact Lib.hid this : Hid (Calls Tryz.prog 51 #[.pointer (some ⟨g, 0, none⟩), .string (bs [59])] w' (EndsB (.bool true) w')))
  clear e0 i1
  have hb := ball_new w #[.int .i64 0, .string ⟨#[]⟩, .int .i64 0, .int .i64 0, .string ⟨#[]⟩, .string ⟨#[]⟩, .slice none 0 0, .slice none 0 0, .slice none 0 0] 47
  have HG := Lib.hid h.lt
  have HB := Lib.hid hb
  have HLO := Lib.hid h.wlo
  have H0 := Lib.hid (h.below hb)
  have N0 := fun w' (h' : RdM lo w' g r) => Lib.hid (skip_no w' g r [105, 102] h' n0)
  have N1 := fun w' (h' : RdM lo w' g r) => Lib.hid (skip_no w' g r [102, 111, 114] h' n1)
  have Y := fun w' (h' : RdM lo w' g r) => Lib.hid (skip_yes w' g r [114, 101, 116, 117, 114, 110] h' hi)
  clear h hb n0 n1 hi
  go_enter Tryz.func88, Tryz.ntmps88
  go_wp2_with fail
  refine (N0 _ H0.out).out.mono ?_
  rintro e v0 ⟨rfl, h1, h2⟩
  have P0 := Lib.hid h1
  have T0 := Lib.hid (h2)
  clear h1 h2
  go_wp2_with fail
  refine (N1 _ P0.out).out.mono ?_
  rintro e v1 ⟨rfl, h1, h2⟩
  have P1 := Lib.hid h1
  have T1 := Lib.hid (T0.out.trans h2)
  clear h1 h2
  go_wp2_with fail
  refine (Y _ P1.out).out.mono ?_
  rintro e w1 ⟨rfl, h1, h2⟩
  have H1 := Lib.hid h1
  have H2 := Lib.hid (T1.out.trans h2)
  have HW : Hid (w.heap.size < w1.heap.size) := Lib.hid (by have := H2.out.size; simp at this; omega)
  clear h1 h2
  have HB4 := Lib.hid (ball_new w1 #[.int .i64 5, .string ⟨#[]⟩, .int .i64 0, .int .i64 0, .string ⟨#[]⟩, .string ⟨#[]⟩, .slice none 0 0, .slice none 0 0, .slice none 0 0] 47)
  have HN4 := Lib.hid (new_at w1 #[.int .i64 5, .string ⟨#[]⟩, .int .i64 0, .int .i64 0, .string ⟨#[]⟩, .string ⟨#[]⟩, .slice none 0 0, .slice none 0 0, .slice none 0 0] 47)
  have H4 := Lib.hid (H1.out.below HB4.out)
  have HT4 : Hid (Turn [g] w1 (w1.alloc (.cells #[.int .i64 5, .string ⟨#[]⟩, .int .i64 0, .int .i64 0, .string ⟨#[]⟩, .string ⟨#[]⟩, .slice none 0 0, .slice none 0 0, .slice none 0 0] 47))) := Lib.hid ((Turn.refl [g] w1).below HB4.out)
  have C1 := I1 _ H4.out
  clear I1
  go_wp2_with fail
  refine C1.out.mono ?_
  rintro e w5 ⟨rfl, hb5⟩
  have HE5 : Hid (w5.heap[w1.heap.size]? = some (.cells #[.int .i64 5, .string ⟨#[]⟩, .int .i64 0, .int .i64 0, .string ⟨#[]⟩, .string ⟨#[]⟩, .slice none 0 0, .slice none 0 0, .slice none 0 0] 47 (0, 0))) := Lib.hid ((hb5.block _ (lt_of_heap HN4.out)).trans HN4.out)
  have H5 := Lib.hid (H4.out.below hb5)
  have HT5 : Hid (Turn [g] w1 w5) := Lib.hid (HT4.out.below hb5)
  clear hb5 C1 HB4 HN4 H4 HT4
  have HR2 := Lib.hid (res_keep9 HG.out (H2.out.trans HT5.out))
  obtain ⟨x0, x1, x2, x3, x4, x5, x6, x7, x8⟩ := nine_at HE5.out
  obtain ⟨y0, y1, y2, y3, y4, y5, y6, y7, y8⟩ := nine_at HR2.out
  have f0 := free_at HR2.out 0
  have f1 := free_at HR2.out 1
  have f2 := free_at HR2.out 2
  have f3 := free_at HR2.out 3
  have f4 := free_at HR2.out 4
  have f5 := free_at HR2.out 5
  have f6 := free_at HR2.out 6
  have f7 := free_at HR2.out 7
  have f8 := free_at HR2.out 8
  go_wp2_with fail
  have HT := Lib.hid (turn9 w5 w.heap.size (.int .i64 5) (.string ⟨#[]⟩) (.int .i64 0) (.int .i64 0) (.string ⟨#[]⟩) (.string ⟨#[]⟩) (.slice none 0 0) (.slice none 0 0) (.slice none 0 0))
  refine bodyPost_ret (results_stmt rfl _ _ w.heap.size _ _ _ _ _ _ _ _ _ rfl (set9 HR2.out)) rfl ?_
  exact stleaf_end HLO.out H5.out HB.out (H2.out.trans HT5.out) HT.out
set_option maxHeartbeats 4000000 in
theorem stmt_ret_brace (w : World) (g : Nat) (r : PS) (h : RdM lo w g r) (n0 : isW r [105, 102] = false) (n1 : isW r [102, 111, 114] = false) (hi : isW r [114, 101, 116, 117, 114, 110] = true) (i1 : isW (tl r) [59] = false) (i2 : isW (tl r) [125] = true) :
    Calls Tryz.prog 88 #[.pointer (some ⟨g, 0, none⟩)] w (EvT lo w g (retS (tl r))) := by
  have e0 : retS (tl r) = one1 (.mk 5 [] nilT [] []) (tl r) := by unfold retS; simp [i1, i2]
  rw [e0]
  have I1 := fun w' (h' : RdM lo w' g (tl r)) => (by have := is_any w' g (tl r) [59] h'; rw [i1] at this; exact Lib.hid this : Hid (Calls Tryz.prog 51 #[.pointer (some ⟨g, 0, none⟩), .string (bs [59])] w' (EndsB (.bool false) w')))
  have I2 := fun w' (h' : RdM lo w' g (tl r)) => (by have := is_any w' g (tl r) [125] h'; rw [i2] at this; exact Lib.hid this : Hid (Calls Tryz.prog 51 #[.pointer (some ⟨g, 0, none⟩), .string (bs [125])] w' (EndsB (.bool true) w')))
  clear e0 i1 i2
  have hb := ball_new w #[.int .i64 0, .string ⟨#[]⟩, .int .i64 0, .int .i64 0, .string ⟨#[]⟩, .string ⟨#[]⟩, .slice none 0 0, .slice none 0 0, .slice none 0 0] 47
  have HG := Lib.hid h.lt
  have HB := Lib.hid hb
  have HLO := Lib.hid h.wlo
  have H0 := Lib.hid (h.below hb)
  have N0 := fun w' (h' : RdM lo w' g r) => Lib.hid (skip_no w' g r [105, 102] h' n0)
  have N1 := fun w' (h' : RdM lo w' g r) => Lib.hid (skip_no w' g r [102, 111, 114] h' n1)
  have Y := fun w' (h' : RdM lo w' g r) => Lib.hid (skip_yes w' g r [114, 101, 116, 117, 114, 110] h' hi)
  clear h hb n0 n1 hi
  go_enter Tryz.func88, Tryz.ntmps88
  go_wp2_with fail
  refine (N0 _ H0.out).out.mono ?_
  rintro e v0 ⟨rfl, h1, h2⟩
  have P0 := Lib.hid h1
  have T0 := Lib.hid (h2)
  clear h1 h2
  go_wp2_with fail
  refine (N1 _ P0.out).out.mono ?_
  rintro e v1 ⟨rfl, h1, h2⟩
  have P1 := Lib.hid h1
  have T1 := Lib.hid (T0.out.trans h2)
  clear h1 h2
  go_wp2_with fail
  refine (Y _ P1.out).out.mono ?_
  rintro e w1 ⟨rfl, h1, h2⟩
  have H1 := Lib.hid h1
  have H2 := Lib.hid (T1.out.trans h2)
  have HW : Hid (w.heap.size < w1.heap.size) := Lib.hid (by have := H2.out.size; simp at this; omega)
  clear h1 h2
  have HB4 := Lib.hid (ball_new w1 #[.int .i64 5, .string ⟨#[]⟩, .int .i64 0, .int .i64 0, .string ⟨#[]⟩, .string ⟨#[]⟩, .slice none 0 0, .slice none 0 0, .slice none 0 0] 47)
  have HN4 := Lib.hid (new_at w1 #[.int .i64 5, .string ⟨#[]⟩, .int .i64 0, .int .i64 0, .string ⟨#[]⟩, .string ⟨#[]⟩, .slice none 0 0, .slice none 0 0, .slice none 0 0] 47)
  have H4 := Lib.hid (H1.out.below HB4.out)
  have HT4 : Hid (Turn [g] w1 (w1.alloc (.cells #[.int .i64 5, .string ⟨#[]⟩, .int .i64 0, .int .i64 0, .string ⟨#[]⟩, .string ⟨#[]⟩, .slice none 0 0, .slice none 0 0, .slice none 0 0] 47))) := Lib.hid ((Turn.refl [g] w1).below HB4.out)
  have C1 := I1 _ H4.out
  clear I1
  go_wp2_with fail
  refine C1.out.mono ?_
  rintro e w5 ⟨rfl, hb5⟩
  have HE5 : Hid (w5.heap[w1.heap.size]? = some (.cells #[.int .i64 5, .string ⟨#[]⟩, .int .i64 0, .int .i64 0, .string ⟨#[]⟩, .string ⟨#[]⟩, .slice none 0 0, .slice none 0 0, .slice none 0 0] 47 (0, 0))) := Lib.hid ((hb5.block _ (lt_of_heap HN4.out)).trans HN4.out)
  have H5 := Lib.hid (H4.out.below hb5)
  have HT5 : Hid (Turn [g] w1 w5) := Lib.hid (HT4.out.below hb5)
  clear hb5 C1 HB4 HN4 H4 HT4
  have C2 := I2 _ H5.out
  clear I2
  go_wp2_with fail
  refine C2.out.mono ?_
  rintro e w6 ⟨rfl, hb6⟩
  have HE6 : Hid (w6.heap[w1.heap.size]? = some (.cells #[.int .i64 5, .string ⟨#[]⟩, .int .i64 0, .int .i64 0, .string ⟨#[]⟩, .string ⟨#[]⟩, .slice none 0 0, .slice none 0 0, .slice none 0 0] 47 (0, 0))) := Lib.hid ((hb6.block _ (lt_of_heap HE5.out)).trans HE5.out)
  have H6 := Lib.hid (H5.out.below hb6)
  have HT6 : Hid (Turn [g] w1 w6) := Lib.hid (HT5.out.below hb6)
  clear hb6 C2 HE5 H5 HT5
  have HR2 := Lib.hid (res_keep9 HG.out (H2.out.trans HT6.out))
  obtain ⟨x0, x1, x2, x3, x4, x5, x6, x7, x8⟩ := nine_at HE6.out
  obtain ⟨y0, y1, y2, y3, y4, y5, y6, y7, y8⟩ := nine_at HR2.out
  have f0 := free_at HR2.out 0
  have f1 := free_at HR2.out 1
  have f2 := free_at HR2.out 2
  have f3 := free_at HR2.out 3
  have f4 := free_at HR2.out 4
  have f5 := free_at HR2.out 5
  have f6 := free_at HR2.out 6
  have f7 := free_at HR2.out 7
  have f8 := free_at HR2.out 8
  go_wp2_with fail
  have HT := Lib.hid (turn9 w6 w.heap.size (.int .i64 5) (.string ⟨#[]⟩) (.int .i64 0) (.int .i64 0) (.string ⟨#[]⟩) (.string ⟨#[]⟩) (.slice none 0 0) (.slice none 0 0) (.slice none 0 0))
  refine bodyPost_ret (results_stmt rfl _ _ w.heap.size _ _ _ _ _ _ _ _ _ rfl (set9 HR2.out)) rfl ?_
  exact stleaf_end HLO.out H6.out HB.out (H2.out.trans HT6.out) HT.out
set_option maxHeartbeats 4000000 in
theorem stmt_ret_expr (w : World) (g : Nat) (r : PS) (h : RdM lo w g r) (n0 : isW r [105, 102] = false) (n1 : isW r [102, 111, 114] = false) (hi : isW r [114, 101, 116, 117, 114, 110] = true) (i1 : isW (tl r) [59] = false) (i2 : isW (tl r) [125] = false) :
    Calls Tryz.prog 88 #[.pointer (some ⟨g, 0, none⟩)] w (EvT lo w g (retS (tl r))) := by
  have e0 : retS (tl r) = one1 (.mk 5 [] (tell (.row 0) (tl r)).1 [] []) (tell (.row 0) (tl r)).2 := by unfold retS; simp [i1, i2]
  rw [e0]
  have I1 := fun w' (h' : RdM lo w' g (tl r)) => (by have := is_any w' g (tl r) [59] h'; rw [i1] at this; exact Lib.hid this : Hid (Calls Tryz.prog 51 #[.pointer (some ⟨g, 0, none⟩), .string (bs [59])] w' (EndsB (.bool false) w')))
  have I2 := fun w' (h' : RdM lo w' g (tl r)) => (by have := is_any w' g (tl r) [125] h'; rw [i2] at this; exact Lib.hid this : Hid (Calls Tryz.prog 51 #[.pointer (some ⟨g, 0, none⟩), .string (bs [125])] w' (EndsB (.bool false) w')))
  clear e0 i1 i2
  have CX := fun w' (h' : RdM lo w' g (tl r)) => Lib.hid (expr_any w' g (tl r) h')
  obtain ⟨p, hp⟩ : ∃ p, tell (.row 0) (tl r) = p := ⟨_, rfl⟩
  rw [hp] at CX ⊢
  clear hp
  have hb := ball_new w #[.int .i64 0, .string ⟨#[]⟩, .int .i64 0, .int .i64 0, .string ⟨#[]⟩, .string ⟨#[]⟩, .slice none 0 0, .slice none 0 0, .slice none 0 0] 47
  have HG := Lib.hid h.lt
  have HB := Lib.hid hb
  have HLO := Lib.hid h.wlo
  have H0 := Lib.hid (h.below hb)
  have N0 := fun w' (h' : RdM lo w' g r) => Lib.hid (skip_no w' g r [105, 102] h' n0)
  have N1 := fun w' (h' : RdM lo w' g r) => Lib.hid (skip_no w' g r [102, 111, 114] h' n1)
  have Y := fun w' (h' : RdM lo w' g r) => Lib.hid (skip_yes w' g r [114, 101, 116, 117, 114, 110] h' hi)
  clear h hb n0 n1 hi
  go_enter Tryz.func88, Tryz.ntmps88
  go_wp2_with fail
  refine (N0 _ H0.out).out.mono ?_
  rintro e v0 ⟨rfl, h1, h2⟩
  have P0 := Lib.hid h1
  have T0 := Lib.hid (h2)
  clear h1 h2
  go_wp2_with fail
  refine (N1 _ P0.out).out.mono ?_
  rintro e v1 ⟨rfl, h1, h2⟩
  have P1 := Lib.hid h1
  have T1 := Lib.hid (T0.out.trans h2)
  clear h1 h2
  go_wp2_with fail
  refine (Y _ P1.out).out.mono ?_
  rintro e w1 ⟨rfl, h1, h2⟩
  have H1 := Lib.hid h1
  have H2 := Lib.hid (T1.out.trans h2)
  have HW : Hid (w.heap.size < w1.heap.size) := Lib.hid (by have := H2.out.size; simp at this; omega)
  clear h1 h2
  have HB4 := Lib.hid (ball_new w1 #[.int .i64 5, .string ⟨#[]⟩, .int .i64 0, .int .i64 0, .string ⟨#[]⟩, .string ⟨#[]⟩, .slice none 0 0, .slice none 0 0, .slice none 0 0] 47)
  have HN4 := Lib.hid (new_at w1 #[.int .i64 5, .string ⟨#[]⟩, .int .i64 0, .int .i64 0, .string ⟨#[]⟩, .string ⟨#[]⟩, .slice none 0 0, .slice none 0 0, .slice none 0 0] 47)
  have H4 := Lib.hid (H1.out.below HB4.out)
  have HT4 : Hid (Turn [g] w1 (w1.alloc (.cells #[.int .i64 5, .string ⟨#[]⟩, .int .i64 0, .int .i64 0, .string ⟨#[]⟩, .string ⟨#[]⟩, .slice none 0 0, .slice none 0 0, .slice none 0 0] 47))) := Lib.hid ((Turn.refl [g] w1).below HB4.out)
  have C1 := I1 _ H4.out
  clear I1
  go_wp2_with fail
  refine C1.out.mono ?_
  rintro e w5 ⟨rfl, hb5⟩
  have HE5 : Hid (w5.heap[w1.heap.size]? = some (.cells #[.int .i64 5, .string ⟨#[]⟩, .int .i64 0, .int .i64 0, .string ⟨#[]⟩, .string ⟨#[]⟩, .slice none 0 0, .slice none 0 0, .slice none 0 0] 47 (0, 0))) := Lib.hid ((hb5.block _ (lt_of_heap HN4.out)).trans HN4.out)
  have H5 := Lib.hid (H4.out.below hb5)
  have HT5 : Hid (Turn [g] w1 w5) := Lib.hid (HT4.out.below hb5)
  clear hb5 C1 HB4 HN4 H4 HT4
  have C2 := I2 _ H5.out
  clear I2
  go_wp2_with fail
  refine C2.out.mono ?_
  rintro e w6 ⟨rfl, hb6⟩
  have HE6 : Hid (w6.heap[w1.heap.size]? = some (.cells #[.int .i64 5, .string ⟨#[]⟩, .int .i64 0, .int .i64 0, .string ⟨#[]⟩, .string ⟨#[]⟩, .slice none 0 0, .slice none 0 0, .slice none 0 0] 47 (0, 0))) := Lib.hid ((hb6.block _ (lt_of_heap HE5.out)).trans HE5.out)
  have H6 := Lib.hid (H5.out.below hb6)
  have HT6 : Hid (Turn [g] w1 w6) := Lib.hid (HT5.out.below hb6)
  clear hb6 C2 HE5 H5 HT5
  have CX1 := CX _ H6.out
  have HW6 : Hid (w1.heap.size < w6.heap.size) := Lib.hid (lt_of_heap HE6.out)
  clear CX
  go_wp2_with fail
  refine CX1.out.mono ?_
  rintro e w7 ⟨x, rfl, hx1, hx2, hx3, hx4, hx5⟩
  rw [exV_eq]
  have hgw : g < w.heap.size := HG.out
  have hww : w.heap.size < w1.heap.size := HW.out
  have HE7 : Hid (w7.heap[w1.heap.size]? = some (.cells #[.int .i64 5, .string ⟨#[]⟩, .int .i64 0, .int .i64 0, .string ⟨#[]⟩, .string ⟨#[]⟩, .slice none 0 0, .slice none 0 0, .slice none 0 0] 47 (0, 0))) := Lib.hid ((hx5.block _ (lt_of_heap HE6.out) (by simp; omega)).trans HE6.out)
  have HT7 : Turn [w1.heap.size] w7 (((((w7.setCell ⟨w1.heap.size, 2, none⟩ (.int .i64 x.op)).setCell ⟨w1.heap.size, 3, none⟩ (.int .i64 x.n)).setCell ⟨w1.heap.size, 4, none⟩ (.string x.s)).setCell ⟨w1.heap.size, 5, none⟩ (.string x.q)).setCell ⟨w1.heap.size, 6, none⟩ (.slice x.a x.x.length x.c)) := (((((Turn.refl _ w7).setCell (.inl (by simp)) _).setCell (.inl (by simp)) _).setCell (.inl (by simp)) _).setCell (.inl (by simp)) _).setCell (.inl (by simp)) _
  have HT8 : Hid (Turn [g] w1 (((((w7.setCell ⟨w1.heap.size, 2, none⟩ (.int .i64 x.op)).setCell ⟨w1.heap.size, 3, none⟩ (.int .i64 x.n)).setCell ⟨w1.heap.size, 4, none⟩ (.string x.s)).setCell ⟨w1.heap.size, 5, none⟩ (.string x.q)).setCell ⟨w1.heap.size, 6, none⟩ (.slice x.a x.x.length x.c))) := Lib.hid ((HT6.out.trans hx5).then_ HT7 (fun k hk => by simp at hk; exact .inr (by omega)))
  have HR7 : Hid (w7.heap[w.heap.size]? = some (.cells #[.int .i64 0, .string ⟨#[]⟩, .int .i64 0, .int .i64 0, .string ⟨#[]⟩, .string ⟨#[]⟩, .slice none 0 0, .slice none 0 0, .slice none 0 0] 47 (0, 0))) := Lib.hid (res_keep9 HG.out (H2.out.trans (HT6.out.trans hx5)))
  have HR2 : Hid ((((((w7.setCell ⟨w1.heap.size, 2, none⟩ (.int .i64 x.op)).setCell ⟨w1.heap.size, 3, none⟩ (.int .i64 x.n)).setCell ⟨w1.heap.size, 4, none⟩ (.string x.s)).setCell ⟨w1.heap.size, 5, none⟩ (.string x.q)).setCell ⟨w1.heap.size, 6, none⟩ (.slice x.a x.x.length x.c)).heap[w.heap.size]? = some (.cells #[.int .i64 0, .string ⟨#[]⟩, .int .i64 0, .int .i64 0, .string ⟨#[]⟩, .string ⟨#[]⟩, .slice none 0 0, .slice none 0 0, .slice none 0 0] 47 (0, 0))) := Lib.hid ((HT7.block _ (lt_of_heap HR7.out) (by simp; omega)).trans HR7.out)
  have HX8 : ExIn (((((w7.setCell ⟨w1.heap.size, 2, none⟩ (.int .i64 x.op)).setCell ⟨w1.heap.size, 3, none⟩ (.int .i64 x.n)).setCell ⟨w1.heap.size, 4, none⟩ (.string x.s)).setCell ⟨w1.heap.size, 5, none⟩ (.string x.q)).setCell ⟨w1.heap.size, 6, none⟩ (.slice x.a x.x.length x.c)) x := ExIn.turn hx2 (b := w6.heap.size) (g := w1.heap.size) hx3 HW6.out HT7
  have HE : Hid (∀ w9, Turn [w.heap.size] (((((w7.setCell ⟨w1.heap.size, 2, none⟩ (.int .i64 x.op)).setCell ⟨w1.heap.size, 3, none⟩ (.int .i64 x.n)).setCell ⟨w1.heap.size, 4, none⟩ (.string x.s)).setCell ⟨w1.heap.size, 5, none⟩ (.string x.q)).setCell ⟨w1.heap.size, 6, none⟩ (.slice x.a x.x.length x.c)) w9 → EvT lo w g (one1 (.mk 5 [] p.1 [] []) p.2) (.returned (.agg #[.int .i64 5, .string ⟨#[]⟩, .int .i64 x.op, .int .i64 x.n, .string x.s, .string x.q, .slice x.a x.x.length x.c, .slice none 0 0, .slice none 0 0])) w9) := Lib.hid (fun w9 ht9 => stexp HW.out HLO.out hx1 HX8 (hx3.mono (by have := HW6.out; omega)) (by unfold maxLen; simp [ByteArray.size]) rfl HB.out H2.out HT8.out (hx4.but HT7 (by have := HLO.out; omega)) ht9)
  clear hx1 hx2 hx3 hx4 hx5 CX1 HT7 HX8
  obtain ⟨x0, x1, x2, x3, x4, x5, x6, x7, x8⟩ := nine_at HE7.out
  have e2 := free_at HE7.out 2
  have e3 := free_at HE7.out 3
  have e4 := free_at HE7.out 4
  have e5 := free_at HE7.out 5
  have e6 := free_at HE7.out 6
  obtain ⟨y0, y1, y2, y3, y4, y5, y6, y7, y8⟩ := nine_at HR7.out
  have f0 := free_at HR7.out 0
  have f1 := free_at HR7.out 1
  have f2 := free_at HR7.out 2
  have f3 := free_at HR7.out 3
  have f4 := free_at HR7.out 4
  have f5 := free_at HR7.out 5
  have f6 := free_at HR7.out 6
  have f7 := free_at HR7.out 7
  have f8 := free_at HR7.out 8
  go_wp2_with fail
  have HT := Lib.hid (turn9 (((((w7.setCell ⟨w1.heap.size, 2, none⟩ (.int .i64 x.op)).setCell ⟨w1.heap.size, 3, none⟩ (.int .i64 x.n)).setCell ⟨w1.heap.size, 4, none⟩ (.string x.s)).setCell ⟨w1.heap.size, 5, none⟩ (.string x.q)).setCell ⟨w1.heap.size, 6, none⟩ (.slice x.a x.x.length x.c)) w.heap.size (.int .i64 5) (.string ⟨#[]⟩) (.int .i64 x.op) (.int .i64 x.n) (.string x.s) (.string x.q) (.slice x.a x.x.length x.c) (.slice none 0 0) (.slice none 0 0))
  refine bodyPost_ret (results_stmt rfl _ _ w.heap.size _ _ _ _ _ _ _ _ _ rfl (set9 HR2.out)) rfl ?_
  exact HE.out _ HT.out
end Go.Proofs.YtlhbhpdpjidpgaaGreatDoor.Prs
