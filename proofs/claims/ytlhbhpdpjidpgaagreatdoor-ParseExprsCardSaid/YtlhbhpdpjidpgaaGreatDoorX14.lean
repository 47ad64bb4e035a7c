/-
  The document's unary, step by step. Conditions: the reader is known; what it calls does as the plain grammar says.
-/
import Derived.Test.YtlhbhpdpjidpgaaGreatDoorX13
namespace Go.Proofs.YtlhbhpdpjidpgaaGreatDoor.Prs
open Go.RowKit Tre
open Lex (Wd wdC wdV bs str Turn)
set_option maxRecDepth 100000
set_option linter.unusedSimpArgs false
variable {lo : Nat}
/-- All of the tree lies from block b on. -/
def New (b : Nat) (x : Ex) : Prop := ∀ y ∈ flat x, ∀ ad, y.a = some ad → b ≤ ad.block
theorem New.mono {b c : Nat} {x : Ex} (h : New b x) (hc : c ≤ b) : New c x := fun y hy ad e => Nat.le_trans hc (h y hy ad e)
theorem ExIn.turn {w w' : World} {g : Nat} {x : Ex} (h : ExIn w x) {b : Nat} (ho : New b x) (hg : g < b) (ht : Turn [g] w w') : ExIn w' x := fun y hy => by
  have hn := h y hy
  exact ⟨Row.kept hn.row ht.size (fun b' o e hlt => ht.block b' hlt (by simp; have := ho y hy _ e; simp at this; omega)), hn.len, hn.cap, hn.s, hn.q⟩
/-- What a call leaves that tells an expression. -/
def Ev (lo : Nat) (w : World) (g : Nat) (p : Tx × PS) (e : Ending) (w' : World) : Prop := ∃ x : Ex, e = .returned (exV x) ∧ core x = p.1 ∧ ExIn w' x ∧ New w.heap.size x ∧ RdM lo w' g p.2 ∧ Turn [g] w w'
theorem results_expr {fn : Func} {p : Tmp} (h : fn.results = #[.cell p 36]) (tmps : Array Value) (w : World) (g : Nat) (v0 v1 v2 v3 v4 : Value) (hv : tmps.getD p undef = .pointer (some ⟨g, 0, none⟩)) (hc : w.heap[g]? = some (.cells #[v0, v1, v2, v3, v4] 36 (0, 0))) :
    (results fn tmps).run Tryz.prog w = .ok (.agg #[v0, v1, v2, v3, v4]) w := by
  have a4 := Tryz.isAgg36
  have z4 := Tryz.sizeOf36
  obtain ⟨c0, c1, c2, c3, c4⟩ := five_at hc
  simp only [Array.getD_eq_getD_getElem?] at hv
  unfold results
  rw [h]
  go_simp
/-- A leaf: no parts. -/
theorem leaf_in (w : World) (op n : Int) (s : ByteArray) (hs : s.size ≤ maxLen) : ExIn w (.mk op n s ⟨#[]⟩ none 0 []) := fun y hy => by
  rw [flat_eq] at hy
  obtain rfl : y = .mk op n s ⟨#[]⟩ none 0 [] := by simpa [flatL, Ex.x] using hy
  exact ⟨Row.nil _ _ _ _, by simp [Ex.x, most], by simp [Ex.x], hs, by show (⟨#[]⟩ : ByteArray).size ≤ maxLen; unfold maxLen; simp [ByteArray.size]⟩
theorem leaf_new (g : Nat) (op n : Int) (s : ByteArray) : New g (.mk op n s ⟨#[]⟩ none 0 []) := fun y hy ad e => by
  rw [flat_eq] at hy
  obtain rfl : y = .mk op n s ⟨#[]⟩ none 0 [] := by simpa [flatL, Ex.x] using hy
  cases e
theorem one_in {w : World} {x : Ex} {b c : Nat} {op : Int} (hx : ExIn w x) (hb : ∀ (r : Nat) (u : Value), (exC x)[r]? = some u → w.cell? ⟨b, r, none⟩ = some u) (hlt : b < w.heap.size) (hc : 1 ≤ c) : ExIn w (.mk op 0 ⟨#[]⟩ ⟨#[]⟩ (some ⟨b, 0, none⟩) c [x]) := by
  refine ExIn.mk ⟨fun _ => ⟨b, 0, rfl, hlt, fun j y hy r u hu => ?_⟩, by simp [Ex.x, most], by simpa [Ex.x, Ex.c] using hc, ?_, ?_⟩ (fun y hy => ?_)
  · have : j = 0 ∧ x = y := by
      cases j with
      | zero => exact ⟨rfl, by simpa [Ex.x] using hy⟩
      | succ j => simp [Ex.x] at hy
    obtain ⟨rfl, rfl⟩ := this
    simpa using hb r u hu
  · show (⟨#[]⟩ : ByteArray).size ≤ maxLen; unfold maxLen; simp [ByteArray.size]
  · show (⟨#[]⟩ : ByteArray).size ≤ maxLen; unfold maxLen; simp [ByteArray.size]
  · obtain rfl : y = x := by simpa [Ex.x] using hy
    exact hx
theorem one_new {g b c : Nat} {x : Ex} {op : Int} (hx : New g x) (hb : g ≤ b) : New g (.mk op 0 ⟨#[]⟩ ⟨#[]⟩ (some ⟨b, 0, none⟩) c [x]) := fun y hy ad e => by
  rw [flat_eq] at hy
  rcases List.mem_cons.1 hy with rfl | hy
  · injection e with e
    subst e
    exact hb
  · exact hx y (by simpa [flatL, Ex.x] using hy) ad e
theorem set5 {w : World} {b : Nat} {a0 a1 a2 a3 a4 v0 v1 v2 v3 v4 : Value} {T : TypeId} (h : w.heap[b]? = some (.cells #[a0, a1, a2, a3, a4] T (0, 0))) :
    (((((w.setCell ⟨b, 0, none⟩ v0).setCell ⟨b, 1, none⟩ v1).setCell ⟨b, 2, none⟩ v2).setCell ⟨b, 3, none⟩ v3).setCell ⟨b, 4, none⟩ v4).heap[b]? = some (.cells #[v0, v1, v2, v3, v4] T (0, 0)) :=
  set_at (set_at (set_at (set_at (set_at h 0 v0) 1 v1) 2 v2) 3 v3) 4 v4
theorem turn5 (w : World) (b : Nat) (v0 v1 v2 v3 v4 : Value) : Turn [b] w (((((w.setCell ⟨b, 0, none⟩ v0).setCell ⟨b, 1, none⟩ v1).setCell ⟨b, 2, none⟩ v2).setCell ⟨b, 3, none⟩ v3).setCell ⟨b, 4, none⟩ v4) :=
  (((((Turn.refl [b] w).setCell (.inl (by simp)) v0).setCell (.inl (by simp)) v1).setCell (.inl (by simp)) v2).setCell (.inl (by simp)) v3).setCell (.inl (by simp)) v4
theorem RdM.but {w w' : World} {g b : Nat} {r : PS} (h : RdM lo w g r) (ht : Turn [b] w w') (hb : lo ≤ b) : RdM lo w' g r := by
  obtain ⟨a, c, h1, h2, h3, h4⟩ := h.at_
  have hg := h.glo
  exact ⟨⟨a, c, (ht.block g (lt_of_heap h1) (by simp; omega)).trans h1, h2, Row.kept h3 ht.size (fun b' o e hlt => ht.block b' hlt (by have := (h4 b' o e).2; simp; omega)), h4⟩, h.len, h.glo, Nat.le_trans h.wlo ht.size, h.txt⟩
/-- The end of a call that wraps one expression. -/
theorem un_end {w w1 w2 w3 w4 : World} {g op : Nat} {x : Ex} {p : Tx × PS} {cs : Array Value} {T : TypeId} {t : Tx} (hw : w.heap.size < w1.heap.size) (hlo : lo ≤ w.heap.size) (_ : core x = p.1) (hx2 : ExIn w2 x) (hx3 : New w1.heap.size x) (hx4 : RdM lo w2 g p.2)
    (hb : Below w.heap.size w (w.alloc (.cells cs T))) (h2 : Turn [g] (w.alloc (.cells cs T)) w1) (hx5 : Turn [g] w1 w2) (hb3 : Below w2.heap.size w2 w3) (hn3 : w3.heap[w2.heap.size]? = some (.cells #[.int .i64 x.op, .int .i64 x.n, .string x.s, .string x.q, .slice x.a x.x.length x.c] 36 (0, 0)))
    (ht : Turn [w.heap.size] w3 w4) (hc : core (.mk op 0 ⟨#[]⟩ ⟨#[]⟩ (some ⟨w2.heap.size, 0, none⟩) 1 [x]) = t) : Ev lo w g (t, p.2) (.returned (.agg #[.int .i64 op, .int .i64 0, .string ⟨#[]⟩, .string ⟨#[]⟩, .slice (some ⟨w2.heap.size, 0, none⟩) 1 1])) w4 := by
  have s2 := hx5.size
  have hx : ExIn w4 x := ExIn.turn (Tre.ExIn.below hx2 hb3) (b := w1.heap.size) (g := w.heap.size) hx3 hw ht
  have hrow : w4.heap[w2.heap.size]? = some (.cells #[.int .i64 x.op, .int .i64 x.n, .string x.s, .string x.q, .slice x.a x.x.length x.c] 36 (0, 0)) := (ht.block _ (lt_of_heap hn3) (by simp; omega)).trans hn3
  refine ⟨_, rfl, hc, one_in hx (fun r u hu => ?_) (lt_of_heap hrow) (Nat.le_refl _), one_new (hx3.mono (by omega)) (by omega), (hx4.below hb3).but ht hlo, ?_⟩
  · rw [cell_at hrow]
    cases x
    simpa [exC, Ex.op, Ex.n, Ex.s, Ex.q, Ex.a, Ex.x, Ex.c] using hu
  · have h1 : Turn [g] w w1 := ((Turn.refl [g] w).below hb).then_ h2 (fun k hk => .inl hk)
    exact ((h1.trans hx5).below hb3).then_ ht (fun k hk => by simp at hk; subst hk; exact .inr (Nat.le_refl _))
set_option maxHeartbeats 4000000 in
theorem unary_neg (w : World) (g : Nat) (r : PS) (h : RdM lo w g r) (hi : isW r [45] = true) (p : Tx × PS) (CU : ∀ w', RdM lo w' g (tl r) → Hid (Calls Tryz.prog 57 #[.pointer (some ⟨g, 0, none⟩)] w' (Ev lo w' g p))) :
    Calls Tryz.prog 57 #[.pointer (some ⟨g, 0, none⟩)] w (Ev lo w g (.mk 5 0 [] [] [p.1], p.2)) := by
  have hb := ball_new w #[.int .i64 0, .int .i64 0, .string ⟨#[]⟩, .string ⟨#[]⟩, .slice none 0 0] 36
  have C := Lib.hid (skip_any _ g r [45] (h.below hb))
  have HN := Lib.hid (new_at w #[.int .i64 0, .int .i64 0, .string ⟨#[]⟩, .string ⟨#[]⟩, .slice none 0 0] 36)
  have HG := Lib.hid h.lt
  have HB := Lib.hid hb
  have HLO := Lib.hid h.wlo
  unfold skipW at C
  rw [hi] at C
  have e2 : (if true = true then tl r else r) = tl r := rfl
  rw [e2] at C
  clear h hb hi
  go_enter Tryz.func57, Tryz.ntmps57
  go_wp2_with fail
  refine C.out.mono ?_
  rintro e w1 ⟨rfl, h1, h2⟩
  have H2 := Lib.hid h2
  have CU1 := CU w1 h1
  have HW : Hid (w.heap.size < w1.heap.size) := Lib.hid (by have := h2.size; simp at this; omega)
  clear h1 h2
  go_wp2_with fail
  refine CU1.out.mono ?_
  rintro e w2 ⟨x, rfl, hx1, hx2, hx3, hx4, hx5⟩
  have HX1 := Lib.hid hx1
  have HX2 := Lib.hid hx2
  have HX3 := Lib.hid hx3
  have HX4 := Lib.hid hx4
  have HX5 := Lib.hid hx5
  rw [exV_eq]
  have HW2 := Lib.hid hx5.size
  obtain ⟨W3, hW3⟩ : ∃ W3, w2.alloc (.cells #[.int .i64 x.op, .int .i64 x.n, .string x.s, .string x.q, .slice x.a x.x.length x.c] 36) = W3 := ⟨_, rfl⟩
  have hb3 : Below w2.heap.size w2 W3 := by rw [← hW3]; exact ball_new _ _ _
  have HB3 := Lib.hid hb3
  have HN3 : Hid (W3.heap[w2.heap.size]? = some (.cells #[.int .i64 x.op, .int .i64 x.n, .string x.s, .string x.q, .slice x.a x.x.length x.c] 36 (0, 0))) := Lib.hid (by rw [← hW3]; exact new_at _ _ _)
  have HR3 : Hid (W3.heap[w.heap.size]? = some (.cells #[.int .i64 0, .int .i64 0, .string ⟨#[]⟩, .string ⟨#[]⟩, .slice none 0 0] 36 (0, 0))) := Lib.hid (by
    have h0 := HN.out
    have h1 : w1.heap[w.heap.size]? = _ := (H2.out.block _ (by simp) (by have := HG.out; simp; omega)).trans h0
    have h2 : w2.heap[w.heap.size]? = _ := (hx5.block _ (lt_of_heap h1) (by have := HG.out; simp; omega)).trans h1
    exact (hb3.block _ (lt_of_heap h2)).trans h2)
  rw [← hW3] at HR3 HN3 HB3
  clear hx1 hx2 hx3 hx4 hx5 hb3 hW3
  obtain ⟨y0, y1, y2, y3, y4⟩ := five_at HR3.out
  have f0 := free_at HR3.out 0
  have f1 := free_at HR3.out 1
  have f2 := free_at HR3.out 2
  have f3 := free_at HR3.out 3
  have f4 := free_at HR3.out 4
  go_wp2_with fail
  have HT := Lib.hid (turn5 (w2.alloc (.cells #[.int .i64 x.op, .int .i64 x.n, .string x.s, .string x.q, .slice x.a x.x.length x.c] 36)) w.heap.size (.int .i64 5) (.int .i64 0) (.string ⟨#[]⟩) (.string ⟨#[]⟩) (.slice (some ⟨w2.heap.size, 0, none⟩) 1 1))
  refine bodyPost_ret (results_expr rfl _ _ w.heap.size _ _ _ _ _ rfl (set5 HR3.out)) rfl ?_
  exact un_end HW.out HLO.out HX1.out HX2.out HX3.out HX4.out HB.out H2.out HX5.out HB3.out HN3.out HT.out (by rw [core_eq, ← HX1.out]; rfl)
end Go.Proofs.YtlhbhpdpjidpgaaGreatDoor.Prs
/- The document's unary: each of its other ways. Conditions: the reader is known; what it calls does as the plain grammar says. -/
namespace Go.Proofs.YtlhbhpdpjidpgaaGreatDoor.Prs
open Go.RowKit Tre
open Lex (Wd wdC wdV bs str Turn)
set_option maxRecDepth 100000
set_option linter.unusedSimpArgs false
variable {lo : Nat}
theorem skip_no (w : World) (g : Nat) (r : PS) (s : List UInt8) (h : RdM lo w g r) (hi : isW r s = false) : Calls Tryz.prog 24 #[.pointer (some ⟨g, 0, none⟩), .string (bs s)] w (Lv lo w g (.bool false) r) := by
  have := skip_any w g r s h
  unfold skipW at this
  rwa [hi] at this
theorem skip_yes (w : World) (g : Nat) (r : PS) (s : List UInt8) (h : RdM lo w g r) (hi : isW r s = true) : Calls Tryz.prog 24 #[.pointer (some ⟨g, 0, none⟩), .string (bs s)] w (Lv lo w g (.bool true) (tl r)) := by
  have := skip_any w g r s h
  unfold skipW at this
  rwa [hi] at this
/-- The end of a call that tells a leaf. -/
theorem leaf_end {w w1 w4 : World} {g : Nat} {op n : Int} {s : ByteArray} {r : PS} {cs : Array Value} {T : TypeId} {t : Tx} (hlo : lo ≤ w.heap.size) (hs : s.size ≤ maxLen) (hr : RdM lo w1 g r) (hb : Below w.heap.size w (w.alloc (.cells cs T))) (h2 : Turn [g] (w.alloc (.cells cs T)) w1) (ht : Turn [w.heap.size] w1 w4) (hc : core (.mk op n s ⟨#[]⟩ none 0 []) = t) :
    Ev lo w g (t, r) (.returned (.agg #[.int .i64 op, .int .i64 n, .string s, .string ⟨#[]⟩, .slice none 0 0])) w4 :=
  ⟨_, rfl, hc, leaf_in _ _ _ _ hs, leaf_new _ _ _ _, hr.but ht hlo, (((Turn.refl [g] w).below hb).then_ h2 (fun k hk => .inl hk)).then_ ht (fun k hk => by simp at hk; subst hk; exact .inr (Nat.le_refl _))⟩
/-- The result's cell through calls that turn the reader alone. -/
theorem res_keep {w w1 : World} {g : Nat} {cs : Array Value} {T : TypeId} (hg : g < w.heap.size) (h2 : Turn [g] (w.alloc (.cells cs T)) w1) : w1.heap[w.heap.size]? = some (.cells cs T (0, 0)) :=
  (h2.block _ (by simp) (by simp; omega)).trans (new_at w cs T)
set_option maxHeartbeats 4000000 in
theorem unary_bang (w : World) (g : Nat) (r : PS) (h : RdM lo w g r) (n0 : isW r [45] = false) (hi : isW r [33] = true) (p : Tx × PS) (CU : ∀ w', RdM lo w' g (tl r) → Hid (Calls Tryz.prog 57 #[.pointer (some ⟨g, 0, none⟩)] w' (Ev lo w' g p))) :
    Calls Tryz.prog 57 #[.pointer (some ⟨g, 0, none⟩)] w (Ev lo w g (.mk 6 0 [] [] [p.1], p.2)) := by
  have hb := ball_new w #[.int .i64 0, .int .i64 0, .string ⟨#[]⟩, .string ⟨#[]⟩, .slice none 0 0] 36
  have HG := Lib.hid h.lt
  have HB := Lib.hid hb
  have HLO := Lib.hid h.wlo
  have H0 := Lib.hid (h.below hb)
  have N0 := fun w' (h' : RdM lo w' g r) => Lib.hid (skip_no w' g r [45] h' n0)
  have Y := fun w' (h' : RdM lo w' g r) => Lib.hid (skip_yes w' g r [33] h' hi)
  clear h hb n0 hi
  go_enter Tryz.func57, Tryz.ntmps57
  go_wp2_with fail
  refine (N0 _ H0.out).out.mono ?_
  rintro e v0 ⟨rfl, h1, h2⟩
  have P0 := Lib.hid h1
  have T0 := Lib.hid (h2)
  clear h1 h2
  go_wp2_with fail
  refine (Y _ P0.out).out.mono ?_
  rintro e w1 ⟨rfl, h1, h2⟩
  have H1 := Lib.hid h1
  have H2 := Lib.hid (T0.out.trans h2)
  have HW : Hid (w.heap.size < w1.heap.size) := Lib.hid (by have := H2.out.size; simp at this; omega)
  clear h1 h2
  have CU1 := CU w1 H1.out
  go_wp2_with fail
  refine CU1.out.mono ?_
  rintro e w2 ⟨x, rfl, hx1, hx2, hx3, hx4, hx5⟩
  have HX1 := Lib.hid hx1
  have HX2 := Lib.hid hx2
  have HX3 := Lib.hid hx3
  have HX4 := Lib.hid hx4
  have HX5 := Lib.hid hx5
  rw [exV_eq]
  have hr1 := res_keep HG.out H2.out
  have hr2 := (hx5.block _ (lt_of_heap hr1) (by have := HG.out; simp; omega)).trans hr1
  have HB3 := Lib.hid (ball_new w2 #[.int .i64 x.op, .int .i64 x.n, .string x.s, .string x.q, .slice x.a x.x.length x.c] 36)
  have HN3 := Lib.hid (new_at w2 #[.int .i64 x.op, .int .i64 x.n, .string x.s, .string x.q, .slice x.a x.x.length x.c] 36)
  have HR3 := Lib.hid ((HB3.out.block _ (lt_of_heap hr2)).trans hr2)
  clear hx1 hx2 hx3 hx4 hx5 hr1 hr2
  obtain ⟨y0, y1, y2, y3, y4⟩ := five_at HR3.out
  have f0 := free_at HR3.out 0
  have f1 := free_at HR3.out 1
  have f2 := free_at HR3.out 2
  have f3 := free_at HR3.out 3
  have f4 := free_at HR3.out 4
  go_wp2_with fail
  have HT := Lib.hid (turn5 (w2.alloc (.cells #[.int .i64 x.op, .int .i64 x.n, .string x.s, .string x.q, .slice x.a x.x.length x.c] 36)) w.heap.size (.int .i64 6) (.int .i64 0) (.string ⟨#[]⟩) (.string ⟨#[]⟩) (.slice (some ⟨w2.heap.size, 0, none⟩) 1 1))
  refine bodyPost_ret (results_expr rfl _ _ w.heap.size _ _ _ _ _ rfl (set5 HR3.out)) rfl ?_
  exact un_end HW.out HLO.out HX1.out HX2.out HX3.out HX4.out HB.out H2.out HX5.out HB3.out HN3.out HT.out (by rw [core_eq, ← HX1.out]; rfl)
set_option maxHeartbeats 4000000 in
theorem unary_true (w : World) (g : Nat) (r : PS) (h : RdM lo w g r) (n0 : isW r [45] = false) (n1 : isW r [33] = false) (hi : isW r [116, 114, 117, 101] = true) :
    Calls Tryz.prog 57 #[.pointer (some ⟨g, 0, none⟩)] w (Ev lo w g (.mk 2 1 [] [] [], tl r)) := by
  have hb := ball_new w #[.int .i64 0, .int .i64 0, .string ⟨#[]⟩, .string ⟨#[]⟩, .slice none 0 0] 36
  have HG := Lib.hid h.lt
  have HB := Lib.hid hb
  have HLO := Lib.hid h.wlo
  have H0 := Lib.hid (h.below hb)
  have N0 := fun w' (h' : RdM lo w' g r) => Lib.hid (skip_no w' g r [45] h' n0)
  have N1 := fun w' (h' : RdM lo w' g r) => Lib.hid (skip_no w' g r [33] h' n1)
  have Y := fun w' (h' : RdM lo w' g r) => Lib.hid (skip_yes w' g r [116, 114, 117, 101] h' hi)
  clear h hb n0 n1 hi
  go_enter Tryz.func57, Tryz.ntmps57
  go_wp2_with fail
  refine (N0 _ H0.out).out.mono ?_
  rintro e v0 ⟨rfl, h1, h2⟩
  have P0 := Lib.hid h1
  have T0 := Lib.hid (h2)
  clear h1 h2
  go_wp2_with fail
  refine (N1 _ P0.out).out.mono ?_
  rintro e v1 ⟨rfl, h1, h2⟩
  have P1 := Lib.hid h1
  have T1 := Lib.hid (T0.out.trans h2)
  clear h1 h2
  go_wp2_with fail
  refine (Y _ P1.out).out.mono ?_
  rintro e w1 ⟨rfl, h1, h2⟩
  have H1 := Lib.hid h1
  have H2 := Lib.hid (T1.out.trans h2)
  have HW : Hid (w.heap.size < w1.heap.size) := Lib.hid (by have := H2.out.size; simp at this; omega)
  clear h1 h2
  have HR1 := Lib.hid (res_keep HG.out H2.out)
  obtain ⟨y0, y1, y2, y3, y4⟩ := five_at HR1.out
  have f0 := free_at HR1.out 0
  have f1 := free_at HR1.out 1
  have f2 := free_at HR1.out 2
  have f3 := free_at HR1.out 3
  have f4 := free_at HR1.out 4
  go_wp2_with fail
  have HT := Lib.hid (turn5 w1 w.heap.size (.int .i64 2) (.int .i64 1) (.string ⟨#[]⟩) (.string ⟨#[]⟩) (.slice none 0 0))
  refine bodyPost_ret (results_expr rfl _ _ w.heap.size _ _ _ _ _ rfl (set5 HR1.out)) rfl ?_
  exact leaf_end HLO.out (by show (⟨#[]⟩ : ByteArray).size ≤ maxLen; unfold maxLen; simp [ByteArray.size]) H1.out HB.out H2.out HT.out (by rw [core_eq]; rfl)
set_option maxHeartbeats 4000000 in
theorem unary_false (w : World) (g : Nat) (r : PS) (h : RdM lo w g r) (n0 : isW r [45] = false) (n1 : isW r [33] = false) (n2 : isW r [116, 114, 117, 101] = false) (hi : isW r [102, 97, 108, 115, 101] = true) :
    Calls Tryz.prog 57 #[.pointer (some ⟨g, 0, none⟩)] w (Ev lo w g (.mk 2 0 [] [] [], tl r)) := by
  have hb := ball_new w #[.int .i64 0, .int .i64 0, .string ⟨#[]⟩, .string ⟨#[]⟩, .slice none 0 0] 36
  have HG := Lib.hid h.lt
  have HB := Lib.hid hb
  have HLO := Lib.hid h.wlo
  have H0 := Lib.hid (h.below hb)
  have N0 := fun w' (h' : RdM lo w' g r) => Lib.hid (skip_no w' g r [45] h' n0)
  have N1 := fun w' (h' : RdM lo w' g r) => Lib.hid (skip_no w' g r [33] h' n1)
  have N2 := fun w' (h' : RdM lo w' g r) => Lib.hid (skip_no w' g r [116, 114, 117, 101] h' n2)
  have Y := fun w' (h' : RdM lo w' g r) => Lib.hid (skip_yes w' g r [102, 97, 108, 115, 101] h' hi)
  clear h hb n0 n1 n2 hi
  go_enter Tryz.func57, Tryz.ntmps57
  go_wp2_with fail
  refine (N0 _ H0.out).out.mono ?_
  rintro e v0 ⟨rfl, h1, h2⟩
  have P0 := Lib.hid h1
  have T0 := Lib.hid (h2)
  clear h1 h2
  go_wp2_with fail
  refine (N1 _ P0.out).out.mono ?_
  rintro e v1 ⟨rfl, h1, h2⟩
  have P1 := Lib.hid h1
  have T1 := Lib.hid (T0.out.trans h2)
  clear h1 h2
  go_wp2_with fail
  refine (N2 _ P1.out).out.mono ?_
  rintro e v2 ⟨rfl, h1, h2⟩
  have P2 := Lib.hid h1
  have T2 := Lib.hid (T1.out.trans h2)
  clear h1 h2
  go_wp2_with fail
  refine (Y _ P2.out).out.mono ?_
  rintro e w1 ⟨rfl, h1, h2⟩
  have H1 := Lib.hid h1
  have H2 := Lib.hid (T2.out.trans h2)
  have HW : Hid (w.heap.size < w1.heap.size) := Lib.hid (by have := H2.out.size; simp at this; omega)
  clear h1 h2
  have HR1 := Lib.hid (res_keep HG.out H2.out)
  obtain ⟨y0, y1, y2, y3, y4⟩ := five_at HR1.out
  have f0 := free_at HR1.out 0
  have f1 := free_at HR1.out 1
  have f2 := free_at HR1.out 2
  have f3 := free_at HR1.out 3
  have f4 := free_at HR1.out 4
  go_wp2_with fail
  have HT := Lib.hid (turn5 w1 w.heap.size (.int .i64 2) (.int .i64 0) (.string ⟨#[]⟩) (.string ⟨#[]⟩) (.slice none 0 0))
  refine bodyPost_ret (results_expr rfl _ _ w.heap.size _ _ _ _ _ rfl (set5 HR1.out)) rfl ?_
  exact leaf_end HLO.out (by show (⟨#[]⟩ : ByteArray).size ≤ maxLen; unfold maxLen; simp [ByteArray.size]) H1.out HB.out H2.out HT.out (by rw [core_eq]; rfl)
end Go.Proofs.YtlhbhpdpjidpgaaGreatDoor.Prs
/- The document's unary: brackets, numbers, names, calls. Conditions: the reader is known; what it calls does as the plain grammar says. -/
namespace Go.Proofs.YtlhbhpdpjidpgaaGreatDoor.Prs
open Go.RowKit Tre
open Lex (Wd wdC wdV bs str Turn)
set_option maxRecDepth 100000
set_option linter.unusedSimpArgs false
variable {lo : Nat}
/-- The end of a call that hands an expression on. -/
theorem on_end {w w1 w2 w3 w4 w5 : World} {g : Nat} {x : Ex} {t : Tx} {q r : PS} {cs : Array Value} {T : TypeId} (hw : w.heap.size < w1.heap.size) (hlo : lo ≤ w.heap.size) (hg : g < w.heap.size) (hx1 : core x = t) (hx2 : ExIn w2 x) (hx3 : New w1.heap.size x) (hb : Below w.heap.size w (w.alloc (.cells cs T))) (h2 : Turn [g] (w.alloc (.cells cs T)) w1) (hx5 : Turn [g] w1 w2) (hb3 : Below w2.heap.size w2 w3) (h4 : Turn [g] w3 w4) (hr : RdM lo w4 g q) (ht : Turn [w.heap.size] w4 w5) (hq : q = r) :
    Ev lo w g (t, r) (.returned (.agg #[.int .i64 x.op, .int .i64 x.n, .string x.s, .string x.q, .slice x.a x.x.length x.c])) w5 := by
  subst hq
  have e3 : ExIn w4 x := ExIn.turn (Tre.ExIn.below hx2 hb3) (b := w1.heap.size) (g := g) hx3 (by omega) h4
  have e5 : ExIn w5 x := ExIn.turn e3 (b := w1.heap.size) (g := w.heap.size) hx3 hw ht
  refine ⟨x, by rw [exV_eq], hx1, e5, hx3.mono (by omega), hr.but ht hlo, ?_⟩
  have h1 : Turn [g] w w1 := ((Turn.refl [g] w).below hb).then_ h2 (fun k hk => .inl hk)
  exact ((((h1.trans hx5).below hb3).then_ h4 (fun k hk => .inl hk))).then_ ht (fun k hk => by simp at hk; subst hk; exact .inr (Nat.le_refl _))
set_option maxHeartbeats 4000000 in
theorem unary_par (w : World) (g : Nat) (r : PS) (h : RdM lo w g r) (n0 : isW r [45] = false) (n1 : isW r [33] = false) (n2 : isW r [116, 114, 117, 101] = false) (n3 : isW r [102, 97, 108, 115, 101] = false) (hi : isW r [40] = true) (p : Tx × PS) (CR : ∀ w', RdM lo w' g (tl r) → Hid (Calls Tryz.prog 32 #[.pointer (some ⟨g, 0, none⟩), .int .i64 0] w' (Ev lo w' g p))) :
    Calls Tryz.prog 57 #[.pointer (some ⟨g, 0, none⟩)] w (Ev lo w g (p.1, mustW p.2 [41])) := by
  have hb := ball_new w #[.int .i64 0, .int .i64 0, .string ⟨#[]⟩, .string ⟨#[]⟩, .slice none 0 0] 36
  have HG := Lib.hid h.lt
  have HB := Lib.hid hb
  have HLO := Lib.hid h.wlo
  have H0 := Lib.hid (h.below hb)
  have N0 := fun w' (h' : RdM lo w' g r) => Lib.hid (skip_no w' g r [45] h' n0)
  have N1 := fun w' (h' : RdM lo w' g r) => Lib.hid (skip_no w' g r [33] h' n1)
  have N2 := fun w' (h' : RdM lo w' g r) => Lib.hid (skip_no w' g r [116, 114, 117, 101] h' n2)
  have N3 := fun w' (h' : RdM lo w' g r) => Lib.hid (skip_no w' g r [102, 97, 108, 115, 101] h' n3)
  have Y := fun w' (h' : RdM lo w' g r) => Lib.hid (skip_yes w' g r [40] h' hi)
  clear h hb n0 n1 n2 n3 hi
  go_enter Tryz.func57, Tryz.ntmps57
  go_wp2_with fail
  refine (N0 _ H0.out).out.mono ?_
  rintro e v0 ⟨rfl, h1, h2⟩
  have P0 := Lib.hid h1
  have T0 := Lib.hid (h2)
  clear h1 h2
  go_wp2_with fail
  refine (N1 _ P0.out).out.mono ?_
  rintro e v1 ⟨rfl, h1, h2⟩
  have P1 := Lib.hid h1
  have T1 := Lib.hid (T0.out.trans h2)
  clear h1 h2
  go_wp2_with fail
  refine (N2 _ P1.out).out.mono ?_
  rintro e v2 ⟨rfl, h1, h2⟩
  have P2 := Lib.hid h1
  have T2 := Lib.hid (T1.out.trans h2)
  clear h1 h2
  go_wp2_with fail
  refine (N3 _ P2.out).out.mono ?_
  rintro e v3 ⟨rfl, h1, h2⟩
  have P3 := Lib.hid h1
  have T3 := Lib.hid (T2.out.trans h2)
  clear h1 h2
  go_wp2_with fail
  refine (Y _ P3.out).out.mono ?_
  rintro e w1 ⟨rfl, h1, h2⟩
  have H1 := Lib.hid h1
  have H2 := Lib.hid (T3.out.trans h2)
  have HW : Hid (w.heap.size < w1.heap.size) := Lib.hid (by have := H2.out.size; simp at this; omega)
  clear h1 h2
  have CR1 := CR w1 H1.out
  go_wp2_with fail
  refine CR1.out.mono ?_
  rintro e w2 ⟨x, rfl, hx1, hx2, hx3, hx4, hx5⟩
  have HX1 := Lib.hid hx1
  have HX2 := Lib.hid hx2
  have HX3 := Lib.hid hx3
  have HX4 := Lib.hid hx4
  have HX5 := Lib.hid hx5
  rw [exV_eq]
  have hr1 := res_keep HG.out H2.out
  have hr2 := (hx5.block _ (lt_of_heap hr1) (by have := HG.out; simp; omega)).trans hr1
  have HB3 := Lib.hid (ball_new w2 #[.int .i64 x.op, .int .i64 x.n, .string x.s, .string x.q, .slice x.a x.x.length x.c] 36)
  have HN3 := Lib.hid (new_at w2 #[.int .i64 x.op, .int .i64 x.n, .string x.s, .string x.q, .slice x.a x.x.length x.c] 36)
  have HR3 := Lib.hid ((HB3.out.block _ (lt_of_heap hr2)).trans hr2)
  have CM := Lib.hid (must_any _ g p.2 [41] (hx4.below HB3.out))
  have HG2 : Hid (g < w2.heap.size) := Lib.hid hx4.lt
  clear hx1 hx2 hx3 hx4 hx5 hr1 hr2
  go_wp2_with fail
  refine CM.out.mono ?_
  rintro e w4 ⟨rfl, h1, h2⟩
  have G1 := Lib.hid h1
  have G2 := Lib.hid h2
  have HR4 := Lib.hid ((h2.block _ (lt_of_heap HR3.out) (by have := HG.out; simp; omega)).trans HR3.out)
  have hn4 := (h2.block _ (lt_of_heap HN3.out) (by have := HG2.out; simp; omega)).trans HN3.out
  obtain ⟨q0, q1, q2, q3, q4⟩ := five_at hn4
  clear h1 h2 hn4 CM
  obtain ⟨y0, y1, y2, y3, y4⟩ := five_at HR4.out
  have f0 := free_at HR4.out 0
  have f1 := free_at HR4.out 1
  have f2 := free_at HR4.out 2
  have f3 := free_at HR4.out 3
  have f4 := free_at HR4.out 4
  go_wp2_with fail
  have HT := Lib.hid (turn5 w4 w.heap.size (.int .i64 x.op) (.int .i64 x.n) (.string x.s) (.string x.q) (.slice x.a x.x.length x.c))
  refine bodyPost_ret (results_expr rfl _ _ w.heap.size _ _ _ _ _ rfl (set5 HR4.out)) rfl ?_
  exact on_end HW.out HLO.out HG.out HX1.out HX2.out HX3.out HB.out H2.out HX5.out HB3.out G2.out G1.out HT.out rfl
set_option maxHeartbeats 4000000 in
theorem unary_num (w : World) (g : Nat) (r : PS) (h : RdM lo w g r) (n0 : isW r [45] = false) (n1 : isW r [33] = false) (n2 : isW r [116, 114, 117, 101] = false) (n3 : isW r [102, 97, 108, 115, 101] = false) (n4 : isW r [40] = false) (hk : ((peek r).k == 2) = true) :
    Calls Tryz.prog 57 #[.pointer (some ⟨g, 0, none⟩)] w (Ev lo w g (.mk 1 (peek r).n [] [] [], tl r)) := by
  have hpos : 0 < r.l.length := by
    unfold peek at hk
    by_cases hc : (r.l.length == 0 || r.bad) = true
    · rw [if_pos hc] at hk
      simp [zeroW] at hk
    · have h1 : ¬ r.l.length = 0 ∧ r.bad = false := by simpa using hc
      omega
  have HPOS := Lib.hid hpos
  clear hpos
  have hb := ball_new w #[.int .i64 0, .int .i64 0, .string ⟨#[]⟩, .string ⟨#[]⟩, .slice none 0 0] 36
  have HG := Lib.hid h.lt
  have HB := Lib.hid hb
  have HLO := Lib.hid h.wlo
  have H0 := Lib.hid (h.below hb)
  have N0 := fun w' (h' : RdM lo w' g r) => Lib.hid (skip_no w' g r [45] h' n0)
  have N1 := fun w' (h' : RdM lo w' g r) => Lib.hid (skip_no w' g r [33] h' n1)
  have N2 := fun w' (h' : RdM lo w' g r) => Lib.hid (skip_no w' g r [116, 114, 117, 101] h' n2)
  have N3 := fun w' (h' : RdM lo w' g r) => Lib.hid (skip_no w' g r [102, 97, 108, 115, 101] h' n3)
  have N4 := fun w' (h' : RdM lo w' g r) => Lib.hid (skip_no w' g r [40] h' n4)
  clear h hb n0 n1 n2 n3 n4
  have CP := fun w' (h' : RdM lo w' g r) => Lib.hid (peek_any w' g r h')
  obtain ⟨x, hx⟩ : ∃ x, peek r = x := ⟨_, rfl⟩
  have HXP := Lib.hid hx
  rw [hx] at hk CP
  clear hx
  simp only [wdV_eq] at CP
  have HBX := Lib.hid (fun w' => word_box w' x)
  have HNX := Lib.hid (fun w' => new_at w' #[.int .i64 x.k, .string (bs x.s), .int .i64 x.n] 73)
  go_enter Tryz.func57, Tryz.ntmps57
  go_wp2_with fail
  refine (N0 _ H0.out).out.mono ?_
  rintro e v0 ⟨rfl, h1, h2⟩
  have P0 := Lib.hid h1
  have T0 := Lib.hid (h2)
  clear h1 h2
  go_wp2_with fail
  refine (N1 _ P0.out).out.mono ?_
  rintro e v1 ⟨rfl, h1, h2⟩
  have P1 := Lib.hid h1
  have T1 := Lib.hid (T0.out.trans h2)
  clear h1 h2
  go_wp2_with fail
  refine (N2 _ P1.out).out.mono ?_
  rintro e v2 ⟨rfl, h1, h2⟩
  have P2 := Lib.hid h1
  have T2 := Lib.hid (T1.out.trans h2)
  clear h1 h2
  go_wp2_with fail
  refine (N3 _ P2.out).out.mono ?_
  rintro e v3 ⟨rfl, h1, h2⟩
  have P3 := Lib.hid h1
  have T3 := Lib.hid (T2.out.trans h2)
  clear h1 h2
  go_wp2_with fail
  refine (N4 _ P3.out).out.mono ?_
  rintro e v4 ⟨rfl, h1, h2⟩
  have P4 := Lib.hid h1
  have T4 := Lib.hid (T3.out.trans h2)
  clear h1 h2
  go_wp2_with fail
  refine (CP _ P4.out).out.mono ?_
  rintro e w1 ⟨rfl, hb1⟩
  have HB1 := Lib.hid hb1
  have HQ := Lib.hid ((P4.out.below hb1).below (HBX.out w1))
  have HT1 := Lib.hid ((T4.out.below hb1).below (HBX.out w1))
  clear hb1
  obtain ⟨A, c, hg, hp⟩ := HQ.out.pop HPOS.out
  have HP := Lib.hid hp
  have g0 := cell_at hg 0
  simp only [List.getElem?_toArray, List.getElem?_cons_zero] at g0
  have ff := free_at hg 0
  have CU := fun w' => cut1 w' A r.l.length c HPOS.out
  have HGS : Hid (g < w1.heap.size) := Lib.hid (by have := P4.out.lt; have := HB1.out.size; omega)
  have hn := HNX.out w1
  have x0 := cell_at hn 0
  have x2 := cell_at hn 2
  simp only [List.getElem?_toArray, List.getElem?_cons_succ, List.getElem?_cons_zero] at x0 x2
  have HR1 := Lib.hid (res_keep HG.out HT1.out)
  have HT2 := Lib.hid (HT1.out.setCell (p := ⟨g, 0, none⟩) (.inl (by simp)) (.slice (if c = 1 then A else A.map (·.add 3)) (r.l.length - 1) (c - 1)))
  have HR2 := Lib.hid (other_at HR1.out (show w.heap.size ≠ g by have := HG.out; omega) 0 (.slice (if c = 1 then A else A.map (·.add 3)) (r.l.length - 1) (c - 1)))
  have hn2 := other_at hn (show w1.heap.size ≠ g by have := HGS.out; omega) 0 (.slice (if c = 1 then A else A.map (·.add 3)) (r.l.length - 1) (c - 1))
  have x3 := cell_at hn2 2
  simp only [List.getElem?_toArray, List.getElem?_cons_succ, List.getElem?_cons_zero] at x3
  generalize (if c = 1 then A else A.map (·.add 3)) = A2 at *
  generalize r.l.length - 1 = n1 at *
  clear hp hg hn hn2
  obtain ⟨y0, y1, y2, y3, y4⟩ := five_at HR2.out
  have f0 := free_at HR2.out 0
  have f1 := free_at HR2.out 1
  have f2 := free_at HR2.out 2
  have f3 := free_at HR2.out 3
  have f4 := free_at HR2.out 4
  generalize r.l.length = n at *
  go_wp2_with fail
  have HT := Lib.hid (turn5 ((w1.alloc (.cells #[.int .i64 x.k, .string (bs x.s), .int .i64 x.n] 73)).setCell ⟨g, 0, none⟩ (.slice A2 n1 (c - 1))) w.heap.size (.int .i64 1) (.int .i64 x.n) (.string ⟨#[]⟩) (.string ⟨#[]⟩) (.slice none 0 0))
  refine bodyPost_ret (results_expr rfl _ _ w.heap.size _ _ _ _ _ rfl (set5 HR2.out)) rfl ?_
  rw [HXP.out]
  exact leaf_end HLO.out (by show (⟨#[]⟩ : ByteArray).size ≤ maxLen; unfold maxLen; simp [ByteArray.size]) HP.out HB.out HT2.out HT.out (by rw [core_eq]; rfl)
end Go.Proofs.YtlhbhpdpjidpgaaGreatDoor.Prs
/- The document's unary: names, calls. Conditions: the reader is known; what it calls does as the plain grammar says. -/
namespace Go.Proofs.YtlhbhpdpjidpgaaGreatDoor.Prs
open Go.RowKit Tre
open Lex (Wd wdC wdV bs str Turn)
set_option maxRecDepth 100000
set_option linter.unusedSimpArgs false
variable {lo : Nat}
theorem wordS_size {w : World} {g : Nat} {r : PS} (h : RdM lo w g r) (k : Int) (key : Bool) : (bs (wordS r k key)).size ≤ maxLen := by
  rw [Lex.bs_size]
  unfold wordS
  split
  · unfold maxLen; simp
  · unfold peek
    split
    · unfold maxLen; simp [zeroW]
    · cases hl : r.l with
      | nil => unfold maxLen; simp [zeroW]
      | cons x t =>
        have := h.txt x (by rw [hl]; simp)
        show x.s.length ≤ maxLen
        unfold maxLen
        omega
/-- The end of a call that hands on what another one told. -/
theorem pass_end {w w1 w2 w5 : World} {g : Nat} {x : Ex} {p : Tx × PS} {cs : Array Value} {T : TypeId} (hw : w.heap.size < w1.heap.size) (hlo : lo ≤ w.heap.size) (hx1 : core x = p.1) (hx2 : ExIn w2 x) (hx3 : New w1.heap.size x) (hb : Below w.heap.size w (w.alloc (.cells cs T))) (h2 : Turn [g] (w.alloc (.cells cs T)) w1) (hx5 : Turn [g] w1 w2) (hr : RdM lo w2 g p.2) (ht : Turn [w.heap.size] w2 w5) :
    Ev lo w g p (.returned (.agg #[.int .i64 x.op, .int .i64 x.n, .string x.s, .string x.q, .slice x.a x.x.length x.c])) w5 := by
  have e5 : ExIn w5 x := ExIn.turn hx2 (b := w1.heap.size) (g := w.heap.size) hx3 hw ht
  refine ⟨x, by rw [exV_eq], hx1, e5, hx3.mono (by omega), hr.but ht hlo, ?_⟩
  have h1 : Turn [g] w w1 := ((Turn.refl [g] w).below hb).then_ h2 (fun k hk => .inl hk)
  exact (h1.trans hx5).then_ ht (fun k hk => by simp at hk; subst hk; exact .inr (Nat.le_refl _))
set_option maxHeartbeats 4000000 in
theorem unary_name (w : World) (g : Nat) (r : PS) (h : RdM lo w g r) (n0 : isW r [45] = false) (n1 : isW r [33] = false) (n2 : isW r [116, 114, 117, 101] = false) (n3 : isW r [102, 97, 108, 115, 101] = false) (n4 : isW r [40] = false) (hk : ((peek r).k == 2) = false) (i1 : isW (wordR r 1 false) [40] = false) (i2 : isW (wordR r 1 false) [46] = false) :
    Calls Tryz.prog 57 #[.pointer (some ⟨g, 0, none⟩)] w (Ev lo w g (.mk 3 0 (wordS r 1 false) [] [], wordR r 1 false)) := by
  have HSS := Lib.hid (wordS_size h 1 false)
  have HSC : Hid ((bs (wordS r 1 false)).data.toList = wordS r 1 false) := Lib.hid (Lex.bs_data _)
  have CI := fun w' (h' : RdM lo w' g (wordR r 1 false)) => (by have := is_any w' g (wordR r 1 false) [40] h'; rw [i1] at this; exact Lib.hid this : Hid (Calls Tryz.prog 51 #[.pointer (some ⟨g, 0, none⟩), .string (bs [40])] w' (EndsB (.bool false) w')))
  have CI2 := fun w' (h' : RdM lo w' g (wordR r 1 false)) => (by have := is_any w' g (wordR r 1 false) [46] h'; rw [i2] at this; exact Lib.hid this : Hid (Calls Tryz.prog 51 #[.pointer (some ⟨g, 0, none⟩), .string (bs [46])] w' (EndsB (.bool false) w')))
  clear i1 i2
  have hb := ball_new w #[.int .i64 0, .int .i64 0, .string ⟨#[]⟩, .string ⟨#[]⟩, .slice none 0 0] 36
  have HG := Lib.hid h.lt
  have HB := Lib.hid hb
  have HLO := Lib.hid h.wlo
  have H0 := Lib.hid (h.below hb)
  have N0 := fun w' (h' : RdM lo w' g r) => Lib.hid (skip_no w' g r [45] h' n0)
  have N1 := fun w' (h' : RdM lo w' g r) => Lib.hid (skip_no w' g r [33] h' n1)
  have N2 := fun w' (h' : RdM lo w' g r) => Lib.hid (skip_no w' g r [116, 114, 117, 101] h' n2)
  have N3 := fun w' (h' : RdM lo w' g r) => Lib.hid (skip_no w' g r [102, 97, 108, 115, 101] h' n3)
  have N4 := fun w' (h' : RdM lo w' g r) => Lib.hid (skip_no w' g r [40] h' n4)
  clear h hb n0 n1 n2 n3 n4
  have CP := fun w' (h' : RdM lo w' g r) => Lib.hid (peek_any w' g r h')
  obtain ⟨x, hx⟩ : ∃ x, peek r = x := ⟨_, rfl⟩
  have HXP := Lib.hid hx
  rw [hx] at hk CP
  clear hx
  simp only [wdV_eq] at CP
  have HBX := Lib.hid (fun w' => word_box w' x)
  have HNX := Lib.hid (fun w' => new_at w' #[.int .i64 x.k, .string (bs x.s), .int .i64 x.n] 73)
  go_enter Tryz.func57, Tryz.ntmps57
  go_wp2_with fail
  refine (N0 _ H0.out).out.mono ?_
  rintro e v0 ⟨rfl, h1, h2⟩
  have P0 := Lib.hid h1
  have T0 := Lib.hid (h2)
  clear h1 h2
  go_wp2_with fail
  refine (N1 _ P0.out).out.mono ?_
  rintro e v1 ⟨rfl, h1, h2⟩
  have P1 := Lib.hid h1
  have T1 := Lib.hid (T0.out.trans h2)
  clear h1 h2
  go_wp2_with fail
  refine (N2 _ P1.out).out.mono ?_
  rintro e v2 ⟨rfl, h1, h2⟩
  have P2 := Lib.hid h1
  have T2 := Lib.hid (T1.out.trans h2)
  clear h1 h2
  go_wp2_with fail
  refine (N3 _ P2.out).out.mono ?_
  rintro e v3 ⟨rfl, h1, h2⟩
  have P3 := Lib.hid h1
  have T3 := Lib.hid (T2.out.trans h2)
  clear h1 h2
  go_wp2_with fail
  refine (N4 _ P3.out).out.mono ?_
  rintro e v4 ⟨rfl, h1, h2⟩
  have P4 := Lib.hid h1
  have T4 := Lib.hid (T3.out.trans h2)
  clear h1 h2
  go_wp2_with fail
  refine (CP _ P4.out).out.mono ?_
  rintro e w1 ⟨rfl, hb1⟩
  have HB1 := Lib.hid hb1
  have HQ := Lib.hid ((P4.out.below hb1).below (HBX.out w1))
  have HT1 := Lib.hid ((T4.out.below hb1).below (HBX.out w1))
  clear hb1
  have hn := HNX.out w1
  have x0 := cell_at hn 0
  simp only [List.getElem?_toArray, List.getElem?_cons_zero] at x0
  have CW := Lib.hid (word_any _ g r 1 false (by decide) HQ.out)
  generalize bs (wordS r 1 false) = S at *
  clear hn
  go_wp2_with fail
  refine CW.out.mono ?_
  rintro e w2 ⟨rfl, h1, h2⟩
  have HW2 := Lib.hid h1
  have HT2 := Lib.hid (HT1.out.trans h2)
  clear h1 h2 CW x0
  go_wp2_with fail
  refine (CI _ HW2.out).out.mono ?_
  rintro e w3 ⟨rfl, hb3⟩
  have HW3 := Lib.hid (HW2.out.below hb3)
  have HT3 := Lib.hid (HT2.out.below hb3)
  clear hb3
  go_wp2_with fail
  refine (CI2 _ HW3.out).out.mono ?_
  rintro e w4 ⟨rfl, hb4⟩
  have HW4 := Lib.hid (HW3.out.below hb4)
  have HT4 := Lib.hid (HT3.out.below hb4)
  have HR4 := Lib.hid (res_keep HG.out HT4.out)
  clear hb4
  obtain ⟨y0, y1, y2, y3, y4⟩ := five_at HR4.out
  have f0 := free_at HR4.out 0
  have f1 := free_at HR4.out 1
  have f2 := free_at HR4.out 2
  have f3 := free_at HR4.out 3
  have f4 := free_at HR4.out 4
  go_wp2_with fail
  have HT := Lib.hid (turn5 w4 w.heap.size (.int .i64 3) (.int .i64 0) (.string S) (.string ⟨#[]⟩) (.slice none 0 0))
  refine bodyPost_ret (results_expr rfl _ _ w.heap.size _ _ _ _ _ rfl (set5 HR4.out)) rfl ?_
  exact leaf_end HLO.out HSS.out HW4.out HB.out HT4.out HT.out (by rw [core_eq]; show Tx.mk 3 0 S.data.toList _ _ = _; rw [HSC.out]; rfl)
set_option maxHeartbeats 4000000 in
theorem unary_call (w : World) (g : Nat) (r : PS) (h : RdM lo w g r) (n0 : isW r [45] = false) (n1 : isW r [33] = false) (n2 : isW r [116, 114, 117, 101] = false) (n3 : isW r [102, 97, 108, 115, 101] = false) (n4 : isW r [40] = false) (hk : ((peek r).k == 2) = false) (i1 : isW (wordR r 1 false) [40] = true) (p : Tx × PS)
    (CC : ∀ w', RdM lo w' g (wordR r 1 false) → Hid (Calls Tryz.prog 93 #[.pointer (some ⟨g, 0, none⟩), .string (bs (wordS r 1 false))] w' (Ev lo w' g p))) :
    Calls Tryz.prog 57 #[.pointer (some ⟨g, 0, none⟩)] w (Ev lo w g p) := by
  have CI := fun w' (h' : RdM lo w' g (wordR r 1 false)) => (by have := is_any w' g (wordR r 1 false) [40] h'; rw [i1] at this; exact Lib.hid this : Hid (Calls Tryz.prog 51 #[.pointer (some ⟨g, 0, none⟩), .string (bs [40])] w' (EndsB (.bool true) w')))
  clear i1
  have hb := ball_new w #[.int .i64 0, .int .i64 0, .string ⟨#[]⟩, .string ⟨#[]⟩, .slice none 0 0] 36
  have HG := Lib.hid h.lt
  have HB := Lib.hid hb
  have HLO := Lib.hid h.wlo
  have H0 := Lib.hid (h.below hb)
  have N0 := fun w' (h' : RdM lo w' g r) => Lib.hid (skip_no w' g r [45] h' n0)
  have N1 := fun w' (h' : RdM lo w' g r) => Lib.hid (skip_no w' g r [33] h' n1)
  have N2 := fun w' (h' : RdM lo w' g r) => Lib.hid (skip_no w' g r [116, 114, 117, 101] h' n2)
  have N3 := fun w' (h' : RdM lo w' g r) => Lib.hid (skip_no w' g r [102, 97, 108, 115, 101] h' n3)
  have N4 := fun w' (h' : RdM lo w' g r) => Lib.hid (skip_no w' g r [40] h' n4)
  clear h hb n0 n1 n2 n3 n4
  have CP := fun w' (h' : RdM lo w' g r) => Lib.hid (peek_any w' g r h')
  obtain ⟨x, hx⟩ : ∃ x, peek r = x := ⟨_, rfl⟩
  have HXP := Lib.hid hx
  rw [hx] at hk CP
  clear hx
  simp only [wdV_eq] at CP
  have HBX := Lib.hid (fun w' => word_box w' x)
  have HNX := Lib.hid (fun w' => new_at w' #[.int .i64 x.k, .string (bs x.s), .int .i64 x.n] 73)
  go_enter Tryz.func57, Tryz.ntmps57
  go_wp2_with fail
  refine (N0 _ H0.out).out.mono ?_
  rintro e v0 ⟨rfl, h1, h2⟩
  have P0 := Lib.hid h1
  have T0 := Lib.hid (h2)
  clear h1 h2
  go_wp2_with fail
  refine (N1 _ P0.out).out.mono ?_
  rintro e v1 ⟨rfl, h1, h2⟩
  have P1 := Lib.hid h1
  have T1 := Lib.hid (T0.out.trans h2)
  clear h1 h2
  go_wp2_with fail
  refine (N2 _ P1.out).out.mono ?_
  rintro e v2 ⟨rfl, h1, h2⟩
  have P2 := Lib.hid h1
  have T2 := Lib.hid (T1.out.trans h2)
  clear h1 h2
  go_wp2_with fail
  refine (N3 _ P2.out).out.mono ?_
  rintro e v3 ⟨rfl, h1, h2⟩
  have P3 := Lib.hid h1
  have T3 := Lib.hid (T2.out.trans h2)
  clear h1 h2
  go_wp2_with fail
  refine (N4 _ P3.out).out.mono ?_
  rintro e v4 ⟨rfl, h1, h2⟩
  have P4 := Lib.hid h1
  have T4 := Lib.hid (T3.out.trans h2)
  clear h1 h2
  go_wp2_with fail
  refine (CP _ P4.out).out.mono ?_
  rintro e w1 ⟨rfl, hb1⟩
  have HB1 := Lib.hid hb1
  have HQ := Lib.hid ((P4.out.below hb1).below (HBX.out w1))
  have HT1 := Lib.hid ((T4.out.below hb1).below (HBX.out w1))
  clear hb1
  have hn := HNX.out w1
  have x0 := cell_at hn 0
  simp only [List.getElem?_toArray, List.getElem?_cons_zero] at x0
  have CW := Lib.hid (word_any _ g r 1 false (by decide) HQ.out)
  generalize bs (wordS r 1 false) = S at *
  clear hn
  go_wp2_with fail
  refine CW.out.mono ?_
  rintro e w2 ⟨rfl, h1, h2⟩
  have HW2 := Lib.hid h1
  have HT2 := Lib.hid (HT1.out.trans h2)
  clear h1 h2 CW x0
  go_wp2_with fail
  refine (CI _ HW2.out).out.mono ?_
  rintro e w3 ⟨rfl, hb3⟩
  have HW3 := Lib.hid (HW2.out.below hb3)
  have HT3 := Lib.hid (HT2.out.below hb3)
  clear hb3
  go_wp2_with fail
  refine (CC _ HW3.out).out.mono ?_
  rintro e w5 ⟨x, rfl, hx1, hx2, hx3, hx4, hx5⟩
  have HX1 := Lib.hid hx1
  have HX2 := Lib.hid hx2
  have HX3 := Lib.hid hx3
  have HX4 := Lib.hid hx4
  have HX5 := Lib.hid hx5
  rw [exV_eq]
  have hr1 := res_keep HG.out HT3.out
  have HR5 := Lib.hid ((hx5.block _ (lt_of_heap hr1) (by have := HG.out; simp; omega)).trans hr1)
  clear hx1 hx2 hx3 hx4 hx5 hr1
  obtain ⟨y0, y1, y2, y3, y4⟩ := five_at HR5.out
  have f0 := free_at HR5.out 0
  have f1 := free_at HR5.out 1
  have f2 := free_at HR5.out 2
  have f3 := free_at HR5.out 3
  have f4 := free_at HR5.out 4
  go_wp2_with fail
  have HT := Lib.hid (turn5 w5 w.heap.size (.int .i64 x.op) (.int .i64 x.n) (.string x.s) (.string x.q) (.slice x.a x.x.length x.c))
  refine bodyPost_ret (results_expr rfl _ _ w.heap.size _ _ _ _ _ rfl (set5 HR5.out)) rfl ?_
  exact pass_end (by have := HT3.out.size; simp at this; omega) HLO.out HX1.out HX2.out HX3.out HB.out HT3.out HX5.out HX4.out HT.out
set_option maxHeartbeats 4000000 in
theorem unary_dot (w : World) (g : Nat) (r : PS) (h : RdM lo w g r) (n0 : isW r [45] = false) (n1 : isW r [33] = false) (n2 : isW r [116, 114, 117, 101] = false) (n3 : isW r [102, 97, 108, 115, 101] = false) (n4 : isW r [40] = false) (hk : ((peek r).k == 2) = false) (i1 : isW (wordR r 1 false) [40] = false) (i2 : isW (wordR r 1 false) [46] = true) (p : Tx × PS)
    (CC : ∀ w', RdM lo w' g (wordR r 1 false) → Hid (Calls Tryz.prog 93 #[.pointer (some ⟨g, 0, none⟩), .string (bs (wordS r 1 false))] w' (Ev lo w' g p))) :
    Calls Tryz.prog 57 #[.pointer (some ⟨g, 0, none⟩)] w (Ev lo w g p) := by
  have CI := fun w' (h' : RdM lo w' g (wordR r 1 false)) => (by have := is_any w' g (wordR r 1 false) [40] h'; rw [i1] at this; exact Lib.hid this : Hid (Calls Tryz.prog 51 #[.pointer (some ⟨g, 0, none⟩), .string (bs [40])] w' (EndsB (.bool false) w')))
  have CI2 := fun w' (h' : RdM lo w' g (wordR r 1 false)) => (by have := is_any w' g (wordR r 1 false) [46] h'; rw [i2] at this; exact Lib.hid this : Hid (Calls Tryz.prog 51 #[.pointer (some ⟨g, 0, none⟩), .string (bs [46])] w' (EndsB (.bool true) w')))
  clear i2
  clear i1
  have hb := ball_new w #[.int .i64 0, .int .i64 0, .string ⟨#[]⟩, .string ⟨#[]⟩, .slice none 0 0] 36
  have HG := Lib.hid h.lt
  have HB := Lib.hid hb
  have HLO := Lib.hid h.wlo
  have H0 := Lib.hid (h.below hb)
  have N0 := fun w' (h' : RdM lo w' g r) => Lib.hid (skip_no w' g r [45] h' n0)
  have N1 := fun w' (h' : RdM lo w' g r) => Lib.hid (skip_no w' g r [33] h' n1)
  have N2 := fun w' (h' : RdM lo w' g r) => Lib.hid (skip_no w' g r [116, 114, 117, 101] h' n2)
  have N3 := fun w' (h' : RdM lo w' g r) => Lib.hid (skip_no w' g r [102, 97, 108, 115, 101] h' n3)
  have N4 := fun w' (h' : RdM lo w' g r) => Lib.hid (skip_no w' g r [40] h' n4)
  clear h hb n0 n1 n2 n3 n4
  have CP := fun w' (h' : RdM lo w' g r) => Lib.hid (peek_any w' g r h')
  obtain ⟨x, hx⟩ : ∃ x, peek r = x := ⟨_, rfl⟩
  have HXP := Lib.hid hx
  rw [hx] at hk CP
  clear hx
  simp only [wdV_eq] at CP
  have HBX := Lib.hid (fun w' => word_box w' x)
  have HNX := Lib.hid (fun w' => new_at w' #[.int .i64 x.k, .string (bs x.s), .int .i64 x.n] 73)
  go_enter Tryz.func57, Tryz.ntmps57
  go_wp2_with fail
  refine (N0 _ H0.out).out.mono ?_
  rintro e v0 ⟨rfl, h1, h2⟩
  have P0 := Lib.hid h1
  have T0 := Lib.hid (h2)
  clear h1 h2
  go_wp2_with fail
  refine (N1 _ P0.out).out.mono ?_
  rintro e v1 ⟨rfl, h1, h2⟩
  have P1 := Lib.hid h1
  have T1 := Lib.hid (T0.out.trans h2)
  clear h1 h2
  go_wp2_with fail
  refine (N2 _ P1.out).out.mono ?_
  rintro e v2 ⟨rfl, h1, h2⟩
  have P2 := Lib.hid h1
  have T2 := Lib.hid (T1.out.trans h2)
  clear h1 h2
  go_wp2_with fail
  refine (N3 _ P2.out).out.mono ?_
  rintro e v3 ⟨rfl, h1, h2⟩
  have P3 := Lib.hid h1
  have T3 := Lib.hid (T2.out.trans h2)
  clear h1 h2
  go_wp2_with fail
  refine (N4 _ P3.out).out.mono ?_
  rintro e v4 ⟨rfl, h1, h2⟩
  have P4 := Lib.hid h1
  have T4 := Lib.hid (T3.out.trans h2)
  clear h1 h2
  go_wp2_with fail
  refine (CP _ P4.out).out.mono ?_
  rintro e w1 ⟨rfl, hb1⟩
  have HB1 := Lib.hid hb1
  have HQ := Lib.hid ((P4.out.below hb1).below (HBX.out w1))
  have HT1 := Lib.hid ((T4.out.below hb1).below (HBX.out w1))
  clear hb1
  have hn := HNX.out w1
  have x0 := cell_at hn 0
  simp only [List.getElem?_toArray, List.getElem?_cons_zero] at x0
  have CW := Lib.hid (word_any _ g r 1 false (by decide) HQ.out)
  generalize bs (wordS r 1 false) = S at *
  clear hn
  go_wp2_with fail
  refine CW.out.mono ?_
  rintro e w2 ⟨rfl, h1, h2⟩
  have HW2 := Lib.hid h1
  have HT2 := Lib.hid (HT1.out.trans h2)
  clear h1 h2 CW x0
  go_wp2_with fail
  refine (CI _ HW2.out).out.mono ?_
  rintro e w3 ⟨rfl, hb3⟩
  have HW3 := Lib.hid (HW2.out.below hb3)
  have HT3 := Lib.hid (HT2.out.below hb3)
  clear hb3
  go_wp2_with fail
  refine (CI2 _ HW3.out).out.mono ?_
  rintro e w4 ⟨rfl, hb4⟩
  replace HW3 := Lib.hid (HW3.out.below hb4)
  replace HT3 := Lib.hid (HT3.out.below hb4)
  clear hb4
  go_wp2_with fail
  refine (CC _ HW3.out).out.mono ?_
  rintro e w5 ⟨x, rfl, hx1, hx2, hx3, hx4, hx5⟩
  have HX1 := Lib.hid hx1
  have HX2 := Lib.hid hx2
  have HX3 := Lib.hid hx3
  have HX4 := Lib.hid hx4
  have HX5 := Lib.hid hx5
  rw [exV_eq]
  have hr1 := res_keep HG.out HT3.out
  have HR5 := Lib.hid ((hx5.block _ (lt_of_heap hr1) (by have := HG.out; simp; omega)).trans hr1)
  clear hx1 hx2 hx3 hx4 hx5 hr1
  obtain ⟨y0, y1, y2, y3, y4⟩ := five_at HR5.out
  have f0 := free_at HR5.out 0
  have f1 := free_at HR5.out 1
  have f2 := free_at HR5.out 2
  have f3 := free_at HR5.out 3
  have f4 := free_at HR5.out 4
  go_wp2_with fail
  have HT := Lib.hid (turn5 w5 w.heap.size (.int .i64 x.op) (.int .i64 x.n) (.string x.s) (.string x.q) (.slice x.a x.x.length x.c))
  refine bodyPost_ret (results_expr rfl _ _ w.heap.size _ _ _ _ _ rfl (set5 HR5.out)) rfl ?_
  exact pass_end (by have := HT3.out.size; simp at this; omega) HLO.out HX1.out HX2.out HX3.out HB.out HT3.out HX5.out HX4.out HT.out
end Go.Proofs.YtlhbhpdpjidpgaaGreatDoor.Prs
