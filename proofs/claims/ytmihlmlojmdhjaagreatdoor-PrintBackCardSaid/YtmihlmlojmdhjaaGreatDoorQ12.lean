/-
  rightExpr: is all that an expression is made of right. Condition: the expression lies in memory.
-/
import Derived.Test.YtmihlmlojmdhjaaGreatDoorQ11
namespace Go.Proofs.YtmihlmlojmdhjaaGreatDoor.Tre
open Go.RowKit
set_option maxRecDepth 100000
attribute [local go_sem] Oper.semAt_some
theorem results_bool {fn : Func} {p : Tmp} (h : fn.results = #[.cell p 4]) (tmps : Array Value) (w : World) (g : Nat) (v : Bool) (hv : tmps.getD p undef = .pointer (some ⟨g, 0, none⟩)) (hc : w.cell? ⟨g, 0, none⟩ = some (.bool v)) :
    (results fn tmps).run Tryz.prog w = .ok (.bool v) w := by
  have a4 := Tryz.isAgg4
  simp only [Array.getD_eq_getD_getElem?] at hv
  unfold results
  rw [h]
  go_simp
/-- A function's answer, from its cell, behind its one mark. -/
theorem ends_cell {n : Nat} {fn : Func} {tmps : Array Value} {R : Ending → World → Prop} {D g : Nat} {W : World} {v : Bool} (hd : W.heap[D]? = some (.deferred (some []))) (p : Tmp) (hres : fn.results = #[.cell p 4]) (hv : tmps.getD p undef = .pointer (some ⟨g, 0, none⟩)) (hc : W.heap[g]? = some (.cells #[.bool v] 4 (0, 0)))
    (h : R (.returned (.bool v)) (W.putObj D (.deferred none))) : LeavesInM Fence.wide n Tryz.prog fn tmps R [mark D] .returning W := by
  refine ⟨by simp, .inl ⟨D, _, rfl, run_takeDeferred hd, ?_⟩⟩
  have hne : g ≠ D := by rintro rfl; rw [hd] at hc; cases hc
  exact ⟨_, results_bool hres _ _ g v hv (cell_at ((World.putObj_heap_other hne).trans hc) 0), h⟩
theorem all_more {α : Type} {p : α → Bool} {l : List α} {k : Nat} {y : α} (hy : l[k]? = some y) (h : (l.take k).all p = true) (hp : p y = (true && true && true)) : (l.take (k + 1)).all p = true := by
  rw [List.take_add_one, hy, List.all_append, h]
  simp [hp]
theorem all_less {l : List Ex} {k : Nat} {y : Ex} {t1 t2 t3 : Bool} (hy : l[k]? = some y) (hp : rX y = (t1 && t2 && t3)) (hf : (t1 && t2 && t3) = false := by rfl) : l.all rX = false := by
  rw [List.all_eq_false]
  exact ⟨y, List.mem_of_getElem? hy, by rw [hp, hf]; simp⟩
set_option maxHeartbeats 4000000 in
theorem rightExpr_any (e : Ex) (w : World) (hin : ExIn w e) : Calls Tryz.prog 127 #[exV e] w (EndsB (.bool (rExpr e)) w) := by
  refine (callsIn_wide (n := 5)).1 ?_
  generalize 5 = m5
  have HIN := Lib.hid hin
  have hb3 : Below w.heap.size w (((w.alloc (.cells #[.int .i64 e.op, .int .i64 e.n, .string e.s, .string e.q, .slice e.a e.x.length e.c] 42)).alloc (.cells #[.bool false] 4)).alloc (.cells #[.int .i64 e.op, .int .i64 e.n, .string e.s, .string e.q, .slice e.a e.x.length e.c] 42)) := (((Below.refl _ w).alloc (Nat.le_refl _) _).alloc (by simp) _).alloc (by simp; omega) _
  have HN1 : Hid ((((w.alloc (.cells #[.int .i64 e.op, .int .i64 e.n, .string e.s, .string e.q, .slice e.a e.x.length e.c] 42)).alloc (.cells #[.bool false] 4)).alloc (.cells #[.int .i64 e.op, .int .i64 e.n, .string e.s, .string e.q, .slice e.a e.x.length e.c] 42)).heap[w.heap.size + 1]? = some (.cells #[.bool false] 4 (0, 0))) := Lib.hid (by
    have := new_at (w.alloc (.cells #[.int .i64 e.op, .int .i64 e.n, .string e.s, .string e.q, .slice e.a e.x.length e.c] 42)) #[.bool false] 4
    rw [World.size_alloc] at this
    exact (Below.heap_alloc _ _ _ (by simp)).trans this)
  have HN2 : Hid ((((w.alloc (.cells #[.int .i64 e.op, .int .i64 e.n, .string e.s, .string e.q, .slice e.a e.x.length e.c] 42)).alloc (.cells #[.bool false] 4)).alloc (.cells #[.int .i64 e.op, .int .i64 e.n, .string e.s, .string e.q, .slice e.a e.x.length e.c] 42)).heap[w.heap.size + 1 + 1]? = some (.cells #[.int .i64 e.op, .int .i64 e.n, .string e.s, .string e.q, .slice e.a e.x.length e.c] 42 (0, 0))) := Lib.hid (by
    have := new_at ((w.alloc (.cells #[.int .i64 e.op, .int .i64 e.n, .string e.s, .string e.q, .slice e.a e.x.length e.c] 42)).alloc (.cells #[.bool false] 4)) #[.int .i64 e.op, .int .i64 e.n, .string e.s, .string e.q, .slice e.a e.x.length e.c] 42
    rwa [World.size_alloc, World.size_alloc] at this)
  have HSZ : Hid ((((w.alloc (.cells #[.int .i64 e.op, .int .i64 e.n, .string e.s, .string e.q, .slice e.a e.x.length e.c] 42)).alloc (.cells #[.bool false] 4)).alloc (.cells #[.int .i64 e.op, .int .i64 e.n, .string e.s, .string e.q, .slice e.a e.x.length e.c] 42)).heap.size = w.heap.size + 3) := Lib.hid (by simp)
  have HB0 := Lib.hid hb3
  have CP := Lib.hid (parts_any Fence.wide (m5 - 1) trivial rfl e ((w.alloc (.cells #[.int .i64 e.op, .int .i64 e.n, .string e.s, .string e.q, .slice e.a e.x.length e.c] 42)).alloc (.cells #[.bool false] 4)))
  have HX : Hid (∀ y ∈ flat e, NdX w y) := Lib.hid hin
  clear hb3 hin
  simp only [World.size_alloc] at CP
  rw [exV_eq] at CP ⊢
  obtain ⟨X0, hX0⟩ : ∃ X0, ((w.alloc (.cells #[.int .i64 e.op, .int .i64 e.n, .string e.s, .string e.q, .slice e.a e.x.length e.c] 42)).alloc (.cells #[.bool false] 4)).alloc (.cells #[.int .i64 e.op, .int .i64 e.n, .string e.s, .string e.q, .slice e.a e.x.length e.c] 42) = X0 := ⟨_, rfl⟩
  rw [hX0] at HN1 HN2 HSZ HB0 CP
  have HX0 := Lib.hid hX0
  clear hX0
  refine callsIn_of_wp_marks Tryz.func127 rfl trivial ?_ rfl
  simp only [Tryz.ntmps127, List.size_toArray, List.length_cons, List.length_nil, Nat.reduceAdd, Nat.reduceSub, Array.replicate_succ, Array.replicate_zero, List.push_toArray, List.append_toArray, List.nil_append, List.cons_append]
  gi_wp2
  refine ⟨trivial, (fun h => by cases h), ?_⟩
  refine CP.out.mono ?_
  rintro e4 w4 ⟨rfl, rfl⟩
  gi_wp2
  refine wp_over (c0 := w.heap.size) (caps := []) (S := fun b => b = w.heap.size + 1) (hi := w.heap.size + 2) (vals := (flat e).map exV) (w0 := w4) (gf := 99) (lb := #[.pointer (some ⟨w.heap.size + 1 + 1, 0, none⟩)]) rfl (enters_of Tryz.func99 (by kernel_rfl) rfl)
    (parts_gives w e HIN.out (w.heap.size + 1 + 1) w4 (Low.below HB0.out) HN2.out) (Below.refl _ _) rfl
    (fun b hb => by subst hb; exact ⟨by omega, by omega⟩) (by have := HSZ.out; omega) (fun b hb => by cases hb)
    (I := fun k W' => Below w.heap.size w W' ∧ W'.heap[w.heap.size + 1]? = some (.cells #[.bool false] 4 (0, 0)) ∧ ((flat e).take k).all rX = true ∧ w.heap.size + 3 ≤ W'.heap.size)
    (Ix := fun c W' => c = .ret ∧ Below w.heap.size w W' ∧ W'.heap[w.heap.size + 1]? = some (.cells #[.bool false] 4 (0, 0)) ∧ rExpr e = false)
    (A := fun k a' W' => ∃ y By, (flat e)[k]? = some y ∧ a' = { tmps := #[.agg #[.int .i64 e.op, .int .i64 e.n, .string e.s, .string e.q, .slice e.a e.x.length e.c], .pointer (some ⟨w.heap.size, 0, none⟩), .pointer (some ⟨w.heap.size + 1, 0, none⟩), .pointer (some ⟨By, 0, none⟩), .agg #[.int .i64 e.op, .int .i64 e.n, .string e.s, .string e.q, .slice e.a e.x.length e.c], .func (.func 99) #[] #[.pointer (some ⟨w.heap.size + 1 + 1, 0, none⟩)], .agg #[.int .i64 y.op, .int .i64 y.n, .string y.s, .string y.q, .slice y.a y.x.length y.c], undef, undef, undef, undef, undef, undef, undef, undef, undef, undef, undef, undef, undef], defers := [] } ∧ W'.heap[By]? = some (.cells #[.int .i64 y.op, .int .i64 y.n, .string y.s, .string y.q, .slice y.a y.x.length y.c] 42 (0, 0)) ∧ w.heap.size + 3 ≤ By ∧ Below w.heap.size w W' ∧ W'.heap[w.heap.size + 1]? = some (.cells #[.bool false] 4 (0, 0)) ∧ ((flat e).take k).all rX = true ∧ w.heap.size + 3 ≤ W'.heap.size)
    ?ownI ?ownX ?ownA ?start ?assign ?body ?done ?stop
  case ownI =>
    rintro k X Y row ⟨h1, h2, h3, h4⟩ hg hr
    have hs := HSZ.out
    exact ⟨h1.grown hg h1.size (fun r e => by have := hr r e; omega), (hg.block _ (lt_of_heap h2) (fun e => by have := hr _ e.symm; omega)).trans h2, h3, Nat.le_trans h4 hg.size⟩
  case ownX =>
    rintro c' k X Y row ⟨h0, h1, h2, h3⟩ hg hr
    have hs := HSZ.out
    exact ⟨h0, h1.grown hg h1.size (fun r e => by have := hr r e; omega), (hg.block _ (lt_of_heap h2) (fun e => by have := hr _ e.symm; omega)).trans h2, h3⟩
  case ownA =>
    rintro k a' _ X Y row ⟨y, By, q1, q2, q3, q4, h1, h2, h3, h4⟩ hg hr
    have hs := HSZ.out
    exact ⟨y, By, q1, q2, cells_grown hg (fun r e => (hr r e).2) q3, q4, h1.grown hg h1.size (fun r e => by have := (hr r e).1; omega), cells_grown hg (fun r e => (hr r e).2) h2, h3, Nat.le_trans h4 hg.size⟩
  case start => exact ⟨HB0.out, HN1.out, rfl, by have := HSZ.out; omega⟩
  case assign =>
    rintro l2 k v m2 W5 hv ⟨h1, h2, h3, h4⟩
    obtain ⟨y, hy9, rfl⟩ : ∃ y, (flat e)[k]? = some y ∧ exV y = v := by simpa using hv
    have hb := ball_new W5 #[.int .i64 y.op, .int .i64 y.n, .string y.s, .string y.q, .slice y.a y.x.length y.c] 42
    have G1 := Lib.hid (h1.trans (hb.mono h1.size))
    have G2 := Lib.hid ((hb.block _ (lt_of_heap h2)).trans h2)
    have G3 := Lib.hid h3
    have G4 := Lib.hid h4
    have G5 := Lib.hid hy9
    have G6 := Lib.hid (new_at W5 #[.int .i64 y.op, .int .i64 y.n, .string y.s, .string y.q, .slice y.a y.x.length y.c] 42)
    rw [exV_eq]
    clear h1 h2 h3 h4 hv hy9 hb
    gi_wp2
    exact ⟨Keep.alloc _, y, _, G5.out, rfl, G6.out, G4.out, G1.out, G2.out, G3.out, Nat.le_trans G4.out (by simp)⟩
  case body =>
    rintro l2 k v m2 a' W5 _ _ _ ⟨y, By, hy9, rfl, hby, hBy, h1, h2, h3, h4⟩
    have HND := Lib.hid (HX.out y (List.mem_of_getElem? hy9))
    have ⟨x0, x1, x2, x3, x4⟩ := five_at hby
    have HY := Lib.hid hy9
    have HBY := Lib.hid hby
    have H1 := Lib.hid h1
    have H2 := Lib.hid h2
    have H3 := Lib.hid h3
    have H4 := Lib.hid h4
    have C1 := fun W' => Lib.hid (CallsIn.inRound l2 (callsIn_wide (n := m2 - 1) |>.2 (rightNumber_any y W')))
    have C2 := fun W' => Lib.hid (CallsIn.inRound l2 (callsIn_wide (n := m2 - 1) |>.2 (rightNames_any y W' HND.out.s HND.out.q)))
    have C3 := fun W' => Lib.hid (CallsIn.inRound l2 (callsIn_wide (n := m2 - 1) |>.2 (rightParts_any y W' HND.out.len)))
    rw [exV_eq] at C1 C2 C3
    obtain ⟨t1, ht1⟩ : ∃ t, numOk y = t := ⟨_, rfl⟩
    obtain ⟨t2, ht2⟩ : ∃ t, namesOk y = t := ⟨_, rfl⟩
    obtain ⟨t3, ht3⟩ : ∃ t, partsOk y = t := ⟨_, rfl⟩
    rw [ht1] at C1
    rw [ht2] at C2
    rw [ht3] at C3
    have HT : Hid (rX y = (t1 && t2 && t3)) := Lib.hid (by unfold rX; rw [ht1, ht2, ht3])
    clear hy9 hby hBy h1 h2 h3 h4 ht1 ht2 ht3
    gi_wp2
    refine ⟨trivial, (fun h => by cases h), ?_⟩
    refine (C1 _).out.mono ?_
    rintro e1 w1 ⟨rfl, hb1⟩
    have K1 := Lib.hid hb1
    have ⟨y0, y1, y2, y3, y4⟩ := five_at ((hb1.block _ (lt_of_heap HBY.out)).trans HBY.out)
    clear hb1 x0 x1 x2 x3 x4
    rcases Bool.eq_false_or_eq_true t1 with h9 | h9 <;> subst h9
    · gi_wp2
      refine ⟨trivial, (fun h => by cases h), ?_⟩
      refine (C2 _).out.mono ?_
      rintro e2 w2 ⟨rfl, hb2⟩
      have K2 := Lib.hid (K1.out.trans (hb2.mono K1.out.size))
      have ⟨x0, x1, x2, x3, x4⟩ := five_at ((K2.out.block _ (lt_of_heap HBY.out)).trans HBY.out)
      clear hb2 y0 y1 y2 y3 y4
      rcases Bool.eq_false_or_eq_true t2 with h9 | h9 <;> subst h9
      · gi_wp2
        refine ⟨trivial, (fun h => by cases h), ?_⟩
        refine (C3 _).out.mono ?_
        rintro e3 w3 ⟨rfl, hb3⟩
        have K3 := Lib.hid (K2.out.trans (hb3.mono K2.out.size))
        have Z := Lib.hid ((K3.out.block _ (lt_of_heap H2.out)).trans H2.out)
        have zz := cell_at Z.out 0
        simp only [List.getElem?_toArray, List.getElem?_cons_zero] at zz
        have fz := free_at Z.out 0
        clear hb3 x0 x1 x2 x3 x4
        rcases Bool.eq_false_or_eq_true t3 with h9 | h9 <;> subst h9
        · gi_wp2
          exact ⟨Keep.below K3.out, H1.out.trans (K3.out.mono H1.out.size), Z.out, all_more HY.out H3.out HT.out, Nat.le_trans H4.out K3.out.size⟩
        · gi_wp2
          exact ⟨(Keep.below K3.out).trans (Keep.set rfl Z.out), rfl, (H1.out.trans (K3.out.mono H1.out.size)).setCell (p := ⟨w.heap.size + 1, 0, none⟩) (Nat.le_succ _) _, set_at Z.out 0 _, all_less HY.out HT.out⟩
      · have Z := Lib.hid ((K2.out.block _ (lt_of_heap H2.out)).trans H2.out)
        have zz := cell_at Z.out 0
        simp only [List.getElem?_toArray, List.getElem?_cons_zero] at zz
        have fz := free_at Z.out 0
        gi_wp2
        refine ⟨trivial, ?_⟩
        gi_wp2
        exact ⟨(Keep.below K2.out).trans (Keep.set rfl Z.out), rfl, (H1.out.trans (K2.out.mono H1.out.size)).setCell (p := ⟨w.heap.size + 1, 0, none⟩) (Nat.le_succ _) _, set_at Z.out 0 _, all_less HY.out HT.out⟩
    · have Z := Lib.hid ((K1.out.block _ (lt_of_heap H2.out)).trans H2.out)
      have zz := cell_at Z.out 0
      simp only [List.getElem?_toArray, List.getElem?_cons_zero] at zz
      have fz := free_at Z.out 0
      gi_wp2
      refine ⟨trivial, ?_⟩
      gi_wp2
      refine ⟨trivial, ?_⟩
      gi_wp2
      exact ⟨(Keep.below K1.out).trans (Keep.set rfl Z.out), rfl, (H1.out.trans (K1.out.mono H1.out.size)).setCell (p := ⟨w.heap.size + 1, 0, none⟩) (Nat.le_succ _) _, set_at Z.out 0 _, all_less HY.out HT.out⟩
  case done =>
    rintro D W5 hD ⟨h1, h2, h3, h4⟩ hd
    have zz := cell_at h2 0
    simp only [List.getElem?_toArray, List.getElem?_cons_zero] at zz
    have fz := free_at h2 0
    have G1 := Lib.hid h1
    have G2 := Lib.hid h2
    rw [List.length_map, List.take_length] at h3
    have G3 : Hid (rExpr e = true) := Lib.hid h3
    have G4 := Lib.hid hd
    have G5 : Hid (w.heap.size + 3 ≤ D) := Lib.hid (by have := HSZ.out; omega)
    clear h1 h2 h3 h4 hd hD
    gi_wp2
    have hne : D ≠ w.heap.size + 1 := by have := G5.out; omega
    refine ends_cell (D := D) (g := w.heap.size + 1) (v := true) (other_at G4.out hne _ _) 2 rfl rfl (set_at G2.out 0 _) ?_
    refine ⟨by rw [G3.out], ?_⟩
    have hz := G1.out.setCell (p := ⟨w.heap.size + 1, 0, none⟩) (Nat.le_succ _) (.bool true)
    exact hz.grown (grownBy_putObj' _ D _) hz.size (fun k e => by cases e; have := G5.out; omega)
  case stop =>
    rintro D c' W5 hD ⟨rfl, h1, h2, h3⟩ hd
    have G1 := Lib.hid h1
    have G2 := Lib.hid h2
    have G3 := Lib.hid h3
    have G4 := Lib.hid hd
    have G5 : Hid (w.heap.size + 3 ≤ D) := Lib.hid (by have := HSZ.out; omega)
    clear h1 h2 h3 hd hD
    gi_wp2
    refine ends_cell (D := D) (g := w.heap.size + 1) (v := false) G4.out 2 rfl rfl G2.out ?_
    exact ⟨by rw [G3.out], G1.out.grown (grownBy_putObj' _ D _) G1.out.size (fun k e => by cases e; have := G5.out; omega)⟩
end Go.Proofs.YtmihlmlojmdhjaaGreatDoor.Tre
/- rightAsked, rightStmt: is a statement right; the library's IndexFunc and ContainsFunc with the package's own tests. Conditions: the trees lie in memory. -/
namespace Go.Proofs.YtmihlmlojmdhjaaGreatDoor.Tre
open Go.RowKit
set_option maxRecDepth 100000
set_option linter.unusedSimpArgs false
set_option maxHeartbeats 4000000 in
theorem rightAsked_any (s : St) (w : World) (hin : ExIn w s.e) : Calls Tryz.prog 105 #[stV s] w (EndsB (.bool (askedOk s)) w) := by
  have CE := fun (w' : World) (hw : Below w.heap.size w w') => Lib.hid (rightExpr_any s.e w' (hin.below hw))
  have CZ := fun (w' : World) => Lib.hid (zero_any s.e w' hin.nd.len)
  have HA : Hid (∀ w1, Below (w.alloc (.cells #[.int .i64 s.op, .string s.s, .int .i64 s.e.op, .int .i64 s.e.n, .string s.e.s, .string s.e.q, .slice s.e.a s.e.x.length s.e.c, .slice s.a s.b.length s.c, .slice s.a2 s.b2.length s.c2] 47)).heap.size (w.alloc (.cells #[.int .i64 s.op, .string s.s, .int .i64 s.e.op, .int .i64 s.e.n, .string s.e.s, .string s.e.q, .slice s.e.a s.e.x.length s.e.c, .slice s.a s.b.length s.c, .slice s.a2 s.b2.length s.c2] 47)) w1 → ∀ i, w1.cell? ⟨w.heap.size, i, none⟩ = (#[.int .i64 s.op, .string s.s, .int .i64 s.e.op, .int .i64 s.e.n, .string s.e.s, .string s.e.q, .slice s.e.a s.e.x.length s.e.c, .slice s.a s.b.length s.c, .slice s.a2 s.b2.length s.c2] : Array Value)[i]?) := Lib.hid (fun w1 h1 i => one_at h1 i)
  have HB := Lib.hid (ball_new w #[.int .i64 s.op, .string s.s, .int .i64 s.e.op, .int .i64 s.e.n, .string s.e.s, .string s.e.q, .slice s.e.a s.e.x.length s.e.c, .slice s.a s.b.length s.c, .slice s.a2 s.b2.length s.c2] 47)
  rw [exV_eq] at CE CZ
  rw [stV_eq]
  clear hin
  generalize s.e.x.length = k1 at *
  generalize s.b.length = k2 at *
  generalize s.b2.length = k3 at *
  obtain ⟨te, hte⟩ : ∃ t, rExpr s.e = t := ⟨_, rfl⟩
  obtain ⟨tz, htz⟩ : ∃ t, zeroX s.e = t := ⟨_, rfl⟩
  have HTE := Lib.hid hte
  have HTZ := Lib.hid htz
  rw [hte] at CE
  rw [htz] at CZ
  clear hte htz
  rcases Bool.eq_false_or_eq_true (s.op == 1) with h1 | h1
  · go_enter Tryz.func105, Tryz.ntmps105
    go_wp2_with fail
    refine (CE _ HB.out).out.mono ?_
    rintro e1 w1 ⟨rfl, hb1⟩
    have HB1 := Lib.hid (HB.out.trans (hb1.mono HB.out.size))
    clear hb1
    go_wp2_with fail
    go_ret
    exact ends_bool (by simp [askedOk, HTE.out, HTZ.out, *]) HB1.out
  · rcases Bool.eq_false_or_eq_true (s.op == 2) with h2 | h2
    · go_enter Tryz.func105, Tryz.ntmps105
      go_wp2_with fail
      refine (CE _ HB.out).out.mono ?_
      rintro e1 w1 ⟨rfl, hb1⟩
      have HB1 := Lib.hid (HB.out.trans (hb1.mono HB.out.size))
      clear hb1
      go_wp2_with fail
      go_ret
      exact ends_bool (by simp [askedOk, HTE.out, HTZ.out, *]) HB1.out
    · rcases Bool.eq_false_or_eq_true (s.op == 3) with h3 | h3
      · go_enter Tryz.func105, Tryz.ntmps105
        go_wp2_with fail
        refine (CE _ HB.out).out.mono ?_
        rintro e1 w1 ⟨rfl, hb1⟩
        have HB1 := Lib.hid (HB.out.trans (hb1.mono HB.out.size))
        clear hb1
        go_wp2_with fail
        go_ret
        exact ends_bool (by simp [askedOk, HTE.out, HTZ.out, *]) HB1.out
      · rcases Bool.eq_false_or_eq_true (s.op == 4) with h4 | h4
        · go_enter Tryz.func105, Tryz.ntmps105
          go_wp2_with fail
          refine (CE _ HB.out).out.mono ?_
          rintro e1 w1 ⟨rfl, hb1⟩
          have HB1 := Lib.hid (HB.out.trans (hb1.mono HB.out.size))
          clear hb1
          go_wp2_with fail
          go_ret
          exact ends_bool (by simp [askedOk, HTE.out, HTZ.out, *]) HB1.out
        · rcases Bool.eq_false_or_eq_true (s.op == 6) with h6 | h6
          · go_enter Tryz.func105, Tryz.ntmps105
            go_wp2_with fail
            refine (CE _ HB.out).out.mono ?_
            rintro e1 w1 ⟨rfl, hb1⟩
            have HB1 := Lib.hid (HB.out.trans (hb1.mono HB.out.size))
            clear hb1
            go_wp2_with fail
            go_ret
            exact ends_bool (by simp [askedOk, HTE.out, HTZ.out, *]) HB1.out
          · rcases Bool.eq_false_or_eq_true (s.op == 5) with h5 | h5
            · rcases Bool.eq_false_or_eq_true tz with ht | ht <;> subst ht
              · go_enter Tryz.func105, Tryz.ntmps105
                go_wp2_with fail
                refine (CZ _).out.mono ?_
                rintro e1 w1 ⟨rfl, hb1⟩
                have HB1 := Lib.hid (HB.out.trans (hb1.mono HB.out.size))
                clear hb1
                go_wp2_with fail
                go_ret
                exact ends_bool (by simp [askedOk, HTE.out, HTZ.out, *]) HB1.out
              · go_enter Tryz.func105, Tryz.ntmps105
                go_wp2_with fail
                refine (CZ _).out.mono ?_
                rintro e1 w1 ⟨rfl, hb1⟩
                have HB1 := Lib.hid (HB.out.trans (hb1.mono HB.out.size))
                have z2 := HA.out _ hb1 2
                have z3 := HA.out _ hb1 3
                have z4 := HA.out _ hb1 4
                have z5 := HA.out _ hb1 5
                have z6 := HA.out _ hb1 6
                simp only [List.getElem?_toArray, List.getElem?_cons_succ, List.getElem?_cons_zero] at z2 z3 z4 z5 z6
                clear hb1
                go_wp2_with fail
                refine (CE _ HB1.out).out.mono ?_
                rintro e2 w2 ⟨rfl, hb2⟩
                have HB2 := Lib.hid (HB1.out.trans (hb2.mono HB1.out.size))
                clear hb2
                go_wp2_with fail
                go_ret
                exact ends_bool (by simp [askedOk, HTE.out, HTZ.out, *]) HB2.out
            · rcases Bool.eq_false_or_eq_true (s.op == 7) with h7 | h7
              · rcases Bool.eq_false_or_eq_true (s.e.op == 4) with h10 | h10
                · go_enter Tryz.func105, Tryz.ntmps105
                  go_wp2_with fail
                  refine (CE _ HB.out).out.mono ?_
                  rintro e1 w1 ⟨rfl, hb1⟩
                  have HB1 := Lib.hid (HB.out.trans (hb1.mono HB.out.size))
                  clear hb1
                  go_wp2_with fail
                  go_ret
                  exact ends_bool (by simp [askedOk, HTE.out, HTZ.out, *]) HB1.out
                · go_enter Tryz.func105, Tryz.ntmps105
                  go_wp2_with fail
                  go_ret
                  exact ends_bool (by simp [askedOk, HTE.out, HTZ.out, *]) HB.out
              · rcases Bool.eq_false_or_eq_true (s.op == 8) with h8 | h8
                · go_enter Tryz.func105, Tryz.ntmps105
                  go_wp2_with fail
                  refine (CZ _).out.mono ?_
                  rintro e1 w1 ⟨rfl, hb1⟩
                  have HB1 := Lib.hid (HB.out.trans (hb1.mono HB.out.size))
                  clear hb1
                  go_wp2_with fail
                  go_ret
                  exact ends_bool (by simp [askedOk, HTE.out, HTZ.out, *]) HB1.out
                · rcases Bool.eq_false_or_eq_true (s.op == 9) with h9 | h9
                  · go_enter Tryz.func105, Tryz.ntmps105
                    go_wp2_with fail
                    refine (CZ _).out.mono ?_
                    rintro e1 w1 ⟨rfl, hb1⟩
                    have HB1 := Lib.hid (HB.out.trans (hb1.mono HB.out.size))
                    clear hb1
                    go_wp2_with fail
                    go_ret
                    exact ends_bool (by simp [askedOk, HTE.out, HTZ.out, *]) HB1.out
                  · go_enter Tryz.func105, Tryz.ntmps105
                    go_wp2_with fail
                    go_ret
                    exact ends_bool (by simp [askedOk, HTE.out, HTZ.out, *]) HB.out
set_option maxHeartbeats 4000000 in
theorem rightStmt_any (s : St) (w : World) (hin : NdS w s) : Calls Tryz.prog 63 #[stV s] w (EndsB (.bool (rStmt s)) w) := by
  have C1 := fun (w' : World) => Lib.hid (rightTarget_any s w' hin.s)
  have C2 := fun (w' : World) => Lib.hid (rightBlocks_any s w' hin.len hin.len2)
  have C3 := fun (w' : World) (hw : Below w.heap.size w w') => Lib.hid (rightAsked_any s w' (hin.e.below hw))
  have HA : Hid (∀ w1, Below (w.alloc (.cells #[.int .i64 s.op, .string s.s, .int .i64 s.e.op, .int .i64 s.e.n, .string s.e.s, .string s.e.q, .slice s.e.a s.e.x.length s.e.c, .slice s.a s.b.length s.c, .slice s.a2 s.b2.length s.c2] 47)).heap.size (w.alloc (.cells #[.int .i64 s.op, .string s.s, .int .i64 s.e.op, .int .i64 s.e.n, .string s.e.s, .string s.e.q, .slice s.e.a s.e.x.length s.e.c, .slice s.a s.b.length s.c, .slice s.a2 s.b2.length s.c2] 47)) w1 → ∀ i, w1.cell? ⟨w.heap.size, i, none⟩ = (#[.int .i64 s.op, .string s.s, .int .i64 s.e.op, .int .i64 s.e.n, .string s.e.s, .string s.e.q, .slice s.e.a s.e.x.length s.e.c, .slice s.a s.b.length s.c, .slice s.a2 s.b2.length s.c2] : Array Value)[i]?) := Lib.hid (fun w1 h1 i => one_at h1 i)
  have HB := Lib.hid (ball_new w #[.int .i64 s.op, .string s.s, .int .i64 s.e.op, .int .i64 s.e.n, .string s.e.s, .string s.e.q, .slice s.e.a s.e.x.length s.e.c, .slice s.a s.b.length s.c, .slice s.a2 s.b2.length s.c2] 47)
  rw [stV_eq] at C1 C2 C3 ⊢
  unfold rStmt
  clear hin
  generalize targetOk s = t1 at *
  generalize blocksOk s = t2 at *
  generalize askedOk s = t3 at *
  generalize s.e.x.length = k1 at *
  generalize s.b.length = k2 at *
  generalize s.b2.length = k3 at *
  go_enter Tryz.func63, Tryz.ntmps63
  go_wp2_with fail
  refine (C1 _).out.mono ?_
  rintro e1 w1 ⟨rfl, hb1⟩
  have HX1 := Lib.hid hb1
  have HB1 := Lib.hid (HB.out.trans (hb1.mono HB.out.size))
  have z0 := HA.out _ hb1 0
  have z1 := HA.out _ hb1 1
  have z2 := HA.out _ hb1 2
  have z3 := HA.out _ hb1 3
  have z4 := HA.out _ hb1 4
  have z5 := HA.out _ hb1 5
  have z6 := HA.out _ hb1 6
  have z7 := HA.out _ hb1 7
  have z8 := HA.out _ hb1 8
  simp only [List.getElem?_toArray, List.getElem?_cons_succ, List.getElem?_cons_zero] at z0 z1 z2 z3 z4 z5 z6 z7 z8
  clear hb1
  rcases Bool.eq_false_or_eq_true t1 with ht | ht <;> subst ht
  · go_wp2_with fail
    refine (C2 _).out.mono ?_
    rintro e2 w2 ⟨rfl, hb2⟩
    have HX2 := Lib.hid (HX1.out.trans (hb2.mono HX1.out.size))
    have HB2 := Lib.hid (HB1.out.trans (hb2.mono HB1.out.size))
    clear z0 z1 z2 z3 z4 z5 z6 z7 z8
    have z0 := HA.out _ HX2.out 0
    have z1 := HA.out _ HX2.out 1
    have z2 := HA.out _ HX2.out 2
    have z3 := HA.out _ HX2.out 3
    have z4 := HA.out _ HX2.out 4
    have z5 := HA.out _ HX2.out 5
    have z6 := HA.out _ HX2.out 6
    have z7 := HA.out _ HX2.out 7
    have z8 := HA.out _ HX2.out 8
    simp only [List.getElem?_toArray, List.getElem?_cons_succ, List.getElem?_cons_zero] at z0 z1 z2 z3 z4 z5 z6 z7 z8
    clear hb2
    rcases Bool.eq_false_or_eq_true t2 with ht | ht <;> subst ht
    · go_wp2_with fail
      refine (C3 _ HB2.out).out.mono ?_
      rintro e3 w3 ⟨rfl, hb3⟩
      have HB3 := Lib.hid (HB2.out.trans (hb3.mono HB2.out.size))
      clear hb3 z0 z1 z2 z3 z4 z5 z6 z7 z8
      go_wp2_with fail
      go_ret
      exact ends_bool (by simp) HB3.out
    · go_wp2_with fail
      go_ret
      exact ends_bool (by simp) HB2.out
  · go_wp2_with fail
    go_ret
    exact ends_bool (by simp) HB1.out
theorem any_yes {α : Type} {p : α → Bool} {l : List α} {k : Nat} {y : α} (hy : l[k]? = some y) (hp : p y = true) : l.any p = true := List.any_eq_true.2 ⟨y, List.mem_of_getElem? hy, hp⟩
theorem any_no {α : Type} {p : α → Bool} {l : List α} {k : Nat} {y : α} (hy : l[k]? = some y) (h : (l.take k).any p = false) (hp : p y = false) : (l.take (k + 1)).any p = false := by
  rw [List.take_add_one, hy, List.any_append, h]
  simp [hp]
set_option maxHeartbeats 4000000 in
theorem index_word (x : List ByteArray) (A : Option Addr) (c : Nat) (w : World) (hx : Row 1 txC w A x) (hl : x.length ≤ most) (CC : ∀ a ∈ x, ∀ w', Below w.heap.size w w' → Hid (Calls Tryz.prog 57 #[.string a] w' (EndsB (.bool (!wordB a)) w'))) :
    Calls Tryz.prog 101 #[.slice A x.length c, .func (.func 57) #[] #[]] w fun e w' => ∃ r : Int, e = .returned (.int .i64 r) ∧ decide (0 ≤ r) = x.any (fun a => !wordB a) ∧ -1 ≤ r ∧ r ≤ 9223372036854775807 ∧ Below w.heap.size w w' := by
  unfold most at hl
  have HX := Lib.hid hx
  have HC := Lib.hid CC
  clear hx CC
  obtain ⟨n, hn⟩ : ∃ n, x.length = n := ⟨_, rfl⟩
  rw [hn] at hl ⊢
  have HN := Lib.hid hn
  clear hn
  go_enter Tryz.func101, Tryz.ntmps101
  go_wp2
  go_loopw [8] (fun i wr => ∃ k : Nat, k ≤ n ∧ i = .int .i64 k ∧ Below w.heap.size w wr ∧ Hid ((x.take k).any (fun a => !wordB a) = false)) (fun i _ => n - (intOf i).toNat)
  case atStart => exact ⟨0, Nat.zero_le _, rfl, Below.refl _ _, Lib.hid rfl⟩
  case round =>
    obtain ⟨k, hk, rfl, hb, hs⟩ := hrel
    by_cases hlt : k < n
    · obtain ⟨a, ha⟩ : ∃ a, x[k]? = some a := ⟨_, List.getElem?_eq_getElem (by rw [HN.out]; exact hlt)⟩
      have C1 := HC.out a (List.mem_of_getElem? ha) wr hb
      obtain ⟨b1, o1, rfl, hc1⟩ := HX.out.at_ hb ha
      have p0 := hc1 0 _ rfl
      simp only [Nat.add_zero, Nat.mul_one] at p0
      have HA := Lib.hid ha
      clear hc1 ha
      obtain ⟨t, ht⟩ : ∃ t, (!wordB a) = t := ⟨_, rfl⟩
      rw [ht] at C1
      have HT := Lib.hid ht
      have HS := hs
      clear ht hs
      rcases Bool.eq_false_or_eq_true t with h9 | h9 <;> subst h9
      · go_wp2_with fail
        refine C1.out.mono ?_
        rintro e1 w1 ⟨rfl, hb1⟩
        have HB1 := Lib.hid (hb.trans (hb1.mono hb.size))
        clear hb1
        go_wp2_with fail
        go_ret
        exact ⟨k, rfl, by rw [any_yes HA.out HT.out]; simp, by omega, by omega, HB1.out⟩
      · go_wp2_with fail
        refine C1.out.mono ?_
        rintro e1 w1 ⟨rfl, hb1⟩
        have HB1 := Lib.hid (hb.trans (hb1.mono hb.size))
        clear hb1
        go_wp2_with fail
        go_roundw
        case rel => exact ⟨k + 1, by omega, rfl, HB1.out, Lib.hid (any_no HA.out HS.out HT.out)⟩
        case measure => simp [intOf]; omega
    · obtain rfl : k = n := by omega
      have HS := hs
      go_wp2_with fail
      go_ret
      have := HS.out
      rw [List.take_of_length_le (Nat.le_of_eq HN.out)] at this
      exact ⟨-1, rfl, by rw [this]; rfl, by omega, by omega, hb⟩
set_option maxHeartbeats 1000000 in
theorem contains_word (x : List ByteArray) (A : Option Addr) (c : Nat) (w : World) (hx : Row 1 txC w A x) (hl : x.length ≤ most) (CC : ∀ a ∈ x, ∀ w', Below w.heap.size w w' → Hid (Calls Tryz.prog 57 #[.string a] w' (EndsB (.bool (!wordB a)) w'))) :
    Calls Tryz.prog 56 #[.slice A x.length c, .func (.func 57) #[] #[]] w (EndsB (.bool (x.any (fun a => !wordB a))) w) := by
  have C := Lib.hid (index_word x A c w hx hl CC)
  clear hx hl CC
  generalize x.any (fun a => !wordB a) = t at *
  generalize x.length = n at *
  go_enter Tryz.func56, Tryz.ntmps56
  go_wp2_with fail
  refine C.out.mono ?_
  rintro e1 w1 ⟨r, rfl, hr, h1, h2, hb1⟩
  have HR := Lib.hid hr
  have HB1 := Lib.hid hb1
  clear hr h1 h2 hb1
  rcases Bool.eq_false_or_eq_true (decide (0 ≤ r)) with h3 | h3
  · have h4 : 0 ≤ r := by simpa using h3
    go_wp2_with fail
    go_ret
    exact ends_bool (by rw [← HR.out]; simp; omega) HB1.out
  · have h4 : ¬ 0 ≤ r := by simpa using h3
    go_wp2_with fail
    go_ret
    exact ends_bool (by rw [← HR.out]; simp; omega) HB1.out
set_option maxHeartbeats 4000000 in
theorem index_par (x : List Par) (A : Option Addr) (c : Nat) (w : World) (hx : Row 2 parC w A x) (hl : x.length ≤ most) (CC : ∀ a ∈ x, ∀ w', Below w.heap.size w w' → Hid (Calls Tryz.prog 61 #[parV a] w' (EndsB (.bool (wPar a)) w'))) :
    Calls Tryz.prog 102 #[.slice A x.length c, .func (.func 61) #[] #[]] w fun e w' => ∃ r : Int, e = .returned (.int .i64 r) ∧ decide (0 ≤ r) = x.any (fun a => wPar a) ∧ -1 ≤ r ∧ r ≤ 9223372036854775807 ∧ Below w.heap.size w w' := by
  unfold most at hl
  have HX := Lib.hid hx
  have HC := Lib.hid CC
  clear hx CC
  obtain ⟨n, hn⟩ : ∃ n, x.length = n := ⟨_, rfl⟩
  rw [hn] at hl ⊢
  have HN := Lib.hid hn
  clear hn
  go_enter Tryz.func102, Tryz.ntmps102
  go_wp2
  go_loopw [8] (fun i wr => ∃ k : Nat, k ≤ n ∧ i = .int .i64 k ∧ Below w.heap.size w wr ∧ Hid ((x.take k).any (fun a => wPar a) = false)) (fun i _ => n - (intOf i).toNat)
  case atStart => exact ⟨0, Nat.zero_le _, rfl, Below.refl _ _, Lib.hid rfl⟩
  case round =>
    obtain ⟨k, hk, rfl, hb, hs⟩ := hrel
    by_cases hlt : k < n
    · obtain ⟨a, ha⟩ : ∃ a, x[k]? = some a := ⟨_, List.getElem?_eq_getElem (by rw [HN.out]; exact hlt)⟩
      have C1 := HC.out a (List.mem_of_getElem? ha) wr hb
      obtain ⟨b1, o1, rfl, hc1⟩ := HX.out.at_ hb ha
      obtain ⟨p0, p1⟩ := parC_at hc1
      have HA := Lib.hid ha
      clear hc1 ha
      obtain ⟨t, ht⟩ : ∃ t, (wPar a) = t := ⟨_, rfl⟩
      rw [ht] at C1
      have HT := Lib.hid ht
      have HS := hs
      clear ht hs
      unfold parV at C1
      rcases Bool.eq_false_or_eq_true t with h9 | h9 <;> subst h9
      · go_wp2_with fail
        refine C1.out.mono ?_
        rintro e1 w1 ⟨rfl, hb1⟩
        have HB1 := Lib.hid (hb.trans (hb1.mono hb.size))
        clear hb1
        go_wp2_with fail
        go_ret
        exact ⟨k, rfl, by rw [any_yes HA.out HT.out]; simp, by omega, by omega, HB1.out⟩
      · go_wp2_with fail
        refine C1.out.mono ?_
        rintro e1 w1 ⟨rfl, hb1⟩
        have HB1 := Lib.hid (hb.trans (hb1.mono hb.size))
        clear hb1
        go_wp2_with fail
        go_roundw
        case rel => exact ⟨k + 1, by omega, rfl, HB1.out, Lib.hid (any_no HA.out HS.out HT.out)⟩
        case measure => simp [intOf]; omega
    · obtain rfl : k = n := by omega
      have HS := hs
      go_wp2_with fail
      go_ret
      have := HS.out
      rw [List.take_of_length_le (Nat.le_of_eq HN.out)] at this
      exact ⟨-1, rfl, by rw [this]; rfl, by omega, by omega, hb⟩
set_option maxHeartbeats 1000000 in
theorem contains_par (x : List Par) (A : Option Addr) (c : Nat) (w : World) (hx : Row 2 parC w A x) (hl : x.length ≤ most) (CC : ∀ a ∈ x, ∀ w', Below w.heap.size w w' → Hid (Calls Tryz.prog 61 #[parV a] w' (EndsB (.bool (wPar a)) w'))) :
    Calls Tryz.prog 60 #[.slice A x.length c, .func (.func 61) #[] #[]] w (EndsB (.bool (x.any (fun a => wPar a))) w) := by
  have C := Lib.hid (index_par x A c w hx hl CC)
  clear hx hl CC
  generalize x.any (fun a => wPar a) = t at *
  generalize x.length = n at *
  go_enter Tryz.func60, Tryz.ntmps60
  go_wp2_with fail
  refine C.out.mono ?_
  rintro e1 w1 ⟨r, rfl, hr, h1, h2, hb1⟩
  have HR := Lib.hid hr
  have HB1 := Lib.hid hb1
  clear hr h1 h2 hb1
  rcases Bool.eq_false_or_eq_true (decide (0 ≤ r)) with h3 | h3
  · have h4 : 0 ≤ r := by simpa using h3
    go_wp2_with fail
    go_ret
    exact ends_bool (by rw [← HR.out]; simp; omega) HB1.out
  · have h4 : ¬ 0 ≤ r := by simpa using h3
    go_wp2_with fail
    go_ret
    exact ends_bool (by rw [← HR.out]; simp; omega) HB1.out
end Go.Proofs.YtmihlmlojmdhjaaGreatDoor.Tre
