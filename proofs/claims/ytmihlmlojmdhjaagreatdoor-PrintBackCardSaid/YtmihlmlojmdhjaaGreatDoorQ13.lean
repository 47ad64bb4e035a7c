/-
  wrongFunc: is a function not right. Condition: the function lies in memory.
-/
import Derived.Test.YtmihlmlojmdhjaaGreatDoorQ06
import Derived.Test.YtmihlmlojmdhjaaGreatDoorQ12
namespace Go.Proofs.YtmihlmlojmdhjaaGreatDoor.Tre
open Go.RowKit
set_option maxRecDepth 100000
set_option linter.unusedSimpArgs false
attribute [local go_sem] Oper.semAt_some
/-- A function's answer, from its cell, where it has no mark. -/
theorem ends_cell0 {n : Nat} {fn : Func} {tmps : Array Value} {R : Ending → World → Prop} {g : Nat} {W : World} {v : Bool} (p : Tmp) (hres : fn.results = #[.cell p 4]) (hv : tmps.getD p undef = .pointer (some ⟨g, 0, none⟩)) (hc : W.heap[g]? = some (.cells #[.bool v] 4 (0, 0)))
    (h : R (.returned (.bool v)) W) : LeavesInM Fence.wide n Tryz.prog fn tmps R [] .returning W := ⟨_, results_bool hres _ _ g v hv (cell_at hc 0), h⟩
theorem box2_at {w w1 : World} {cs ds : Array Value} {T U : TypeId} (h : Below ((w.alloc (.cells cs T)).alloc (.cells ds U)).heap.size ((w.alloc (.cells cs T)).alloc (.cells ds U)) w1) :
    w1.heap[w.heap.size]? = some (.cells cs T (0, 0)) ∧ w1.heap[w.heap.size + 1]? = some (.cells ds U (0, 0)) := by
  have h0 : ((w.alloc (.cells cs T)).alloc (.cells ds U)).heap[w.heap.size]? = some (.cells cs T (0, 0)) := (Below.heap_alloc _ _ _ (by simp)).trans (new_at w cs T)
  have h1 : ((w.alloc (.cells cs T)).alloc (.cells ds U)).heap[w.heap.size + 1]? = some (.cells ds U (0, 0)) := by
    have := new_at (w.alloc (.cells cs T)) ds U
    rwa [World.size_alloc] at this
  exact ⟨(h.block _ (by simp; omega)).trans h0, (h.block _ (by simp)).trans h1⟩
theorem four_at {w : World} {b : Nat} {v0 v1 v2 v3 : Value} {T : TypeId} (h : w.heap[b]? = some (.cells #[v0, v1, v2, v3] T (0, 0))) :
    w.cell? ⟨b, 0, none⟩ = some v0 ∧ w.cell? ⟨b, 1, none⟩ = some v1 ∧ w.cell? ⟨b, 2, none⟩ = some v2 ∧ w.cell? ⟨b, 3, none⟩ = some v3 := ⟨cell_at h 0, cell_at h 1, cell_at h 2, cell_at h 3⟩
theorem all_one {α : Type} {p : α → Bool} {l : List α} {k : Nat} {y : α} (hy : l[k]? = some y) (h : (l.take k).all p = true) (hp : p y = true) : (l.take (k + 1)).all p = true := by
  rw [List.take_add_one, hy, List.all_append, h]
  simp [hp]
theorem all_none {α : Type} {p : α → Bool} {l : List α} {k : Nat} {y : α} (hy : l[k]? = some y) (hp : p y = false) : l.all p = false := by
  rw [List.all_eq_false]
  exact ⟨y, List.mem_of_getElem? hy, by rw [hp]; simp⟩
set_option maxHeartbeats 4000000 in
theorem wrongFunc_any (f : Fn) (w : World) (hin : FnIn w f) : Calls Tryz.prog 31 #[fnV f] w (EndsB (.bool (wFn f)) w) := by
  refine (callsIn_wide (n := 5)).1 ?_
  generalize 5 = m5
  rw [fnV_eq]
  have HIN := Lib.hid hin
  have hb2 : Below w.heap.size w ((w.alloc (.cells #[.string f.s, .slice f.pa f.p.length f.pc, .int .u8 f.r, .slice f.ba f.b.length f.bc] 36)).alloc (.cells #[.bool false] 4)) := ((Below.refl _ w).alloc (Nat.le_refl _) _).alloc (by simp) _
  have HB0 := Lib.hid hb2
  have C1 := Lib.hid (callsIn_wide (n := m5 - 1) |>.2 (lexName f.s ((w.alloc (.cells #[.string f.s, .slice f.pa f.p.length f.pc, .int .u8 f.r, .slice f.ba f.b.length f.bc] 36)).alloc (.cells #[.bool false] 4)) hin.s))
  have C2 := fun (w' : World) (hw : Below w.heap.size w w') => Lib.hid (callsIn_wide (n := m5 - 1) |>.2 (contains_par f.p f.pa f.pc w' (hin.p.below hw) hin.plen (fun a ha w2 _ => Lib.hid (wrongParam_any a w2 (hin.ps a ha)))))
  have C3 := fun (w' : World) => Lib.hid (callsIn_wide (n := m5 - 1) |>.2 (valued_any f.r w'))
  have HBOX : Hid (∀ w1, Below ((w.alloc (.cells #[.string f.s, .slice f.pa f.p.length f.pc, .int .u8 f.r, .slice f.ba f.b.length f.bc] 36)).alloc (.cells #[.bool false] 4)).heap.size ((w.alloc (.cells #[.string f.s, .slice f.pa f.p.length f.pc, .int .u8 f.r, .slice f.ba f.b.length f.bc] 36)).alloc (.cells #[.bool false] 4)) w1 → w1.heap[w.heap.size]? = some (.cells #[.string f.s, .slice f.pa f.p.length f.pc, .int .u8 f.r, .slice f.ba f.b.length f.bc] 36 (0, 0)) ∧ w1.heap[w.heap.size + 1]? = some (.cells #[.bool false] 4 (0, 0))) := Lib.hid (fun w1 h1 => box2_at h1)
  have hplen := hin.plen
  unfold most at hplen
  obtain ⟨tn, htn⟩ : ∃ t, nameB f.s = t := ⟨_, rfl⟩
  obtain ⟨tp, htp⟩ : ∃ t, f.p.any (fun a => wPar a) = t := ⟨_, rfl⟩
  obtain ⟨tv, htv⟩ : ∃ t, valB f.r = t := ⟨_, rfl⟩
  obtain ⟨np, hnp⟩ : ∃ n, f.p.length = n := ⟨_, rfl⟩
  have HTN := Lib.hid htn
  have HTP : Hid (f.p.any wPar = tp) := Lib.hid htp
  have HTV := Lib.hid htv
  have HNP := Lib.hid hnp
  have HFLAT : Hid (wFn f = (!tn || decide (4 < np) || tp || ((f.r != 0) && !tv) || !(flatB f.b).all rStmt)) := Lib.hid (by unfold wFn; rw [htn, htv, hnp, ← htp]; rfl)
  rw [htn] at C1
  rw [htp] at C2
  rw [htv] at C3
  have HSTS : Hid (∀ s ∈ flatB f.b, NdS w s) := Lib.hid (fun s hs => sts_mem hin.sts hs)
  clear htn htp htv hb2 hin
  rw [hnp] at C1 C2 HBOX hplen HB0 ⊢
  clear hnp
  refine callsIn_of_wp_marks Tryz.func31 rfl trivial ?_ rfl
  simp only [Tryz.ntmps31, List.size_toArray, List.length_cons, List.length_nil, Nat.reduceAdd, Nat.reduceSub, Array.replicate_succ, Array.replicate_zero, List.push_toArray, List.append_toArray, List.nil_append, List.cons_append]
  gi_wp2
  refine ⟨trivial, (fun h => by cases h), ?_⟩
  refine C1.out.mono ?_
  rintro e2 w2 ⟨rfl, hb2⟩
  have HX2 := Lib.hid hb2
  have HB2 := Lib.hid (HB0.out.trans (hb2.mono HB0.out.size))
  obtain ⟨z0, z1, z2, z3⟩ := four_at (HBOX.out w2 hb2).1
  have HC2 := Lib.hid (HBOX.out w2 hb2).2
  have r0 := cell_at HC2.out 0
  simp only [List.getElem?_toArray, List.getElem?_cons_zero] at r0
  have r1 := free_at HC2.out 0
  clear hb2 C1
  rcases Bool.eq_false_or_eq_true tn with h9 | h9 <;> subst h9
  · by_cases h4 : 4 < np
    · gi_wp2
      refine ⟨trivial, ?_⟩
      gi_wp2
      refine ends_cell0 (g := w.heap.size + 1) (v := true) 2 rfl rfl (set_at HC2.out 0 _) ?_
      refine ⟨by rw [HFLAT.out]; simp [h4], HB2.out.setCell (p := ⟨w.heap.size + 1, 0, none⟩) (Nat.le_succ _) _⟩
    · have HN4 := Lib.hid h4
      gi_wp2
      refine ⟨trivial, (fun h => by cases h), ?_⟩
      refine (C2 _ HB2.out).out.mono ?_
      rintro e3 w3 ⟨rfl, hb3⟩
      have HX3 := Lib.hid (HX2.out.trans (hb3.mono HX2.out.size))
      have HB3 := Lib.hid (HB0.out.trans (HX3.out.mono HB0.out.size))
      clear z0 z1 z2 z3 r0 r1
      obtain ⟨z0, z1, z2, z3⟩ := four_at (HBOX.out w3 HX3.out).1
      have HC3 := Lib.hid (HBOX.out w3 HX3.out).2
      have r0 := cell_at HC3.out 0
      simp only [List.getElem?_toArray, List.getElem?_cons_zero] at r0
      have r1 := free_at HC3.out 0
      clear hb3 C2 h4
      rcases Bool.eq_false_or_eq_true tp with h9 | h9 <;> subst h9
      · gi_wp2
        refine ends_cell0 (g := w.heap.size + 1) (v := true) 2 rfl rfl (set_at HC3.out 0 _) ?_
        refine ⟨by rw [HFLAT.out]; simp, HB3.out.setCell (p := ⟨w.heap.size + 1, 0, none⟩) (Nat.le_succ _) _⟩
      · rcases Bool.eq_false_or_eq_true (f.r != 0) with h0 | h0
        · gi_wp2
          refine ⟨trivial, (fun h => by cases h), ?_⟩
          refine (C3 _).out.mono ?_
          rintro e4 w4 ⟨rfl, hw4⟩
          have hw4 := hw4.symm
          subst hw4
          rcases Bool.eq_false_or_eq_true tv with h9 | h9 <;> subst h9
          · gi_wp2
            refine ⟨trivial, (fun h => by cases h), ?_⟩
            have HF2 : Hid (wFn f = !(flatB f.b).all rStmt) := Lib.hid (by rw [HFLAT.out, h0]; simp [HN4.out])
            refine (statements_any Fence.wide _ trivial rfl f.ba f.b.length f.bc w3).mono ?_
            rintro e5 w5 ⟨rfl, rfl⟩
            obtain ⟨W4, hW4⟩ : ∃ W4, w3.alloc (.cells #[.slice f.ba f.b.length f.bc] 34) = W4 := ⟨_, rfl⟩
            have hb4 : Below w3.heap.size w3 W4 := by rw [← hW4]; exact ball_new _ _ _
            have HB4 := Lib.hid (HB3.out.trans (hb4.mono HB3.out.size))
            have HN4' : Hid (W4.heap[w3.heap.size]? = some (.cells #[.slice f.ba f.b.length f.bc] 34 (0, 0))) := Lib.hid (by rw [← hW4]; exact new_at _ _ _)
            have HC4 := Lib.hid ((hb4.block _ (lt_of_heap HC3.out)).trans HC3.out)
            have HSZ : Hid (w.heap.size + 2 ≤ W4.heap.size) := Lib.hid (by have := lt_of_heap HC4.out; omega)
            have HW4 := Lib.hid hW4
            clear hb4 hW4 z0 z1 z2 z3 r0 r1
            gi_wp2
            rw [HW4.out]
            refine wp_over (c0 := w.heap.size) (caps := []) (S := fun b => b = w.heap.size + 1) (hi := w.heap.size + 2) (vals := (flatB f.b).map stV) (w0 := W4) (gf := 97) (lb := #[.pointer (some ⟨w3.heap.size, 0, none⟩)]) rfl (enters_of Tryz.func97 (by kernel_rfl) rfl)
              (statements_gives w f.b f.ba f.bc HIN.out.b HIN.out.blen HIN.out.sts w3.heap.size W4 (Low.below HB4.out) HN4'.out) (Below.refl _ _) rfl
              (fun b hb => by subst hb; exact ⟨by omega, by omega⟩) HSZ.out (fun b hb => by cases hb)
              (I := fun k W' => Below w.heap.size w W' ∧ W'.heap[w.heap.size + 1]? = some (.cells #[.bool false] 4 (0, 0)) ∧ ((flatB f.b).take k).all rStmt = true ∧ W4.heap.size ≤ W'.heap.size)
              (Ix := fun c W' => c = .ret ∧ Below w.heap.size w W' ∧ W'.heap[w.heap.size + 1]? = some (.cells #[.bool true] 4 (0, 0)) ∧ (flatB f.b).all rStmt = false)
              (A := fun k a' W' => ∃ (s : St) (Bx : Nat) (u0 u4 u5 u6 u7 u8 u9 u10 u11 u12 u13 u14 u15 u16 u17 u18 u19 u20 u21 u22 u23 u24 u25 u26 u27 u28 u29 u30 : Value), (flatB f.b)[k]? = some s ∧ a' = { tmps := #[u0, .pointer (some ⟨w.heap.size, 0, none⟩), .pointer (some ⟨w.heap.size + 1, 0, none⟩), .pointer (some ⟨Bx, 0, none⟩), u4, u5, u6, u7, u8, u9, u10, u11, u12, u13, u14, u15, u16, u17, u18, u19, u20, u21, u22, u23, u24, u25, u26, u27, u28, u29, u30, .agg #[.int .i64 s.op, .string s.s, .int .i64 s.e.op, .int .i64 s.e.n, .string s.e.s, .string s.e.q, .slice s.e.a s.e.x.length s.e.c, .slice s.a s.b.length s.c, .slice s.a2 s.b2.length s.c2], undef, undef, undef], defers := [] } ∧ W'.heap[Bx]? = some (.cells #[.int .i64 s.op, .string s.s, .int .i64 s.e.op, .int .i64 s.e.n, .string s.e.s, .string s.e.q, .slice s.e.a s.e.x.length s.e.c, .slice s.a s.b.length s.c, .slice s.a2 s.b2.length s.c2] 47 (0, 0)) ∧ W4.heap.size ≤ Bx ∧ Below w.heap.size w W' ∧ W'.heap[w.heap.size + 1]? = some (.cells #[.bool false] 4 (0, 0)) ∧ ((flatB f.b).take k).all rStmt = true ∧ W4.heap.size ≤ W'.heap.size)
              ?ownI ?ownX ?ownA ?start ?assign ?body ?done ?stop
            case ownI =>
              rintro k X Y row ⟨h1, h2, h3, h4⟩ hg hr
              have hs := HSZ.out
              exact ⟨h1.grown hg h1.size (fun r e => by have := hr r e; omega), (hg.block _ (lt_of_heap h2) (fun e => by have := hr _ e.symm; omega)).trans h2, h3, Nat.le_trans h4 hg.size⟩
            case ownX =>
              rintro c' k X Y row ⟨h0, h1, h2, h3⟩ hg hr
              have hs := HSZ.out
              exact ⟨h0, h1.grown hg h1.size (fun r e => by have := hr r e; omega), (hg.block _ (lt_of_heap h2) (fun e => by have := hr _ e.symm; omega)).trans h2, h3⟩
            case ownA =>
              rintro k a' _ X Y row ⟨s, Bx, u0, u4, u5, u6, u7, u8, u9, u10, u11, u12, u13, u14, u15, u16, u17, u18, u19, u20, u21, u22, u23, u24, u25, u26, u27, u28, u29, u30, q1, q2, q3, q4, h1, h2, h3, h4⟩ hg hr
              have hs := HSZ.out
              exact ⟨s, Bx, u0, u4, u5, u6, u7, u8, u9, u10, u11, u12, u13, u14, u15, u16, u17, u18, u19, u20, u21, u22, u23, u24, u25, u26, u27, u28, u29, u30, q1, q2, cells_grown hg (fun r e => (hr r e).2) q3, q4, h1.grown hg h1.size (fun r e => by have := (hr r e).1; omega), cells_grown hg (fun r e => (hr r e).2) h2, h3, Nat.le_trans h4 hg.size⟩
            case start => exact ⟨HB4.out, HC4.out, rfl, Nat.le_refl _⟩
            case assign =>
              rintro l2 k v m2 W5 hv ⟨h1, h2, h3, h4⟩
              obtain ⟨s, hy9, rfl⟩ : ∃ s, (flatB f.b)[k]? = some s ∧ stV s = v := by simpa using hv
              have hb := ball_new W5 #[.int .i64 s.op, .string s.s, .int .i64 s.e.op, .int .i64 s.e.n, .string s.e.s, .string s.e.q, .slice s.e.a s.e.x.length s.e.c, .slice s.a s.b.length s.c, .slice s.a2 s.b2.length s.c2] 47
              have G1 := Lib.hid (h1.trans (hb.mono h1.size))
              have G2 := Lib.hid ((hb.block _ (lt_of_heap h2)).trans h2)
              have G3 := Lib.hid h3
              have G4 := Lib.hid h4
              have G5 := Lib.hid hy9
              have G6 := Lib.hid (new_at W5 #[.int .i64 s.op, .string s.s, .int .i64 s.e.op, .int .i64 s.e.n, .string s.e.s, .string s.e.q, .slice s.e.a s.e.x.length s.e.c, .slice s.a s.b.length s.c, .slice s.a2 s.b2.length s.c2] 47)
              rw [stV_eq]
              clear h1 h2 h3 h4 hv hy9 hb
              gi_wp2
              exact ⟨Keep.alloc _, s, _, _, _, _, _, _, _, _, _, _, _, _, _, _, _, _, _, _, _, _, _, _, _, _, _, _, _, _, _, G5.out, rfl, G6.out, G4.out, G1.out, G2.out, G3.out, Nat.le_trans G4.out (by simp)⟩
            case body =>
              rintro l2 k v m2 a' W5 _ _ _ ⟨s, Bx, u0, u4, u5, u6, u7, u8, u9, u10, u11, u12, u13, u14, u15, u16, u17, u18, u19, u20, u21, u22, u23, u24, u25, u26, u27, u28, u29, u30, hy9, rfl, hby, hBy, h1, h2, h3, h4⟩
              have ⟨x0, x1, x2, x3, x4, x5, x6, x7, x8⟩ := nine_at hby
              have HY := Lib.hid hy9
              have H1 := Lib.hid h1
              have H2 := Lib.hid h2
              have H3 := Lib.hid h3
              have H4 := Lib.hid h4
              have C5 := Lib.hid (CallsIn.inRound l2 (callsIn_wide (n := m2 - 1) |>.2 (rightStmt_any s W5 ((HSTS.out s (List.mem_of_getElem? hy9)).below h1))))
              rw [stV_eq] at C5
              obtain ⟨t1, ht1⟩ : ∃ t, rStmt s = t := ⟨_, rfl⟩
              rw [ht1] at C5
              have HT := Lib.hid ht1
              clear hy9 hby hBy h1 h2 h3 h4 ht1
              gi_wp2
              refine ⟨trivial, (fun h => by cases h), ?_⟩
              refine C5.out.mono ?_
              rintro e1 w6 ⟨rfl, hb1⟩
              have K1 := Lib.hid hb1
              have Z := Lib.hid ((hb1.block _ (lt_of_heap H2.out)).trans H2.out)
              have zz := cell_at Z.out 0
              simp only [List.getElem?_toArray, List.getElem?_cons_zero] at zz
              have fz := free_at Z.out 0
              clear hb1 x0 x1 x2 x3 x4 x5 x6 x7 x8
              rcases Bool.eq_false_or_eq_true t1 with h9 | h9 <;> subst h9
              · gi_wp2
                exact ⟨Keep.below K1.out, H1.out.trans (K1.out.mono H1.out.size), Z.out, all_one HY.out H3.out HT.out, Nat.le_trans H4.out K1.out.size⟩
              · gi_wp2
                exact ⟨(Keep.below K1.out).trans (Keep.set rfl Z.out), rfl, (H1.out.trans (K1.out.mono H1.out.size)).setCell (p := ⟨w.heap.size + 1, 0, none⟩) (Nat.le_succ _) _, set_at Z.out 0 _, all_none HY.out HT.out⟩
            case done =>
              rintro D W5 hD ⟨h1, h2, h3, h4⟩ hd
              have zz := cell_at h2 0
              simp only [List.getElem?_toArray, List.getElem?_cons_zero] at zz
              have fz := free_at h2 0
              have G1 := Lib.hid h1
              have G2 := Lib.hid h2
              rw [List.length_map, List.take_length] at h3
              have G3 := Lib.hid h3
              have G4 := Lib.hid hd
              have G5 : Hid (w.heap.size + 2 ≤ D) := Lib.hid (by have := HSZ.out; omega)
              clear h1 h2 h3 h4 hd hD
              gi_wp2
              have hne : D ≠ w.heap.size + 1 := by have := G5.out; omega
              refine ends_cell (D := D) (g := w.heap.size + 1) (v := false) (other_at G4.out hne _ _) 2 rfl rfl (set_at G2.out 0 _) ?_
              refine ⟨by rw [HF2.out, G3.out]; rfl, ?_⟩
              have hz := G1.out.setCell (p := ⟨w.heap.size + 1, 0, none⟩) (Nat.le_succ _) (.bool false)
              exact hz.grown (grownBy_putObj' _ D _) hz.size (fun k e => by cases e; have := G5.out; omega)
            case stop =>
              rintro D c' W5 hD ⟨rfl, h1, h2, h3⟩ hd
              have G1 := Lib.hid h1
              have G2 := Lib.hid h2
              have G3 := Lib.hid h3
              have G4 := Lib.hid hd
              have G5 : Hid (w.heap.size + 2 ≤ D) := Lib.hid (by have := HSZ.out; omega)
              clear h1 h2 h3 hd hD
              gi_wp2
              refine ends_cell (D := D) (g := w.heap.size + 1) (v := true) G4.out 2 rfl rfl G2.out ?_
              exact ⟨by rw [HF2.out, G3.out]; rfl, G1.out.grown (grownBy_putObj' _ D _) G1.out.size (fun k e => by cases e; have := G5.out; omega)⟩
          · gi_wp2
            refine ends_cell0 (g := w.heap.size + 1) (v := true) 2 rfl rfl (set_at HC3.out 0 _) ?_
            refine ⟨by rw [HFLAT.out, h0]; simp, HB3.out.setCell (p := ⟨w.heap.size + 1, 0, none⟩) (Nat.le_succ _) _⟩
        · gi_wp2
          refine ⟨trivial, ?_⟩
          gi_wp2
          refine ⟨trivial, (fun h => by cases h), ?_⟩
          have HF2 : Hid (wFn f = !(flatB f.b).all rStmt) := Lib.hid (by rw [HFLAT.out, h0]; simp [HN4.out])
          clear h0
          refine (statements_any Fence.wide _ trivial rfl f.ba f.b.length f.bc w3).mono ?_
          rintro e5 w5 ⟨rfl, rfl⟩
          obtain ⟨W4, hW4⟩ : ∃ W4, w3.alloc (.cells #[.slice f.ba f.b.length f.bc] 34) = W4 := ⟨_, rfl⟩
          have hb4 : Below w3.heap.size w3 W4 := by rw [← hW4]; exact ball_new _ _ _
          have HB4 := Lib.hid (HB3.out.trans (hb4.mono HB3.out.size))
          have HN4' : Hid (W4.heap[w3.heap.size]? = some (.cells #[.slice f.ba f.b.length f.bc] 34 (0, 0))) := Lib.hid (by rw [← hW4]; exact new_at _ _ _)
          have HC4 := Lib.hid ((hb4.block _ (lt_of_heap HC3.out)).trans HC3.out)
          have HSZ : Hid (w.heap.size + 2 ≤ W4.heap.size) := Lib.hid (by have := lt_of_heap HC4.out; omega)
          have HW4 := Lib.hid hW4
          clear hb4 hW4 z0 z1 z2 z3 r0 r1
          gi_wp2
          rw [HW4.out]
          refine wp_over (c0 := w.heap.size) (caps := []) (S := fun b => b = w.heap.size + 1) (hi := w.heap.size + 2) (vals := (flatB f.b).map stV) (w0 := W4) (gf := 97) (lb := #[.pointer (some ⟨w3.heap.size, 0, none⟩)]) rfl (enters_of Tryz.func97 (by kernel_rfl) rfl)
            (statements_gives w f.b f.ba f.bc HIN.out.b HIN.out.blen HIN.out.sts w3.heap.size W4 (Low.below HB4.out) HN4'.out) (Below.refl _ _) rfl
            (fun b hb => by subst hb; exact ⟨by omega, by omega⟩) HSZ.out (fun b hb => by cases hb)
            (I := fun k W' => Below w.heap.size w W' ∧ W'.heap[w.heap.size + 1]? = some (.cells #[.bool false] 4 (0, 0)) ∧ ((flatB f.b).take k).all rStmt = true ∧ W4.heap.size ≤ W'.heap.size)
            (Ix := fun c W' => c = .ret ∧ Below w.heap.size w W' ∧ W'.heap[w.heap.size + 1]? = some (.cells #[.bool true] 4 (0, 0)) ∧ (flatB f.b).all rStmt = false)
            (A := fun k a' W' => ∃ (s : St) (Bx : Nat) (u0 u4 u5 u6 u7 u8 u9 u10 u11 u12 u13 u14 u15 u16 u17 u18 u19 u20 u21 u22 u23 u24 u25 u26 u27 u28 u29 u30 : Value), (flatB f.b)[k]? = some s ∧ a' = { tmps := #[u0, .pointer (some ⟨w.heap.size, 0, none⟩), .pointer (some ⟨w.heap.size + 1, 0, none⟩), .pointer (some ⟨Bx, 0, none⟩), u4, u5, u6, u7, u8, u9, u10, u11, u12, u13, u14, u15, u16, u17, u18, u19, u20, u21, u22, u23, u24, u25, u26, u27, u28, u29, u30, .agg #[.int .i64 s.op, .string s.s, .int .i64 s.e.op, .int .i64 s.e.n, .string s.e.s, .string s.e.q, .slice s.e.a s.e.x.length s.e.c, .slice s.a s.b.length s.c, .slice s.a2 s.b2.length s.c2], undef, undef, undef], defers := [] } ∧ W'.heap[Bx]? = some (.cells #[.int .i64 s.op, .string s.s, .int .i64 s.e.op, .int .i64 s.e.n, .string s.e.s, .string s.e.q, .slice s.e.a s.e.x.length s.e.c, .slice s.a s.b.length s.c, .slice s.a2 s.b2.length s.c2] 47 (0, 0)) ∧ W4.heap.size ≤ Bx ∧ Below w.heap.size w W' ∧ W'.heap[w.heap.size + 1]? = some (.cells #[.bool false] 4 (0, 0)) ∧ ((flatB f.b).take k).all rStmt = true ∧ W4.heap.size ≤ W'.heap.size)
            ?ownI ?ownX ?ownA ?start ?assign ?body ?done ?stop
          case ownI =>
            rintro k X Y row ⟨h1, h2, h3, h4⟩ hg hr
            have hs := HSZ.out
            exact ⟨h1.grown hg h1.size (fun r e => by have := hr r e; omega), (hg.block _ (lt_of_heap h2) (fun e => by have := hr _ e.symm; omega)).trans h2, h3, Nat.le_trans h4 hg.size⟩
          case ownX =>
            rintro c' k X Y row ⟨h0, h1, h2, h3⟩ hg hr
            have hs := HSZ.out
            exact ⟨h0, h1.grown hg h1.size (fun r e => by have := hr r e; omega), (hg.block _ (lt_of_heap h2) (fun e => by have := hr _ e.symm; omega)).trans h2, h3⟩
          case ownA =>
            rintro k a' _ X Y row ⟨s, Bx, u0, u4, u5, u6, u7, u8, u9, u10, u11, u12, u13, u14, u15, u16, u17, u18, u19, u20, u21, u22, u23, u24, u25, u26, u27, u28, u29, u30, q1, q2, q3, q4, h1, h2, h3, h4⟩ hg hr
            have hs := HSZ.out
            exact ⟨s, Bx, u0, u4, u5, u6, u7, u8, u9, u10, u11, u12, u13, u14, u15, u16, u17, u18, u19, u20, u21, u22, u23, u24, u25, u26, u27, u28, u29, u30, q1, q2, cells_grown hg (fun r e => (hr r e).2) q3, q4, h1.grown hg h1.size (fun r e => by have := (hr r e).1; omega), cells_grown hg (fun r e => (hr r e).2) h2, h3, Nat.le_trans h4 hg.size⟩
          case start => exact ⟨HB4.out, HC4.out, rfl, Nat.le_refl _⟩
          case assign =>
            rintro l2 k v m2 W5 hv ⟨h1, h2, h3, h4⟩
            obtain ⟨s, hy9, rfl⟩ : ∃ s, (flatB f.b)[k]? = some s ∧ stV s = v := by simpa using hv
            have hb := ball_new W5 #[.int .i64 s.op, .string s.s, .int .i64 s.e.op, .int .i64 s.e.n, .string s.e.s, .string s.e.q, .slice s.e.a s.e.x.length s.e.c, .slice s.a s.b.length s.c, .slice s.a2 s.b2.length s.c2] 47
            have G1 := Lib.hid (h1.trans (hb.mono h1.size))
            have G2 := Lib.hid ((hb.block _ (lt_of_heap h2)).trans h2)
            have G3 := Lib.hid h3
            have G4 := Lib.hid h4
            have G5 := Lib.hid hy9
            have G6 := Lib.hid (new_at W5 #[.int .i64 s.op, .string s.s, .int .i64 s.e.op, .int .i64 s.e.n, .string s.e.s, .string s.e.q, .slice s.e.a s.e.x.length s.e.c, .slice s.a s.b.length s.c, .slice s.a2 s.b2.length s.c2] 47)
            rw [stV_eq]
            clear h1 h2 h3 h4 hv hy9 hb
            gi_wp2
            exact ⟨Keep.alloc _, s, _, _, _, _, _, _, _, _, _, _, _, _, _, _, _, _, _, _, _, _, _, _, _, _, _, _, _, _, _, G5.out, rfl, G6.out, G4.out, G1.out, G2.out, G3.out, Nat.le_trans G4.out (by simp)⟩
          case body =>
            rintro l2 k v m2 a' W5 _ _ _ ⟨s, Bx, u0, u4, u5, u6, u7, u8, u9, u10, u11, u12, u13, u14, u15, u16, u17, u18, u19, u20, u21, u22, u23, u24, u25, u26, u27, u28, u29, u30, hy9, rfl, hby, hBy, h1, h2, h3, h4⟩
            have ⟨x0, x1, x2, x3, x4, x5, x6, x7, x8⟩ := nine_at hby
            have HY := Lib.hid hy9
            have H1 := Lib.hid h1
            have H2 := Lib.hid h2
            have H3 := Lib.hid h3
            have H4 := Lib.hid h4
            have C5 := Lib.hid (CallsIn.inRound l2 (callsIn_wide (n := m2 - 1) |>.2 (rightStmt_any s W5 ((HSTS.out s (List.mem_of_getElem? hy9)).below h1))))
            rw [stV_eq] at C5
            obtain ⟨t1, ht1⟩ : ∃ t, rStmt s = t := ⟨_, rfl⟩
            rw [ht1] at C5
            have HT := Lib.hid ht1
            clear hy9 hby hBy h1 h2 h3 h4 ht1
            gi_wp2
            refine ⟨trivial, (fun h => by cases h), ?_⟩
            refine C5.out.mono ?_
            rintro e1 w6 ⟨rfl, hb1⟩
            have K1 := Lib.hid hb1
            have Z := Lib.hid ((hb1.block _ (lt_of_heap H2.out)).trans H2.out)
            have zz := cell_at Z.out 0
            simp only [List.getElem?_toArray, List.getElem?_cons_zero] at zz
            have fz := free_at Z.out 0
            clear hb1 x0 x1 x2 x3 x4 x5 x6 x7 x8
            rcases Bool.eq_false_or_eq_true t1 with h9 | h9 <;> subst h9
            · gi_wp2
              exact ⟨Keep.below K1.out, H1.out.trans (K1.out.mono H1.out.size), Z.out, all_one HY.out H3.out HT.out, Nat.le_trans H4.out K1.out.size⟩
            · gi_wp2
              exact ⟨(Keep.below K1.out).trans (Keep.set rfl Z.out), rfl, (H1.out.trans (K1.out.mono H1.out.size)).setCell (p := ⟨w.heap.size + 1, 0, none⟩) (Nat.le_succ _) _, set_at Z.out 0 _, all_none HY.out HT.out⟩
          case done =>
            rintro D W5 hD ⟨h1, h2, h3, h4⟩ hd
            have zz := cell_at h2 0
            simp only [List.getElem?_toArray, List.getElem?_cons_zero] at zz
            have fz := free_at h2 0
            have G1 := Lib.hid h1
            have G2 := Lib.hid h2
            rw [List.length_map, List.take_length] at h3
            have G3 := Lib.hid h3
            have G4 := Lib.hid hd
            have G5 : Hid (w.heap.size + 2 ≤ D) := Lib.hid (by have := HSZ.out; omega)
            clear h1 h2 h3 h4 hd hD
            gi_wp2
            have hne : D ≠ w.heap.size + 1 := by have := G5.out; omega
            refine ends_cell (D := D) (g := w.heap.size + 1) (v := false) (other_at G4.out hne _ _) 2 rfl rfl (set_at G2.out 0 _) ?_
            refine ⟨by rw [HF2.out, G3.out]; rfl, ?_⟩
            have hz := G1.out.setCell (p := ⟨w.heap.size + 1, 0, none⟩) (Nat.le_succ _) (.bool false)
            exact hz.grown (grownBy_putObj' _ D _) hz.size (fun k e => by cases e; have := G5.out; omega)
          case stop =>
            rintro D c' W5 hD ⟨rfl, h1, h2, h3⟩ hd
            have G1 := Lib.hid h1
            have G2 := Lib.hid h2
            have G3 := Lib.hid h3
            have G4 := Lib.hid hd
            have G5 : Hid (w.heap.size + 2 ≤ D) := Lib.hid (by have := HSZ.out; omega)
            clear h1 h2 h3 hd hD
            gi_wp2
            refine ends_cell (D := D) (g := w.heap.size + 1) (v := true) G4.out 2 rfl rfl G2.out ?_
            exact ⟨by rw [HF2.out, G3.out]; rfl, G1.out.grown (grownBy_putObj' _ D _) G1.out.size (fun k e => by cases e; have := G5.out; omega)⟩
  · gi_wp2
    refine ⟨trivial, ?_⟩
    gi_wp2
    refine ends_cell0 (g := w.heap.size + 1) (v := true) 2 rfl rfl (set_at HC2.out 0 _) ?_
    refine ⟨by rw [HFLAT.out]; simp, HB2.out.setCell (p := ⟨w.heap.size + 1, 0, none⟩) (Nat.le_succ _) _⟩
end Go.Proofs.YtmihlmlojmdhjaaGreatDoor.Tre
/- rightHead, Right: is a file one that a text may stand for. Condition: the file lies in memory. -/
namespace Go.Proofs.YtmihlmlojmdhjaaGreatDoor.Tre
open Go.RowKit
set_option maxRecDepth 100000
set_option linter.unusedSimpArgs false
set_option maxHeartbeats 4000000 in
theorem index_fn (x : List Fn) (A : Option Addr) (c : Nat) (w : World) (hx : Row 4 fnC w A x) (hl : x.length ≤ most) (CC : ∀ a ∈ x, ∀ w', Below w.heap.size w w' → Hid (Calls Tryz.prog 31 #[fnV a] w' (EndsB (.bool (wFn a)) w'))) :
    Calls Tryz.prog 58 #[.slice A x.length c, .func (.func 31) #[] #[]] w fun e w' => ∃ r : Int, e = .returned (.int .i64 r) ∧ decide (0 ≤ r) = x.any (fun a => wFn a) ∧ -1 ≤ r ∧ r ≤ 9223372036854775807 ∧ Below w.heap.size w w' := by
  unfold most at hl
  have HX := Lib.hid hx
  have HC := Lib.hid CC
  clear hx CC
  obtain ⟨n, hn⟩ : ∃ n, x.length = n := ⟨_, rfl⟩
  rw [hn] at hl ⊢
  have HN := Lib.hid hn
  clear hn
  go_enter Tryz.func58, Tryz.ntmps58
  go_wp2
  go_loopw [8] (fun i wr => ∃ k : Nat, k ≤ n ∧ i = .int .i64 k ∧ Below w.heap.size w wr ∧ Hid ((x.take k).any (fun a => wFn a) = false)) (fun i _ => n - (intOf i).toNat)
  case atStart => exact ⟨0, Nat.zero_le _, rfl, Below.refl _ _, Lib.hid rfl⟩
  case round =>
    obtain ⟨k, hk, rfl, hb, hs⟩ := hrel
    by_cases hlt : k < n
    · obtain ⟨a, ha⟩ : ∃ a, x[k]? = some a := ⟨_, List.getElem?_eq_getElem (by rw [HN.out]; exact hlt)⟩
      have C1 := HC.out a (List.mem_of_getElem? ha) wr hb
      obtain ⟨b1, o1, rfl, hc1⟩ := HX.out.at_ hb ha
      obtain ⟨p0, p1, p2, p3⟩ := fnC_at hc1
      have HA := Lib.hid ha
      clear hc1 ha
      obtain ⟨t, ht⟩ : ∃ t, (wFn a) = t := ⟨_, rfl⟩
      rw [ht] at C1
      have HT := Lib.hid ht
      have HS := hs
      clear ht hs
      rw [fnV_eq] at C1
      rcases Bool.eq_false_or_eq_true t with h9 | h9 <;> subst h9
      · go_wp2_with fail
        refine C1.out.mono ?_
        rintro e1 w1 ⟨rfl, hb1⟩
        have HB1 := Lib.hid (hb.trans (hb1.mono hb.size))
        clear hb1
        go_wp2_with fail
        go_ret
        exact ⟨k, rfl, by rw [any_yes HA.out HT.out]; simp, by omega, by omega, HB1.out⟩
      · go_wp2_with fail
        refine C1.out.mono ?_
        rintro e1 w1 ⟨rfl, hb1⟩
        have HB1 := Lib.hid (hb.trans (hb1.mono hb.size))
        clear hb1
        go_wp2_with fail
        go_roundw
        case rel => exact ⟨k + 1, by omega, rfl, HB1.out, Lib.hid (any_no HA.out HS.out HT.out)⟩
        case measure => simp [intOf]; omega
    · obtain rfl : k = n := by omega
      have HS := hs
      go_wp2_with fail
      go_ret
      have := HS.out
      rw [List.take_of_length_le (Nat.le_of_eq HN.out)] at this
      exact ⟨-1, rfl, by rw [this]; rfl, by omega, by omega, hb⟩
set_option maxHeartbeats 1000000 in
theorem contains_fn (x : List Fn) (A : Option Addr) (c : Nat) (w : World) (hx : Row 4 fnC w A x) (hl : x.length ≤ most) (CC : ∀ a ∈ x, ∀ w', Below w.heap.size w w' → Hid (Calls Tryz.prog 31 #[fnV a] w' (EndsB (.bool (wFn a)) w'))) :
    Calls Tryz.prog 30 #[.slice A x.length c, .func (.func 31) #[] #[]] w (EndsB (.bool (x.any (fun a => wFn a))) w) := by
  have C := Lib.hid (index_fn x A c w hx hl CC)
  clear hx hl CC
  generalize x.any (fun a => wFn a) = t at *
  generalize x.length = n at *
  go_enter Tryz.func30, Tryz.ntmps30
  go_wp2_with fail
  refine C.out.mono ?_
  rintro e1 w1 ⟨r, rfl, hr, h1, h2, hb1⟩
  have HR := Lib.hid hr
  have HB1 := Lib.hid hb1
  clear hr h1 h2 hb1
  rcases Bool.eq_false_or_eq_true (decide (0 ≤ r)) with h3 | h3
  · have h4 : 0 ≤ r := by simpa using h3
    go_wp2_with fail
    go_ret
    exact ends_bool (by rw [← HR.out]; simp; omega) HB1.out
  · have h4 : ¬ 0 ≤ r := by simpa using h3
    go_wp2_with fail
    go_ret
    exact ends_bool (by rw [← HR.out]; simp; omega) HB1.out
set_option maxHeartbeats 4000000 in
theorem rightHead_any (a : Fl) (w : World) (ha : FlIn w a) : Calls Tryz.prog 29 #[flV a] w (EndsB (.bool (rHead a)) w) := by
  have C1 := fun (w' : World) => Lib.hid (rightWord_any a.s w' ha.s)
  have C2 := fun (w' : World) (hw : Below w.heap.size w w') => Lib.hid (contains_word a.i a.ia a.ic w' (ha.irow.below hw) ha.ilen (fun s hs w2 _ => Lib.hid (wrongWord_any s w2 (ha.is s hs))))
  have HA : Hid (∀ w1, Below (w.alloc (.cells #[.string a.s, .slice a.ia a.i.length a.ic, .slice a.fa a.f.length a.fc] 25)).heap.size (w.alloc (.cells #[.string a.s, .slice a.ia a.i.length a.ic, .slice a.fa a.f.length a.fc] 25)) w1 → ∀ i, w1.cell? ⟨w.heap.size, i, none⟩ = (#[.string a.s, .slice a.ia a.i.length a.ic, .slice a.fa a.f.length a.fc] : Array Value)[i]?) := Lib.hid (fun w1 h1 i => one_at h1 i)
  have HB := Lib.hid (ball_new w #[.string a.s, .slice a.ia a.i.length a.ic, .slice a.fa a.f.length a.fc] 25)
  have l1 := ha.ilen
  have l2 := ha.flen
  unfold most at l1 l2
  rw [flV_eq]
  unfold rHead
  clear ha
  generalize wordB a.s = t1 at *
  generalize (a.i.any fun s => !wordB s) = t2 at *
  generalize a.i.length = k1 at *
  generalize a.f.length = k2 at *
  go_enter Tryz.func29, Tryz.ntmps29
  go_wp2_with fail
  refine (C1 _).out.mono ?_
  rintro e1 w1 ⟨rfl, hb1⟩
  have HB1 := Lib.hid (HB.out.trans (hb1.mono HB.out.size))
  have z1 := HA.out _ hb1 1
  have z2 := HA.out _ hb1 2
  simp only [List.getElem?_toArray, List.getElem?_cons_succ, List.getElem?_cons_zero] at z1 z2
  clear hb1
  rcases Bool.eq_false_or_eq_true t1 with ht | ht <;> subst ht
  · by_cases h1 : k1 ≤ 8
    · by_cases h2 : k2 ≤ 32
      · go_wp2_with fail
        refine (C2 _ HB1.out).out.mono ?_
        rintro e2 w2 ⟨rfl, hb2⟩
        have HB2 := Lib.hid (HB1.out.trans (hb2.mono HB1.out.size))
        clear hb2
        go_wp2_with fail
        go_ret
        exact ends_bool (by simp [h1, h2]; try omega) HB2.out
      · go_wp2_with fail
        go_ret
        exact ends_bool (by simp [h2]; try omega) HB1.out
    · go_wp2_with fail
      go_ret
      exact ends_bool (by simp [h1]; try omega) HB1.out
  · go_wp2_with fail
    go_ret
    exact ends_bool (by simp) HB1.out
set_option maxHeartbeats 4000000 in
theorem right_any (a : Fl) (w : World) (ha : FlIn w a) : Calls Tryz.prog 13 #[flV a] w (EndsB (.bool (decide ((nodes givenB a.f).length ≤ 100000) && rFile a)) w) := by
  obtain ⟨X0, hX0⟩ : ∃ X0, w.alloc (.cells #[.string a.s, .slice a.ia a.i.length a.ic, .slice a.fa a.f.length a.fc] 25) = X0 := ⟨_, rfl⟩
  have HB0 : Hid (Below w.heap.size w X0) := Lib.hid (by rw [← hX0]; exact ball_new w _ _)
  have HN : Hid (∀ w1, Below X0.heap.size X0 w1 → ∀ i, w1.cell? ⟨w.heap.size, i, none⟩ = (#[.string a.s, .slice a.ia a.i.length a.ic, .slice a.fa a.f.length a.fc] : Array Value)[i]?) := Lib.hid (fun w1 h1 i => by subst hX0; exact one_at h1 i)
  have CN := Lib.hid ((callsIn_wide (n := 5)).1 (nodes_any Fence.wide 5 trivial rfl a.fa a.f.length a.fc 28 X0))
  have hb1 : Below X0.heap.size X0 ((X0.alloc (.cells #[.slice a.fa a.f.length a.fc] 23)).alloc (.cells #[.func (.func 28) #[] #[]] 75)) := ((Below.refl _ X0).alloc (Nat.le_refl _) _).alloc (by simp) _
  have HB1 := Lib.hid hb1
  have hg := nodes1_given w a.f a.fa a.fc ha.frow ha.flen ha.fns X0.heap.size (X0.heap.size + 1) ((X0.alloc (.cells #[.slice a.fa a.f.length a.fc] 23)).alloc (.cells #[.func (.func 28) #[] #[]] 75)) (Low.below (HB0.out.trans (hb1.mono HB0.out.size))) ((Below.heap_alloc _ _ _ (by simp)).trans (new_at X0 _ _)) (by have := new_at (X0.alloc (.cells #[.slice a.fa a.f.length a.fc] 23)) #[.func (.func 28) #[] #[]] 75; rwa [World.size_alloc] at this) (by have := HB0.out.size; have := hb1.size; omega)
  have CF := Lib.hid (fits_any hg (enters_of Tryz.func51 (by kernel_rfl) rfl) (by have := HB0.out.size; have := hb1.size; omega) (fun b hb => by simp at hb; subst hb; simp))
  have CH := fun (w' : World) (hw : Below w.heap.size w w') => Lib.hid (rightHead_any a w' (ha.below hw))
  have CC := fun (w' : World) (hw : Below w.heap.size w w') => Lib.hid (contains_fn a.f a.fa a.fc w' (ha.frow.below hw) ha.flen (fun f hf w2 hw2 => Lib.hid (wrongFunc_any f w2 (((ha.fns f hf).below hw).below hw2))))
  have HX0 := Lib.hid hX0
  clear hb1 hg ha hX0
  unfold rFile
  rw [flV_eq] at CH ⊢
  generalize (nodes givenB a.f).length = N at *
  obtain ⟨t3, ht3⟩ : ∃ t, (a.f.any fun f => wFn f) = t := ⟨_, rfl⟩
  rw [ht3] at CC
  have HT3 : Hid (a.f.any wFn = t3) := Lib.hid ht3
  clear ht3
  rw [HT3.out]
  generalize rHead a = t2 at *
  generalize a.i.length = k1 at *
  generalize a.f.length = k3 at *
  generalize decide (N ≤ 100000) = t1 at *
  go_enter Tryz.func13, Tryz.ntmps13
  go_wp2_with fail
  rw [HX0.out]
  refine CN.out.mono ?_
  rintro e w1 ⟨rfl, rfl⟩
  go_wp2_with fail
  refine CF.out.mono ?_
  rintro e w2 ⟨rfl, hb2⟩
  have HX2 := Lib.hid (HB1.out.trans (hb2.mono HB1.out.size))
  have HB2 := Lib.hid (HB0.out.trans (HX2.out.mono HB0.out.size))
  have z0 := HN.out w2 HX2.out 0
  have z1 := HN.out w2 HX2.out 1
  have z2 := HN.out w2 HX2.out 2
  simp only [List.getElem?_toArray, List.getElem?_cons_succ, List.getElem?_cons_zero] at z0 z1 z2
  clear hb2 CN CF
  rcases Bool.eq_false_or_eq_true t1 with ht | ht <;> subst ht
  · go_wp2_with fail
    refine (CH _ HB2.out).out.mono ?_
    rintro e w3 ⟨rfl, hb3⟩
    have HX3 := Lib.hid (HX2.out.trans (hb3.mono HX2.out.size))
    have HB3 := Lib.hid (HB0.out.trans (HX3.out.mono HB0.out.size))
    clear hb3 z0 z1 z2
    have z2 := HN.out w3 HX3.out 2
    simp only [List.getElem?_toArray, List.getElem?_cons_succ, List.getElem?_cons_zero] at z2
    rcases Bool.eq_false_or_eq_true t2 with ht | ht <;> subst ht
    · go_wp2_with fail
      refine (CC _ HB3.out).out.mono ?_
      rintro e w4 ⟨rfl, hb4⟩
      have HB4 := Lib.hid (HB3.out.trans (hb4.mono HB3.out.size))
      clear hb4
      go_wp2_with fail
      go_ret
      exact ends_bool (by simp) HB4.out
    · go_wp2_with fail
      go_ret
      exact ends_bool (by simp) HB3.out
  · go_wp2_with fail
    go_ret
    exact ends_bool (by simp) HB2.out
end Go.Proofs.YtmihlmlojmdhjaaGreatDoor.Tre
/- The document's reader in memory; peek, is, skip, must, word: what they answer, and what they leave. Condition: the reader is known. -/
namespace Go.Proofs.YtmihlmlojmdhjaaGreatDoor.Prs
open Go.RowKit Tre
open Lex (Wd wdC wdV bs str Turn)
set_option maxRecDepth 100000
set_option linter.unusedSimpArgs false
variable {lo : Nat}
theorem Row.kept {α : Type} {k : Nat} {C : α → List Value} {w w' : World} {A : Option Addr} {l : List α} (h : Row k C w A l) (hs : w.heap.size ≤ w'.heap.size) (hk : ∀ b o, A = some ⟨b, o, none⟩ → b < w.heap.size → w'.heap[b]? = w.heap[b]?) : Row k C w' A l := fun h0 => by
  obtain ⟨b, o, e, hlt, hc⟩ := h h0
  exact ⟨b, o, e, by omega, fun j x hx r u hu => (World.cell?_of_block (w := w) (hk b o e hlt)).trans (hc j x hx r u hu)⟩
theorem wdV_eq (x : Wd) : wdV x = .agg #[.int .i64 x.k, .string (bs x.s), .int .i64 x.n] := rfl
theorem wdC_at {e : Wd} {w : World} {b o : Nat} (h : ∀ (r : Nat) (u : Value), (wdC e)[r]? = some u → w.cell? ⟨b, o + r, none⟩ = some u) :
    w.cell? ⟨b, o, none⟩ = some (.int .i64 e.k) ∧ w.cell? ⟨b, o + 1, none⟩ = some (.string (bs e.s)) ∧ w.cell? ⟨b, o + 2, none⟩ = some (.int .i64 e.n) := ⟨h 0 _ rfl, h 1 _ rfl, h 2 _ rfl⟩
theorem results_word {fn : Func} {p : Tmp} (h : fn.results = #[.cell p 82]) (tmps : Array Value) (w : World) (g : Nat) (v0 v1 v2 : Value) (hv : tmps.getD p undef = .pointer (some ⟨g, 0, none⟩)) (hc : w.heap[g]? = some (.cells #[v0, v1, v2] 82 (0, 0))) :
    (results fn tmps).run Tryz.prog w = .ok (.agg #[v0, v1, v2]) w := by
  have a4 := Tryz.isAgg82
  have z4 := Tryz.sizeOf82
  have c0 := cell_at hc 0
  have c1 := cell_at hc 1
  have c2 := cell_at hc 2
  simp only [List.getElem?_toArray, List.getElem?_cons_succ, List.getElem?_cons_zero] at c0 c1 c2
  simp only [Array.getD_eq_getD_getElem?] at hv
  unfold results
  rw [h]
  go_simp
end Go.Proofs.YtmihlmlojmdhjaaGreatDoor.Prs
/- The document's is, skip, must, word, level: what they answer, and what they leave. Condition: the reader is known. -/
namespace Go.Proofs.YtmihlmlojmdhjaaGreatDoor.Prs
open Go.RowKit Tre
open Lex (Wd wdC wdV bs str Turn)
set_option maxRecDepth 100000
set_option linter.unusedSimpArgs false
variable {lo : Nat}
theorem word_box (w : World) (x : Wd) : Below w.heap.size w (w.alloc (.cells #[.int .i64 x.k, .string (bs x.s), .int .i64 x.n] 82)) := ball_new w _ _
theorem tail_row {w : World} {b o : Nat} {l : List Wd} (h : Row 3 wdC w (some ⟨b, o, none⟩) l) (h0 : 1 < l.length) : Row 3 wdC w (some ⟨b, o + 3, none⟩) l.tail := fun _ => by
  obtain ⟨b', o', e, hlt, hc⟩ := h (by omega)
  injection e with e
  injection e with e1 e2
  subst e1; subst e2
  refine ⟨b, o + 3, rfl, hlt, fun j x hx r u hu => ?_⟩
  have := hc (j + 1) x (by rw [← hx]; cases l <;> simp) r u hu
  rwa [show o + (j + 1) * 3 + r = o + 3 + j * 3 + r by omega] at this
theorem size3 : ∀ w, (sizeOf 82).run Tryz.prog w = .ok 3 w := fun w => Tryz.sizeOf82 (w := w)
theorem cut1 (w : World) (A : Option Addr) (n c : Nat) (h1 : 1 ≤ n) :
    (Instr.slice 49 (.slice A n c) (some (.int .i64 1)) none none).run Tryz.prog w = .ok (.slice (if c = 1 then A else A.map (·.add 3)) (n - 1) (c - 1)) w := by
  rw [run_slice_l (P := Tryz.prog) w 49 A n c Tryz.underlying49 .i64 1 (by omega) (by omega)]
  have e : Tryz.prog.elem 49 = 82 := by kernel_rfl
  rw [e, size3]
  simp [Result.andThen, sliced]
end Go.Proofs.YtmihlmlojmdhjaaGreatDoor.Prs
/- The document's must, word: what they answer, and what they leave. Condition: the reader is known. -/
namespace Go.Proofs.YtmihlmlojmdhjaaGreatDoor.Prs
open Go.RowKit Tre
open Lex (Wd wdC wdV bs str Turn)
set_option maxRecDepth 100000
set_option linter.unusedSimpArgs false
variable {lo : Nat}
theorem wordNo_pos {r : PS} {k : Int} {key : Bool} (hk : k ≠ 0) (h : wordNo r k key = false) : 0 < r.l.length := by
  unfold wordNo peek at h
  by_cases hc : (r.l.length == 0 || r.bad) = true
  · rw [if_pos hc] at h
    simp [zeroW] at h
    exact absurd h (fun e => hk e.symm)
  · have h1 : ¬ r.l.length = 0 ∧ r.bad = false := by simpa using hc
    omega
end Go.Proofs.YtmihlmlojmdhjaaGreatDoor.Prs
