/-
  fits: can all of a sequence be gone through; SameExpr: are two expressions the same. Conditions: the sequence gives these expressions; the trees lie in memory.
-/
import Derived.Test.YtmihlmlojmdhjaaGreatDoorQ04
import Derived.Test.YtmihlmlojmdhjaaGreatDoorQ05
import Derived.Test.YtmihlmlojmdhjaaGreatDoorQ10
namespace Go.Proofs.YtmihlmlojmdhjaaGreatDoor.Tre
open Go.RowKit
set_option maxRecDepth 100000
attribute [local go_sem] Oper.semAt_some
/-- A function's answer behind its one mark. -/
theorem ends_one {n : Nat} {fn : Func} {tmps : Array Value} {R : Ending → World → Prop} {D : Nat} {W : World} (hd : W.heap[D]? = some (.deferred (some []))) (t : Tmp) (v : Value) (hres : fn.results = #[.tmp t]) (hv : tmps.getD t undef = v) (h : R (.returned v) (W.putObj D (.deferred none))) :
    LeavesInM Fence.wide n Tryz.prog fn tmps R [mark D] .returning W := by
  refine ⟨by simp, .inl ⟨D, _, rfl, run_takeDeferred hd, ?_⟩⟩
  subst hv
  exact ⟨_, results_tmp hres _ _ _, h⟩
set_option maxHeartbeats 4000000 in
theorem fits_any {c0 : Nat} {caps : List Nat} {gf : Nat} {lb : Array Value} {ys : List Ex} {w : World} (hseq : Gives c0 caps gf lb (ys.map exV) w) (eg : ∀ args w, (callFunc gf args).run Tryz.prog w = .ok (.enter gf args) w) (hc0 : c0 ≤ w.heap.size) (hcaps : ∀ b ∈ caps, b < w.heap.size) :
    Calls Tryz.prog 26 #[.func (.func gf) #[] lb] w (EndsB (.bool (decide (ys.length ≤ 100000))) w) := by
  refine (callsIn_wide (n := 5)).1 ?_
  generalize 5 = m5
  have HSEQ := Lib.hid hseq
  have HEG := Lib.hid eg
  have HC0 := Lib.hid hc0
  have HCW := Lib.hid hcaps
  clear hseq eg hc0 hcaps
  refine callsIn_of_wp_marks Tryz.func26 rfl trivial ?_ rfl
  simp only [Tryz.ntmps26, List.size_toArray, List.length_cons, List.length_nil, Nat.reduceAdd, Nat.reduceSub, Array.replicate_succ, Array.replicate_zero, List.push_toArray, List.append_toArray, List.nil_append, List.cons_append]
  gi_wp2
  refine ⟨trivial, (fun h => by cases h), ?_⟩
  refine (first_any Fence.wide _ trivial rfl 100001 gf lb (w.alloc (.cells #[.int .i64 0] 3))).mono ?_
  rintro e w4 ⟨rfl, rfl⟩
  obtain ⟨X0, hX0⟩ : ∃ X0, ((w.alloc (.cells #[.int .i64 0] 3)).alloc (.cells #[.int .i64 100001] 3)).alloc (.cells #[.func (.func gf) #[] lb] 73) = X0 := ⟨_, rfl⟩
  have HB0 : Hid (Below w.heap.size w X0) := Lib.hid (by rw [← hX0]; exact (((Below.refl _ w).alloc (Nat.le_refl _) _).alloc (by simp) _).alloc (by simp; omega) _)
  have HN0 : Hid (X0.heap[w.heap.size]? = some (.cells #[.int .i64 0] 3 (0, 0))) := Lib.hid (by rw [← hX0]; exact (Below.heap_alloc _ _ _ (by simp; omega)).trans ((Below.heap_alloc _ _ _ (by simp)).trans (new_at w _ _)))
  have HN1 : Hid (X0.heap[w.heap.size + 1]? = some (.cells #[.int .i64 100001] 3 (0, 0))) := Lib.hid (by
    rw [← hX0]
    have := new_at (w.alloc (.cells #[.int .i64 0] 3)) #[.int .i64 100001] 3
    rw [World.size_alloc] at this
    exact (Below.heap_alloc _ _ _ (by simp)).trans this)
  have HN2 : Hid (X0.heap[w.heap.size + 1 + 1]? = some (.cells #[.func (.func gf) #[] lb] 73 (0, 0))) := Lib.hid (by
    rw [← hX0]
    have := new_at ((w.alloc (.cells #[.int .i64 0] 3)).alloc (.cells #[.int .i64 100001] 3)) #[.func (.func gf) #[] lb] 73
    rwa [World.size_alloc, World.size_alloc] at this)
  have HSZ : Hid (X0.heap.size = w.heap.size + 3) := Lib.hid (by rw [← hX0]; simp)
  rw [hX0]
  clear hX0
  simp only [World.size_alloc]
  gi_wp2
  refine wp_over (c0 := c0) (caps := caps) (S := fun b => b = w.heap.size) (hi := w.heap.size + 1) (vals := (ys.take 100001).map exV) (w0 := X0) (gf := 96) (lb := #[.pointer (some ⟨w.heap.size + 1, 0, none⟩), .pointer (some ⟨w.heap.size + 1 + 1, 0, none⟩)]) rfl (enters_of Tryz.func96 (by kernel_rfl) rfl)
    (first_gives (HSEQ.out.later HB0.out) HEG.out (by have := HC0.out; have := HSZ.out; omega) (fun b hb => by have := HCW.out b hb; have := HSZ.out; omega) 100001 (by omega) _ _ HN1.out HN2.out) (Below.refl _ _) rfl
    (fun b hb => by subst hb; exact ⟨HC0.out, by omega⟩) (by have := HSZ.out; omega) (fun b hb hs => by have := HCW.out b hb; omega)
    (I := fun k W' => W'.heap[w.heap.size]? = some (.cells #[.int .i64 k] 3 (0, 0)) ∧ Below w.heap.size w W')
    (Ix := fun _ _ => False)
    (A := fun k a' W' => k < (ys.take 100001).length ∧ ∃ v, a' = { tmps := #[.func (.func gf) #[] lb, undef, .bool false, .pointer (some ⟨w.heap.size, 0, none⟩), .func (.func gf) #[] lb, .func (.func 96) #[] #[.pointer (some ⟨w.heap.size + 1, 0, none⟩), .pointer (some ⟨w.heap.size + 1 + 1, 0, none⟩)], v, undef, undef, undef, undef], defers := [] } ∧ W'.heap[w.heap.size]? = some (.cells #[.int .i64 k] 3 (0, 0)) ∧ Below w.heap.size w W')
    ?ownI ?ownX ?ownA ?start ?assign ?body ?done ?stop
  case ownI =>
    rintro k X Y row ⟨h1, h2⟩ hg hr
    exact ⟨(hg.block _ (lt_of_heap h1) (fun e => by have := hr _ e.symm; have := HSZ.out; omega)).trans h1, h2.grown hg h2.size (fun r e => by have := hr r e; have := HSZ.out; omega)⟩
  case ownX => exact fun _ _ _ _ _ h _ _ => h.elim
  case ownA =>
    rintro k a' _ X Y row ⟨h0, v, q, h1, h2⟩ hg hr
    exact ⟨h0, v, q, cells_grown hg (fun r e => (hr r e).2) h1, h2.grown hg h2.size (fun r e => by have := (hr r e).1; have := HSZ.out; omega)⟩
  case start => exact ⟨HN0.out, HB0.out⟩
  case assign =>
    rintro l2 k v m2 W5 hv ⟨h1, h2⟩
    have h0 := (List.getElem?_eq_some_iff.1 hv).1
    rw [List.length_map] at h0
    gi_wp2
    exact ⟨Keep.refl _ _ _, h0, v, by simp, h1, h2⟩
  case body =>
    rintro l2 k v m2 a' W5 _ _ _ ⟨h0, v', rfl, h1, h2⟩
    have z0 := cell_at h1 0
    have fz := free_at h1 0
    simp only [List.getElem?_toArray, List.getElem?_cons_zero] at z0
    have hk : k ≤ 1000000 := by rw [List.length_take] at h0; omega
    have H1 := Lib.hid h1
    have H2 := Lib.hid h2
    clear h1 h2 h0
    gi_wp2
    exact ⟨Keep.set rfl H1.out, set_at H1.out 0 _, H2.out.setCell (p := ⟨w.heap.size, 0, none⟩) (Nat.le_refl _) _⟩
  case done =>
    rintro D W5 hD ⟨h1, h2⟩ hd
    have z0 := cell_at h1 0
    simp only [List.getElem?_toArray, List.getElem?_cons_zero, List.length_map, List.length_take] at z0
    have HD := Lib.hid hd
    have H2 := Lib.hid h2
    have HDW : Hid (w.heap.size ≤ D) := Lib.hid (by have := HSZ.out; omega)
    clear h1 h2 hd hD
    gi_wp2
    refine ends_one HD.out 2 _ rfl rfl ?_
    refine ⟨?_, H2.out.grown (grownBy_putObj' W5 D _) H2.out.size (fun k e => by cases e; exact HDW.out)⟩
    simp
    omega
  case stop => exact fun _ _ _ _ h _ => h.elim
end Go.Proofs.YtmihlmlojmdhjaaGreatDoor.Tre
/- SameExpr, Same: are two expressions, two files the same (the package's own), so far as they can be gone through. Conditions: the trees lie in memory. -/
namespace Go.Proofs.YtmihlmlojmdhjaaGreatDoor.Tre
open Go.RowKit
set_option maxRecDepth 100000
theorem flV_eq (f : Fl) : flV f = .agg #[.string f.s, .slice f.ia f.i.length f.ic, .slice f.fa f.f.length f.fc] := rfl
set_option maxHeartbeats 4000000 in
theorem same_any (a b : Fl) (w : World) (ha : FlIn w a) (hb : FlIn w b) : Calls Tryz.prog 18 #[flV a, flV b] w (EndsB (.bool (decide ((nodes givenB a.f).length ≤ 100000) && sameFl a b)) w) := by
  obtain ⟨X0, hX0⟩ : ∃ X0, (w.alloc (.cells #[.string a.s, .slice a.ia a.i.length a.ic, .slice a.fa a.f.length a.fc] 25)).alloc (.cells #[.string b.s, .slice b.ia b.i.length b.ic, .slice b.fa b.f.length b.fc] 25) = X0 := ⟨_, rfl⟩
  have HB0 : Hid (Below w.heap.size w X0) := Lib.hid (by rw [← hX0]; exact two_new w _ _ _)
  have HN : Hid (∀ w1, Below X0.heap.size X0 w1 → ∀ i, w1.cell? ⟨w.heap.size, i, none⟩ = (#[.string a.s, .slice a.ia a.i.length a.ic, .slice a.fa a.f.length a.fc] : Array Value)[i]? ∧ w1.cell? ⟨w.heap.size + 1, i, none⟩ = (#[.string b.s, .slice b.ia b.i.length b.ic, .slice b.fa b.f.length b.fc] : Array Value)[i]?) := Lib.hid (fun w1 h1 i => by subst hX0; exact box_at h1 i)
  have CN := Lib.hid ((callsIn_wide (n := 5)).1 (nodes_any Fence.wide 5 trivial rfl a.fa a.f.length a.fc 28 X0))
  have hb1 : Below X0.heap.size X0 ((X0.alloc (.cells #[.slice a.fa a.f.length a.fc] 23)).alloc (.cells #[.func (.func 28) #[] #[]] 75)) := ((Below.refl _ X0).alloc (Nat.le_refl _) _).alloc (by simp) _
  have HB1 := Lib.hid hb1
  have hg := nodes1_given w a.f a.fa a.fc ha.frow ha.flen ha.fns X0.heap.size (X0.heap.size + 1) ((X0.alloc (.cells #[.slice a.fa a.f.length a.fc] 23)).alloc (.cells #[.func (.func 28) #[] #[]] 75)) (Low.below (HB0.out.trans (hb1.mono HB0.out.size))) ((Below.heap_alloc _ _ _ (by simp)).trans (new_at X0 _ _)) (by have := new_at (X0.alloc (.cells #[.slice a.fa a.f.length a.fc] 23)) #[.func (.func 28) #[] #[]] 75; rwa [World.size_alloc] at this) (by have := HB0.out.size; have := hb1.size; omega)
  have CF := Lib.hid (fits_any hg (enters_of Tryz.func51 (by kernel_rfl) rfl) (by have := HB0.out.size; have := hb1.size; omega) (fun b hb => by simp at hb; subst hb; simp))
  have CT := fun (w' : World) (hw : Below w.heap.size w w') => Lib.hid (equalT a.i b.i a.ia b.ia a.ic b.ic w' (ha.irow.below hw) (hb.irow.below hw) ha.ilen)
  have CE := fun (w' : World) (hw : Below w.heap.size w w') => Lib.hid (equalFn a.f b.f a.fa b.fa a.fc b.fc w' (ha.frow.below hw) (hb.frow.below hw) ha.flen (fun s hs => (ha.fns s hs).below hw) (fun s hs => (hb.fns s hs).below hw))
  have HX0 := Lib.hid hX0
  clear hb1 hg ha hb hX0
  unfold sameFl
  rw [flV_eq, flV_eq]
  generalize (nodes givenB a.f).length = N at *
  generalize allTwo sameT a.i b.i = t2 at *
  generalize allTwo sameF a.f b.f = t3 at *
  generalize a.i.length = k1 at *
  generalize b.i.length = k2 at *
  generalize a.f.length = k3 at *
  generalize b.f.length = k4 at *
  generalize decide (N ≤ 100000) = t1 at *
  go_enter Tryz.func18, Tryz.ntmps18
  go_wp2_with fail
  rw [HX0.out]
  refine CN.out.mono ?_
  rintro e w1 ⟨rfl, rfl⟩
  go_wp2_with fail
  refine CF.out.mono ?_
  rintro e w2 ⟨rfl, hb2⟩
  have HX2 := Lib.hid (HB1.out.trans (hb2.mono HB1.out.size))
  have HB2 := Lib.hid (HB0.out.trans (HX2.out.mono HB0.out.size))
  obtain ⟨z0, y0⟩ := HN.out w2 HX2.out 0
  obtain ⟨z1, y1⟩ := HN.out w2 HX2.out 1
  simp only [List.getElem?_toArray, List.getElem?_cons_succ, List.getElem?_cons_zero] at z0 y0 z1 y1
  clear hb2 CN CF
  rcases Bool.eq_false_or_eq_true t1 with ht | ht <;> subst ht
  · rcases Bool.eq_false_or_eq_true (a.s.toList == b.s.toList) with h1 | h1
    · go_wp2_with fail
      refine (CT _ HB2.out).out.mono ?_
      rintro e w3 ⟨rfl, hb3⟩
      have HX3 := Lib.hid (HX2.out.trans (hb3.mono HX2.out.size))
      have HB3 := Lib.hid (HB0.out.trans (HX3.out.mono HB0.out.size))
      obtain ⟨z2, y2⟩ := HN.out w3 HX3.out 2
      simp only [List.getElem?_toArray, List.getElem?_cons_succ, List.getElem?_cons_zero] at z2 y2
      clear hb3 z0 y0 z1 y1
      rcases Bool.eq_false_or_eq_true t2 with ht | ht <;> subst ht
      · go_wp2_with fail
        refine (CE _ HB3.out).out.mono ?_
        rintro e w4 ⟨rfl, hb4⟩
        have HB4 := Lib.hid (HB3.out.trans (hb4.mono HB3.out.size))
        clear hb4
        go_wp2_with fail
        go_ret
        exact ends_bool (by simp [*]) HB4.out
      · go_wp2_with fail
        go_ret
        exact ends_bool (by simp [*]) HB3.out
    · go_wp2_with fail
      go_ret
      exact ends_bool (by simp [*]) HB2.out
  · go_wp2_with fail
    go_ret
    exact ends_bool (by simp) HB2.out
end Go.Proofs.YtmihlmlojmdhjaaGreatDoor.Tre
/- Parts, rightNumber, rightNames, rightParts, rightTarget, rightBlocks, valued, wrongParam, rightWord, wrongWord: what the package's small tests answer. Conditions: sizes. -/
namespace Go.Proofs.YtmihlmlojmdhjaaGreatDoor.Tre
open Go.RowKit
set_option maxRecDepth 100000
theorem lexName (s : ByteArray) (w : World) (hs : s.size ≤ maxLen) : Calls Tryz.prog 59 #[.string s] w (EndsB (.bool (nameB s)) w) := Lex.name_any s w hs
theorem lexKey (s : ByteArray) (w : World) : Calls Tryz.prog 76 #[.string s] w (EndsB (.bool (Lex.keyB s.data.toList)) w) := by
  have := Lex.key_any s.data.toList w
  rw [Lex.bs_of] at this
  refine this.mono ?_
  rintro e w' ⟨rfl, rfl⟩
  exact ⟨rfl, Below.refl _ _⟩
theorem parts_1 (w : World) : Calls Tryz.prog 92 #[.int .i64 1] w (EndsW (.int .i64 0) w) := by
  go_enter Tryz.func92, Tryz.ntmps92
  go_wp2
  go_ret
  exact ⟨rfl, rfl⟩
theorem parts_2 (w : World) : Calls Tryz.prog 92 #[.int .i64 2] w (EndsW (.int .i64 0) w) := by
  go_enter Tryz.func92, Tryz.ntmps92
  go_wp2
  go_ret
  exact ⟨rfl, rfl⟩
theorem parts_3 (w : World) : Calls Tryz.prog 92 #[.int .i64 3] w (EndsW (.int .i64 0) w) := by
  go_enter Tryz.func92, Tryz.ntmps92
  go_wp2
  go_ret
  exact ⟨rfl, rfl⟩
theorem parts_5 (w : World) : Calls Tryz.prog 92 #[.int .i64 5] w (EndsW (.int .i64 1) w) := by
  go_enter Tryz.func92, Tryz.ntmps92
  go_wp2
  go_ret
  exact ⟨rfl, rfl⟩
theorem parts_6 (w : World) : Calls Tryz.prog 92 #[.int .i64 6] w (EndsW (.int .i64 1) w) := by
  go_enter Tryz.func92, Tryz.ntmps92
  go_wp2
  go_ret
  exact ⟨rfl, rfl⟩
theorem parts_7 (w : World) : Calls Tryz.prog 92 #[.int .i64 7] w (EndsW (.int .i64 2) w) := by
  go_enter Tryz.func92, Tryz.ntmps92
  go_wp2
  go_ret
  exact ⟨rfl, rfl⟩
theorem parts_8 (w : World) : Calls Tryz.prog 92 #[.int .i64 8] w (EndsW (.int .i64 2) w) := by
  go_enter Tryz.func92, Tryz.ntmps92
  go_wp2
  go_ret
  exact ⟨rfl, rfl⟩
theorem parts_9 (w : World) : Calls Tryz.prog 92 #[.int .i64 9] w (EndsW (.int .i64 2) w) := by
  go_enter Tryz.func92, Tryz.ntmps92
  go_wp2
  go_ret
  exact ⟨rfl, rfl⟩
theorem parts_10 (w : World) : Calls Tryz.prog 92 #[.int .i64 10] w (EndsW (.int .i64 2) w) := by
  go_enter Tryz.func92, Tryz.ntmps92
  go_wp2
  go_ret
  exact ⟨rfl, rfl⟩
theorem parts_11 (w : World) : Calls Tryz.prog 92 #[.int .i64 11] w (EndsW (.int .i64 2) w) := by
  go_enter Tryz.func92, Tryz.ntmps92
  go_wp2
  go_ret
  exact ⟨rfl, rfl⟩
theorem parts_12 (w : World) : Calls Tryz.prog 92 #[.int .i64 12] w (EndsW (.int .i64 2) w) := by
  go_enter Tryz.func92, Tryz.ntmps92
  go_wp2
  go_ret
  exact ⟨rfl, rfl⟩
theorem parts_13 (w : World) : Calls Tryz.prog 92 #[.int .i64 13] w (EndsW (.int .i64 2) w) := by
  go_enter Tryz.func92, Tryz.ntmps92
  go_wp2
  go_ret
  exact ⟨rfl, rfl⟩
theorem parts_14 (w : World) : Calls Tryz.prog 92 #[.int .i64 14] w (EndsW (.int .i64 2) w) := by
  go_enter Tryz.func92, Tryz.ntmps92
  go_wp2
  go_ret
  exact ⟨rfl, rfl⟩
theorem parts_15 (w : World) : Calls Tryz.prog 92 #[.int .i64 15] w (EndsW (.int .i64 2) w) := by
  go_enter Tryz.func92, Tryz.ntmps92
  go_wp2
  go_ret
  exact ⟨rfl, rfl⟩
theorem parts_16 (w : World) : Calls Tryz.prog 92 #[.int .i64 16] w (EndsW (.int .i64 2) w) := by
  go_enter Tryz.func92, Tryz.ntmps92
  go_wp2
  go_ret
  exact ⟨rfl, rfl⟩
theorem parts_17 (w : World) : Calls Tryz.prog 92 #[.int .i64 17] w (EndsW (.int .i64 2) w) := by
  go_enter Tryz.func92, Tryz.ntmps92
  go_wp2
  go_ret
  exact ⟨rfl, rfl⟩
theorem parts_18 (w : World) : Calls Tryz.prog 92 #[.int .i64 18] w (EndsW (.int .i64 2) w) := by
  go_enter Tryz.func92, Tryz.ntmps92
  go_wp2
  go_ret
  exact ⟨rfl, rfl⟩
theorem parts_19 (w : World) : Calls Tryz.prog 92 #[.int .i64 19] w (EndsW (.int .i64 2) w) := by
  go_enter Tryz.func92, Tryz.ntmps92
  go_wp2
  go_ret
  exact ⟨rfl, rfl⟩
set_option maxHeartbeats 2000000 in
theorem parts_no (op : Int) (w : World) (h1 : (op == 1) = false) (h2 : (op == 2) = false) (h3 : (op == 3) = false) (h5 : (op == 5) = false) (h6 : (op == 6) = false) (h7 : (op == 7) = false) (h8 : (op == 8) = false) (h9 : (op == 9) = false) (h10 : (op == 10) = false) (h11 : (op == 11) = false) (h12 : (op == 12) = false) (h13 : (op == 13) = false) (h14 : (op == 14) = false) (h15 : (op == 15) = false) (h16 : (op == 16) = false) (h17 : (op == 17) = false) (h18 : (op == 18) = false) (h19 : (op == 19) = false) : Calls Tryz.prog 92 #[.int .i64 op] w (EndsW (.int .i64 (-1)) w) := by
  go_enter Tryz.func92, Tryz.ntmps92
  go_wp2
  go_ret
  exact ⟨rfl, rfl⟩
theorem parts_any' (op : Int) (w : World) : Calls Tryz.prog 92 #[.int .i64 op] w (EndsW (.int .i64 (partsI op)) w) := by
  rcases Bool.eq_false_or_eq_true (op == 1) with h | h1
  · obtain rfl : op = 1 := by simpa using h
    exact parts_1 w
  rcases Bool.eq_false_or_eq_true (op == 2) with h | h2
  · obtain rfl : op = 2 := by simpa using h
    exact parts_2 w
  rcases Bool.eq_false_or_eq_true (op == 3) with h | h3
  · obtain rfl : op = 3 := by simpa using h
    exact parts_3 w
  rcases Bool.eq_false_or_eq_true (op == 5) with h | h5
  · obtain rfl : op = 5 := by simpa using h
    exact parts_5 w
  rcases Bool.eq_false_or_eq_true (op == 6) with h | h6
  · obtain rfl : op = 6 := by simpa using h
    exact parts_6 w
  rcases Bool.eq_false_or_eq_true (op == 7) with h | h7
  · obtain rfl : op = 7 := by simpa using h
    exact parts_7 w
  rcases Bool.eq_false_or_eq_true (op == 8) with h | h8
  · obtain rfl : op = 8 := by simpa using h
    exact parts_8 w
  rcases Bool.eq_false_or_eq_true (op == 9) with h | h9
  · obtain rfl : op = 9 := by simpa using h
    exact parts_9 w
  rcases Bool.eq_false_or_eq_true (op == 10) with h | h10
  · obtain rfl : op = 10 := by simpa using h
    exact parts_10 w
  rcases Bool.eq_false_or_eq_true (op == 11) with h | h11
  · obtain rfl : op = 11 := by simpa using h
    exact parts_11 w
  rcases Bool.eq_false_or_eq_true (op == 12) with h | h12
  · obtain rfl : op = 12 := by simpa using h
    exact parts_12 w
  rcases Bool.eq_false_or_eq_true (op == 13) with h | h13
  · obtain rfl : op = 13 := by simpa using h
    exact parts_13 w
  rcases Bool.eq_false_or_eq_true (op == 14) with h | h14
  · obtain rfl : op = 14 := by simpa using h
    exact parts_14 w
  rcases Bool.eq_false_or_eq_true (op == 15) with h | h15
  · obtain rfl : op = 15 := by simpa using h
    exact parts_15 w
  rcases Bool.eq_false_or_eq_true (op == 16) with h | h16
  · obtain rfl : op = 16 := by simpa using h
    exact parts_16 w
  rcases Bool.eq_false_or_eq_true (op == 17) with h | h17
  · obtain rfl : op = 17 := by simpa using h
    exact parts_17 w
  rcases Bool.eq_false_or_eq_true (op == 18) with h | h18
  · obtain rfl : op = 18 := by simpa using h
    exact parts_18 w
  rcases Bool.eq_false_or_eq_true (op == 19) with h | h19
  · obtain rfl : op = 19 := by simpa using h
    exact parts_19 w
  have e : partsI op = -1 := by
    simp only [beq_eq_false_iff_ne] at *
    unfold partsI
    rw [if_neg (by simp; omega), if_neg (by simp; omega), if_neg (by simp; omega)]
  rw [e]
  exact parts_no op w h1 h2 h3 h5 h6 h7 h8 h9 h10 h11 h12 h13 h14 h15 h16 h17 h18 h19
set_option maxHeartbeats 4000000 in
theorem rightNumber_any (e : Ex) (w : World) : Calls Tryz.prog 136 #[exV e] w (EndsB (.bool (numOk e)) w) := by
  rw [exV_eq]
  have HB := Lib.hid (ball_new w #[.int .i64 e.op, .int .i64 e.n, .string e.s, .string e.q, .slice e.a e.x.length e.c] 42)
  generalize e.x.length = k at *
  rcases Bool.eq_false_or_eq_true (e.op == 1) with h1 | h1
  · rcases Bool.eq_false_or_eq_true (decide (0 ≤ e.n)) with h2 | h2
    · have h3 : 0 ≤ e.n := by simpa using h2
      go_enter Tryz.func136, Tryz.ntmps136
      go_wp2
      go_ret
      exact ends_bool (by simp [numOk, *]) HB.out
    · have h3 : ¬ 0 ≤ e.n := by simpa using h2
      go_enter Tryz.func136, Tryz.ntmps136
      go_wp2
      go_ret
      exact ends_bool (by simp [numOk, *]) HB.out
  · rcases Bool.eq_false_or_eq_true (e.op == 2) with h2 | h2
    · rcases Bool.eq_false_or_eq_true (e.n == 0) with h3 | h3
      · go_enter Tryz.func136, Tryz.ntmps136
        go_wp2
        go_ret
        exact ends_bool (by simp [numOk, *]) HB.out
      · rcases Bool.eq_false_or_eq_true (e.n == 1) with h4 | h4
        · go_enter Tryz.func136, Tryz.ntmps136
          go_wp2
          go_ret
          exact ends_bool (by simp [numOk, *]) HB.out
        · go_enter Tryz.func136, Tryz.ntmps136
          go_wp2
          go_ret
          exact ends_bool (by simp [numOk, *]) HB.out
    · rcases Bool.eq_false_or_eq_true (e.n == 0) with h3 | h3
      · go_enter Tryz.func136, Tryz.ntmps136
        go_wp2
        go_ret
        exact ends_bool (by simp [numOk, *]) HB.out
      · go_enter Tryz.func136, Tryz.ntmps136
        go_wp2
        go_ret
        exact ends_bool (by simp [numOk, *]) HB.out
end Go.Proofs.YtmihlmlojmdhjaaGreatDoor.Tre
/- rightParts, rightNames, rightTarget, rightBlocks, valued, wrongParam, rightWord, wrongWord: what the package's small tests answer. Conditions: sizes. -/
namespace Go.Proofs.YtmihlmlojmdhjaaGreatDoor.Tre
open Go.RowKit
set_option maxRecDepth 100000
theorem one_at {w w1 : World} {cs : Array Value} {T : TypeId} (h : Below (w.alloc (.cells cs T)).heap.size (w.alloc (.cells cs T)) w1) (i : Nat) : w1.cell? ⟨w.heap.size, i, none⟩ = cs[i]? :=
  cell_at ((h.block _ (by simp)).trans (new_at w cs T)) i
set_option maxHeartbeats 4000000 in
theorem rightNames_any (e : Ex) (w : World) (hs : e.s.size ≤ maxLen) (hq : e.q.size ≤ maxLen) : Calls Tryz.prog 137 #[exV e] w (EndsB (.bool (namesOk e)) w) := by
  have CS := fun w' => Lib.hid (lexName e.s w' hs)
  have CQ := fun w' => Lib.hid (lexName e.q w' hq)
  rw [exV_eq]
  have HB := Lib.hid (ball_new w #[.int .i64 e.op, .int .i64 e.n, .string e.s, .string e.q, .slice e.a e.x.length e.c] 42)
  have HA : Hid (∀ w1, Below (w.alloc (.cells #[.int .i64 e.op, .int .i64 e.n, .string e.s, .string e.q, .slice e.a e.x.length e.c] 42)).heap.size (w.alloc (.cells #[.int .i64 e.op, .int .i64 e.n, .string e.s, .string e.q, .slice e.a e.x.length e.c] 42)) w1 → w1.cell? ⟨w.heap.size, 3, none⟩ = some (.string e.q)) := Lib.hid (fun w1 h1 => one_at h1 3)
  clear hs hq
  generalize e.x.length = k at *
  obtain ⟨ts, hts⟩ : ∃ ts, nameB e.s = ts := ⟨_, rfl⟩
  obtain ⟨tq, htq⟩ : ∃ tq, nameB e.q = tq := ⟨_, rfl⟩
  have HTS := Lib.hid hts
  have HTQ := Lib.hid htq
  rw [hts] at CS
  rw [htq] at CQ
  clear hts htq
  rcases Bool.eq_false_or_eq_true (e.op == 3) with h1 | h1
  · rcases Bool.eq_false_or_eq_true ts with ht | ht <;> subst ht
    all_goals rcases Bool.eq_false_or_eq_true (e.q.toList == []) with h2 | h2
    all_goals go_enter Tryz.func137, Tryz.ntmps137
    all_goals go_wp2_with fail
    all_goals refine (CS _).out.mono ?_
    all_goals rintro e1 w1 ⟨rfl, hb1⟩
    all_goals have HB1 := Lib.hid (HB.out.trans (hb1.mono HB.out.size))
    all_goals have z3 := HA.out _ hb1
    all_goals clear hb1
    all_goals go_wp2_with fail
    all_goals go_ret
    all_goals exact ends_bool (by simp [namesOk, HTS.out, *]) HB1.out
  · rcases Bool.eq_false_or_eq_true (e.op == 4) with h2 | h2
    · rcases Bool.eq_false_or_eq_true ts with ht | ht <;> subst ht
      · rcases Bool.eq_false_or_eq_true (e.q.toList == []) with h3 | h3
        · go_enter Tryz.func137, Tryz.ntmps137
          go_wp2_with fail
          refine (CS _).out.mono ?_
          rintro e1 w1 ⟨rfl, hb1⟩
          have HB1 := Lib.hid (HB.out.trans (hb1.mono HB.out.size))
          have z3 := HA.out _ hb1
          clear hb1
          go_wp2_with fail
          go_ret
          exact ends_bool (by simp [namesOk, HTS.out, *]) HB1.out
        · go_enter Tryz.func137, Tryz.ntmps137
          go_wp2_with fail
          refine (CS _).out.mono ?_
          rintro e1 w1 ⟨rfl, hb1⟩
          have HB1 := Lib.hid (HB.out.trans (hb1.mono HB.out.size))
          have z3 := HA.out _ hb1
          clear hb1
          go_wp2_with fail
          refine (CQ _).out.mono ?_
          rintro e2 w2 ⟨rfl, hb2⟩
          have HB2 := Lib.hid (HB1.out.trans (hb2.mono HB1.out.size))
          clear hb2
          go_wp2_with fail
          go_ret
          exact ends_bool (by simp [namesOk, HTS.out, HTQ.out, *]) HB2.out
      · go_enter Tryz.func137, Tryz.ntmps137
        go_wp2_with fail
        refine (CS _).out.mono ?_
        rintro e1 w1 ⟨rfl, hb1⟩
        have HB1 := Lib.hid (HB.out.trans (hb1.mono HB.out.size))
        have z3 := HA.out _ hb1
        clear hb1
        go_wp2_with fail
        go_ret
        exact ends_bool (by simp [namesOk, HTS.out, *]) HB1.out
    · rcases Bool.eq_false_or_eq_true (e.s.toList == []) with h3 | h3
      all_goals rcases Bool.eq_false_or_eq_true (e.q.toList == []) with h4 | h4
      all_goals go_enter Tryz.func137, Tryz.ntmps137
      all_goals go_wp2_with fail
      all_goals go_ret
      all_goals exact ends_bool (by simp [namesOk, *]) HB.out
set_option maxHeartbeats 4000000 in
theorem rightParts_any (e : Ex) (w : World) (hl : e.x.length ≤ most) : Calls Tryz.prog 138 #[exV e] w (EndsB (.bool (partsOk e)) w) := by
  unfold most at hl
  have C := fun w' => Lib.hid (parts_any' e.op w')
  rw [exV_eq]
  have HB := Lib.hid (ball_new w #[.int .i64 e.op, .int .i64 e.n, .string e.s, .string e.q, .slice e.a e.x.length e.c] 42)
  obtain ⟨k, hk⟩ : ∃ k, e.x.length = k := ⟨_, rfl⟩
  obtain ⟨p, hp⟩ : ∃ p, partsI e.op = p := ⟨_, rfl⟩
  have HK := Lib.hid hk
  have HP := Lib.hid hp
  rw [hk] at hl HB ⊢
  rw [hp] at C
  clear hk hp
  rcases Bool.eq_false_or_eq_true (e.op == 4) with h1 | h1
  · rcases Bool.eq_false_or_eq_true (decide (k ≤ 255)) with h2 | h2
    · have h3 : k ≤ 255 := by simpa using h2
      go_enter Tryz.func138, Tryz.ntmps138
      go_wp2_with fail
      go_ret
      exact ends_bool (by simp [partsOk, HK.out, *]; omega) HB.out
    · have h3 : ¬ k ≤ 255 := by simpa using h2
      go_enter Tryz.func138, Tryz.ntmps138
      go_wp2_with fail
      go_ret
      exact ends_bool (by simp [partsOk, HK.out, *]; omega) HB.out
  · have CQ : ∀ m, Hid (Calls Tryz.prog 92 #[.int .i64 e.op] ((w.alloc (.cells #[.int .i64 e.op, .int .i64 e.n, .string e.s, .string e.q, .slice e.a k e.c] 42)).drewN m) (fun e' w' => e' = .returned (.int .i64 p) ∧ w' = (w.alloc (.cells #[.int .i64 e.op, .int .i64 e.n, .string e.s, .string e.q, .slice e.a k e.c] 42)).drewN m)) := fun m => C _
    clear C
    rcases Bool.eq_false_or_eq_true ((k : Int) == p) with h2 | h2
    all_goals go_enter Tryz.func138, Tryz.ntmps138
    all_goals go_wp2_with fail
    all_goals go_quiet ((go_at_call 92; exact Calls.quiet_of_same (CQ _).out))
    all_goals go_wp2_with fail
    all_goals go_ret
    all_goals exact ends_bool (by simp [partsOk, HK.out, HP.out, *]) (HB.out.trans ((below_drewN _ _).mono HB.out.size))
set_option maxHeartbeats 4000000 in
theorem rightTarget_any (s : St) (w : World) (hs : s.s.size ≤ maxLen) : Calls Tryz.prog 103 #[stV s] w (EndsB (.bool (targetOk s)) w) := by
  have CS := fun w' => Lib.hid (lexName s.s w' hs)
  rw [stV_eq]
  have HB := Lib.hid (ball_new w #[.int .i64 s.op, .string s.s, .int .i64 s.e.op, .int .i64 s.e.n, .string s.e.s, .string s.e.q, .slice s.e.a s.e.x.length s.e.c, .slice s.a s.b.length s.c, .slice s.a2 s.b2.length s.c2] 47)
  clear hs
  generalize s.e.x.length = k1 at *
  generalize s.b.length = k2 at *
  generalize s.b2.length = k3 at *
  obtain ⟨ts, hts⟩ : ∃ ts, nameB s.s = ts := ⟨_, rfl⟩
  have HTS := Lib.hid hts
  rw [hts] at CS
  clear hts
  rcases Bool.eq_false_or_eq_true (s.op == 1) with h1 | h1
  · go_enter Tryz.func103, Tryz.ntmps103
    go_wp2_with fail
    refine (CS _).out.mono ?_
    rintro e1 w1 ⟨rfl, hb1⟩
    have HB1 := Lib.hid (HB.out.trans (hb1.mono HB.out.size))
    clear hb1
    go_wp2_with fail
    go_ret
    exact ends_bool (by simp [targetOk, HTS.out, *]) HB1.out
  · rcases Bool.eq_false_or_eq_true (s.op == 2) with h2 | h2
    · go_enter Tryz.func103, Tryz.ntmps103
      go_wp2_with fail
      refine (CS _).out.mono ?_
      rintro e1 w1 ⟨rfl, hb1⟩
      have HB1 := Lib.hid (HB.out.trans (hb1.mono HB.out.size))
      clear hb1
      go_wp2_with fail
      go_ret
      exact ends_bool (by simp [targetOk, HTS.out, *]) HB1.out
    · rcases Bool.eq_false_or_eq_true (s.s.toList == []) with h3 | h3
      all_goals go_enter Tryz.func103, Tryz.ntmps103
      all_goals go_wp2_with fail
      all_goals go_ret
      all_goals exact ends_bool (by simp [targetOk, *]) HB.out
set_option maxHeartbeats 4000000 in
theorem rightBlocks_any (s : St) (w : World) (hl : s.b.length ≤ most) (hl2 : s.b2.length ≤ most) : Calls Tryz.prog 104 #[stV s] w (EndsB (.bool (blocksOk s)) w) := by
  unfold most at hl hl2
  rw [stV_eq]
  have HB := Lib.hid (ball_new w #[.int .i64 s.op, .string s.s, .int .i64 s.e.op, .int .i64 s.e.n, .string s.e.s, .string s.e.q, .slice s.e.a s.e.x.length s.e.c, .slice s.a s.b.length s.c, .slice s.a2 s.b2.length s.c2] 47)
  generalize s.e.x.length = k1 at *
  unfold blocksOk
  generalize s.b.length = k2 at *
  generalize s.b2.length = k3 at *
  rcases Bool.eq_false_or_eq_true (s.op == 3) with h1 | h1
  · go_enter Tryz.func104, Tryz.ntmps104
    go_wp2_with fail
    go_ret
    exact ends_bool (by simp [*]) HB.out
  · rcases Bool.eq_false_or_eq_true (k3 == 0) with h3 | h3
    · obtain rfl : k3 = 0 := by simpa using h3
      rcases Bool.eq_false_or_eq_true (s.op == 4) with h2 | h2
      · go_enter Tryz.func104, Tryz.ntmps104
        go_wp2_with fail
        go_ret
        exact ends_bool (by simp [*]) HB.out
      · rcases Bool.eq_false_or_eq_true (k2 == 0) with h4 | h4
        · obtain rfl : k2 = 0 := by simpa using h4
          go_enter Tryz.func104, Tryz.ntmps104
          go_wp2_with fail
          go_ret
          exact ends_bool (by simp [*]) HB.out
        · have h5 : ((k2 : Int) == 0) = false := by simp at h4 ⊢; omega
          go_enter Tryz.func104, Tryz.ntmps104
          go_wp2_with fail
          go_ret
          exact ends_bool (by simp [*]) HB.out
    · have h6 : ((k3 : Int) == 0) = false := by simp at h3 ⊢; omega
      rcases Bool.eq_false_or_eq_true (s.op == 4) with h2 | h2
      · go_enter Tryz.func104, Tryz.ntmps104
        go_wp2_with fail
        go_ret
        exact ends_bool (by simp [*]) HB.out
      · rcases Bool.eq_false_or_eq_true (k2 == 0) with h4 | h4
        · obtain rfl : k2 = 0 := by simpa using h4
          go_enter Tryz.func104, Tryz.ntmps104
          go_wp2_with fail
          go_ret
          exact ends_bool (by simp [*]) HB.out
        · have h5 : ((k2 : Int) == 0) = false := by simp at h4 ⊢; omega
          go_enter Tryz.func104, Tryz.ntmps104
          go_wp2_with fail
          go_ret
          exact ends_bool (by simp [*]) HB.out
theorem valued_any (t : Int) (w : World) : Calls Tryz.prog 62 #[.int .u8 t] w (EndsW (.bool (valB t)) w) := by
  unfold valB
  rcases Bool.eq_false_or_eq_true (t == 1) with h1 | h1
  · go_enter Tryz.func62, Tryz.ntmps62
    go_wp2
    go_ret
    exact ⟨by simp [*], rfl⟩
  · rcases Bool.eq_false_or_eq_true (t == 2) with h2 | h2
    all_goals go_enter Tryz.func62, Tryz.ntmps62
    all_goals go_wp2
    all_goals go_ret
    all_goals exact ⟨by simp [*], rfl⟩
set_option maxHeartbeats 4000000 in
theorem wrongParam_any (p : Par) (w : World) (hs : p.s.size ≤ maxLen) : Calls Tryz.prog 61 #[parV p] w (EndsB (.bool (wPar p)) w) := by
  have CS := fun w' => Lib.hid (lexName p.s w' hs)
  have CV := fun w' => Lib.hid (valued_any p.t w')
  unfold parV wPar
  have HB := Lib.hid (ball_new w #[.string p.s, .int .u8 p.t] 38)
  have HA : Hid (∀ w1, Below (w.alloc (.cells #[.string p.s, .int .u8 p.t] 38)).heap.size (w.alloc (.cells #[.string p.s, .int .u8 p.t] 38)) w1 → w1.cell? ⟨w.heap.size, 1, none⟩ = some (.int .u8 p.t)) := Lib.hid (fun w1 h1 => one_at h1 1)
  clear hs
  generalize nameB p.s = ts at *
  generalize valB p.t = tv at *
  rcases Bool.eq_false_or_eq_true ts with ht | ht <;> subst ht
  all_goals go_enter Tryz.func61, Tryz.ntmps61
  all_goals go_wp2_with fail
  all_goals refine (CS _).out.mono ?_
  all_goals rintro e1 w1 ⟨rfl, hb1⟩
  all_goals have HB1 := Lib.hid (HB.out.trans (hb1.mono HB.out.size))
  all_goals have z1 := HA.out _ hb1
  all_goals clear hb1
  all_goals go_wp2_with fail
  · refine (CV _).out.mono ?_
    rintro e2 w2 ⟨rfl, rfl⟩
    go_wp2_with fail
    go_ret
    exact ends_bool (by simp) HB1.out
  · go_ret
    exact ends_bool (by simp) HB1.out
theorem rightWord_any (s : ByteArray) (w : World) (hs : s.size ≤ maxLen) : Calls Tryz.prog 55 #[.string s] w (EndsB (.bool (wordB s)) w) := by
  have CS := fun w' => Lib.hid (lexName s w' hs)
  have CK := fun w' => Lib.hid (lexKey s w')
  unfold wordB
  clear hs
  generalize nameB s = ts at *
  generalize Lex.keyB s.data.toList = tk at *
  rcases Bool.eq_false_or_eq_true ts with ht | ht <;> subst ht
  all_goals go_enter Tryz.func55, Tryz.ntmps55
  all_goals go_wp2_with fail
  all_goals refine (CS _).out.mono ?_
  all_goals rintro e1 w1 ⟨rfl, hb1⟩
  all_goals have HB1 := Lib.hid hb1
  all_goals clear hb1
  all_goals go_wp2_with fail
  · go_ret
    exact ends_bool (by simp) HB1.out
  · refine (CK _).out.mono ?_
    rintro e2 w2 ⟨rfl, hb2⟩
    have HB2 := Lib.hid (HB1.out.trans (hb2.mono HB1.out.size))
    clear hb2
    go_wp2_with fail
    go_ret
    exact ends_bool (by simp) HB2.out
theorem wrongWord_any (s : ByteArray) (w : World) (hs : s.size ≤ maxLen) : Calls Tryz.prog 57 #[.string s] w (EndsB (.bool (!wordB s)) w) := by
  have CS := fun w' => Lib.hid (rightWord_any s w' hs)
  clear hs
  generalize wordB s = ts at *
  go_enter Tryz.func57, Tryz.ntmps57
  go_wp2_with fail
  refine (CS _).out.mono ?_
  rintro e1 w1 ⟨rfl, hb1⟩
  have HB1 := Lib.hid hb1
  clear hb1
  go_wp2_with fail
  go_ret
  exact ends_bool rfl HB1.out
end Go.Proofs.YtmihlmlojmdhjaaGreatDoor.Tre
