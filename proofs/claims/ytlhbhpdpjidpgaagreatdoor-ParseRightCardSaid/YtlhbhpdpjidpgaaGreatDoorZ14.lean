/-
  nodes, first: what these makers hand back; first's sequence: as many values as it may give, of a sequence of expressions. Conditions: the sequence gives these values.
-/
import Derived.Test.YtlhbhpdpjidpgaaGreatDoorZ13
namespace Go.Proofs.YtlhbhpdpjidpgaaGreatDoor.Tre
open Go.RowKit
set_option maxRecDepth 100000
attribute [local go_sem] Oper.semAt_some
set_option maxHeartbeats 1000000 in
theorem nodes_any (F : Fence) (m : Nat) (hF : F.fn 35) (hro : F.round = none) (A : Option Addr) (n c h : Nat) (w : World) : CallsIn F m Tryz.prog 35 #[.slice A n c, .func (.func h) #[] #[]] w fun r w' => r = .returned (.func (.func 61) #[] #[.pointer (some ⟨w.heap.size, 0, none⟩), .pointer (some ⟨w.heap.size + 1, 0, none⟩)]) ∧ w' = (w.alloc (.cells #[.slice A n c] 24)).alloc (.cells #[.func (.func h) #[] #[]] 79) := by
  refine callsIn_of_wp Tryz.func35 rfl hF ?_ hro
  simp only [Tryz.ntmps35, List.size_toArray, List.length_cons, List.length_nil, Nat.reduceAdd, Nat.reduceSub, Array.replicate_succ, Array.replicate_zero, List.push_toArray, List.append_toArray, List.nil_append, List.cons_append]
  gi_wp2
  go_ret
  exact ⟨rfl, rfl⟩
set_option maxHeartbeats 1000000 in
theorem first_any (F : Fence) (m : Nat) (hF : F.fn 60) (hro : F.round = none) (n : Int) (g : Nat) (lb : Array Value) (w : World) : CallsIn F m Tryz.prog 60 #[.int .i64 n, .func (.func g) #[] lb] w fun r w' => r = .returned (.func (.func 94) #[] #[.pointer (some ⟨w.heap.size, 0, none⟩), .pointer (some ⟨w.heap.size + 1, 0, none⟩)]) ∧ w' = (w.alloc (.cells #[.int .i64 n] 3)).alloc (.cells #[.func (.func g) #[] lb] 77) := by
  refine callsIn_of_wp Tryz.func60 rfl hF ?_ hro
  simp only [Tryz.ntmps60, List.size_toArray, List.length_cons, List.length_nil, Nat.reduceAdd, Nat.reduceSub, Array.replicate_succ, Array.replicate_zero, List.push_toArray, List.append_toArray, List.nil_append, List.cons_append]
  gi_wp2
  go_ret
  exact ⟨rfl, rfl⟩
theorem set_at {w : World} {g : Nat} {cs : Array Value} {T : TypeId} (h : w.heap[g]? = some (.cells cs T (0, 0))) (i : Nat) (u : Value) :
    (w.setCell ⟨g, i, none⟩ u).heap[g]? = some (.cells (cs.setIfInBounds i u) T (0, 0)) := by simp [World.setCell, Array.getElem?_modify, h]
theorem free_at {w : World} {g : Nat} {cs : Array Value} {T : TypeId} (h : w.heap[g]? = some (.cells cs T (0, 0))) (i : Nat) : w.frozen? ⟨g, i, none⟩ = false := by simp [World.frozen?, h]
theorem other_at {w : World} {g b : Nat} {o : Obj} (h : w.heap[g]? = some o) (hne : g ≠ b) (i : Nat) (u : Value) : (w.setCell ⟨b, i, none⟩ u).heap[g]? = some o := (Below.heap_setCell w _ u g hne).trans h
theorem take_at {α : Type} {l : List α} {N k : Nat} {y : α} (h : l[k]? = some y) (hk : k < N) : (l.take N)[k]? = some y := by rw [List.getElem?_take, if_pos hk]; exact h
set_option maxHeartbeats 4000000 in
theorem first_gives {c0 : Nat} {caps : List Nat} {gf : Nat} {lb : Array Value} {ys : List Ex} {w : World} (hseq : Gives c0 caps gf lb (ys.map exV) w) (eg : ∀ args w, (callFunc gf args).run Tryz.prog w = .ok (.enter gf args) w) (hc0 : c0 ≤ w.heap.size) (hcaps : ∀ b ∈ caps, b < w.heap.size)
    (n : Int) (hn2 : n ≤ 1000000) (b1 b2 : Nat) (hb1 : w.heap[b1]? = some (.cells #[.int .i64 n] 3 (0, 0))) (hb2 : w.heap[b2]? = some (.cells #[.func (.func gf) #[] lb] 77 (0, 0))) :
    Gives c0 caps 94 #[.pointer (some ⟨b1, 0, none⟩), .pointer (some ⟨b2, 0, none⟩)] ((ys.take n.toNat).map exV) w := fun m l S hi J Jx W hB h00 hhi hcap hJ hJx hY h0 => by
  have HJ := Lib.hid hJ
  have HJX := Lib.hid hJx
  have H00 := Lib.hid h00
  have HHI := Lib.hid hhi
  have HSEQ := Lib.hid hseq
  have HB := Lib.hid hB
  have HCAP := Lib.hid hcap
  have HCW := Lib.hid hcaps
  have HC0 := Lib.hid hc0
  have HY : Hid (∀ m k y W1, k < n.toNat → ys[k]? = some y → J k W1 → YieldAt Fence.wide m Tryz.prog l #[exV y] W1 (Goes S W.heap.size J Jx (k + 1) W1)) := Lib.hid (fun m k y W1 hk hy hj => hY m k (exV y) W1 (map_at (take_at hy hk)) hj)
  have hbb : Below W.heap.size W ((W.alloc (.cells #[.func (.yield l) #[] #[]] 99)).alloc (.cells #[.int .i64 n] 3)) := ((Below.refl _ W).alloc (Nat.le_refl _) _).alloc (by simp) _
  have HBB := Lib.hid hbb
  have c1 := cell_at ((Below.heap_alloc W (.cells #[.func (.yield l) #[] #[]] 99) b1 (by have := lt_of_heap hb1; have := hB.size; omega)).trans ((hB.block b1 (lt_of_heap hb1)).trans hb1)) 0
  have c2 := cell_at ((hbb.block b2 (by have := lt_of_heap hb2; have := hB.size; omega)).trans ((hB.block b2 (lt_of_heap hb2)).trans hb2)) 0
  simp only [List.getElem?_toArray, List.getElem?_cons_zero] at c1 c2
  have HN1 : Hid (((W.alloc (.cells #[.func (.yield l) #[] #[]] 99)).alloc (.cells #[.int .i64 n] 3)).heap[W.heap.size]? = some (.cells #[.func (.yield l) #[] #[]] 99 (0, 0))) := Lib.hid ((Below.heap_alloc _ _ _ (by simp)).trans (new_at W _ _))
  have HN2 : Hid (((W.alloc (.cells #[.func (.yield l) #[] #[]] 99)).alloc (.cells #[.int .i64 n] 3)).heap[W.heap.size + 1]? = some (.cells #[.int .i64 n] 3 (0, 0))) := Lib.hid (by
    have := new_at (W.alloc (.cells #[.func (.yield l) #[] #[]] 99)) #[.int .i64 n] 3
    rwa [World.size_alloc] at this)
  have HJ0 : Hid (J 0 ((W.alloc (.cells #[.func (.yield l) #[] #[]] 99)).alloc (.cells #[.int .i64 n] 3))) := Lib.hid (hJ.alloc _ (hJ.alloc _ h0))
  have HSZ : Hid (((W.alloc (.cells #[.func (.yield l) #[] #[]] 99)).alloc (.cells #[.int .i64 n] 3)).heap.size = W.heap.size + 2) := Lib.hid (by simp)
  have HNN := Lib.hid hn2
  have HEG := Lib.hid eg
  rw [List.length_map]
  clear hJ hJx h00 hhi hseq hB hcap hcaps hc0 hY hbb hb1 hb2 h0 hn2 eg
  refine callsIn_of_wp_marks Tryz.func94 rfl trivial ?_ rfl
  simp only [Tryz.ntmps94, List.size_toArray, List.length_cons, List.length_nil, Nat.reduceAdd, Nat.reduceSub, Array.replicate_succ, Array.replicate_zero, List.push_toArray, List.append_toArray, List.nil_append, List.cons_append]
  gi_wp2
  obtain ⟨X0, hX0⟩ : ∃ X0, (W.alloc (.cells #[.func (.yield l) #[] #[]] 99)).alloc (.cells #[.int .i64 n] 3) = X0 := ⟨_, rfl⟩
  rw [hX0] at HN1 HN2 HJ0 HSZ HBB ⊢
  clear hX0 c1 c2
  refine wp_over (c0 := c0) (caps := caps) (S := fun b => S b ∨ b = W.heap.size + 1) (hi := W.heap.size + 2) (vals := ys.map exV) (w0 := X0) (gf := gf) (lb := lb) rfl HEG.out (HSEQ.out.later (HB.out.trans (HBB.out.mono HB.out.size))) (Below.refl _ _) rfl
    (fun b hb => by rcases hb with hb | rfl; exact ⟨(H00.out b hb).1, by have := (H00.out b hb).2; have := HHI.out; omega⟩; exact ⟨by have := HC0.out; have := HB.out.size; omega, by omega⟩) (by have := HSZ.out; omega)
    (fun b hb hs => by rcases hs with hs | rfl; exact HCAP.out b hb hs; have := HCW.out _ hb; have := HB.out.size; omega)
    (I := fun k W' => k ≤ n.toNat ∧ J k W' ∧ W'.heap[W.heap.size]? = some (.cells #[.func (.yield l) #[] #[]] 99 (0, 0)) ∧ W'.heap[W.heap.size + 1]? = some (.cells #[.int .i64 (n - k)] 3 (0, 0)) ∧ W.heap.size + 2 ≤ W'.heap.size)
    (Ix := fun c W' => c = .ret ∧ (J (min n.toNat ys.length) W' ∨ Jx W'))
    (A := fun k a' W' => ∃ y By, ys[k]? = some y ∧ a' = { tmps := #[.func (.yield l) #[] #[], .pointer (some ⟨b1, 0, none⟩), .pointer (some ⟨b2, 0, none⟩), .pointer (some ⟨W.heap.size, 0, none⟩), .pointer (some ⟨W.heap.size + 1, 0, none⟩), .pointer (some ⟨By, 0, none⟩), .int .i64 n, .func (.func gf) #[] lb, .agg #[.int .i64 y.op, .int .i64 y.n, .string y.s, .string y.q, .slice y.a y.x.length y.c], undef, undef, undef, undef, undef, undef, undef, undef, undef, undef], defers := [] } ∧ W'.heap[By]? = some (.cells #[.int .i64 y.op, .int .i64 y.n, .string y.s, .string y.q, .slice y.a y.x.length y.c] 36 (0, 0)) ∧ W.heap.size + 2 ≤ By ∧ k ≤ n.toNat ∧ J k W' ∧ W'.heap[W.heap.size]? = some (.cells #[.func (.yield l) #[] #[]] 99 (0, 0)) ∧ W'.heap[W.heap.size + 1]? = some (.cells #[.int .i64 (n - k)] 3 (0, 0)) ∧ W.heap.size + 2 ≤ W'.heap.size)
    ?ownI ?ownX ?ownA ?start ?assign ?body ?done ?stop
  case ownI =>
    rintro k X Y row ⟨h1, h2, h3, h4, h5⟩ hg hr
    have hs := HSZ.out
    exact ⟨h1, HJ.out _ X Y row h2 hg (fun r e => by have := hr r e; omega), (hg.block _ (lt_of_heap h3) (fun e => by have := hr _ e.symm; omega)).trans h3, (hg.block _ (lt_of_heap h4) (fun e => by have := hr _ e.symm; omega)).trans h4, Nat.le_trans h5 hg.size⟩
  case ownX =>
    rintro c' k X Y row ⟨h1, h2⟩ hg hr
    have hs := HSZ.out
    refine ⟨h1, ?_⟩
    rcases h2 with h2 | h2
    · exact .inl (HJ.out _ X Y row h2 hg (fun r e => by have := hr r e; omega))
    · exact .inr (HJX.out () X Y row h2 hg (fun r e => by have := hr r e; omega))
  case ownA =>
    rintro k a' _ X Y row ⟨y, By, q1, q2, q3, q4, h1, h2, h3, h4, h5⟩ hg hr
    have hs := HSZ.out
    exact ⟨y, By, q1, q2, cells_grown hg (fun r e => (hr r e).2) q3, q4, h1, HJ.out _ X Y row h2 hg (fun r e => by have := (hr r e).1; omega), cells_grown hg (fun r e => (hr r e).2) h3, cells_grown hg (fun r e => (hr r e).2) h4, Nat.le_trans h5 hg.size⟩
  case start => exact ⟨Nat.zero_le _, HJ0.out, HN1.out, by have := HN2.out; rwa [show n - ((0 : Nat) : Int) = n by omega], by have := HSZ.out; omega⟩
  case assign =>
    rintro l2 k v m2 W5 hv ⟨h1, h2, h3, h4, h5⟩
    obtain ⟨y, hy9, rfl⟩ : ∃ y, ys[k]? = some y ∧ exV y = v := by simpa using hv
    have hb := ball_new W5 #[.int .i64 y.op, .int .i64 y.n, .string y.s, .string y.q, .slice y.a y.x.length y.c] 36
    have G1 := Lib.hid (HJ.out.alloc (.cells #[.int .i64 y.op, .int .i64 y.n, .string y.s, .string y.q, .slice y.a y.x.length y.c] 36) h2)
    have G3 := Lib.hid ((hb.block _ (lt_of_heap h3)).trans h3)
    have G4 := Lib.hid ((hb.block _ (lt_of_heap h4)).trans h4)
    have G5 := Lib.hid hy9
    have G6 := Lib.hid (new_at W5 #[.int .i64 y.op, .int .i64 y.n, .string y.s, .string y.q, .slice y.a y.x.length y.c] 36)
    have G8 := Lib.hid h5
    have G9 := Lib.hid h1
    rw [exV_eq]
    clear h1 h2 h3 h4 h5 hv hy9 hb
    gi_wp2
    exact ⟨Keep.alloc _, y, _, G5.out, rfl, G6.out, G8.out, G9.out, G1.out, G3.out, G4.out, Nat.le_trans G8.out (by simp)⟩
  case body =>
    rintro l2 k v m2 a' W5 _ _ _ ⟨y, By, hy9, rfl, hby, hBy, h1, h2, h3, h4, h5⟩
    have z0 := cell_at h3 0
    have z1 := cell_at h4 0
    simp only [List.getElem?_toArray, List.getElem?_cons_zero] at z0 z1
    have ⟨x0, x1, x2, x3, x4⟩ := five_at hby
    have HLEN := Lib.hid (List.getElem?_eq_some_iff.1 hy9).1
    have HKN := Lib.hid h1
    have HJ5 := Lib.hid h2
    have HH3 := Lib.hid h3
    have HH4 := Lib.hid h4
    have HH5 := Lib.hid h5
    by_cases hlt : (k : Int) < n
    · obtain ⟨fn, tmps, assign, body, hy, hR⟩ := HY.out (m2 - 1) k y W5 (by omega) hy9 h2
      rw [exV_eq] at hy
      have HRY := Lib.hid hR
      obtain ⟨d, hd⟩ : ∃ d : Nat, n - k = (d : Int) + 1 := ⟨(n - k).toNat - 1, by omega⟩
      have hd2 : d ≤ 1000000 := by have := HNN.out; omega
      have HD := Lib.hid hd
      rw [hd] at z1
      have hq : decide ((d : Int) + 1 ≤ 0) = false := by rw [decide_eq_false_iff_not]; omega
      clear hy9 hby hBy h1 h2 h3 h4 h5 hR hd hlt
      gi_wp2
      refine ⟨(fun h => by cases h), ?_⟩
      refine RoundIn.mono (F := Fence.wide.inRound l2) HRY.out ?_
      rintro e6 W6 (⟨rfl, hJ6, hk6⟩ | ⟨rfl, hx6, hk6⟩)
      · have hno : ∀ b, W.heap.size ≤ b → ¬ S b := fun b hb hs => by have := (H00.out b hs).2; have := HHI.out; omega
        have K3 := Lib.hid (hk6.cell (hno _ (Nat.le_refl _)) HH3.out)
        have K4 := Lib.hid (hk6.cell (hno _ (by omega)) HH4.out)
        have K5 := Lib.hid hJ6
        have K6 := Lib.hid hk6
        have z2 := cell_at K4.out 0
        simp only [List.getElem?_toArray, List.getElem?_cons_zero] at z2
        rw [HD.out] at z2
        clear hk6 hJ6 hno z0 z1 x0 x1 x2 x3 x4
        have fz := free_at K4.out 0
        gi_wp2
        have e9 : n - ((k + 1 : Nat) : Int) = (d : Int) := by have := HD.out; omega
        have hs4 : (W6.setCell ⟨W.heap.size + 1, 0, none⟩ (.int .i64 (d : Int))).heap[W.heap.size + 1]? = some (.cells #[.int .i64 (d : Int)] 3 (0, 0)) := set_at K4.out 0 _
        refine ⟨(K6.out.more (fun _ h => .inl h) (by have := HSZ.out; omega)).trans (Keep.set (.inr rfl) K4.out), by have := HD.out; omega, HJ.out.setCell _ K5.out (by omega), other_at K3.out (by omega) _ _, ?_, ?_⟩
        · rw [e9]; exact hs4
        · have h1 := K6.out.size
          have h2 := HH5.out
          have h3 := (KeepsWalks.setCell W6 ⟨W.heap.size + 1, 0, none⟩ (.int .i64 (d : Int))).size
          omega
      · have K6 := Lib.hid hk6
        clear hk6 z0 z1 x0 x1 x2 x3 x4
        gi_wp2
        exact ⟨K6.out.more (fun _ h => .inl h) (by have := HSZ.out; omega), rfl, .inr hx6⟩
    · clear hy9 hby hBy h1 h2 h3 h4 h5
      gi_wp2
      refine ⟨fun _ h => (by cases h), ?_⟩
      gi_wp2
      refine ⟨Keep.refl _ _ _, rfl, .inl ?_⟩
      rw [show min n.toNat ys.length = k by have := HLEN.out; have := HKN.out; omega]
      exact HJ5.out
  case done =>
    rintro D W5 hD ⟨h1, h2, h3, h4, h5⟩ hd
    rw [List.length_map] at h1 h2
    have G1 := Lib.hid h1
    have G2 := Lib.hid h2
    have G3 := Lib.hid ((Marks.nil W5).cons (by simp) hd)
    have G4 : Hid (∀ D' ∈ [D], W.heap.size ≤ D') := Lib.hid (fun D' hm => by have := HSZ.out; simp at hm; omega)
    clear h1 h2 h3 h4 h5 hd
    gi_wp2
    refine ends_marks (ds := [D]) HJ.out HJX.out rfl G3.out G4.out (.inl ?_)
    rw [List.length_take, show min n.toNat ys.length = ys.length by have := G1.out; omega]
    exact G2.out
  case stop =>
    rintro D c' W5 hD ⟨rfl, h2⟩ hd
    have G2 := Lib.hid h2
    have G3 := Lib.hid ((Marks.nil W5).cons (by simp) hd)
    have G4 : Hid (∀ D' ∈ [D], W.heap.size ≤ D') := Lib.hid (fun D' hm => by have := HSZ.out; simp at hm; omega)
    clear h2 hd
    gi_wp2
    refine ends_marks (ds := [D]) HJ.out HJX.out rfl G3.out G4.out ?_
    rw [List.length_take]
    exact G2.out
end Go.Proofs.YtlhbhpdpjidpgaaGreatDoor.Tre
/- fits: can all of a sequence be gone through; SameExpr: are two expressions the same. Conditions: the sequence gives these expressions; the trees lie in memory. -/
namespace Go.Proofs.YtlhbhpdpjidpgaaGreatDoor.Tre
open Go.RowKit
set_option maxRecDepth 100000
attribute [local go_sem] Oper.semAt_some
/-- A function's answer behind its one mark. -/
theorem ends_one {n : Nat} {fn : Func} {tmps : Array Value} {R : Ending → World → Prop} {D : Nat} {W : World} (hd : W.heap[D]? = some (.deferred (some []))) (t : Tmp) (v : Value) (hres : fn.results = #[.tmp t]) (hv : tmps.getD t undef = v) (h : R (.returned v) (W.putObj D (.deferred none))) :
    LeavesInM Fence.wide n Tryz.prog fn tmps R [mark D] .returning W := by
  refine ⟨by simp, .inl ⟨D, _, rfl, run_takeDeferred hd, ?_⟩⟩
  subst hv
  exact ⟨_, results_tmp hres _ _ _, h⟩
set_option maxHeartbeats 4000000 in
theorem fits_any {c0 : Nat} {caps : List Nat} {gf : Nat} {lb : Array Value} {ys : List Ex} {w : World} (hseq : Gives c0 caps gf lb (ys.map exV) w) (eg : ∀ args w, (callFunc gf args).run Tryz.prog w = .ok (.enter gf args) w) (hc0 : c0 ≤ w.heap.size) (hcaps : ∀ b ∈ caps, b < w.heap.size) :
    Calls Tryz.prog 34 #[.func (.func gf) #[] lb] w (EndsB (.bool (decide (ys.length ≤ 100000))) w) := by
  refine (callsIn_wide (n := 5)).1 ?_
  generalize 5 = m5
  have HSEQ := Lib.hid hseq
  have HEG := Lib.hid eg
  have HC0 := Lib.hid hc0
  have HCW := Lib.hid hcaps
  clear hseq eg hc0 hcaps
  refine callsIn_of_wp_marks Tryz.func34 rfl trivial ?_ rfl
  simp only [Tryz.ntmps34, List.size_toArray, List.length_cons, List.length_nil, Nat.reduceAdd, Nat.reduceSub, Array.replicate_succ, Array.replicate_zero, List.push_toArray, List.append_toArray, List.nil_append, List.cons_append]
  gi_wp2
  refine ⟨trivial, (fun h => by cases h), ?_⟩
  refine (first_any Fence.wide _ trivial rfl 100001 gf lb (w.alloc (.cells #[.int .i64 0] 3))).mono ?_
  rintro e w4 ⟨rfl, rfl⟩
  obtain ⟨X0, hX0⟩ : ∃ X0, ((w.alloc (.cells #[.int .i64 0] 3)).alloc (.cells #[.int .i64 100001] 3)).alloc (.cells #[.func (.func gf) #[] lb] 77) = X0 := ⟨_, rfl⟩
  have HB0 : Hid (Below w.heap.size w X0) := Lib.hid (by rw [← hX0]; exact (((Below.refl _ w).alloc (Nat.le_refl _) _).alloc (by simp) _).alloc (by simp; omega) _)
  have HN0 : Hid (X0.heap[w.heap.size]? = some (.cells #[.int .i64 0] 3 (0, 0))) := Lib.hid (by rw [← hX0]; exact (Below.heap_alloc _ _ _ (by simp; omega)).trans ((Below.heap_alloc _ _ _ (by simp)).trans (new_at w _ _)))
  have HN1 : Hid (X0.heap[w.heap.size + 1]? = some (.cells #[.int .i64 100001] 3 (0, 0))) := Lib.hid (by
    rw [← hX0]
    have := new_at (w.alloc (.cells #[.int .i64 0] 3)) #[.int .i64 100001] 3
    rw [World.size_alloc] at this
    exact (Below.heap_alloc _ _ _ (by simp)).trans this)
  have HN2 : Hid (X0.heap[w.heap.size + 1 + 1]? = some (.cells #[.func (.func gf) #[] lb] 77 (0, 0))) := Lib.hid (by
    rw [← hX0]
    have := new_at ((w.alloc (.cells #[.int .i64 0] 3)).alloc (.cells #[.int .i64 100001] 3)) #[.func (.func gf) #[] lb] 77
    rwa [World.size_alloc, World.size_alloc] at this)
  have HSZ : Hid (X0.heap.size = w.heap.size + 3) := Lib.hid (by rw [← hX0]; simp)
  rw [hX0]
  clear hX0
  simp only [World.size_alloc]
  gi_wp2
  refine wp_over (c0 := c0) (caps := caps) (S := fun b => b = w.heap.size) (hi := w.heap.size + 1) (vals := (ys.take 100001).map exV) (w0 := X0) (gf := 94) (lb := #[.pointer (some ⟨w.heap.size + 1, 0, none⟩), .pointer (some ⟨w.heap.size + 1 + 1, 0, none⟩)]) rfl (enters_of Tryz.func94 (by kernel_rfl) rfl)
    (first_gives (HSEQ.out.later HB0.out) HEG.out (by have := HC0.out; have := HSZ.out; omega) (fun b hb => by have := HCW.out b hb; have := HSZ.out; omega) 100001 (by omega) _ _ HN1.out HN2.out) (Below.refl _ _) rfl
    (fun b hb => by subst hb; exact ⟨HC0.out, by omega⟩) (by have := HSZ.out; omega) (fun b hb hs => by have := HCW.out b hb; omega)
    (I := fun k W' => W'.heap[w.heap.size]? = some (.cells #[.int .i64 k] 3 (0, 0)) ∧ Below w.heap.size w W')
    (Ix := fun _ _ => False)
    (A := fun k a' W' => k < (ys.take 100001).length ∧ ∃ v, a' = { tmps := #[.func (.func gf) #[] lb, undef, .bool false, .pointer (some ⟨w.heap.size, 0, none⟩), .func (.func gf) #[] lb, .func (.func 94) #[] #[.pointer (some ⟨w.heap.size + 1, 0, none⟩), .pointer (some ⟨w.heap.size + 1 + 1, 0, none⟩)], v, undef, undef, undef, undef], defers := [] } ∧ W'.heap[w.heap.size]? = some (.cells #[.int .i64 k] 3 (0, 0)) ∧ Below w.heap.size w W')
    ?ownI ?ownX ?ownA ?start ?assign ?body ?done ?stop
  case ownI =>
    rintro k X Y row ⟨h1, h2⟩ hg hr
    exact ⟨(hg.block _ (lt_of_heap h1) (fun e => by have := hr _ e.symm; have := HSZ.out; omega)).trans h1, h2.grown hg h2.size (fun r e => by have := hr r e; have := HSZ.out; omega)⟩
  case ownX => exact fun _ _ _ _ _ h _ _ => h.elim
  case ownA =>
    rintro k a' _ X Y row ⟨h0, v, q, h1, h2⟩ hg hr
    exact ⟨h0, v, q, cells_grown hg (fun r e => (hr r e).2) h1, h2.grown hg h2.size (fun r e => by have := (hr r e).1; have := HSZ.out; omega)⟩
  case start => exact ⟨HN0.out, HB0.out⟩
  case assign =>
    rintro l2 k v m2 W5 hv ⟨h1, h2⟩
    have h0 := (List.getElem?_eq_some_iff.1 hv).1
    rw [List.length_map] at h0
    gi_wp2
    exact ⟨Keep.refl _ _ _, h0, v, by simp, h1, h2⟩
  case body =>
    rintro l2 k v m2 a' W5 _ _ _ ⟨h0, v', rfl, h1, h2⟩
    have z0 := cell_at h1 0
    have fz := free_at h1 0
    simp only [List.getElem?_toArray, List.getElem?_cons_zero] at z0
    have hk : k ≤ 1000000 := by rw [List.length_take] at h0; omega
    have H1 := Lib.hid h1
    have H2 := Lib.hid h2
    clear h1 h2 h0
    gi_wp2
    exact ⟨Keep.set rfl H1.out, set_at H1.out 0 _, H2.out.setCell (p := ⟨w.heap.size, 0, none⟩) (Nat.le_refl _) _⟩
  case done =>
    rintro D W5 hD ⟨h1, h2⟩ hd
    have z0 := cell_at h1 0
    simp only [List.getElem?_toArray, List.getElem?_cons_zero, List.length_map, List.length_take] at z0
    have HD := Lib.hid hd
    have H2 := Lib.hid h2
    have HDW : Hid (w.heap.size ≤ D) := Lib.hid (by have := HSZ.out; omega)
    clear h1 h2 hd hD
    gi_wp2
    refine ends_one HD.out 2 _ rfl rfl ?_
    refine ⟨?_, H2.out.grown (grownBy_putObj' W5 D _) H2.out.size (fun k e => by cases e; exact HDW.out)⟩
    simp
    omega
  case stop => exact fun _ _ _ _ h _ => h.elim
end Go.Proofs.YtlhbhpdpjidpgaaGreatDoor.Tre
/- SameExpr, Same: are two expressions, two files the same (the package's own), so far as they can be gone through. Conditions: the trees lie in memory. -/
namespace Go.Proofs.YtlhbhpdpjidpgaaGreatDoor.Tre
open Go.RowKit
set_option maxRecDepth 100000
theorem flV_eq (f : Fl) : flV f = .agg #[.string f.s, .slice f.ia f.i.length f.ic, .slice f.fa f.f.length f.fc] := rfl
set_option maxHeartbeats 4000000 in
theorem same_any (a b : Fl) (w : World) (ha : FlIn w a) (hb : FlIn w b) : Calls Tryz.prog 17 #[flV a, flV b] w (EndsB (.bool (decide ((nodes givenB a.f).length ≤ 100000) && sameFl a b)) w) := by
  obtain ⟨X0, hX0⟩ : ∃ X0, (w.alloc (.cells #[.string a.s, .slice a.ia a.i.length a.ic, .slice a.fa a.f.length a.fc] 26)).alloc (.cells #[.string b.s, .slice b.ia b.i.length b.ic, .slice b.fa b.f.length b.fc] 26) = X0 := ⟨_, rfl⟩
  have HB0 : Hid (Below w.heap.size w X0) := Lib.hid (by rw [← hX0]; exact two_new w _ _ _)
  have HN : Hid (∀ w1, Below X0.heap.size X0 w1 → ∀ i, w1.cell? ⟨w.heap.size, i, none⟩ = (#[.string a.s, .slice a.ia a.i.length a.ic, .slice a.fa a.f.length a.fc] : Array Value)[i]? ∧ w1.cell? ⟨w.heap.size + 1, i, none⟩ = (#[.string b.s, .slice b.ia b.i.length b.ic, .slice b.fa b.f.length b.fc] : Array Value)[i]?) := Lib.hid (fun w1 h1 i => by subst hX0; exact box_at h1 i)
  have CN := Lib.hid ((callsIn_wide (n := 5)).1 (nodes_any Fence.wide 5 trivial rfl a.fa a.f.length a.fc 36 X0))
  have hb1 : Below X0.heap.size X0 ((X0.alloc (.cells #[.slice a.fa a.f.length a.fc] 24)).alloc (.cells #[.func (.func 36) #[] #[]] 79)) := ((Below.refl _ X0).alloc (Nat.le_refl _) _).alloc (by simp) _
  have HB1 := Lib.hid hb1
  have hg := nodes1_given w a.f a.fa a.fc ha.frow ha.flen ha.fns X0.heap.size (X0.heap.size + 1) ((X0.alloc (.cells #[.slice a.fa a.f.length a.fc] 24)).alloc (.cells #[.func (.func 36) #[] #[]] 79)) (Low.below (HB0.out.trans (hb1.mono HB0.out.size))) ((Below.heap_alloc _ _ _ (by simp)).trans (new_at X0 _ _)) (by have := new_at (X0.alloc (.cells #[.slice a.fa a.f.length a.fc] 24)) #[.func (.func 36) #[] #[]] 79; rwa [World.size_alloc] at this) (by have := HB0.out.size; have := hb1.size; omega)
  have CF := Lib.hid (fits_any hg (enters_of Tryz.func61 (by kernel_rfl) rfl) (by have := HB0.out.size; have := hb1.size; omega) (fun b hb => by simp at hb; subst hb; simp))
  have CT := fun (w' : World) (hw : Below w.heap.size w w') => Lib.hid (equalT a.i b.i a.ia b.ia a.ic b.ic w' (ha.irow.below hw) (hb.irow.below hw) ha.ilen)
  have CE := fun (w' : World) (hw : Below w.heap.size w w') => Lib.hid (equalFn a.f b.f a.fa b.fa a.fc b.fc w' (ha.frow.below hw) (hb.frow.below hw) ha.flen (fun s hs => (ha.fns s hs).below hw) (fun s hs => (hb.fns s hs).below hw))
  have HX0 := Lib.hid hX0
  clear hb1 hg ha hb hX0
  unfold sameFl
  rw [flV_eq, flV_eq]
  generalize (nodes givenB a.f).length = N at *
  generalize allTwo sameT a.i b.i = t2 at *
  generalize allTwo sameF a.f b.f = t3 at *
  generalize a.i.length = k1 at *
  generalize b.i.length = k2 at *
  generalize a.f.length = k3 at *
  generalize b.f.length = k4 at *
  generalize decide (N ≤ 100000) = t1 at *
  go_enter Tryz.func17, Tryz.ntmps17
  go_wp2_with fail
  rw [HX0.out]
  refine CN.out.mono ?_
  rintro e w1 ⟨rfl, rfl⟩
  go_wp2_with fail
  refine CF.out.mono ?_
  rintro e w2 ⟨rfl, hb2⟩
  have HX2 := Lib.hid (HB1.out.trans (hb2.mono HB1.out.size))
  have HB2 := Lib.hid (HB0.out.trans (HX2.out.mono HB0.out.size))
  obtain ⟨z0, y0⟩ := HN.out w2 HX2.out 0
  obtain ⟨z1, y1⟩ := HN.out w2 HX2.out 1
  simp only [List.getElem?_toArray, List.getElem?_cons_succ, List.getElem?_cons_zero] at z0 y0 z1 y1
  clear hb2 CN CF
  rcases Bool.eq_false_or_eq_true t1 with ht | ht <;> subst ht
  · rcases Bool.eq_false_or_eq_true (a.s.toList == b.s.toList) with h1 | h1
    · go_wp2_with fail
      refine (CT _ HB2.out).out.mono ?_
      rintro e w3 ⟨rfl, hb3⟩
      have HX3 := Lib.hid (HX2.out.trans (hb3.mono HX2.out.size))
      have HB3 := Lib.hid (HB0.out.trans (HX3.out.mono HB0.out.size))
      obtain ⟨z2, y2⟩ := HN.out w3 HX3.out 2
      simp only [List.getElem?_toArray, List.getElem?_cons_succ, List.getElem?_cons_zero] at z2 y2
      clear hb3 z0 y0 z1 y1
      rcases Bool.eq_false_or_eq_true t2 with ht | ht <;> subst ht
      · go_wp2_with fail
        refine (CE _ HB3.out).out.mono ?_
        rintro e w4 ⟨rfl, hb4⟩
        have HB4 := Lib.hid (HB3.out.trans (hb4.mono HB3.out.size))
        clear hb4
        go_wp2_with fail
        go_ret
        exact ends_bool (by simp [*]) HB4.out
      · go_wp2_with fail
        go_ret
        exact ends_bool (by simp [*]) HB3.out
    · go_wp2_with fail
      go_ret
      exact ends_bool (by simp [*]) HB2.out
  · go_wp2_with fail
    go_ret
    exact ends_bool (by simp) HB2.out
end Go.Proofs.YtlhbhpdpjidpgaaGreatDoor.Tre
