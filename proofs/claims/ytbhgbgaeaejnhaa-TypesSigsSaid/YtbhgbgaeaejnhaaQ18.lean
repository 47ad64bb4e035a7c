/-
  The program's Of: what a function is asked with. Conditions: the function lies in memory; it has at most 100 parameters.
-/
import Derived.Test.YtbhgbgaeaejnhaaQ06
import Derived.Test.YtbhgbgaeaejnhaaQ17
import Derived.Deep.DeepCutAuto
namespace Go.Proofs.Ytbhgbgaeaejnhaa.Typ
open Go.RowKit Tre
open OwnR (OwnG)
open Lex (AtS at_take at_run at_call)
set_option maxRecDepth 100000
set_option linter.unusedSimpArgs false
section
variable {P : Program} {ops : Array Oper} {Q : Exit → Act → World → Prop} {md : Region.Mode} {S : World → Prop} {n fuel : Nat} {a : Act} {w w' : World} {oi : Oper} {listed : Array Bool}
/-- A call, or what makes memory: either first. -/
theorem at_callOr (i j di dj : Nat) {oj : Oper} {f : Nat} {args : Array Value} {v' : Value} {w2 : World} (hi : ops[i]? = some oi) (hj : ops[j]? = some oj) (hdi : oi.dst = some di) (hdj : oj.dst = some dj) (hr : Region.ready md ops listed = [i, j]) (hin : i < n) (hjn : j < n) (hwi : Region.wanted oi (yielded ops a.tmps) = true) (hwj : Region.wanted oj (yielded ops a.tmps) = true)
    (hruni : (execOp a.eval oi).run P w = .ok (.enter f args) w) (hrunj : (execOp a.eval oj).run P w = .ok (.value v') w2) (hS2 : S w2)
    (h1 : Calls P f args w fun e w' => ∃ v, e = .returned v ∧ S w' ∧ AtS P md ops Q S n fuel (listed.setIfInBounds i true) (a.put (some di) v) w') (h2 : AtS P md ops Q S n fuel (listed.setIfInBounds j true) (a.put (some dj) v') w2) : AtS P md ops Q S n (fuel + 1) listed a w := fun hs hcb inv => by
  refine ⟨fun h0 => (by rw [h0] at hr; cases hr), fun k hk => ?_⟩
  rw [hr] at hk
  rcases List.mem_cons.1 hk with rfl | hk
  · unfold wpOp
    simp only [hi, hwi, if_true]
    refine .inl ?_
    unfold Oper.wp
    rw [hruni]
    simp only [Oper.upon]
    refine Calls.mono h1 ?_
    rintro e w' ⟨v, rfl, hS, h⟩
    rw [hdi]
    exact ⟨fun _ => hS, h hs hcb (inv.set (by rw [hr]; simp) hin)⟩
  · obtain rfl : k = j := by simpa using hk
    unfold wpOp
    simp only [hj, hwj, if_true]
    refine .inl ?_
    unfold Oper.wp
    rw [hrunj]
    simp only [Oper.upon]
    rw [hdj]
    exact ⟨fun _ => hS2, h2 hs hcb (inv.set (by rw [hr]; simp) hjn)⟩
end
/-- What the loop knows; g: where the signature lies. -/
structure POf (f : Tre.Fn) (m : Nat) (w wr : World) (g : Nat) (v : Value) (l : List Int) : Prop where
  box : wr.heap[w.heap.size]? = some (.cells #[.string f.s, .slice f.pa m f.pc, .int .u8 f.r, .slice f.ba f.b.length f.bc] 42 (0, 0))
  res : wr.heap[w.heap.size + 1]? = some (.cells #[.string ⟨#[]⟩, .slice none 0 0, .int .u8 0] 33 (0, 0))
  sig : wr.heap[g]? = some (.cells #[.string f.s, v, .int .u8 f.r] 33 (0, 0))
  gl : w.heap.size + 2 ≤ g
  own : OwnG 1 tyC 31 wr (g + 1) v l
  low : Below w.heap.size w wr
theorem POf.one {f : Tre.Fn} {m : Nat} {w wr : World} {g : Nat} {v : Value} {l : List Int} (h : POf f m w wr g v l) (s : ByteArray) (x : Int) (hl : l.length ≤ 1000000) :
    ∃ A n c w3, (∀ ty, (Builtin.append_ #[26, 26] ty #[v, .slice (some ⟨wr.heap.size + 1, 0, none⟩) 1 1]).run Try.prog ((wr.alloc (.cells #[.string s, .int .u8 x] 64)).alloc (.cells #[.int .u8 x] 31)) = .ok (.slice A n c) w3) ∧ w3.heap[g]? = some (.cells #[.string f.s, v, .int .u8 f.r] 33 (0, 0)) ∧ POf f m w (w3.setCell ⟨g, 1, none⟩ (.slice A n c)) g (.slice A n c) (l ++ [x]) := by
  have hz : (wr.alloc (.cells #[.string s, .int .u8 x] 64)).heap.size = wr.heap.size + 1 := World.size_alloc _ _
  have hb1 := ball_new wr #[.string s, .int .u8 x] 64
  have hb2 := ball_new (wr.alloc (.cells #[.string s, .int .u8 x] 64)) #[.int .u8 x] 31
  have hn := new_at (wr.alloc (.cells #[.string s, .int .u8 x] 64)) #[.int .u8 x] 31
  have hb := hb1.trans (hb2.mono hb1.size)
  rw [hz] at hn
  generalize (wr.alloc (.cells #[.string s, .int .u8 x] 64)).alloc (.cells #[.int .u8 x] 31) = W at *
  have hglt := lt_of_heap h.sig
  have hgl := h.gl
  have own1 : OwnG 1 tyC 31 W (g + 1) v l := h.own.keep fun k hk => hb.block k (h.own.lt k hk).2
  have box1 := (hb.block _ (lt_of_heap h.box)).trans h.box
  have res1 := (hb.block _ (lt_of_heap h.res)).trans h.res
  have sig1 := (hb.block _ hglt).trans h.sig
  have low1 := h.low.trans (hb.mono h.low.size)
  obtain ⟨v2, w3, hr, ho2, hg2, hn2⟩ := app_ty W v l x (wr.heap.size + 1) own1 hn hl (by have := lt_of_heap sig1; omega)
  have hne : ∀ k, k < g + 1 → some k ≠ v.ownBlock := fun k hk e => by have := (own1.lt k e.symm).1; omega
  have box2 := (hg2.block _ (lt_of_heap box1) (hne _ (by omega))).trans box1
  have res2 := (hg2.block _ (lt_of_heap res1) (hne _ (by omega))).trans res1
  have sig2 := (hg2.block _ (lt_of_heap sig1) (hne _ (by omega))).trans sig1
  have low2 := low1.grown hg2 low1.size (fun k hk => by have := (own1.lt k hk).1; omega)
  obtain ⟨A, c, rfl, _⟩ := ho2.form
  refine ⟨A, _, c, w3, hr, sig2, ⟨(Below.heap_setCell _ _ _ _ (by show w.heap.size ≠ g; omega)).trans box2, (Below.heap_setCell _ _ _ _ (by show w.heap.size + 1 ≠ g; omega)).trans res2, (setc_at sig2 _).trans (by rfl), h.gl, ho2.keep fun k hk => Below.heap_setCell _ _ _ _ (by have := (ho2.lt k hk).1; show k ≠ g; omega), low2.setCell (p := ⟨g, 1, none⟩) (by show w.heap.size ≤ g; omega) _⟩⟩
set_option maxHeartbeats 8000000 in
theorem pof_any (f : Tre.Fn) (w : World) (hf : FnIn w f) (hp : f.p.length ≤ 100) (hs : f.s.size ≤ 281474976710656) :
    Calls Try.prog 17 #[fnV f] w (fun e w' => ∃ g, e = .returned (sgV g) ∧ coreG g = sigF f ∧ SgIn w' g ∧ NewG w.heap.size w'.heap.size g ∧ Below w.heap.size w w') := by
  have HPR := Lib.hid hf.p
  have HS := Lib.hid hf.s
  rw [fnV_eq]
  obtain ⟨m, hm⟩ : ∃ m, f.p.length = m := ⟨_, rfl⟩
  rw [hm] at hp ⊢
  have HM := Lib.hid hm
  have CL := Lib.hid (fun w' => clone_any f.s w' hs)
  clear hf hm hs
  have a1 := ball_new w #[.string f.s, .slice f.pa m f.pc, .int .u8 f.r, .slice f.ba f.b.length f.bc] 42
  have H0 : Hid ((((w.alloc (.cells #[.string f.s, .slice f.pa m f.pc, .int .u8 f.r, .slice f.ba f.b.length f.bc] 42)).alloc (.cells #[.string ⟨#[]⟩, .slice none 0 0, .int .u8 0] 33)).heap[w.heap.size]? = some (.cells #[.string f.s, .slice f.pa m f.pc, .int .u8 f.r, .slice f.ba f.b.length f.bc] 42 (0, 0))) ∧ (((w.alloc (.cells #[.string f.s, .slice f.pa m f.pc, .int .u8 f.r, .slice f.ba f.b.length f.bc] 42)).alloc (.cells #[.string ⟨#[]⟩, .slice none 0 0, .int .u8 0] 33)).heap[w.heap.size + 1]? = some (.cells #[.string ⟨#[]⟩, .slice none 0 0, .int .u8 0] 33 (0, 0))) ∧ Below w.heap.size w ((w.alloc (.cells #[.string f.s, .slice f.pa m f.pc, .int .u8 f.r, .slice f.ba f.b.length f.bc] 42)).alloc (.cells #[.string ⟨#[]⟩, .slice none 0 0, .int .u8 0] 33)) ∧ ((w.alloc (.cells #[.string f.s, .slice f.pa m f.pc, .int .u8 f.r, .slice f.ba f.b.length f.bc] 42)).alloc (.cells #[.string ⟨#[]⟩, .slice none 0 0, .int .u8 0] 33)).heap.size = w.heap.size + 2) := Lib.hid (by
    have n1 := new_at w #[.string f.s, .slice f.pa m f.pc, .int .u8 f.r, .slice f.ba f.b.length f.bc] 42
    have z1 : (w.alloc (.cells #[.string f.s, .slice f.pa m f.pc, .int .u8 f.r, .slice f.ba f.b.length f.bc] 42)).heap.size = w.heap.size + 1 := World.size_alloc _ _
    generalize w.alloc (.cells #[.string f.s, .slice f.pa m f.pc, .int .u8 f.r, .slice f.ba f.b.length f.bc] 42) = X1 at *
    have n2 := new_at X1 #[.string ⟨#[]⟩, .slice none 0 0, .int .u8 0] 33
    rw [z1] at n2
    exact ⟨(Below.heap_alloc X1 _ _ (lt_of_heap n1)).trans n1, n2, a1.trans ((ball_new X1 _ _).mono a1.size), by rw [World.size_alloc, z1]⟩)
  clear a1
  go_enter Try.func17, Try.ntmps17
  go_wp2_with fail
  generalize (w.alloc (.cells #[.string f.s, .slice f.pa m f.pc, .int .u8 f.r, .slice f.ba f.b.length f.bc] 42)).alloc (.cells #[.string ⟨#[]⟩, .slice none 0 0, .int .u8 0] 33) = X at *
  go_upto_region 2 with fail
  go_cut [3] (fun v wx => ∃ g, v = .pointer (some ⟨g, 0, none⟩) ∧ Hid (POf f m w wx g (.slice none 0 0) []))
  case first =>
    refine AtS.start (by kernel_rfl) 7 (fun W => Below X.heap.size X W) (by kernel_rfl) (by kernel_rfl) ?_
    have hS : Below X.heap.size X X.drew := (Below.refl _ X).drew
    have HZ : Hid (∀ W : World, Below X.heap.size X W → W.heap[w.heap.size]? = some (.cells #[.string f.s, .slice f.pa m f.pc, .int .u8 f.r, .slice f.ba f.b.length f.bc] 42 (0, 0))) := Lib.hid (fun W hW => (hW.block _ (lt_of_heap H0.out.1)).trans H0.out.1)
    have HCL : Hid (∀ W : World, W.heap[w.heap.size]? = some (.cells #[.string f.s, .slice f.pa m f.pc, .int .u8 f.r, .slice f.ba f.b.length f.bc] 42 (0, 0)) → W.cell? ⟨w.heap.size, 0, none⟩ = some (.string f.s) ∧ W.cell? ⟨w.heap.size, 2, none⟩ = some (.int .u8 f.r)) := Lib.hid (fun W h => ⟨cell_at h 0, cell_at h 2⟩)
    have HFIN : Hid (∀ (X2 W : World) (g : Nat), Below X.heap.size X X2 → g = X2.heap.size → Below X2.heap.size (X2.alloc (.cells #[.string ⟨#[]⟩, .slice none 0 0, .int .u8 0] 33)) W → W.heap[g]? = some (.cells #[.string ⟨#[]⟩, .slice none 0 0, .int .u8 0] 33 (0, 0)) → POf f m w (((W.setCell ⟨g, 0, none⟩ (.string f.s)).setCell ⟨g, 1, none⟩ (.slice none 0 0)).setCell ⟨g, 2, none⟩ (.int .u8 f.r)) g (.slice none 0 0) []) := Lib.hid (fun X2 W g h1 hg h2 h3 => by
      subst hg
      have hz := H0.out.2.2.2
      have h12 := h1.trans (((ball_new X2 _ _).trans (h2.mono (Nat.le_of_eq rfl))).mono h1.size)
      have hlt : ∀ k, k < w.heap.size + 2 → (((W.setCell ⟨X2.heap.size, 0, none⟩ (.string f.s)).setCell ⟨X2.heap.size, 1, none⟩ (.slice none 0 0)).setCell ⟨X2.heap.size, 2, none⟩ (.int .u8 f.r)).heap[k]? = X.heap[k]? := fun k hk => by
        have hz2 := h1.size
        have hne : k ≠ X2.heap.size := by omega
        rw [Below.heap_setCell _ _ _ _ hne, Below.heap_setCell _ _ _ _ hne, Below.heap_setCell _ _ _ _ hne]
        exact h12.block k (by omega)
      refine ⟨(hlt _ (by omega)).trans H0.out.1, (hlt _ (by omega)).trans H0.out.2.1, (setc_at (setc_at (setc_at h3 _) _) _).trans (by rfl), by have := h1.size; omega, OwnG.nil _ _, ?_⟩
      have hle : w.heap.size ≤ X2.heap.size := by have := h1.size; omega
      exact (((H0.out.2.2.1.trans (h12.mono (by omega))).setCell (p := ⟨X2.heap.size, 0, none⟩) hle _).setCell (p := ⟨X2.heap.size, 1, none⟩) hle _).setCell (p := ⟨X2.heap.size, 2, none⟩) hle _)
    refine at_take 0 6 (.pointer (some ⟨w.heap.size, 0, none⟩)) rfl rfl (by kernel_rfl) (by decide) (by decide) (fun _ _ _ h => h) (by kernel_rfl) hS (fun w' hw' => ?_) ?_
    · go_simp
    go_frame
    refine at_take 1 7 (.string f.s) rfl rfl (by kernel_rfl) (by decide) (by decide) (fun _ _ _ h => h) (by kernel_rfl) hS (fun w' hw' => ?_) ?_
    · obtain ⟨q1, q2⟩ := HCL.out w' (HZ.out w' hw')
      go_simp
    go_frame
    refine at_take 3 9 (.pointer (some ⟨w.heap.size, 2, none⟩)) rfl rfl (by kernel_rfl) (by decide) (by decide) (fun _ _ _ h => h) (by kernel_rfl) hS (fun w' hw' => ?_) ?_
    · go_simp
    go_frame
    refine at_take 4 10 (.int .u8 f.r) rfl rfl (by kernel_rfl) (by decide) (by decide) (fun _ _ _ h => h) (by kernel_rfl) hS (fun w' hw' => ?_) ?_
    · obtain ⟨q1, q2⟩ := HCL.out w' (HZ.out w' hw')
      go_simp
    go_frame
    have hb1 := ball_new X.drew #[.string ⟨#[]⟩, .slice none 0 0, .int .u8 0] 33
    refine at_callOr 2 6 8 3 (f := 42) (args := #[.string f.s]) (v' := .pointer (some ⟨X.drew.heap.size, 0, none⟩)) (w2 := X.drew.alloc (.cells #[.string ⟨#[]⟩, .slice none 0 0, .int .u8 0] 33)) rfl rfl rfl rfl (by kernel_rfl) (by decide) (by decide) (by kernel_rfl) (by kernel_rfl) ?_ ?_ (hS.trans (hb1.mono hS.size)) ?_ ?_
    · go_simp
    · go_simp
    · refine (CL.out _).mono ?_
      rintro e w2 ⟨rfl, hb2⟩
      have hS2 : Below X.heap.size X w2 := hS.trans (hb2.mono hS.size)
      refine ⟨_, rfl, hS2, ?_⟩
      go_frame
      refine at_take 5 11 (.agg #[.string f.s, .slice none 0 0, .int .u8 f.r]) rfl rfl (by kernel_rfl) (by decide) (by decide) (fun _ _ _ h => h) (by kernel_rfl) hS2 (fun w' hw' => ?_) ?_
      · go_simp
      go_frame
      have hb3 := ball_new w2 #[.string ⟨#[]⟩, .slice none 0 0, .int .u8 0] 33
      have n3 := new_at w2 #[.string ⟨#[]⟩, .slice none 0 0, .int .u8 0] 33
      have HE := Lib.hid (HFIN.out w2 _ w2.heap.size hS2 rfl (Below.refl _ _) n3)
      refine at_run 6 3 (.pointer (some ⟨w2.heap.size, 0, none⟩)) (w2.alloc (.cells #[.string ⟨#[]⟩, .slice none 0 0, .int .u8 0] 33)) rfl rfl (by kernel_rfl) (by decide) (by kernel_rfl) ?_ (hS2.trans (hb3.mono hS2.size)) ?_
      · go_simp
      go_frame
      obtain ⟨g, hg⟩ : ∃ g, w2.heap.size = g := ⟨_, rfl⟩
      rw [hg] at n3 HE ⊢
      generalize w2.alloc (.cells #[.string ⟨#[]⟩, .slice none 0 0, .int .u8 0] 33) = W at *
      have c0 := cell_at n3 0
      have c1 := cell_at n3 1
      have c2 := cell_at n3 2
      have f0 : ∀ i, W.frozen? ⟨g, i, none⟩ = false := fun i => by simp [World.frozen?, n3]
      simp only [List.getElem?_toArray, List.getElem?_cons_zero, List.getElem?_cons_succ] at c0 c1 c2
      refine AtS.last (i := 7) (w' := ((W.setCell ⟨g, 0, none⟩ (.string f.s)).setCell ⟨g, 1, none⟩ (.slice none 0 0)).setCell ⟨g, 2, none⟩ (.int .u8 f.r)) rfl (by kernel_rfl) (by kernel_rfl) (by decide) (by kernel_rfl) ?_ ?_
      · go_simp
      go_frame
      go_wp2_with fail
      go_meet
      exact ⟨g, rfl, HE⟩
    · go_frame
      have n3 := new_at X.drew #[.string ⟨#[]⟩, .slice none 0 0, .int .u8 0] 33
      have hFN := HFIN.out X.drew
      have hS1 := hS.trans (hb1.mono hS.size)
      obtain ⟨g, hg⟩ : ∃ g, X.drew.heap.size = g := ⟨_, rfl⟩
      rw [hg] at n3 hb1 hFN ⊢
      generalize X.drew.alloc (.cells #[.string ⟨#[]⟩, .slice none 0 0, .int .u8 0] 33) = W1 at *
      refine at_call 2 8 (f := 42) (args := #[.string f.s]) rfl rfl (by kernel_rfl) (by decide) (by kernel_rfl) ?_ ?_
      · go_simp
      refine (CL.out _).mono ?_
      rintro e W ⟨rfl, hb2⟩
      have hS2 : Below X.heap.size X W := hS1.trans (hb2.mono hS1.size)
      have n4 := (hb2.block _ (lt_of_heap n3)).trans n3
      have HE := Lib.hid (hFN W g hS rfl (hb2.mono (by have := lt_of_heap n3; omega)) n4)
      refine ⟨_, rfl, hS2, ?_⟩
      go_frame
      refine at_take 5 11 (.agg #[.string f.s, .slice none 0 0, .int .u8 f.r]) rfl rfl (by kernel_rfl) (by decide) (by decide) (fun _ _ _ h => h) (by kernel_rfl) hS2 (fun w' hw' => ?_) ?_
      · go_simp
      go_frame
      have c0 := cell_at n4 0
      have c1 := cell_at n4 1
      have c2 := cell_at n4 2
      have f0 : ∀ i, W.frozen? ⟨g, i, none⟩ = false := fun i => by simp [World.frozen?, n4]
      simp only [List.getElem?_toArray, List.getElem?_cons_zero, List.getElem?_cons_succ] at c0 c1 c2
      refine AtS.last (i := 7) (w' := ((W.setCell ⟨g, 0, none⟩ (.string f.s)).setCell ⟨g, 1, none⟩ (.slice none 0 0)).setCell ⟨g, 2, none⟩ (.int .u8 f.r)) rfl (by kernel_rfl) (by kernel_rfl) (by decide) (by kernel_rfl) ?_ ?_
      · go_simp
      go_frame
      go_wp2_with fail
      go_meet
      exact ⟨g, rfl, HE⟩
  case rest =>
    obtain ⟨g, rfl, HP⟩ := hcut
    clear H0 CL
    have y1 : wc.cell? ⟨w.heap.size, 1, none⟩ = some (.slice f.pa m f.pc) := cell_at HP.out.box 1
    go_wp2_with fail
    go_loopw [15] (fun i wr => ∃ (k : Nat) (v : Value), k ≤ m ∧ i = .int .i64 k ∧ Hid (POf f m w wr g v ((f.p.take k).map (·.t))) ∧ (∃ A n c, v = .slice A n c)) (fun i _ => m - (intOf i).toNat)
    case atStart => exact ⟨0, _, Nat.zero_le _, rfl, HP, none, 0, 0, rfl⟩
    case round =>
      obtain ⟨k, v, hk, rfl, H, A, vn, vc, rfl⟩ := hrel
      by_cases hlt : k < m
      · obtain ⟨x, hx⟩ : ∃ x, f.p[k]? = some x := ⟨_, List.getElem?_eq_getElem (by rw [HM.out]; exact hlt)⟩
        have HTK : Hid ((f.p.take (k + 1)).map (·.t) = (f.p.take k).map (·.t) ++ [x.t]) := Lib.hid (by rw [List.take_add_one, hx]; simp)
        obtain ⟨b1, o1, ha, hc1⟩ := HPR.out.at_ H.out.low hx
        obtain ⟨p0, p1⟩ := parC_at hc1
        rw [ha]
        obtain ⟨A2, n2, c2, w3, hr, hsig, hnew⟩ := H.out.one x.s x.t (by rw [List.length_map, List.length_take]; omega)
        have HR := Lib.hid hr
        have HNEW := Lib.hid hnew
        have q1 : (wr.alloc (.cells #[.string x.s, .int .u8 x.t] 64)).cell? ⟨g, 1, none⟩ = some (.slice A vn vc) := cell_at (((ball_new wr #[.string x.s, .int .u8 x.t] 64).block _ (lt_of_heap H.out.sig)).trans H.out.sig) 1
        have q2 : w3.cell? ⟨g, 1, none⟩ = some (.slice A vn vc) := cell_at hsig 1
        have q3 : w3.frozen? ⟨g, 1, none⟩ = false := by simp [World.frozen?, hsig]
        have hz : (wr.alloc (.cells #[.string x.s, .int .u8 x.t] 64)).heap.size = wr.heap.size + 1 := World.size_alloc _ _
        clear hx hc1 hr hsig hnew
        go_wp2_with (at_builtin; refine wp_appG 26 rfl (.tmp 20) (.tmp 23) rfl (.slice A vn vc) (.slice (some ⟨wr.heap.size + 1, 0, none⟩) 1 1) _ rfl rfl HR.out ?_)
        go_wp2_with fail
        go_roundw
        case rel =>
          refine ⟨k + 1, _, by omega, by go_num, Lib.hid ?_, A2, n2, c2, rfl⟩
          rw [HTK.out]
          exact HNEW.out
        case measure => simp [intOf]; omega
      · obtain rfl : k = m := by omega
        have h1 := H.out
        rw [List.take_of_length_le (Nat.le_of_eq HM.out)] at h1
        have z0 : wr.cell? ⟨g, 0, none⟩ = some (.string f.s) := cell_at h1.sig 0
        have z1 : wr.cell? ⟨g, 1, none⟩ = some (.slice A vn vc) := cell_at h1.sig 1
        have z2 : wr.cell? ⟨g, 2, none⟩ = some (.int .u8 f.r) := cell_at h1.sig 2
        have f0 : ∀ i, wr.frozen? ⟨w.heap.size + 1, i, none⟩ = false := fun i => by simp [World.frozen?, h1.res]
        have r0 : wr.cell? ⟨w.heap.size + 1, 0, none⟩ = some (.string ⟨#[]⟩) := cell_at h1.res 0
        have r1 : wr.cell? ⟨w.heap.size + 1, 1, none⟩ = some (.slice none 0 0) := cell_at h1.res 1
        have r2 : wr.cell? ⟨w.heap.size + 1, 2, none⟩ = some (.int .u8 0) := cell_at h1.res 2
        have HH := Lib.hid h1
        clear h1
        go_wp2_with fail
        obtain ⟨W4, hW4⟩ : ∃ W4, ((wr.setCell ⟨w.heap.size + 1, 0, none⟩ (.string f.s)).setCell ⟨w.heap.size + 1, 1, none⟩ (.slice A vn vc)).setCell ⟨w.heap.size + 1, 2, none⟩ (.int .u8 f.r) = W4 := ⟨_, rfl⟩
        rw [hW4]
        have n4 : W4.heap[w.heap.size + 1]? = some (.cells #[.string f.s, .slice A vn vc, .int .u8 f.r] 33 (0, 0)) := by
          rw [← hW4]
          exact (setc_at (setc_at (setc_at HH.out.res _) _) _).trans (by rfl)
        refine bodyPost_ret (results_sig rfl _ _ (w.heap.size + 1) _ _ _ rfl n4) rfl ?_
        have hlow : Below w.heap.size w W4 := by
          rw [← hW4]
          exact ((HH.out.low.setCell (p := ⟨w.heap.size + 1, 0, none⟩) (by simp) _).setCell (p := ⟨w.heap.size + 1, 1, none⟩) (by simp) _).setCell (p := ⟨w.heap.size + 1, 2, none⟩) (by simp) _
        have hgl := HH.out.gl
        have hown : OwnG 1 tyC 31 W4 (g + 1) (.slice A vn vc) (f.p.map (·.t)) := by
          rw [← hW4]
          refine HH.out.own.keep fun k hk => ?_
          have := (HH.out.own.lt k hk).1
          rw [Below.heap_setCell _ _ _ _ (by show k ≠ w.heap.size + 1; omega), Below.heap_setCell _ _ _ _ (by show k ≠ w.heap.size + 1; omega), Below.heap_setCell _ _ _ _ (by show k ≠ w.heap.size + 1; omega)]
        obtain ⟨A', c', e', _, _⟩ := hown.form
        injection e' with e1 e2 e3
        subst e1 e2 e3
        refine ⟨⟨f.s, A, vc, f.p.map (·.t), f.r⟩, rfl, rfl, ⟨OwnG.row (C := tyC) (k := 1) (fun _ => rfl) hown, by rw [List.length_map, HM.out]; unfold most; omega, HS.out⟩, fun b o e => ?_, hlow⟩
        have := hown.lt b (by show (Value.slice A _ vc).ownBlock = some b; rw [show A = some ⟨b, o, none⟩ from e]; rfl)
        omega
end Go.Proofs.Ytbhgbgaeaejnhaa.Typ
