/-
  The document's Of: what a function is asked with. Conditions: the function lies in memory; it has at most 100 parameters.
-/
import Derived.Test.YtbhgbgaeaejnhaaQ03
import Derived.Test.YtbhgbgaeaejnhaaQ04
import Derived.Test.YtbhgbgaeaejnhaaQ05
import Derived.Maps.RangeWalk
import Derived.Shelf.Small.Strs
import Derived.Shelf.LaysM
import Derived.Shelf.Strconv.Clone
import Derived.Test.YtbhgbgaeaejnhaaProg
namespace Go.Proofs.Ytbhgbgaeaejnhaa.Typ
open Go.RowKit Tre
open OwnR (OwnG)
open Lex (AtS at_take at_run)
set_option maxRecDepth 100000
set_option linter.unusedSimpArgs false
/-- What a function is asked with. -/
def sigF (f : Tre.Fn) : Sp := ⟨f.s.data.toList, f.p.map (·.t), f.r⟩
/-- A signature's row lies in new memory. -/
def NewG (n N : Nat) (g : Sg) : Prop := ∀ b o, g.a = some ⟨b, o, none⟩ → n ≤ b ∧ b < N
theorem und_tl : Try.prog.underlying 26 = some (.slice 31) := by kernel_rfl
theorem infoT : (Try.prog.info? 31).map (fun i => (i.zero, i.size, i.bytes)) = some (some (.int .u8 0), 1, 1) := by kernel_rfl
theorem infoT_of : ∃ i, Try.prog.info? 31 = some i ∧ i.zero = some (.int .u8 0) ∧ i.size = 1 ∧ i.bytes = 1 := by
  have h := infoT
  cases hi : Try.prog.info? 31 with
  | none => rw [hi] at h; simp at h
  | some i => rw [hi] at h; simp at h; exact ⟨i, rfl, h.1, h.2.1, h.2.2⟩
theorem app_ty {lo : Nat} (w : World) (v : Value) (l : List Int) (x : Int) (eb : Nat) (h : OwnG 1 tyC 31 w lo v l) (he : w.heap[eb]? = some (.cells #[.int .u8 x] 31 (0, 0))) (hl : l.length ≤ 1000000) (hlo : lo ≤ w.heap.size) :
    ∃ v2 w2, (∀ ty, (Builtin.append_ #[26, 26] ty #[v, .slice (some ⟨eb, 0, none⟩) 1 1]).run Try.prog w = .ok v2 w2) ∧ OwnG 1 tyC 31 w2 lo v2 (l ++ [x]) ∧ w.grownBy w2 v.ownBlock ∧ (v2.ownBlock = v.ownBlock ∨ v2.ownBlock = some w.heap.size) := by
  obtain ⟨i, hi, hz, hs, hb⟩ := infoT_of
  exact OwnG.app und_tl hi hz hs hb rfl (by decide) (fun _ => rfl) (fun x u hu => by simp [tyC] at hu; subst hu; rfl) w v l x eb h he hl (by decide) hlo
theorem at_appG (L : TypeId) {P : Program} {ops : Array Oper} {Q : Exit → Act → World → Prop} {md : Region.Mode} {S : World → Prop} {nn fuel : Nat} {listed : Array Bool} {a : Act} {w : World} {oi : Oper} (i d : Nat) (v2 : Value) (w' : World) (hi : ops[i]? = some oi) (hd : oi.dst = some d) (hr : Region.ready md ops listed = [i]) (hin : i < nn) (hw : Region.wanted oi (yielded ops a.tmps) = true) (s x : Operand)
    (ho : oi.op = .call { callee := .builtin .append, args := #[s, x], argTypes := #[L, L] }) (v u : Value) (hs : a.eval s = v) (hx : a.eval x = u) (hrun : ∀ ty, (Builtin.append_ #[L, L] ty #[v, u]).run P w = .ok v2 w') (hS : S w')
    (h : Lex.AtS P md ops Q S nn fuel (listed.setIfInBounds i true) (a.put (some d) v2) w') : Lex.AtS P md ops Q S nn (fuel + 1) listed a w := by
  refine Lex.at_run i d v2 w' hi hd hr hin hw ?_ hS h
  unfold execOp
  simp only [ho, resolve, invoke, builtin, Sem.run_bind, Sem.run_pure, Result.andThen_ok, List.map_toArray, List.map_cons, List.map_nil, hs, hx, hrun]
theorem results_sig {fn : Func} {p : Tmp} (h : fn.results = #[.cell p 33]) (tmps : Array Value) (w : World) (g : Nat) (v0 v1 v2 : Value) (hv : tmps.getD p undef = .pointer (some ⟨g, 0, none⟩)) (hc : w.heap[g]? = some (.cells #[v0, v1, v2] 33 (0, 0))) :
    (results fn tmps).run Try.prog w = .ok (.agg #[v0, v1, v2]) w := by
  have a4 := Try.isAgg33
  have z4 := Try.sizeOf33
  have c0 := cell_at hc 0
  have c1 := cell_at hc 1
  have c2 := cell_at hc 2
  simp only [List.getElem?_toArray, List.getElem?_cons_succ, List.getElem?_cons_zero] at c0 c1 c2
  simp only [Array.getD_eq_getD_getElem?] at hv
  unfold results
  rw [h]
  go_simp
/-- What the loop knows. -/
structure OfAt (f : Tre.Fn) (m : Nat) (w wr : World) (v : Value) (l : List Int) : Prop where
  box : wr.heap[w.heap.size]? = some (.cells #[.string f.s, .slice f.pa m f.pc, .int .u8 f.r, .slice f.ba f.b.length f.bc] 42 (0, 0))
  res : wr.heap[w.heap.size + 1]? = some (.cells #[.string ⟨#[]⟩, .slice none 0 0, .int .u8 0] 33 (0, 0))
  sig : wr.heap[w.heap.size + 2]? = some (.cells #[.string f.s, v, .int .u8 f.r] 33 (0, 0))
  own : OwnG 1 tyC 31 wr (w.heap.size + 3) v l
  low : Below w.heap.size w wr
/-- What stays while one type more is appended. -/
structure OfIn (f : Tre.Fn) (m : Nat) (w W : World) (v : Value) : Prop where
  box : W.heap[w.heap.size]? = some (.cells #[.string f.s, .slice f.pa m f.pc, .int .u8 f.r, .slice f.ba f.b.length f.bc] 42 (0, 0))
  sig : W.heap[w.heap.size + 2]? = some (.cells #[.string f.s, v, .int .u8 f.r] 33 (0, 0))
  low : Below w.heap.size w W
theorem setc_at {w : World} {b i : Nat} {cs : Array Value} {T : TypeId} (h : w.heap[b]? = some (.cells cs T (0, 0))) (u : Value) : (w.setCell ⟨b, i, none⟩ u).heap[b]? = some (.cells (cs.set! i u) T (0, 0)) := by
  simp [World.setCell, Array.getElem?_modify, h]
theorem OfAt.lt {f : Tre.Fn} {m : Nat} {w wr : World} {v : Value} {l : List Int} (h : OfAt f m w wr v l) : w.heap.size + 3 ≤ wr.heap.size := by
  have := lt_of_heap h.sig
  omega
theorem OfAt.one {f : Tre.Fn} {m : Nat} {w wr : World} {v : Value} {l : List Int} (h : OfAt f m w wr v l) (x : Int) (hl : l.length ≤ 1000000) :
    ∃ v2 w2, (∀ ty, (Builtin.append_ #[26, 26] ty #[v, .slice (some ⟨wr.heap.size, 0, none⟩) 1 1]).run Try.prog (wr.alloc (.cells #[.int .u8 x] 31)) = .ok v2 w2) ∧ OfIn f m w (wr.alloc (.cells #[.int .u8 x] 31)) v ∧ OfIn f m w w2 v ∧ w2.frozen? ⟨w.heap.size + 2, 1, none⟩ = false ∧ OfAt f m w (w2.setCell ⟨w.heap.size + 2, 1, none⟩ v2) v2 (l ++ [x]) ∧ (∃ A n c, v2 = .slice A n c) := by
  have hb := ball_new wr #[.int .u8 x] 31
  have hlt := h.lt
  have own1 : OwnG 1 tyC 31 (wr.alloc (.cells #[.int .u8 x] 31)) (w.heap.size + 3) v l := h.own.keep fun g hg => hb.block g (h.own.lt g hg).2
  have box1 := (hb.block _ (lt_of_heap h.box)).trans h.box
  have res1 := (hb.block _ (lt_of_heap h.res)).trans h.res
  have sig1 := (hb.block _ (lt_of_heap h.sig)).trans h.sig
  have low1 := h.low.trans (hb.mono h.low.size)
  obtain ⟨v2, w2, hr, ho2, hg2, hn2⟩ := app_ty _ v l x wr.heap.size own1 (new_at wr _ _) hl (by simp; omega)
  have hne : ∀ k, k < w.heap.size + 3 → some k ≠ v.ownBlock := fun k hk e => by have := (own1.lt k e.symm).1; omega
  have box2 := (hg2.block _ (lt_of_heap box1) (hne _ (by omega))).trans box1
  have res2 := (hg2.block _ (lt_of_heap res1) (hne _ (by omega))).trans res1
  have sig2 := (hg2.block _ (lt_of_heap sig1) (hne _ (by omega))).trans sig1
  have low2 := low1.grown hg2 low1.size (fun k hk => by have := (own1.lt k hk).1; omega)
  refine ⟨v2, w2, hr, ⟨box1, sig1, low1⟩, ⟨box2, sig2, low2⟩, by simp [World.frozen?, sig2], ⟨?_, ?_, ?_, ?_, ?_⟩, ?_⟩
  · exact (Below.heap_setCell _ _ _ _ (by simp)).trans box2
  · exact (Below.heap_setCell _ _ _ _ (by simp)).trans res2
  · exact (setc_at sig2 _).trans (by rfl)
  · exact ho2.keep fun g hg => Below.heap_setCell _ _ _ _ (by have := (ho2.lt g hg).1; show g ≠ w.heap.size + 2; omega)
  · exact low2.setCell (p := ⟨w.heap.size + 2, 1, none⟩) (by simp) _
  · obtain ⟨A, c, e, _⟩ := ho2.form
    exact ⟨A, _, c, e⟩
set_option maxHeartbeats 8000000 in
theorem of_any (f : Tre.Fn) (w : World) (hf : FnIn w f) (hp : f.p.length ≤ 100) :
    Calls Try.prog 38 #[fnV f] w (fun e w' => ∃ g, e = .returned (sgV g) ∧ coreG g = sigF f ∧ SgIn w' g ∧ NewG w.heap.size w'.heap.size g ∧ Below w.heap.size w w') := by
  have HPR := Lib.hid hf.p
  have HS := Lib.hid hf.s
  rw [fnV_eq]
  obtain ⟨m, hm⟩ : ∃ m, f.p.length = m := ⟨_, rfl⟩
  rw [hm] at hp ⊢
  have HM := Lib.hid hm
  clear hf hm
  have a1 := ball_new w #[.string f.s, .slice f.pa m f.pc, .int .u8 f.r, .slice f.ba f.b.length f.bc] 42
  have H0 : Hid (OfAt f m w (((w.alloc (.cells #[.string f.s, .slice f.pa m f.pc, .int .u8 f.r, .slice f.ba f.b.length f.bc] 42)).alloc (.cells #[.string ⟨#[]⟩, .slice none 0 0, .int .u8 0] 33)).alloc (.cells #[.string f.s, .slice none 0 0, .int .u8 f.r] 33)) (.slice none 0 0) []) := Lib.hid (by
    have n1 := new_at w #[.string f.s, .slice f.pa m f.pc, .int .u8 f.r, .slice f.ba f.b.length f.bc] 42
    have z1 : (w.alloc (.cells #[.string f.s, .slice f.pa m f.pc, .int .u8 f.r, .slice f.ba f.b.length f.bc] 42)).heap.size = w.heap.size + 1 := World.size_alloc _ _
    generalize w.alloc (.cells #[.string f.s, .slice f.pa m f.pc, .int .u8 f.r, .slice f.ba f.b.length f.bc] 42) = X1 at *
    have a2 := a1.trans ((ball_new X1 #[.string ⟨#[]⟩, .slice none 0 0, .int .u8 0] 33).mono a1.size)
    have n2 := new_at X1 #[.string ⟨#[]⟩, .slice none 0 0, .int .u8 0] 33
    have m2 := (Below.heap_alloc X1 (.cells #[.string ⟨#[]⟩, .slice none 0 0, .int .u8 0] 33) _ (lt_of_heap n1)).trans n1
    have z2 : (X1.alloc (.cells #[.string ⟨#[]⟩, .slice none 0 0, .int .u8 0] 33)).heap.size = w.heap.size + 2 := by rw [World.size_alloc, z1]
    rw [z1] at n2
    generalize X1.alloc (.cells #[.string ⟨#[]⟩, .slice none 0 0, .int .u8 0] 33) = X2 at *
    have n3 := new_at X2 #[.string f.s, .slice none 0 0, .int .u8 f.r] 33
    rw [z2] at n3
    exact ⟨(Below.heap_alloc X2 _ _ (lt_of_heap m2)).trans m2, (Below.heap_alloc X2 _ _ (lt_of_heap n2)).trans n2, n3, OwnG.nil _ _, a2.alloc a2.size _⟩)
  go_enter Try.func38, Try.ntmps38
  go_wp2_with fail
  obtain ⟨X, hX⟩ : ∃ X, ((w.alloc (.cells #[.string f.s, .slice f.pa m f.pc, .int .u8 f.r, .slice f.ba f.b.length f.bc] 42)).alloc (.cells #[.string ⟨#[]⟩, .slice none 0 0, .int .u8 0] 33)).alloc (.cells #[.string f.s, .slice none 0 0, .int .u8 f.r] 33) = X := ⟨_, rfl⟩
  rw [hX] at H0 ⊢
  clear hX
  go_loopw [4] (fun i wr => ∃ (k : Nat) (v : Value), k ≤ m ∧ i = .int .i64 k ∧ Hid (OfAt f m w wr v ((f.p.take k).map (·.t))) ∧ (∃ A n c, v = .slice A n c)) (fun i _ => m - (intOf i).toNat)
  case atStart => exact ⟨0, _, Nat.zero_le _, rfl, H0, none, 0, 0, rfl⟩
  case round =>
    obtain ⟨k, v, hk, rfl, H, A, vn, vc, rfl⟩ := hrel
    have y1 : wr.cell? ⟨w.heap.size, 1, none⟩ = some (.slice f.pa m f.pc) := cell_at H.out.box 1
    by_cases hlt : k < m
    · obtain ⟨x, hx⟩ : ∃ x, f.p[k]? = some x := ⟨_, List.getElem?_eq_getElem (by rw [HM.out]; exact hlt)⟩
      have HTK : Hid ((f.p.take (k + 1)).map (·.t) = (f.p.take k).map (·.t) ++ [x.t]) := Lib.hid (by rw [List.take_add_one, hx]; simp)
      obtain ⟨b1, o1, ha, hc1⟩ := HPR.out.at_ (Below.refl _ _) hx
      have HC1 : Hid (∀ W, OfIn f m w W (.slice A vn vc) → W.cell? ⟨b1, o1 + k * 2 + 1, none⟩ = some (.int .u8 x.t) ∧ W.cell? ⟨w.heap.size, 1, none⟩ = some (.slice (some ⟨b1, o1, none⟩) m f.pc) ∧ W.cell? ⟨w.heap.size + 2, 1, none⟩ = some (.slice A vn vc)) := Lib.hid (fun W hW => by
        obtain ⟨b2, o2, e2, hc2⟩ := HPR.out.at_ hW.low hx
        rw [ha] at e2
        injection e2 with e2
        injection e2 with e3 e4
        subst e3 e4
        have q := cell_at hW.box 1
        simp only [List.getElem?_toArray, List.getElem?_cons_succ, List.getElem?_cons_zero] at q
        rw [ha] at q
        exact ⟨hc2 1 _ rfl, q, cell_at hW.sig 1⟩)
      have HD : Hid (OfAt f m w wr.drew (.slice A vn vc) ((f.p.take k).map (·.t))) := Lib.hid ⟨H.out.box, H.out.res, H.out.sig, H.out.own, H.out.low.drew⟩
      clear hx hc1 ha
      go_wp2_with fail
      refine AtS.start (by kernel_rfl) 11 (fun W => OfIn f m w W (.slice A vn vc)) (by kernel_rfl) (by kernel_rfl) ?_
      generalize wr.drew = X0 at *
      have hS : OfIn f m w X0 (.slice A vn vc) := ⟨HD.out.box, HD.out.sig, HD.out.low⟩
      obtain ⟨v2, w2, hr, s1, s2, hfz, hnew, A2, n2, c2, rfl⟩ := HD.out.one x.t (by rw [List.length_map, List.length_take]; omega)
      have HNEW := Lib.hid hnew
      have c3 : w2.cell? ⟨w.heap.size + 2, 1, none⟩ = some (.slice A vn vc) := cell_at s2.sig 1
      refine at_take 0 17 (.pointer (some ⟨w.heap.size + 2, 1, none⟩)) rfl rfl (by kernel_rfl) (by decide) (by decide) (fun _ _ _ h => h) (by kernel_rfl) hS (fun w' hw' => ?_) ?_
      · go_simp
      go_frame
      refine at_take 1 18 (.slice A vn vc) rfl rfl (by kernel_rfl) (by decide) (by decide) (fun _ _ _ h => h) (by kernel_rfl) hS (fun w' hw' => ?_) ?_
      · obtain ⟨q1, q2, q3⟩ := HC1.out w' hw'
        go_simp
      go_frame
      refine at_take 2 19 (.pointer (some ⟨w.heap.size, 1, none⟩)) rfl rfl (by kernel_rfl) (by decide) (by decide) (fun _ _ _ h => h) (by kernel_rfl) hS (fun w' hw' => ?_) ?_
      · go_simp
      go_frame
      refine at_take 3 20 (.slice (some ⟨b1, o1, none⟩) m f.pc) rfl rfl (by kernel_rfl) (by decide) (by decide) (fun _ _ _ h => h) (by kernel_rfl) hS (fun w' hw' => ?_) ?_
      · obtain ⟨q1, q2, q3⟩ := HC1.out w' hw'
        go_simp
      go_frame
      refine at_take 4 21 (.int .i64 k) rfl rfl (by kernel_rfl) (by decide) (by decide) (fun _ _ _ h => h) (by kernel_rfl) hS (fun w' hw' => ?_) ?_
      · go_simp
      go_frame
      refine at_take 5 22 (.pointer (some ⟨b1, o1 + k * 2, none⟩)) rfl rfl (by kernel_rfl) (by decide) (by decide) (fun _ _ _ h => h) (by kernel_rfl) hS (fun w' hw' => ?_) ?_
      · go_simp
      go_frame
      refine at_take 6 23 (.pointer (some ⟨b1, o1 + k * 2 + 1, none⟩)) rfl rfl (by kernel_rfl) (by decide) (by decide) (fun _ _ _ h => h) (by kernel_rfl) hS (fun w' hw' => ?_) ?_
      · go_simp
      go_frame
      refine at_take 7 24 (.int .u8 x.t) rfl rfl (by kernel_rfl) (by decide) (by decide) (fun _ _ _ h => h) (by kernel_rfl) hS (fun w' hw' => ?_) ?_
      · obtain ⟨q1, q2, q3⟩ := HC1.out w' hw'
        go_simp
      go_frame
      refine at_run 8 25 (.slice (some ⟨X0.heap.size, 0, none⟩) 1 1) (X0.alloc (.cells #[.int .u8 x.t] 31)) rfl rfl (by kernel_rfl) (by decide) (by kernel_rfl) ?_ s1 ?_
      · go_simp
      go_frame
      refine at_appG 26 9 26 (.slice A2 n2 c2) w2 rfl rfl (by kernel_rfl) (by decide) rfl (.tmp 18) (.tmp 25) rfl (.slice A vn vc) (.slice (some ⟨X0.heap.size, 0, none⟩) 1 1) rfl rfl hr s2 ?_
      go_frame
      refine at_take 10 27 (.pointer (some ⟨w.heap.size + 2, 1, none⟩)) rfl rfl (by kernel_rfl) (by decide) (by decide) (fun _ _ _ h => h) (by kernel_rfl) s2 (fun w' hw' => ?_) ?_
      · go_simp
      go_frame
      refine AtS.last (i := 11) (w' := w2.setCell ⟨w.heap.size + 2, 1, none⟩ (.slice A2 n2 c2)) rfl (by kernel_rfl) (by kernel_rfl) (by decide) (by kernel_rfl) ?_ ?_
      · go_simp
      go_frame
      obtain ⟨W3, hW3⟩ : ∃ W3, w2.setCell ⟨w.heap.size + 2, 1, none⟩ (.slice A2 n2 c2) = W3 := ⟨_, rfl⟩
      rw [hW3] at HNEW ⊢
      clear hW3 hr s1 s2 hfz hnew c3 hS
      go_wp2_with fail
      go_roundw
      case rel =>
        refine ⟨k + 1, _, by omega, by go_num, Lib.hid ?_, A2, n2, c2, rfl⟩
        rw [HTK.out]
        exact HNEW.out
      case measure => simp [intOf]; omega
    · obtain rfl : k = m := by omega
      have h1 := H.out
      rw [List.take_of_length_le (Nat.le_of_eq HM.out)] at h1
      have z0 : wr.cell? ⟨w.heap.size + 2, 0, none⟩ = some (.string f.s) := cell_at h1.sig 0
      have z1 : wr.cell? ⟨w.heap.size + 2, 1, none⟩ = some (.slice A vn vc) := cell_at h1.sig 1
      have z2 : wr.cell? ⟨w.heap.size + 2, 2, none⟩ = some (.int .u8 f.r) := cell_at h1.sig 2
      have f0 : ∀ i, wr.frozen? ⟨w.heap.size + 1, i, none⟩ = false := fun i => by simp [World.frozen?, h1.res]
      have r0 : wr.cell? ⟨w.heap.size + 1, 0, none⟩ = some (.string ⟨#[]⟩) := cell_at h1.res 0
      have r1 : wr.cell? ⟨w.heap.size + 1, 1, none⟩ = some (.slice none 0 0) := cell_at h1.res 1
      have r2 : wr.cell? ⟨w.heap.size + 1, 2, none⟩ = some (.int .u8 0) := cell_at h1.res 2
      have HH := Lib.hid h1
      clear h1
      go_wp2_with fail
      obtain ⟨W4, hW4⟩ : ∃ W4, ((wr.setCell ⟨w.heap.size + 1, 0, none⟩ (.string f.s)).setCell ⟨w.heap.size + 1, 1, none⟩ (.slice A vn vc)).setCell ⟨w.heap.size + 1, 2, none⟩ (.int .u8 f.r) = W4 := ⟨_, rfl⟩
      rw [hW4]
      have n4 : W4.heap[w.heap.size + 1]? = some (.cells #[.string f.s, .slice A vn vc, .int .u8 f.r] 33 (0, 0)) := by
        rw [← hW4]
        exact (setc_at (setc_at (setc_at HH.out.res _) _) _).trans (by rfl)
      refine bodyPost_ret (results_sig rfl _ _ (w.heap.size + 1) _ _ _ rfl n4) rfl ?_
      have hlow : Below w.heap.size w W4 := by
        rw [← hW4]
        exact ((HH.out.low.setCell (p := ⟨w.heap.size + 1, 0, none⟩) (by simp) _).setCell (p := ⟨w.heap.size + 1, 1, none⟩) (by simp) _).setCell (p := ⟨w.heap.size + 1, 2, none⟩) (by simp) _
      have hown : OwnG 1 tyC 31 W4 (w.heap.size + 3) (.slice A vn vc) (f.p.map (·.t)) := by
        rw [← hW4]
        refine HH.out.own.keep fun g hg => ?_
        have := (HH.out.own.lt g hg).1
        rw [Below.heap_setCell _ _ _ _ (by show g ≠ w.heap.size + 1; omega), Below.heap_setCell _ _ _ _ (by show g ≠ w.heap.size + 1; omega), Below.heap_setCell _ _ _ _ (by show g ≠ w.heap.size + 1; omega)]
      obtain ⟨A', c', e', _, _⟩ := hown.form
      injection e' with e1 e2 e3
      subst e1 e2 e3
      refine ⟨⟨f.s, A, vc, f.p.map (·.t), f.r⟩, rfl, rfl, ⟨OwnG.row (C := tyC) (k := 1) (fun _ => rfl) hown, by rw [List.length_map, HM.out]; unfold most; omega, HS.out⟩, fun b o e => ?_, hlow⟩
      have := hown.lt b (by show (Value.slice A _ vc).ownBlock = some b; rw [show A = some ⟨b, o, none⟩ from e]; rfl)
      omega
end Go.Proofs.Ytbhgbgaeaejnhaa.Typ
/- DERIVED: THE SHELF's CONTRACTS AT THIS DUMP, IN PLAIN WORDS (tools/lay-plain.mjs out of 'TryShelf.lean', which tools/lay-shelf.mjs wrote): THE SAME DECLARATIONS UNDER THE SAME NAMES: 'import', 'namespace', 'open', 'def', 'theorem' AND NOTHING ELSE: no command of the shelf's: FOR A HAND-IN. Each laying: the table of numbers ('.._ren') and one theorem, a field a fact of the dump's own or the kernel's comparison; each contract: ONE APPLICATION. -/
namespace Go.Proofs
open Go.Shelf
def Try.lays213_ren : Go.Shelf.Ren := ⟨fun | 213 => 51 | 265 => 57 | n => n, fun | 9 => 9 | 3 => 3 | n => n, fun | n => n⟩
theorem Try.lays213 : Go.Proofs.Lays.n213 Try.prog Try.lays213_ren := {
  mixed := by kernel_rfl
  f213 := Try.func51.trans (congrArg some (by kernel_rfl))
  f265 := Try.func57.trans (congrArg some (by kernel_rfl))
  t3 := Try.underlying3
  a3 := Try.isAgg3
  z3 := Try.sizeOf3
  v3 := Try.zeroValue3
  t9 := Try.underlying9
  a9 := Try.isAgg9
  z9 := Try.sizeOf9
  v9 := Try.zeroValue9 }
open Go.RowKit in
/-- internal/bytealg.CompareString (what strings.Compare calls): IT RETURNS 'Lib.compareBytes a b'; the world is as it was. (LAID: no walk: one application.) -/
theorem Try.bytealg_CompareString (a b : ByteArray) (w : World) :
    Calls Try.prog 51 #[.string a, .string b] w fun e w' => e = .returned (.int .i64 (Lib.compareBytes a.data.toList b.data.toList)) ∧ w' = w := Any.bytealg_CompareString Try.lays213 a b w
def Try.lays106_ren : Go.Shelf.Ren := ⟨fun | 106 => 34 | 213 => 51 | 265 => 57 | n => n, fun | 9 => 9 | 3 => 3 | n => n, fun | n => n⟩
theorem Try.lays106 : Go.Proofs.Lays.n106 Try.prog Try.lays106_ren := {
  mixed := by kernel_rfl
  f106 := Try.func34.trans (congrArg some (by kernel_rfl))
  f213 := Try.func51.trans (congrArg some (by kernel_rfl))
  f265 := Try.func57.trans (congrArg some (by kernel_rfl))
  t3 := Try.underlying3
  a3 := Try.isAgg3
  z3 := Try.sizeOf3
  v3 := Try.zeroValue3
  t9 := Try.underlying9
  a9 := Try.isAgg9
  z9 := Try.sizeOf9
  v9 := Try.zeroValue9 }
open Go.RowKit in
/-- strings.Compare: "Compare returns an integer comparing two strings lexicographically. The result will be 0 if a == b, -1 if a < b, and +1 if a > b.": IT RETURNS 'Lib.compareBytes a b'; the world is as it was. (LAID: no walk: one application.) -/
theorem Try.strings_Compare (a b : ByteArray) (w : World) :
    Calls Try.prog 34 #[.string a, .string b] w fun e w' => e = .returned (.int .i64 (Lib.compareBytes a.data.toList b.data.toList)) ∧ w' = w := Any.strings_Compare Try.lays106 a b w
def Try.laysM316_ren : Go.Shelf.Ren := ⟨fun | 316 => 52 | n => n, fun | 9 => 9 | 3 => 3 | 4 => 4 | 37 => 100 | 0 => 0 | 127 => 101 | 5 => 5 | n => n, fun | n => n⟩
theorem Try.laysM316 : Go.Proofs.LaysM.n316 Try.prog Try.laysM316_ren := {
  mixed := by kernel_rfl
  f316 := Try.func52.trans (congrArg some (by kernel_rfl))
  t0 := Try.underlying0
  a0 := Try.isAgg0
  z0 := Try.sizeOf0
  v0 := Try.zeroValue0
  t3 := Try.underlying3
  a3 := Try.isAgg3
  z3 := Try.sizeOf3
  v3 := Try.zeroValue3
  t4 := Try.underlying4
  a4 := Try.isAgg4
  z4 := Try.sizeOf4
  v4 := Try.zeroValue4
  t9 := Try.underlying9
  a9 := Try.isAgg9
  z9 := Try.sizeOf9
  v9 := Try.zeroValue9
  t37 := Try.underlying100
  a37 := Try.isAgg100
  z37 := Try.sizeOf100
  v37 := Try.zeroValue100
  t127 := Try.underlying101
  a127 := Try.isAgg101
  z127 := Try.sizeOf101
  v127 := Try.zeroValue101
  t5 := Try.underlying5
  a5 := Try.isAgg5
  z5 := Try.sizeOf5
  v5 := Try.zeroValue5
  i0 := by kernel_rfl
  i3 := by kernel_rfl
  i4 := by kernel_rfl
  i5 := by kernel_rfl
  i9 := by kernel_rfl
  i37 := by kernel_rfl
  i127 := by kernel_rfl }
open Go.RowKit in
/-- internal/stringslite.Clone (what strings.Clone calls): "Clone returns a fresh copy of s.": THE SAME BYTES. Of what was there nothing has turned (a new row is laid, and frozen, where s is not empty). (LAID: no walk: one application.) -/
theorem Try.stringslite_Clone (s : ByteArray) (w : World) (hlim : s.size ≤ 281474976710656) :
    Calls Try.prog 52 #[.string s] w fun e w' => e = .returned (.string s) ∧ Below w.heap.size w w' := Any.stringslite_Clone Try.laysM316 s w hlim
end Go.Proofs
