/-
  Texts JExt, JBegin, JLook, JGroup, in one file. What each proves, and its conditions, stand at its head below.
-/
import Derived.Test.YtgjdgmpjbpnjbaaK6
/-
  What extend and begin of a half do: a group laid, and its mark; groups laid, and their head. Conditions: the disk is known, what is laid fits the half.
-/
namespace Go.Proofs.Ytgjdgmpjbpnjbaa.Jou
open Go.RowKit Codec FrameM Cod JourM
open Disk (Turn Dk Dsk ptr Now)
open Frm (Sct Pk)
set_option maxRecDepth 100000
theorem box0 {v : World} {k g gen : Nat} (h : v.heap[k]? = some (.cells #[.pointer (some ⟨g, 0, none⟩), .int .i64 gen] 49 (0, 0))) : v.cell? ⟨k, 0, none⟩ = some (.pointer (some ⟨g, 0, none⟩)) := cell_at h 0
theorem box1 {v : World} {k g gen : Nat} (h : v.heap[k]? = some (.cells #[.pointer (some ⟨g, 0, none⟩), .int .i64 gen] 49 (0, 0))) : v.cell? ⟨k, 1, none⟩ = some (.int .i64 gen) := cell_at h 1
/-- Sectors of a call's own are kept where what lies below a block is. -/
theorem pk_drew {w : World} {lo n : Nat} {v : Value} {ls : List (List UInt8)} (h : Pk w lo v n ls) : Pk w.drew lo v n ls := h.kept (row := none) ⟨rfl, rfl, rfl, Nat.le_refl _, fun _ _ _ => rfl⟩ (fun r e => by cases e)
theorem HB.over {w0 w w' : World} {k g gs gm gen lo : Nat} {d : Dsk} (h : HB w0 w k g gs gm gen d) (hb : Below lo w w') (hk : k < lo) (hd : ∀ x ∈ [g, gs, gm], x < lo) (hl : w0.heap.size ≤ lo) : HB w0 w' k g gs gm gen d :=
  ⟨(hb.block k hk).trans h.bx, h.dk.keep (hb.block g (hd g (by simp))) (hb.block gs (hd gs (by simp))) (hb.block gm (hd gm (by simp))) hb.size, h.low.trans (hb.mono hl), h.lo⟩
/-- The first sector of a slice. -/
structure Fst (w : World) (lo b g : Nat) (s : List UInt8) : Prop where
  cell : w.cell? ⟨b, 0, none⟩ = some (.slice (some ⟨g, 0, none⟩) 64 64)
  sec : w.heap[g]? = some (.cells (cel s).toArray 5 (0, 0))
  lob : lo ≤ b
  log : lo ≤ g
  lt : b < w.heap.size
  len : s.length = 64
theorem Fst.turn {w w' : World} {lo b g : Nat} {s : List UInt8} {S : List Nat} (h : Fst w lo b g s) (ht : Turn S w w') (hS : ∀ k ∈ S, k < lo) : Fst w' lo b g s :=
  ⟨(World.cell?_of_block (w := w) (ht.block b h.lt (fun hm => by have := hS b hm; have := h.lob; omega))).trans h.cell, (ht.block g (lt_of_heap h.sec) (fun hm => by have := hS g hm; have := h.log; omega)).trans h.sec, h.lob, h.log, Nat.lt_of_lt_of_le h.lt ht.size, h.len⟩
theorem Fst.below {w w' : World} {lo b g : Nat} {s : List UInt8} (h : Fst w lo b g s) (hb : Below w.heap.size w w') : Fst w' lo b g s := h.turn (S := []) (Turn.ofBelow hb) (by simp)
theorem fst_of {w : World} {lo n c : Nat} {A : Option Addr} {s : List UInt8} {ls : List (List UInt8)} (h : Pk w lo (.slice A n c) n (s :: ls)) : ∃ b g, A = some ⟨b, 0, none⟩ ∧ Fst w lo b g s ∧ 1 ≤ n ∧ n ≤ c := by
  have hl : (s :: ls).length = n := h.rows.len
  have hn : 1 ≤ n := by simp at hl; omega
  obtain ⟨A', c', e, k1, k2⟩ := h.form
  injection e with _ _ e3
  subst e3
  obtain ⟨vs, ho, h1, h2, h3⟩ := h
  obtain ⟨b, cap, hv, hlo, hlt⟩ := World.ownsRow.form ho (by omega)
  have hA : A = some ⟨b, 0, none⟩ := by injection hv
  subst hA
  obtain ⟨g, hg, q1, q2, q3⟩ := h3 0 (by omega)
  have hc := ho.cells (g := b) rfl 0 (vs.getD 0 undef) (by simp [List.getD_eq_getElem?_getD, show 0 < vs.length by omega])
  rw [plain_add, Nat.zero_add, hg] at hc
  exact ⟨b, g, rfl, ⟨hc, q1, hlo, q2, hlt, q3⟩, hn, k1⟩
theorem Fst.rows {w : World} {lo b g : Nat} {s : List UInt8} {S : List Nat} (h : Fst w lo b g s) (hS : ∀ k ∈ S, k < lo) (hlo : lo ≤ w.heap.size) : RowsB (w.alloc (.cells #[.slice (some ⟨g, 0, none⟩) 64 64] 35)) S (some ⟨w.heap.size, 0, none⟩) 1 [s] :=
  RowsB.of_pk (pk_one w lo g s ⟨g, rfl, h.sec, h.log, h.len⟩ hlo) hS
/-- Nothing, or one sector, behind the tail. -/
theorem run_app_end (w : World) (ty : TypeId) (lo n c : Nat) (A : Option Addr) (ls : List (List UInt8)) (h : Pk w lo (.slice A n c) n ls) (hn : 1 ≤ n) (hnc : n ≤ c) (A2 : Option Addr) (m c2 : Nat) (ls2 : List (List UInt8)) (h2 : Secs w lo A2 m ls2) (hm : m ≤ 1) (hsz : n ≤ 1000000) (hlo : lo ≤ w.heap.size) :
    ∃ A' c' w', (Builtin.append_ #[34, 34] ty #[.slice (Frm.cutAt A 1 c) (n - 1) (c - 1), .slice A2 m c2]).run Try.prog w = .ok (.slice A' (n - 1 + m) c') w' ∧ Pk w' lo (.slice A n c) n ls ∧ Secs w' lo A' (n - 1 + m) (ls.drop 1 ++ ls2) ∧ Below lo w w' := by
  by_cases h0 : m = 0
  · subst h0
    have e : ls2 = [] := List.eq_nil_of_length_eq_zero h2.len
    subst e
    obtain ⟨i0, hi0, hz0, hz1, hz2⟩ := info_parts Frm.info24
    have hnc2 : n - 1 ≤ c - 1 := by omega
    refine ⟨Frm.cutAt A 1 c, c - 1, w, ?_, h, by rw [List.append_nil]; exact (Secs.of_pk h).tail hnc, Below.refl _ _⟩
    generalize Frm.cutAt A 1 c = X
    cases A2 <;> cases X <;> simp [Builtin.append_, run_underlying Try.underlying34, sizeOf, typeInfo, hi0, Builtin.lenOf, Builtin.firstCells, loadCells, loadCellsFrom, hnc2, storeCells]
  · obtain rfl : m = 1 := by omega
    obtain ⟨b, off, rfl, _, _, hc⟩ := h2.at_ (by omega)
    obtain ⟨u, hu, hs⟩ := hc 0 (by omega)
    obtain ⟨A', c', w', r1, r2, r3, r4⟩ := run_app_tail w ty lo n c A ls h hn u (ls2.getD 0 []) hs ⟨b, off, none⟩ c2 hu hsz hlo
    have e : ls2 = [ls2.getD 0 []] := by
      have := h2.len
      match ls2, this with
      | [x], _ => rfl
    rw [← e] at r3
    rw [show n - 1 + 1 = n by omega]
    exact ⟨A', c', w', r1, r2, r3, r4⟩
theorem cell_drew (w : World) (a : Addr) : w.drew.cell? a = w.cell? a := rfl
/-- An append whose run is known, once nothing else may come up. -/
theorem wh_app_run {ops : Array Oper} {Q : Exit → Act → World → Prop} {md : Region.Mode} {S : World → Prop} {fuel : Nat} {listed : Array Bool} {a : Act} {w : World} (i d : Nat) {oi : Oper} (hi : ops[i]? = some oi) (hd : oi.dst = some d) (hr : Region.ready md ops listed = [i]) (hw : Region.wanted oi (yielded ops a.tmps) = true)
    (s x : Operand) (ho : oi.op = .call { callee := .builtin .append, args := #[s, x], argTypes := #[34, 34] }) (v y u : Value) (w' : World) (hs : a.eval s = v) (hx : a.eval x = y) (hrun : (Builtin.append_ #[34, 34] oi.type #[v, y]).run Try.prog w = .ok u w') (hS : S w')
    (h : wpAnyH Try.prog md ops Q S fuel (listed.setIfInBounds i true) (a.put (some d) u) w') : wpAnyH Try.prog md ops Q S (fuel + 1) listed a w := by
  refine Frm.wh_run i d u w' hi hd hr hw ?_ hS h
  unfold execOp
  simp only [ho, resolve, invoke, builtin, Sem.run_bind, Sem.run_pure, Result.andThen_ok, List.map_toArray, List.map_cons, List.map_nil, hs, hx, hrun]
theorem endL_length (n pos : Nat) : (endL n pos).length ≤ 1 := by unfold endL; split <;> simp
set_option maxHeartbeats 8000000 in
theorem extend_any (w : World) (g gs gm : Nat) (d : Dsk) (gen pos seq n c : Nat) (A : Option Addr) (b : List UInt8) (h : Dk w g gs gm d) (h2 : 2 ≤ d.n) (hg : gen < 9223372036854775808) (hb : Byts w w.heap.size A n b) (hn : n ≤ 1048576) (hc : n ≤ c) (hr : pos + takes1 b ≤ room d.n) :
    Calls Try.prog 29 #[hv g gen, .int .i64 pos, .int .i64 seq, .slice A n c] w (Now (.int .i64 (err (extB d gen pos seq b))) w g gs gm (extD d gen pos seq b)) := by
  have hn2 := h.ok.2.1
  have hlo := Dk.lows h
  have HLO := Lib.hid hlo
  have HB0 := Lib.hid (HB.start gen h)
  have HX := Lib.hid (hb.below (Frm.alloc_below w (hbox g gen)))
  have HLD := Lib.hid (fun u hu => laid_any u g gen seq n c A b hu hn hc)
  have HEN := Lib.hid (fun u hu => end_any u g gs gm d gen (pos + takes1 b) hu h2 (by unfold room at hr; omega))
  have HSE := Lib.hid (fun u d' hd' hn' => sector_any u g gs gm d' gen (pos + 1) hd' hn' hg (by unfold room at hr; omega))
  have HSE2 := Lib.hid (fun u d' hd' hn' => sector_any u g gs gm d' gen pos hd' hn' hg (by unfold room at hr; omega))
  have HKP := Lib.hid (fun u A' c' hu hR => keep_any u g gs gm d gen (secAt d.n gen (pos + 1)) (extL d.n pos b).length c' A' (extL d.n pos b) hu hR (all64_ext d.n pos b) (by have := sec_end (gen := gen) h2 (extL_length hr); omega))
  have HKP2 := Lib.hid (fun u d' A' c' (hd' : d'.n = d.n) hu hR => keep_any u g gs gm d' gen (secAt d.n gen pos) 1 c' A' [put (markM gen seq b)] hu hR (fun s hs => by rw [List.mem_singleton.1 hs]; exact put_length (markM_right _ _ _)) (by have := sec_lt (n := d.n) (gen := gen) (pos := pos) h2 (by unfold takes1 at hr; omega); omega))
  have HLL : Hid (laid gen seq b = put (markM gen seq b) :: pack b) := Lib.hid rfl
  have HLN := Lib.hid (laid_length gen seq b)
  have HT1 : Hid (1 ≤ takes1 b) := Lib.hid (by unfold takes1; omega)
  have HXL : Hid ((laid gen seq b).drop 1 ++ endL d.n (pos + takes1 b) = extL d.n pos b) := Lib.hid rfl
  have HEL := Lib.hid (endL_length d.n (pos + takes1 b))
  have HNN := Lib.hid (keepD_n d (secAt d.n gen (pos + 1)) (extL d.n pos b))
  have H2 := Lib.hid h2
  have HXB : Hid (∀ kb, kb = keepB d (secAt d.n gen (pos + 1)) (extL d.n pos b) → (kb = false → err (extB d gen pos seq b) = 3 ∧ extD d gen pos seq b = keepD d (secAt d.n gen (pos + 1)) (extL d.n pos b)) ∧ (kb = true → extB d gen pos seq b = keepB (keepD d (secAt d.n gen (pos + 1)) (extL d.n pos b)) (secAt d.n gen pos) [put (markM gen seq b)] ∧ extD d gen pos seq b = keepD (keepD d (secAt d.n gen (pos + 1)) (extL d.n pos b)) (secAt d.n gen pos) [put (markM gen seq b)])) := Lib.hid (fun kb hk => by subst hk; exact ⟨fun hf => by unfold extB extD; rw [hf]; exact ⟨rfl, rfl⟩, fun hf => by unfold extB extD; rw [hf]; exact ⟨rfl, rfl⟩⟩)
  have hp1 : (pos : Int) ≤ 100000 := by unfold room at hr; omega
  have ht1 : (takes1 b : Int) ≤ 100000 := by unfold room at hr; omega
  generalize hi1 : secAt d.n gen (pos + 1) = i1 at *
  have HI1 := Lib.hid hi1
  clear hi1
  generalize hi2 : secAt d.n gen pos = i2 at *
  have HI2 := Lib.hid hi2
  clear hi2
  generalize extL d.n pos b = xl at *
  generalize endL d.n (pos + takes1 b) = el at *
  generalize extB d gen pos seq b = XB at *
  generalize extD d gen pos seq b = XD at *
  generalize laid gen seq b = LL at *
  generalize put (markM gen seq b) = pm at *
  generalize pack b = pb at *
  generalize takes1 b = N at *
  generalize keepB d i1 xl = kb at *
  generalize keepD d i1 xl = d1 at *
  unfold hv at *
  unfold hbox at *
  unfold ptr at *
  clear h hb hg hr hn hc h2 hn2 hlo
  go_enter Try.func29, Try.ntmps29
  go_wp2_with fail
  obtain ⟨W, hW⟩ : ∃ W, w.alloc (.cells #[.pointer (some ⟨g, 0, none⟩), .int .i64 gen] 49) = W := ⟨_, rfl⟩
  have hWs : W.heap.size = w.heap.size + 1 := by rw [← hW]; simp
  rw [hW] at HB0 HX ⊢
  have HWT : Hid (Turn [] w W) := Lib.hid (by rw [← hW]; exact (Turn.refl [] w).alloc _)
  have HWS := Lib.hid hWs
  clear hW hWs
  refine (HLD.out W (HX.out.more (by have := HWS.out; omega))).mono ?_
  rintro e w1 ⟨A9, c9, rfl, hpk, hb1⟩
  rw [HLN.out] at hpk ⊢
  have HS := Lib.hid (HB0.out.call hb1)
  have HP := Lib.hid hpk
  have HZ := Lib.hid hb1.size
  have HT : Hid (Turn [] w w1) := Lib.hid (HWT.out.trans (Turn.ofBelow hb1))
  clear hpk hb1 HLD HX
  obtain ⟨b9, g9, hA9, _, hN1, hN9⟩ := fst_of (by rw [HLL.out] at HP; exact HP.out)
  subst hA9
  have hcut := fun v => cut_one (some ⟨b9, 0, none⟩) N c9 hN1 v
  go_wp2_with fail
  have HS := Lib.hid HS.out.drew
  have HP := Lib.hid (pk_drew HP.out)
  have HT : Hid (Turn [] w w1.drew) := Lib.hid HT.out.drew
  refine Frm.wh_start (fun w' => w'.heap[w.heap.size]? = some (.cells #[.pointer (some ⟨g, 0, none⟩), .int .i64 gen] 49 (0, 0))) (by kernel_rfl) ?_
  refine Frm.wh_take 0 16 (.slice (some ⟨b9, 0, none⟩) N c9) rfl rfl (by kernel_rfl) (fun _ _ _ h => h) rfl (HS.out.bx) (fun w' hw' => ?_) ?_
  · exact rfl
  go_frame
  refine Frm.wh_take 1 17 (.slice (Frm.cutAt (some ⟨b9, 0, none⟩) 1 c9) (N - 1) (c9 - 1)) rfl rfl (by kernel_rfl) (fun _ _ _ h => h) rfl (HS.out.bx) (fun w' hw' => ?_) ?_
  · go_simp
  go_frame
  refine Frm.wh_take 2 18 (.agg #[.pointer (some ⟨g, 0, none⟩), .int .i64 gen]) rfl rfl (by kernel_rfl) (fun _ _ _ h => h) rfl (HS.out.bx) (fun w' hw' => ?_) ?_
  · have h0 := box0 hw'
    have h1 := box1 hw'
    go_simp
  go_frame
  refine Frm.wh_take 3 19 (.int .i64 pos) rfl rfl (by kernel_rfl) (fun _ _ _ h => h) rfl (HS.out.bx) (fun w' hw' => ?_) ?_
  · exact rfl
  go_frame
  refine Frm.wh_take 4 20 (.slice (some ⟨b9, 0, none⟩) N c9) rfl rfl (by kernel_rfl) (fun _ _ _ h => h) rfl (HS.out.bx) (fun w' hw' => ?_) ?_
  · exact rfl
  go_frame
  refine Frm.wh_take 5 21 (.int .i64 N) rfl rfl (by kernel_rfl) (fun _ _ _ h => h) rfl (HS.out.bx) (fun w' hw' => ?_) ?_
  · go_simp
  go_frame
  have hw1 : IntKind.i64.wrap ((pos : Int) + (N : Int)) = (pos : Int) + (N : Int) := IntWalk.i64_in _ (by omega)
  refine Frm.wh_take 6 22 (.int .i64 ((pos : Int) + (N : Int))) rfl rfl (by kernel_rfl) (fun _ _ _ h => h) rfl (HS.out.bx) (fun w' hw' => ?_) ?_
  · go_simp
  go_frame
  have HC := Lib.hid (HEN.out w1.drew HS.out.dk)
  push_cast at HC
  refine Frm.wh_call 7 23 40 #[.agg #[.pointer (some ⟨g, 0, none⟩), .int .i64 gen], .int .i64 ((pos : Int) + (N : Int))] rfl rfl (by kernel_rfl) rfl ?_ ?_
  · go_simp
  refine (HC.out).mono ?_
  rintro e w2 ⟨A8, c8, rfl, hse, hb2, _, _⟩
  have HS := Lib.hid (HS.out.call hb2)
  have HP := Lib.hid (HP.out.below hb2)
  have HSE3 := Lib.hid (hse.mono (lo' := W.heap.size) HZ.out)
  have HT : Hid (Turn [] w w2) := Lib.hid (HT.out.trans (Turn.ofBelow hb2))
  have HZ2 : Hid (W.heap.size ≤ w2.heap.size) := Lib.hid (Nat.le_trans HZ.out hb2.size)
  clear hse hb2 HC HEN
  refine ⟨_, rfl, HS.out.bx, ?_⟩
  go_frame
  obtain ⟨A', c', w3, hrun, hpk, hse, hb3⟩ := run_app_end w2 34 W.heap.size N c9 _ LL HP.out hN1 hN9 A8 el.length c8 el HSE3.out HEL.out (by omega) HZ2.out
  rw [HXL.out] at hse
  have hM : N - 1 + el.length = xl.length := by have := hse.len; omega
  rw [hM] at hrun hse
  have hlow : ∀ x ∈ [g, gs, gm], x < W.heap.size := fun x hx => by have := HLO.out x hx; have := HWS.out; omega
  have HS := Lib.hid (HS.out.over hb3 (by have := HWS.out; omega) hlow (by have := HWS.out; omega))
  have HP := Lib.hid hpk
  have HXR := Lib.hid (hse.rowsB (S := [g, gs, gm]) hlow)
  have HT : Hid (Below w.heap.size w w3) := Lib.hid ((HT.out.low (by simp) (Nat.le_refl _)).trans (hb3.mono (by have := HWS.out; omega)))
  have HZ3 : Hid (W.heap.size ≤ w3.heap.size) := Lib.hid (Nat.le_trans HZ2.out hb3.size)
  clear hpk hse hb3 hM HSE3 HZ2 HEL HXL
  refine wh_app_run 8 24 rfl rfl (by kernel_rfl) rfl (.tmp 17) (.tmp 23) rfl _ _ (.slice A' xl.length c') w3 rfl rfl hrun HS.out.bx ?_
  go_frame
  clear hrun
  refine Frm.wh_take 9 10 (.slice A' xl.length c') rfl rfl (by kernel_rfl) (fun _ _ _ h => h) rfl (HS.out.bx) (fun w' hw' => ?_) ?_
  · exact rfl
  go_frame
  refine wpAnyH_done (by kernel_rfl) ?_ _
  clear hcut hw1
  go_wp2_with fail
  have HS := Lib.hid HS.out.drew
  have HP := Lib.hid (pk_drew HP.out)
  have HXR := Lib.hid (HXR.out.turn (Turn.drew (Turn.refl [] w3)) (by simp))
  have HT : Hid (Below w.heap.size w w3.drew) := Lib.hid HT.out.drew
  refine Frm.wh_start (fun w' => w'.heap[w.heap.size]? = some (.cells #[.pointer (some ⟨g, 0, none⟩), .int .i64 gen] 49 (0, 0))) (by kernel_rfl) ?_
  refine Frm.wh_take 0 25 (.agg #[.pointer (some ⟨g, 0, none⟩), .int .i64 gen]) rfl rfl (by kernel_rfl) (fun _ _ _ h => h) rfl (HS.out.bx) (fun w' hw' => ?_) ?_
  · have h0 := box0 hw'
    have h1 := box1 hw'
    go_simp
  go_frame
  refine Frm.wh_take 1 26 (.agg #[.pointer (some ⟨g, 0, none⟩), .int .i64 gen]) rfl rfl (by kernel_rfl) (fun _ _ _ h => h) rfl (HS.out.bx) (fun w' hw' => ?_) ?_
  · have h0 := box0 hw'
    have h1 := box1 hw'
    go_simp
  go_frame
  refine Frm.wh_take 2 27 (.int .i64 pos) rfl rfl (by kernel_rfl) (fun _ _ _ h => h) rfl (HS.out.bx) (fun w' hw' => ?_) ?_
  · exact rfl
  go_frame
  have hw1 : IntKind.i64.wrap ((pos : Int) + 1) = (pos : Int) + 1 := IntWalk.i64_in _ (by omega)
  refine Frm.wh_take 3 28 (.int .i64 ((pos : Int) + 1)) rfl rfl (by kernel_rfl) (fun _ _ _ h => h) rfl (HS.out.bx) (fun w' hw' => ?_) ?_
  · go_simp
  go_frame
  refine Frm.wh_take 5 30 (.slice A' xl.length c') rfl rfl (by kernel_rfl) (fun _ _ _ h => h) rfl (HS.out.bx) (fun w' hw' => ?_) ?_
  · exact rfl
  go_frame
  have hsq := HSE.out w3.drew d HS.out.dk H2.out
  rw [HI1.out] at hsq
  push_cast at hsq
  have HC := Lib.hid hsq
  clear hsq
  refine Frm.wh_call 4 29 42 #[.agg #[.pointer (some ⟨g, 0, none⟩), .int .i64 gen], .int .i64 ((pos : Int) + 1)] rfl rfl (by kernel_rfl) rfl ?_ ?_
  · go_simp
  refine (HC.out).mono ?_
  rintro e w4 ⟨rfl, hb4⟩
  have HS := Lib.hid (HS.out.call hb4)
  have HP := Lib.hid (HP.out.below hb4)
  have HXR := Lib.hid (HXR.out.below hb4)
  have HT : Hid (Below w.heap.size w w4) := Lib.hid (HT.out.trans (hb4.mono HT.out.size))
  have HZ4 : Hid (W.heap.size ≤ w4.heap.size) := Lib.hid (Nat.le_trans HZ3.out hb4.size)
  clear hb4 HC
  refine ⟨_, rfl, HS.out.bx, ?_⟩
  go_frame
  refine Frm.wh_call 6 31 41 #[.agg #[.pointer (some ⟨g, 0, none⟩), .int .i64 gen], .int .i64 i1, .slice A' xl.length c'] rfl rfl (by kernel_rfl) rfl ?_ ?_
  · go_simp
  refine (HKP.out w4 A' c' HS.out.dk HXR.out).mono ?_
  rintro e w5 ⟨rfl, hdk, ht⟩
  have HBX := Lib.hid (HS.out.disk ht)
  have HD1 := Lib.hid hdk
  have HTT := Lib.hid ht
  obtain ⟨b9', g9', hA9, hfst, _, _⟩ := fst_of (by rw [HLL.out] at HP; exact HP.out)
  obtain rfl : b9 = b9' := by injection hA9 with e1; injection e1
  have HF := Lib.hid (hfst.turn ht hlow)
  have HZ5 : Hid (W.heap.size ≤ w5.heap.size) := Lib.hid (Nat.le_trans HZ4.out ht.size)
  clear hdk ht hfst hA9 HP HXR
  refine ⟨_, rfl, HBX.out, ?_⟩
  go_frame
  refine Frm.wh_take 7 11 (.int .i64 (err kb)) rfl rfl (by kernel_rfl) (fun _ _ _ h => h) rfl (HBX.out) (fun w' hw' => ?_) ?_
  · exact rfl
  go_frame
  refine wpAnyH_done (by kernel_rfl) ?_ _
  clear hw1
  rcases Bool.eq_false_or_eq_true kb with hk | hk
  · have HX2 := Lib.hid ((HXB.out kb rfl).2 hk)
    rw [hk]
    clear hk HXB
    have he : err true = 0 := rfl
    rw [he]
    clear he
    go_wp2_with fail
    have hidx : ∀ v : World, (Instr.indexAt 34 (.slice (some ⟨b9, 0, none⟩) N c9) (.int .i64 0)).run Try.prog v = .ok (.pointer (some ⟨b9, 0, none⟩)) v := fun v => by
      have h0 : 0 < N := by omega
      simp [Instr.indexAt, asIntOf, run_underlying Try.underlying34, Result.andThen, plain_add]
      intro h1
      omega
    have HBX := Lib.hid (And.intro HBX.out HF.out.cell)
    refine Frm.wh_start (fun w' => (w'.heap[w.heap.size]? = some (.cells #[.pointer (some ⟨g, 0, none⟩), .int .i64 gen] 49 (0, 0))) ∧ w'.cell? ⟨b9, 0, none⟩ = some (.slice (some ⟨g9', 0, none⟩) 64 64)) (by kernel_rfl) ?_
    have HBD : Hid ((w5.drew.heap[w.heap.size]? = some (.cells #[.pointer (some ⟨g, 0, none⟩), .int .i64 gen] 49 (0, 0))) ∧ w5.drew.cell? ⟨b9, 0, none⟩ = some (.slice (some ⟨g9', 0, none⟩) 64 64)) := Lib.hid ⟨HBX.out.1, (cell_drew _ _).trans HBX.out.2⟩
    refine Frm.wh_take 0 35 (.agg #[.pointer (some ⟨g, 0, none⟩), .int .i64 gen]) rfl rfl (by kernel_rfl) (fun _ _ _ h => h) rfl (HBD.out) (fun w' hw' => ?_) ?_
    · have h0 := box0 hw'.1
      have h1 := box1 hw'.1
      go_simp
    go_frame
    refine Frm.wh_take 1 36 (.agg #[.pointer (some ⟨g, 0, none⟩), .int .i64 gen]) rfl rfl (by kernel_rfl) (fun _ _ _ h => h) rfl (HBD.out) (fun w' hw' => ?_) ?_
    · have h0 := box0 hw'.1
      have h1 := box1 hw'.1
      go_simp
    go_frame
    refine Frm.wh_take 2 37 (.int .i64 pos) rfl rfl (by kernel_rfl) (fun _ _ _ h => h) rfl (HBD.out) (fun w' hw' => ?_) ?_
    · exact rfl
    go_frame
    refine Frm.wh_take 4 39 (.slice (some ⟨b9, 0, none⟩) N c9) rfl rfl (by kernel_rfl) (fun _ _ _ h => h) rfl (HBD.out) (fun w' hw' => ?_) ?_
    · exact rfl
    go_frame
    refine Frm.wh_take 5 40 (.pointer (some ⟨b9, 0, none⟩)) rfl rfl (by kernel_rfl) (fun _ _ _ h => h) rfl (HBD.out) (fun w' hw' => ?_) ?_
    · go_simp
    go_frame
    refine Frm.wh_take 6 41 (.slice (some ⟨g9', 0, none⟩) 64 64) rfl rfl (by kernel_rfl) (fun _ _ _ h => h) rfl (HBD.out) (fun w' hw' => ?_) ?_
    · have h2 := hw'.2
      go_simp
    go_frame
    have HDD : Hid (Dk w5.drew g gs gm d1) := Lib.hid (HD1.out.drewN 1)
    have HF := Lib.hid (HF.out.turn (Turn.drew (Turn.refl [] w5)) (by simp))
    have HTT : Hid (Turn [g, gs, gm] w4 w5.drew) := Lib.hid HTT.out.drew
    have HZ5 : Hid (W.heap.size ≤ w5.drew.heap.size) := Lib.hid HZ5.out
    have HC := Lib.hid (fun u hu => HSE2.out u d1 hu (by rw [HNN.out]; exact H2.out))
    have HSQ : Hid (∀ u, Dk u g gs gm d1 → Calls Try.prog 42 #[.agg #[.pointer (some ⟨g, 0, none⟩), .int .i64 gen], .int .i64 pos] u (EndsBelow (.int .i64 i2) u)) := Lib.hid (fun u hu => by have := HSE2.out u d1 hu (by rw [HNN.out]; exact H2.out); rwa [HNN.out, HI2.out] at this)
    skip
    generalize w5.drew = w6 at *
    refine Frm.wh_all2 3 7 (by kernel_rfl) ?_ ?_
    · refine Frm.wo_call 38 42 #[.agg #[.pointer (some ⟨g, 0, none⟩), .int .i64 gen], .int .i64 pos] rfl rfl rfl ?_ ?_
      · go_simp
      refine (HSQ.out w6 HDD.out).mono ?_
      rintro e w7 ⟨rfl, hb7⟩
      have HDD := Lib.hid (Dk.below HDD.out hb7)
      have HF := Lib.hid (HF.out.below hb7)
      have HTT : Hid (Turn [g, gs, gm] w4 w7) := Lib.hid (HTT.out.below hb7)
      have HZ5 : Hid (W.heap.size ≤ w7.heap.size) := Lib.hid (Nat.le_trans HZ5.out hb7.size)
      have HBD : Hid ((w7.heap[w.heap.size]? = some (.cells #[.pointer (some ⟨g, 0, none⟩), .int .i64 gen] 49 (0, 0))) ∧ w7.cell? ⟨b9, 0, none⟩ = some (.slice (some ⟨g9', 0, none⟩) 64 64)) := Lib.hid ⟨(hb7.block _ (lt_of_heap HBD.out.1)).trans HBD.out.1, HF.out.cell⟩
      clear hb7
      refine ⟨_, rfl, HBD.out, ?_⟩
      go_frame
      refine Frm.wh_run 7 42 (.slice (some ⟨w7.heap.size, 0, none⟩) 1 1) (w7.alloc (.cells #[.slice (some ⟨g9', 0, none⟩) 64 64] 35)) rfl rfl (by kernel_rfl) rfl ?_ (by have hba := Frm.alloc_below w7 (.cells #[.slice (some ⟨g9', 0, none⟩) 64 64] 35); exact ⟨(hba.block _ (lt_of_heap HBD.out.1)).trans HBD.out.1, (HF.out.below hba).cell⟩) ?_
      · go_simp
      go_frame
      have HRW := Lib.hid (HF.out.rows (S := [g, gs, gm]) hlow HZ5.out)
      have HDD := Lib.hid (HDD.out.alloc (.cells #[.slice (some ⟨g9', 0, none⟩) 64 64] 35))
      have hba := Frm.alloc_below w7 (.cells #[.slice (some ⟨g9', 0, none⟩) 64 64] 35)
      have HF := Lib.hid (HF.out.below hba)
      have HTT := Lib.hid (HTT.out.below hba)
      have HZ5 := Lib.hid (Nat.le_trans HZ5.out hba.size)
      have HBD := Lib.hid (And.intro ((hba.block _ (lt_of_heap HBD.out.1)).trans HBD.out.1) HF.out.cell)
      obtain ⟨kb2, hkb2⟩ : ∃ kb2, w7.heap.size = kb2 := ⟨_, rfl⟩
      rw [hkb2] at HRW ⊢
      generalize w7.alloc (.cells #[.slice (some ⟨g9', 0, none⟩) 64 64] 35) = w8 at *
      clear hba hkb2
      refine Frm.wh_call 8 43 41 #[.agg #[.pointer (some ⟨g, 0, none⟩), .int .i64 gen], .int .i64 i2, .slice (some ⟨kb2, 0, none⟩) 1 1] rfl rfl (by kernel_rfl) rfl ?_ ?_
      · go_simp
      refine (HKP2.out _ d1 _ 1 HNN.out HDD.out HRW.out).mono ?_
      rintro e w11 ⟨rfl, hdk, ht⟩
      have HFF := Lib.hid (And.intro hdk (HTT.out.trans ht))
      have HBD : Hid ((w11.heap[w.heap.size]? = some (.cells #[.pointer (some ⟨g, 0, none⟩), .int .i64 gen] 49 (0, 0))) ∧ w11.cell? ⟨b9, 0, none⟩ = some (.slice (some ⟨g9', 0, none⟩) 64 64)) := Lib.hid ⟨(ht.block _ (lt_of_heap HBD.out.1) (apart_disk HDD.out HBD.out.1 (by decide) (by simp))).trans HBD.out.1, (HF.out.turn ht hlow).cell⟩
      clear hdk ht
      refine ⟨_, rfl, HBD.out, ?_⟩
      go_frame
      refine Frm.wh_take 9 8 (.int .i64 (err (keepB d1 i2 [pm]))) rfl rfl (by kernel_rfl) (fun _ _ _ h => h) rfl (HBD.out) (fun w' hw' => ?_) ?_
      · exact rfl
      go_frame
      refine wpAnyH_done (by kernel_rfl) ?_ _
      go_wp2_with fail
      go_ret
      rw [HX2.out.1, HX2.out.2]
      exact ⟨rfl, HFF.out.1, (Turn.ofBelow (S := [g, gs, gm]) HT.out).trans HFF.out.2⟩
    · refine Frm.wo_run 42 (.slice (some ⟨w6.heap.size, 0, none⟩) 1 1) (w6.alloc (.cells #[.slice (some ⟨g9', 0, none⟩) 64 64] 35)) rfl rfl rfl ?_ ?_
      · go_simp
      refine ⟨(by have hba := Frm.alloc_below w6 (.cells #[.slice (some ⟨g9', 0, none⟩) 64 64] 35); exact ⟨(hba.block _ (lt_of_heap HBD.out.1)).trans HBD.out.1, (HF.out.below hba).cell⟩), ?_⟩
      go_frame
      have HRW := Lib.hid (HF.out.rows (S := [g, gs, gm]) hlow HZ5.out)
      have HDD := Lib.hid (HDD.out.alloc (.cells #[.slice (some ⟨g9', 0, none⟩) 64 64] 35))
      have hba := Frm.alloc_below w6 (.cells #[.slice (some ⟨g9', 0, none⟩) 64 64] 35)
      have HF := Lib.hid (HF.out.below hba)
      have HTT := Lib.hid (HTT.out.below hba)
      have HZ5 := Lib.hid (Nat.le_trans HZ5.out hba.size)
      have HBD := Lib.hid (And.intro ((hba.block _ (lt_of_heap HBD.out.1)).trans HBD.out.1) HF.out.cell)
      obtain ⟨kb2, hkb2⟩ : ∃ kb2, w6.heap.size = kb2 := ⟨_, rfl⟩
      rw [hkb2] at HRW ⊢
      generalize w6.alloc (.cells #[.slice (some ⟨g9', 0, none⟩) 64 64] 35) = w8 at *
      clear hba hkb2
      refine Frm.wh_call 3 38 42 #[.agg #[.pointer (some ⟨g, 0, none⟩), .int .i64 gen], .int .i64 pos] rfl rfl (by kernel_rfl) rfl ?_ ?_
      · go_simp
      refine (HSQ.out w8 HDD.out).mono ?_
      rintro e w9 ⟨rfl, hb7⟩
      have HDD := Lib.hid (Dk.below HDD.out hb7)
      have HF := Lib.hid (HF.out.below hb7)
      have HRW := Lib.hid (HRW.out.below hb7)
      have HTT : Hid (Turn [g, gs, gm] w4 w9) := Lib.hid (HTT.out.below hb7)
      have HZ5 : Hid (W.heap.size ≤ w9.heap.size) := Lib.hid (Nat.le_trans HZ5.out hb7.size)
      have HBD : Hid ((w9.heap[w.heap.size]? = some (.cells #[.pointer (some ⟨g, 0, none⟩), .int .i64 gen] 49 (0, 0))) ∧ w9.cell? ⟨b9, 0, none⟩ = some (.slice (some ⟨g9', 0, none⟩) 64 64)) := Lib.hid ⟨(hb7.block _ (lt_of_heap HBD.out.1)).trans HBD.out.1, HF.out.cell⟩
      clear hb7
      refine ⟨_, rfl, HBD.out, ?_⟩
      go_frame
      refine Frm.wh_call 8 43 41 #[.agg #[.pointer (some ⟨g, 0, none⟩), .int .i64 gen], .int .i64 i2, .slice (some ⟨kb2, 0, none⟩) 1 1] rfl rfl (by kernel_rfl) rfl ?_ ?_
      · go_simp
      refine (HKP2.out _ d1 _ 1 HNN.out HDD.out HRW.out).mono ?_
      rintro e w11 ⟨rfl, hdk, ht⟩
      have HFF := Lib.hid (And.intro hdk (HTT.out.trans ht))
      have HBD : Hid ((w11.heap[w.heap.size]? = some (.cells #[.pointer (some ⟨g, 0, none⟩), .int .i64 gen] 49 (0, 0))) ∧ w11.cell? ⟨b9, 0, none⟩ = some (.slice (some ⟨g9', 0, none⟩) 64 64)) := Lib.hid ⟨(ht.block _ (lt_of_heap HBD.out.1) (apart_disk HDD.out HBD.out.1 (by decide) (by simp))).trans HBD.out.1, (HF.out.turn ht hlow).cell⟩
      clear hdk ht
      refine ⟨_, rfl, HBD.out, ?_⟩
      go_frame
      refine Frm.wh_take 9 8 (.int .i64 (err (keepB d1 i2 [pm]))) rfl rfl (by kernel_rfl) (fun _ _ _ h => h) rfl (HBD.out) (fun w' hw' => ?_) ?_
      · exact rfl
      go_frame
      refine wpAnyH_done (by kernel_rfl) ?_ _
      go_wp2_with fail
      go_ret
      rw [HX2.out.1, HX2.out.2]
      exact ⟨rfl, HFF.out.1, (Turn.ofBelow (S := [g, gs, gm]) HT.out).trans HFF.out.2⟩
  · have HX2 := Lib.hid ((HXB.out kb rfl).1 hk)
    rw [hk]
    clear hk HXB
    have he : err false = 3 := rfl
    rw [he]
    clear he
    go_wp2_with fail
    go_ret
    rw [HX2.out.1, HX2.out.2]
    exact ⟨rfl, HD1.out, (Turn.ofBelow (S := [g, gs, gm]) HT.out).trans HTT.out⟩
end Go.Proofs.Ytgjdgmpjbpnjbaa.Jou
/-
  What begin of a half does: groups laid from its first sector on, and its head. Conditions: the disk is known, what is laid fits the half.
-/
namespace Go.Proofs.Ytgjdgmpjbpnjbaa.Jou
open Go.RowKit Codec FrameM Cod JourM
open Disk (Turn Dk Dsk ptr Now)
open Frm (Sct Pk)
set_option maxRecDepth 100000
theorem laidAll_snoc (gen k : Nat) (ls : List (List UInt8)) (h : k < ls.length) : laidAll gen 0 (ls.take (k + 1)) = laidAll gen 0 (ls.take k) ++ laid gen k (ls.getD k []) := by
  rw [List.take_succ_eq_append_getElem h, laidAll_app, Nat.zero_add, List.length_take, Nat.min_eq_left (by omega)]
  simp [laidAll, List.getD_eq_getElem?_getD, h]
theorem takes_take (ls : List (List UInt8)) (k : Nat) : takes (ls.take k) ≤ takes ls := by
  have : takes ls = takes (ls.take k) + takes (ls.drop k) := by rw [← takes_app, List.take_append_drop]
  omega
theorem takes_snoc_take (ls : List (List UInt8)) (k : Nat) (h : k < ls.length) : takes (ls.take (k + 1)) = takes (ls.take k) + takes1 (ls.getD k []) := by
  rw [List.take_succ_eq_append_getElem h, takes_snoc]
  simp [List.getD_eq_getElem?_getD, h]
/-- What the loop that lays the groups keeps. -/
structure BRel (w0 W u : World) (k0 g gs gm gen : Nat) (d : Dsk) (A : Option Addr) (n : Nat) (ls : List (List UInt8)) (k : Nat) (v : Value) : Prop where
  hb : HB w0 u k0 g gs gm gen d
  low : Below W.heap.size W u
  pk : Pk u W.heap.size v (takes (ls.take k)) (laidAll gen 0 (ls.take k))
set_option maxHeartbeats 8000000 in
theorem begin_any (w : World) (g gs gm : Nat) (d : Dsk) (gen n c : Nat) (A : Option Addr) (ls : List (List UInt8)) (h : Dk w g gs gm d) (h2 : 2 ≤ d.n) (hg : gen < 9223372036854775808) (hr : Frm.Rows w w.heap.size A n ls) (hb : ∀ b ∈ ls, b.length ≤ 1048576) (ht : takes ls ≤ room d.n) :
    Calls Try.prog 25 #[hv g gen, .slice A n c] w (Now (.int .i64 (err (beginB d gen ls))) w g gs gm (beginD d gen ls)) := by
  have hn2 := h.ok.2.1
  have hlo := Dk.lows h
  have HLO := Lib.hid hlo
  have HB0 := Lib.hid (HB.start gen h)
  have HX := Lib.hid ((RowsB.of_rows (S := []) hr (Nat.le_refl _) (by simp)).below (Frm.alloc_below w (hbox g gen)))
  have hlen := hr.len
  have HLEN := Lib.hid hlen
  have HBB := Lib.hid hb
  have HTK := Lib.hid ht
  have HRM : Hid (room d.n ≤ 65536) := Lib.hid (by unfold room; omega)
  have HEN := Lib.hid (fun u hu => end_any u g gs gm d gen (takes ls) hu h2 (by unfold room at ht; omega))
  have HSQ := Lib.hid (fun u hu => sector_any u g gs gm d gen 0 hu h2 hg (by omega))
  have HPL := Lib.hid (fun u => place_any u gen hg)
  have HHD := Lib.hid (fun u => head_any u gen)
  have HPT := Lib.hid (fun u => Frm.put_new (headM gen) u (headM_right gen))
  have HKP := Lib.hid (fun u A' c' hu hR => keep_any u g gs gm d gen (secAt d.n gen 0) (beginL d.n gen ls).length c' A' (beginL d.n gen ls) hu hR (all64_begin d.n gen ls) (by have := sec_end (gen := gen) (p := 0) (k := (beginL d.n gen ls).length) h2 (by rw [Nat.zero_add]; exact (beginL_length ht).1); omega))
  have HKP2 := Lib.hid (fun u d' A' c' (hd' : d'.n = d.n) hu hR => keep_any u g gs gm d' gen (gen % 2) 1 c' A' [put (headM gen)] hu hR (fun s hs => by rw [List.mem_singleton.1 hs]; exact put_length (headM_right _)) (by omega))
  have HPM := Lib.hid (put_length (headM_right gen))
  have HXL : Hid (laidAll gen 0 ls ++ endL d.n (takes ls) = beginL d.n gen ls) := Lib.hid rfl
  have HEL := Lib.hid (endL_length d.n (takes ls))
  have HNN := Lib.hid (keepD_n d (secAt d.n gen 0) (beginL d.n gen ls))
  have HXB : Hid (∀ kb, kb = keepB d (secAt d.n gen 0) (beginL d.n gen ls) → (kb = false → err (beginB d gen ls) = 3 ∧ beginD d gen ls = keepD d (secAt d.n gen 0) (beginL d.n gen ls)) ∧ (kb = true → beginB d gen ls = keepB (keepD d (secAt d.n gen 0) (beginL d.n gen ls)) (gen % 2) [put (headM gen)] ∧ beginD d gen ls = keepD (keepD d (secAt d.n gen 0) (beginL d.n gen ls)) (gen % 2) [put (headM gen)])) := Lib.hid (fun kb hk => by subst hk; exact ⟨fun hf => by unfold beginB beginD; rw [hf]; exact ⟨rfl, rfl⟩, fun hf => by unfold beginB beginD; rw [hf]; exact ⟨rfl, rfl⟩⟩)
  generalize secAt d.n gen 0 = i1 at *
  generalize beginL d.n gen ls = xl at *
  generalize endL d.n (takes ls) = el at *
  generalize beginB d gen ls = XB at *
  generalize beginD d gen ls = XD at *
  generalize put (headM gen) = pm at *
  generalize gen % 2 = i2 at *
  generalize keepB d i1 xl = kb at *
  generalize keepD d i1 xl = d1 at *
  unfold hv at *
  unfold hbox at *
  unfold ptr at *
  clear h hb hg hr h2 hn2 hlo hlen ht
  go_enter Try.func25, Try.ntmps25
  go_wp2_with fail
  obtain ⟨W, hW⟩ : ∃ W, w.alloc (.cells #[.pointer (some ⟨g, 0, none⟩), .int .i64 gen] 49) = W := ⟨_, rfl⟩
  have hWs : W.heap.size = w.heap.size + 1 := by rw [← hW]; simp
  rw [hW] at HB0 HX ⊢
  have HWT : Hid (Below w.heap.size w W) := Lib.hid (by rw [← hW]; exact Frm.alloc_below _ _)
  have HWS := Lib.hid hWs
  clear hW hWs
  go_loopw [5, 11] (fun v i' wr => ∃ k : Nat, k ≤ n ∧ i' = .int .i64 k ∧ BRel w W wr w.heap.size g gs gm gen d A n ls k v) (fun _ i' _ => n - (Go.RowKit.intOf i').toNat)
  case atStart => exact ⟨0, by omega, rfl, HB0.out, Below.refl _ _, by simpa [laidAll, takes] using Frm.Pk.nil⟩
  case round =>
    obtain ⟨k, hk, rfl, hrl⟩ := hrel
    have HK := Lib.hid hrl
    clear hrl
    have hlow : ∀ x ∈ [g, gs, gm], x < W.heap.size := fun x hx => by have := HLO.out x hx; have := HWS.out; omega
    have hwk : w.heap.size < W.heap.size := by have := HWS.out; omega
    have HLW := Lib.hid (And.intro hlow hwk)
    clear hlow hwk
    have hc0 := box0 HK.out.hb.bx
    have hc1 := box1 HK.out.hb.bx
    by_cases hlt : k < n
    · obtain ⟨b, o, Aj, cj, hat⟩ := (HX.out.below HK.out.low).at hlt
      have hkl : k < ls.length := by rw [HLEN.out]; exact hlt
      have hle : (ls.getD k []).length ≤ 1048576 := HBB.out _ (by rw [Frm.getD_of hkl]; exact List.getElem_mem _)
      have HLS := Lib.hid (laidAll_snoc gen k ls hkl)
      have HTS := Lib.hid (takes_snoc_take ls k hkl)
      have htt : takes (ls.take (k + 1)) ≤ 65536 := by have := takes_take ls (k + 1); have := HTK.out; have := HRM.out; omega
      have HTT := Lib.hid htt
      have hidx := hat.index c
      obtain ⟨_, hcell, hbt, hlc, hcm, _⟩ := hat
      have HLD := Lib.hid (laid_any wr g gen k _ cj Aj (ls.getD k []) hbt.byts hle hlc)
      have HLN := Lib.hid (laid_length gen k (ls.getD k []))
      have hi64 : (k : Int) ≤ 1000000 := by have := takes_length ls; have := HTK.out; have := HRM.out; have := HLEN.out; omega
      unfold hv ptr at HLD
      clear hbt hkl htt hle hlc hcm
      generalize laid gen k (ls.getD k []) = ll at *
      generalize (ls.getD k []).length = lx at *
      go_wp2_with fail
      refine HLD.out.mono ?_
      rintro e w2 ⟨A2, c2, rfl, hpk, hb2⟩
      rw [HLN.out] at hpk ⊢
      have HP := Lib.hid (HK.out.pk.below hb2)
      have HSS := Lib.hid ((Secs.of_pk hpk).mono HK.out.low.size)
      have HBH := Lib.hid (HK.out.hb.call hb2)
      have HLL := Lib.hid (HK.out.low.trans (hb2.mono HK.out.low.size))
      clear hpk hb2 HLD hidx hcell
      obtain ⟨A1, c1, hv1, _, _⟩ := HP.out.form
      subst hv1
      have hsum : takes (ls.take k) + takes1 (ls.getD k []) ≤ 1000000 := by have := HTT.out; have := HTS.out; omega
      go_wp2_with (at_builtin; (refine wpList_app_pk w2 rfl (.tmp 16) (.tmp 20) rfl W.heap.size (.slice A1 (takes (ls.take k)) c1) _ _ rfl HP.out A2 _ c2 ll rfl HSS.out hsum HLL.out.size ?_); intro A3 c3 w3 hp3 hb3 _; have HP3 := Lib.hid hp3; have HB3 := Lib.hid hb3; clear hp3 hb3)
      go_roundw
      case rel =>
        refine ⟨k + 1, by omega, by go_num, HBH.out.over HB3.out HLW.out.2 HLW.out.1 (Nat.le_of_lt HLW.out.2), HLL.out.trans HB3.out, ?_⟩
        rw [HLS.out, HTS.out]
        exact HP3.out
      case measure => simp [Go.RowKit.intOf]; omega
    · obtain rfl : k = n := by omega
      have htk : ls.take k = ls := List.take_of_length_le (by rw [HLEN.out]; exact Nat.le_refl _)
      have hpk := HK.out.pk
      rw [htk] at hpk
      have HP := Lib.hid hpk
      obtain ⟨A1, c1, hv1, _, _⟩ := hpk.form
      subst hv1
      clear hpk htk
      have HS := Lib.hid HK.out.hb
      have HT := Lib.hid HK.out.low
      have HPN : Hid ((laidAll gen 0 ls).length = takes ls) := Lib.hid (laidAll_length gen 0 ls)
      have hm1 : (takes ls : Int) ≤ 65536 := by have := HTK.out; have := HRM.out; omega
      have HM1 : Hid (takes ls ≤ 65536) := Lib.hid (by have := HTK.out; have := HRM.out; omega)
      clear HK HTK
      generalize laidAll gen 0 ls = la at *
      generalize takes ls = m at *
      have HC := Lib.hid (HEN.out wr HS.out.dk)
      go_wp2_with fail
      refine HC.out.mono ?_
      rintro e w2 ⟨A8, c8, rfl, hse, hb2, _, _⟩
      have HP := Lib.hid (HP.out.below hb2)
      have HSS := Lib.hid (hse.mono HT.out.size)
      have HS := Lib.hid (HS.out.call hb2)
      have HT := Lib.hid (HT.out.trans (hb2.mono HT.out.size))
      clear hse hb2 HC HEN hc0 hc1
      have hsum : m + el.length ≤ 1000000 := by have := HEL.out; have := HM1.out; omega
      go_wp2_with (at_builtin; (refine wpList_app_pk w2 rfl (.tmp 23) (.tmp 27) rfl W.heap.size (.slice A1 m c1) m la rfl HP.out A8 _ c8 el rfl HSS.out hsum HT.out.size ?_); intro A3 c3 w3 hp3 hb3 _; have HP3 := Lib.hid hp3; have HB3 := Lib.hid hb3; clear hp3 hb3)
      have hp3 := HP3.out
      rw [HXL.out] at hp3
      have hM : m + el.length = xl.length := by have := hp3.rows.len; omega
      rw [hM] at hp3
      have HS := Lib.hid (HS.out.over HB3.out HLW.out.2 HLW.out.1 (Nat.le_of_lt HLW.out.2))
      have HT := Lib.hid (HT.out.trans HB3.out)
      have HXR := Lib.hid ((Secs.of_pk hp3).rowsB (S := [g, gs, gm]) HLW.out.1)
      rw [hM]
      clear hp3 hM hsum HP3 HB3 HP HSS HXL HEL
      have HS := Lib.hid HS.out.drew
      have HXR := Lib.hid (HXR.out.turn (Turn.drew (Turn.refl [] w3)) (by simp))
      have HT : Hid (Below w.heap.size w w3.drew) := Lib.hid ((HWT.out.trans (HT.out.mono (by have := HLW.out.2; omega))).drew)
      refine Frm.wh_start (fun w' => w'.heap[w.heap.size]? = some (.cells #[.pointer (some ⟨g, 0, none⟩), .int .i64 gen] 49 (0, 0))) (by kernel_rfl) ?_
      refine Frm.wh_take 0 29 (.agg #[.pointer (some ⟨g, 0, none⟩), .int .i64 gen]) rfl rfl (by kernel_rfl) (fun _ _ _ h => h) rfl (HS.out.bx) (fun w' hw' => ?_) ?_
      · have h0 := box0 hw'
        have h1 := box1 hw'
        go_simp
      go_frame
      refine Frm.wh_take 1 30 (.agg #[.pointer (some ⟨g, 0, none⟩), .int .i64 gen]) rfl rfl (by kernel_rfl) (fun _ _ _ h => h) rfl (HS.out.bx) (fun w' hw' => ?_) ?_
      · have h0 := box0 hw'
        have h1 := box1 hw'
        go_simp
      go_frame
      refine Frm.wh_take 3 32 (.slice A3 xl.length c3) rfl rfl (by kernel_rfl) (fun _ _ _ h => h) rfl (HS.out.bx) (fun w' hw' => ?_) ?_
      · exact rfl
      go_frame
      have hsq := HSQ.out w3.drew HS.out.dk
      have HC := Lib.hid hsq
      clear hsq
      refine Frm.wh_call 2 31 42 #[.agg #[.pointer (some ⟨g, 0, none⟩), .int .i64 gen], .int .i64 0] rfl rfl (by kernel_rfl) rfl ?_ ?_
      · go_simp
      refine (HC.out).mono ?_
      rintro e w4 ⟨rfl, hb4⟩
      have HS := Lib.hid (HS.out.call hb4)
      have HXR := Lib.hid (HXR.out.below hb4)
      have HT : Hid (Below w.heap.size w w4) := Lib.hid (HT.out.trans (hb4.mono HT.out.size))
      clear hb4 HC
      refine ⟨_, rfl, HS.out.bx, ?_⟩
      go_frame
      refine Frm.wh_call 4 33 41 #[.agg #[.pointer (some ⟨g, 0, none⟩), .int .i64 gen], .int .i64 i1, .slice A3 xl.length c3] rfl rfl (by kernel_rfl) rfl ?_ ?_
      · go_simp
      refine (HKP.out w4 A3 c3 HS.out.dk HXR.out).mono ?_
      rintro e w5 ⟨rfl, hdk, ht⟩
      have HBX := Lib.hid (HS.out.disk ht)
      have HD1 := Lib.hid hdk
      have HTT := Lib.hid ht
      clear hdk ht HXR
      refine ⟨_, rfl, HBX.out, ?_⟩
      go_frame
      refine Frm.wh_take 5 8 (.int .i64 (err kb)) rfl rfl (by kernel_rfl) (fun _ _ _ h => h) rfl (HBX.out) (fun w' hw' => ?_) ?_
      · exact rfl
      go_frame
      refine wpAnyH_done (by kernel_rfl) ?_ _
      rcases Bool.eq_false_or_eq_true kb with hk | hk
      · have HX2 := Lib.hid ((HXB.out kb rfl).2 hk)
        rw [hk]
        clear hk HXB
        have he : err true = 0 := rfl
        rw [he]
        clear he
        go_wp2_with fail
        have HBD : Hid (w5.drew.heap[w.heap.size]? = some (.cells #[.pointer (some ⟨g, 0, none⟩), .int .i64 gen] 49 (0, 0))) := Lib.hid HBX.out
        refine Frm.wh_start (fun w' => w'.heap[w.heap.size]? = some (.cells #[.pointer (some ⟨g, 0, none⟩), .int .i64 gen] 49 (0, 0))) (by kernel_rfl) ?_
        refine Frm.wh_take 0 37 (.agg #[.pointer (some ⟨g, 0, none⟩), .int .i64 gen]) rfl rfl (by kernel_rfl) (fun _ _ _ h => h) rfl (HBD.out) (fun w' hw' => ?_) ?_
        · have h0 := box0 hw'
          have h1 := box1 hw'
          go_simp
        go_frame
        refine Frm.wh_take 1 38 (.pointer (some ⟨w.heap.size, 1, none⟩)) rfl rfl (by kernel_rfl) (fun _ _ _ h => h) rfl (HBD.out) (fun w' hw' => ?_) ?_
        · go_simp
        go_frame
        refine Frm.wh_take 2 39 (.int .i64 gen) rfl rfl (by kernel_rfl) (fun _ _ _ h => h) rfl (HBD.out) (fun w' hw' => ?_) ?_
        · have h0 := box0 hw'
          have h1 := box1 hw'
          go_simp
        go_frame
        refine Frm.wh_take 4 41 (.pointer (some ⟨w.heap.size, 1, none⟩)) rfl rfl (by kernel_rfl) (fun _ _ _ h => h) rfl (HBD.out) (fun w' hw' => ?_) ?_
        · go_simp
        go_frame
        refine Frm.wh_take 5 42 (.int .i64 gen) rfl rfl (by kernel_rfl) (fun _ _ _ h => h) rfl (HBD.out) (fun w' hw' => ?_) ?_
        · have h0 := box0 hw'
          have h1 := box1 hw'
          go_simp
        go_frame
        have HDD : Hid (Dk w5.drew g gs gm d1) := Lib.hid (HD1.out.drewN 1)
        have HTT : Hid (Turn [g, gs, gm] w4 w5.drew) := Lib.hid HTT.out.drew
        generalize w5.drew = w6 at *
        refine Frm.wh_call 3 40 43 #[.int .i64 gen] rfl rfl (by kernel_rfl) rfl ?_ ?_
        · go_simp
        refine (HPL.out w6).mono ?_
        rintro e w7 ⟨rfl, rfl⟩
        refine ⟨_, rfl, HBD.out, ?_⟩
        go_frame
        refine Frm.wh_call 6 43 45 #[.int .i64 gen] rfl rfl (by kernel_rfl) rfl ?_ ?_
        · go_simp
        refine (HHD.out w6).mono ?_
        rintro e w7 ⟨rfl, hb7⟩
        have HDD := Lib.hid (Dk.below HDD.out hb7)
        have HTT := Lib.hid (HTT.out.below hb7)
        have HBD : Hid (w7.heap[w.heap.size]? = some (.cells #[.pointer (some ⟨g, 0, none⟩), .int .i64 gen] 49 (0, 0))) := Lib.hid ((hb7.block _ (lt_of_heap HBD.out)).trans HBD.out)
        clear hb7
        refine ⟨_, rfl, HBD.out, ?_⟩
        go_frame
        unfold Frm.mkV headM at *
        dsimp only at *
        refine Frm.wh_call 7 44 44 #[.agg #[.int .i64 1, .int .i64 gen, .int .i64 0, .int .i64 0]] rfl rfl (by kernel_rfl) rfl ?_ ?_
        · go_simp
        refine (HPT.out w7).mono ?_
        rintro e w8 ⟨g8, rfl, hg8, hlo8, hb8⟩
        have HRW := Lib.hid (RowsB.of_pk (S := [g, gs, gm]) (pk_one w8 w7.heap.size g8 pm ⟨g8, rfl, hg8, hlo8, HPM.out⟩ hb8.size) (Dk.lows HDD.out))
        have HDD := Lib.hid (Dk.below HDD.out hb8)
        have HTT := Lib.hid (HTT.out.below hb8)
        have HBD : Hid (w8.heap[w.heap.size]? = some (.cells #[.pointer (some ⟨g, 0, none⟩), .int .i64 gen] 49 (0, 0))) := Lib.hid ((hb8.block _ (lt_of_heap HBD.out)).trans HBD.out)
        clear hg8 hlo8 hb8
        refine ⟨_, rfl, HBD.out, ?_⟩
        go_frame
        refine Frm.wh_run 8 45 (.slice (some ⟨w8.heap.size, 0, none⟩) 1 1) (w8.alloc (.cells #[.slice (some ⟨g8, 0, none⟩) 64 64] 35)) rfl rfl (by kernel_rfl) rfl ?_ ((Below.heap_alloc w8 _ _ (lt_of_heap HBD.out)).trans HBD.out) ?_
        · go_simp
        go_frame
        have hba := Frm.alloc_below w8 (.cells #[.slice (some ⟨g8, 0, none⟩) 64 64] 35)
        have HDD := Lib.hid (Dk.below HDD.out hba)
        have HTT := Lib.hid (HTT.out.below hba)
        have HBD := Lib.hid ((hba.block _ (lt_of_heap HBD.out)).trans HBD.out)
        clear hba
        refine Frm.wh_call 9 46 41 #[.agg #[.pointer (some ⟨g, 0, none⟩), .int .i64 gen], .int .i64 i2, .slice (some ⟨w8.heap.size, 0, none⟩) 1 1] rfl rfl (by kernel_rfl) rfl ?_ ?_
        · go_simp
        refine (HKP2.out _ d1 _ 1 HNN.out HDD.out HRW.out).mono ?_
        rintro e w11 ⟨rfl, hdk, ht⟩
        have HFF := Lib.hid (And.intro hdk (HTT.out.trans ht))
        have HBD : Hid (w11.heap[w.heap.size]? = some (.cells #[.pointer (some ⟨g, 0, none⟩), .int .i64 gen] 49 (0, 0))) := Lib.hid ((ht.block _ (lt_of_heap HBD.out) (apart_disk HDD.out HBD.out (by decide) (by simp))).trans HBD.out)
        clear hdk ht
        refine ⟨_, rfl, HBD.out, ?_⟩
        go_frame
        refine Frm.wh_take 10 4 (.int .i64 (err (keepB d1 i2 [pm]))) rfl rfl (by kernel_rfl) (fun _ _ _ h => h) rfl (HBD.out) (fun w' hw' => ?_) ?_
        · exact rfl
        go_frame
        refine wpAnyH_done (by kernel_rfl) ?_ _
        go_wp2_with fail
        go_ret
        rw [HX2.out.1, HX2.out.2]
        exact ⟨rfl, HFF.out.1, (Turn.ofBelow (S := [g, gs, gm]) HT.out).trans HFF.out.2⟩
      · have HX2 := Lib.hid ((HXB.out kb rfl).1 hk)
        rw [hk]
        clear hk HXB
        have he : err false = 3 := rfl
        rw [he]
        clear he
        go_wp2_with fail
        go_ret
        rw [HX2.out.1, HX2.out.2]
        exact ⟨rfl, HD1.out, (Turn.ofBelow (S := [g, gs, gm]) HT.out).trans HTT.out⟩
end Go.Proofs.Ytgjdgmpjbpnjbaa.Jou
/-
  What headIn and newest of a half read of a disk: which generation counts. Conditions: the disk is known, its power is on.
-/
namespace Go.Proofs.Ytgjdgmpjbpnjbaa.Jou
open Go.RowKit Codec FrameM Cod JourM
open Disk (Turn Dk Dsk ptr Now)
open Frm (Sct Pk)
set_option maxRecDepth 100000
theorem getM_pos (xs : List UInt8) : 0 ≤ (getM xs).gen ∧ (getM xs).gen ≤ 9223372036854775807 ∧ 0 ≤ (getM xs).n ∧ (getM xs).n ≤ 9223372036854775807 := by
  cases h : getB xs with
  | false => rw [getM_no h]; simp [zeroM]
  | true =>
    obtain ⟨m, hr, _, hm⟩ := getB_halves h
    have hf := readM_fits xs
    rw [← getM_yes h] at hf
    obtain ⟨_, _, h3, _, h5⟩ := right_iff.1 hr
    rw [← hm] at h3 h5
    exact ⟨h3, hf.gen.2, h5, hf.n.2⟩
/-- A mark in a box. -/
def mbox (k s q n : Int) : Obj := .cells #[.int .i64 k, .int .i64 s, .int .i64 q, .int .i64 n] 79
structure Two (w' : World) (k0 kb g gen : Nat) (a b c e : Int) : Prop where
  bx : w'.heap[k0]? = some (.cells #[.pointer (some ⟨g, 0, none⟩), .int .i64 gen] 49 (0, 0))
  mb : w'.heap[kb]? = some (mbox a b c e)
theorem Two.c {w' : World} {k0 kb g gen : Nat} {a b c e : Int} (h : Two w' k0 kb g gen a b c e) : w'.cell? ⟨kb, 0, none⟩ = some (.int .i64 a) ∧ w'.cell? ⟨kb, 1, none⟩ = some (.int .i64 b) ∧ w'.cell? ⟨kb, 2, none⟩ = some (.int .i64 c) ∧ w'.cell? ⟨kb, 3, none⟩ = some (.int .i64 e) :=
  ⟨cell_at h.mb 0, cell_at h.mb 1, cell_at h.mb 2, cell_at h.mb 3⟩
theorem Two.below {w0 w' : World} {k0 kb g gen : Nat} {a b c e : Int} (h : Two w0 k0 kb g gen a b c e) (hb : Below w0.heap.size w0 w') : Two w' k0 kb g gen a b c e := ⟨(hb.block _ (lt_of_heap h.bx)).trans h.bx, (hb.block _ (lt_of_heap h.mb)).trans h.mb⟩
theorem eq_cases (m o : Mk) : (m.eq o = true ∧ (m.kind == o.kind) = true ∧ (m.gen == o.gen) = true ∧ (m.seq == o.seq) = true ∧ (m.n == o.n) = true) ∨ (m.eq o = false ∧ ((m.kind == o.kind) = false ∨ ((m.kind == o.kind) = true ∧ (m.gen == o.gen) = false) ∨ ((m.kind == o.kind) = true ∧ (m.gen == o.gen) = true ∧ (m.seq == o.seq) = false) ∨
    ((m.kind == o.kind) = true ∧ (m.gen == o.gen) = true ∧ (m.seq == o.seq) = true ∧ (m.n == o.n) = false))) := by
  unfold Mk.eq
  cases h1 : (m.kind == o.kind) <;> cases h2 : (m.gen == o.gen) <;> cases h3 : (m.seq == o.seq) <;> cases h4 : (m.n == o.n) <;> simp_all
set_option maxHeartbeats 4000000 in
theorem headIn_any (w : World) (g gs gm : Nat) (d : Dsk) (gen i : Nat) (h : Dk w g gs gm d) (ho : d.off = false) : Calls Try.prog 38 #[hv g gen, .int .i64 i] w (EndsBelow (.int .i64 (headIn (rd d) i)) w) := by
  have hn2 := h.ok.2.1
  have HB0 := Lib.hid (HB.start gen h)
  have HRD := Lib.hid (fun u hu => read_any u g gs gm d hu ho i)
  have HGT := Lib.hid (fun u B m c A hx hB hc hm => Frm.fget_any u B m c A (rd d i) hx hB hc hm)
  have hmp := getM_pos (rd d i)
  obtain ⟨M, hM⟩ : ∃ M, getM (rd d i) = M := ⟨_, rfl⟩
  obtain ⟨G, hG⟩ : ∃ G : Nat, (getM (rd d i)).gen = G := ⟨(getM (rd d i)).gen.toNat, by omega⟩
  have HH : Hid (headIn (rd d) i = if M.eq (headM G) && decide (G % 2 = i) then G else 0) := Lib.hid (by unfold headIn headB; rw [hG, hM]; rfl)
  rw [hM] at HGT hmp hG
  have HHD := Lib.hid (fun u => head_any u G)
  have HPL := Lib.hid (fun u => place_any u G (by omega))
  have hec := eq_cases M (headM G)
  generalize getB (rd d i) = ok at *
  generalize rd d i = xs at *
  obtain ⟨m0, m1, m2, m3⟩ := M
  dsimp only at hG hmp
  subst hG
  unfold Frm.tupV Frm.mkV headM at *
  dsimp only at *
  unfold hv at *
  unfold hbox at *
  unfold ptr at *
  clear h ho hn2 hM
  rcases hec with ⟨he, e0, e1, e2, e3⟩ | ⟨he, hne⟩
  · by_cases hp : G % 2 = i
    · have HV : Hid (headIn (rd d) i = G) := Lib.hid (by rw [HH.out, he, hp]; simp)
      have HPP : Hid (G % 2 = i) := Lib.hid hp
      rw [HV.out]
      clear HH HV he hp
      generalize G % 2 = r at *
      go_enter Try.func38, Try.ntmps38
      have hc0 := HB0.out.c0
      go_wp2_with fail
      refine (HRD.out _ HB0.out.dk).mono ?_
      rintro e w1 ⟨A1, c1, z1, rfl, hy1, hb1, hc1, hm1, _⟩
      have HS := Lib.hid (HB0.out.call hb1)
      have HY := Lib.hid hy1
      clear hy1 hb1 hc0
      go_wp2_with fail
      refine (HGT.out w1 w1.heap.size xs.length c1 A1 HY.out (Nat.le_refl _) hc1 hm1).mono ?_
      rintro e w2 ⟨rfl, hb2⟩
      have HS := Lib.hid (HS.out.call hb2)
      clear hb2 HY hc1 hm1
      go_upto_region 3 with fail
      have HT : Hid (Two (w2.alloc (.cells #[.int .i64 m0, .int .i64 G, .int .i64 m2, .int .i64 m3] 79)) w.heap.size w2.heap.size g gen m0 G m2 m3) := Lib.hid ⟨(Below.heap_alloc w2 _ _ (lt_of_heap HS.out.bx)).trans HS.out.bx, heap_alloc_new w2 _⟩
      have HLW := Lib.hid (HS.out.low.alloc HS.out.low.size (.cells #[.int .i64 m0, .int .i64 G, .int .i64 m2, .int .i64 m3] 79))
      generalize w2.alloc (.cells #[.int .i64 m0, .int .i64 G, .int .i64 m2, .int .i64 m3] 79) = w3 at *
      generalize w2.heap.size = kb at *
      have HT : Hid (Two w3.drew w.heap.size kb g gen m0 G m2 m3) := Lib.hid ⟨HT.out.bx, HT.out.mb⟩
      have HLW := Lib.hid HLW.out.drew
      refine Frm.wh_start (fun w' => Two w' w.heap.size kb g gen m0 G m2 m3) (by kernel_rfl) ?_
      refine Frm.wh_take 0 21 (.agg #[.int .i64 m0, .int .i64 G, .int .i64 m2, .int .i64 m3]) rfl rfl (by kernel_rfl) (fun _ _ _ h => h) rfl (HT.out) (fun w' hw' => ?_) ?_
      · obtain ⟨q0, q1, q2, q3⟩ := hw'.c
        go_simp
      go_frame
      refine Frm.wh_take 1 22 (.pointer (some ⟨kb, 1, none⟩)) rfl rfl (by kernel_rfl) (fun _ _ _ h => h) rfl (HT.out) (fun w' hw' => ?_) ?_
      · go_simp
      go_frame
      refine Frm.wh_take 2 23 (.int .i64 G) rfl rfl (by kernel_rfl) (fun _ _ _ h => h) rfl (HT.out) (fun w' hw' => ?_) ?_
      · obtain ⟨q0, q1, q2, q3⟩ := hw'.c
        go_simp
      go_frame
      generalize w3.drew = w4 at *
      refine Frm.wh_call 3 24 45 #[.int .i64 G] rfl rfl (by kernel_rfl) rfl ?_ ?_
      · go_simp
      refine (HHD.out w4).mono ?_
      rintro e w5 ⟨rfl, hb5⟩
      have HT := Lib.hid (HT.out.below hb5)
      have HLW := Lib.hid (HLW.out.trans (hb5.mono HLW.out.size))
      clear hb5
      refine ⟨_, rfl, HT.out, ?_⟩
      go_frame
      refine Frm.wh_take 4 25 (.bool false) rfl rfl (by kernel_rfl) (fun _ _ _ h => h) rfl (HT.out) (fun w' hw' => ?_) ?_
      · go_simp
      go_frame
      refine Frm.wh_take 5 26 (.bool false) rfl rfl (by kernel_rfl) (fun _ _ _ h => h) rfl (HT.out) (fun w' hw' => ?_) ?_
      · exact rfl
      go_frame
      refine Frm.wh_take 6 27 (.pointer (some ⟨kb, 1, none⟩)) rfl rfl (by kernel_rfl) (fun _ _ _ h => h) rfl (HT.out) (fun w' hw' => ?_) ?_
      · go_simp
      go_frame
      refine Frm.wh_take 7 28 (.int .i64 G) rfl rfl (by kernel_rfl) (fun _ _ _ h => h) rfl (HT.out) (fun w' hw' => ?_) ?_
      · obtain ⟨q0, q1, q2, q3⟩ := hw'.c
        go_simp
      go_frame
      refine Frm.wh_take 9 30 (.int .i64 i) rfl rfl (by kernel_rfl) (fun _ _ _ h => h) rfl (HT.out) (fun w' hw' => ?_) ?_
      · exact rfl
      go_frame
      refine Frm.wh_call 8 29 43 #[.int .i64 G] rfl rfl (by kernel_rfl) rfl ?_ ?_
      · go_simp
      refine (HPL.out w5).mono ?_
      rintro e w6 ⟨rfl, rfl⟩
      refine ⟨_, rfl, HT.out, ?_⟩
      go_frame
      refine Frm.wh_take 10 31 (.bool false) rfl rfl (by kernel_rfl) (fun _ _ _ h => h) rfl (HT.out) (fun w' hw' => ?_) ?_
      · go_simp
        have hpp := HPP.out
        omega
      go_frame
      refine Frm.wh_take 11 32 (.bool false) rfl rfl (by kernel_rfl) (fun _ _ _ h => h) rfl (HT.out) (fun w' hw' => ?_) ?_
      · go_simp
      go_frame
      refine wpAnyH_done (by kernel_rfl) ?_ _
      obtain ⟨q0, q1, q2, q3⟩ := HT.out.c
      go_wp2_with fail
      go_ret
      exact ⟨rfl, HLW.out⟩
    · have HV : Hid (headIn (rd d) i = 0) := Lib.hid (by rw [HH.out]; simp [hp])
      have HPP : Hid (¬ G % 2 = i) := Lib.hid hp
      rw [HV.out]
      clear HH HV he hp
      generalize G % 2 = r at *
      go_enter Try.func38, Try.ntmps38
      have hc0 := HB0.out.c0
      go_wp2_with fail
      refine (HRD.out _ HB0.out.dk).mono ?_
      rintro e w1 ⟨A1, c1, z1, rfl, hy1, hb1, hc1, hm1, _⟩
      have HS := Lib.hid (HB0.out.call hb1)
      have HY := Lib.hid hy1
      clear hy1 hb1 hc0
      go_wp2_with fail
      refine (HGT.out w1 w1.heap.size xs.length c1 A1 HY.out (Nat.le_refl _) hc1 hm1).mono ?_
      rintro e w2 ⟨rfl, hb2⟩
      have HS := Lib.hid (HS.out.call hb2)
      clear hb2 HY hc1 hm1
      go_upto_region 3 with fail
      have HT : Hid (Two (w2.alloc (.cells #[.int .i64 m0, .int .i64 G, .int .i64 m2, .int .i64 m3] 79)) w.heap.size w2.heap.size g gen m0 G m2 m3) := Lib.hid ⟨(Below.heap_alloc w2 _ _ (lt_of_heap HS.out.bx)).trans HS.out.bx, heap_alloc_new w2 _⟩
      have HLW := Lib.hid (HS.out.low.alloc HS.out.low.size (.cells #[.int .i64 m0, .int .i64 G, .int .i64 m2, .int .i64 m3] 79))
      generalize w2.alloc (.cells #[.int .i64 m0, .int .i64 G, .int .i64 m2, .int .i64 m3] 79) = w3 at *
      generalize w2.heap.size = kb at *
      have HT : Hid (Two w3.drew w.heap.size kb g gen m0 G m2 m3) := Lib.hid ⟨HT.out.bx, HT.out.mb⟩
      have HLW := Lib.hid HLW.out.drew
      refine Frm.wh_start (fun w' => Two w' w.heap.size kb g gen m0 G m2 m3) (by kernel_rfl) ?_
      refine Frm.wh_take 0 21 (.agg #[.int .i64 m0, .int .i64 G, .int .i64 m2, .int .i64 m3]) rfl rfl (by kernel_rfl) (fun _ _ _ h => h) rfl (HT.out) (fun w' hw' => ?_) ?_
      · obtain ⟨q0, q1, q2, q3⟩ := hw'.c
        go_simp
      go_frame
      refine Frm.wh_take 1 22 (.pointer (some ⟨kb, 1, none⟩)) rfl rfl (by kernel_rfl) (fun _ _ _ h => h) rfl (HT.out) (fun w' hw' => ?_) ?_
      · go_simp
      go_frame
      refine Frm.wh_take 2 23 (.int .i64 G) rfl rfl (by kernel_rfl) (fun _ _ _ h => h) rfl (HT.out) (fun w' hw' => ?_) ?_
      · obtain ⟨q0, q1, q2, q3⟩ := hw'.c
        go_simp
      go_frame
      generalize w3.drew = w4 at *
      refine Frm.wh_call 3 24 45 #[.int .i64 G] rfl rfl (by kernel_rfl) rfl ?_ ?_
      · go_simp
      refine (HHD.out w4).mono ?_
      rintro e w5 ⟨rfl, hb5⟩
      have HT := Lib.hid (HT.out.below hb5)
      have HLW := Lib.hid (HLW.out.trans (hb5.mono HLW.out.size))
      clear hb5
      refine ⟨_, rfl, HT.out, ?_⟩
      go_frame
      refine Frm.wh_take 4 25 (.bool false) rfl rfl (by kernel_rfl) (fun _ _ _ h => h) rfl (HT.out) (fun w' hw' => ?_) ?_
      · go_simp
      go_frame
      refine Frm.wh_take 5 26 (.bool false) rfl rfl (by kernel_rfl) (fun _ _ _ h => h) rfl (HT.out) (fun w' hw' => ?_) ?_
      · exact rfl
      go_frame
      refine Frm.wh_take 6 27 (.pointer (some ⟨kb, 1, none⟩)) rfl rfl (by kernel_rfl) (fun _ _ _ h => h) rfl (HT.out) (fun w' hw' => ?_) ?_
      · go_simp
      go_frame
      refine Frm.wh_take 7 28 (.int .i64 G) rfl rfl (by kernel_rfl) (fun _ _ _ h => h) rfl (HT.out) (fun w' hw' => ?_) ?_
      · obtain ⟨q0, q1, q2, q3⟩ := hw'.c
        go_simp
      go_frame
      refine Frm.wh_take 9 30 (.int .i64 i) rfl rfl (by kernel_rfl) (fun _ _ _ h => h) rfl (HT.out) (fun w' hw' => ?_) ?_
      · exact rfl
      go_frame
      refine Frm.wh_call 8 29 43 #[.int .i64 G] rfl rfl (by kernel_rfl) rfl ?_ ?_
      · go_simp
      refine (HPL.out w5).mono ?_
      rintro e w6 ⟨rfl, rfl⟩
      refine ⟨_, rfl, HT.out, ?_⟩
      go_frame
      refine Frm.wh_take 10 31 (.bool true) rfl rfl (by kernel_rfl) (fun _ _ _ h => h) rfl (HT.out) (fun w' hw' => ?_) ?_
      · go_simp
        have hpp := HPP.out
        omega
      go_frame
      refine Frm.wh_take 11 32 (.bool true) rfl rfl (by kernel_rfl) (fun _ _ _ h => h) rfl (HT.out) (fun w' hw' => ?_) ?_
      · go_simp
      go_frame
      refine wpAnyH_done (by kernel_rfl) ?_ _
      go_wp2_with fail
      go_ret
      exact ⟨rfl, HLW.out⟩
  · have HV : Hid (headIn (rd d) i = 0) := Lib.hid (by rw [HH.out, he]; rfl)
    rw [HV.out]
    clear HH HV he
    have HNE : Hid (¬ (m0 = 1 ∧ m2 = 0 ∧ m3 = 0)) := Lib.hid (fun hh => by obtain ⟨rfl, rfl, rfl⟩ := hh; simp at hne)
    clear hne
    go_enter Try.func38, Try.ntmps38
    have hc0 := HB0.out.c0
    go_wp2_with fail
    refine (HRD.out _ HB0.out.dk).mono ?_
    rintro e w1 ⟨A1, c1, z1, rfl, hy1, hb1, hc1, hm1, _⟩
    have HS := Lib.hid (HB0.out.call hb1)
    have HY := Lib.hid hy1
    clear hy1 hb1 hc0
    go_wp2_with fail
    refine (HGT.out w1 w1.heap.size xs.length c1 A1 HY.out (Nat.le_refl _) hc1 hm1).mono ?_
    rintro e w2 ⟨rfl, hb2⟩
    have HS := Lib.hid (HS.out.call hb2)
    clear hb2 HY hc1 hm1
    go_upto_region 3 with fail
    have HT : Hid (Two (w2.alloc (.cells #[.int .i64 m0, .int .i64 G, .int .i64 m2, .int .i64 m3] 79)) w.heap.size w2.heap.size g gen m0 G m2 m3) := Lib.hid ⟨(Below.heap_alloc w2 _ _ (lt_of_heap HS.out.bx)).trans HS.out.bx, heap_alloc_new w2 _⟩
    have HLW := Lib.hid (HS.out.low.alloc HS.out.low.size (.cells #[.int .i64 m0, .int .i64 G, .int .i64 m2, .int .i64 m3] 79))
    generalize w2.alloc (.cells #[.int .i64 m0, .int .i64 G, .int .i64 m2, .int .i64 m3] 79) = w3 at *
    generalize w2.heap.size = kb at *
    have HT : Hid (Two w3.drew w.heap.size kb g gen m0 G m2 m3) := Lib.hid ⟨HT.out.bx, HT.out.mb⟩
    have HLW := Lib.hid HLW.out.drew
    refine Frm.wh_start (fun w' => Two w' w.heap.size kb g gen m0 G m2 m3) (by kernel_rfl) ?_
    refine Frm.wh_take 0 21 (.agg #[.int .i64 m0, .int .i64 G, .int .i64 m2, .int .i64 m3]) rfl rfl (by kernel_rfl) (fun _ _ _ h => h) rfl (HT.out) (fun w' hw' => ?_) ?_
    · obtain ⟨q0, q1, q2, q3⟩ := hw'.c
      go_simp
    go_frame
    refine Frm.wh_take 1 22 (.pointer (some ⟨kb, 1, none⟩)) rfl rfl (by kernel_rfl) (fun _ _ _ h => h) rfl (HT.out) (fun w' hw' => ?_) ?_
    · go_simp
    go_frame
    refine Frm.wh_take 2 23 (.int .i64 G) rfl rfl (by kernel_rfl) (fun _ _ _ h => h) rfl (HT.out) (fun w' hw' => ?_) ?_
    · obtain ⟨q0, q1, q2, q3⟩ := hw'.c
      go_simp
    go_frame
    generalize w3.drew = w4 at *
    refine Frm.wh_call 3 24 45 #[.int .i64 G] rfl rfl (by kernel_rfl) rfl ?_ ?_
    · go_simp
    refine (HHD.out w4).mono ?_
    rintro e w5 ⟨rfl, hb5⟩
    have HT := Lib.hid (HT.out.below hb5)
    have HLW := Lib.hid (HLW.out.trans (hb5.mono HLW.out.size))
    clear hb5
    refine ⟨_, rfl, HT.out, ?_⟩
    go_frame
    refine Frm.wh_take 4 25 (.bool true) rfl rfl (by kernel_rfl) (fun _ _ _ h => h) rfl (HT.out) (fun w' hw' => ?_) ?_
    · have hne := HNE.out
      go_simp
      intros
      omega
    go_frame
    refine Frm.wh_take 5 26 (.bool true) rfl rfl (by kernel_rfl) (fun _ _ _ h => h) rfl (HT.out) (fun w' hw' => ?_) ?_
    · exact rfl
    go_frame
    refine Frm.wh_pass 6 27 rfl rfl (by kernel_rfl) (fun _ _ _ h => h) rfl (HT.out) ?_
    go_frame
    refine Frm.wh_pass 7 28 rfl rfl (by kernel_rfl) (fun _ _ _ h => h) rfl (HT.out) ?_
    go_frame
    refine Frm.wh_pass 8 29 rfl rfl (by kernel_rfl) (fun _ _ _ h => h) rfl (HT.out) ?_
    go_frame
    refine Frm.wh_pass 9 30 rfl rfl (by kernel_rfl) (fun _ _ _ h => h) rfl (HT.out) ?_
    go_frame
    refine Frm.wh_pass 10 31 rfl rfl (by kernel_rfl) (fun _ _ _ h => h) rfl (HT.out) ?_
    go_frame
    refine Frm.wh_take 11 32 (.bool true) rfl rfl (by kernel_rfl) (fun _ _ _ h => h) rfl (HT.out) (fun w' hw' => ?_) ?_
    · go_simp
    go_frame
    refine wpAnyH_done (by kernel_rfl) ?_ _
    go_wp2_with fail
    go_ret
    exact ⟨rfl, HLW.out⟩
/-- Is there a head; the greater one behind k sectors. -/
def newB (f : Nat → List UInt8) : Bool := decide (0 < newest f)
def mx (f : Nat → List UInt8) (k : Nat) : Nat := if k = 0 then 0 else if k = 1 then headIn f 0 else newest f
theorem mx_step (f : Nat → List UInt8) (k : Nat) (h : k < 2) : (mx f k < headIn f k → mx f (k + 1) = headIn f k) ∧ (headIn f k ≤ mx f k → mx f (k + 1) = mx f k) := by
  have hk : k = 0 ∨ k = 1 := by omega
  rcases hk with rfl | rfl
  · simp [mx]
  · simp only [mx, newest]
    simp
    omega
structure NR (w0 w' : World) (b2 b4 g gs gm : Nat) (d : Dsk) (G : Nat) : Prop where
  zb : w'.heap[b2]? = some (.cells #[.pointer none, .int .i64 0] 49 (0, 0))
  nb : w'.heap[b4]? = some (.cells #[.pointer (some ⟨g, 0, none⟩), .int .i64 G] 49 (0, 0))
  dk : Dk w' g gs gm d
  low : Below w0.heap.size w0 w'
theorem NR.call {w0 w1 w' : World} {b2 b4 g gs gm : Nat} {d : Dsk} {G : Nat} (h : NR w0 w1 b2 b4 g gs gm d G) (hb : Below w1.heap.size w1 w') : NR w0 w' b2 b4 g gs gm d G :=
  ⟨(hb.block _ (lt_of_heap h.zb)).trans h.zb, (hb.block _ (lt_of_heap h.nb)).trans h.nb, Dk.below h.dk hb, h.low.trans (hb.mono h.low.size)⟩
theorem NR.set {w0 w1 : World} {b2 b4 g gs gm : Nat} {d : Dsk} {G G' : Nat} (h : NR w0 w1 b2 b4 g gs gm d G) (hne : b2 ≠ b4) (h4 : w0.heap.size ≤ b4) (hn : b4 ∉ [g, gs, gm]) : NR w0 ((w1.setCell ⟨b4, 0, none⟩ (.pointer (some ⟨g, 0, none⟩))).setCell ⟨b4, 1, none⟩ (.int .i64 G')) b2 b4 g gs gm d G' := by
  have ht : Turn [b4] w1 ((w1.setCell ⟨b4, 0, none⟩ (.pointer (some ⟨g, 0, none⟩))).setCell ⟨b4, 1, none⟩ (.int .i64 G')) := ((Turn.refl [b4] w1).setCell (.inl (by simp)) _).setCell (.inl (by simp)) _
  simp only [List.mem_cons, List.not_mem_nil, or_false, not_or] at hn
  exact ⟨(ht.block b2 (lt_of_heap h.zb) (by simpa using hne)).trans h.zb, by rw [set_at (set_at h.nb 0 _) 1 _]; rfl, h.dk.turn ht (by simp; omega) (by simp; omega) (by simp; omega), (h.low.setCell (p := ⟨b4, 0, none⟩) h4 _).setCell (p := ⟨b4, 1, none⟩) h4 _⟩
set_option maxHeartbeats 4000000 in
theorem newest_any (w : World) (g gs gm : Nat) (d : Dsk) (h : Dk w g gs gm d) (ho : d.off = false) : Calls Try.prog 24 #[ptr g] w (EndsBelow (.tuple #[.agg #[ptr g, .int .i64 (newest (rd d))], .bool (newB (rd d))]) w) := by
  have hlo := Dk.lows h
  have hgl := h.lt
  have h1 : Dk ((w.alloc (.cells #[.pointer none, .int .i64 0] 49)).alloc (.cells #[.pointer (some ⟨g, 0, none⟩), .int .i64 0] 49)) g gs gm d := (h.alloc _).alloc _
  have HN0 : Hid (NR w ((w.alloc (.cells #[.pointer none, .int .i64 0] 49)).alloc (.cells #[.pointer (some ⟨g, 0, none⟩), .int .i64 0] 49)) w.heap.size (w.heap.size + 1) g gs gm d 0) := Lib.hid ⟨(Below.heap_alloc _ _ _ (by simp)).trans (heap_alloc_new w _), by have := heap_alloc_new (w.alloc (.cells #[.pointer none, .int .i64 0] 49)) (.cells #[.pointer (some ⟨g, 0, none⟩), .int .i64 0] 49); rwa [World.size_alloc] at this, h1, (Frm.alloc_below w _).alloc (by simp) _⟩
  have HH := Lib.hid (fun u hu G k => headIn_any u g gs gm d G k hu ho)
  have HMX := Lib.hid (fun k hk => mx_step (rd d) k hk)
  have HM0 : Hid (mx (rd d) 0 = 0) := Lib.hid rfl
  have HM2 : Hid (mx (rd d) 2 = newest (rd d)) := Lib.hid rfl
  have HNB : Hid (newB (rd d) = decide (0 < newest (rd d))) := Lib.hid rfl
  have HNI : Hid (w.heap.size + 1 ∉ [g, gs, gm]) := Lib.hid (fun hm => by have := hlo _ hm; omega)
  generalize newB (rd d) = NB at *
  generalize newest (rd d) = NW at *
  generalize rd d = f at *
  unfold hv at HH
  unfold ptr at *
  clear h ho hlo h1 hgl
  go_enter Try.func24, Try.ntmps24
  go_wp2_with fail
  generalize (w.alloc (.cells #[.pointer none, .int .i64 0] 49)).alloc (.cells #[.pointer (some ⟨g, 0, none⟩), .int .i64 0] 49) = W at *
  go_loopw [9] (fun i' wr => ∃ k : Nat, k ≤ 2 ∧ i' = .int .i64 k ∧ NR w wr w.heap.size (w.heap.size + 1) g gs gm d (mx f k)) (fun i' _ => 2 - (Go.RowKit.intOf i').toNat)
  case atStart => exact ⟨0, by omega, rfl, by rw [HM0.out]; exact HN0.out⟩
  case round =>
    obtain ⟨k, hk, rfl, hnr⟩ := hrel
    have HN := Lib.hid hnr
    clear hnr
    have hk2 : (k : Int) ≤ 2 := by omega
    by_cases hlt : k < 2
    · have hlt2 : (k : Int) < 2 := by omega
      have hcs : mx f k < headIn f k ∨ headIn f k ≤ mx f k := by omega
      have HS := Lib.hid (HMX.out k hlt)
      have HC := Lib.hid (HH.out wr HN.out.dk (mx f k) k)
      have hn0 : wr.cell? ⟨w.heap.size + 1, 0, none⟩ = some (.pointer (some ⟨g, 0, none⟩)) := cell_at HN.out.nb 0
      have hn1 : wr.cell? ⟨w.heap.size + 1, 1, none⟩ = some (.int .i64 (mx f k)) := cell_at HN.out.nb 1
      generalize headIn f k = X at *
      obtain ⟨Y, hY⟩ : ∃ Y, mx f k = Y := ⟨_, rfl⟩
      rw [hY] at HN HS HC hn1 hcs
      clear hY
      go_wp2_with fail
      refine HC.out.mono ?_
      rintro e w2 ⟨rfl, hb2⟩
      have HN := Lib.hid (HN.out.call hb2)
      clear hn0 hn1 hb2 HC
      have HN := Lib.hid (HN.out.call (Frm.alloc_below w2 (.cells #[.pointer (some ⟨g, 0, none⟩), .int .i64 X] 49)))
      have hX := heap_alloc_new w2 (.cells #[.pointer (some ⟨g, 0, none⟩), .int .i64 X] 49)
      go_upto_region 6 with fail
      generalize w2.alloc (.cells #[.pointer (some ⟨g, 0, none⟩), .int .i64 X] 49) = w3 at *
      have hx0 : w3.cell? ⟨w2.heap.size, 0, none⟩ = some (.pointer (some ⟨g, 0, none⟩)) := cell_at hX 0
      have hx1 : w3.cell? ⟨w2.heap.size, 1, none⟩ = some (.int .i64 X) := cell_at hX 1
      have hn0 : w3.cell? ⟨w.heap.size + 1, 0, none⟩ = some (.pointer (some ⟨g, 0, none⟩)) := cell_at HN.out.nb 0
      have hn1 : w3.cell? ⟨w.heap.size + 1, 1, none⟩ = some (.int .i64 Y) := cell_at HN.out.nb 1
      have hf0 : w3.frozen? ⟨w.heap.size + 1, 0, none⟩ = false := free_at HN.out.nb 0
      have hf1 : w3.frozen? ⟨w.heap.size + 1, 1, none⟩ = false := free_at HN.out.nb 1
      clear hX
      rcases hcs with hc | hc
      · have hc' : (Y : Int) < X := by omega
        go_wp2_with fail
        go_roundw
        case rel =>
          refine ⟨k + 1, by omega, by go_num, ?_⟩
          rw [HS.out.1 hc]
          exact HN.out.set (by omega) (by omega) HNI.out
        case measure => simp [Go.RowKit.intOf]; omega
      · have hc' : (X : Int) ≤ Y := by omega
        go_wp2_with fail
        go_roundw
        case rel =>
          refine ⟨k + 1, by omega, by go_num, ?_⟩
          rw [HS.out.2 hc]
          exact HN.out
        case measure => simp [Go.RowKit.intOf]; omega
    · obtain rfl : k = 2 := by omega
      rw [HM2.out] at HN
      clear hk2 HMX HM0 HM2 HH HN0
      go_wp2_with fail
      have HN := Lib.hid (⟨HN.out.zb, HN.out.nb, HN.out.dk.drewN 1, HN.out.low.drew⟩ : NR w wr.drew w.heap.size (w.heap.size + 1) g gs gm d NW)
      refine Frm.wh_start (fun w' => w'.heap[w.heap.size + 1]? = some (.cells #[.pointer (some ⟨g, 0, none⟩), .int .i64 NW] 49 (0, 0))) (by kernel_rfl) ?_
      generalize wr.drew = u at *
      refine Frm.wh_take 0 24 (.agg #[.pointer (some ⟨g, 0, none⟩), .int .i64 NW]) rfl rfl (by kernel_rfl) (fun _ _ _ h => h) rfl (HN.out.nb) (fun w' hw' => ?_) ?_
      · have h0 := box0 hw'
        have h1 := box1 hw'
        go_simp
      go_frame
      refine Frm.wh_take 1 25 (.pointer (some ⟨w.heap.size + 1, 1, none⟩)) rfl rfl (by kernel_rfl) (fun _ _ _ h => h) rfl (HN.out.nb) (fun w' hw' => ?_) ?_
      · go_simp
      go_frame
      refine Frm.wh_take 2 26 (.int .i64 NW) rfl rfl (by kernel_rfl) (fun _ _ _ h => h) rfl (HN.out.nb) (fun w' hw' => ?_) ?_
      · have h0 := box0 hw'
        have h1 := box1 hw'
        go_simp
      go_frame
      refine Frm.wh_take 3 27 (.bool NB) rfl rfl (by kernel_rfl) (fun _ _ _ h => h) rfl (HN.out.nb) (fun w' hw' => ?_) ?_
      · have hq := HNB.out
        rw [hq]
        go_simp
      go_frame
      have z0 : u.cell? ⟨w.heap.size, 0, none⟩ = some (.pointer none) := cell_at HN.out.zb 0
      have z1 : u.cell? ⟨w.heap.size, 1, none⟩ = some (.int .i64 0) := cell_at HN.out.zb 1
      have f0 : u.frozen? ⟨w.heap.size, 0, none⟩ = false := free_at HN.out.zb 0
      have f1 : u.frozen? ⟨w.heap.size, 1, none⟩ = false := free_at HN.out.zb 1
      refine Frm.wh_store 4 ((u.setCell ⟨w.heap.size, 0, none⟩ (.pointer (some ⟨g, 0, none⟩))).setCell ⟨w.heap.size, 1, none⟩ (.int .i64 NW)) rfl rfl (by kernel_rfl) rfl ?_ ?_ ?_
      · go_simp
      · exact (((Turn.refl [w.heap.size] u).setCell (p := ⟨w.heap.size, 0, none⟩) (.inl (by simp)) _).setCell (p := ⟨w.heap.size, 1, none⟩) (.inl (by simp)) _).block _ (lt_of_heap HN.out.nb) (by simp) |>.trans HN.out.nb
      have HNB4 := Lib.hid ((((Turn.refl [w.heap.size] u).setCell (p := ⟨w.heap.size, 0, none⟩) (.inl (by simp)) (.pointer (some ⟨g, 0, none⟩))).setCell (p := ⟨w.heap.size, 1, none⟩) (.inl (by simp)) (.int .i64 NW)).block _ (lt_of_heap HN.out.nb) (by simp) |>.trans HN.out.nb)
      refine Frm.wh_take 5 3 (.bool NB) rfl rfl (by kernel_rfl) (fun _ _ _ h => h) rfl (HNB4.out) (fun w' hw' => ?_) ?_
      · exact rfl
      go_frame
      refine wpAnyH_done (by kernel_rfl) ?_ _
      have HW := Lib.hid (set_at (set_at HN.out.zb 0 (.pointer (some ⟨g, 0, none⟩))) 1 (.int .i64 NW))
      have HL := Lib.hid ((HN.out.low.setCell (p := ⟨w.heap.size, 0, none⟩) (Nat.le_refl _) (.pointer (some ⟨g, 0, none⟩))).setCell (p := ⟨w.heap.size, 1, none⟩) (Nat.le_refl _) (.int .i64 NW))
      clear z0 z1 f0 f1
      go_wp2_with fail
      have hw := HW.out
      generalize (u.setCell ⟨w.heap.size, 0, none⟩ (.pointer (some ⟨g, 0, none⟩))).setCell ⟨w.heap.size, 1, none⟩ (.int .i64 NW) = u2 at *
      have z0 := cell_at hw 0
      have z1 := cell_at hw 1
      exact bodyPost_ret (v := .tuple #[.agg #[.pointer (some ⟨g, 0, none⟩), .int .i64 NW], .bool NB]) (by simp [results, Try.results24, go_sem, z0, z1]) rfl ⟨rfl, HL.out⟩
end Go.Proofs.Ytgjdgmpjbpnjbaa.Jou
/-
  What read and group of a half tell: the sectors from a place on; the group that stands there. Conditions: the disk is known, its power is on.
-/
namespace Go.Proofs.Ytgjdgmpjbpnjbaa.Jou
open Go.RowKit Codec FrameM Cod JourM
open Disk (Turn Dk Dsk ptr Now)
open Frm (Sct Pk)
set_option maxRecDepth 100000
def ReadRows (w : World) (ls : List (List UInt8)) (e : Ending) (w' : World) : Prop :=
  ∃ A c, e = .returned (.slice A ls.length c) ∧ Frm.Rows w' w'.heap.size A ls.length ls ∧ Below w.heap.size w w'
theorem run_make34K (w : World) (K : Nat) (hK : K ≤ 1000000) : (Instr.makeSlice 34 (.int .i64 K) (.int .i64 K)).run Try.prog w = .ok (.slice (some ⟨w.heap.size, 0, none⟩) K K) (w.alloc (.cells (Frm.room K) 35)) := by
  obtain ⟨i0, hi, hz0, hz1, hz2⟩ := info_parts Frm.info24
  have := run_make (P := Try.prog) w 34 35 i0 _ Try.underlying34 hi hz0 .i64 .i64 K K (by omega) (by omega) (by rw [hz2]; omega) (by omega)
  rw [hz1] at this
  simpa [Frm.room] using this
theorem room_size (K : Nat) : (Frm.room K).size = K := by simp [Frm.room, madeCells, Value.cells]
/-- What the loop of read has laid: the first k slices. -/
structure RR (w' : World) (b K k : Nat) (x : Nat → List UInt8) (C : Array Value) : Prop where
  row : w'.heap[b]? = some (.cells C 35 (0, 0))
  size : C.size = K
  at_ : ∀ j, j < k → ∃ Aj cj, C[j]? = some (.slice Aj (x j).length cj) ∧ Bts w' [b] Aj (x j).length (x j) ∧ (x j).length ≤ cj ∧ cj ≤ maxLen
theorem RR.below {w1 w' : World} {b K k : Nat} {x : Nat → List UInt8} {C : Array Value} (h : RR w1 b K k x C) (hb : Below w1.heap.size w1 w') : RR w' b K k x C :=
  ⟨(hb.block _ (lt_of_heap h.row)).trans h.row, h.size, fun j hj => by
    obtain ⟨Aj, cj, h1, h2, h3⟩ := h.at_ j hj
    exact ⟨Aj, cj, h1, h2.below hb, h3⟩⟩
theorem RR.drew {w1 : World} {b K k : Nat} {x : Nat → List UInt8} {C : Array Value} (h : RR w1 b K k x C) : RR w1.drew b K k x C :=
  ⟨h.row, h.size, fun j hj => by
    obtain ⟨Aj, cj, h1, h2, h3⟩ := h.at_ j hj
    exact ⟨Aj, cj, h1, h2.turn (Turn.drew (Turn.refl [] w1)) (by simp), h3⟩⟩
theorem RR.set {w1 : World} {b K k : Nat} {x : Nat → List UInt8} {C : Array Value} (h : RR w1 b K k x C) (hk : k < K) {A : Option Addr} {c : Nat} (hb : Bts w1 [b] A (x k).length (x k)) (hc : (x k).length ≤ c) (hm : c ≤ maxLen) :
    RR (w1.setCell ⟨b, k, none⟩ (.slice A (x k).length c)) b K (k + 1) x (C.setIfInBounds k (.slice A (x k).length c)) := by
  have ht : Turn [b] w1 (w1.setCell ⟨b, k, none⟩ (.slice A (x k).length c)) := (Turn.refl [b] w1).setCell (.inl (by simp)) _
  refine ⟨set_at h.row k _, by simp [h.size], fun j hj => ?_⟩
  by_cases he : j = k
  · subst he
    exact ⟨A, c, by simp [h.size, hk], hb.turn ht (by simp), hc, hm⟩
  · obtain ⟨Aj, cj, h1, h2, h3⟩ := h.at_ j (by omega)
    exact ⟨Aj, cj, by rw [Array.getElem?_setIfInBounds_ne (by omega)]; exact h1, h2.turn ht (by simp), h3⟩
theorem RR.rows {w1 : World} {b K : Nat} {x : Nat → List UInt8} {C : Array Value} (h : RR w1 b K K x C) : Frm.Rows w1 w1.heap.size (some ⟨b, 0, none⟩) K ((List.range K).map x) := by
  refine ⟨by simp, fun hK => ⟨b, 0, rfl, lt_of_heap h.row, fun j hj => ?_⟩⟩
  obtain ⟨Aj, cj, h1, h2, h3, h4⟩ := h.at_ j hj
  have e : ((List.range K).map x).getD j [] = x j := by simp [List.getD_eq_getElem?_getD, hj]
  rw [e]
  exact ⟨Aj, cj, by rw [cell_at h.row, Nat.zero_add]; exact h1, h2.byts, h3, h4⟩
set_option maxHeartbeats 4000000 in
theorem readh_any (w : World) (g gs gm : Nat) (d : Dsk) (gen pos K : Nat) (h : Dk w g gs gm d) (ho : d.off = false) (h2 : 2 ≤ d.n) (hg : gen < 9223372036854775808) (hp : pos + K ≤ 100000) (hK : K ≤ 65536) :
    Calls Try.prog 60 #[hv g gen, .int .i64 pos, .int .i64 K] w (ReadRows w ((List.range K).map fun i => rd d (secAt d.n gen (pos + i)))) := by
  have HLO := Lib.hid (Dk.lows h)
  have HB0 := Lib.hid (HB.start gen h)
  have HRD := Lib.hid (fun u hu i => read_any u g gs gm d hu ho i)
  have HSE := Lib.hid (fun u hu k (hk : k < K) => sector_any u g gs gm d gen (pos + k) hu h2 hg (by omega))
  have hmk : ∀ v : World, (Instr.makeSlice 34 (.int .i64 K) (.int .i64 K)).run Try.prog v = .ok (.slice (some ⟨v.heap.size, 0, none⟩) K K) (v.alloc (.cells (Frm.room K) 35)) := fun v => run_make34K v K (by omega)
  have hK1 : (K : Int) ≤ 65536 := by omega
  have hP1 : (pos : Int) + K ≤ 100000 := by omega
  obtain ⟨x, hx⟩ : ∃ x : Nat → List UInt8, (fun i => rd d (secAt d.n gen (pos + i))) = x := ⟨_, rfl⟩
  have HX : Hid (∀ i, rd d (secAt d.n gen (pos + i)) = x i) := Lib.hid (fun i => by rw [← hx])
  have HXX : Hid (((List.range K).map fun i => rd d (secAt d.n gen (pos + i))) = (List.range K).map x) := Lib.hid (by rw [← hx])
  rw [HXX.out]
  unfold hv at *
  unfold hbox at *
  unfold ptr at *
  clear h ho h2 hg hx HXX
  go_enter Try.func60, Try.ntmps60
  go_wp2_with fail
  have HB1 := Lib.hid (HB0.out.alloc (.cells (Frm.room K) 35))
  have HR1 : Hid (RR ((w.alloc (.cells #[.pointer (some ⟨g, 0, none⟩), .int .i64 gen] 49)).alloc (.cells (Frm.room K) 35)) (w.heap.size + 1) K 0 x (Frm.room K)) := Lib.hid ⟨by have := heap_alloc_new (w.alloc (.cells #[.pointer (some ⟨g, 0, none⟩), .int .i64 gen] 49)) (.cells (Frm.room K) 35); rwa [World.size_alloc] at this, room_size K, fun j hj => absurd hj (by omega)⟩
  clear hmk HB0
  generalize (w.alloc (.cells #[.pointer (some ⟨g, 0, none⟩), .int .i64 gen] 49)).alloc (.cells (Frm.room K) 35) = W at *
  go_loopw [13] (fun i' wr => ∃ k : Nat, k ≤ K ∧ i' = .int .i64 k ∧ HB w wr w.heap.size g gs gm gen d ∧ ∃ C, RR wr (w.heap.size + 1) K k x C) (fun i' _ => K - (Go.RowKit.intOf i').toNat)
  case atStart => exact ⟨0, by omega, rfl, HB1.out, _, HR1.out⟩
  case round =>
    obtain ⟨k, hk, rfl, hb, C, hr⟩ := hrel
    have HS := Lib.hid hb
    have HR := Lib.hid hr
    clear hb hr
    have hk2 : (k : Int) ≤ K := by omega
    by_cases hlt : k < K
    · have hlt2 : (k : Int) < K := by omega
      have hidx : ∀ v : World, (Instr.indexAt 34 (.slice (some ⟨w.heap.size + 1, 0, none⟩) K K) (.int .i64 k)).run Try.prog v = .ok (.pointer (some ⟨w.heap.size + 1, k, none⟩)) v := fun v => by
        simp [Instr.indexAt, asIntOf, run_underlying Try.underlying34, Result.andThen, plain_add]
        intro h1
        omega
      have HSQ := Lib.hid (fun u hu => HSE.out u hu k hlt)
      have HXK := Lib.hid (HX.out k)
      generalize secAt d.n gen (pos + k) = sk at *
      go_wp2_with fail
      have HS := Lib.hid HS.out.drew
      have HR := Lib.hid HR.out.drew
      refine Frm.wh_start (fun w' => w'.heap[w.heap.size]? = some (.cells #[.pointer (some ⟨g, 0, none⟩), .int .i64 gen] 49 (0, 0))) (by kernel_rfl) ?_
      generalize wr.drew = u at *
      refine Frm.wh_take 0 17 (.slice (some ⟨w.heap.size + 1, 0, none⟩) K K) rfl rfl (by kernel_rfl) (fun _ _ _ h => h) rfl (HS.out.bx) (fun w' hw' => ?_) ?_
      · exact rfl
      go_frame
      refine Frm.wh_take 1 18 (.int .i64 k) rfl rfl (by kernel_rfl) (fun _ _ _ h => h) rfl (HS.out.bx) (fun w' hw' => ?_) ?_
      · exact rfl
      go_frame
      refine Frm.wh_take 2 19 (.pointer (some ⟨w.heap.size, 0, none⟩)) rfl rfl (by kernel_rfl) (fun _ _ _ h => h) rfl (HS.out.bx) (fun w' hw' => ?_) ?_
      · go_simp
      go_frame
      refine Frm.wh_take 3 20 (.pointer (some ⟨g, 0, none⟩)) rfl rfl (by kernel_rfl) (fun _ _ _ h => h) rfl (HS.out.bx) (fun w' hw' => ?_) ?_
      · have h0 := box0 hw'
        have h1 := box1 hw'
        go_simp
      go_frame
      refine Frm.wh_take 4 21 (.agg #[.pointer (some ⟨g, 0, none⟩), .int .i64 gen]) rfl rfl (by kernel_rfl) (fun _ _ _ h => h) rfl (HS.out.bx) (fun w' hw' => ?_) ?_
      · have h0 := box0 hw'
        have h1 := box1 hw'
        go_simp
      go_frame
      refine Frm.wh_take 5 22 (.int .i64 pos) rfl rfl (by kernel_rfl) (fun _ _ _ h => h) rfl (HS.out.bx) (fun w' hw' => ?_) ?_
      · exact rfl
      go_frame
      refine Frm.wh_take 6 23 (.int .i64 k) rfl rfl (by kernel_rfl) (fun _ _ _ h => h) rfl (HS.out.bx) (fun w' hw' => ?_) ?_
      · exact rfl
      go_frame
      have hw1 : IntKind.i64.wrap ((pos : Int) + (k : Int)) = (pos : Int) + (k : Int) := IntWalk.i64_in _ (by omega)
      refine Frm.wh_take 7 24 (.int .i64 ((pos : Int) + (k : Int))) rfl rfl (by kernel_rfl) (fun _ _ _ h => h) rfl (HS.out.bx) (fun w' hw' => ?_) ?_
      · go_simp
      go_frame
      have hsq := HSQ.out u HS.out.dk
      push_cast at hsq
      have HC := Lib.hid hsq
      clear hsq hw1
      refine Frm.wh_call 8 25 42 #[.agg #[.pointer (some ⟨g, 0, none⟩), .int .i64 gen], .int .i64 ((pos : Int) + (k : Int))] rfl rfl (by kernel_rfl) rfl ?_ ?_
      · go_simp
      refine (HC.out).mono ?_
      rintro e w2 ⟨rfl, hb2⟩
      have HS := Lib.hid (HS.out.call hb2)
      have HR := Lib.hid (HR.out.below hb2)
      clear hb2 HC
      refine ⟨_, rfl, HS.out.bx, ?_⟩
      go_frame
      have hrd := HRD.out w2 HS.out.dk sk
      rw [HXK.out] at hrd
      have HC := Lib.hid hrd
      clear hrd
      refine Frm.wh_call 9 26 50 #[.pointer (some ⟨g, 0, none⟩), .int .i64 sk] rfl rfl (by kernel_rfl) rfl ?_ ?_
      · go_simp
      refine (HC.out).mono ?_
      rintro e w3 ⟨A3, c3, z3, rfl, hy3, hb3, hc3, hm3, ha3⟩
      have hlt3 := lt_of_heap HR.out.row
      have HBT := Lib.hid (Bts.above (S := [w.heap.size + 1]) hy3 ha3 (by simpa using hlt3))
      have HS := Lib.hid (HS.out.call hb3)
      have HR := Lib.hid (HR.out.below hb3)
      have HCC := Lib.hid (And.intro hc3 hm3)
      clear hb3 HC hlt3 hy3 ha3 hc3 hm3
      refine ⟨_, rfl, HS.out.bx, ?_⟩
      go_frame
      refine Frm.wh_take 10 16 (.tuple #[.slice A3 (x k).length c3, .int .i64 z3]) rfl rfl (by kernel_rfl) (fun _ _ _ h => h) rfl (HS.out.bx) (fun w' hw' => ?_) ?_
      · exact rfl
      go_frame
      refine Frm.wh_take 11 27 (.slice A3 (x k).length c3) rfl rfl (by kernel_rfl) (fun _ _ _ h => h) rfl (HS.out.bx) (fun w' hw' => ?_) ?_
      · go_simp
      go_frame
      refine Frm.wh_take 12 28 (.int .i64 z3) rfl rfl (by kernel_rfl) (fun _ _ _ h => h) rfl (HS.out.bx) (fun w' hw' => ?_) ?_
      · go_simp
      go_frame
      refine Frm.wh_take 13 29 (.pointer (some ⟨w.heap.size + 1, k, none⟩)) rfl rfl (by kernel_rfl) (fun _ _ _ h => h) rfl (HS.out.bx) (fun w' hw' => ?_) ?_
      · go_simp
      go_frame
      clear hidx
      have hcell : ∃ v, w3.cell? ⟨w.heap.size + 1, k, none⟩ = some v := by
        rw [cell_at HR.out.row]
        exact ⟨C[k]'(by rw [HR.out.size]; exact hlt), by simp [HR.out.size, hlt]⟩
      obtain ⟨v0, hv0⟩ := hcell
      have hf0 : w3.frozen? ⟨w.heap.size + 1, k, none⟩ = false := free_at HR.out.row k
      have HBX : Hid ((w3.setCell ⟨w.heap.size + 1, k, none⟩ (.slice A3 (x k).length c3)).heap[w.heap.size]? = some (.cells #[.pointer (some ⟨g, 0, none⟩), .int .i64 gen] 49 (0, 0))) := Lib.hid ((Below.heap_setCell w3 ⟨w.heap.size + 1, k, none⟩ (.slice A3 (x k).length c3) w.heap.size (by simp)).trans HS.out.bx)
      have HR4 := Lib.hid (HR.out.set hlt HBT.out HCC.out.1 HCC.out.2)
      have HT4 : Hid (Turn [w.heap.size + 1] w3 (w3.setCell ⟨w.heap.size + 1, k, none⟩ (.slice A3 (x k).length c3))) := Lib.hid ((Turn.refl [w.heap.size + 1] w3).setCell (.inl (by simp)) _)
      have HDK : Hid (Dk (w3.setCell ⟨w.heap.size + 1, k, none⟩ (.slice A3 (x k).length c3)) g gs gm d) := Lib.hid (by
        have e1 := HLO.out g (by simp)
        have e2 := HLO.out gs (by simp)
        have e3 := HLO.out gm (by simp)
        exact HS.out.dk.turn HT4.out (by simp; omega) (by simp; omega) (by simp; omega))
      have HLW : Hid (Below w.heap.size w (w3.setCell ⟨w.heap.size + 1, k, none⟩ (.slice A3 (x k).length c3))) := Lib.hid (HS.out.low.setCell (p := ⟨w.heap.size + 1, k, none⟩) (by simp) _)
      refine Frm.wh_store 14 (w3.setCell ⟨w.heap.size + 1, k, none⟩ (.slice A3 (x k).length c3)) rfl rfl (by kernel_rfl) rfl ?_ HBX.out ?_
      · go_simp
      refine wpAnyH_done (by kernel_rfl) ?_ _
      clear hv0 hf0
      go_wp2_with fail
      go_roundw
      case rel => exact ⟨k + 1, by omega, by go_num, ⟨HBX.out, HDK.out, HLW.out, HS.out.lo⟩, _, HR4.out⟩
      case measure => simp [Go.RowKit.intOf]; omega
    · obtain rfl : k = K := by omega
      go_wp2_with fail
      go_ret
      have e : ((List.range k).map x).length = k := by simp
      exact ⟨some ⟨w.heap.size + 1, 0, none⟩, k, by rw [e]; rfl, by rw [e]; exact HR.out.rows, HS.out.low⟩
end Go.Proofs.Ytgjdgmpjbpnjbaa.Jou
