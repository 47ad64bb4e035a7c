/-
  slices.Delete of a row's last element, a row of rows.
-/
import Derived.Test.YtbhgbgaeaejnhaaQ15
import Derived.Lib.SliceRun
import Derived.Deep.Upon
namespace Go.Proofs.Ytbhgbgaeaejnhaa.Typ
open Go.RowKit Tre
open OwnR (OwnG)
set_option maxRecDepth 100000
set_option linter.unusedSimpArgs false
theorem slC_flat : ∀ vs : List Value, vs.flatMap slC = vs
  | [] => rfl
  | v :: vs => by rw [List.flatMap_cons, slC_flat vs]; rfl
/-- The last element of a row of rows is cleared, the row is cut. -/
theorem pop_row {w : World} {b n c : Nat} {us : List Value} {v : Value} (h : OwnG 1 slC 77 w 0 (.slice (some ⟨b, 0, none⟩) (n + 1) c) (us ++ [v])) (hn : us.length = n) :
    ∃ W2, (∀ ty d, (Builtin.clear_ #[47] ty #[.slice (some ⟨b, n, none⟩) 1 d]).run Try.prog w.drew = .ok (.tuple #[]) W2) ∧ OwnG 1 slC 77 W2 0 (.slice (some ⟨b, 0, none⟩) n c) us ∧ TurnS (fun k => k = b) w W2 := by
  subst hn
  obtain ⟨hl, h2⟩ := h
  rw [slC_flat] at h2 hl
  rcases h2 with ⟨e, _⟩ | ⟨g, cap, cur, e, _, hh, hc, hm, hs, ht⟩
  · cases e
  injection e with e1 e2 e3
  injection e1 with e1
  injection e1 with e1
  subst e1 e3
  rw [List.length_append, List.length_singleton, Nat.mul_one] at ht
  have hc : us.length + 1 ≤ c := by simpa using hc
  rw [Nat.mul_one] at hs
  have hlt : us.length < cur.size := by omega
  have hd : w.drew.heap[b]? = some (.cells cur 77 (0, 0)) := hh
  refine ⟨w.drew.setCells b us.length (List.replicate 1 (.slice none 0 0)), fun ty d => Lib.run_clear_slice w.drew _ 77 ty (.slice none 0 0) und_out (fun w => by
    obtain ⟨i, hi, hz, _⟩ := infoO_of
    simp [zeroValue, typeInfo, hi, hz]) rfl rfl b us.length 1 d (by decide) (fun j hj => by
      obtain rfl : j = 0 := by omega
      rw [Nat.add_zero, cell_at hd]
      simp [hlt]) (fun j hj => by simp [World.frozen?, hd]), ?_, ?_⟩
  · refine ⟨by rw [slC_flat, Nat.mul_one], .inr ⟨b, c, cur.set! us.length (.slice none 0 0), rfl, Nat.zero_le _, ?_, by omega, hm, by simpa using hs, ?_⟩⟩
    · exact setc_at hd _
    · rw [slC_flat, Nat.mul_one]
      have e := congrArg (List.take us.length) ht
      rw [List.take_take, Nat.min_eq_left (by omega), List.take_append_of_le_length (Nat.le_refl _), List.take_length] at e
      rw [← e]
      simp only [Array.set!_eq_setIfInBounds, Array.toList_setIfInBounds, List.length_take, Array.length_toList]
      rw [Nat.min_eq_left (by omega), List.take_set_of_le (Nat.le_refl _)]
  · exact ((TurnS.refl (fun k => k = b) w).below (Below.refl _ w).drew).set (b := b) (.inl rfl) _ _
set_option maxHeartbeats 4000000 in
theorem pdel_any {w : World} {b n c : Nat} {us : List Value} {v : Value} (h : OwnG 1 slC 77 w 0 (.slice (some ⟨b, 0, none⟩) (n + 1) c) (us ++ [v])) (hn : us.length = n) (hc : n + 1 ≤ c) (hn2 : n ≤ 100000) :
    Calls Try.prog 46 #[.slice (some ⟨b, 0, none⟩) (n + 1) c, .int .i64 n, .int .i64 (n + 1)] w (fun e w' => e = .returned (.slice (some ⟨b, 0, none⟩) n c) ∧ OwnG 1 slC 77 w' 0 (.slice (some ⟨b, 0, none⟩) n c) us ∧ TurnS (fun k => k = b) w w') := by
  obtain ⟨W2, hcl, ho2, ht2⟩ := pop_row h hn
  have HO := Lib.hid (And.intro ho2 ht2)
  have hc' : n ≤ c := by omega
  have HR : Hid (∀ (a : Addr) (d : Nat) (X : World) (ty : TypeId), (Builtin.append_ #[47, 47] ty #[.slice (some ⟨b, 0, none⟩) n c, .slice (some a) 0 d]).run Try.prog X = .ok (.slice (some ⟨b, 0, none⟩) n c) X) := Lib.hid (fun a d X ty => by
    obtain ⟨i, hi, _⟩ := infoO_of
    exact run_append_nothing X _ _ ty _ i und_out hi (some ⟨b, 0, none⟩) n c hc' _ (Src.ofSlice X und_out a 0 d [] (by simp) (fun j u hu => by simp at hu) (by simp)))
  clear h hn ho2 ht2
  have h0 : (0 : Int) ≤ (n : Int) + 1 := by omega
  have h1 : (n : Int) ≤ (n : Int) + 1 := by omega
  by_cases hcc : c = n + 1
  · subst hcc
    go_enter Try.func46, Try.ntmps46
    go_wp2_with fail
    refine wp_region_still_tail 6 (by kernel_rfl) (by kernel_rfl) ?_
    simp only [List.take_succ_cons, List.take_zero, List.drop_succ_cons, List.drop_zero]
    iterate 6 still_step
    refine wpStill_nil ?_
    change wpList _ _ _ _ _ w.drew
    refine wp_appG 47 rfl (.tmp 22) (.tmp 25) rfl _ _ _ rfl rfl (HR.out _ _ _) ?_
    go_wp2_with fail
    go_ret
    exact ⟨rfl, HO.out.1, HO.out.2⟩
  · go_enter Try.func46, Try.ntmps46
    go_wp2_with fail
    refine wp_region_still_tail 6 (by kernel_rfl) (by kernel_rfl) ?_
    simp only [List.take_succ_cons, List.take_zero, List.drop_succ_cons, List.drop_zero]
    iterate 6 still_step
    refine wpStill_nil ?_
    change wpList _ _ _ _ _ w.drew
    refine wp_appG 47 rfl (.tmp 22) (.tmp 25) rfl _ _ _ rfl rfl (HR.out _ _ _) ?_
    go_wp2_with fail
    go_ret
    exact ⟨rfl, HO.out.1, HO.out.2⟩
end Go.Proofs.Ytbhgbgaeaejnhaa.Typ
/- The program's Close. Conditions: sizes. -/
namespace Go.Proofs.Ytbhgbgaeaejnhaa.Typ
open Go.RowKit Tre
open OwnR (OwnG)
set_option maxRecDepth 100000
set_option linter.unusedSimpArgs false
section
variable {w w' : World} {g : Nat} {mv ov ov2 v : Value} {us : List Value} {LL : List (List Vr)} {L : List Vr} {N : Int} {m m2 : Nat}
theorem PS.closed (h : PS w g mv ov (us ++ [v]) (LL ++ [L]) N m) (hbox : w'.heap[g]? = some (.cells #[mv, ov2, .int .i64 N] 49 (0, 0))) (ho : OwnG 1 slC 77 w' 0 ov2 us) (hm : FM w' mv m2 (fnd LL.flatten))
    (hr : ∀ u ∈ us, ∀ b, u.ownBlock = some b → w'.heap[b]? = w.heap[b]?) : PS w' g mv ov2 us LL N m2 := by
  have hlen : us.length = LL.length := by
    have := h.len
    simp at this
    exact this
  refine ⟨hbox, ho, hlen, fun i u M hu hM => ?_, fun i j u x b hij hu hx => h.apart i j u x b hij ?_ ?_, hm⟩
  · have hlt := (List.getElem?_eq_some_iff.1 hu).1
    have hlt2 := (List.getElem?_eq_some_iff.1 hM).1
    have := h.row i u M (by rw [List.getElem?_append_left hlt]; exact hu) (by rw [List.getElem?_append_left hlt2]; exact hM)
    rw [List.take_append_of_le_length (by omega)] at this
    exact this.keep (hr u (List.mem_of_getElem? hu))
  · rw [List.getElem?_append_left (List.getElem?_eq_some_iff.1 hu).1]
    exact hu
  · rw [List.getElem?_append_left (List.getElem?_eq_some_iff.1 hx).1]
    exact hx
/-- The last row's parts. -/
theorem PS.last (h : PS w g mv ov (us ++ [v]) (LL ++ [L]) N m) : us.length = LL.length ∧ OwnG 4 nmC 81 w 0 v (nms LL.flatten L) := by
  have hlen : us.length = LL.length := by
    have := h.len
    simp at this
    exact this
  refine ⟨hlen, ?_⟩
  have := h.row us.length v L (by simp) (by rw [hlen]; simp)
  rw [hlen, List.take_append_of_le_length (Nat.le_refl _), List.take_length] at this
  exact this
end
theorem nms_at {K L : List Vr} {j : Nat} {x : Vr} (h : L[j]? = some x) : (nms K L)[j]? = some (x.s, fnd K x.s) := by
  unfold nms
  rw [List.getElem?_map, h]
  rfl
theorem nmC_none {s : ByteArray} {w : World} {b o : Nat} (h : ∀ (r : Nat) (u : Value), (nmC (s, none))[r]? = some u → w.cell? ⟨b, o + r, none⟩ = some u) :
    w.cell? ⟨b, o, none⟩ = some (.string s) ∧ w.cell? ⟨b, o + 1, none⟩ = some (.int .u8 0) ∧ w.cell? ⟨b, o + 2, none⟩ = some (.int .i64 0) ∧ w.cell? ⟨b, o + 3, none⟩ = some (.int .i64 0) := ⟨h 0 _ rfl, h 1 _ rfl, h 2 _ rfl, h 3 _ rfl⟩
theorem nmC_some {s : ByteArray} {v : Vr} {w : World} {b o : Nat} (h : ∀ (r : Nat) (u : Value), (nmC (s, some v))[r]? = some u → w.cell? ⟨b, o + r, none⟩ = some u) :
    w.cell? ⟨b, o, none⟩ = some (.string s) ∧ w.cell? ⟨b, o + 1, none⟩ = some (.int .u8 v.t) ∧ w.cell? ⟨b, o + 2, none⟩ = some (.int .i64 v.n) ∧ w.cell? ⟨b, o + 3, none⟩ = some (.int .i64 v.k) := ⟨h 0 _ rfl, h 1 _ rfl, h 2 _ rfl, h 3 _ rfl⟩
set_option maxHeartbeats 4000000 in
theorem pclose_zero {w : World} {g : Nat} {mv ov : Value} {vs : List Value} {N : Int} {m : Nat} (h : PS w g mv ov vs [] N m) :
    Calls Try.prog 21 #[.pointer (some ⟨g, 0, none⟩)] w (fun e w' => e = .returned (.bool false) ∧ w' = w) := by
  have HD := Lib.hid (pdeep_any h)
  clear h
  simp only [List.length_nil] at HD
  go_enter Try.func21, Try.ntmps21
  go_wp2_with fail
  refine HD.out.mono ?_
  rintro e w1 ⟨rfl, rfl⟩
  go_wp2_with fail
  go_ret
  exact ⟨rfl, rfl⟩
/-- What the loop knows. -/
structure CloAt (w : World) (gm m : Nat) (K L : List Vr) (j : Nat) (wr : World) : Prop where
  mh : MH wr gm (m + j) (backF K L j)
  tn : TurnS (fun b => b = gm) w wr
set_option maxHeartbeats 8000000 in
theorem pclose_map {w : World} {g gm : Nat} {ov v : Value} {us : List Value} {LL : List (List Vr)} {L : List Vr} {N : Int} {m : Nat} (h : PS w g (.map (some gm)) ov (us ++ [v]) (LL ++ [L]) N m) (hW : Wf (LL ++ [L]) N) (hl : LL.length ≤ 100000) (hl2 : L.length ≤ 100000) (hm : m ≤ 1000000000) {S : Nat → Prop} (hS : ∀ b, Owns g (.map (some gm)) ov (us ++ [v]) b → S b) :
    Calls Try.prog 21 #[.pointer (some ⟨g, 0, none⟩)] w (PQ w g S LL N (m + L.length) (.bool true)) := by
  have HI := Lib.hid h
  have HD := Lib.hid (pdeep_any h)
  obtain ⟨hlen, hrow⟩ := h.last
  obtain ⟨AO, cO, rfl, hcO, hbO⟩ := h.out.form
  have hv : (us ++ [v])[LL.length]? = some v := by rw [← hlen]; simp
  obtain ⟨bO, oO, rfl, hOc⟩ := (OwnG.row (C := slC) (k := 1) (fun _ => rfl) h.out).at_ (Below.refl _ _) hv
  obtain ⟨bO', hO'⟩ := hbO _ rfl
  injection hO' with hO' hO2
  subst hO' hO2
  have zO := hOc 0 v rfl
  have z1 : w.cell? ⟨g, 1, none⟩ = some (.slice (some ⟨bO, 0, none⟩) (us ++ [v]).length cO) := cell_at h.box 1
  rw [List.length_append, List.length_singleton, hlen] at z1 hcO
  obtain ⟨A, c, rfl, hc, hA⟩ := hrow.form
  obtain ⟨d, hd⟩ : ∃ d, LL.length = d := ⟨_, rfl⟩
  obtain ⟨n, hn⟩ : ∃ n, L.length = n := ⟨_, rfl⟩
  have hnl : (nms LL.flatten L).length = n := by unfold nms; simp [hn]
  have hul : (us ++ [Value.slice A n c]).length = d + 1 := by simp [hlen, hd]
  have hd1 : (((LL ++ [L]).length : Nat) : Int) = (d : Int) + 1 := by simp [hd]
  rw [hnl] at zO hc hrow
  rw [hnl, hul] at HI hS
  rw [hd] at z1 hcO hl
  rw [hd1] at HD
  rw [hn] at hl2
  have zO' : w.cell? ⟨bO, d, none⟩ = some (.slice A n c) := by
    rw [hd] at zO
    simpa using zO
  have H0 : Hid (CloAt w gm m LL.flatten L 0 w) := Lib.hid ⟨by
    rcases h.map with ⟨e, _⟩ | ⟨gm', D, e, h1, h2⟩
    · cases e
    · injection e with e
      injection e with e
      subst e
      rw [backF_zero]
      have e : LL.flatten ++ L = (LL ++ [L]).flatten := by simp
      rw [e]
      exact ⟨D, h1, h2⟩, TurnS.refl _ w⟩
  have HLEN : Hid (us.length = d) := Lib.hid (hlen.trans hd)
  have HROW := Lib.hid hrow
  have HW := Lib.hid hW
  have HS := Lib.hid hS
  have HL := Lib.hid hn
  have HD2 := Lib.hid hd
  have z0 : ∀ wr j, CloAt w gm m LL.flatten L j wr → wr.heap[g]? = some (.cells #[.map (some gm), .slice (some ⟨bO, 0, none⟩) (d + 1) cO, .int .i64 N] 49 (0, 0)) := fun wr j H => (H.tn.block g (HI.out.lt (.inl rfl)) fun e => (HI.out.ne_map rfl).1 e.symm).trans HI.out.box
  have HZ := Lib.hid z0
  clear h hlen hrow hW hS hOc hv zO hnl hul hd1 hn hd z0 hA hbO
  go_enter Try.func21, Try.ntmps21
  go_wp2_with fail
  refine HD.out.mono ?_
  rintro e w1 ⟨rfl, hw1⟩
  obtain rfl : w = w1 := hw1.symm
  have hdl : ((d : Int) < 0) = False := by simp
  go_wp2_with fail
  go_loopw [19] (fun i wr => ∃ j : Nat, j ≤ n ∧ i = .int .i64 j ∧ Hid (CloAt w gm m LL.flatten L j wr)) (fun i _ => n - (intOf i).toNat)
  case atStart => exact ⟨0, Nat.zero_le _, rfl, H0⟩
  case round =>
    obtain ⟨j, hj, rfl, H⟩ := hrel
    have HBOX := Lib.hid (HZ.out _ _ H.out)
    by_cases hlt : j < n
    · obtain ⟨x, hx⟩ : ∃ x, L[j]? = some x := ⟨_, List.getElem?_eq_getElem (by rw [HL.out]; exact hlt)⟩
      have HX := Lib.hid hx
      have hmem : x ∈ (LL ++ [L]).flatten := by simp [List.mem_of_getElem? hx]
      have HSZ := Lib.hid (HW.out.s x hmem)
      have HK : Hid (∀ v, fnd LL.flatten x.s = some v → 1 ≤ v.k) := Lib.hid (fun v e => (HW.out.close.deep (fnd_some e).1).1)
      have hr2 : OwnG 4 nmC 81 wr 0 (.slice A n c) (nms LL.flatten L) := HROW.out.keep fun b e => H.out.tn.block b (HROW.out.lt b e).2 fun e2 => (HI.out.ne_map rfl).2.2 _ (List.mem_append_right _ (List.mem_singleton.2 rfl)) (e2 ▸ e)
      obtain ⟨b1, o1, rfl, hc1⟩ := (OwnG.row nmC_len hr2).at_ (Below.refl _ _) (nms_at hx)
      clear hx hmem hr2
      cases hu : fnd LL.flatten x.s with
      | none =>
        rw [hu] at hc1 HK
        have HUP : Hid (backF LL.flatten L (j + 1) = upF (backF LL.flatten L j) x.s none) := Lib.hid (by rw [backF_succ _ _ _ _ HX.out, hu])
        obtain ⟨p0, p1, p2, p3⟩ := nmC_none hc1
        have bX := ball_new wr #[.string x.s, .int .u8 0, .int .i64 0, .int .i64 0] 81
        have HBX := Lib.hid bX
        have CB := Lib.hid (bring_any ((bX.block g (lt_of_heap HBOX.out)).trans HBOX.out) (H.out.mh.keep (bX.block gm H.out.mh.lt)) x.s HSZ.out (by unfold maxLen; omega) none HK.out)
        clear hc1 hu bX
        unfold nmC varL at CB
        go_wp2_with fail
        refine CB.out.mono ?_
        rintro e1 w3 ⟨rfl, hmh, htn⟩
        have HN : Hid (CloAt w gm m LL.flatten L (j + 1) w3) := Lib.hid ⟨by rw [HUP.out]; exact hmh, (H.out.tn.below HBX.out).then_ htn fun k e => .inl e⟩
        clear hmh htn
        go_wp2_with fail
        go_roundw
        case rel => exact ⟨j + 1, by omega, by go_num, HN⟩
        case measure => simp [intOf]; omega
      | some v =>
        rw [hu] at hc1 HK
        have HUP : Hid (backF LL.flatten L (j + 1) = upF (backF LL.flatten L j) x.s (some v)) := Lib.hid (by rw [backF_succ _ _ _ _ HX.out, hu])
        obtain ⟨p0, p1, p2, p3⟩ := nmC_some hc1
        have bX := ball_new wr #[.string x.s, .int .u8 v.t, .int .i64 v.n, .int .i64 v.k] 81
        have HBX := Lib.hid bX
        have CB := Lib.hid (bring_any ((bX.block g (lt_of_heap HBOX.out)).trans HBOX.out) (H.out.mh.keep (bX.block gm H.out.mh.lt)) x.s HSZ.out (by unfold maxLen; omega) (some v) HK.out)
        clear hc1 hu bX
        unfold nmC varL at CB
        go_wp2_with fail
        refine CB.out.mono ?_
        rintro e1 w3 ⟨rfl, hmh, htn⟩
        have HN : Hid (CloAt w gm m LL.flatten L (j + 1) w3) := Lib.hid ⟨by rw [HUP.out]; exact hmh, (H.out.tn.below HBX.out).then_ htn fun k e => .inl e⟩
        clear hmh htn
        go_wp2_with fail
        go_roundw
        case rel => exact ⟨j + 1, by omega, by go_num, HN⟩
        case measure => simp [intOf]; omega
    · obtain rfl : j = n := by omega
      have hgm := HI.out.ne_map rfl
      have CD := Lib.hid (pdel_any (HI.out.out.keep fun b e => H.out.tn.block b (HI.out.out.lt b e).2 fun e2 => hgm.2.1 (e2 ▸ e)) HLEN.out hcO hl)
      have hgO : g ≠ bO := fun e => (HI.out.ne_out (b := bO) rfl).1 e.symm
      have z1r := cell_at HBOX.out 1
      simp only [List.getElem?_toArray, List.getElem?_cons_zero, List.getElem?_cons_succ] at z1r
      have HGM := Lib.hid hgm
      clear hgm
      go_wp2_with fail
      refine CD.out.mono ?_
      rintro e1 w3 ⟨rfl, ho3, ht3⟩
      have hbox3 := (ht3.block g (lt_of_heap HBOX.out) hgO).trans HBOX.out
      have z3 := cell_at hbox3 1
      have f3 : w3.frozen? ⟨g, 1, none⟩ = false := by simp [World.frozen?, hbox3]
      simp only [List.getElem?_toArray, List.getElem?_cons_zero, List.getElem?_cons_succ] at z3
      have HO3 := Lib.hid ho3
      have HT3 := Lib.hid ht3
      have HB3 := Lib.hid hbox3
      clear ho3 ht3 hbox3 CD
      go_wp2_with fail
      go_ret
      have keepg : ∀ b, b ≠ g → (w3.setCell ⟨g, 1, none⟩ (.slice (some ⟨bO, 0, none⟩) d cO)).heap[b]? = w3.heap[b]? := fun b hne => Below.heap_setCell w3 ⟨g, 1, none⟩ _ b hne
      have old : ∀ b, b < w.heap.size → b ≠ gm → b ≠ bO → b ≠ g → (w3.setCell ⟨g, 1, none⟩ (.slice (some ⟨bO, 0, none⟩) d cO)).heap[b]? = w.heap[b]? := fun b h1 h2 h3 h4 => (keepg b h4).trans ((HT3.out.block b (Nat.lt_of_lt_of_le h1 H.out.tn.size) h3).trans (H.out.tn.block b h1 h2))
      rw [HL.out]
      refine PQ.of HS.out (HI.out.closed (ov2 := .slice (some ⟨bO, 0, none⟩) d cO) (m2 := m + j) ?_ ?_ ?_ ?_) (fun b hb => ?_) ?_
      · exact (setc_at HB3.out _).trans (by rfl)
      · exact HO3.out.keep fun b e => keepg b fun e2 => hgO (by injection e with e; exact (e2.symm.trans e.symm : g = bO))
      · obtain ⟨D, h1, h2⟩ := H.out.mh
        rw [backF_all _ _ _ (Nat.le_of_eq HL.out)] at h2
        have h1' : wr.ownsMap Try.prog 9 R0 gm (m + j) D := h1
        have hlt' := H.out.mh.lt
        obtain ⟨D', h3, h4⟩ := MH.keep (⟨D, h1', h2⟩ : MH wr gm (m + j) (fnd LL.flatten)) ((keepg gm HGM.out.1).trans (HT3.out.block gm hlt' fun e => HGM.out.2.1 (by rw [e]; rfl)))
        exact .inr ⟨gm, D', rfl, h3, h4⟩
      · intro u hu b e
        have hmem : u ∈ us ++ [Value.slice A j c] := List.mem_append_left _ hu
        have hne := HI.out.ne_row hmem e
        exact old b (HI.out.lt (.inr (.inr (.inr ⟨u, hmem, e⟩)))) (fun e2 => hne.2.1 (by rw [e2])) (fun e2 => hne.2.2 (by rw [e2]; rfl)) hne.1
      · refine .inl ?_
        rcases hb with hb | hb | hb | ⟨u, hu, hb⟩
        · exact .inl hb
        · exact .inr (.inl hb)
        · exact .inr (.inr (.inl hb))
        · exact .inr (.inr (.inr ⟨u, List.mem_append_left _ hu, hb⟩))
      · exact (((TurnS.refl S w).then_ H.out.tn fun k e => .inl (HS.out k (.inr (.inl (by rw [e]))))).then_ HT3.out fun k e => .inl (HS.out k (.inr (.inr (.inl (by rw [e]; rfl)))))).set (.inl (HS.out g (.inl rfl))) _ _
set_option maxHeartbeats 8000000 in
theorem pclose_void {w : World} {g : Nat} {ov v : Value} {us : List Value} {LL : List (List Vr)} {L : List Vr} {N : Int} {m : Nat} (h : PS w g (.map none) ov (us ++ [v]) (LL ++ [L]) N m) (hW : Wf (LL ++ [L]) N) (hl : LL.length ≤ 100000) (hl2 : L.length ≤ 100000) {S : Nat → Prop} (hS : ∀ b, Owns g (.map none) ov (us ++ [v]) b → S b) :
    Calls Try.prog 21 #[.pointer (some ⟨g, 0, none⟩)] w (PQ w g S LL N m (.bool true)) := by
  have HI := Lib.hid h
  have HD := Lib.hid (pdeep_any h)
  obtain ⟨hlen, hrow⟩ := h.last
  obtain ⟨AO, cO, rfl, hcO, hbO⟩ := h.out.form
  have hv : (us ++ [v])[LL.length]? = some v := by rw [← hlen]; simp
  obtain ⟨bO, oO, rfl, hOc⟩ := (OwnG.row (C := slC) (k := 1) (fun _ => rfl) h.out).at_ (Below.refl _ _) hv
  obtain ⟨bO', hO'⟩ := hbO _ rfl
  injection hO' with hO' hO2
  subst hO' hO2
  have zO := hOc 0 v rfl
  have z1 : w.cell? ⟨g, 1, none⟩ = some (.slice (some ⟨bO, 0, none⟩) (us ++ [v]).length cO) := cell_at h.box 1
  rw [List.length_append, List.length_singleton, hlen] at z1 hcO
  obtain ⟨A, c, rfl, hc, hA⟩ := hrow.form
  obtain ⟨d, hd⟩ : ∃ d, LL.length = d := ⟨_, rfl⟩
  obtain ⟨n, hn⟩ : ∃ n, L.length = n := ⟨_, rfl⟩
  have hnl : (nms LL.flatten L).length = n := by unfold nms; simp [hn]
  have hul : (us ++ [Value.slice A n c]).length = d + 1 := by simp [hlen, hd]
  have hd1 : (((LL ++ [L]).length : Nat) : Int) = (d : Int) + 1 := by simp [hd]
  rw [hnl] at zO hc hrow
  rw [hnl, hul] at HI hS
  rw [hd] at z1 hcO hl
  rw [hd1] at HD
  rw [hn] at hl2
  have zO' : w.cell? ⟨bO, d, none⟩ = some (.slice A n c) := by
    rw [hd] at zO
    simpa using zO
  have hf : ∀ s, fnd (LL ++ [L]).flatten s = none := by
    rcases h.map with ⟨_, e⟩ | ⟨gm', D, e, _⟩
    · exact e
    · injection e with e
      cases e
  obtain rfl : L = [] := by
    cases L with
    | nil => rfl
    | cons x L => exact absurd rfl (fnd_none (hf x.s) x (by simp))
  obtain rfl : n = 0 := hn.symm
  have HF := Lib.hid hf
  have HLEN : Hid (us.length = d) := Lib.hid (hlen.trans hd)
  have HROW := Lib.hid hrow
  have HW := Lib.hid hW
  have HS := Lib.hid hS
  have HL := Lib.hid hn
  have HD2 := Lib.hid hd
  have HBOX := Lib.hid HI.out.box
  clear h hlen hrow hW hS hOc hv zO hnl hul hd1 hn hd hA hbO hf
  go_enter Try.func21, Try.ntmps21
  go_wp2_with fail
  refine HD.out.mono ?_
  rintro e w1 ⟨rfl, hw1⟩
  obtain rfl : w = w1 := hw1.symm
  have hdl : ((d : Int) < 0) = False := by simp
  go_wp2_with fail
  go_loopw [19] (fun i wr => i = .int .i64 0 ∧ Hid (wr = w)) (fun _ _ => 0)
  case atStart => exact ⟨rfl, Lib.hid rfl⟩
  case round =>
    obtain ⟨rfl, H⟩ := hrel
    obtain rfl : w = wr := H.out.symm
    have CD := Lib.hid (pdel_any HI.out.out HLEN.out hcO hl)
    have hgO : g ≠ bO := fun e => (HI.out.ne_out (b := bO) rfl).1 e.symm
    have z1r := cell_at HBOX.out 1
    simp only [List.getElem?_toArray, List.getElem?_cons_zero, List.getElem?_cons_succ] at z1r
    go_wp2_with fail
    refine CD.out.mono ?_
    rintro e1 w3 ⟨rfl, ho3, ht3⟩
    have hbox3 := (ht3.block g (lt_of_heap HBOX.out) hgO).trans HBOX.out
    have z3 := cell_at hbox3 1
    have f3 : w3.frozen? ⟨g, 1, none⟩ = false := by simp [World.frozen?, hbox3]
    simp only [List.getElem?_toArray, List.getElem?_cons_zero, List.getElem?_cons_succ] at z3
    have HO3 := Lib.hid ho3
    have HT3 := Lib.hid ht3
    have HB3 := Lib.hid hbox3
    clear ho3 ht3 hbox3 CD
    go_wp2_with fail
    go_ret
    have keepg : ∀ b, b ≠ g → (w3.setCell ⟨g, 1, none⟩ (.slice (some ⟨bO, 0, none⟩) d cO)).heap[b]? = w3.heap[b]? := fun b hne => Below.heap_setCell w3 ⟨g, 1, none⟩ _ b hne
    have old : ∀ b, b < w.heap.size → b ≠ bO → b ≠ g → (w3.setCell ⟨g, 1, none⟩ (.slice (some ⟨bO, 0, none⟩) d cO)).heap[b]? = w.heap[b]? := fun b h1 h3 h4 => (keepg b h4).trans (HT3.out.block b h1 h3)
    refine PQ.of HS.out (HI.out.closed (ov2 := .slice (some ⟨bO, 0, none⟩) d cO) (m2 := m) ?_ ?_ ?_ ?_) (fun b hb => ?_) ?_
    · exact (setc_at HB3.out _).trans (by rfl)
    · exact HO3.out.keep fun b e => keepg b fun e2 => hgO (by injection e with e; exact (e2.symm.trans e.symm : g = bO))
    · exact .inl ⟨rfl, fun s => by have := HF.out s; simpa using this⟩
    · intro u hu b e
      have hmem : u ∈ us ++ [Value.slice A 0 c] := List.mem_append_left _ hu
      have hne := HI.out.ne_row hmem e
      exact old b (HI.out.lt (.inr (.inr (.inr ⟨u, hmem, e⟩)))) (fun e2 => hne.2.2 (by rw [e2]; rfl)) hne.1
    · refine .inl ?_
      rcases hb with hb | hb | hb | ⟨u, hu, hb⟩
      · exact .inl hb
      · exact .inr (.inl hb)
      · exact .inr (.inr (.inl hb))
      · exact .inr (.inr (.inr ⟨u, List.mem_append_left _ hu, hb⟩))
    · exact ((TurnS.refl S _).then_ HT3.out fun k e => .inl (HS.out k (.inr (.inr (.inl (by rw [e]; rfl)))))).set (.inl (HS.out g (.inl rfl))) _ _
theorem pclose_any {w : World} {g : Nat} {mv ov : Value} {vs : List Value} {LL : List (List Vr)} {L : List Vr} {N : Int} {m : Nat} (h : PS w g mv ov vs (LL ++ [L]) N m) (hW : Wf (LL ++ [L]) N) (hl : LL.length ≤ 100000) (hl2 : L.length ≤ 100000) (hm : m ≤ 1000000000) {S : Nat → Prop} (hS : ∀ b, Owns g mv ov vs b → S b) :
    Calls Try.prog 21 #[.pointer (some ⟨g, 0, none⟩)] w (PQ w g S LL N (m + L.length) (.bool true)) := by
  obtain ⟨us, v, rfl⟩ : ∃ us v, vs = us ++ [v] := by
    have := h.len
    simp at this
    exact ⟨vs.dropLast, vs.getLast (by intro e; simp [e] at this), (List.dropLast_concat_getLast _).symm⟩
  rcases h.map with ⟨rfl, hf⟩ | ⟨gm, D, rfl, _⟩
  · refine (pclose_void h hW hl hl2 hS).mono ?_
    rintro e w' ⟨h1, ⟨mv, ov, vs, h2, h3⟩, h4⟩
    exact ⟨h1, ⟨mv, ov, vs, ⟨h2.box, h2.out, h2.len, h2.row, h2.apart, h2.map.mono (Nat.le_add_right _ _)⟩, h3⟩, h4⟩
  · exact pclose_map h hW hl hl2 hm hS
end Go.Proofs.Ytbhgbgaeaejnhaa.Typ
