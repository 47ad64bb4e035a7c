/-
  Texts RPlay, in one file. What each proves, and its conditions, stand at its head below.
-/
import Derived.Test.YtdjhlhellkajfaaGreatM39
import Derived.Test.YtdjhlhellkajfaaGreatM41
import Derived.Deep.DeepCutAuto
import Derived.Deep.CutBlock
/-
  The walk of the statement on plays: whatever is appended, reset and crashed, each answer, all groups, and each sector are the document's. Conditions: the acts lie where they came in.
-/
namespace Go.Proofs.YtdjhlhellkajfaaGreat.Jou
open Go.RowKit Codec FrameM Cod JourM
open Disk (Turn Dk Dsk ptr Now Made Nums fresh)
set_option maxRecDepth 100000
def DL (w wr : World) (N g gs gm r bs bw : Nat) : Prop := ∃ d S, Dk wr g gs gm d ∧ Rk wr S r bs bw d ∧ d.n = N ∧ Below w.heap.size w wr
set_option maxHeartbeats 4000000 in
theorem plays_any (w : World) (s : Int) (n c : Nat) (A : Option Addr) (hacts : Acts w w.heap.size A n) (hn : n ≤ maxLen) :
    Calls Tryz.prog 3 #[.int .i64 s, .slice A n c] w (EndsBelow (.bool true) w) := by
  obtain ⟨X, bb, oo, hX⟩ := hacts.fn
  have HX := Lib.hid hX
  have HLI := Lib.hid (light_any w w.heap.size n c A X bb oo hX hn (Nat.le_refl _))
  have HK := Lib.hid (fun u => knows_any u)
  have hni : (n : Int) ≤ 9223372036854775 * 1024 := by unfold maxLen at hn; omega
  have HNI := Lib.hid hni
  clear hacts hX hn hni
  rcases (show (200 < s ∧ s ≤ 65536) ∨ s < 1 ∨ 65536 < s ∨ (1 ≤ s ∧ s ≤ 200) by omega) with ⟨h1, h2⟩ | h1 | h1 | ⟨h1, h2⟩
  · go_enter Tryz.func3, Tryz.ntmps3
    go_wp2_with fail
    refine (HK.out _).mono ?_
    rintro e w1 ⟨rfl, hb⟩
    have HB := Lib.hid hb
    clear hb
    go_wp2_with fail
    go_ret
    exact ⟨rfl, HB.out⟩
  · have h200 : ¬ 200 < s := by omega
    go_enter Tryz.func3, Tryz.ntmps3
    go_wp2_with fail
    refine HLI.out.mono ?_
    rintro e w0 ⟨h0, L, rfl, hL⟩
    replace h0 := h0.symm
    subst h0
    have HL := Lib.hid hL
    clear hL HLI
    cases L with
    | false =>
      go_wp2_with fail
      refine (HK.out _).mono ?_
      rintro e w1 ⟨rfl, hb⟩
      have HB := Lib.hid hb
      clear hb
      go_wp2_with fail
      go_ret
      exact ⟨rfl, HB.out⟩
    | true =>
      go_wp2_with fail
      refine (HK.out _).mono ?_
      rintro e w1 ⟨rfl, hb⟩
      have HB1 := Lib.hid hb
      clear hb
      have HN := Lib.hid (new_no w1 s (by omega))
      have HRN := Lib.hid (rnew_no w1 s (by omega))
      go_wp2_with fail
      refine HN.out.mono ?_
      rintro e u ⟨rfl, rfl⟩
      go_wp2_with fail
      refine HRN.out.mono ?_
      rintro e u ⟨rfl, rfl⟩
      go_wp2_with (first
  | (go_at_call 12; refine (num_any _ _).mono ?_; rintro e u ⟨rfl, rfl⟩))
      go_ret
      exact ⟨rfl, HB1.out⟩
  · have h200 : 200 < s := by omega
    have h65 : ¬ s ≤ 65536 := by omega
    go_enter Tryz.func3, Tryz.ntmps3
    go_wp2_with fail
    refine HLI.out.mono ?_
    rintro e w0 ⟨h0, L, rfl, hL⟩
    replace h0 := h0.symm
    subst h0
    have HL := Lib.hid hL
    clear hL HLI
    cases L with
    | false =>
      go_wp2_with fail
      refine (HK.out _).mono ?_
      rintro e w1 ⟨rfl, hb⟩
      have HB := Lib.hid hb
      clear hb
      go_wp2_with fail
      go_ret
      exact ⟨rfl, HB.out⟩
    | true =>
      go_wp2_with fail
      refine (HK.out _).mono ?_
      rintro e w1 ⟨rfl, hb⟩
      have HB1 := Lib.hid hb
      clear hb
      have HN := Lib.hid (new_no w1 s (by omega))
      have HRN := Lib.hid (rnew_no w1 s (by omega))
      go_wp2_with fail
      refine HN.out.mono ?_
      rintro e u ⟨rfl, rfl⟩
      go_wp2_with fail
      refine HRN.out.mono ?_
      rintro e u ⟨rfl, rfl⟩
      go_wp2_with (first
  | (go_at_call 12; refine (num_any _ _).mono ?_; rintro e u ⟨rfl, rfl⟩))
      go_ret
      exact ⟨rfl, HB1.out⟩
  · have h200 : ¬ 200 < s := by omega
    go_enter Tryz.func3, Tryz.ntmps3
    go_wp2_with fail
    refine HLI.out.mono ?_
    rintro e w0 ⟨h0, L, rfl, hL⟩
    replace h0 := h0.symm
    subst h0
    have HL := Lib.hid hL
    clear hL HLI
    cases L with
    | false =>
      go_wp2_with fail
      refine (HK.out _).mono ?_
      rintro e w1 ⟨rfl, hb⟩
      have HB := Lib.hid hb
      clear hb
      go_wp2_with fail
      go_ret
      exact ⟨rfl, HB.out⟩
    | true =>
      go_wp2_with fail
      refine (HK.out _).mono ?_
      rintro e w1 ⟨rfl, hb⟩
      have HB1 := Lib.hid hb
      clear hb
      obtain ⟨N, rfl⟩ : ∃ N : Nat, s = (N : Int) := ⟨s.toNat, by omega⟩
      have HN := Lib.hid (Disk.new_disk w1 N (by omega) (by omega))
      go_wp2_with fail
      refine HN.out.mono ?_
      rintro e w2 ⟨g, gs, gm, rfl, hdk, ht, g1, g2, g3⟩
      have HB2 := Lib.hid (HB1.out.trans (ht.low (base := w.heap.size) (by simp) HB1.out.size))
      have HG : Hid (w.heap.size ≤ g ∧ w.heap.size ≤ gs ∧ w.heap.size ≤ gm) := Lib.hid (by have := HB1.out.size; omega)
      have HDK0 := Lib.hid hdk
      have HRN := Lib.hid (rnew_any w2 N (by omega) (by omega))
      clear hdk ht g1 g2 g3 HN HB1
      unfold ptr at *
      go_wp2_with fail
      refine HRN.out.mono ?_
      rintro e w3 ⟨r, bs, bw, rfl, hrk, hb3, hr3⟩
      have HRG : Hid (w.heap.size ≤ r ∧ w.heap.size ≤ bs ∧ w.heap.size ≤ bw) := Lib.hid (by have := HB2.out.size; have q1 := hr3 r (by simp); have q2 := hr3 bs (by simp); have q3 := hr3 bw (by simp); omega)
      have HRK : Hid (Rk w3 [g, gs, gm] r bs bw (fresh N)) := Lib.hid (hrk [g, gs, gm] (Dk.lows HDK0.out))
      have HDK : Hid (Dk w3 g gs gm (fresh N)) := Lib.hid (Dk.below HDK0.out hb3)
      have HB3 : Hid (Below w.heap.size w w3) := Lib.hid (HB2.out.trans (hb3.mono HB2.out.size))
      have hN : (N : Int) ≤ 200 := by omega
      clear hrk hb3 hr3 HRN HDK0 HB2
      unfold ptr at *
      by_cases h8 : 8 ≤ N
      · have HFO := Lib.hid (fresh_open N h8 (by omega))
        have HFN := Lib.hid (fresh_newest N h8)
        have HO := Lib.hid (open_new w3 g gs gm (fresh N) HDK.out h8 rfl HFN.out)
        unfold ptr at HO
        go_wp2_with (first
  | (go_at_call 12; refine (num_any _ _).mono ?_; rintro e u ⟨rfl, rfl⟩))
        refine HO.out.mono fun e w4 hx => ?_
        clear HO
        replace hx := hx.resolve_right fun hh => by have := HFO.out.1; rw [hh.1] at this; cases this
        obtain ⟨_, lo, j, v, rfl, hj, ht, hlj⟩ := hx
        have HJ4 := Lib.hid hj
        have HB4 := Lib.hid (low_turn HB3.out ht (by have := HG.out; intro q hq; simp at hq; omega))
        have HLJ : Hid (w.heap.size ≤ j) := Lib.hid (Nat.le_trans HB3.out.size hlj)
        have HRK4 : Hid (Rk w4 (Own j g gs gm v) r bs bw (fresh N)) := Lib.hid (HRK.out.prog ht (fun k hk => hk) (hj.new_own hlj (fun k hk => hk)))
        have HO2 := Lib.hid (ropen_any w4 (Own j g gs gm v) r bs bw (fresh N) HRK4.out hj.own_lt h8 rfl (by rw [HFN.out]; omega))
        clear hj ht hlj
        unfold ptr at *
        go_wp2_with fail
        refine HO2.out.mono fun e w5 hx => ?_
        clear HO2
        replace hx := hx.resolve_right fun hh => by have := HFO.out.1; rw [hh.1] at this; cases this
        obtain ⟨_, y, rfl, hrj, ht5, hy⟩ := hx
        have HLP : Hid (PL w w5 N g gs gm r bs bw 1 (.pointer (some ⟨j, 0, none⟩)) (.pointer (some ⟨y, 0, none⟩))) := Lib.hid ⟨lo, j, y, _, _, v, rfl, rfl, ⟨HJ4.out.docd HRK4.out (fun k hk => hk) ht5, hrj, low_open ((low_fresh N).mono (by omega)) (by omega), openJ_gen ((low_fresh N).mono (by omega)) (by show 2 ≤ N; omega) (by omega), openD_n _⟩, HLJ.out, Nat.le_trans HB4.out.size hy, low_turn HB4.out ht5 (by have := HRG.out; intro q hq; simp at hq; omega)⟩
        clear hrj ht5 hy HJ4 HRK4 HB4 HLJ HRK HDK HB3 HFO HFN
        unfold ptr at *
        go_wp2_with (first
  | (go_at_call 12; refine (num_any _ _).mono ?_; rintro e u ⟨rfl, rfl⟩))
        have hn60 : (n : Int) ≤ 60 := by have := (HL.out trivial).1; omega
        go_loopw [9, 10, 11] (fun px py i wr => ∃ k : Nat, k ≤ n ∧ i = .int .i64 k ∧ PL w wr N g gs gm r bs bw (1 + k) px py) (fun _ _ i _ => n - (Go.RowKit.intOf i).toNat)
        case atStart => exact ⟨0, by omega, rfl, HLP.out⟩
        case round =>
          obtain ⟨k, hk, rfl, hl⟩ := hrel
          clear HLP
          obtain ⟨lo, j, y, d, jr, v, rfl, rfl, hbo, hlj, hly, hbel⟩ := hl
          by_cases hlt : k < n
          · obtain ⟨hidx0, hin⟩ := HX.out k hlt
            have hidx := fun w' => hidx0 c w'
            clear hidx0
            have hk60 : (k : Int) < 60 := by omega
            have HK60 : Hid (k < 60) := Lib.hid (by omega)
            obtain ⟨z, hz⟩ : ∃ z, X k = z := ⟨_, rfl⟩
            rw [hz] at hin
            have HNL : Hid (z.nl ≤ 10) := Lib.hid (by rw [← hz]; exact (HL.out trivial).2 k hlt)
            clear hz
            have HIN := Lib.hid hin
            clear hin
            have HA := Lib.hid (HIN.out.below hbel)
            have k0 := HA.out.c0
            have k1 := HA.out.c1
            have k2 := HA.out.c2
            have k3 := HA.out.c3
            have k4 := HA.out.c4
            have HBO0 := Lib.hid hbo
            have HLJ := Lib.hid hlj
            have HLY := Lib.hid hly
            have HBEL := Lib.hid hbel
            clear hbo hlj hly hbel HA
            obtain ⟨kd, hkd⟩ : ∃ q, z.kind = q := ⟨_, rfl⟩
            rw [hkd] at k0
            have HKD := Lib.hid hkd
            clear hkd
            go_upto_block 2 with fail
            go_cut [9, 10, 12] (fun px py ok wc => ok = .bool true ∧ PL w wc N g gs gm r bs bw (2 + k) px py)
            case first =>
              rcases (show kd = 0 ∨ kd = 1 ∨ kd = 2 ∨ kd = 3 ∨ kd = 4 ∨ kd = 5 ∨ (kd ≠ 0 ∧ kd ≠ 1 ∧ kd ≠ 2 ∧ kd ≠ 3 ∧ kd ≠ 4 ∧ kd ≠ 5) by omega) with h0 | h0 | h0 | h0 | h0 | h0 | h0
              · as_aux_lemma =>
                  subst h0
                  go_upto_region 18 with fail
                  have HS : Hid (wr.drew.cell? ⟨bb k, oo k + 2, none⟩ = some (.slice z.Ab z.bs.length z.cb)) := Lib.hid k2
                  have HBO := Lib.hid (HBO0.out.below (Below.refl wr.heap.size wr).drew)
                  have HBL := Lib.hid HBEL.out.drew
                  clear HBO0 HBEL k1 k2 k3 k4
                  refine Frm.wh_start (fun u => u.cell? ⟨bb k, oo k + 2, none⟩ = some (.slice z.Ab z.bs.length z.cb)) (by kernel_rfl) ?_
                  generalize wr.drew = u0 at *
                  have HRS := Lib.hid (append_any u0 lo j g gs gm d jr v z.bs.length z.cb z.Ab z.bs HBO.out.prog (Bts.of_byts (HIN.out.below HBL.out).byts HBL.out.size (by have := HG.out; have := HLJ.out; intro q hq; simp at hq; omega)) HIN.out.bc HIN.out.bm)
                  unfold ptr at HRS
                  refine Frm.wh_take 0 98 (.pointer (some ⟨j, 0, none⟩)) rfl rfl (by kernel_rfl) (fun _ _ _ h => h) rfl (HS.out) (fun w' hw' => ?_) ?_
                  · exact rfl
                  go_frame
                  refine Frm.wh_take 1 99 (.slice A n c) rfl rfl (by kernel_rfl) (fun _ _ _ h => h) rfl (HS.out) (fun w' hw' => ?_) ?_
                  · exact rfl
                  go_frame
                  refine Frm.wh_take 2 100 (.int .i64 k) rfl rfl (by kernel_rfl) (fun _ _ _ h => h) rfl (HS.out) (fun w' hw' => ?_) ?_
                  · exact rfl
                  go_frame
                  refine Frm.wh_take 3 101 (.pointer (some ⟨bb k, oo k, none⟩)) rfl rfl (by kernel_rfl) (fun _ _ _ h => h) rfl (HS.out) (fun w' hw' => ?_) ?_
                  · go_simp
                  go_frame
                  refine Frm.wh_take 4 102 (.pointer (some ⟨bb k, oo k + 2, none⟩)) rfl rfl (by kernel_rfl) (fun _ _ _ h => h) rfl (HS.out) (fun w' hw' => ?_) ?_
                  · go_simp
                  go_frame
                  refine Frm.wh_take 5 103 (.slice z.Ab z.bs.length z.cb) rfl rfl (by kernel_rfl) (fun _ _ _ h => h) rfl (HS.out) (fun w' hw' => ?_) ?_
                  · go_simp
                  go_frame
                  refine Frm.wh_take 8 106 (.pointer (some ⟨y, 0, none⟩)) rfl rfl (by kernel_rfl) (fun _ _ _ h => h) rfl (HS.out) (fun w' hw' => ?_) ?_
                  · exact rfl
                  go_frame
                  refine Frm.wh_take 9 107 (.slice A n c) rfl rfl (by kernel_rfl) (fun _ _ _ h => h) rfl (HS.out) (fun w' hw' => ?_) ?_
                  · exact rfl
                  go_frame
                  refine Frm.wh_take 10 108 (.int .i64 k) rfl rfl (by kernel_rfl) (fun _ _ _ h => h) rfl (HS.out) (fun w' hw' => ?_) ?_
                  · exact rfl
                  go_frame
                  refine Frm.wh_take 11 109 (.pointer (some ⟨bb k, oo k, none⟩)) rfl rfl (by kernel_rfl) (fun _ _ _ h => h) rfl (HS.out) (fun w' hw' => ?_) ?_
                  · go_simp
                  go_frame
                  refine Frm.wh_take 12 110 (.pointer (some ⟨bb k, oo k + 2, none⟩)) rfl rfl (by kernel_rfl) (fun _ _ _ h => h) rfl (HS.out) (fun w' hw' => ?_) ?_
                  · go_simp
                  go_frame
                  refine Frm.wh_take 13 111 (.slice z.Ab z.bs.length z.cb) rfl rfl (by kernel_rfl) (fun _ _ _ h => h) rfl (HS.out) (fun w' hw' => ?_) ?_
                  · go_simp
                  go_frame
                  refine Frm.wh_call 6 104 15 #[.pointer (some ⟨j, 0, none⟩), .slice z.Ab z.bs.length z.cb] rfl rfl (by kernel_rfl) rfl ?_ ?_
                  · go_simp
                  refine (HRS.out).mono ?_
                  rintro e w1 ⟨rfl, v1, hj1, ht1, hv1⟩
                  have HD1 : Hid (RJ w1 (Own j g gs gm v1) y r bs bw d jr) := Lib.hid (HBO.out.doc.prog ht1 hv1)
                  have HB1 := Lib.hid (low_turn HBL.out ht1 (HBO.out.prog.owns_low HLJ.out HG.out))
                  have HJ1 := Lib.hid hj1
                  have HS1 := Lib.hid (HIN.out.below HB1.out).c2
                  clear HS
                  have HS := HS1
                  clear HS1
                  clear hj1 ht1 hv1 HRS
                  have HRD := Lib.hid (rjappend_any w1 (Own j g gs gm v1) y r bs bw d jr z.bs.length z.cb z.Ab z.bs HD1.out HJ1.out.own_lt (Bts.of_byts (HIN.out.below HB1.out).byts HB1.out.size (by have := HRG.out; have := HLY.out; intro q hq; simp at hq; omega)))
                  unfold ptr at HRD
                  refine ⟨_, rfl, HS.out, ?_⟩
                  go_frame
                  refine Frm.wh_call 7 105 12 #[.int .i64 (appE d jr z.bs)] rfl rfl (by kernel_rfl) rfl ?_ ?_
                  · go_simp
                  refine (num_any _ _).mono ?_
                  rintro e u ⟨rfl, rfl⟩
                  refine ⟨_, rfl, HS.out, ?_⟩
                  go_frame
                  refine Frm.wh_call 14 112 16 #[.pointer (some ⟨y, 0, none⟩), .slice z.Ab z.bs.length z.cb] rfl rfl (by kernel_rfl) rfl ?_ ?_
                  · go_simp
                  refine (HRD.out).mono ?_
                  rintro e w2 ⟨rfl, hd2, ht2⟩
                  have HJ2 := Lib.hid (HJ1.out.docs HD1.out ht2)
                  have HD2 := Lib.hid hd2
                  have HB2 := Lib.hid (low_turn HB1.out ht2 (by have := HRG.out; have := HLY.out; intro q hq; simp at hq; omega))
                  have HS1 := Lib.hid (HIN.out.below HB2.out).c2
                  clear HS
                  have HS := HS1
                  clear HS1
                  clear hd2 ht2 HRD HD1 HJ1 HB1
                  refine ⟨_, rfl, HS.out, ?_⟩
                  go_frame
                  refine Frm.wh_call 15 113 12 #[.int .i64 (appE d jr z.bs)] rfl rfl (by kernel_rfl) rfl ?_ ?_
                  · go_simp
                  refine (num_any _ _).mono ?_
                  rintro e u ⟨rfl, rfl⟩
                  refine ⟨_, rfl, HS.out, ?_⟩
                  go_frame
                  refine Frm.wh_take 16 114 (.bool true) rfl rfl (by kernel_rfl) (fun _ _ _ h => h) rfl (HS.out) (fun w' hw' => ?_) ?_
                  · go_simp
                  go_frame
                  refine Frm.wh_take 17 12 (.bool true) rfl rfl (by kernel_rfl) (fun _ _ _ h => h) rfl (HS.out) (fun w' hw' => ?_) ?_
                  · exact rfl
                  go_frame
                  refine wpAnyH_done (by kernel_rfl) ?_ _
                  go_wp2_with fail
                  go_meet
                  exact ⟨rfl, lo, j, y, _, _, v1, rfl, rfl, ⟨HJ2.out, HD2.out, (low_app HBO.out.low).mono (by omega), by rw [appJ_gen]; have := HBO.out.gen; omega, by rw [appD_n]; exact HBO.out.n_⟩, HLJ.out, HLY.out, HB2.out⟩
              · as_aux_lemma =>
                  subst h0
                  go_upto_region 18 with fail
                  have HS : Hid (wr.drew.cell? ⟨bb k, oo k + 2, none⟩ = some (.slice z.Ab z.bs.length z.cb)) := Lib.hid k2
                  have HBO := Lib.hid (HBO0.out.below (Below.refl wr.heap.size wr).drew)
                  have HBL := Lib.hid HBEL.out.drew
                  clear HBO0 HBEL k1 k2 k3 k4
                  refine Frm.wh_start (fun u => u.cell? ⟨bb k, oo k + 2, none⟩ = some (.slice z.Ab z.bs.length z.cb)) (by kernel_rfl) ?_
                  generalize wr.drew = u0 at *
                  have HRS := Lib.hid (append_any u0 lo j g gs gm d jr v z.bs.length z.cb z.Ab z.bs HBO.out.prog (Bts.of_byts (HIN.out.below HBL.out).byts HBL.out.size (by have := HG.out; have := HLJ.out; intro q hq; simp at hq; omega)) HIN.out.bc HIN.out.bm)
                  unfold ptr at HRS
                  refine Frm.wh_take 0 98 (.pointer (some ⟨j, 0, none⟩)) rfl rfl (by kernel_rfl) (fun _ _ _ h => h) rfl (HS.out) (fun w' hw' => ?_) ?_
                  · exact rfl
                  go_frame
                  refine Frm.wh_take 1 99 (.slice A n c) rfl rfl (by kernel_rfl) (fun _ _ _ h => h) rfl (HS.out) (fun w' hw' => ?_) ?_
                  · exact rfl
                  go_frame
                  refine Frm.wh_take 2 100 (.int .i64 k) rfl rfl (by kernel_rfl) (fun _ _ _ h => h) rfl (HS.out) (fun w' hw' => ?_) ?_
                  · exact rfl
                  go_frame
                  refine Frm.wh_take 3 101 (.pointer (some ⟨bb k, oo k, none⟩)) rfl rfl (by kernel_rfl) (fun _ _ _ h => h) rfl (HS.out) (fun w' hw' => ?_) ?_
                  · go_simp
                  go_frame
                  refine Frm.wh_take 4 102 (.pointer (some ⟨bb k, oo k + 2, none⟩)) rfl rfl (by kernel_rfl) (fun _ _ _ h => h) rfl (HS.out) (fun w' hw' => ?_) ?_
                  · go_simp
                  go_frame
                  refine Frm.wh_take 5 103 (.slice z.Ab z.bs.length z.cb) rfl rfl (by kernel_rfl) (fun _ _ _ h => h) rfl (HS.out) (fun w' hw' => ?_) ?_
                  · go_simp
                  go_frame
                  refine Frm.wh_take 8 106 (.pointer (some ⟨y, 0, none⟩)) rfl rfl (by kernel_rfl) (fun _ _ _ h => h) rfl (HS.out) (fun w' hw' => ?_) ?_
                  · exact rfl
                  go_frame
                  refine Frm.wh_take 9 107 (.slice A n c) rfl rfl (by kernel_rfl) (fun _ _ _ h => h) rfl (HS.out) (fun w' hw' => ?_) ?_
                  · exact rfl
                  go_frame
                  refine Frm.wh_take 10 108 (.int .i64 k) rfl rfl (by kernel_rfl) (fun _ _ _ h => h) rfl (HS.out) (fun w' hw' => ?_) ?_
                  · exact rfl
                  go_frame
                  refine Frm.wh_take 11 109 (.pointer (some ⟨bb k, oo k, none⟩)) rfl rfl (by kernel_rfl) (fun _ _ _ h => h) rfl (HS.out) (fun w' hw' => ?_) ?_
                  · go_simp
                  go_frame
                  refine Frm.wh_take 12 110 (.pointer (some ⟨bb k, oo k + 2, none⟩)) rfl rfl (by kernel_rfl) (fun _ _ _ h => h) rfl (HS.out) (fun w' hw' => ?_) ?_
                  · go_simp
                  go_frame
                  refine Frm.wh_take 13 111 (.slice z.Ab z.bs.length z.cb) rfl rfl (by kernel_rfl) (fun _ _ _ h => h) rfl (HS.out) (fun w' hw' => ?_) ?_
                  · go_simp
                  go_frame
                  refine Frm.wh_call 6 104 15 #[.pointer (some ⟨j, 0, none⟩), .slice z.Ab z.bs.length z.cb] rfl rfl (by kernel_rfl) rfl ?_ ?_
                  · go_simp
                  refine (HRS.out).mono ?_
                  rintro e w1 ⟨rfl, v1, hj1, ht1, hv1⟩
                  have HD1 : Hid (RJ w1 (Own j g gs gm v1) y r bs bw d jr) := Lib.hid (HBO.out.doc.prog ht1 hv1)
                  have HB1 := Lib.hid (low_turn HBL.out ht1 (HBO.out.prog.owns_low HLJ.out HG.out))
                  have HJ1 := Lib.hid hj1
                  have HS1 := Lib.hid (HIN.out.below HB1.out).c2
                  clear HS
                  have HS := HS1
                  clear HS1
                  clear hj1 ht1 hv1 HRS
                  have HRD := Lib.hid (rjappend_any w1 (Own j g gs gm v1) y r bs bw d jr z.bs.length z.cb z.Ab z.bs HD1.out HJ1.out.own_lt (Bts.of_byts (HIN.out.below HB1.out).byts HB1.out.size (by have := HRG.out; have := HLY.out; intro q hq; simp at hq; omega)))
                  unfold ptr at HRD
                  refine ⟨_, rfl, HS.out, ?_⟩
                  go_frame
                  refine Frm.wh_call 7 105 12 #[.int .i64 (appE d jr z.bs)] rfl rfl (by kernel_rfl) rfl ?_ ?_
                  · go_simp
                  refine (num_any _ _).mono ?_
                  rintro e u ⟨rfl, rfl⟩
                  refine ⟨_, rfl, HS.out, ?_⟩
                  go_frame
                  refine Frm.wh_call 14 112 16 #[.pointer (some ⟨y, 0, none⟩), .slice z.Ab z.bs.length z.cb] rfl rfl (by kernel_rfl) rfl ?_ ?_
                  · go_simp
                  refine (HRD.out).mono ?_
                  rintro e w2 ⟨rfl, hd2, ht2⟩
                  have HJ2 := Lib.hid (HJ1.out.docs HD1.out ht2)
                  have HD2 := Lib.hid hd2
                  have HB2 := Lib.hid (low_turn HB1.out ht2 (by have := HRG.out; have := HLY.out; intro q hq; simp at hq; omega))
                  have HS1 := Lib.hid (HIN.out.below HB2.out).c2
                  clear HS
                  have HS := HS1
                  clear HS1
                  clear hd2 ht2 HRD HD1 HJ1 HB1
                  refine ⟨_, rfl, HS.out, ?_⟩
                  go_frame
                  refine Frm.wh_call 15 113 12 #[.int .i64 (appE d jr z.bs)] rfl rfl (by kernel_rfl) rfl ?_ ?_
                  · go_simp
                  refine (num_any _ _).mono ?_
                  rintro e u ⟨rfl, rfl⟩
                  refine ⟨_, rfl, HS.out, ?_⟩
                  go_frame
                  refine Frm.wh_take 16 114 (.bool true) rfl rfl (by kernel_rfl) (fun _ _ _ h => h) rfl (HS.out) (fun w' hw' => ?_) ?_
                  · go_simp
                  go_frame
                  refine Frm.wh_take 17 12 (.bool true) rfl rfl (by kernel_rfl) (fun _ _ _ h => h) rfl (HS.out) (fun w' hw' => ?_) ?_
                  · exact rfl
                  go_frame
                  refine wpAnyH_done (by kernel_rfl) ?_ _
                  go_wp2_with fail
                  go_meet
                  exact ⟨rfl, lo, j, y, _, _, v1, rfl, rfl, ⟨HJ2.out, HD2.out, (low_app HBO.out.low).mono (by omega), by rw [appJ_gen]; have := HBO.out.gen; omega, by rw [appD_n]; exact HBO.out.n_⟩, HLJ.out, HLY.out, HB2.out⟩
              · as_aux_lemma =>
                  subst h0
                  go_upto_region 20 with fail
                  have HS : Hid (wr.drew.cell? ⟨bb k, oo k + 3, none⟩ = some (.slice z.Al z.nl z.cl)) := Lib.hid k3
                  have HBO := Lib.hid (HBO0.out.below (Below.refl wr.heap.size wr).drew)
                  have HBL := Lib.hid HBEL.out.drew
                  clear HBO0 HBEL k1 k2 k3 k4
                  refine Frm.wh_start (fun u => u.cell? ⟨bb k, oo k + 3, none⟩ = some (.slice z.Al z.nl z.cl)) (by kernel_rfl) ?_
                  generalize wr.drew = u0 at *
                  have HRS := Lib.hid (reset_any u0 lo j g gs gm d jr v z.nl z.cl z.Al z.ls HBO.out.prog (RowsB.of_rows (HIN.out.below HBL.out).rows HBL.out.size (by have := HG.out; have := HLJ.out; intro q hq; simp at hq; omega)) (by have := HNL.out; omega) (by have := HBO.out.gen; have := HK60.out; omega))
                  unfold ptr at HRS
                  refine Frm.wh_take 0 117 (.pointer (some ⟨j, 0, none⟩)) rfl rfl (by kernel_rfl) (fun _ _ _ h => h) rfl (HS.out) (fun w' hw' => ?_) ?_
                  · exact rfl
                  go_frame
                  refine Frm.wh_take 1 118 (.slice A n c) rfl rfl (by kernel_rfl) (fun _ _ _ h => h) rfl (HS.out) (fun w' hw' => ?_) ?_
                  · exact rfl
                  go_frame
                  refine Frm.wh_take 2 119 (.int .i64 k) rfl rfl (by kernel_rfl) (fun _ _ _ h => h) rfl (HS.out) (fun w' hw' => ?_) ?_
                  · exact rfl
                  go_frame
                  refine Frm.wh_take 3 120 (.pointer (some ⟨bb k, oo k, none⟩)) rfl rfl (by kernel_rfl) (fun _ _ _ h => h) rfl (HS.out) (fun w' hw' => ?_) ?_
                  · go_simp
                  go_frame
                  refine Frm.wh_take 4 121 (.pointer (some ⟨bb k, oo k + 3, none⟩)) rfl rfl (by kernel_rfl) (fun _ _ _ h => h) rfl (HS.out) (fun w' hw' => ?_) ?_
                  · go_simp
                  go_frame
                  refine Frm.wh_take 5 122 (.slice z.Al z.nl z.cl) rfl rfl (by kernel_rfl) (fun _ _ _ h => h) rfl (HS.out) (fun w' hw' => ?_) ?_
                  · go_simp
                  go_frame
                  refine Frm.wh_take 8 125 (.pointer (some ⟨y, 0, none⟩)) rfl rfl (by kernel_rfl) (fun _ _ _ h => h) rfl (HS.out) (fun w' hw' => ?_) ?_
                  · exact rfl
                  go_frame
                  refine Frm.wh_take 9 126 (.slice A n c) rfl rfl (by kernel_rfl) (fun _ _ _ h => h) rfl (HS.out) (fun w' hw' => ?_) ?_
                  · exact rfl
                  go_frame
                  refine Frm.wh_take 10 127 (.int .i64 k) rfl rfl (by kernel_rfl) (fun _ _ _ h => h) rfl (HS.out) (fun w' hw' => ?_) ?_
                  · exact rfl
                  go_frame
                  refine Frm.wh_take 11 128 (.pointer (some ⟨bb k, oo k, none⟩)) rfl rfl (by kernel_rfl) (fun _ _ _ h => h) rfl (HS.out) (fun w' hw' => ?_) ?_
                  · go_simp
                  go_frame
                  refine Frm.wh_take 12 129 (.pointer (some ⟨bb k, oo k + 3, none⟩)) rfl rfl (by kernel_rfl) (fun _ _ _ h => h) rfl (HS.out) (fun w' hw' => ?_) ?_
                  · go_simp
                  go_frame
                  refine Frm.wh_take 13 130 (.slice z.Al z.nl z.cl) rfl rfl (by kernel_rfl) (fun _ _ _ h => h) rfl (HS.out) (fun w' hw' => ?_) ?_
                  · go_simp
                  go_frame
                  refine Frm.wh_call 6 123 17 #[.pointer (some ⟨j, 0, none⟩), .slice z.Al z.nl z.cl] rfl rfl (by kernel_rfl) rfl ?_ ?_
                  · go_simp
                  refine (HRS.out).mono ?_
                  rintro e w1 ⟨rfl, v1, hj1, ht1, hv1⟩
                  have HD1 : Hid (RJ w1 (Own j g gs gm v1) y r bs bw d jr) := Lib.hid (HBO.out.doc.prog ht1 hv1)
                  have HB1 := Lib.hid (low_turn HBL.out ht1 (HBO.out.prog.owns_low HLJ.out HG.out))
                  have HJ1 := Lib.hid hj1
                  have HS1 := Lib.hid (HIN.out.below HB1.out).c3
                  clear HS
                  have HS := HS1
                  clear HS1
                  clear hj1 ht1 hv1 HRS
                  have HRD := Lib.hid (rreset_any w1 (Own j g gs gm v1) y r bs bw d jr z.nl z.cl z.Al z.ls HD1.out HJ1.out.own_lt (RowsB.of_rows (HIN.out.below HB1.out).rows HB1.out.size (by have := HRG.out; have := HLY.out; intro q hq; simp at hq; omega)) (by have := HNL.out; omega) (by have := HBO.out.gen; have := HK60.out; omega))
                  unfold ptr at HRD
                  refine ⟨_, rfl, HS.out, ?_⟩
                  go_frame
                  refine Frm.wh_call 7 124 12 #[.int .i64 (rstE d jr z.ls)] rfl rfl (by kernel_rfl) rfl ?_ ?_
                  · go_simp
                  refine (num_any _ _).mono ?_
                  rintro e u ⟨rfl, rfl⟩
                  refine ⟨_, rfl, HS.out, ?_⟩
                  go_frame
                  refine Frm.wh_call 14 131 18 #[.pointer (some ⟨y, 0, none⟩), .slice z.Al z.nl z.cl] rfl rfl (by kernel_rfl) rfl ?_ ?_
                  · go_simp
                  refine (HRD.out).mono ?_
                  rintro e w2 ⟨rfl, hd2, ht2⟩
                  have HJ2 := Lib.hid (HJ1.out.docs HD1.out ht2)
                  have HD2 := Lib.hid hd2
                  have HB2 := Lib.hid (low_turn HB1.out ht2 (by have := HRG.out; have := HLY.out; intro q hq; simp at hq; omega))
                  have HS1 := Lib.hid (HIN.out.below HB2.out).c3
                  clear HS
                  have HS := HS1
                  clear HS1
                  clear hd2 ht2 HRD HD1 HJ1 HB1
                  refine ⟨_, rfl, HS.out, ?_⟩
                  go_frame
                  refine Frm.wh_call 15 132 12 #[.int .i64 (rstE d jr z.ls)] rfl rfl (by kernel_rfl) rfl ?_ ?_
                  · go_simp
                  refine (num_any _ _).mono ?_
                  rintro e u ⟨rfl, rfl⟩
                  refine ⟨_, rfl, HS.out, ?_⟩
                  go_frame
                  refine Frm.wh_take 16 133 (.bool true) rfl rfl (by kernel_rfl) (fun _ _ _ h => h) rfl (HS.out) (fun w' hw' => ?_) ?_
                  · go_simp
                  go_frame
                  refine Frm.wh_take 17 12 (.bool true) rfl rfl (by kernel_rfl) (fun _ _ _ h => h) rfl (HS.out) (fun w' hw' => ?_) ?_
                  · exact rfl
                  go_frame
                  refine wpAnyH_done (by kernel_rfl) ?_ _
                  go_wp2_with fail
                  go_meet
                  exact ⟨rfl, lo, j, y, _, _, v1, rfl, rfl, ⟨HJ2.out, HD2.out, low_rst (HBO.out.low.mono (by omega)) (by have := HBO.out.gen; omega) (by have := HK60.out; omega), by have h1 := rstJ_gen d jr z.ls; have := HBO.out.gen; omega, by rw [rstD_n]; exact HBO.out.n_⟩, HLJ.out, HLY.out, HB2.out⟩
              · as_aux_lemma =>
                  subst h0
                  have HST := Lib.hid (Disk.stop_disk wr g gs gm d z.num HBO0.out.prog.disk HIN.out.n1 HIN.out.n2)
                  unfold ptr at HST
                  have HBO := HBO0
                  clear HBO0
                  go_wp2_with fail
                  refine HST.out.mono ?_
                  rintro e w1 ⟨rfl, hd1, ht1⟩
                  have HB1 := Lib.hid (low_turn HBEL.out ht1 (by have := HG.out; intro q hq; simp at hq; omega))
                  have HR1 := Lib.hid (HBO.out.doc.progd ht1).disk
                  have HD1 := Lib.hid hd1
                  have HT1 := Lib.hid ht1
                  have HST2 := Lib.hid (rstop_any w1 (y :: Own j g gs gm v) r bs bw d z.num HR1.out HIN.out.n1 HIN.out.n2)
                  unfold ptr at HST2
                  have k1 := (HIN.out.below HB1.out).c1
                  clear hd1 ht1 HST k0 k2 k3 k4
                  go_wp2_with fail
                  refine HST2.out.mono ?_
                  rintro e w2 ⟨rfl, hr2, ht2⟩
                  have HB2 := Lib.hid (low_turn HB1.out ht2 (by have := HRG.out; intro q hq; simp at hq; omega))
                  have HBB := Lib.hid (HBO.out.disks (K' := 2 + k) HD1.out HT1.out hr2 ht2 rfl (low_stop (HBO.out.low.mono (by omega))) (by omega))
                  clear hr2 ht2 HST2
                  go_wp2_with fail
                  go_meet
                  exact ⟨rfl, lo, j, y, _, _, v, rfl, rfl, HBB.out, HLJ.out, HLY.out, HB2.out⟩
              · as_aux_lemma =>
                  subst h0
                  have HCR := Lib.hid (Disk.crash_disk wr g gs gm d HBO0.out.prog.disk z.Af z.nf z.cf z.fs (HIN.out.nums.nums HBEL.out HBEL.out.size (S := [g, gs, gm]) (by have := HG.out; intro q hq; simp at hq; omega)))
                  unfold ptr at HCR
                  go_wp2_with fail
                  refine HCR.out.mono ?_
                  rintro e w1 ⟨rfl, hd1, ht1⟩
                  have HB1 := Lib.hid (low_turn HBEL.out ht1 (by have := HG.out; intro q hq; simp at hq; omega))
                  have HR1 := Lib.hid (HBO0.out.doc.progd ht1).disk
                  have HD1 := Lib.hid hd1
                  have HT1 := Lib.hid ht1
                  have HCR2 := Lib.hid (rcrash_any w1 (y :: Own j g gs gm v) r bs bw d HR1.out (fun q hq => by
                    rcases List.mem_cons.1 hq with rfl | hq
                    · exact Nat.lt_of_lt_of_le HBO0.out.doc.ylt ht1.size
                    · exact Nat.lt_of_lt_of_le (HBO0.out.prog.own_lt q hq) ht1.size) z.Af z.nf z.cf z.fs (HIN.out.nums.nums HB1.out HB1.out.size (S := [r, bs, bw]) (by have := HRG.out; intro q hq; simp at hq; omega)) HIN.out.fm)
                  unfold ptr at HCR2
                  have k4 := (HIN.out.below HB1.out).c4
                  clear hd1 ht1 HCR k0 k1 k2 k3
                  go_wp2_with fail
                  refine HCR2.out.mono ?_
                  rintro e w2 ⟨rfl, hr2, ht2⟩
                  have HB2 := Lib.hid (low_turn HB1.out ht2 (by have := HRG.out; intro q hq; simp at hq; omega))
                  have HBO := Lib.hid (HBO0.out.disks (K' := 1 + k) HD1.out HT1.out hr2 ht2 rfl (low_crash HBO0.out.low HBO0.out.doc.disk.ok (by have := HBO0.out.prog.n8; omega)) (Nat.le_refl _))
                  clear hr2 ht2 HCR2 HBO0 HBEL k4 HD1 HT1 HR1 HB1
                  have HBEL := HB2
                  clear HB2
                  generalize d.crash z.fs = d at *
                  obtain ⟨wr, rfl⟩ : ∃ u : World, u = w2 := ⟨_, rfl⟩
                  have HR8 := Lib.hid HBO.out.prog.n8
                  have HNW : Hid (newest (rd d) < 9223372036854775807) := Lib.hid (by have := low_newest HBO.out.low (by have := HR8.out; omega); have := HK60.out; omega)
                  by_cases hoff : d.off = true
                  · as_aux_lemma =>
                      have HO1 := Lib.hid (open_off wr g gs gm d HBO.out.prog.disk HR8.out hoff)
                      have HO2 := Lib.hid (ropen_off wr (y :: Own j g gs gm v) r bs bw d HBO.out.doc.disk HR8.out hoff)
                      unfold ptr at HO1 HO2
                      go_wp2_with fail
                      refine HO1.out.mono ?_
                      rintro e u ⟨rfl, rfl⟩
                      go_wp2_with fail
                      refine HO2.out.mono ?_
                      rintro e u ⟨rfl, rfl⟩
                      go_wp2_with (first
  | (go_at_call 12; refine (num_any _ _).mono ?_; rintro e u ⟨rfl, rfl⟩))
                      go_meet
                      exact ⟨rfl, lo, j, y, d, jr, v, rfl, rfl, HBO.out.mono (by omega), HLJ.out, HLY.out, HBEL.out⟩
                  · as_aux_lemma =>
                      have hon : d.off = false := by simpa using hoff
                      clear hoff
                      have HON := Lib.hid hon
                      have HOA : Hid (Calls Tryz.prog 13 #[ptr g] wr (fun e w' => (openB d = true ∧ Opened wr g gs gm (openD d) (openJ d) e w') ∨ (openB d = false ∧ Unopened wr g gs gm (openD d) e w'))) := Lib.hid (by
                        by_cases hnw : newest (rd d) = 0
                        · exact open_new wr g gs gm d HBO.out.prog.disk HR8.out hon hnw
                        · exact (open_old wr g gs gm d HBO.out.prog.disk HR8.out hon hnw HNW.out).mono fun e u hu => .inl ⟨by unfold openB; rw [if_neg hnw], hu⟩)
                      clear hon
                      unfold ptr at HOA
                      go_wp2_with fail
                      refine HOA.out.mono fun e w1 hx => ?_
                      clear HOA
                      rcases hx with ⟨hob, lo1, j1, v1, rfl, hj1, ht1, hlj1⟩ | ⟨hob, rfl, hd1, ht1⟩
                      · as_aux_lemma =>
                          have HOB := Lib.hid hob
                          have HJ1 := Lib.hid hj1
                          have HB1 := Lib.hid (low_turn HBEL.out ht1 (by have := HG.out; intro q hq; simp at hq; omega))
                          have HLJ1 : Hid (w.heap.size ≤ j1) := Lib.hid (Nat.le_trans HBEL.out.size hlj1)
                          have HRK : Hid (Rk w1 (Own j1 g gs gm v1) r bs bw d) := Lib.hid (HBO.out.doc.disk.prog ht1 (fun k hk => List.mem_cons_of_mem _ (own_disks j g gs gm v k hk)) (hj1.new_own hlj1 (fun k hk => List.mem_cons_of_mem _ (own_disks j g gs gm v k hk))))
                          have HO2 := Lib.hid (ropen_any w1 (Own j1 g gs gm v1) r bs bw d HRK.out hj1.own_lt HR8.out HON.out HNW.out)
                          have HKO : Hid (Low (openD d) (2 + k) ∧ (openJ d).gen ≤ 2 + k ∧ (openD d).n = N) := Lib.hid ⟨low_open (HBO.out.low.mono (by omega)) (by omega), openJ_gen (HBO.out.low.mono (by omega)) (by have := HR8.out; omega) (by omega), by rw [openD_n]; exact HBO.out.n_⟩
                          clear hob hj1 ht1 hlj1 HBO HBEL
                          unfold ptr at *
                          go_wp2_with fail
                          refine HO2.out.mono fun e w2 hx => ?_
                          clear HO2
                          replace hx := hx.resolve_right fun hh => by have := HOB.out; rw [hh.1] at this; cases this
                          obtain ⟨_, y1, rfl, hrj, ht2, hy1⟩ := hx
                          have HBB : Hid (Both w2 N g gs gm r bs bw (2 + k) lo1 j1 y1 (openD d) (openJ d) v1) := Lib.hid ⟨HJ1.out.docd HRK.out (fun k hk => hk) ht2, hrj, HKO.out.1, HKO.out.2.1, HKO.out.2.2⟩
                          have HB2 := Lib.hid (low_turn HB1.out ht2 (by have := HRG.out; intro q hq; simp at hq; omega))
                          have HLY1 : Hid (w.heap.size ≤ y1) := Lib.hid (Nat.le_trans HB1.out.size hy1)
                          clear hrj ht2 hy1 HJ1 HRK HB1
                          unfold ptr at *
                          go_wp2_with (first
  | (go_at_call 12; refine (num_any _ _).mono ?_; rintro e u ⟨rfl, rfl⟩))
                          go_meet
                          exact ⟨rfl, lo1, j1, y1, _, _, v1, rfl, rfl, HBB.out, HLJ1.out, HLY1.out, HB2.out⟩
                      · as_aux_lemma =>
                          have HOB := Lib.hid hob
                          have HD1 := Lib.hid hd1
                          have HT1 := Lib.hid ht1
                          have HB1 := Lib.hid (low_turn HBEL.out ht1 (by have := HG.out; intro q hq; simp at hq; omega))
                          have HRK := Lib.hid (HBO.out.doc.progd ht1).disk
                          have HO2 := Lib.hid (ropen_any w1 (y :: Own j g gs gm v) r bs bw d HRK.out (fun q hq => by
                            rcases List.mem_cons.1 hq with rfl | hq
                            · exact Nat.lt_of_lt_of_le HBO.out.doc.ylt ht1.size
                            · exact Nat.lt_of_lt_of_le (HBO.out.prog.own_lt q hq) ht1.size) HR8.out HON.out HNW.out)
                          clear hob hd1 ht1
                          unfold ptr at HO2
                          go_wp2_with fail
                          refine HO2.out.mono fun e w2 hx => ?_
                          clear HO2
                          replace hx := hx.resolve_left fun hh => by have := HOB.out; rw [hh.1] at this; cases this
                          obtain ⟨_, rfl, hrk2, ht2⟩ := hx
                          have HBB := Lib.hid (HBO.out.disks (K' := 2 + k) HD1.out HT1.out hrk2 ht2 (openD_n d) (low_open (HBO.out.low.mono (by omega)) (by omega)) (by omega))
                          have HB2 := Lib.hid (low_turn HB1.out ht2 (by have := HRG.out; intro q hq; simp at hq; omega))
                          clear hrk2 ht2 HRK HD1 HT1 HB1 HBO
                          go_wp2_with (first
  | (go_at_call 12; refine (num_any _ _).mono ?_; rintro e u ⟨rfl, rfl⟩))
                          go_meet
                          exact ⟨rfl, lo, j, y, _, jr, v, rfl, rfl, HBB.out, HLJ.out, HLY.out, HB2.out⟩
              · as_aux_lemma =>
                  subst h0
                  have HBO := HBO0
                  clear HBO0
                  have HR8 := Lib.hid HBO.out.prog.n8
                  have HNW : Hid (newest (rd d) < 9223372036854775807) := Lib.hid (by have := low_newest HBO.out.low (by have := HR8.out; omega); have := HK60.out; omega)
                  by_cases hoff : d.off = true
                  · as_aux_lemma =>
                      have HO1 := Lib.hid (open_off wr g gs gm d HBO.out.prog.disk HR8.out hoff)
                      have HO2 := Lib.hid (ropen_off wr (y :: Own j g gs gm v) r bs bw d HBO.out.doc.disk HR8.out hoff)
                      unfold ptr at HO1 HO2
                      go_wp2_with fail
                      refine HO1.out.mono ?_
                      rintro e u ⟨rfl, rfl⟩
                      go_wp2_with fail
                      refine HO2.out.mono ?_
                      rintro e u ⟨rfl, rfl⟩
                      go_wp2_with (first
  | (go_at_call 12; refine (num_any _ _).mono ?_; rintro e u ⟨rfl, rfl⟩))
                      go_meet
                      exact ⟨rfl, lo, j, y, d, jr, v, rfl, rfl, HBO.out.mono (by omega), HLJ.out, HLY.out, HBEL.out⟩
                  · as_aux_lemma =>
                      have hon : d.off = false := by simpa using hoff
                      clear hoff
                      have HON := Lib.hid hon
                      have HOA : Hid (Calls Tryz.prog 13 #[ptr g] wr (fun e w' => (openB d = true ∧ Opened wr g gs gm (openD d) (openJ d) e w') ∨ (openB d = false ∧ Unopened wr g gs gm (openD d) e w'))) := Lib.hid (by
                        by_cases hnw : newest (rd d) = 0
                        · exact open_new wr g gs gm d HBO.out.prog.disk HR8.out hon hnw
                        · exact (open_old wr g gs gm d HBO.out.prog.disk HR8.out hon hnw HNW.out).mono fun e u hu => .inl ⟨by unfold openB; rw [if_neg hnw], hu⟩)
                      clear hon
                      unfold ptr at HOA
                      go_wp2_with fail
                      refine HOA.out.mono fun e w1 hx => ?_
                      clear HOA
                      rcases hx with ⟨hob, lo1, j1, v1, rfl, hj1, ht1, hlj1⟩ | ⟨hob, rfl, hd1, ht1⟩
                      · as_aux_lemma =>
                          have HOB := Lib.hid hob
                          have HJ1 := Lib.hid hj1
                          have HB1 := Lib.hid (low_turn HBEL.out ht1 (by have := HG.out; intro q hq; simp at hq; omega))
                          have HLJ1 : Hid (w.heap.size ≤ j1) := Lib.hid (Nat.le_trans HBEL.out.size hlj1)
                          have HRK : Hid (Rk w1 (Own j1 g gs gm v1) r bs bw d) := Lib.hid (HBO.out.doc.disk.prog ht1 (fun k hk => List.mem_cons_of_mem _ (own_disks j g gs gm v k hk)) (hj1.new_own hlj1 (fun k hk => List.mem_cons_of_mem _ (own_disks j g gs gm v k hk))))
                          have HO2 := Lib.hid (ropen_any w1 (Own j1 g gs gm v1) r bs bw d HRK.out hj1.own_lt HR8.out HON.out HNW.out)
                          have HKO : Hid (Low (openD d) (2 + k) ∧ (openJ d).gen ≤ 2 + k ∧ (openD d).n = N) := Lib.hid ⟨low_open (HBO.out.low.mono (by omega)) (by omega), openJ_gen (HBO.out.low.mono (by omega)) (by have := HR8.out; omega) (by omega), by rw [openD_n]; exact HBO.out.n_⟩
                          clear hob hj1 ht1 hlj1 HBO HBEL
                          unfold ptr at *
                          go_wp2_with fail
                          refine HO2.out.mono fun e w2 hx => ?_
                          clear HO2
                          replace hx := hx.resolve_right fun hh => by have := HOB.out; rw [hh.1] at this; cases this
                          obtain ⟨_, y1, rfl, hrj, ht2, hy1⟩ := hx
                          have HBB : Hid (Both w2 N g gs gm r bs bw (2 + k) lo1 j1 y1 (openD d) (openJ d) v1) := Lib.hid ⟨HJ1.out.docd HRK.out (fun k hk => hk) ht2, hrj, HKO.out.1, HKO.out.2.1, HKO.out.2.2⟩
                          have HB2 := Lib.hid (low_turn HB1.out ht2 (by have := HRG.out; intro q hq; simp at hq; omega))
                          have HLY1 : Hid (w.heap.size ≤ y1) := Lib.hid (Nat.le_trans HB1.out.size hy1)
                          clear hrj ht2 hy1 HJ1 HRK HB1
                          unfold ptr at *
                          go_wp2_with (first
  | (go_at_call 12; refine (num_any _ _).mono ?_; rintro e u ⟨rfl, rfl⟩))
                          go_meet
                          exact ⟨rfl, lo1, j1, y1, _, _, v1, rfl, rfl, HBB.out, HLJ1.out, HLY1.out, HB2.out⟩
                      · as_aux_lemma =>
                          have HOB := Lib.hid hob
                          have HD1 := Lib.hid hd1
                          have HT1 := Lib.hid ht1
                          have HB1 := Lib.hid (low_turn HBEL.out ht1 (by have := HG.out; intro q hq; simp at hq; omega))
                          have HRK := Lib.hid (HBO.out.doc.progd ht1).disk
                          have HO2 := Lib.hid (ropen_any w1 (y :: Own j g gs gm v) r bs bw d HRK.out (fun q hq => by
                            rcases List.mem_cons.1 hq with rfl | hq
                            · exact Nat.lt_of_lt_of_le HBO.out.doc.ylt ht1.size
                            · exact Nat.lt_of_lt_of_le (HBO.out.prog.own_lt q hq) ht1.size) HR8.out HON.out HNW.out)
                          clear hob hd1 ht1
                          unfold ptr at HO2
                          go_wp2_with fail
                          refine HO2.out.mono fun e w2 hx => ?_
                          clear HO2
                          replace hx := hx.resolve_left fun hh => by have := HOB.out; rw [hh.1] at this; cases this
                          obtain ⟨_, rfl, hrk2, ht2⟩ := hx
                          have HBB := Lib.hid (HBO.out.disks (K' := 2 + k) HD1.out HT1.out hrk2 ht2 (openD_n d) (low_open (HBO.out.low.mono (by omega)) (by omega)) (by omega))
                          have HB2 := Lib.hid (low_turn HB1.out ht2 (by have := HRG.out; intro q hq; simp at hq; omega))
                          clear hrk2 ht2 HRK HD1 HT1 HB1 HBO
                          go_wp2_with (first
  | (go_at_call 12; refine (num_any _ _).mono ?_; rintro e u ⟨rfl, rfl⟩))
                          go_meet
                          exact ⟨rfl, lo, j, y, _, jr, v, rfl, rfl, HBB.out, HLJ.out, HLY.out, HB2.out⟩
              · as_aux_lemma =>
                  go_wp2_with fail
                  go_meet
                  exact ⟨rfl, lo, j, y, d, jr, v, rfl, rfl, HBO0.out.mono (by omega), HLJ.out, HLY.out, HBEL.out⟩
            case rest =>
              obtain ⟨rfl, lo, j, y, d, jr, v, rfl, rfl, hbo, hlj, hly, hbel⟩ := hcut
              clear HBO0 HLJ HLY HBEL k0 k1 k2 k3 k4 HIN HKD HNL hidx
              have HBO := Lib.hid hbo
              have HLJ := Lib.hid hlj
              have HLY := Lib.hid hly
              have HBEL := Lib.hid hbel
              clear hbo hlj hly hbel
              as_aux_lemma =>
                obtain ⟨Aj, cj, hyo, hrows⟩ := HBO.out.doc.hd
                have HROW := Lib.hid hrows
                have HYO := Lib.hid hyo
                clear hyo hrows
                have HN1 : Hid (jr.gs.length ≤ 1000000 ∧ takes jr.gs ≤ 1000000000000) := Lib.hid (by have h2 := takes_length jr.gs; have h3 := HBO.out.prog.room16.2; omega)
                go_upto_region 34 with fail
                have HS : Hid (wc.drew.heap[y]? = some (yobj r jr.gen Aj jr.gs.length cj jr.down)) := Lib.hid HYO.out
                have HB0 := Lib.hid (HBO.out.below (Below.refl wc.heap.size wc).drew)
                have HBL0 := Lib.hid HBEL.out.drew
                have HROW0 := Lib.hid (HROW.out.below (Below.refl wc.heap.size wc).drew)
                clear HBO HBEL HROW HYO
                refine Frm.wh_start (fun u => u.heap[y]? = some (yobj r jr.gen Aj jr.gs.length cj jr.down)) (by kernel_rfl) ?_
                generalize wc.drew = u0 at *
                have HGR := Lib.hid (groups_any HB0.out.prog)
                unfold ptr at HGR
                refine Frm.wh_take 0 202 (.bool true) rfl rfl (by kernel_rfl) (fun _ _ _ h => h) rfl (HS.out) (fun w' hw' => ?_) ?_
                · exact rfl
                go_frame
                refine Frm.wh_take 1 203 (.bool false) rfl rfl (by kernel_rfl) (fun _ _ _ h => h) rfl (HS.out) (fun w' hw' => ?_) ?_
                · go_simp
                go_frame
                refine Frm.wh_take 2 204 (.bool false) rfl rfl (by kernel_rfl) (fun _ _ _ h => h) rfl (HS.out) (fun w' hw' => ?_) ?_
                · exact rfl
                go_frame
                refine Frm.wh_take 3 205 (.pointer (some ⟨j, 0, none⟩)) rfl rfl (by kernel_rfl) (fun _ _ _ h => h) rfl (HS.out) (fun w' hw' => ?_) ?_
                · exact rfl
                go_frame
                refine Frm.wh_take 5 207 (.pointer (some ⟨y, 0, none⟩)) rfl rfl (by kernel_rfl) (fun _ _ _ h => h) rfl (HS.out) (fun w' hw' => ?_) ?_
                · exact rfl
                go_frame
                refine Frm.wh_take 6 208 (.pointer (some ⟨y, 0, none⟩)) rfl rfl (by kernel_rfl) (fun _ _ _ h => h) rfl (HS.out) (fun w' hw' => ?_) ?_
                · go_simp
                go_frame
                refine Frm.wh_take 7 209 (.pointer (some ⟨y, 2, none⟩)) rfl rfl (by kernel_rfl) (fun _ _ _ h => h) rfl (HS.out) (fun w' hw' => ?_) ?_
                · go_simp
                go_frame
                refine Frm.wh_take 8 210 (.slice Aj jr.gs.length cj) rfl rfl (by kernel_rfl) (fun _ _ _ h => h) rfl (HS.out) (fun w' hw' => ?_) ?_
                · have h2 := yc2 hw'
                  go_simp
                go_frame
                refine Frm.wh_call 4 206 24 #[.pointer (some ⟨j, 0, none⟩)] rfl rfl (by kernel_rfl) rfl ?_ ?_
                · go_simp
                refine (HGR.out).mono ?_
                rintro e w9 ⟨A9, c9, rfl, hr9, _, _, hb9⟩
                have HB1 := Lib.hid (HB0.out.below hb9)
                have HBL1 := Lib.hid (HBL0.out.trans (hb9.mono HBL0.out.size))
                have HROW1 := Lib.hid (HROW0.out.below hb9)
                have HSM := Lib.hid (same_any w9 jr.gs.length c9 jr.gs.length cj A9 Aj jr.gs jr.gs (hr9 [] (by simp)) (HROW1.out.sub (by simp)) HN1.out.1 HN1.out.1)
                have hdd : decide (jr.gs = jr.gs) = true := by simp
                rw [hdd] at HSM
                have HS1 := Lib.hid ((hb9.block y HB0.out.doc.ylt).trans HS.out)
                clear HS
                have HS := HS1
                clear HS1 hr9 hb9 hdd HGR HB0 HBL0 HROW0
                refine ⟨_, rfl, HS.out, ?_⟩
                go_frame
                refine Frm.wh_call 9 211 23 #[.slice A9 jr.gs.length c9, .slice Aj jr.gs.length cj] rfl rfl (by kernel_rfl) rfl ?_ ?_
                · go_simp
                refine (HSM.out).mono ?_
                rintro e w10 ⟨rfl, hb10⟩
                have HB2 := Lib.hid (HB1.out.below hb10)
                have HBL2 := Lib.hid (HBL1.out.trans (hb10.mono HBL1.out.size))
                have HROW2 := Lib.hid (HROW1.out.below hb10)
                have HS1 := Lib.hid ((hb10.block y HB1.out.doc.ylt).trans HS.out)
                clear HS
                have HS := HS1
                clear HS1 hb10 HSM HB1 HBL1 HROW1
                have HGE := Lib.hid (jgen_any HB2.out.prog)
                have HDW := Lib.hid (jdown_any HB2.out.prog)
                have HUS := Lib.hid (jused_any HB2.out.prog)
                have HTK := Lib.hid (rtakes_any w10 jr.gs.length cj Aj jr.gs HROW2.out.rowl HN1.out.2)
                have HRM := Lib.hid (jroom_any HB2.out.prog)
                unfold ptr at HGE HDW HUS HRM
                refine ⟨_, rfl, HS.out, ?_⟩
                go_frame
                refine Frm.wh_take 10 212 (.bool false) rfl rfl (by kernel_rfl) (fun _ _ _ h => h) rfl (HS.out) (fun w' hw' => ?_) ?_
                · go_simp
                go_frame
                refine Frm.wh_take 11 213 (.bool false) rfl rfl (by kernel_rfl) (fun _ _ _ h => h) rfl (HS.out) (fun w' hw' => ?_) ?_
                · go_simp
                go_frame
                refine Frm.wh_take 12 214 (.bool false) rfl rfl (by kernel_rfl) (fun _ _ _ h => h) rfl (HS.out) (fun w' hw' => ?_) ?_
                · exact rfl
                go_frame
                refine Frm.wh_take 13 215 (.pointer (some ⟨j, 0, none⟩)) rfl rfl (by kernel_rfl) (fun _ _ _ h => h) rfl (HS.out) (fun w' hw' => ?_) ?_
                · exact rfl
                go_frame
                refine Frm.wh_take 15 217 (.pointer (some ⟨y, 0, none⟩)) rfl rfl (by kernel_rfl) (fun _ _ _ h => h) rfl (HS.out) (fun w' hw' => ?_) ?_
                · exact rfl
                go_frame
                refine Frm.wh_take 16 218 (.pointer (some ⟨y, 0, none⟩)) rfl rfl (by kernel_rfl) (fun _ _ _ h => h) rfl (HS.out) (fun w' hw' => ?_) ?_
                · go_simp
                go_frame
                refine Frm.wh_take 17 219 (.pointer (some ⟨y, 1, none⟩)) rfl rfl (by kernel_rfl) (fun _ _ _ h => h) rfl (HS.out) (fun w' hw' => ?_) ?_
                · go_simp
                go_frame
                refine Frm.wh_take 18 220 (.int .i64 jr.gen) rfl rfl (by kernel_rfl) (fun _ _ _ h => h) rfl (HS.out) (fun w' hw' => ?_) ?_
                · have h1 := yc1 hw'
                  go_simp
                go_frame
                refine Frm.wh_call 14 216 25 #[.pointer (some ⟨j, 0, none⟩)] rfl rfl (by kernel_rfl) rfl ?_ ?_
                · go_simp
                refine (HGE.out).mono ?_
                rintro e u ⟨rfl, rfl⟩
                refine ⟨_, rfl, HS.out, ?_⟩
                go_frame
                refine Frm.wh_take 19 221 (.bool false) rfl rfl (by kernel_rfl) (fun _ _ _ h => h) rfl (HS.out) (fun w' hw' => ?_) ?_
                · go_simp
                go_frame
                refine Frm.wh_take 20 222 (.bool false) rfl rfl (by kernel_rfl) (fun _ _ _ h => h) rfl (HS.out) (fun w' hw' => ?_) ?_
                · go_simp
                go_frame
                refine Frm.wh_take 21 223 (.bool false) rfl rfl (by kernel_rfl) (fun _ _ _ h => h) rfl (HS.out) (fun w' hw' => ?_) ?_
                · exact rfl
                go_frame
                refine Frm.wh_take 22 224 (.pointer (some ⟨j, 0, none⟩)) rfl rfl (by kernel_rfl) (fun _ _ _ h => h) rfl (HS.out) (fun w' hw' => ?_) ?_
                · exact rfl
                go_frame
                refine Frm.wh_take 24 226 (.pointer (some ⟨y, 0, none⟩)) rfl rfl (by kernel_rfl) (fun _ _ _ h => h) rfl (HS.out) (fun w' hw' => ?_) ?_
                · exact rfl
                go_frame
                refine Frm.wh_take 25 227 (.pointer (some ⟨y, 0, none⟩)) rfl rfl (by kernel_rfl) (fun _ _ _ h => h) rfl (HS.out) (fun w' hw' => ?_) ?_
                · go_simp
                go_frame
                refine Frm.wh_take 26 228 (.pointer (some ⟨y, 3, none⟩)) rfl rfl (by kernel_rfl) (fun _ _ _ h => h) rfl (HS.out) (fun w' hw' => ?_) ?_
                · go_simp
                go_frame
                refine Frm.wh_take 27 229 (.bool jr.down) rfl rfl (by kernel_rfl) (fun _ _ _ h => h) rfl (HS.out) (fun w' hw' => ?_) ?_
                · have h3 := yc3 hw'
                  go_simp
                go_frame
                refine Frm.wh_call 23 225 26 #[.pointer (some ⟨j, 0, none⟩)] rfl rfl (by kernel_rfl) rfl ?_ ?_
                · go_simp
                refine (HDW.out).mono ?_
                rintro e u ⟨rfl, rfl⟩
                refine ⟨_, rfl, HS.out, ?_⟩
                go_frame
                refine Frm.wh_take 28 230 (.bool false) rfl rfl (by kernel_rfl) (fun _ _ _ h => h) rfl (HS.out) (fun w' hw' => ?_) ?_
                · go_simp
                go_frame
                refine Frm.wh_take 29 231 (.bool false) rfl rfl (by kernel_rfl) (fun _ _ _ h => h) rfl (HS.out) (fun w' hw' => ?_) ?_
                · go_simp
                go_frame
                refine Frm.wh_take 30 232 (.bool false) rfl rfl (by kernel_rfl) (fun _ _ _ h => h) rfl (HS.out) (fun w' hw' => ?_) ?_
                · exact rfl
                go_frame
                refine Frm.wh_take 31 233 (.pointer (some ⟨j, 0, none⟩)) rfl rfl (by kernel_rfl) (fun _ _ _ h => h) rfl (HS.out) (fun w' hw' => ?_) ?_
                · exact rfl
                go_frame
                refine Frm.wh_take 33 235 (.pointer (some ⟨y, 0, none⟩)) rfl rfl (by kernel_rfl) (fun _ _ _ h => h) rfl (HS.out) (fun w' hw' => ?_) ?_
                · exact rfl
                go_frame
                refine Frm.wh_take 34 236 (.pointer (some ⟨y, 0, none⟩)) rfl rfl (by kernel_rfl) (fun _ _ _ h => h) rfl (HS.out) (fun w' hw' => ?_) ?_
                · go_simp
                go_frame
                refine Frm.wh_take 35 237 (.pointer (some ⟨y, 2, none⟩)) rfl rfl (by kernel_rfl) (fun _ _ _ h => h) rfl (HS.out) (fun w' hw' => ?_) ?_
                · go_simp
                go_frame
                refine Frm.wh_take 36 238 (.slice Aj jr.gs.length cj) rfl rfl (by kernel_rfl) (fun _ _ _ h => h) rfl (HS.out) (fun w' hw' => ?_) ?_
                · have h2 := yc2 hw'
                  go_simp
                go_frame
                refine Frm.wh_call 32 234 27 #[.pointer (some ⟨j, 0, none⟩)] rfl rfl (by kernel_rfl) rfl ?_ ?_
                · go_simp
                refine (HUS.out).mono ?_
                rintro e u ⟨rfl, rfl⟩
                refine ⟨_, rfl, HS.out, ?_⟩
                go_frame
                refine Frm.wh_call 37 239 28 #[.slice Aj jr.gs.length cj] rfl rfl (by kernel_rfl) rfl ?_ ?_
                · go_simp
                refine (HTK.out).mono ?_
                rintro e u ⟨rfl, rfl⟩
                refine ⟨_, rfl, HS.out, ?_⟩
                go_frame
                refine Frm.wh_take 38 240 (.bool false) rfl rfl (by kernel_rfl) (fun _ _ _ h => h) rfl (HS.out) (fun w' hw' => ?_) ?_
                · go_simp
                go_frame
                refine Frm.wh_take 39 241 (.bool false) rfl rfl (by kernel_rfl) (fun _ _ _ h => h) rfl (HS.out) (fun w' hw' => ?_) ?_
                · go_simp
                go_frame
                refine Frm.wh_take 40 242 (.bool false) rfl rfl (by kernel_rfl) (fun _ _ _ h => h) rfl (HS.out) (fun w' hw' => ?_) ?_
                · exact rfl
                go_frame
                refine Frm.wh_take 41 243 (.pointer (some ⟨j, 0, none⟩)) rfl rfl (by kernel_rfl) (fun _ _ _ h => h) rfl (HS.out) (fun w' hw' => ?_) ?_
                · exact rfl
                go_frame
                refine Frm.wh_take 43 245 (.pointer (some ⟨r, 0, none⟩)) rfl rfl (by kernel_rfl) (fun _ _ _ h => h) rfl (HS.out) (fun w' hw' => ?_) ?_
                · exact rfl
                go_frame
                refine Frm.wh_call 42 244 29 #[.pointer (some ⟨j, 0, none⟩)] rfl rfl (by kernel_rfl) rfl ?_ ?_
                · go_simp
                refine (HRM.out).mono ?_
                rintro e w11 ⟨rfl, hb11⟩
                have HB3 := Lib.hid (HB2.out.below hb11)
                have HBL3 := Lib.hid (HBL2.out.trans (hb11.mono HBL2.out.size))
                have HS1 := Lib.hid ((hb11.block y HB2.out.doc.ylt).trans HS.out)
                clear HS
                have HS := HS1
                clear HS1 hb11 HB2 HBL2
                have HRR := Lib.hid (rroom_any w11 (y :: Own j g gs gm v) r bs bw d HB3.out.doc.disk (by have := HB3.out.prog.n8; omega))
                unfold ptr at HRR
                refine ⟨_, rfl, HS.out, ?_⟩
                go_frame
                refine Frm.wh_call 44 246 30 #[.pointer (some ⟨r, 0, none⟩)] rfl rfl (by kernel_rfl) rfl ?_ ?_
                · go_simp
                refine (HRR.out).mono ?_
                rintro e u ⟨rfl, rfl⟩
                refine ⟨_, rfl, HS.out, ?_⟩
                go_frame
                refine Frm.wh_take 45 247 (.bool false) rfl rfl (by kernel_rfl) (fun _ _ _ h => h) rfl (HS.out) (fun w' hw' => ?_) ?_
                · go_simp
                go_frame
                refine Frm.wh_take 46 248 (.bool false) rfl rfl (by kernel_rfl) (fun _ _ _ h => h) rfl (HS.out) (fun w' hw' => ?_) ?_
                · go_simp
                go_frame
                refine wpAnyH_done (by kernel_rfl) ?_ _
                have HFIN : Hid (PL w w11 N g gs gm r bs bw (2 + k) (.pointer (some ⟨j, 0, none⟩)) (.pointer (some ⟨y, 0, none⟩))) := Lib.hid ⟨lo, j, y, d, jr, v, rfl, rfl, HB3.out, HLJ.out, HLY.out, HBL3.out⟩
                clear HB3 HBL3 HS HGE HDW HUS HTK HRM HRR HROW2
                go_wp2_with fail
                go_roundw
                case rel => exact ⟨k + 1, by omega, by go_num, by rw [show 1 + (k + 1) = 2 + k by omega]; exact HFIN.out⟩
                case measure => simp [Go.RowKit.intOf]; omega
          · have HDL : Hid (DL w wr N g gs gm r bs bw) := Lib.hid ⟨d, _, hbo.prog.disk, hbo.doc.disk, hbo.n_, hbel⟩
            clear hbo hlj hly hbel HX HL HK
            go_wp2_with fail
            go_loopw [17] (fun i wr => ∃ k : Nat, k ≤ N ∧ i = .int .i64 k ∧ DL w wr N g gs gm r bs bw) (fun i _ => N - (Go.RowKit.intOf i).toNat)
            case atStart => exact ⟨0, by omega, rfl, HDL.out⟩
            case round =>
              obtain ⟨k, hk, rfl, d5, S5, hd5, hr5, hn5, hb5⟩ := hrel
              clear HDL
              by_cases hlt : k < N
              · have HLR := Lib.hid (lread_any wr S5 g gs gm r bs bw d5 k hd5 hr5 (by omega))
                have HD5 := Lib.hid (And.intro hd5 (And.intro hr5 (And.intro hn5 hb5)))
                clear hd5 hr5 hn5 hb5
                unfold ptr at HLR
                go_wp2_with fail
                refine HLR.out.mono ?_
                rintro e w6 ⟨rfl, hb6⟩
                have HD6 : Hid (DL w w6 N g gs gm r bs bw) := Lib.hid ⟨d5, S5, Dk.below HD5.out.1 hb6, HD5.out.2.1.below hb6, HD5.out.2.2.1, HD5.out.2.2.2.trans (hb6.mono HD5.out.2.2.2.size)⟩
                clear hb6 HLR HD5
                go_wp2_with fail
                go_roundw
                case rel => exact ⟨k + 1, by omega, by go_num, HD6.out⟩
                case measure => simp [Go.RowKit.intOf]; omega
              · obtain rfl : k = N := by omega
                have HB5 := Lib.hid hb5
                clear hd5 hr5 hn5 hb5
                go_wp2_with fail
                go_ret
                exact ⟨rfl, HB5.out⟩
      · have HO := Lib.hid (open_small w3 g gs gm (fresh N) HDK.out (by show N < 8; omega))
        have HO2 := Lib.hid (ropen_small w3 [g, gs, gm] r bs bw (fresh N) HRK.out (by show N < 8; omega))
        unfold ptr at HO HO2
        go_wp2_with (first
  | (go_at_call 12; refine (num_any _ _).mono ?_; rintro e u ⟨rfl, rfl⟩))
        refine HO.out.mono ?_
        rintro e u ⟨rfl, rfl⟩
        go_wp2_with fail
        refine HO2.out.mono ?_
        rintro e u ⟨rfl, rfl⟩
        have HDL : Hid (DL w w3 N g gs gm r bs bw) := Lib.hid ⟨fresh N, _, HDK.out, HRK.out, rfl, HB3.out⟩
        clear HDK HRK HB3 HO HO2 HX HL HK
        go_wp2_with (first
  | (go_at_call 12; refine (num_any _ _).mono ?_; rintro e u ⟨rfl, rfl⟩))
        go_loopw [10, 11] (fun py i wr => py = .pointer none ∧ i = .int .i64 0 ∧ DL w wr N g gs gm r bs bw) (fun _ _ _ => 0)
        case atStart => exact ⟨rfl, rfl, HDL.out⟩
        case round =>
          obtain ⟨rfl, rfl, hdl⟩ := hrel
          clear HDL
          have HDL := Lib.hid hdl
          clear hdl
          by_cases h0n : 0 < n
          · have h0i : (0 : Int) < (n : Int) := by omega
            go_wp2_with fail
            go_loopw [17] (fun i wr => ∃ k : Nat, k ≤ N ∧ i = .int .i64 k ∧ DL w wr N g gs gm r bs bw) (fun i _ => N - (Go.RowKit.intOf i).toNat)
            case atStart => exact ⟨0, by omega, rfl, HDL.out⟩
            case round =>
              obtain ⟨k, hk, rfl, d5, S5, hd5, hr5, hn5, hb5⟩ := hrel
              clear HDL
              by_cases hlt : k < N
              · have HLR := Lib.hid (lread_any wr S5 g gs gm r bs bw d5 k hd5 hr5 (by omega))
                have HD5 := Lib.hid (And.intro hd5 (And.intro hr5 (And.intro hn5 hb5)))
                clear hd5 hr5 hn5 hb5
                unfold ptr at HLR
                go_wp2_with fail
                refine HLR.out.mono ?_
                rintro e w6 ⟨rfl, hb6⟩
                have HD6 : Hid (DL w w6 N g gs gm r bs bw) := Lib.hid ⟨d5, S5, Dk.below HD5.out.1 hb6, HD5.out.2.1.below hb6, HD5.out.2.2.1, HD5.out.2.2.2.trans (hb6.mono HD5.out.2.2.2.size)⟩
                clear hb6 HLR HD5
                go_wp2_with fail
                go_roundw
                case rel => exact ⟨k + 1, by omega, by go_num, HD6.out⟩
                case measure => simp [Go.RowKit.intOf]; omega
              · obtain rfl : k = N := by omega
                have HB5 := Lib.hid hb5
                clear hd5 hr5 hn5 hb5
                go_wp2_with fail
                go_ret
                exact ⟨rfl, HB5.out⟩
          · have h0i : (n : Int) = 0 := by omega
            go_wp2_with fail
            go_loopw [17] (fun i wr => ∃ k : Nat, k ≤ N ∧ i = .int .i64 k ∧ DL w wr N g gs gm r bs bw) (fun i _ => N - (Go.RowKit.intOf i).toNat)
            case atStart => exact ⟨0, by omega, rfl, HDL.out⟩
            case round =>
              obtain ⟨k, hk, rfl, d5, S5, hd5, hr5, hn5, hb5⟩ := hrel
              clear HDL
              by_cases hlt : k < N
              · have HLR := Lib.hid (lread_any wr S5 g gs gm r bs bw d5 k hd5 hr5 (by omega))
                have HD5 := Lib.hid (And.intro hd5 (And.intro hr5 (And.intro hn5 hb5)))
                clear hd5 hr5 hn5 hb5
                unfold ptr at HLR
                go_wp2_with fail
                refine HLR.out.mono ?_
                rintro e w6 ⟨rfl, hb6⟩
                have HD6 : Hid (DL w w6 N g gs gm r bs bw) := Lib.hid ⟨d5, S5, Dk.below HD5.out.1 hb6, HD5.out.2.1.below hb6, HD5.out.2.2.1, HD5.out.2.2.2.trans (hb6.mono HD5.out.2.2.2.size)⟩
                clear hb6 HLR HD5
                go_wp2_with fail
                go_roundw
                case rel => exact ⟨k + 1, by omega, by go_num, HD6.out⟩
                case measure => simp [Go.RowKit.intOf]; omega
              · obtain rfl : k = N := by omega
                have HB5 := Lib.hid hb5
                clear hd5 hr5 hn5 hb5
                go_wp2_with fail
                go_ret
                exact ⟨rfl, HB5.out⟩
end Go.Proofs.YtdjhlhellkajfaaGreat.Jou
