/-
  Texts RGr2, in one file. What each proves, and its conditions, stand at its head below.
-/
import Derived.Test.YtdjhlhellkajfaaGreatM35
/-
  The document's journal: the groups of a half, walked. Conditions: the disk is known whole, its power is on.
-/
namespace Go.Proofs.YtdjhlhellkajfaaGreat.Jou
open Go.RowKit Codec FrameM Cod JourM
open Disk (Turn Dk Dsk ptr Now upd)
set_option maxRecDepth 100000
theorem itm_own {w : World} {base base2 n c : Nat} {A : Option Addr} {xs : List UInt8} (h : Owns w base2 (.slice A n c) n xs) (hb : base ≤ base2) : Itm w base (.slice A n c) xs := by
  obtain ⟨A', c', e, h1, h2⟩ := h.form
  injection e with _ _ e3
  subst e3
  exact itm_of h.byts h1 h2 ((own_above h).mono hb) (Frm.own_u8 h)
def RGrs (w : World) (ls : List (List UInt8)) (e : Ending) (w' : World) : Prop := ∃ A c, e = .returned (.slice A ls.length c) ∧ NewRows w w' A ls.length ls ∧ Below w.heap.size w w'
set_option maxHeartbeats 8000000 in
theorem rgroups_any (w : World) (S : List Nat) (r bs bw : Nat) (d : Dsk) (gen : Nat) (h : Rk w S r bs bw d) (ho : d.off = false) (h8 : 8 ≤ d.n) (hg : gen < 9223372036854775808) : Calls Tryz.prog 63 #[ptr r, .int .i64 gen] w (RGrs w (groups (rd d) d.n gen)) := by
  have HD := Lib.hid h
  have h65 := h.ok.2.1
  have HN := Lib.hid (And.intro h8 h65)
  have hR65 : room d.n ≤ 65536 := by unfold room; omega
  have HRM := Lib.hid (fun u (hu : Rk u S r bs bw d) => rroom_any u S r bs bw d hu (by omega))
  have HFI := Lib.hid (fun u (hu : Rk u S r bs bw d) => first_any u S r bs bw d gen hu (by omega))
  have HRD := Lib.hid (fun u i (hu : Rk u S r bs bw d) (hi : i < d.n) => rread_it u S r bs bw d i hu ho hi)
  have HG := Lib.hid hg
  clear h ho h8 h65 hg
  unfold ptr at *
  go_enter Tryz.func63, Tryz.ntmps63
  go_wp2_with fail
  go_loopw [5, 6, 7, 8, 9, 10, 11, 12, 13, 14, 15, 16, 17] (fun out at_ _ _ _ _ _ _ _ _ _ _ _ wr => ∃ (pos : Nat) (A : Option Addr) (c : Nat) (gs : List (List UInt8)), at_ = .int .i64 pos ∧ out = .slice A gs.length c ∧ OR wr w.heap.size (.slice A gs.length c) gs.length gs ∧ gs.length ≤ pos ∧ pos ≤ room d.n ∧ groups (rd d) d.n gen = gs ++ groupsF (rd d) d.n gen (room d.n + 1) pos gs.length ∧ Below w.heap.size w wr) (fun _ at_ _ _ _ _ _ _ _ _ _ _ _ _ => room d.n + 1 - (Go.RowKit.intOf at_).toNat)
  case atStart => exact ⟨0, none, 0, [], rfl, rfl, OR.nil, by simp, Nat.zero_le _, by simp [groups], Below.refl _ _⟩
  case round =>
    obtain ⟨pos, A, c, gs, rfl, rfl, hor, hsq, hpos, heq, hbel⟩ := hrel
    have HOR := Lib.hid hor
    have HEQ := Lib.hid heq
    have HB := Lib.hid hbel
    have HRK := Lib.hid (HD.out.below hbel)
    have HEND : Hid (groupsF (rd d) d.n gen (room d.n + 1) pos gs.length = [] → ∀ w' : World, Below wr.heap.size wr w' → RGrs w (groups (rd d) d.n gen) (.returned (.slice A gs.length c)) w') := Lib.hid (fun he w' hw' => by
      rw [HEQ.out, he, List.append_nil]
      exact ⟨A, c, rfl, fun S' hS' => (HOR.out.below hw').rows hS', HB.out.trans (hw'.mono HB.out.size)⟩)
    clear hor heq hbel
    generalize hsqe : gs.length = sq at *
    have HSQ := Lib.hid hsqe
    clear hsqe
    by_cases hlt : pos < room d.n
    · have hPl : secAt d.n gen pos < d.n := sec_lt (by have := HN.out.1; omega) hlt
      have hPI : ((secAt d.n gen 0 : Nat) : Int) + (pos : Int) = (secAt d.n gen pos : Nat) := by rw [← Nat.zero_add pos, sec_add, Nat.zero_add]; push_cast; rfl
      have hrdx : d.read (secAt d.n gen pos) = rd d (secAt d.n gen pos) := by unfold rd; rw [if_pos hPl]
      have HREAD := Lib.hid (HRD.out wr (secAt d.n gen pos) HRK.out hPl)
      rw [hrdx] at HREAD
      have hmp := getM_pos (rd d (secAt d.n gen pos))
      have HSEC : Hid (∀ i : Nat, secAt d.n gen (pos + 1 + i) = secAt d.n gen pos + 1 + i) := Lib.hid (fun i => by rw [Nat.add_assoc, sec_add]; omega)
      have HGB : Hid (gB (rd d) d.n gen pos sq = (gFit (rd d) d.n gen pos && (gUn (rd d) d.n gen pos && gMk (rd d) d.n gen pos sq))) := Lib.hid rfl
      have HGF : Hid (gFit (rd d) d.n gen pos = (getB (rd d (secAt d.n gen pos)) && decide (need (gLen (rd d) d.n gen pos) + pos < room d.n))) := Lib.hid rfl
      have HGU : Hid (gUn (rd d) d.n gen pos = unpackB (gSecs (rd d) d.n gen pos) (gLen (rd d) d.n gen pos)) := Lib.hid rfl
      have HGX : Hid (gX (rd d) d.n gen pos = unpack (gSecs (rd d) d.n gen pos) (gLen (rd d) d.n gen pos)) := Lib.hid rfl
      have HGM : Hid (gMk (rd d) d.n gen pos sq = (getM (rd d (secAt d.n gen pos))).eq (markM gen sq (gX (rd d) d.n gen pos))) := Lib.hid rfl
      have HRS : Hid (gSecs (rd d) d.n gen pos = (List.range (need (gLen (rd d) d.n gen pos))).map fun i => rd d (secAt d.n gen pos + 1 + i)) := Lib.hid (by
        have : ∀ i, secAt d.n gen (pos + 1 + i) = secAt d.n gen pos + 1 + i := HSEC.out
        unfold gSecs gRows
        simp only [this])
      have HXL : Hid (gUn (rd d) d.n gen pos = true → (gX (rd d) d.n gen pos).length = gLen (rd d) d.n gen pos) := Lib.hid (fun h => gX_length h)
      have hL : (getM (rd d (secAt d.n gen pos))).n / 4294967296 = ((gLen (rd d) d.n gen pos : Nat) : Int) := by unfold gLen; omega
      have hLb : (gLen (rd d) d.n gen pos : Int) ≤ 2147483648 := by omega
      have HSTEP : Hid (gB (rd d) d.n gen pos sq = true → groupsF (rd d) d.n gen (room d.n + 1) pos sq = gX (rd d) d.n gen pos :: groupsF (rd d) d.n gen (room d.n + 1) (pos + takes1 (gX (rd d) d.n gen pos)) (sq + 1)) := Lib.hid (fun h => groups_step h)
      have HSTOP : Hid (gB (rd d) d.n gen pos sq = false → groupsF (rd d) d.n gen (room d.n + 1) pos sq = []) := Lib.hid (fun h => groups_stop h)
      have hs66 : secAt d.n gen 0 ≤ secAt d.n gen pos := by unfold secAt; omega
      have hs65 : secAt d.n gen 0 ≤ 65536 := by have := HN.out.2; omega
      generalize gB (rd d) d.n gen pos sq = RB at *
      generalize gFit (rd d) d.n gen pos = RF at *
      generalize gUn (rd d) d.n gen pos = RU at *
      generalize gMk (rd d) d.n gen pos sq = RM at *
      generalize gX (rd d) d.n gen pos = RX at *
      generalize gSecs (rd d) d.n gen pos = LS at *
      generalize gLen (rd d) d.n gen pos = L at *
      generalize hokk : getB (rd d (secAt d.n gen pos)) = ok at *
      generalize hMM : getM (rd d (secAt d.n gen pos)) = M at *
      have HEQM := Lib.hid (eq_cases M (markM gen sq RX))
      generalize rd d (secAt d.n gen pos) = xs at *
      have HPN : Hid (secAt d.n gen pos + takes1 [] ≤ d.n) := Lib.hid (by unfold takes1 need; simp; omega)
      have HPE : Hid (∀ i, i < need L → need L + pos < room d.n → secAt d.n gen pos + 1 + i < d.n) := Lib.hid (fun i hi hf => by
        rw [← HSEC.out i]
        exact sec_lt (by have := HN.out.1; omega) (by omega))
      clear hrdx HSEC
      generalize secAt d.n gen pos = P at *
      generalize secAt d.n gen 0 = P0 at *
      obtain ⟨m0, m1, m2, m3⟩ := M
      try dsimp only at hL
      try dsimp only at hmp
      try dsimp only at HEQM
      have hPb : P < 65536 := by have := HN.out.2; omega
      obtain ⟨hq1, hq2, h30, h31⟩ := hmp
      go_wp2_with (first
        | (go_at_call 30; refine (HRM.out _ HRK.out).mono ?_; rintro e u ⟨rfl, rfl⟩)
        | (go_at_call 60; refine (HFI.out _ HRK.out).mono ?_; rintro e u ⟨rfl, rfl⟩))
      refine HREAD.out.mono ?_
      rintro e w1 ⟨A1, c1, rfl, hnb, hc1, hm1, hb1, _, _⟩
      have HGT := Lib.hid (Frm.rget_any w1 w1.heap.size 64 c1 A1 xs (hnb [] (by simp)).byts (Nat.le_refl _) hc1 hm1)
      have HB1 := Lib.hid hb1
      rw [hMM, hokk] at HGT
      unfold Frm.tupV Frm.mkV at HGT
      try dsimp only at HGT
      clear hnb hc1 hm1 hb1 HREAD
      go_wp2_with fail
      refine HGT.out.mono ?_
      rintro e w2 ⟨rfl, hb2⟩
      have HB2 := Lib.hid (HB1.out.trans (hb2.mono HB1.out.size))
      clear hb2 HGT HB1
      go_upto_region 7 with fail
      have HMB : Hid ((w2.alloc (.cells #[.int .i64 m0, .int .i64 m1, .int .i64 m2, .int .i64 m3] 117)).heap[w2.heap.size]? = some (.cells #[.int .i64 m0, .int .i64 m1, .int .i64 m2, .int .i64 m3] 117 (0, 0))) := Lib.hid (heap_alloc_new w2 _)
      have HB3 := Lib.hid (HB2.out.alloc HB2.out.size (.cells #[.int .i64 m0, .int .i64 m1, .int .i64 m2, .int .i64 m3] 117))
      have HML : Hid (wr.heap.size ≤ w2.heap.size) := Lib.hid HB2.out.size
      clear HB2
      generalize w2.alloc (.cells #[.int .i64 m0, .int .i64 m1, .int .i64 m2, .int .i64 m3] 117) = w3 at *
      generalize w2.heap.size = mb at *
      have k0 : w3.cell? ⟨mb, 0, none⟩ = some (.int .i64 m0) := cell_at HMB.out 0
      have k1 : w3.cell? ⟨mb, 1, none⟩ = some (.int .i64 m1) := cell_at HMB.out 1
      have k2 : w3.cell? ⟨mb, 2, none⟩ = some (.int .i64 m2) := cell_at HMB.out 2
      have HRK3 := Lib.hid (HRK.out.below HB3.out)
      have HND := Lib.hid (fun u => Frm.rneed_any (L : Int) u (by unfold in64; omega))
      rw [needI_nat] at HND
      have hnd : need L ≤ 33554433 := by unfold need; omega
      have HE2 : Hid (RB = true → ok = true ∧ m0 = 2 ∧ m1 = gen ∧ m2 = sq ∧ L ≤ 1048576 ∧ need L + pos < room d.n) := Lib.hid (fun hb => by
        rw [HGB.out, HGF.out, HGU.out, HGM.out] at hb
        simp only [Bool.and_eq_true, decide_eq_true_eq] at hb
        obtain ⟨⟨h1, h2⟩, h3, h4⟩ := hb
        rcases HEQM.out with ⟨_, e0, e1, e2, _⟩ | ⟨e, _⟩
        · unfold unpackB at h3
          simp only [Bool.and_eq_true, decide_eq_true_eq] at h3
          exact ⟨h1, by simpa [markM] using e0, by simpa [markM] using e1, by simpa [markM] using e2, by omega, h2⟩
        · rw [e] at h4
          cases h4)
      have HPI := Lib.hid (And.intro hPI (And.intro hs65 hs66))
      clear hMM hokk hL hPI hs65 hs66 hq1 hq2
      go_cut [73] (fun v wx => w3 = wx ∧ ∃ v' : Bool, v = .bool v' ∧ (v' = true → RB = false) ∧ (v' = false → ok = true ∧ m0 = 2 ∧ m1 = gen ∧ m2 = sq ∧ L ≤ 1048576 ∧ need L + pos < room d.n))
      case first =>
        have HNO : Hid (¬ (ok = true ∧ m0 = 2 ∧ m1 = gen ∧ m2 = sq ∧ L ≤ 1048576 ∧ need L + pos < room d.n) → RB = false) := Lib.hid (fun h => by
          cases hb : RB
          · rfl
          · exact absurd (HE2.out hb) h)
        cases ok with
        | false =>
          go_wp2_with fail
          go_meet
          exact ⟨rfl, true, rfl, fun _ => HNO.out (by simp), fun h => (by cases h)⟩
        | true =>
          by_cases h0 : m0 = 2
          · subst h0
            by_cases h1 : m1 = (gen : Int)
            · subst h1
              by_cases h2 : m2 = (sq : Int)
              · subst h2
                by_cases h3 : (1048576 : Int) < (L : Int)
                · go_wp2_with fail
                  go_meet
                  exact ⟨rfl, true, rfl, fun _ => HNO.out (by omega), fun h => (by cases h)⟩
                · by_cases h4 : (room d.n : Int) < (pos : Int) + 1 + (need L : Int)
                  · go_wp2_with (first
                    | (go_at_call 68; refine (HND.out _).mono ?_; rintro e u ⟨rfl, rfl⟩)
                    | (go_at_call 30; refine (HRM.out _ HRK3.out).mono ?_; rintro e u ⟨rfl, rfl⟩))
                    go_meet
                    exact ⟨rfl, true, rfl, fun _ => HNO.out (by omega), fun h => (by cases h)⟩
                  · go_wp2_with (first
                    | (go_at_call 68; refine (HND.out _).mono ?_; rintro e u ⟨rfl, rfl⟩)
                    | (go_at_call 30; refine (HRM.out _ HRK3.out).mono ?_; rintro e u ⟨rfl, rfl⟩))
                    go_meet
                    exact ⟨rfl, false, by simp; omega, fun h => (by cases h), fun _ => ⟨(by first | rfl | trivial), (by first | rfl | trivial), (by first | rfl | trivial), (by first | rfl | trivial), by omega, by omega⟩⟩
              · have h2' : (m2 != (sq : Int)) = true := by simpa using h2
                go_wp2_with fail
                go_meet
                exact ⟨rfl, true, rfl, fun _ => HNO.out (by omega), fun h => (by cases h)⟩
            · have h1' : (m1 != (gen : Int)) = true := by simpa using h1
              go_wp2_with fail
              go_meet
              exact ⟨rfl, true, rfl, fun _ => HNO.out (by omega), fun h => (by cases h)⟩
          · have h0' : (m0 != 2) = true := by simpa using h0
            go_wp2_with fail
            go_meet
            exact ⟨rfl, true, rfl, fun _ => HNO.out (by omega), fun h => (by cases h)⟩
      case rest =>
        obtain ⟨hwx, v', rfl, hv1, hv2⟩ := hcut
        subst hwx
        cases v' with
        | true =>
          have HE := Lib.hid (HEND.out (HSTOP.out (hv1 rfl)) w3 HB3.out)
          clear hv1 hv2
          go_wp2_with fail
          go_ret
          exact HE.out
        | false =>
          obtain ⟨rfl, rfl, rfl, rfl, hLm, hfit⟩ := hv2 rfl
          clear hv1 hv2 k0 k1 k2
          obtain ⟨wo, rfl⟩ : ∃ q : World, q = wr := ⟨_, rfl⟩
          go_wp2_with fail
          go_loopw [12, 13, 14, 15] (fun lv iv _ _ wi => ∃ (i : Nat) (A2 : Option Addr) (c2 : Nat), iv = .int .i64 i ∧ i ≤ need L ∧ lv = .slice A2 i c2 ∧ OR wi w3.heap.size (.slice A2 i c2) i (LS.take i) ∧ Below w3.heap.size w3 wi) (fun _ iv _ _ _ => need L - (Go.RowKit.intOf iv).toNat)
          case atStart => exact ⟨0, none, 0, rfl, Nat.zero_le _, rfl, by simpa using OR.nil, Below.refl _ _⟩
          case round =>
            obtain ⟨i, A2, c2, rfl, hi, rfl, hor, hbi⟩ := hrel
            have HOI := Lib.hid hor
            have HBI := Lib.hid hbi
            have HRKi := Lib.hid (HRK3.out.below hbi)
            clear hor hbi
            by_cases hil : i < need L
            · obtain ⟨hPI, hs65, hs66⟩ := HPI.out
              have hrl : P + 1 + i < d.n := HPE.out i hil hfit
              have hrx : d.read (P + 1 + i) = rd d (P + 1 + i) := by unfold rd; rw [if_pos hrl]
              have HRI := Lib.hid (HRD.out wr (P + 1 + i) HRKi.out hrl)
              rw [hrx] at HRI
              have hLt : LS.take (i + 1) = LS.take i ++ [rd d (P + 1 + i)] := by
                have hl : LS.length = need L := by rw [HRS.out]; simp
                rw [List.take_succ_eq_append_getElem (by omega)]
                congr 2
                have : LS[i]? = some (rd d (P + 1 + i)) := by rw [HRS.out]; simp [hil]
                rw [List.getElem?_eq_getElem (by omega)] at this
                simpa using this
              have HLT := Lib.hid hLt
              push_cast at HRI
              have hPs : (P : Int) + 1 + (i : Int) ≤ 200000 := by have := HN.out.2; omega
              clear hrl hrx hLt
              generalize rd d (P + 1 + i) = xi at *
              go_wp2_with (first
                | (go_at_call 68; refine (HND.out _).mono ?_; rintro e u ⟨rfl, rfl⟩)
                | (go_at_call 60; refine (HFI.out _ HRKi.out).mono ?_; rintro e u ⟨rfl, rfl⟩))
              refine HRI.out.mono ?_
              rintro e w5 ⟨A5, c5, rfl, hnb, hc5, hm5, hb5, ha5, hu5⟩
              have HIT : Hid (Itm w5 w3.heap.size (.slice A5 64 c5) xi) := Lib.hid (itm_of (hnb [] (by simp)).byts hc5 hm5 (ha5.mono HBI.out.size) hu5)
              have HO5 := Lib.hid (HOI.out.below hb5)
              have HB5 := Lib.hid (HBI.out.trans (hb5.mono HBI.out.size))
              clear hnb hc5 hm5 hb5 ha5 hu5 HRI HOI HBI hPI hs65 hs66
              go_wp2_with (at_builtin; (refine wpList_app_or _ rfl (.tmp 94) (.tmp 96) rfl w3.heap.size (.slice A2 i c2) i (LS.take i) rfl (HO5.out.below (Frm.alloc_below w5 _)) w5.heap.size A5 64 c5 xi rfl (heap_alloc_new w5 _) (HIT.out.below (Frm.alloc_below w5 _)) (by omega) (by rw [World.size_alloc]; have := HB5.out.size; omega) ?_); intro A6 c6 w6 ho6 hb6 _; have HO6 := Lib.hid ho6; have HB6 := Lib.hid ((HB5.out.alloc HB5.out.size _).trans hb6); clear ho6 hb6)
              go_roundw
              case rel => exact ⟨i + 1, A6, c6, by go_num, by omega, rfl, by rw [HLT.out]; exact HO6.out, HB6.out⟩
              case measure => simp [Go.RowKit.intOf]; omega
            · obtain rfl : i = need L := by omega
              have hLa : LS.take (need L) = LS := List.take_of_length_le (by rw [HRS.out]; simp)
              have HUN := Lib.hid (Frm.runpack_any wr (need L) c2 A2 LS (L : Int) (by unfold in64; omega) (by have := HOI.out.rows (S := []) (by simp); rw [hLa] at this; exact this.rows))
              rw [← HGX.out, ← HGU.out] at HUN
              clear hLa HOI hi
              go_wp2_with (first
                | (go_at_call 68; refine (HND.out _).mono ?_; rintro e u ⟨rfl, rfl⟩)
                | (go_at_call 60; refine (HFI.out _ HRKi.out).mono ?_; rintro e u ⟨rfl, rfl⟩))
              refine HUN.out.mono ?_
              rintro e w7 ⟨A7, m7, c7, rfl, hy7, hb7⟩
              have HY7 := Lib.hid hy7
              have HB7 := Lib.hid (HBI.out.trans (hb7.mono HBI.out.size))
              have HM7 := Lib.hid ((HB7.out.block mb (lt_of_heap HMB.out)).trans HMB.out)
              clear hy7 hb7 HUN HBI
              go_upto_region 16 with fail
              go_cut [114] (fun v wx => Below w7.heap.size w7 wx ∧ v = .bool (!RB))
              case first =>
                rcases Bool.eq_false_or_eq_true RU with hU | hU
                rotate_left
                · have HU := Lib.hid hU
                  have HRBV : Hid (RB = false) := Lib.hid (by rw [HGB.out, hU]; simp)
                  clear hU
                  have HS : Hid (w7.drew.heap[mb]? = some (.cells #[.int .i64 2, .int .i64 gen, .int .i64 sq, .int .i64 m3] 117 (0, 0))) := Lib.hid HM7.out
                  have HB0 := Lib.hid (Below.refl w7.heap.size w7).drew
                  have HY0 := Lib.hid (HY7.out.below HB0.out)
                  refine Frm.wh_start (fun u => u.heap[mb]? = some (.cells #[.int .i64 2, .int .i64 gen, .int .i64 sq, .int .i64 m3] 117 (0, 0))) (by kernel_rfl) ?_
                  generalize w7.drew = u0 at *
                  refine Frm.wh_take 0 104 (.bool RU) rfl rfl (by kernel_rfl) (fun _ _ _ h => h) rfl (HS.out) (fun w' hw' => ?_) ?_
                  · exact rfl
                  go_frame
                  refine Frm.wh_take 1 105 (.bool true) rfl rfl (by kernel_rfl) (fun _ _ _ h => h) rfl (HS.out) (fun w' hw' => ?_) ?_
                  · have hu := HU.out
                    go_simp
                  go_frame
                  refine Frm.wh_take 2 106 (.bool true) rfl rfl (by kernel_rfl) (fun _ _ _ h => h) rfl (HS.out) (fun w' hw' => ?_) ?_
                  · exact rfl
                  go_frame
                  refine Frm.wh_pass 3 107 rfl rfl (by kernel_rfl) (fun _ _ _ h => h) rfl (HS.out) ?_
                  go_frame
                  refine Frm.wh_pass 4 108 rfl rfl (by kernel_rfl) (fun _ _ _ h => h) rfl (HS.out) ?_
                  go_frame
                  refine Frm.wh_pass 5 109 rfl rfl (by kernel_rfl) (fun _ _ _ h => h) rfl (HS.out) ?_
                  go_frame
                  refine Frm.wh_pass 6 110 rfl rfl (by kernel_rfl) (fun _ _ _ h => h) rfl (HS.out) ?_
                  go_frame
                  refine Frm.wh_pass 7 111 rfl rfl (by kernel_rfl) (fun _ _ _ h => h) rfl (HS.out) ?_
                  go_frame
                  refine Frm.wh_pass 8 112 rfl rfl (by kernel_rfl) (fun _ _ _ h => h) rfl (HS.out) ?_
                  go_frame
                  refine Frm.wh_pass 9 113 rfl rfl (by kernel_rfl) (fun _ _ _ h => h) rfl (HS.out) ?_
                  go_frame
                  refine Frm.wh_take 10 114 (.bool true) rfl rfl (by kernel_rfl) (fun _ _ _ h => h) rfl (HS.out) (fun w' hw' => ?_) ?_
                  · go_simp
                  go_frame
                  refine wpAnyH_done (by kernel_rfl) ?_ _
                  go_wp2_with fail
                  go_meet
                  exact ⟨HB0.out, by rw [HRBV.out]; rfl⟩
                · have HU := Lib.hid hU
                  have hXL := HXL.out hU
                  have HM7L : Hid (m7 ≤ 1048576) := Lib.hid (by have := HY7.out.len; omega)
                  obtain ⟨mn, hmn⟩ : ∃ q, (markM gen sq RX).n = q := ⟨_, rfl⟩
                  have HMV : Hid (Frm.mkV (markM gen sq RX) = .agg #[.int .i64 2, .int .i64 gen, .int .i64 sq, .int .i64 mn]) := Lib.hid (by rw [← hmn]; rfl)
                  by_cases hq0 : mn = m3
                  · have HRBV : Hid (RB = true) := Lib.hid (by
                      rw [HGB.out, HGF.out, hU, HGM.out]
                      rcases HEQM.out with ⟨e, _⟩ | ⟨_, e⟩
                      · rw [e]; simp; omega
                      · rcases e with e | ⟨_, e⟩ | ⟨_, _, e⟩ | ⟨_, _, _, e⟩
                        · simp [markM] at e
                        · simp [markM] at e
                        · simp [markM] at e
                        · rw [hmn, hq0] at e; simp at e)
                    have HQ : Hid ((mn == m3) = true) := Lib.hid (by simpa using hq0)
                    clear hU hXL hmn
                    have HS : Hid (w7.drew.heap[mb]? = some (.cells #[.int .i64 2, .int .i64 gen, .int .i64 sq, .int .i64 m3] 117 (0, 0))) := Lib.hid HM7.out
                    have HB0 := Lib.hid (Below.refl w7.heap.size w7).drew
                    have HY0 := Lib.hid (HY7.out.below HB0.out)
                    refine Frm.wh_start (fun u => u.heap[mb]? = some (.cells #[.int .i64 2, .int .i64 gen, .int .i64 sq, .int .i64 m3] 117 (0, 0))) (by kernel_rfl) ?_
                    generalize w7.drew = u0 at *
                    refine Frm.wh_take 0 104 (.bool RU) rfl rfl (by kernel_rfl) (fun _ _ _ h => h) rfl (HS.out) (fun w' hw' => ?_) ?_
                    · exact rfl
                    go_frame
                    refine Frm.wh_take 1 105 (.bool false) rfl rfl (by kernel_rfl) (fun _ _ _ h => h) rfl (HS.out) (fun w' hw' => ?_) ?_
                    · have hu := HU.out
                      go_simp
                    go_frame
                    refine Frm.wh_take 2 106 (.bool false) rfl rfl (by kernel_rfl) (fun _ _ _ h => h) rfl (HS.out) (fun w' hw' => ?_) ?_
                    · exact rfl
                    go_frame
                    refine Frm.wh_take 3 107 (.int .i64 gen) rfl rfl (by kernel_rfl) (fun _ _ _ h => h) rfl (HS.out) (fun w' hw' => ?_) ?_
                    · exact rfl
                    go_frame
                    refine Frm.wh_take 4 108 (.slice A sq c) rfl rfl (by kernel_rfl) (fun _ _ _ h => h) rfl (HS.out) (fun w' hw' => ?_) ?_
                    · exact rfl
                    go_frame
                    refine Frm.wh_take 5 109 (.int .i64 sq) rfl rfl (by kernel_rfl) (fun _ _ _ h => h) rfl (HS.out) (fun w' hw' => ?_) ?_
                    · go_simp
                    go_frame
                    refine Frm.wh_take 6 110 (.slice A7 m7 c7) rfl rfl (by kernel_rfl) (fun _ _ _ h => h) rfl (HS.out) (fun w' hw' => ?_) ?_
                    · exact rfl
                    go_frame
                    refine Frm.wh_take 8 112 (.agg #[.int .i64 2, .int .i64 gen, .int .i64 sq, .int .i64 m3]) rfl rfl (by kernel_rfl) (fun _ _ _ h => h) rfl (HS.out) (fun w' hw' => ?_) ?_
                    · have k0 := cell_at hw' 0
                      have k1 := cell_at hw' 1
                      have k2 := cell_at hw' 2
                      have k3 := cell_at hw' 3
                      go_simp
                    go_frame
                    have HMC := Lib.hid (rmark_any u0 gen sq u0.heap.size m7 c7 A7 RX (HY0.out.more HB0.out.size) (Nat.le_refl _) HM7L.out)
                    rw [HMV.out] at HMC
                    refine Frm.wh_call 7 111 70 #[.int .i64 gen, .int .i64 sq, .slice A7 m7 c7] rfl rfl (by kernel_rfl) rfl ?_ ?_
                    · go_simp
                    refine HMC.out.mono ?_
                    rintro e w8 ⟨rfl, hb8⟩
                    have HS := Lib.hid ((hb8.block mb (lt_of_heap HS.out)).trans HS.out)
                    have HB0 := Lib.hid (HB0.out.trans (hb8.mono HB0.out.size))
                    clear hb8
                    refine ⟨_, rfl, HS.out, ?_⟩
                    go_frame
                    refine Frm.wh_take 9 113 (.bool false) rfl rfl (by kernel_rfl) (fun _ _ _ h => h) rfl (HS.out) (fun w' hw' => ?_) ?_
                    · have hq := HQ.out
                      go_simp
                    go_frame
                    refine Frm.wh_take 10 114 (.bool false) rfl rfl (by kernel_rfl) (fun _ _ _ h => h) rfl (HS.out) (fun w' hw' => ?_) ?_
                    · go_simp
                    go_frame
                    refine wpAnyH_done (by kernel_rfl) ?_ _
                    go_wp2_with fail
                    go_meet
                    exact ⟨HB0.out, by rw [HRBV.out]; rfl⟩
                  · have HRBV : Hid (RB = false) := Lib.hid (by
                      rw [HGB.out, HGM.out]
                      rcases HEQM.out with ⟨_, _, _, _, e⟩ | ⟨e, _⟩
                      · rw [hmn] at e; exact absurd (by simpa using e) (fun h : m3 = mn => hq0 h.symm)
                      · rw [e]; simp)
                    have HQ : Hid ((mn == m3) = false) := Lib.hid (by simpa using hq0)
                    clear hU hXL hmn
                    have HS : Hid (w7.drew.heap[mb]? = some (.cells #[.int .i64 2, .int .i64 gen, .int .i64 sq, .int .i64 m3] 117 (0, 0))) := Lib.hid HM7.out
                    have HB0 := Lib.hid (Below.refl w7.heap.size w7).drew
                    have HY0 := Lib.hid (HY7.out.below HB0.out)
                    refine Frm.wh_start (fun u => u.heap[mb]? = some (.cells #[.int .i64 2, .int .i64 gen, .int .i64 sq, .int .i64 m3] 117 (0, 0))) (by kernel_rfl) ?_
                    generalize w7.drew = u0 at *
                    refine Frm.wh_take 0 104 (.bool RU) rfl rfl (by kernel_rfl) (fun _ _ _ h => h) rfl (HS.out) (fun w' hw' => ?_) ?_
                    · exact rfl
                    go_frame
                    refine Frm.wh_take 1 105 (.bool false) rfl rfl (by kernel_rfl) (fun _ _ _ h => h) rfl (HS.out) (fun w' hw' => ?_) ?_
                    · have hu := HU.out
                      go_simp
                    go_frame
                    refine Frm.wh_take 2 106 (.bool false) rfl rfl (by kernel_rfl) (fun _ _ _ h => h) rfl (HS.out) (fun w' hw' => ?_) ?_
                    · exact rfl
                    go_frame
                    refine Frm.wh_take 3 107 (.int .i64 gen) rfl rfl (by kernel_rfl) (fun _ _ _ h => h) rfl (HS.out) (fun w' hw' => ?_) ?_
                    · exact rfl
                    go_frame
                    refine Frm.wh_take 4 108 (.slice A sq c) rfl rfl (by kernel_rfl) (fun _ _ _ h => h) rfl (HS.out) (fun w' hw' => ?_) ?_
                    · exact rfl
                    go_frame
                    refine Frm.wh_take 5 109 (.int .i64 sq) rfl rfl (by kernel_rfl) (fun _ _ _ h => h) rfl (HS.out) (fun w' hw' => ?_) ?_
                    · go_simp
                    go_frame
                    refine Frm.wh_take 6 110 (.slice A7 m7 c7) rfl rfl (by kernel_rfl) (fun _ _ _ h => h) rfl (HS.out) (fun w' hw' => ?_) ?_
                    · exact rfl
                    go_frame
                    refine Frm.wh_take 8 112 (.agg #[.int .i64 2, .int .i64 gen, .int .i64 sq, .int .i64 m3]) rfl rfl (by kernel_rfl) (fun _ _ _ h => h) rfl (HS.out) (fun w' hw' => ?_) ?_
                    · have k0 := cell_at hw' 0
                      have k1 := cell_at hw' 1
                      have k2 := cell_at hw' 2
                      have k3 := cell_at hw' 3
                      go_simp
                    go_frame
                    have HMC := Lib.hid (rmark_any u0 gen sq u0.heap.size m7 c7 A7 RX (HY0.out.more HB0.out.size) (Nat.le_refl _) HM7L.out)
                    rw [HMV.out] at HMC
                    refine Frm.wh_call 7 111 70 #[.int .i64 gen, .int .i64 sq, .slice A7 m7 c7] rfl rfl (by kernel_rfl) rfl ?_ ?_
                    · go_simp
                    refine HMC.out.mono ?_
                    rintro e w8 ⟨rfl, hb8⟩
                    have HS := Lib.hid ((hb8.block mb (lt_of_heap HS.out)).trans HS.out)
                    have HB0 := Lib.hid (HB0.out.trans (hb8.mono HB0.out.size))
                    clear hb8
                    refine ⟨_, rfl, HS.out, ?_⟩
                    go_frame
                    refine Frm.wh_take 9 113 (.bool true) rfl rfl (by kernel_rfl) (fun _ _ _ h => h) rfl (HS.out) (fun w' hw' => ?_) ?_
                    · have hq := HQ.out
                      go_simp
                    go_frame
                    refine Frm.wh_take 10 114 (.bool true) rfl rfl (by kernel_rfl) (fun _ _ _ h => h) rfl (HS.out) (fun w' hw' => ?_) ?_
                    · go_simp
                    go_frame
                    refine wpAnyH_done (by kernel_rfl) ?_ _
                    go_wp2_with fail
                    go_meet
                    exact ⟨HB0.out, by rw [HRBV.out]; rfl⟩
              case rest =>
                obtain ⟨hbx, rfl⟩ := hcut
                have HB8 := Lib.hid (HB3.out.trans ((HB7.out.trans (hbx.mono HB7.out.size)).mono HB3.out.size))
                have HY8 := Lib.hid ((HY7.out.below hbx).more hbx.size)
                clear hbx HB7 HY7 HM7
                cases hRB : RB with
                | false =>
                  have HE := Lib.hid (HEND.out (HSTOP.out hRB) wc HB8.out)
                  clear hRB
                  go_wp2_with fail
                  go_ret
                  exact HE.out
                | true =>
                  have hRU : RU = true := by rw [HGB.out] at hRB; simp only [Bool.and_eq_true] at hRB; exact hRB.2.1
                  have hXL := HXL.out hRU
                  have hm7 : RX.length = m7 := HY8.out.len
                  obtain rfl : m7 = L := by omega
                  have HT1 : Hid (takes1 RX = 1 + need m7) := Lib.hid (by unfold takes1; rw [hXL])
                  have HST := Lib.hid (HSTEP.out hRB)
                  rw [HT1.out] at HST
                  have HO8 := Lib.hid (HOR.out.below HB8.out)
                  have HB9 := Lib.hid (HB.out.trans (HB8.out.mono HB.out.size))
                  have HOn : Hid (Owns (wc.alloc (.cells #[] 5)) wc.heap.size (.slice (some ⟨wc.heap.size, 0, none⟩) 0 0) 0 []) := Lib.hid (World.ownsRow_made wc #[] 0 (Nat.le_refl _) (Nat.zero_le _) rfl)
                  have HBa := Lib.hid (Frm.alloc_below wc (.cells #[] 5))
                  clear hRB hRU hXL hm7
                  go_wp2_with (at_builtin; first
                    | (refine wpList_app_k _ rfl (.tmp 117) (.tmp 118) rfl wc.heap.size (.slice (some ⟨wc.heap.size, 0, none⟩) 0 0) 0 [] rfl HOn.out wc.heap.size A7 m7 c7 RX rfl (HY8.out.below HBa.out) m7 (by omega) (by omega) HBa.out.size ?_; intro A9 c9 w9 ho9 hg9; have HO9 : Hid (Owns w9 wc.heap.size (.slice A9 m7 c9) m7 RX) := Lib.hid (by simpa using ho9); have HBb := Lib.hid (HBa.out.trans (own_below HOn.out HBa.out.size hg9)); clear ho9 hg9)
                    | (refine wpList_app_or _ rfl (.tmp 116) (.tmp 120) rfl w.heap.size (.slice A sq c) sq gs rfl ((HO8.out.below HBb.out).below (Frm.alloc_below w9 _)) w9.heap.size A9 m7 c9 RX rfl (heap_alloc_new w9 _) (Itm.below (itm_own HO9.out HB9.out.size) (Frm.alloc_below w9 _)) (by omega) (by rw [World.size_alloc]; have := HB9.out.size; have := HBb.out.size; omega) ?_; intro Aa ca wa hoa hba _; have HOa := Lib.hid hoa; have HBc := Lib.hid (((HB9.out.trans (HBb.out.mono HB9.out.size)).alloc (by have := HB9.out.size; have := HBb.out.size; omega) _).trans hba); clear hoa hba))
                  go_roundw
                  case rel => exact ⟨pos + 1 + need m7, Aa, ca, gs ++ [RX], by push_cast; first | rfl | (congr 1; omega), by simp [HSQ.out], by simpa [HSQ.out] using HOa.out, by simp [HSQ.out]; omega, by omega, by rw [HEQ.out, HST.out, List.append_assoc]; simp [HSQ.out, Nat.add_assoc], HBc.out⟩
                  case measure => simp [Go.RowKit.intOf]; omega
    · have hst : gB (rd d) d.n gen pos sq = false := by
        unfold gB gFit
        have : decide (need (gLen (rd d) d.n gen pos) + pos < room d.n) = false := by simp; omega
        rw [this]
        simp
      have HE := Lib.hid (HEND.out (groups_stop hst) wr (Below.refl _ _))
      clear hst
      go_wp2_with (first
        | (go_at_call 30; refine (HRM.out _ HRK.out).mono ?_; rintro e u ⟨rfl, rfl⟩)
        | (go_at_call 60; refine (HFI.out _ HRK.out).mono ?_; rintro e u ⟨rfl, rfl⟩))
      go_ret
      exact HE.out
end Go.Proofs.YtdjhlhellkajfaaGreat.Jou
