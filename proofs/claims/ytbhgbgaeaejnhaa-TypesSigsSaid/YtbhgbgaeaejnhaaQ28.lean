/-
  The law of signatures. No condition but what comes in.
-/
import Derived.Test.YtbhgbgaeaejnhaaQ27
namespace Go.Proofs.Ytbhgbgaeaejnhaa.Typ
open Go.RowKit Tre Go.Sort Go.Shelf
open Lex (AtS at_take at_run at_call)
set_option maxRecDepth 100000
set_option linter.unusedSimpArgs false
/-- The boxes' cells. -/
def BX (f o : Fl) (fi ff oi of s : Nat) (W : World) : Prop := W.cell? ⟨s, 0, none⟩ = some (.string f.s) ∧ W.cell? ⟨s, 1, none⟩ = some (.slice f.ia fi f.ic) ∧ W.cell? ⟨s, 2, none⟩ = some (.slice f.fa ff f.fc) ∧ W.cell? ⟨s + 1, 0, none⟩ = some (.string o.s) ∧ W.cell? ⟨s + 1, 1, none⟩ = some (.slice o.ia oi o.ic) ∧ W.cell? ⟨s + 1, 2, none⟩ = some (.slice o.fa of o.fc)
/-- A signature's and a function's cells. -/
def TK (s b o b2 o2 : Nat) (v v0 v1 v2 v3 v4 v5 v6 : Value) (W : World) : Prop := W.cell? ⟨s, 2, none⟩ = some v ∧ W.cell? ⟨b, o, none⟩ = some v0 ∧ W.cell? ⟨b, o + 1, none⟩ = some v1 ∧ W.cell? ⟨b, o + 2, none⟩ = some v2 ∧ W.cell? ⟨b2, o2, none⟩ = some v3 ∧ W.cell? ⟨b2, o2 + 1, none⟩ = some v4 ∧ W.cell? ⟨b2, o2 + 2, none⟩ = some v5 ∧ W.cell? ⟨b2, o2 + 3, none⟩ = some v6
set_option maxHeartbeats 32000000 in
theorem typesSigs_any {w : World} {f o : Fl} {A0 : Option Addr} {c0 : Nat} {ys : List Int} (hf : FlIn w f) (ho : FlIn w o) (s : ByteArray) (hs : s.size ≤ maxLen) (hr : Row 1 tyC w A0 ys) (hl : ys.length ≤ most) :
    Calls Try.prog 3 #[flV f, flV o, .string s, .slice A0 ys.length c0] w (fun e w' => e = .returned (.bool true) ∧ Below w.heap.size w w') := by
  have HL0 : Hid (LS f o w ((w.alloc (.cells #[.string f.s, .slice f.ia f.i.length f.ic, .slice f.fa f.f.length f.fc] 25)).alloc (.cells #[.string o.s, .slice o.ia o.i.length o.ic, .slice o.fa o.f.length o.fc] 25))) := Lib.hid (LS.start f o w)
  have HF := Lib.hid (fun w' (h : Below w.heap.size w w') => hf.below h)
  have HO := Lib.hid (fun w' (h : Below w.heap.size w w') => ho.below h)
  have HR := Lib.hid (fun w' (h : Below w.heap.size w w') => hr.below h)
  have CLF := Lib.hid (fun w' (h : Below w.heap.size w w') => Lt.light_full f w' (hf.below h))
  have CLO := Lib.hid (fun w' (h : Below w.heap.size w w') => Lt.light_full o w' (ho.below h))
  have HSZ := hs
  unfold maxLen at HSZ
  unfold most at hl
  rw [flV_is, flV_is]
  simp only [flV_is] at CLF CLO
  have HBX : Hid (∀ wr, LS f o w wr → BX f o f.i.length f.f.length o.i.length o.f.length w.heap.size wr) := Lib.hid (fun wr h => h.cells)
  have HNF := Lib.hid (show f.i.length ≤ 100 ∧ f.f.length ≤ 100 → True from fun _ => trivial)
  obtain ⟨fi, hfi⟩ : ∃ n, f.i.length = n := ⟨_, rfl⟩
  obtain ⟨ff, hff⟩ : ∃ n, f.f.length = n := ⟨_, rfl⟩
  obtain ⟨oi, hoi⟩ : ∃ n, o.i.length = n := ⟨_, rfl⟩
  obtain ⟨of, hof⟩ : ∃ n, o.f.length = n := ⟨_, rfl⟩
  obtain ⟨yn, hyn⟩ : ∃ n, ys.length = n := ⟨_, rfl⟩
  have HFF := Lib.hid hff
  have HFI := Lib.hid hfi
  have HOI := Lib.hid hoi
  have HOFF := Lib.hid hof
  have HYN := Lib.hid hyn
  rw [hfi, hff, hoi, hof] at HL0 HBX
  rw [hfi, hff] at CLF
  rw [hoi, hof] at CLO
  rw [hyn] at hl
  rw [hfi, hff, hoi, hof, hyn]
  clear hf ho hr hs hfi hff hoi hof hyn HNF
  go_enter Try.func3, Try.ntmps3
  go_upto_region 1 with fail
  generalize (w.alloc (.cells #[.string f.s, .slice f.ia fi f.ic, .slice f.fa ff f.fc] 25)).alloc (.cells #[.string o.s, .slice o.ia oi o.ic, .slice o.fa of o.fc] 25) = W0 at *
  go_cut [33] (fun v wx => Hid (LS f o w wx) ∧ ∃ r : Bool, v = .bool r ∧ Hid (r = false → Lt.LightOk f ∧ Lt.LightOk o ∧ yn ≤ 50))
  case first =>
    obtain ⟨z0, z1, z2, z3, z4, z5⟩ := HBX.out W0 HL0.out
    have CF := Lib.hid (CLF.out W0 HL0.out.low)
    go_wp2_with fail
    refine CF.out.mono ?_
    rintro e1 w1 ⟨v1, rfl, hok1, hb1⟩
    have HL1 := Lib.hid (HL0.out.below hb1)
    have HOK1 := Lib.hid hok1
    clear z0 z1 z2 z3 z4 z5 hb1 hok1 CF
    cases v1 with
    | false =>
      go_wp2_with fail
      go_meet
      exact ⟨HL1, true, rfl, Lib.hid (fun h => by cases h)⟩
    | true =>
      have HK1 := Lib.hid (HOK1.out rfl)
      clear HOK1
      obtain ⟨z0, z1, z2, z3, z4, z5⟩ := HBX.out w1 HL1.out
      have CO := Lib.hid (CLO.out w1 HL1.out.low)
      go_wp2_with fail
      refine CO.out.mono ?_
      rintro e2 w2 ⟨v2, rfl, hok2, hb2⟩
      have HL2 := Lib.hid (HL1.out.below hb2)
      have HOK2 := Lib.hid hok2
      clear z0 z1 z2 z3 z4 z5 hb2 hok2 CO
      cases v2 with
      | false =>
        go_wp2_with fail
        go_meet
        exact ⟨HL2, true, rfl, Lib.hid (fun h => by cases h)⟩
      | true =>
        have HK2 := Lib.hid (HOK2.out rfl)
        clear HOK2
        by_cases h3 : 300 < s.size
        · go_wp2_with fail
          go_meet
          exact ⟨HL2, true, rfl, Lib.hid (fun h => by cases h)⟩
        · by_cases h5 : 50 < yn
          · have hd5 : decide ((50 : Int) < (yn : Int)) = true := decide_eq_true (by omega)
            go_wp2_with fail
            go_meet
            exact ⟨HL2, true, rfl, Lib.hid (fun h => by cases h)⟩
          · have hd3 : decide ((300 : Int) < (s.size : Int)) = false := decide_eq_false (by omega)
            have hd5 : decide ((50 : Int) < (yn : Int)) = false := decide_eq_false (by omega)
            go_wp2_with fail
            go_meet
            exact ⟨HL2, false, rfl, Lib.hid (fun _ => ⟨HK1.out, HK2.out, by omega⟩)⟩
  case rest =>
    obtain ⟨HL1, r, rfl, HOK⟩ := hcut
    clear HL0 CLF CLO
    cases r with
    | true =>
      have CK := Lib.hid (knows_any wc)
      go_wp2_with fail
      refine CK.out.mono ?_
      rintro e1 w1 ⟨rfl, hb1⟩
      have HB1 := Lib.hid (HL1.out.below hb1).low
      clear hb1
      go_wp2_with fail
      go_ret
      exact ⟨rfl, HB1.out⟩
    | false =>
      have HFo := Lib.hid (HOK.out rfl).1
      have HOo := Lib.hid (HOK.out rfl).2.1
      have hyn50 := (HOK.out rfl).2.2
      have HFf : Hid (∀ wr, LS f o w wr → Ff wr f) := Lib.hid (fun wr h => ⟨HF.out wr h.low, HFo.out⟩)
      have HOf : Hid (∀ wr, LS f o w wr → Ff wr o) := Lib.hid (fun wr h => ⟨HO.out wr h.low, HOo.out⟩)
      have hff : ff ≤ 100 := by rw [← HFF.out]; exact HFo.out.1
      clear HF HO HOK
      go_wp2_with fail
      refine AtS.start (by kernel_rfl) 5 (BX f o fi ff oi of w.heap.size) (by kernel_rfl) (by kernel_rfl) ?_
      have HL2 := Lib.hid (HL1.out.below (Below.refl _ wc).drew)
      generalize wc.drew = X0 at *
      clear HL1
      have hS := HBX.out X0 HL2.out
      refine at_take 0 35 (.agg #[.string f.s, .slice f.ia fi f.ic, .slice f.fa ff f.fc]) rfl rfl (by kernel_rfl) (by decide) (by decide) (fun _ _ _ h => h) (by kernel_rfl) hS (fun w' hw' => ?_) ?_
      · obtain ⟨z0, z1, z2, z3, z4, z5⟩ := hw'
        go_simp
      go_frame
      refine at_take 2 37 (.agg #[.string f.s, .slice f.ia fi f.ic, .slice f.fa ff f.fc]) rfl rfl (by kernel_rfl) (by decide) (by decide) (fun _ _ _ h => h) (by kernel_rfl) hS (fun w' hw' => ?_) ?_
      · obtain ⟨z0, z1, z2, z3, z4, z5⟩ := hw'
        go_simp
      go_frame
      have CA := Lib.hid (pall_c (HFf.out X0 HL2.out))
      rw [flV_is] at CA
      simp only [HFI.out, HFF.out] at CA
      refine at_call 1 36 (f := 8) (args := #[.agg #[.string f.s, .slice f.ia fi f.ic, .slice f.fa ff f.fc]]) rfl rfl (by kernel_rfl) (by decide) (by kernel_rfl) ?_ ?_
      · go_simp
      refine CA.out.mono ?_
      rintro e1 w1 ⟨A, c, gs, rfl, hc, hrw, hb⟩
      have HL3 := Lib.hid (HL2.out.below hb)
      have HCA := Lib.hid hc
      have HRA := Lib.hid hrw
      have hS := HBX.out w1 HL3.out
      clear hc hrw hb CA HL2
      refine ⟨_, rfl, hS, ?_⟩
      go_frame
      have hgl : gs.length = ff := by
        have := congrArg List.length HCA.out
        rw [List.length_map, List.length_map, HFF.out] at this
        exact this
      rw [hgl]
      have HGL := Lib.hid hgl
      clear hgl
      have CB := Lib.hid (pexp_c (HFf.out w1 HL3.out))
      rw [flV_is] at CB
      simp only [HFI.out, HFF.out] at CB
      refine at_call 3 38 (f := 9) (args := #[.agg #[.string f.s, .slice f.ia fi f.ic, .slice f.fa ff f.fc]]) rfl rfl (by kernel_rfl) (by decide) (by kernel_rfl) ?_ ?_
      · go_simp
      refine CB.out.mono ?_
      rintro e2 w2 ⟨B, d, hs2, rfl, hx, hm, hrw, hb⟩
      have HL4 := Lib.hid (HL3.out.below hb)
      have HXB := Lib.hid hx
      have HRB := Lib.hid hrw
      have HRA2 := Lib.hid (HRA.out.below hb)
      have HMB := Lib.hid hm
      obtain ⟨bn, hbn⟩ : ∃ n, hs2.length = n := ⟨_, rfl⟩
      have HBN := Lib.hid hbn
      rw [hbn]
      have hS := HBX.out w2 HL4.out
      clear hx hm hrw hb CB HL3 HRA hbn
      refine ⟨_, rfl, hS, ?_⟩
      go_frame
      refine at_take 4 9 (.slice A ff c) rfl rfl (by kernel_rfl) (by decide) (by decide) (fun _ _ _ h => h) (by kernel_rfl) hS (fun w' hw' => ?_) ?_
      · go_simp
      go_frame
      refine AtS.lastv 5 10 (.slice B bn d) w2 rfl rfl (by kernel_rfl) (by kernel_rfl) (by decide) (by kernel_rfl) ?_ ?_
      · go_simp
      go_frame
      clear hS
      have hfl : ff ≤ most := by unfold most; omega
      have CL := Lib.hid (plook_c (s := s) (c := c) HRA2.out (by rw [HGL.out]; exact hfl) HFo.out HCA.out)
      rw [HGL.out] at CL
      go_wp2_with fail
      refine CL.out.mono ?_
      rintro e3 w3 ⟨gx, bx, rfl, hk, hi, hb⟩
      have HLK := Lib.hid hk
      have HL5 := Lib.hid (HL4.out.below (hb.trans ((ball_new w3 #[.string gx.s, .slice gx.a gx.p.length gx.c, .int .u8 gx.r] 33).mono hb.size)))
      have HIX := Lib.hid (hi.below (ball_new w3 #[.string gx.s, .slice gx.a gx.p.length gx.c, .int .u8 gx.r] 33))
      have HRA5 := Lib.hid (HRA2.out.below (hb.trans ((ball_new w3 #[.string gx.s, .slice gx.a gx.p.length gx.c, .int .u8 gx.r] 33).mono hb.size)))
      have HRB5 := Lib.hid (HRB.out.below (hb.trans ((ball_new w3 #[.string gx.s, .slice gx.a gx.p.length gx.c, .int .u8 gx.r] 33).mono hb.size)))
      have HXN := Lib.hid (new_at w3 #[.string gx.s, .slice gx.a gx.p.length gx.c, .int .u8 gx.r] 33)
      rw [sgV_eq]
      obtain ⟨px, hpx⟩ : ∃ n, gx.p.length = n := ⟨_, rfl⟩
      rw [hpx] at HL5 HIX HRA5 HRB5 HXN ⊢
      have HPX := Lib.hid hpx
      clear hk hi hb CL HL4 HRA2 HRB hpx
      go_upto_region 5 with fail
      obtain ⟨w4, hw4⟩ : ∃ w4, w3.alloc (.cells #[.string gx.s, .slice gx.a px gx.c, .int .u8 gx.r] 33) = w4 := ⟨_, rfl⟩
      rw [hw4] at HL5 HIX HRA5 HRB5 HXN ⊢
      obtain ⟨qx, hqx⟩ : ∃ q, w3.heap.size = q := ⟨_, rfl⟩
      rw [hqx] at HXN ⊢
      clear hw4 hqx
      obtain ⟨z0, z1, z2, z3, z4, z5⟩ := HBX.out w4 HL5.out
      have CA2 := Lib.hid (all_c (HFf.out w4 HL5.out))
      rw [flV_is] at CA2
      simp only [HFI.out, HFF.out] at CA2
      go_wp2_with fail
      refine CA2.out.mono ?_
      rintro e4 w5 ⟨A2, c2, gs2, rfl, hc, hrw, hb⟩
      have HC2 := Lib.hid hc
      have HL6 := Lib.hid (HL5.out.below hb)
      have HRA6 := Lib.hid (HRA5.out.below hb)
      have HRB6 := Lib.hid (HRB5.out.below hb)
      have HIX6 := Lib.hid (HIX.out.below hb)
      have HXN6 := Lib.hid ((hb.block _ (lt_of_heap HXN.out)).trans HXN.out)
      have hgl2 : gs2.length = ff := by
        have := congrArg List.length hc
        rw [List.length_map, List.length_map, HFF.out] at this
        exact this
      rw [hgl2]
      have CL2 := Lib.hid (look_c (s := s) (c := c2) hrw (by rw [hgl2]; exact hfl))
      rw [hgl2] at CL2
      clear hc hrw hb CA2 HL5 HRA5 HRB5 HIX HXN hgl2 z0 z1 z2 z3 z4 z5
      go_wp2_with fail
      refine CL2.out.mono ?_
      rintro e5 w6 ⟨gy, by_, rfl, hk, hi, hb⟩
      have HLK2 := Lib.hid hk
      have HSX : Hid (coreG gx = coreG gy ∧ bx = by_) := Lib.hid (Lk.same (HCA.out.trans HC2.out.symm) HLK.out hk)
      obtain rfl : bx = by_ := HSX.out.2
      have bn7 := ball_new w6 #[.string gy.s, .slice gy.a gy.p.length gy.c, .int .u8 gy.r] 33
      have HL7 := Lib.hid (HL6.out.below (hb.trans (bn7.mono hb.size)))
      have HIX7 := Lib.hid (HIX6.out.below (hb.trans (bn7.mono hb.size)))
      have HIY7 := Lib.hid (hi.below bn7)
      have HRA7 := Lib.hid (HRA6.out.below (hb.trans (bn7.mono hb.size)))
      have HRB7 := Lib.hid (HRB6.out.below (hb.trans (bn7.mono hb.size)))
      have HXN7 := Lib.hid (((hb.trans (bn7.mono hb.size)).block _ (lt_of_heap HXN6.out)).trans HXN6.out)
      have HYN7 := Lib.hid (new_at w6 #[.string gy.s, .slice gy.a gy.p.length gy.c, .int .u8 gy.r] 33)
      rw [sgV_eq]
      obtain ⟨py, hpy⟩ : ∃ n, gy.p.length = n := ⟨_, rfl⟩
      rw [hpy] at HL7 HIX7 HIY7 HRA7 HRB7 HXN7 HYN7 ⊢
      have HPY := Lib.hid hpy
      clear hk hi hb CL2 HL6 HRA6 HRB6 HIX6 HXN6 HLK HLK2 hpy bn7
      go_upto_region 6 with fail
      obtain ⟨w7, hw7⟩ : ∃ w7, w6.alloc (.cells #[.string gy.s, .slice gy.a py gy.c, .int .u8 gy.r] 33) = w7 := ⟨_, rfl⟩
      rw [hw7] at HL7 HIX7 HIY7 HRA7 HRB7 HXN7 HYN7 ⊢
      obtain ⟨qy, hqy⟩ : ∃ q, w6.heap.size = q := ⟨_, rfl⟩
      rw [hqy] at HYN7 ⊢
      clear hw7 hqy
      go_cut [76] (fun v wx => v = .bool false ∧ Hid (LS f o w wx ∧ Rw wx A gs ∧ Rw wx B hs2))
      case first =>
        obtain ⟨z0, z1, z2, z3, z4, z5⟩ := HBX.out w7 HL7.out
        have CA3 := Lib.hid (all_c (HFf.out w7 HL7.out))
        rw [flV_is] at CA3
        simp only [HFI.out, HFF.out] at CA3
        go_wp2_with fail
        refine CA3.out.mono ?_
        rintro e6 w8 ⟨A3, c3, gs3, rfl, hc, hrw, hb⟩
        have HL8 := Lib.hid (HL7.out.below hb)
        have HRA8 := Lib.hid (HRA7.out.below hb)
        have HRB8 := Lib.hid (HRB7.out.below hb)
        have hgl3 : gs3.length = ff := by
          have := congrArg List.length hc
          rw [List.length_map, List.length_map, HFF.out] at this
          exact this
        have CS := Lib.hid (same_c (c := c) (d := c3) HRA8.out hrw (by rw [HGL.out]; exact hfl))
        rw [sameL_yes (HCA.out.trans hc.symm), HGL.out, hgl3] at CS
        rw [hgl3]
        have HB8 := Lib.hid hb
        clear hc hrw hb CA3 hgl3 z0 z1 z2 z3 z4 z5
        go_wp2_with fail
        refine CS.out.mono ?_
        rintro e7 w9 ⟨rfl, hb⟩
        have HL9 := Lib.hid (HL8.out.below hb)
        have HRA9 := Lib.hid (HRA8.out.below hb)
        have HRB9 := Lib.hid (HRB8.out.below hb)
        have HB9 := Lib.hid (HB8.out.trans (hb.mono HB8.out.size))
        obtain ⟨z0, z1, z2, z3, z4, z5⟩ := HBX.out w9 HL9.out
        have CE := Lib.hid (exp_c (HFf.out w9 HL9.out))
        rw [flV_is] at CE
        simp only [HFI.out, HFF.out] at CE
        clear hb CS HL8 HRA8 HRB8 HB8
        go_wp2_with fail
        refine CE.out.mono ?_
        rintro e8 w10 ⟨B2, d2, es2, rfl, hx2, hm2, hrw, hb⟩
        have HL10 := Lib.hid (HL9.out.below hb)
        have HRA10 := Lib.hid (HRA9.out.below hb)
        have HRB10 := Lib.hid (HRB9.out.below hb)
        have HB10 := Lib.hid (HB9.out.trans (hb.mono HB9.out.size))
        have CS := Lib.hid (same_c (c := d) (d := d2) HRB10.out hrw HMB.out)
        rw [sameL_yes (exp_core HXB.out hx2), HBN.out] at CS
        generalize es2.length = en2 at *
        clear hx2 hm2 hrw hb CE HL9 HRA9 HRB9 HB9 z0 z1 z2 z3 z4 z5
        go_wp2_with fail
        refine CS.out.mono ?_
        rintro e9 w11 ⟨rfl, hb⟩
        have HB11 := Lib.hid (HB10.out.trans (hb.mono HB10.out.size))
        have HST := Lib.hid (And.intro (HL10.out.below hb) (And.intro (HRA10.out.below hb) (HRB10.out.below hb)))
        have HXN11 := Lib.hid ((HB11.out.block _ (lt_of_heap HXN7.out)).trans HXN7.out)
        have HYN11 := Lib.hid ((HB11.out.block _ (lt_of_heap HYN7.out)).trans HYN7.out)
        obtain ⟨k1, k2, k3⟩ := two_rows (HIX7.out.below HB11.out) (HIY7.out.below HB11.out) HPX.out HPY.out
        have CS2 := Lib.hid (same_c (c := 1) (d := 1) k1 k2 (by simp [most]))
        rw [sameL_yes (by simp [HSX.out.1])] at CS2
        have HK3 := Lib.hid k3
        have x0 := cell_at HXN11.out 0
        have x1 := cell_at HXN11.out 1
        have x2 := cell_at HXN11.out 2
        have y0 := cell_at HYN11.out 0
        have y1 := cell_at HYN11.out 1
        have y2 := cell_at HYN11.out 2
        simp only [List.getElem?_toArray, List.getElem?_cons_succ, List.getElem?_cons_zero] at x0 x1 x2 y0 y1 y2
        have hyl := lt_of_heap HYN11.out
        simp only [List.length_singleton] at CS2
        clear hb CS HL10 HRA10 HRB10 k1 k2 k3
        go_wp2_with fail
        refine CS2.out.mono ?_
        rintro e10 w12 ⟨rfl, hb⟩
        have HB12 := Lib.hid (HK3.out.trans (hb.mono HK3.out.size))
        have HEND := Lib.hid (And.intro (HST.out.1.below HB12.out) (And.intro (HST.out.2.1.below HB12.out) (HST.out.2.2.below HB12.out)))
        clear hb
        cases bx with
        | true =>
          go_wp2_with fail
          go_meet
          exact ⟨rfl, HEND⟩
        | false =>
          go_wp2_with fail
          go_meet
          exact ⟨rfl, HEND⟩
      case rest =>
        obtain ⟨rfl, HST⟩ := hcut
        clear HIX7 HIY7 HRA7 HRB7 HXN7 HYN7 HL7 HSX HPX HPY HC2
        go_wp2_with fail
        go_loopw [15] (fun v wr => ∃ k : Nat, k ≤ ff ∧ v = .int .i64 k ∧ Hid (LS f o w wr ∧ Rw wr A gs ∧ Rw wr B hs2)) (fun v _ => ff - (intOf v).toNat)
        case atStart => exact ⟨0, Nat.zero_le _, rfl, HST⟩
        case round =>
          clear HST
          obtain ⟨k, hk, rfl, HST⟩ := hrel
          by_cases hlt : k < ff
          · as_aux_lemma =>
              obtain ⟨g, hg⟩ : ∃ g, gs[k]? = some g := ⟨_, List.getElem?_eq_getElem (by rw [HGL.out]; exact hlt)⟩
              obtain ⟨⟨xs, xpa, xpc, xp, xr, xba, xbc, xb⟩, hx⟩ : ∃ x, f.f[k]? = some x := ⟨_, List.getElem?_eq_getElem (by rw [HFF.out]; exact hlt)⟩
              have HGC : Hid (coreG g = sigF ⟨xs, xpa, xpc, xp, xr, xba, xbc, xb⟩) := Lib.hid (by
                have := congrArg (·[k]?) HCA.out
                simp only [List.getElem?_map, hg, hx, Option.map_some] at this
                injection this)
              obtain ⟨b1, o1, ha1, hc1⟩ := HST.out.2.1.row.at_ (Below.refl _ _) hg
              obtain ⟨b2, o2, ha2, hc2⟩ := (HFf.out wr HST.out.1).fin.frow.at_ (Below.refl _ _) hx
              obtain ⟨p0, p1, p2⟩ := sgC_at hc1
              obtain ⟨r0, r1, r2, r3⟩ := fnC_at hc2
              simp only at r0 r1 r2 r3
              obtain ⟨gp, hgp⟩ : ∃ n, g.p.length = n := ⟨_, rfl⟩
              obtain ⟨xpl, hpl⟩ : ∃ n, xp.length = n := ⟨_, rfl⟩
              obtain ⟨xbl, hbl⟩ : ∃ n, xb.length = n := ⟨_, rfl⟩
              rw [hgp] at p1
              rw [hpl] at r1
              rw [hbl] at r3
              have HGP := Lib.hid hgp
              have HXL := Lib.hid hpl
              have HXBL := Lib.hid hbl
              have HTK : Hid (∀ W, Below wr.heap.size wr W → TK w.heap.size b1 (o1 + k * 3) b2 (o2 + k * 4) (.slice (some ⟨b2, o2, none⟩) ff f.fc) (.string g.s) (.slice g.a gp g.c) (.int .u8 g.r) (.string xs) (.slice xpa xpl xpc) (.int .u8 xr) (.slice xba xbl xbc) W) := Lib.hid (fun W hW => by
                have hz := (HBX.out W (HST.out.1.below hW)).2.2.1
                rw [ha2] at hz
                obtain ⟨c1, d1, e1, h1⟩ := HST.out.2.1.row.at_ hW hg
                obtain ⟨c2, d2, e2, h2⟩ := (HFf.out wr HST.out.1).fin.frow.at_ hW hx
                rw [ha1] at e1
                rw [ha2] at e2
                injection e1 with e1
                injection e1 with e1 e1b
                injection e2 with e2
                injection e2 with e2 e2b
                subst e1 e1b e2 e2b
                obtain ⟨p0, p1, p2⟩ := sgC_at h1
                obtain ⟨r0, r1, r2, r3⟩ := fnC_at h2
                simp only at r0 r1 r2 r3
                rw [hgp] at p1
                rw [hpl] at r1
                rw [hbl] at r3
                exact ⟨hz, p0, p1, p2, r0, r1, r2, r3⟩)
              have HGI : Hid (∀ W, Below wr.heap.size wr W → SgIn W g) := Lib.hid (fun W hW => (HST.out.2.1.sin g (List.mem_of_getElem? hg)).below hW)
              have HYR : Hid (∀ W, Below wr.heap.size wr W → Row 1 tyC W A0 ys) := Lib.hid (fun W hW => HR.out W (HST.out.1.below hW).low)
              have HXI : Hid (∀ W, Below wr.heap.size wr W → FnIn W ⟨xs, xpa, xpc, xp, xr, xba, xbc, xb⟩) := Lib.hid (fun W hW => ((HFf.out wr HST.out.1).fin.fns _ (List.mem_of_getElem? hx)).below hW)
              have HXP := Lib.hid ((HFf.out wr HST.out.1).pl _ (List.mem_of_getElem? hx))
              have HXZ := Lib.hid ((HFf.out wr HST.out.1).sz _ (List.mem_of_getElem? hx))
              clear hg hx hc1 hc2 hgp hpl hbl ha2
              subst ha1
              clear p0 p1 p2 r0 r1 r2 r3
              go_wp2_with fail
              refine AtS.start (by kernel_rfl) 27 (TK w.heap.size b1 (o1 + k * 3) b2 (o2 + k * 4) (.slice (some ⟨b2, o2, none⟩) ff f.fc) (.string g.s) (.slice g.a gp g.c) (.int .u8 g.r) (.string xs) (.slice xpa xpl xpc) (.int .u8 xr) (.slice xba xbl xbc)) (by kernel_rfl) (by kernel_rfl) ?_
              have HST2 : Hid (Below wr.heap.size wr wr.drew) := Lib.hid (Below.refl _ wr).drew
              generalize wr.drew = X0 at *
              have hS := HTK.out X0 HST2.out
              refine at_take 0 83 (.slice (some ⟨b1, o1, none⟩) ff c) rfl rfl (by kernel_rfl) (by decide) (by decide) (fun _ _ _ h => h) (by kernel_rfl) hS (fun w' hw' => ?_) ?_
              · obtain ⟨z2, q0, q1, q2, q3, q4, q5, q6⟩ := hw'
                go_simp
              go_frame
              refine at_take 1 84 (.int .i64 k) rfl rfl (by kernel_rfl) (by decide) (by decide) (fun _ _ _ h => h) (by kernel_rfl) hS (fun w' hw' => ?_) ?_
              · obtain ⟨z2, q0, q1, q2, q3, q4, q5, q6⟩ := hw'
                go_simp
              go_frame
              refine at_take 2 85 (.pointer (some ⟨b1, o1 + k * 3, none⟩)) rfl rfl (by kernel_rfl) (by decide) (by decide) (fun _ _ _ h => h) (by kernel_rfl) hS (fun w' hw' => ?_) ?_
              · obtain ⟨z2, q0, q1, q2, q3, q4, q5, q6⟩ := hw'
                go_simp
              go_frame
              refine at_take 3 86 (.agg #[.string g.s, .slice g.a gp g.c, .int .u8 g.r]) rfl rfl (by kernel_rfl) (by decide) (by decide) (fun _ _ _ h => h) (by kernel_rfl) hS (fun w' hw' => ?_) ?_
              · obtain ⟨z2, q0, q1, q2, q3, q4, q5, q6⟩ := hw'
                go_simp
              go_frame
              refine at_take 4 87 (.slice A0 yn c0) rfl rfl (by kernel_rfl) (by decide) (by decide) (fun _ _ _ h => h) (by kernel_rfl) hS (fun w' hw' => ?_) ?_
              · obtain ⟨z2, q0, q1, q2, q3, q4, q5, q6⟩ := hw'
                go_simp
              go_frame
              refine at_take 6 89 (.slice (some ⟨b1, o1, none⟩) ff c) rfl rfl (by kernel_rfl) (by decide) (by decide) (fun _ _ _ h => h) (by kernel_rfl) hS (fun w' hw' => ?_) ?_
              · obtain ⟨z2, q0, q1, q2, q3, q4, q5, q6⟩ := hw'
                go_simp
              go_frame
              refine at_take 7 90 (.int .i64 k) rfl rfl (by kernel_rfl) (by decide) (by decide) (fun _ _ _ h => h) (by kernel_rfl) hS (fun w' hw' => ?_) ?_
              · obtain ⟨z2, q0, q1, q2, q3, q4, q5, q6⟩ := hw'
                go_simp
              go_frame
              refine at_take 8 91 (.pointer (some ⟨b1, o1 + k * 3, none⟩)) rfl rfl (by kernel_rfl) (by decide) (by decide) (fun _ _ _ h => h) (by kernel_rfl) hS (fun w' hw' => ?_) ?_
              · obtain ⟨z2, q0, q1, q2, q3, q4, q5, q6⟩ := hw'
                go_simp
              go_frame
              refine at_take 9 92 (.agg #[.string g.s, .slice g.a gp g.c, .int .u8 g.r]) rfl rfl (by kernel_rfl) (by decide) (by decide) (fun _ _ _ h => h) (by kernel_rfl) hS (fun w' hw' => ?_) ?_
              · obtain ⟨z2, q0, q1, q2, q3, q4, q5, q6⟩ := hw'
                go_simp
              go_frame
              refine at_take 10 93 (.slice A0 yn c0) rfl rfl (by kernel_rfl) (by decide) (by decide) (fun _ _ _ h => h) (by kernel_rfl) hS (fun w' hw' => ?_) ?_
              · obtain ⟨z2, q0, q1, q2, q3, q4, q5, q6⟩ := hw'
                go_simp
              go_frame
              have C1 := Lib.hid (ptakes_any g ys A0 c0 X0 (HGI.out X0 HST2.out) (HYR.out X0 HST2.out))
              rw [sgV_eq, HGP.out, HYN.out] at C1
              refine at_call 5 88 (f := 15) (args := #[.agg #[.string g.s, .slice g.a gp g.c, .int .u8 g.r], .slice A0 yn c0]) rfl rfl (by kernel_rfl) (by decide) (by kernel_rfl) ?_ ?_
              · go_simp
              refine C1.out.mono ?_
              rintro e1 X1 ⟨rfl, hb⟩
              have HST3 := Lib.hid (HST2.out.trans (hb.mono HST2.out.size))
              have hS := HTK.out X1 HST3.out
              clear hb C1
              refine ⟨_, rfl, hS, ?_⟩
              go_frame
              have C2 := Lib.hid (takes_any g ys A0 c0 X1 (HGI.out X1 HST3.out) (HYR.out X1 HST3.out))
              rw [sgV_eq, HGP.out, HYN.out] at C2
              refine at_call 11 94 (f := 16) (args := #[.agg #[.string g.s, .slice g.a gp g.c, .int .u8 g.r], .slice A0 yn c0]) rfl rfl (by kernel_rfl) (by decide) (by kernel_rfl) ?_ ?_
              · go_simp
              refine C2.out.mono ?_
              rintro e2 X2 ⟨rfl, hb⟩
              have HST4 := Lib.hid (HST3.out.trans (hb.mono HST3.out.size))
              have hS := HTK.out X2 HST4.out
              clear hb C2
              refine ⟨_, rfl, hS, ?_⟩
              go_frame
              generalize sameP g.p ys = tk at *
              refine at_take 12 95 (.bool false) rfl rfl (by kernel_rfl) (by decide) (by decide) (fun _ _ _ h => h) (by kernel_rfl) hS (fun w' hw' => ?_) ?_
              · obtain ⟨z2, q0, q1, q2, q3, q4, q5, q6⟩ := hw'
                go_simp
              go_frame
              refine at_take 13 96 (.bool false) rfl rfl (by kernel_rfl) (by decide) (by decide) (fun _ _ _ h => h) (by kernel_rfl) hS (fun w' hw' => ?_) ?_
              · obtain ⟨z2, q0, q1, q2, q3, q4, q5, q6⟩ := hw'
                go_simp
              go_frame
              refine at_take 14 97 (.pointer (some ⟨w.heap.size, 2, none⟩)) rfl rfl (by kernel_rfl) (by decide) (by decide) (fun _ _ _ h => h) (by kernel_rfl) hS (fun w' hw' => ?_) ?_
              · obtain ⟨z2, q0, q1, q2, q3, q4, q5, q6⟩ := hw'
                go_simp
              go_frame
              refine at_take 15 98 (.slice (some ⟨b2, o2, none⟩) ff f.fc) rfl rfl (by kernel_rfl) (by decide) (by decide) (fun _ _ _ h => h) (by kernel_rfl) hS (fun w' hw' => ?_) ?_
              · obtain ⟨z2, q0, q1, q2, q3, q4, q5, q6⟩ := hw'
                go_simp
              go_frame
              refine at_take 16 99 (.int .i64 k) rfl rfl (by kernel_rfl) (by decide) (by decide) (fun _ _ _ h => h) (by kernel_rfl) hS (fun w' hw' => ?_) ?_
              · obtain ⟨z2, q0, q1, q2, q3, q4, q5, q6⟩ := hw'
                go_simp
              go_frame
              refine at_take 17 100 (.pointer (some ⟨b2, o2 + k * 4, none⟩)) rfl rfl (by kernel_rfl) (by decide) (by decide) (fun _ _ _ h => h) (by kernel_rfl) hS (fun w' hw' => ?_) ?_
              · obtain ⟨z2, q0, q1, q2, q3, q4, q5, q6⟩ := hw'
                go_simp
              go_frame
              refine at_take 18 101 (.agg #[.string xs, .slice xpa xpl xpc, .int .u8 xr, .slice xba xbl xbc]) rfl rfl (by kernel_rfl) (by decide) (by decide) (fun _ _ _ h => h) (by kernel_rfl) hS (fun w' hw' => ?_) ?_
              · obtain ⟨z2, q0, q1, q2, q3, q4, q5, q6⟩ := hw'
                go_simp
              go_frame
              refine at_take 20 103 (.slice (some ⟨b1, o1, none⟩) ff c) rfl rfl (by kernel_rfl) (by decide) (by decide) (fun _ _ _ h => h) (by kernel_rfl) hS (fun w' hw' => ?_) ?_
              · obtain ⟨z2, q0, q1, q2, q3, q4, q5, q6⟩ := hw'
                go_simp
              go_frame
              refine at_take 21 104 (.int .i64 k) rfl rfl (by kernel_rfl) (by decide) (by decide) (fun _ _ _ h => h) (by kernel_rfl) hS (fun w' hw' => ?_) ?_
              · obtain ⟨z2, q0, q1, q2, q3, q4, q5, q6⟩ := hw'
                go_simp
              go_frame
              refine at_take 22 105 (.pointer (some ⟨b1, o1 + k * 3, none⟩)) rfl rfl (by kernel_rfl) (by decide) (by decide) (fun _ _ _ h => h) (by kernel_rfl) hS (fun w' hw' => ?_) ?_
              · obtain ⟨z2, q0, q1, q2, q3, q4, q5, q6⟩ := hw'
                go_simp
              go_frame
              refine at_take 23 106 (.pointer (some ⟨b1, o1 + k * 3 + 1, none⟩)) rfl rfl (by kernel_rfl) (by decide) (by decide) (fun _ _ _ h => h) (by kernel_rfl) hS (fun w' hw' => ?_) ?_
              · obtain ⟨z2, q0, q1, q2, q3, q4, q5, q6⟩ := hw'
                go_simp
              go_frame
              refine at_take 24 107 (.slice g.a gp g.c) rfl rfl (by kernel_rfl) (by decide) (by decide) (fun _ _ _ h => h) (by kernel_rfl) hS (fun w' hw' => ?_) ?_
              · obtain ⟨z2, q0, q1, q2, q3, q4, q5, q6⟩ := hw'
                go_simp
              go_frame
              have C3 := Lib.hid (pof_any ⟨xs, xpa, xpc, xp, xr, xba, xbc, xb⟩ X2 (HXI.out X2 HST4.out) HXP.out HXZ.out)
              rw [fnV_eq] at C3
              simp only [HXL.out, HXBL.out] at C3
              refine at_call 19 102 (f := 17) (args := #[.agg #[.string xs, .slice xpa xpl xpc, .int .u8 xr, .slice xba xbl xbc]]) rfl rfl (by kernel_rfl) (by decide) (by kernel_rfl) ?_ ?_
              · go_simp
              refine C3.out.mono ?_
              rintro e3 X3 ⟨g2, rfl, hc3, hi3, _, hb⟩
              have HST5 := Lib.hid (HST4.out.trans (hb.mono HST4.out.size))
              have hS := HTK.out X3 HST5.out
              refine ⟨_, rfl, hS, ?_⟩
              go_frame
              have C4 := Lib.hid (ptakes_any g2 g.p g.a g.c X3 hi3 (HGI.out X3 HST5.out).row)
              have hpp : g2.p = g.p := (congrArg Sp.p hc3).trans (congrArg Sp.p HGC.out).symm
              rw [hpp, sameP_self, HGP.out, sgV_eq, hpp, HGP.out] at C4
              rw [sgV_eq, hpp, HGP.out]
              clear hb C3 hc3 hi3 hpp
              refine at_call 25 108 (f := 15) (args := #[.agg #[.string g2.s, .slice g2.a gp g2.c, .int .u8 g2.r], .slice g.a gp g.c]) rfl rfl (by kernel_rfl) (by decide) (by kernel_rfl) ?_ ?_
              · go_simp
              refine C4.out.mono ?_
              rintro e4 X4 ⟨rfl, hb⟩
              have HST6 := Lib.hid (HST5.out.trans (hb.mono HST5.out.size))
              have hS := HTK.out X4 HST6.out
              clear hb C4
              refine ⟨_, rfl, hS, ?_⟩
              go_frame
              refine at_take 26 109 (.bool false) rfl rfl (by kernel_rfl) (by decide) (by decide) (fun _ _ _ h => h) (by kernel_rfl) hS (fun w' hw' => ?_) ?_
              · obtain ⟨z2, q0, q1, q2, q3, q4, q5, q6⟩ := hw'
                go_simp
              go_frame
              refine AtS.lastv 27 110 (.bool false) X4 rfl rfl (by kernel_rfl) (by kernel_rfl) (by decide) (by kernel_rfl) ?_ ?_
              · go_simp
              go_frame
              have HNX := Lib.hid (And.intro (HST.out.1.below HST6.out) (And.intro (HST.out.2.1.below HST6.out) (HST.out.2.2.below HST6.out)))
              clear hS
              go_wp2_with fail
              go_roundw
              case rel => exact ⟨k + 1, by omega, by go_num, HNX⟩
              case measure => simp [intOf]; omega
          · as_aux_lemma =>
              obtain rfl : k = ff := by omega
              go_wp2_with fail
              refine AtS.start (by kernel_rfl) 17 (BX f o fi k oi of w.heap.size) (by kernel_rfl) (by kernel_rfl) ?_
              have HS1 := Lib.hid (And.intro (HST.out.1.below (Below.refl _ wr).drew) (And.intro (HST.out.2.1.below (Below.refl _ wr).drew) (HST.out.2.2.below (Below.refl _ wr).drew)))
              generalize wr.drew = X0 at *
              have hS := HBX.out X0 HS1.out.1
              refine at_take 0 111 (.slice A k c) rfl rfl (by kernel_rfl) (by decide) (by decide) (fun _ _ _ h => h) (by kernel_rfl) hS (fun w' hw' => ?_) ?_
              · obtain ⟨z0, z1, z2, z3, z4, z5⟩ := hw'
                go_simp
              go_frame
              refine at_take 1 112 (.agg #[.string o.s, .slice o.ia oi o.ic, .slice o.fa of o.fc]) rfl rfl (by kernel_rfl) (by decide) (by decide) (fun _ _ _ h => h) (by kernel_rfl) hS (fun w' hw' => ?_) ?_
              · obtain ⟨z0, z1, z2, z3, z4, z5⟩ := hw'
                go_simp
              go_frame
              refine at_take 4 115 (.slice A k c) rfl rfl (by kernel_rfl) (by decide) (by decide) (fun _ _ _ h => h) (by kernel_rfl) hS (fun w' hw' => ?_) ?_
              · obtain ⟨z0, z1, z2, z3, z4, z5⟩ := hw'
                go_simp
              go_frame
              refine at_take 5 116 (.agg #[.string o.s, .slice o.ia oi o.ic, .slice o.fa of o.fc]) rfl rfl (by kernel_rfl) (by decide) (by decide) (fun _ _ _ h => h) (by kernel_rfl) hS (fun w' hw' => ?_) ?_
              · obtain ⟨z0, z1, z2, z3, z4, z5⟩ := hw'
                go_simp
              go_frame
              have C1 := Lib.hid (pall_c (HOf.out X0 HS1.out.1))
              rw [flV_is] at C1
              simp only [HOI.out, HOFF.out] at C1
              refine at_call 2 113 (f := 8) (args := #[.agg #[.string o.s, .slice o.ia oi o.ic, .slice o.fa of o.fc]]) rfl rfl (by kernel_rfl) (by decide) (by kernel_rfl) ?_ ?_
              · go_simp
              refine C1.out.mono ?_
              rintro e1 X1 ⟨A4, c4, gs4, rfl, hc4, hrw4, hb⟩
              have HC4 := Lib.hid hc4
              have HS2 := Lib.hid (And.intro (HS1.out.1.below hb) (And.intro (HS1.out.2.1.below hb) (HS1.out.2.2.below hb)))
              have hS := HBX.out X1 HS2.out.1
              refine ⟨_, rfl, hS, ?_⟩
              go_frame
              have C2 := Lib.hid (psame_c (c := c) (d := c4) HS2.out.2.1 hrw4 (by rw [HGL.out]; exact hfl))
              rw [HGL.out] at C2
              obtain ⟨q, hq⟩ : ∃ q, sameL gs gs4 = q := ⟨_, rfl⟩
              have HQ := Lib.hid hq
              rw [hq] at C2
              obtain ⟨n4, hn4⟩ : ∃ n, gs4.length = n := ⟨_, rfl⟩
              rw [hn4] at C2 ⊢
              clear hc4 hrw4 hb C1 hq hn4
              refine at_call 3 114 (f := 18) (args := #[.slice A k c, .slice A4 n4 c4]) rfl rfl (by kernel_rfl) (by decide) (by kernel_rfl) ?_ ?_
              · go_simp
              refine C2.out.mono ?_
              rintro e2 X2 ⟨rfl, hb⟩
              have HS3 := Lib.hid (And.intro (HS2.out.1.below hb) (And.intro (HS2.out.2.1.below hb) (HS2.out.2.2.below hb)))
              have hS := HBX.out X2 HS3.out.1
              clear hb C2
              refine ⟨_, rfl, hS, ?_⟩
              go_frame
              have C3 := Lib.hid (all_c (HOf.out X2 HS3.out.1))
              rw [flV_is] at C3
              simp only [HOI.out, HOFF.out] at C3
              refine at_call 6 117 (f := 12) (args := #[.agg #[.string o.s, .slice o.ia oi o.ic, .slice o.fa of o.fc]]) rfl rfl (by kernel_rfl) (by decide) (by kernel_rfl) ?_ ?_
              · go_simp
              refine C3.out.mono ?_
              rintro e3 X3 ⟨A5, c5, gs5, rfl, hc5, hrw5, hb⟩
              have HS4 := Lib.hid (And.intro (HS3.out.1.below hb) (And.intro (HS3.out.2.1.below hb) (HS3.out.2.2.below hb)))
              have hS := HBX.out X3 HS4.out.1
              refine ⟨_, rfl, hS, ?_⟩
              go_frame
              have C4 := Lib.hid (same_c (c := c) (d := c5) HS4.out.2.1 hrw5 (by rw [HGL.out]; exact hfl))
              rw [HGL.out, sameL_core (a2 := gs) (b2 := gs4) rfl (hc5.trans HC4.out.symm), HQ.out] at C4
              obtain ⟨n5, hn5⟩ : ∃ n, gs5.length = n := ⟨_, rfl⟩
              rw [hn5] at C4 ⊢
              clear hc5 hrw5 hb C3 hn5
              refine at_call 7 118 (f := 13) (args := #[.slice A k c, .slice A5 n5 c5]) rfl rfl (by kernel_rfl) (by decide) (by kernel_rfl) ?_ ?_
              · go_simp
              refine C4.out.mono ?_
              rintro e4 X4 ⟨rfl, hb⟩
              have HS5 := Lib.hid (And.intro (HS4.out.1.below hb) (And.intro (HS4.out.2.1.below hb) (HS4.out.2.2.below hb)))
              have hS := HBX.out X4 HS5.out.1
              clear hb C4
              refine ⟨_, rfl, hS, ?_⟩
              go_frame
              refine at_take 8 119 (.bool true) rfl rfl (by kernel_rfl) (by decide) (by decide) (fun _ _ _ h => h) (by kernel_rfl) hS (fun w' hw' => ?_) ?_
              · obtain ⟨z0, z1, z2, z3, z4, z5⟩ := hw'
                go_simp
              go_frame
              refine at_take 9 120 (.bool true) rfl rfl (by kernel_rfl) (by decide) (by decide) (fun _ _ _ h => h) (by kernel_rfl) hS (fun w' hw' => ?_) ?_
              · obtain ⟨z0, z1, z2, z3, z4, z5⟩ := hw'
                go_simp
              go_frame
              refine at_take 10 121 (.slice B bn d) rfl rfl (by kernel_rfl) (by decide) (by decide) (fun _ _ _ h => h) (by kernel_rfl) hS (fun w' hw' => ?_) ?_
              · obtain ⟨z0, z1, z2, z3, z4, z5⟩ := hw'
                go_simp
              go_frame
              refine at_take 11 122 (.slice B bn d) rfl rfl (by kernel_rfl) (by decide) (by decide) (fun _ _ _ h => h) (by kernel_rfl) hS (fun w' hw' => ?_) ?_
              · obtain ⟨z0, z1, z2, z3, z4, z5⟩ := hw'
                go_simp
              go_frame
              have C5 := Lib.hid (psame_c (c := d) (d := d) HS5.out.2.2 HS5.out.2.2 HMB.out)
              rw [HBN.out, sameL_self] at C5
              refine at_call 12 123 (f := 18) (args := #[.slice B bn d, .slice B bn d]) rfl rfl (by kernel_rfl) (by decide) (by kernel_rfl) ?_ ?_
              · go_simp
              refine C5.out.mono ?_
              rintro e5 X5 ⟨rfl, hb⟩
              have HS6 := Lib.hid (HS5.out.1.below hb)
              have hS := HBX.out X5 HS6.out
              clear hb C5
              refine ⟨_, rfl, hS, ?_⟩
              go_frame
              refine at_take 13 124 (.bool true) rfl rfl (by kernel_rfl) (by decide) (by decide) (fun _ _ _ h => h) (by kernel_rfl) hS (fun w' hw' => ?_) ?_
              · obtain ⟨z0, z1, z2, z3, z4, z5⟩ := hw'
                go_simp
              go_frame
              refine at_take 14 125 (.bool true) rfl rfl (by kernel_rfl) (by decide) (by decide) (fun _ _ _ h => h) (by kernel_rfl) hS (fun w' hw' => ?_) ?_
              · obtain ⟨z0, z1, z2, z3, z4, z5⟩ := hw'
                go_simp
              go_frame
              have C6 := Lib.hid (knows_any X5)
              refine at_call 15 126 (f := 7) (args := #[]) rfl rfl (by kernel_rfl) (by decide) (by kernel_rfl) ?_ ?_
              · go_simp
              refine C6.out.mono ?_
              rintro e6 X6 ⟨rfl, hb⟩
              have HS7 := Lib.hid (HS6.out.below hb)
              have hS := HBX.out X6 HS7.out
              clear hb C6
              refine ⟨_, rfl, hS, ?_⟩
              go_frame
              refine at_take 16 127 (.bool true) rfl rfl (by kernel_rfl) (by decide) (by decide) (fun _ _ _ h => h) (by kernel_rfl) hS (fun w' hw' => ?_) ?_
              · obtain ⟨z0, z1, z2, z3, z4, z5⟩ := hw'
                go_simp
              go_frame
              refine AtS.lastv 17 8 (.bool true) X6 rfl rfl (by kernel_rfl) (by kernel_rfl) (by decide) (by kernel_rfl) ?_ ?_
              · go_simp
              go_frame
              clear hS
              go_wp2_with fail
              go_ret
              exact ⟨rfl, HS7.out.low⟩
end Go.Proofs.Ytbhgbgaeaejnhaa.Typ
