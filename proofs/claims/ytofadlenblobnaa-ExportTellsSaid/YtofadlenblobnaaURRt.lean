/-
  The document's Right. Conditions: the list lies in memory; names of at most 1000000 bytes.
-/
import Derived.Test.YtofadlenblobnaaUBeh
namespace Go.Proofs.Ytofadlenblobnaa.Exp
open Go.RowKit Codec Typ Tre
set_option maxRecDepth 100000
set_option linter.unusedSimpArgs false
set_option maxHeartbeats 16000000 in
theorem rright_any (l : List Sg) (A : Option Addr) (c n : Nat) (w : World) (hn : l.length = n) (hr : Row 3 sgC w A l) (hi : ∀ g ∈ l, SgIn w g) (hs : ∀ g ∈ l, g.s.size ≤ 1000000 ∧ 0 ≤ g.r) (hlen : n ≤ 9223372036854775807) :
    Calls Try.prog 14 #[.slice A n c] w (EndsB (.bool (rightL (l.map coreG))) w) := by
  have HR := Lib.hid hr
  have HI := Lib.hid hi
  have HS := Lib.hid hs
  have HN := Lib.hid hn
  have HRR : Hid (rightL (l.map coreG) = (!decide (32 < n) && chainP [] (l.map coreG))) := Lib.hid (by unfold rightL; rw [List.length_map, hn])
  obtain ⟨R, hR⟩ : ∃ R, rightL (l.map coreG) = R := ⟨_, rfl⟩
  obtain ⟨R0, hR0⟩ : ∃ R0, chainP [] (l.map coreG) = R0 := ⟨_, rfl⟩
  rw [hR, hR0] at HRR
  rw [hR]
  have H0 : Hid (R0 = chainP (ahL l 0) ((l.drop 0).map coreG)) := Lib.hid (by rw [← hR0]; rfl)
  clear hr hi hs hn hR hR0
  go_enter Try.func14, Try.ntmps14
  go_wp2_with fail
  go_loopw [3] (fun i wr => ∃ k : Nat, k ≤ n ∧ i = .int .i64 k ∧ Hid (Below w.heap.size w wr) ∧ Hid (R0 = chainP (ahL l k) ((l.drop k).map coreG))) (fun i _ => n - (intOf i).toNat)
  case atStart => exact ⟨0, Nat.zero_le _, rfl, Lib.hid (Below.refl _ _), H0⟩
  case round =>
    clear H0
    obtain ⟨k, hk, rfl, HB, HC⟩ := hrel
    by_cases hlt : k < n
    · obtain ⟨x, hx⟩ : ∃ x, l[k]? = some x := ⟨_, List.getElem?_eq_getElem (by rw [HN.out]; exact hlt)⟩
      obtain ⟨b1, o1, rfl, hall⟩ := row_all HR.out (by rw [HN.out]; omega)
      have HALL := Lib.hid hall
      have hin := HI.out x (List.mem_of_getElem? hx)
      have hsx := HS.out x (List.mem_of_getElem? hx)
      have HK := Lib.hid (chain_k HC.out hx hsx.2)
      obtain ⟨xs, xa, xc, xp, xr⟩ := x
      have HX := Lib.hid hx
      have HXP : Hid (Row 1 tyC w xa xp) := Lib.hid hin.row
      have P0 : ∀ p : BehW wr, p.w.cell? ⟨b1, o1 + k * 3, none⟩ = some (.string xs) := fun p => (hall p.w (HB.out.trans (p.h.mono HB.out.size)) k _ hx).1
      have P1 : ∀ p : BehW wr, p.w.cell? ⟨b1, o1 + k * 3 + 1, none⟩ = some (.slice xa xp.length xc) := fun p => (hall p.w (HB.out.trans (p.h.mono HB.out.size)) k _ hx).2.1
      have P2 : ∀ p : BehW wr, p.w.cell? ⟨b1, o1 + k * 3 + 2, none⟩ = some (.int .u8 xr) := fun p => (hall p.w (HB.out.trans (p.h.mono HB.out.size)) k _ hx).2.2
      obtain ⟨t1, ht1⟩ : ∃ t, Lex.nameOk xs.data.toList = t := ⟨_, rfl⟩
      have CN : Hid (∀ p : BehW wr, Calls Try.prog 28 #[.string xs] p.w (EndsB (.bool t1) p.w)) := Lib.hid (fun p => by have := Lex.rname_is xs p.w hsx.1; rwa [ht1] at this)
      have hm63 : xp.length ≤ 9223372036854775807 := hin.len
      obtain ⟨m, hm⟩ : ∃ m, xp.length = m := ⟨_, rfl⟩
      rw [hm] at P1 hm63
      have HM := Lib.hid hm
      have HLE : Hid (decide (4 < xp.length) = decide (4 < m)) := Lib.hid (by rw [hm])
      have HT1 := Lib.hid ht1
      have HK : Hid (R0 = (Lex.nameOk xs.data.toList && Op.bytesLess (ahL l k) xs.data.toList && (!decide (4 < xp.length) && (!decide (2 < xr) && xp.all valT)) && chainP (ahL l (k + 1)) ((l.drop (k + 1)).map coreG))) := HK
      clear hall hx hin hsx ht1 hm HC
      cases t1 with
      | false =>
        have HF := Lib.hid (show R = false by rw [HRR.out, HK.out, HT1.out]; simp)
        go_wp2_with fail
        refine wp_region_beh (by kernel_rfl) (by kernel_rfl) ?_
        repeat (go_big_quiet_step ((go_at_call 28; exact beh_call (CN.out _))))
        refine wpQuiet_nil ?_
        intro wx hw'
        obtain ⟨⟨wz, hbx⟩, hw''⟩ := hw'
        dsimp only at hw''
        subst hw''
        have HBX := Lib.hid (HB.out.trans (hbx.mono HB.out.size))
        clear hbx
        go_wp2_with fail
        go_ret
        exact ends_bool HF.out.symm HBX.out
      | true =>
        by_cases hk0 : k = 0
        · have e0 : decide (0 < k) = false := by simp; omega
          have HLS : Hid (Op.bytesLess (ahL l k) xs.data.toList = true) := Lib.hid (by rw [hk0, ahL_zero]; exact less_nil HT1.out)
          have HK0 := Lib.hid hk0
          clear hk0

          by_cases h4 : 4 < m
          · have e4 : decide ((4 : Int) < (m : Int)) = true := by simp; omega
            have HF := Lib.hid (show R = false by rw [HRR.out, HK.out, HLE.out, decide_eq_true h4]; simp)
            go_wp2_with fail
            refine wp_region_beh (by kernel_rfl) (by kernel_rfl) ?_
            repeat (go_big_quiet_step ((go_at_call 28; exact beh_call (CN.out _))))
            refine wpQuiet_nil ?_
            intro wx hw'
            obtain ⟨⟨wz, hbx⟩, hw''⟩ := hw'
            dsimp only at hw''
            subst hw''
            have HBX := Lib.hid (HB.out.trans (hbx.mono HB.out.size))
            clear hbx
            go_wp2_with fail
            go_ret
            exact ends_bool HF.out.symm HBX.out
          · have e4 : decide ((4 : Int) < (m : Int)) = false := by simp; omega
            by_cases h5 : 2 < xr
            · have e5 : decide ((2 : Int) < xr) = true := by simpa using h5
              have HF := Lib.hid (show R = false by rw [HRR.out, HK.out, HLE.out, e5]; simp)
              go_wp2_with fail
              refine wp_region_beh (by kernel_rfl) (by kernel_rfl) ?_
              repeat (go_big_quiet_step ((go_at_call 28; exact beh_call (CN.out _))))
              refine wpQuiet_nil ?_
              intro wx hw'
              obtain ⟨⟨wz, hbx⟩, hw''⟩ := hw'
              dsimp only at hw''
              subst hw''
              have HBX := Lib.hid (HB.out.trans (hbx.mono HB.out.size))
              clear hbx
              go_wp2_with fail
              go_ret
              exact ends_bool HF.out.symm HBX.out
            · have e5 : decide ((2 : Int) < xr) = false := by simpa using h5
              go_wp2_with fail
              refine wp_region_beh (by kernel_rfl) (by kernel_rfl) ?_
              repeat (go_big_quiet_step ((go_at_call 28; exact beh_call (CN.out _))))
              refine wpQuiet_nil ?_
              intro wx hw'
              obtain ⟨⟨wz, hbx⟩, hw''⟩ := hw'
              dsimp only at hw''
              subst hw''
              have HBX := Lib.hid (HB.out.trans (hbx.mono HB.out.size))
              clear hbx P0 P1 P2 CN
              go_wp2_with fail
              go_loopw [4] (fun i wy => ∃ q : Nat, q ≤ m ∧ i = .int .i64 q ∧ wy = wx ∧ Hid (∀ (j : Nat) (y : Int), j < q → xp[j]? = some y → valT y = true)) (fun i _ => m - (intOf i).toNat)
              case atStart => exact ⟨0, Nat.zero_le _, rfl, by first | rfl | trivial, Lib.hid (fun j y h => by omega)⟩
              case round =>
                obtain ⟨q, hq, rfl, rfl, hs⟩ := hrel
                have z := HALL.out wr HBX.out k _ HX.out
                have z1 := z.2.1
                rw [HM.out] at z1
                clear z
                by_cases hqm : q < m
                · obtain ⟨y, hy⟩ : ∃ y, xp[q]? = some y := ⟨_, List.getElem?_eq_getElem (by rw [HM.out]; exact hqm)⟩
                  obtain ⟨b2, o2, rfl, hty⟩ := row_ty HXP.out (by rw [HM.out]; omega)
                  have y0 := hty wr HBX.out q y hy
                  have HY := Lib.hid hy
                  have HSS := hs
                  clear hty hy hs
                  rcases Bool.eq_false_or_eq_true (y == 1) with h1 | h1
                  · have h1' : (y != 1) = false := by rw [bne, h1]; rfl
                    have HV := Lib.hid (more_v HSS.out HY.out (show valT y = true by unfold valT; rw [h1]; rfl))
                    go_wp2_with fail
                    go_roundw
                    case rel => exact ⟨q + 1, by omega, by go_num, by first | rfl | trivial, HV⟩
                    case measure => simp [intOf]; omega
                  · have h1' : (y != 1) = true := by rw [bne, h1]; rfl
                    rcases Bool.eq_false_or_eq_true (y == 2) with h2 | h2
                    · have h2' : (y != 2) = false := by rw [bne, h2]; rfl
                      have HV := Lib.hid (more_v HSS.out HY.out (show valT y = true by unfold valT; rw [h1, h2]; rfl))
                      go_wp2_with fail
                      go_roundw
                      case rel => exact ⟨q + 1, by omega, by go_num, by first | rfl | trivial, HV⟩
                      case measure => simp [intOf]; omega
                    · have h2' : (y != 2) = true := by rw [bne, h2]; rfl
                      have HF := Lib.hid (show R = false by rw [HRR.out, HK.out, all_no HY.out (show valT y = false by unfold valT; rw [h1, h2]; rfl)]; simp)
                      go_wp2_with fail
                      go_ret
                      exact ends_bool HF.out.symm HBX.out
                · obtain rfl : q = m := by omega
                  have HNX := Lib.hid (show R0 = chainP (ahL l (k + 1)) ((l.drop (k + 1)).map coreG) by
                    have hk2 := HK.out
                    rw [all_of HM.out hs.out, HT1.out, HLE.out, decide_eq_false h4, e5, HLS.out] at hk2
                    rw [hk2]
                    rfl)
                  go_wp2_with fail
                  go_roundw
                  case rel => exact ⟨k + 1, by omega, by go_num, HBX, HNX⟩
                  case measure => simp [intOf]; omega
        · obtain ⟨j, hkj⟩ : ∃ j, k = j + 1 := ⟨k - 1, by omega⟩
          have hjl : j < n := by omega
          obtain ⟨z, hz⟩ : ∃ z, l[j]? = some z := ⟨_, List.getElem?_eq_getElem (by rw [HN.out]; exact hjl)⟩
          have e0 : decide (0 < k) = true := by simp; omega
          have e00 : 0 < k := by omega
          have hsub : wrap64 ((k : Int) - 1) = (j : Int) := by unfold wrap64; omega
          have PZ : ∀ p : BehW wr, p.w.cell? ⟨b1, o1 + (k - 1) * 3, none⟩ = some (.string z.s) := fun p => (HALL.out p.w (HB.out.trans (p.h.mono HB.out.size)) (k - 1) _ (by rw [hkj]; exact hz)).1
          have HAZ : Hid (Op.bytesLess (ahL l k) xs.data.toList = Op.bytesLess z.s.toList xs.toList) := Lib.hid (by rw [hkj, ahL_succ hz, Lex.toList_data, Lex.toList_data])
          obtain ⟨zs, hzs⟩ : ∃ zs, z.s = zs := ⟨_, rfl⟩
          rw [hzs] at PZ HAZ
          have HKJ := Lib.hid hkj
          clear hz hzs hkj
          obtain ⟨t2, ht2⟩ : ∃ t, Op.bytesLess zs.toList xs.toList = t := ⟨_, rfl⟩
          rw [ht2] at HAZ
          cases t2 with
          | false =>
            have HF := Lib.hid (show R = false by rw [HRR.out, HK.out, HAZ.out]; simp)
            go_wp2_with fail
            refine wp_region_beh (by kernel_rfl) (by kernel_rfl) ?_
            repeat (go_big_quiet_step ((go_at_call 28; exact beh_call (CN.out _))))
            refine wpQuiet_nil ?_
            intro wx hw'
            obtain ⟨⟨wz, hbx⟩, hw''⟩ := hw'
            dsimp only at hw''
            subst hw''
            have HBX := Lib.hid (HB.out.trans (hbx.mono HB.out.size))
            clear hbx
            go_wp2_with fail
            go_ret
            exact ends_bool HF.out.symm HBX.out
          | true =>
            by_cases h4 : 4 < m
            · have e4 : decide ((4 : Int) < (m : Int)) = true := by simp; omega
              have HF := Lib.hid (show R = false by rw [HRR.out, HK.out, HLE.out, decide_eq_true h4]; simp)
              go_wp2_with fail
              refine wp_region_beh (by kernel_rfl) (by kernel_rfl) ?_
              repeat (go_big_quiet_step ((go_at_call 28; exact beh_call (CN.out _))))
              refine wpQuiet_nil ?_
              intro wx hw'
              obtain ⟨⟨wz, hbx⟩, hw''⟩ := hw'
              dsimp only at hw''
              subst hw''
              have HBX := Lib.hid (HB.out.trans (hbx.mono HB.out.size))
              clear hbx
              go_wp2_with fail
              go_ret
              exact ends_bool HF.out.symm HBX.out
            · have e4 : decide ((4 : Int) < (m : Int)) = false := by simp; omega
              by_cases h5 : 2 < xr
              · have e5 : decide ((2 : Int) < xr) = true := by simpa using h5
                have HF := Lib.hid (show R = false by rw [HRR.out, HK.out, HLE.out, e5]; simp)
                go_wp2_with fail
                refine wp_region_beh (by kernel_rfl) (by kernel_rfl) ?_
                repeat (go_big_quiet_step ((go_at_call 28; exact beh_call (CN.out _))))
                refine wpQuiet_nil ?_
                intro wx hw'
                obtain ⟨⟨wz, hbx⟩, hw''⟩ := hw'
                dsimp only at hw''
                subst hw''
                have HBX := Lib.hid (HB.out.trans (hbx.mono HB.out.size))
                clear hbx
                go_wp2_with fail
                go_ret
                exact ends_bool HF.out.symm HBX.out
              · have e5 : decide ((2 : Int) < xr) = false := by simpa using h5
                go_wp2_with fail
                refine wp_region_beh (by kernel_rfl) (by kernel_rfl) ?_
                repeat (go_big_quiet_step ((go_at_call 28; exact beh_call (CN.out _))))
                refine wpQuiet_nil ?_
                intro wx hw'
                obtain ⟨⟨wz, hbx⟩, hw''⟩ := hw'
                dsimp only at hw''
                subst hw''
                have HBX := Lib.hid (HB.out.trans (hbx.mono HB.out.size))
                clear hbx P0 P1 P2 CN
                go_wp2_with fail
                go_loopw [4] (fun i wy => ∃ q : Nat, q ≤ m ∧ i = .int .i64 q ∧ wy = wx ∧ Hid (∀ (j : Nat) (y : Int), j < q → xp[j]? = some y → valT y = true)) (fun i _ => m - (intOf i).toNat)
                case atStart => exact ⟨0, Nat.zero_le _, rfl, by first | rfl | trivial, Lib.hid (fun j y h => by omega)⟩
                case round =>
                  obtain ⟨q, hq, rfl, rfl, hs⟩ := hrel
                  have z := HALL.out wr HBX.out k _ HX.out
                  have z1 := z.2.1
                  rw [HM.out] at z1
                  clear z
                  by_cases hqm : q < m
                  · obtain ⟨y, hy⟩ : ∃ y, xp[q]? = some y := ⟨_, List.getElem?_eq_getElem (by rw [HM.out]; exact hqm)⟩
                    obtain ⟨b2, o2, rfl, hty⟩ := row_ty HXP.out (by rw [HM.out]; omega)
                    have y0 := hty wr HBX.out q y hy
                    have HY := Lib.hid hy
                    have HSS := hs
                    clear hty hy hs
                    rcases Bool.eq_false_or_eq_true (y == 1) with h1 | h1
                    · have h1' : (y != 1) = false := by rw [bne, h1]; rfl
                      have HV := Lib.hid (more_v HSS.out HY.out (show valT y = true by unfold valT; rw [h1]; rfl))
                      go_wp2_with fail
                      go_roundw
                      case rel => exact ⟨q + 1, by omega, by go_num, by first | rfl | trivial, HV⟩
                      case measure => simp [intOf]; omega
                    · have h1' : (y != 1) = true := by rw [bne, h1]; rfl
                      rcases Bool.eq_false_or_eq_true (y == 2) with h2 | h2
                      · have h2' : (y != 2) = false := by rw [bne, h2]; rfl
                        have HV := Lib.hid (more_v HSS.out HY.out (show valT y = true by unfold valT; rw [h1, h2]; rfl))
                        go_wp2_with fail
                        go_roundw
                        case rel => exact ⟨q + 1, by omega, by go_num, by first | rfl | trivial, HV⟩
                        case measure => simp [intOf]; omega
                      · have h2' : (y != 2) = true := by rw [bne, h2]; rfl
                        have HF := Lib.hid (show R = false by rw [HRR.out, HK.out, all_no HY.out (show valT y = false by unfold valT; rw [h1, h2]; rfl)]; simp)
                        go_wp2_with fail
                        go_ret
                        exact ends_bool HF.out.symm HBX.out
                  · obtain rfl : q = m := by omega
                    have HNX := Lib.hid (show R0 = chainP (ahL l (k + 1)) ((l.drop (k + 1)).map coreG) by
                      have hk2 := HK.out
                      rw [all_of HM.out hs.out, HT1.out, HLE.out, decide_eq_false h4, e5, HAZ.out] at hk2
                      rw [hk2]
                      rfl)
                    go_wp2_with fail
                    go_roundw
                    case rel => exact ⟨k + 1, by omega, by go_num, HBX, HNX⟩
                    case measure => simp [intOf]; omega
    · obtain rfl : k = n := by omega
      have hR : R0 = true := by rw [HC.out, chain_end _ HN.out]
      by_cases h32 : 32 < k
      · have HF := Lib.hid (show R = false by rw [HRR.out, decide_eq_true h32]; rfl)
        have e32 : decide ((k : Int) ≤ 32) = false := by simp; omega
        clear hR
        go_wp2_with fail
        go_ret
        exact ends_bool HF.out.symm HB.out
      · have HF := Lib.hid (show R = true by rw [HRR.out, decide_eq_false h32, hR]; rfl)
        have e32 : decide ((k : Int) ≤ 32) = true := by simp; omega
        clear hR
        go_wp2_with fail
        go_ret
        exact ends_bool HF.out.symm HB.out
end Go.Proofs.Ytofadlenblobnaa.Exp
