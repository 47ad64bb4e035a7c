/-
  The walk of the statement on sectors: true, for every slice of bytes, every slice of slices of bytes and every number. Conditions: the slices read as bytes; the number fits 64 bits.
-/
import Derived.Test.YtpbojepliddflaaFPack
import Derived.Test.YtpbojepliddflaaFRUnpack
import Derived.Test.YtpbojepliddflaaFKnows
namespace Go.Proofs.Ytpbojepliddflaa.Frm
open Go.RowKit Codec FrameM Cod
set_option maxRecDepth 100000
theorem byts_up {w w' : World} {A : Option Addr} {n : Nat} {xs : List UInt8} (h : Byts w w.heap.size A n xs) (hb : Below w.heap.size w w') : Byts w' w'.heap.size A n xs := (h.below hb).more hb.size
theorem Rows.up {w w' : World} {A : Option Addr} {n : Nat} {ls : List (List UInt8)} (h : Rows w w.heap.size A n ls) (hb : Below w.heap.size w w') : Rows w' w'.heap.size A n ls := (h.below hb).more hb.size
theorem Below.on {a b c : World} (h : Below a.heap.size a b) (k : Below b.heap.size b c) : Below a.heap.size a c := h.trans (k.mono h.size)
theorem index34 (w : World) (b off n c p : Nat) (h : p < n) : (Instr.indexAt 34 (.slice (some ⟨b, off, none⟩) n c) (.int .i64 p)).run Try.prog w = .ok (.pointer (some ⟨b, off + p, none⟩)) w := by
  have h1 : ¬ n ≤ p := by omega
  simp [Instr.indexAt, asIntOf, run_underlying Try.underlying34, Result.andThen, Addr.add_mid, h1]
set_option maxHeartbeats 2000000 in
theorem same_any (w : World) (n c c' : Nat) (A A' : Option Addr) (ls : List (List UInt8)) (hA : Rows w w.heap.size A n ls) (hA' : Rows w w.heap.size A' n ls) (hn : n ≤ 1000000) : Calls Try.prog 14 #[.slice A n c, .slice A' n c'] w (EndsBelow (.bool true) w) := by
  have HA := Lib.hid hA
  have HA' := Lib.hid hA'
  clear hA hA'
  go_enter Try.func14, Try.ntmps14
  go_wp2_with fail
  go_loopw [5] (fun i wr => ∃ j : Nat, j ≤ n ∧ i = .int .i64 j ∧ Below w.heap.size w wr) (fun i _ => n - (intOf i).toNat)
  case atStart => exact ⟨0, Nat.zero_le _, rfl, Below.refl _ _⟩
  case round =>
    obtain ⟨j, hj, rfl, hbel⟩ := hrel
    have HB := Lib.hid hbel
    clear hbel
    by_cases hlt : j < n
    · obtain ⟨b, off, rfl, hb, hc⟩ := HA.out.at_ (by omega)
      obtain ⟨b', off', rfl, hb', hc'⟩ := HA'.out.at_ (by omega)
      obtain ⟨Aj, cj, h1, h2, _, _⟩ := hc j hlt
      obtain ⟨Aj', cj', h1', h2', _, _⟩ := hc' j hlt
      have hi : ∀ v, (Instr.indexAt 34 (.slice (some ⟨b, off, none⟩) n c) (.int .i64 j)).run Try.prog v = .ok (.pointer (some ⟨b, off + j, none⟩)) v := fun v => index34 v b off n c j hlt
      have hi' : ∀ v, (Instr.indexAt 34 (.slice (some ⟨b', off', none⟩) n c') (.int .i64 j)).run Try.prog v = .ok (.pointer (some ⟨b', off' + j, none⟩)) v := fun v => index34 v b' off' n c' j hlt
      have HS : Hid (wr.drew.cell? ⟨b, off + j, none⟩ = some (.slice Aj (ls.getD j []).length cj) ∧ wr.drew.cell? ⟨b', off' + j, none⟩ = some (.slice Aj' (ls.getD j []).length cj') ∧ Cv Aj (ls.getD j []).length cj (ls.getD j []) wr.drew ∧ Cv Aj' (ls.getD j []).length cj' (ls.getD j []) wr.drew) :=
        Lib.hid ⟨(HB.out.drew.cell (p := ⟨b, off + j, none⟩) hb).trans h1, (HB.out.drew.cell (p := ⟨b', off' + j, none⟩) hb').trans h1', run_string_of _ _ _ cj Aj _ (h2.below HB.out.drew), run_string_of _ _ _ cj' Aj' _ (h2'.below HB.out.drew)⟩
      have HBD := Lib.hid HB.out.drew
      clear h1 h2 h1' h2' hc hc'
      generalize ls.getD j [] = ys at *
      generalize ys.length = L at *
      go_wp2_with fail
      refine wh_start (fun w' => w'.cell? ⟨b, off + j, none⟩ = some (.slice Aj L cj) ∧ w'.cell? ⟨b', off' + j, none⟩ = some (.slice Aj' L cj') ∧ Cv Aj L cj ys w' ∧ Cv Aj' L cj' ys w') (by kernel_rfl) ?_
      generalize wr.drew = u at *
      refine wh_take 0 17 (.slice (some ⟨b, off, none⟩) n c) rfl rfl (by kernel_rfl) (fun _ _ _ h => h) rfl HS.out (fun w' hw' => ?_) ?_
      · exact rfl
      go_frame
      refine wh_take 1 18 (.int .i64 j) rfl rfl (by kernel_rfl) (fun _ _ _ h => h) rfl HS.out (fun w' hw' => ?_) ?_
      · exact rfl
      go_frame
      refine wh_take 2 19 (.pointer (some ⟨b, off + j, none⟩)) rfl rfl (by kernel_rfl) (fun _ _ _ h => h) rfl HS.out (fun w' hw' => ?_) ?_
      · go_simp
      go_frame
      refine wh_take 3 20 (.slice Aj L cj) rfl rfl (by kernel_rfl) (fun _ _ _ h => h) rfl HS.out (fun w' hw' => ?_) ?_
      · obtain ⟨h0, h1, h2, h3⟩ := hw'
        go_simp
      go_frame
      refine wh_take 4 21 (.string ⟨ys.toArray⟩) rfl rfl (by kernel_rfl) (fun _ _ _ h => h) rfl HS.out (fun w' hw' => ?_) ?_
      · obtain ⟨h0, h1, h2, h3⟩ := hw'
        unfold Cv at h2
        go_simp
      go_frame
      refine wh_take 5 22 (.slice (some ⟨b', off', none⟩) n c') rfl rfl (by kernel_rfl) (fun _ _ _ h => h) rfl HS.out (fun w' hw' => ?_) ?_
      · exact rfl
      go_frame
      refine wh_take 6 23 (.int .i64 j) rfl rfl (by kernel_rfl) (fun _ _ _ h => h) rfl HS.out (fun w' hw' => ?_) ?_
      · exact rfl
      go_frame
      refine wh_take 7 24 (.pointer (some ⟨b', off' + j, none⟩)) rfl rfl (by kernel_rfl) (fun _ _ _ h => h) rfl HS.out (fun w' hw' => ?_) ?_
      · go_simp
      go_frame
      refine wh_take 8 25 (.slice Aj' L cj') rfl rfl (by kernel_rfl) (fun _ _ _ h => h) rfl HS.out (fun w' hw' => ?_) ?_
      · obtain ⟨h0, h1, h2, h3⟩ := hw'
        go_simp
      go_frame
      refine wh_take 9 26 (.string ⟨ys.toArray⟩) rfl rfl (by kernel_rfl) (fun _ _ _ h => h) rfl HS.out (fun w' hw' => ?_) ?_
      · obtain ⟨h0, h1, h2, h3⟩ := hw'
        unfold Cv at h3
        go_simp
      go_frame
      refine wh_take 10 27 (.bool false) rfl rfl (by kernel_rfl) (fun _ _ _ h => h) rfl HS.out (fun w' hw' => ?_) ?_
      · go_simp
      go_frame
      refine wpAnyH_done (by kernel_rfl) ?_ _
      go_wp2_with fail
      go_roundw
      case rel => exact ⟨j + 1, by omega, by go_num, HBD.out⟩
      case measure => simp [intOf]; omega
    · obtain rfl : j = n := by omega
      go_wp2_with fail
      go_ret
      exact ⟨rfl, HB.out⟩
set_option maxHeartbeats 4000000 in
theorem packs_any (w : World) (n c : Nat) (A : Option Addr) (xs : List UInt8) (hx : Byts w w.heap.size A n xs) (hc : n ≤ c) (hm : c ≤ maxLen) (k d : Nat) (L : Option Addr) (ls : List (List UInt8)) (hl : Rows w w.heap.size L k ls) (hk : k ≤ maxLen) (t : Int) (ht : in64 t) :
    Calls Try.prog 4 #[.slice A n c, .slice L k d, .int .i64 t] w (EndsBelow (.bool true) w) := by
  have hn2 : n ≤ 9223372036854775807 := by unfold maxLen at hm; omega
  have hk2 : k ≤ 9223372036854775807 := hk
  clear hk
  by_cases hbig : 2000 < n ∨ 40 < k
  · clear hx hl
    rcases (show 2000 < n ∨ (n ≤ 2000 ∧ 40 < k) by omega) with h | ⟨h, h2⟩
    all_goals
      clear hbig
      go_enter Try.func4, Try.ntmps4
      go_wp2_with fail
      refine (knows_any _).mono ?_
      rintro e w1 ⟨rfl, hb1⟩
      go_wp2_with fail
      go_ret
      exact ⟨rfl, hb1⟩
  · obtain ⟨hn, hk3⟩ : n ≤ 2000 ∧ k ≤ 40 := by omega
    have HL := Lib.hid hl
    have HX := Lib.hid hx
    have HT := Lib.hid ht
    have HXL := Lib.hid hx.len
    clear hbig hx hl
    go_enter Try.func4, Try.ntmps4
    go_wp2_with fail
    refine (knows_any _).mono ?_
    rintro e w1 ⟨rfl, hb1⟩
    have HB := Lib.hid hb1
    have HL := Lib.hid (HL.out.up hb1)
    have HX := Lib.hid (byts_up HX.out hb1)
    clear hb1
    go_wp2_with fail
    go_loop [7] (fun i => ∃ j : Nat, j ≤ k ∧ i = .int .i64 j) (fun i => k - (intOf i).toNat)
    case atStart => exact ⟨0, Nat.zero_le _, rfl⟩
    case round =>
      obtain ⟨j, hj, rfl⟩ := hrel
      by_cases hlt : j < k
      · obtain ⟨b, off, rfl, hb, hcc⟩ := HL.out.at_ (by omega)
        obtain ⟨Aj, cj, h1, h2, h3, h4⟩ := hcc j hlt
        have h4' : cj ≤ 9223372036854775807 := h4
        clear hcc h2 h4
        generalize (ls.getD j []).length = m at *
        by_cases h100 : 100 < m
        · go_wp2_with fail
          go_ret
          exact ⟨rfl, HB.out⟩
        · have hm100 : m ≤ 100 := by omega
          go_wp2_with fail
          go_round
          case rel => exact ⟨j + 1, by omega, by go_num⟩
          case measure => simp [intOf]; omega
      · obtain rfl : j = k := by omega
        have HC1 := Lib.hid (unpack_any w1 j d L ls t HT.out HL.out)
        go_wp2_with fail
        refine HC1.out.mono ?_
        rintro e w2 ⟨Ax, mx, cx, rfl, hyx, hb2⟩
        have HB2 := Lib.hid (Below.on HB.out hb2)
        have HX2 := Lib.hid (byts_up HX.out hb2)
        have HL2 := Lib.hid (HL.out.up hb2)
        have HC2 := Lib.hid (runpack_any w2 j d L ls t HT.out HL2.out)
        have HU2 := Lib.hid hyx
        clear hyx hb2 HC1 HX HL HB
        go_wp2_with fail
        refine HC2.out.mono ?_
        rintro e w3 ⟨Ay, my, cy, rfl, hyy, hb3⟩
        have HB3 := Lib.hid (Below.on HB2.out hb3)
        have HX3 := Lib.hid (byts_up HX2.out hb3)
        have HU3 := Lib.hid (byts_up HU2.out hb3)
        have HV3 := Lib.hid hyy
        have HC3 := Lib.hid (pack_any w3 n c A xs HX3.out (by omega) hc)
        clear hyy hb3 HC2 HX2 HL2 HB2 HU2
        go_wp2_with fail
        refine HC3.out.mono ?_
        rintro e w4 ⟨Ap, kp, cp, rfl, hpk, hb4⟩
        have HB4 := Lib.hid (Below.on HB3.out hb4)
        have HX4 := Lib.hid (byts_up HX3.out hb4)
        have HU4 := Lib.hid (byts_up HU3.out hb4)
        have HV4 := Lib.hid (byts_up HV3.out hb4)
        have hback := unpack_pack xs (by have := HXL.out; omega)
        have hc4 := unpack_any w4 kp cp Ap (pack xs) (n : Int) (by unfold in64; omega) hpk.rows
        rw [HXL.out] at hback
        rw [hback.1, hback.2] at hc4
        have HC4 := Lib.hid hc4
        clear hpk hb4 HC3 HX3 HB3 HU3 HV3 hback hc4
        go_wp2_with fail
        refine HC4.out.mono ?_
        rintro e w5 ⟨Az, mz, cz, rfl, hyz, hb5⟩
        have HB5 := Lib.hid (Below.on HB4.out hb5)
        have HX5 := Lib.hid (byts_up HX4.out hb5)
        have HU5 := Lib.hid (byts_up HU4.out hb5)
        have HV5 := Lib.hid (byts_up HV4.out hb5)
        have HZ5 := Lib.hid hyz
        have HC5 := Lib.hid (pack_any w5 n c A xs HX5.out (by omega) hc)
        clear hyz hb5 HC4 HX4 HB4 HU4 HV4
        go_wp2_with fail
        refine HC5.out.mono ?_
        rintro e w6 ⟨Aq, kq, cq, rfl, hpk, hb6⟩
        have HB6 := Lib.hid (Below.on HB5.out hb6)
        have HX6 := Lib.hid (byts_up HX5.out hb6)
        have HU6 := Lib.hid (byts_up HU5.out hb6)
        have HV6 := Lib.hid (byts_up HV5.out hb6)
        have HZ6 := Lib.hid (byts_up HZ5.out hb6)
        have HP6 := Lib.hid hpk.rows
        have HC6 := Lib.hid (rpack_any w6 n c A xs HX6.out (by omega))
        clear hpk hb6 HC5 HX5 HB5 HU5 HV5 HZ5
        go_wp2_with fail
        refine HC6.out.mono ?_
        rintro e w7 ⟨Ar, kr, cr, rfl, hpk, hb7⟩
        have HB7 := Lib.hid (Below.on HB6.out hb7)
        have HX7 := Lib.hid (byts_up HX6.out hb7)
        have HU7 := Lib.hid (byts_up HU6.out hb7)
        have HV7 := Lib.hid (byts_up HV6.out hb7)
        have HZ7 := Lib.hid (byts_up HZ6.out hb7)
        have HP7 := Lib.hid (HP6.out.up hb7)
        have HR7 := Lib.hid hpk.rows
        have hkq : kq = kr := HP7.out.len.symm.trans HR7.out.len
        subst hkq
        have hkb : kq ≤ 1000000 := by
          have h1 := HP7.out.len
          rw [pack_length, HXL.out] at h1
          unfold need at h1
          omega
        have HC7 := Lib.hid (same_any w7 kq cq cr Aq Ar _ HP7.out HR7.out hkb)
        clear hpk hb7 HC6 HX6 HB6 HU6 HV6 HZ6 HP6 hkb
        go_wp2_with fail
        refine HC7.out.mono ?_
        rintro e w8 ⟨rfl, hb8⟩
        have HB8 := Lib.hid (Below.on HB7.out hb8)
        have e1 := run_string_of w8 _ mx cx Ax _ (byts_up HU7.out hb8)
        have e2 := run_string_of w8 _ my cy Ay _ (byts_up HV7.out hb8)
        have e3 := run_string_of w8 _ mz cz Az _ (byts_up HZ7.out hb8)
        have e4 := run_string_of w8 _ n c A _ (byts_up HX7.out hb8)
        clear hb8 HC7 HX7 HB7 HU7 HV7 HZ7 HP7 HR7
        generalize unpack ls t = us at *
        generalize unpackB ls t = ok at *
        have HN1 := Lib.hid (fun u => need_any t u HT.out)
        have HN2 := Lib.hid (fun u => rneed_any t u HT.out)
        generalize needI t = q at *
        clear ht
        go_wp2_with fail
        refine (HN1.out _).mono ?_
        rintro e w9 ⟨rfl, rfl⟩
        go_wp2_with fail
        refine (HN2.out _).mono ?_
        rintro e w9 ⟨rfl, rfl⟩
        go_wp2_with fail
        go_ret
        exact ⟨rfl, HB8.out⟩
end Go.Proofs.Ytpbojepliddflaa.Frm
