/-
  The law's walk.
-/
import Derived.Test.YthphcidpdjopeaaSafe1
namespace Go.Proofs.Ythphcidpdjopeaa
open Go.RowKit Go.Maps
set_option maxHeartbeats 4000000 in
set_option maxRecDepth 100000 in
theorem safe_most (w : World) (n0 c0 n1 c1 : Nat) (A0 A1 : Option Addr) (fs : List Int) (hA : Acts w w.heap.size A0 n0) (hF : NumsB w w.heap.size A1 n1 fs) (h60 : n0 ≤ 60) (h100 : n1 ≤ 100) :
    Calls Try.prog 3 #[.slice A0 n0 c0, .slice A1 n1 c1] w fun e w' => e = .returned (.bool true) ∧ Below w.heap.size w w' := by
  have HA := Lib.hid hA
  have HF := Lib.hid hF
  have HK := Lib.hid (knows_any w)
  have b0 : (n0 : Int) ≤ 60 := by omega
  have b1 : (n1 : Int) ≤ 100 := by omega
  have HN : Hid (∀ W, Calls Try.prog 5 #[.int .i64 8] W (Made W 8)) := Lib.hid fun W => new_disk W 8 (by omega) (by omega)
  clear hA hF
  go_enter Try.func3, Try.ntmps3
  go_wp2_with fail
  refine HK.out.mono ?_
  rintro e w1 ⟨rfl, hbel⟩
  have HB1 := Lib.hid hbel
  clear hbel
  go_wp2_with fail
  refine (HN.out w1).mono ?_
  rintro e w2 ⟨g, gs, gm, rfl, hdk, ht, g1, g2, g3⟩
  have HB2 := Lib.hid (HB1.out.trans (ht.low (base := w.heap.size) (by simp) HB1.out.size))
  have hs12 : w.heap.size ≤ w1.heap.size := HB1.out.size
  have HP := Lib.hid (Pre.start (base := w.heap.size) hdk (by intro k hk; simp at hk; rcases hk with rfl | rfl | rfl <;> omega) HB2.out.size)
  clear hdk ht g1 g2 g3 hs12
  go_upto_region 5 with fail
  obtain ⟨X, hX⟩ : ∃ X, X = (w2.alloc (.cells (row8 fun _ => .slice none 0 0) 30)).alloc (.cells (row8 fun _ => .slice none 0 0) 30) := ⟨_, rfl⟩
  have HBX : Hid (Below w.heap.size w X) := Lib.hid (by rw [hX]; exact (HB2.out.alloc HB2.out.size _).alloc (by simp; exact Nat.le_succ_of_le HB2.out.size) _)
  rw [← hX] at HP
  have hX2 : (w2.alloc (.cells #[.slice none 0 0, .slice none 0 0, .slice none 0 0, .slice none 0 0, .slice none 0 0, .slice none 0 0, .slice none 0 0, .slice none 0 0] 30)).alloc (.cells #[.slice none 0 0, .slice none 0 0, .slice none 0 0, .slice none 0 0, .slice none 0 0, .slice none 0 0, .slice none 0 0, .slice none 0 0] 30) = X := hX.symm
  rw [hX2]
  clear hX hX2
  generalize hlA : w2.heap.size + 1 = lA at HP ⊢
  generalize hsA : w2.heap.size = sA at HP ⊢
  clear hlA hsA
  go_wp2_with fail
  go_loopw [9] (fun p wr => ∃ i : Nat, i ≤ 8 ∧ p = .int .i64 i ∧ ∃ sv, Pre wr w.heap.size g gs gm sA lA i sv ∧ Below w.heap.size w wr) (fun p _ => 8 - (Go.RowKit.intOf p).toNat)
  case atStart => exact ⟨0, by omega, rfl, id, HP.out, HBX.out⟩
  case round =>
    obtain ⟨i, hi, rfl, sv, hpre, hbel⟩ := hrel
    obtain ⟨wo, rfl⟩ : ∃ wo : World, wo = wr := ⟨_, rfl⟩
    by_cases h8 : i < 8
    · have hmk := run_make29 wo
      have HPR := Lib.hid (And.intro hpre hbel)
      have cs : wo.cell? ⟨sA, i, none⟩ = some (mix i sv i) := by rw [cell_at hpre.sr, row8_get _ h8]
      have cl : wo.cell? ⟨lA, i, none⟩ = some (mix i sv i) := by rw [cell_at hpre.lr, row8_get _ h8]
      have fs' : wo.frozen? ⟨sA, i, none⟩ = false := free_at hpre.sr i
      have fl : wo.frozen? ⟨lA, i, none⟩ = false := free_at hpre.lr i
      have ls : sA < wo.heap.size := lt_of_heap hpre.sr
      have ll : lA < wo.heap.size := lt_of_heap hpre.lr
      have ne := hpre.ne
      have i0 : (0 : Int) ≤ i := by omega
      have i1 : (i : Int) < 8 := by omega
      clear hpre hbel
      go_wp2_with fail
      obtain ⟨hpre, hbel⟩ := HPR.out
      have hw0 := hbel.size
      refine ⟨⟨i + 1, by omega, rfl, _, hpre.step', ((hbel.setCell (hpre.low sA (by simp)) _).setCell (hpre.low lA (by simp)) _).alloc (by simp [World.setCell]; exact hw0) _⟩, by simp [Go.RowKit.intOf]; omega⟩
    · obtain rfl : i = 8 := by omega
      have HE := Lib.hid hpre.env
      have HB := Lib.hid hbel
      clear hpre hbel hi h8
      go_wp2_with fail
      go_loopw [10] (fun p wr => ∃ k : Nat, k ≤ n0 ∧ p = .int .i64 k ∧ ∃ d sv lv S L, Env wr w.heap.size g gs gm sA lA d sv lv S L ∧ Agree d S L ∧ Below w.heap.size w wr) (fun p _ => n0 - (Go.RowKit.intOf p).toNat)
      case atStart => exact ⟨0, by omega, rfl, _, _, _, _, _, HE.out, fresh_agree, HB.out⟩
      case round =>
        clear HE HB
        obtain ⟨k, hk, rfl, d, sv, lv, S, L, henv, hag, hbel⟩ := hrel
        obtain ⟨wp, rfl⟩ : ∃ wp : World, wp = wr := ⟨_, rfl⟩
        by_cases hkn : k < n0
        · obtain ⟨x, b, o, hact⟩ := HA.out k hkn
          have HX := Lib.hid hact
          have HE := Lib.hid (And.intro henv (And.intro hag hbel))
          obtain ⟨_, hidx, ck, ca, cb, xa0, xa1⟩ := hact.below hbel
          have k0 : (k : Int) < n0 := by omega
          have HKN := Lib.hid hkn
          clear hact henv hag hbel hkn
          obtain ⟨a, ha⟩ : ∃ a : Nat, x.a % 8 = (a : Int) := ⟨(x.a % 8).toNat, by omega⟩
          have ha8 : a < 8 := by omega
          have h7 : bits .and .i64 x.a 7 = (a : Int) := (i64_and7 x.a).trans ha
          have HA8 := Lib.hid ha8
          have a0 : (0 : Int) ≤ a := by omega
          have a8 : (a : Int) < 8 := by omega
          clear ha ha8
          rcases (show x.kind = 3 ∨ (0 ≤ x.kind ∧ x.kind < 2) ∨ x.kind = 4 ∨ (x.kind < 0 ∨ x.kind = 2 ∨ 4 < x.kind) by omega) with hq | hq | hq | hq
          · rw [hq] at ck
            have HSY := Lib.hid (sync_any wp g gs gm d HE.out.1.dk)
            unfold ptr at HSY
            go_wp2_with (go_at_call 6; refine (num_any _ _).mono ?_; rintro e wn ⟨rfl, rfl⟩)
            refine HSY.out.mono ?_
            rintro e w3 ⟨d', hd3, ht3, ⟨rfl, hag3⟩ | ⟨rfl, hag3⟩⟩
            · have HE3 := Lib.hid (HE.out.1.disk hd3 ht3)
              have HB3 := Lib.hid (HE.out.2.2.trans (ht3.low HE.out.1.lowDisk HE.out.2.2.size))
              have HB4 := Lib.hid (below_row HB3.out (HE.out.1.low sA (by simp)) (row8 fun j => sl (lv j)))
              have HG3 := Lib.hid (hag3 S L HE.out.2.1)
              obtain ⟨_, _, ck4, _, _, _, _⟩ := HX.out.below HB4.out
              rw [hq] at ck4
              clear hd3 ht3 hag3 ck ca cb HSY
              go_wp2_with (first
                | ((with_reducible refine wpList_loadRow w3 lA _ HE3.out.lr ?_ ?_); exact ⟨rfl, _, rfl, rfl⟩)
                | ((with_reducible refine wpList_saveRow w3 sA _ (fun j => sl (lv j)) HE3.out.sr ?_ ?_ ?_); exact fun _ _ => rfl; exact ⟨rfl, _, _, rfl, rfl, rfl⟩)
                | (go_at_call 6; refine (num_any _ _).mono ?_; rintro e wn ⟨rfl, rfl⟩))
              exact ⟨⟨k + 1, by have := HKN.out; omega, rfl, d', lv, lv, L, L, HE3.out.copied, HG3.out, HB4.out⟩, by have := HKN.out; simp [Go.RowKit.intOf]; omega⟩
            · have HE3 := Lib.hid (HE.out.1.disk hd3 ht3)
              have HB3 := Lib.hid (HE.out.2.2.trans (ht3.low HE.out.1.lowDisk HE.out.2.2.size))
              have HG3 := Lib.hid (hag3 S L HE.out.2.1)
              obtain ⟨_, _, ck4, _, _, _, _⟩ := HX.out.below HB3.out
              rw [hq] at ck4
              clear hd3 ht3 hag3 ck ca cb HSY
              go_wp2_with (go_at_call 6; refine (num_any _ _).mono ?_; rintro e wn ⟨rfl, rfl⟩)
              exact ⟨⟨k + 1, by have := HKN.out; omega, rfl, d', sv, lv, S, L, HE3.out, HG3.out, HB3.out⟩, by have := HKN.out; simp [Go.RowKit.intOf]; omega⟩
          · obtain ⟨q0, q2⟩ := hq
            have q3 : (x.kind == 3) = false := by simp; omega
            have q4 : (x.kind == 4) = false := by simp; omega
            have HBY := Lib.hid (bytes_64 wp x.b)
            go_wp2_with (go_at_call 6; refine (num_any _ _).mono ?_; rintro e wn ⟨rfl, rfl⟩)
            refine HBY.out.mono ?_
            rintro e w3 ⟨k2, rfl, hk2, hl2, hb2⟩
            have HE3 := Lib.hid (HE.out.1.gone (Turn.ofBelow hb2))
            have HB3 := Lib.hid (HE.out.2.2.trans (hb2.mono HE.out.2.2.size))
            have HWR := Lib.hid (write_any w3 g gs gm d HE3.out.dk a k2 (pat x.b) (by rw [HE.out.2.1.1]; exact HA8.out) (pat_length _) hk2 (HE.out.1.dk.notIn hl2))
            unfold ptr at HWR
            clear hk2 hl2 hb2 ck ca cb HBY
            go_wp2_with (go_at_call 6; refine (num_any _ _).mono ?_; rintro e wn ⟨rfl, rfl⟩)
            refine HWR.out.mono ?_
            rintro e w4 ⟨d', hd4, ht4, ⟨rfl, hag4⟩ | ⟨rfl, hag4⟩⟩
            · have HE4 := Lib.hid (HE3.out.disk hd4 ht4)
              have HB4 := Lib.hid (HB3.out.trans (ht4.low HE.out.1.lowDisk HB3.out.size))
              have HG4 := Lib.hid (hag4 S L HE.out.2.1)
              obtain ⟨_, _, _, _, cb4, _, _⟩ := HX.out.below HB4.out
              have HBY := Lib.hid (bytes_64 w4 x.b)
              clear hd4 ht4 hag4 HWR
              go_wp2_with (go_at_call 6; refine (num_any _ _).mono ?_; rintro e wn ⟨rfl, rfl⟩)
              refine HBY.out.mono ?_
              rintro e w5 ⟨k5, rfl, hk5, hl5, hb5⟩
              have HE5 := Lib.hid (HE4.out.gone (Turn.ofBelow hb5))
              have HB5 := Lib.hid (HB4.out.trans (hb5.mono HB4.out.size))
              have HE6 := Lib.hid (HE5.out.last (a := a) hk5 (HE4.out.dk.notIn hl5))
              have HB6 := Lib.hid (HB5.out.setCell (p := ⟨lA, a, none⟩) (HE.out.1.low lA (by simp)) (sl k5))
              obtain ⟨hbw, _, ck5, _, _, _, _⟩ := HX.out.below HB5.out
              have cl5 : w5.cell? ⟨lA, a, none⟩ = some (sl (lv a)) := by rw [cell_at HE5.out.lr, row8_get _ HA8.out]
              have fl5 : w5.frozen? ⟨lA, a, none⟩ = false := free_at HE5.out.lr a
              have hlw := HE.out.1.low lA (by simp)
              have hne : b ≠ lA := by omega
              have hne2 : lA ≠ b := by omega
              clear hk5 hl5 hb5 cb4 HBY hbw hlw
              go_wp2_with (go_at_call 6; refine (num_any _ _).mono ?_; rintro e wn ⟨rfl, rfl⟩)
              exact ⟨⟨k + 1, by have := HKN.out; omega, rfl, d', sv, _, S, _, HE6.out, HG4.out, HB6.out⟩, by have := HKN.out; simp [Go.RowKit.intOf]; omega⟩
            · have HE4 := Lib.hid (HE3.out.disk hd4 ht4)
              have HB4 := Lib.hid (HB3.out.trans (ht4.low HE.out.1.lowDisk HB3.out.size))
              have HG4 := Lib.hid (hag4 S L HE.out.2.1)
              obtain ⟨_, _, ck4, _, _, _, _⟩ := HX.out.below HB4.out
              clear hd4 ht4 hag4 HWR
              go_wp2_with (go_at_call 6; refine (num_any _ _).mono ?_; rintro e wn ⟨rfl, rfl⟩)
              exact ⟨⟨k + 1, by have := HKN.out; omega, rfl, d', sv, lv, S, L, HE4.out, HG4.out, HB4.out⟩, by have := HKN.out; simp [Go.RowKit.intOf]; omega⟩
          · rw [hq] at ck
            have HST := Lib.hid (stop_disk wp g gs gm d x.a HE.out.1.dk xa0 xa1)
            unfold ptr at HST
            go_wp2_with (go_at_call 6; refine (num_any _ _).mono ?_; rintro e wn ⟨rfl, rfl⟩)
            refine HST.out.mono ?_
            rintro e w3 ⟨rfl, hd3, ht3⟩
            have HD3 := Lib.hid (And.intro hd3 ht3)
            clear hd3 ht3
            go_wp2_with (go_at_call 6; refine (num_any _ _).mono ?_; rintro e wn ⟨rfl, rfl⟩)
            obtain ⟨hd3, ht3⟩ := HD3.out
            obtain ⟨henv, hag, hbel⟩ := HE.out
            exact ⟨⟨k + 1, by have := HKN.out; omega, rfl, _, sv, lv, S, L, henv.disk hd3 ht3, hag.stop x.a, hbel.trans (ht3.low henv.lowDisk hbel.size)⟩, by have := HKN.out; simp [Go.RowKit.intOf]; omega⟩
          · have q3 : (x.kind == 3) = false := by simp; omega
            have q4 : (x.kind == 4) = false := by simp; omega
            rcases hq with hq | hq | hq
            all_goals
              go_wp2_with (go_at_call 6; refine (num_any _ _).mono ?_; rintro e wn ⟨rfl, rfl⟩)
              obtain ⟨henv, hag, hbel⟩ := HE.out
              exact ⟨⟨k + 1, by have := HKN.out; omega, rfl, d, sv, lv, S, L, henv, hag, hbel⟩, by have := HKN.out; simp [Go.RowKit.intOf]; omega⟩
        · obtain rfl : n0 = k := by omega
          have HC := Lib.hid (crash_disk wp g gs gm d henv.dk A1 n1 c1 fs (HF.out.nums hbel hbel.size henv.lowDisk))
          have hok := henv.dk.ok
          have hhalf : ∀ j, j < 8 → halfs (S j) (L j) ((d.crash fs).read j) := fun j hj => by
            obtain ⟨e1, e2⟩ := hag.2 j hj
            rw [e1, e2]
            exact crash_halfs hok fs _ (Nat.le_refl _) j (by rw [hag.1]; exact hj)
          have hlen : ∀ j, j < 8 → ((d.crash fs).read j).length = 64 ∧ (S j).length = 64 ∧ (L j).length = 64 := fun j hj => by
            obtain ⟨e1, e2⟩ := hag.2 j hj
            have hj' : j < d.n := by rw [hag.1]; exact hj
            rw [e1, e2]
            exact ⟨Dsk.read_length (Dsk.crash_ok hok fs) hj', hok.2.2.1 j hj', Dsk.read_length hok hj'⟩
          have HH := Lib.hid (And.intro hhalf hlen)
          have HPost : Hid ((d.crash fs).off = false ∧ (d.crash fs).n = 8 ∧ (d.crash fs).waits = fun _ => none) := Lib.hid ⟨rfl, hag.1, rfl⟩
          have HE := Lib.hid (And.intro henv hbel)
          clear henv hag hbel hok hhalf hlen hk hkn
          unfold ptr at HC
          generalize d.crash fs = d5 at HC HH HPost
          go_wp2_with fail
          refine HC.out.mono ?_
          rintro e w3 ⟨rfl, hd3, ht3⟩
          have HE3 := Lib.hid (HE.out.1.disk hd3 ht3)
          have HB3 := Lib.hid (HE.out.2.trans (ht3.low HE.out.1.lowDisk HE.out.2.size))
          clear hd3 ht3 HC HE
          go_wp2_with fail
          go_loopw [12] (fun p wr => ∃ i : Nat, i ≤ 8 ∧ p = .int .i64 i ∧ Env wr w.heap.size g gs gm sA lA d5 sv lv S L ∧ Below w.heap.size w wr) (fun p _ => 8 - (Go.RowKit.intOf p).toNat)
          case atStart => exact ⟨0, by omega, rfl, HE3.out, HB3.out⟩
          case round =>
            clear HE3 HB3
            obtain ⟨i, hi, rfl, henv, hbel⟩ := hrel
            obtain ⟨wq, rfl⟩ : ∃ wq : World, wq = wr := ⟨_, rfl⟩
            by_cases h8 : i < 8
            · have HR := Lib.hid (read_disk wq g gs gm d5 henv.dk HPost.out.1 i (by rw [HPost.out.2.1]; exact h8))
              have HE := Lib.hid (And.intro henv hbel)
              have H8 := Lib.hid h8
              have i0 : (0 : Int) ≤ i := by omega
              have i1 : (i : Int) < 8 := by omega
              clear henv hbel h8
              unfold ptr at HR
              go_wp2_with fail
              refine HR.out.mono ?_
              rintro e w6 ⟨k6, rfl, hk6, hl6, ht6⟩
              have HE6 := Lib.hid (HE.out.1.gone ht6)
              have HB6 := Lib.hid (HE.out.2.trans (ht6.low (by simp) HE.out.2.size))
              have HK6 := Lib.hid hk6
              clear hk6 hl6 ht6 HR HE
              go_upto_region 27 with (go_at_call 6; refine (num_any _ _).mono ?_; rintro e wn ⟨rfl, rfl⟩)
              have hsl := slice_lo k6
              have hsh := slice_hi k6
              refine wp_region_still_lit (by kernel_rfl) (by kernel_rfl) ?_
              iterate 2 still_step
              refine still_conv _ _ _ rfl rfl (conv_lo w6.drew k6 _ (HH.out.2 i H8.out).1 (range_of HK6.out)) rfl ?_
              go_frame
              iterate 2 still_step
              refine still_conv _ _ _ rfl rfl (conv_hi w6.drew k6 _ (HH.out.2 i H8.out).1 (range_of HK6.out)) rfl ?_
              go_frame
              iterate 2 still_step
              refine wpStill_nil ?_
              change Exit.then _ _ Exit.normal _ w6.drew
              obtain ⟨Y, hY⟩ : ∃ Y, Y = w6.drew := ⟨_, rfl⟩
              have hty : Turn [] w6 Y := by rw [hY]; exact (Turn.refl _ _).drew
              rw [← hY]
              have HEY := Lib.hid (HE6.out.gone hty)
              have HBY := Lib.hid (HB6.out.trans (hty.low (by simp) HB6.out.size))
              clear hY hty hsl hsh
              obtain ⟨hx, hy⟩ := HH.out.1 i H8.out
              obtain ⟨_, l1, l2⟩ := HH.out.2 i H8.out
              have cS : Y.cell? ⟨sA, i, none⟩ = some (.slice (some ⟨sv i, 0, none⟩) 64 64) := (cell_at HEY.out.sr i).trans (row8_get _ H8.out)
              have cL : Y.cell? ⟨lA, i, none⟩ = some (.slice (some ⟨lv i, 0, none⟩) 64 64) := (cell_at HEY.out.lr i).trans (row8_get _ H8.out)
              have vS1 := conv_lo Y (sv i) (S i) l1 (range_of (HEY.out.sb i H8.out).1)
              have vS2 := conv_hi Y (sv i) (S i) l1 (range_of (HEY.out.sb i H8.out).1)
              have vL1 := conv_lo Y (lv i) (L i) l2 (range_of (HEY.out.lb i H8.out).1)
              have vL2 := conv_hi Y (lv i) (L i) l2 (range_of (HEY.out.lb i H8.out).1)
              have hx' : strOf ((d5.read i).take 32) = strOf ((S i).take 32) ∨ strOf ((d5.read i).take 32) = strOf ((L i).take 32) := hx.imp (congrArg strOf) (congrArg strOf)
              have hy' : strOf ((d5.read i).drop 32) = strOf ((S i).drop 32) ∨ strOf ((d5.read i).drop 32) = strOf ((L i).drop 32) := hy.imp (congrArg strOf) (congrArg strOf)
              clear hx hy l1 l2
              generalize strOf ((d5.read i).take 32) = X1 at hx' ⊢
              generalize strOf ((d5.read i).drop 32) = X2 at hy' ⊢
              generalize strOf ((S i).take 32) = S1 at hx' vS1
              generalize strOf ((S i).drop 32) = S2 at hy' vS2
              generalize strOf ((L i).take 32) = L1 at hx' vL1
              generalize strOf ((L i).drop 32) = L2 at hy' vL2
              have t1 := slice_lo (sv i)
              have t2 := slice_hi (sv i)
              have t3 := slice_lo (lv i)
              have t4 := slice_hi (lv i)
              by_cases e1 : X1 = S1
              all_goals by_cases e2 : X2 = S2
              all_goals
                first
                  | (obtain rfl := e1; clear hx')
                  | (obtain rfl : X1 = L1 := hx'.resolve_left e1; clear hx')
                first
                  | (obtain rfl := e2; clear hy')
                  | (obtain rfl : X2 = L2 := hy'.resolve_left e2; clear hy')
                go_wp2_with fail
                all_goals exact ⟨⟨i + 1, by have := H8.out; omega, rfl, HEY.out, HBY.out⟩, by have := H8.out; simp [Go.RowKit.intOf]; omega⟩
            · have i8 : (8 : Int) ≤ i := by omega
              have HD := Lib.hid henv.dk
              have HLOW := Lib.hid henv.lowDisk
              have HB := Lib.hid hbel
              clear henv hbel hi h8
              go_wp2_with fail
              go_loopw [17, 18] (fun p q wr => ∃ i : Nat, i ≤ 2 ∧ q = .int .i64 i ∧ Nobody wr p ∧ Dk wr g gs gm d5 ∧ Below w.heap.size w wr) (fun _ q _ => 2 - (Go.RowKit.intOf q).toNat)
              case atStart => exact ⟨0, by omega, rfl, .inl rfl, HD.out, HB.out⟩
              case round =>
                clear HD HB
                obtain ⟨t, hi, rfl, hno, hdk, hbel⟩ := hrel
                obtain ⟨wz, rfl⟩ : ∃ wz : World, wz = wr := ⟨_, rfl⟩
                by_cases h2 : t < 2
                · have HNO := Lib.hid hno
                  have HN1 := Lib.hid (hno.keep ((Below.refl wz.heap.size wz).alloc (Nat.le_refl _) (.cells #[.int .i64 1] 3)))
                  have HD1 := Lib.hid (hdk.alloc (.cells #[.int .i64 1] 3))
                  have HB1 := Lib.hid (hbel.alloc hbel.size (.cells #[.int .i64 1] 3))
                  have i0 : (0 : Int) ≤ t := by omega
                  have i1 : (t : Int) < 2 := by omega
                  have H2 := Lib.hid h2
                  clear hno hdk hbel h2 hi
                  go_wp2_with (first
                    | (go_at_call 10; refine (stop_none wz u17 1 HNO.out).mono ?_; rintro e wn ⟨rfl, rfl⟩)
                    | (go_at_call 11; refine (crash_none _ u17 _ HN1.out).mono ?_; rintro e wn ⟨rfl, rfl⟩)
                    | (go_at_call 12; refine (read_none _ u17 0 HN1.out).mono ?_; rintro e wn ⟨rfl, rfl⟩)
                    | (go_at_call 6; refine (num_any _ _).mono ?_; rintro e wn ⟨rfl, rfl⟩)
                    | (go_at_call 8; refine (write_none _ u17 _ 0 HN1.out).mono ?_; rintro e wn ⟨rfl, rfl⟩)
                    | (go_at_call 7; refine (sync_none _ u17 HN1.out).mono ?_; rintro e wn ⟨rfl, rfl⟩)
                    | (go_at_call 13; refine (down_none _ u17 HN1.out).mono ?_; rintro e wn ⟨rfl, rfl⟩)
                    | (go_at_call 14; refine (sectors_none _ u17 HN1.out).mono ?_; rintro e wn ⟨rfl, rfl⟩)
                    | (go_at_call 15; refine (done_none _ u17 HN1.out).mono ?_; rintro e wn ⟨rfl, rfl⟩)
                    | (go_at_call 16; refine (waiting_none _ u17 HN1.out).mono ?_; rintro e w8 ⟨rfl, hb8⟩; have HB8 := Lib.hid hb8; clear hb8))
                  have hb9 := HB1.out.trans (HB8.out.mono HB1.out.size)
                  have HFIN := Lib.hid (And.intro (heap_alloc_last w8 (.cells #[.slice none 0 0, .map none, .bool false, .bool false, .int .i64 0, .int .i64 0] 46)) (And.intro ((HD1.out.gone HB8.out).alloc (.cells #[.slice none 0 0, .map none, .bool false, .bool false, .int .i64 0, .int .i64 0] 46)) (hb9.alloc hb9.size (.cells #[.slice none 0 0, .map none, .bool false, .bool false, .int .i64 0, .int .i64 0] 46))))
                  clear hb9
                  exact ⟨⟨t + 1, by have := H2.out; omega, rfl, .inr ⟨_, rfl, HFIN.out.1⟩, HFIN.out.2⟩, by have := H2.out; simp [Go.RowKit.intOf]; omega⟩
                · have HW := Lib.hid (waiting_no wz g gs gm d5 hdk HPost.out.2.2)
                  have HDN := Lib.hid (fun W (hW : Below wz.heap.size wz W) => down_disk W g gs gm d5 (hdk.gone hW))
                  have HB := Lib.hid hbel
                  have i2 : (2 : Int) ≤ t := by omega
                  rw [HPost.out.1] at HDN
                  unfold ptr at HW HDN
                  clear hno hdk hbel h2 hi
                  go_wp2_with fail
                  refine HW.out.mono ?_
                  rintro e w8 ⟨A8, c8, rfl, hb8⟩
                  have HB9 := Lib.hid (HB.out.trans (hb8.mono HB.out.size))
                  have HDM := Lib.hid (HDN.out w8 hb8)
                  clear hb8 HDN
                  go_wp2_with fail
                  refine HDM.out.mono ?_
                  rintro e wn ⟨rfl, rfl⟩
                  go_wp2_with fail
                  go_ret
                  exact ⟨rfl, HB9.out⟩
end Go.Proofs.Ythphcidpdjopeaa
