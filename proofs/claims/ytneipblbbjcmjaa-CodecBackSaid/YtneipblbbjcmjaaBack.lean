/-
  The walk of CodecBack: true, for every slice of items. Conditions: the slice reads as items.
-/
import Derived.Test.YtneipblbbjcmjaaReads
namespace Go.Proofs.Ytneipblbbjcmjaa
open Go.RowKit Codec
attribute [local go_sem ↓] Go.wp_at_zero Go.wp_at_succ
/-- What is left of what was laid, all of it good. -/
def Rest (w : World) (B g : Nat) (l : List It) (k : Nat) (w' : World) : Prop := Rdr 59 w' B g ⟨encs ((l.drop k).map It.itm), false⟩ ∧ Below w.heap.size w w'
theorem encs_rest (l : List It) (k : Nat) (h : k < l.length) : encs ((l.drop k).map It.itm) = enc (l.getD k noIt).itm ++ encs ((l.drop (k + 1)).map It.itm) := by
  have h2 : k < (l.map It.itm).length := by simpa using h
  rw [List.map_drop, List.map_drop, encs_drop _ _ h2, List.getElem_map, List.getD_eq_getElem?_getD, List.getElem?_eq_getElem h]
  rfl
theorem back_num (w : World) (B g : Nat) (it : It) (r : List UInt8) (hk : it.kind = 0) (hn : -9223372036854775808 ≤ it.n ∧ it.n ≤ 9223372036854775807) (hr : Rdr 59 w B g ⟨enc it.itm ++ r, false⟩) :
    Calls Try.prog 15 #[.pointer (some ⟨g, 0, none⟩)] w (Turned 59 w B g (.int .i64 it.n) ⟨r, false⟩) := by
  rw [enc_0 (i := it.itm) hk] at hr
  have h := num_any w B g _ hr
  have hb := num_back it.n r hn
  rwa [show num ⟨encNum it.itm.n ++ r, false⟩ = it.n from hb.1, show tkS 8 ⟨encNum it.itm.n ++ r, false⟩ = ⟨r, false⟩ from hb.2] at h
theorem back_small (w : World) (B g : Nat) (it : It) (x : Int) (r : List UInt8) (hk : it.kind = 1) (hx : (clip it.n : Int) = x) (hr : Rdr 59 w B g ⟨enc it.itm ++ r, false⟩) :
    Calls Try.prog 22 #[.pointer (some ⟨g, 0, none⟩)] w (Turned 59 w B g (.int .i64 x) ⟨r, false⟩) := by
  rw [enc_1 (i := it.itm) hk] at hr
  have h := small_any w B g _ hr
  have hb := small_back (clip it.n) r (clip_lt _)
  rwa [show small ⟨encSmall it.itm.n ++ r, false⟩ = clip it.n from hb.1, show tkS 2 ⟨encSmall it.itm.n ++ r, false⟩ = ⟨r, false⟩ from hb.2, hx] at h
theorem bytes_eta (s : ByteArray) : (⟨(bytesOf s).toArray⟩ : ByteArray) = s := by
  unfold bytesOf
  rw [Array.toArray_toList]
theorem back_text (w : World) (B g : Nat) (it : It) (r : List UInt8) (hk : it.kind = 2) (hs : it.s.size ≤ 2000) (hr : Rdr 59 w B g ⟨enc it.itm ++ r, false⟩) :
    Calls Try.prog 19 #[.pointer (some ⟨g, 0, none⟩), .int .i64 2000] w (Turned 59 w B g (.string it.s) ⟨r, false⟩) := by
  rw [enc_2 (i := it.itm) hk] at hr
  have h := text_any w B g 2000 _ hr
  have hb := text_back (bytesOf it.s) r (by rw [bytesOf_length]; exact hs)
  rwa [show text 2000 ⟨encText it.itm.s ++ r, false⟩ = bytesOf it.s from hb.1, show textS 2000 ⟨encText it.itm.s ++ r, false⟩ = ⟨r, false⟩ from hb.2, bytes_eta] at h
set_option maxRecDepth 100000 in
set_option maxHeartbeats 8000000 in
theorem back_any (w : World) (n c : Nat) (A : Option Addr) (l : List It) (hl : Items w w.heap.size A n l) (hn : n ≤ 9223372036854775807) :
    Calls Try.prog 5 #[.slice A n c] w (EndsBelow (.bool true) w) := by
  have HF := Lib.hid (few_any w w.heap.size n c A l hl hn)
  cases hf : fewB l
  · rw [hf] at HF
    clear hl hf
    go_enter Try.func5, Try.ntmps5
    go_wp2_with fail
    refine HF.out.mono ?_
    rintro e w1 ⟨rfl, rfl⟩
    go_wp2_with fail
    refine (knows_any _).mono ?_
    rintro e w2 ⟨rfl, hb⟩
    go_wp2_with fail
    go_ret
    exact ⟨rfl, hb⟩
  · rw [hf] at HF
    have HL := Lib.hid hl
    have HN := Lib.hid hl.len
    have HFF := Lib.hid hf
    have hn1 : n ≤ 100 := by have := (of_few hf).1; rw [hl.len] at this; exact this
    have HZ := Lib.hid (encs_size l hf l.length)
    rw [List.take_length] at HZ
    clear hl hf
    go_enter Try.func5, Try.ntmps5
    go_wp2_with fail
    refine HF.out.mono ?_
    rintro e w1 ⟨rfl, rfl⟩
    go_wp2_with fail
    refine (knows_any _).mono ?_
    rintro e w1 ⟨rfl, hb⟩
    have HB1 := Lib.hid hb
    have HC := Lib.hid (lay_items w1 n c A l (HL.out.up hb hb.size) HFF.out)
    clear hb HF
    go_wp2_with fail
    refine HC.out.mono ?_
    rintro e w2 ⟨g, rfl, hW, hb⟩
    have HB2 := Lib.hid (HB1.out.trans (hb.mono HB1.out.size))
    have HC := Lib.hid (bytes_some w2 _ _ _ hW (by have := HZ.out; omega))
    clear hW hb HB1
    go_wp2_with fail
    refine HC.out.mono ?_
    rintro e w3 ⟨Ab, cb, rfl, ho, hb⟩
    have HB3 := Lib.hid (HB2.out.trans (hb.mono HB2.out.size))
    have HO := Lib.hid ho
    have HC := Lib.hid (read_any w3 _ _ cb Ab _ ho.byts (Nat.le_refl _) (by have := HZ.out; omega))
    have hcb : (encs (l.map It.itm)).length ≤ cb := by
      obtain ⟨A', c', e', h1, _⟩ := Owns.form ho
      injection e' with _ _ e3
      omega
    clear ho hb HB2
    go_wp2_with fail
    refine HC.out.mono ?_
    rintro e w4 ⟨B1, g1, rfl, hr, hB1, hb⟩
    have HBW := Lib.hid (HO.out.below hb)
    have HS : Hid (Rest w3 B1 g1 l 0 w4) := Lib.hid ⟨by rw [List.drop_zero]; exact hr, hb⟩
    have hg1 : w3.heap.size ≤ g1 := by have := hr.2.1; omega
    clear hr hb HC
    have HLS : Hid ((encs (l.map It.itm)).length ≠ 0 → Less (encs ((l.drop 0).map It.itm)) ⟨(encs (l.map It.itm)).dropLast, false⟩) := Lib.hid (fun h => .inr ⟨by
      rw [List.drop_zero]
      intro h2
      exact h (by rw [h2]; rfl), by rw [List.drop_zero]⟩)
    generalize encs (l.map It.itm) = xs at *
    generalize hnx : xs.length = nx at *
    have HNX := Lib.hid hnx
    clear hnx
    go_wp2_with fail
    go_loopw [5] (fun i wr => ∃ k : Nat, k ≤ n ∧ i = .int .i64 k ∧ Rest w3 B1 g1 l k wr) (fun i _ => n - (intOf i).toNat)
    case atStart => exact ⟨0, by omega, rfl, HS.out⟩
    case round =>
      obtain ⟨k, hk, rfl, hrest⟩ := hrel
      have HR := Lib.hid hrest
      clear hrest HS
      by_cases hlt : k < n
      · have HE := Lib.hid (encs_rest l k (by rw [HN.out]; exact hlt))
        have HSZ : Hid ((l.getD k noIt).s.size ≤ 2000) := Lib.hid ((of_few HFF.out).2 _ (by
          rw [List.getD_eq_getElem?_getD, List.getElem?_eq_getElem (by rw [HN.out]; exact hlt)]
          exact List.getElem_mem _))
        have HNB := Lib.hid (HL.out.fits k)
        obtain ⟨b, off, hA, hbw, hc⟩ := (HL.out.up HB3.out HB3.out.size).at_ (by omega)
        have HIT := Lib.hid (fun wc (h : Below w3.heap.size w3 wc) => show wc.cell? ⟨b, off + k * 3, none⟩ = some (.int .i64 (l.getD k noIt).kind) ∧ wc.cell? ⟨b, off + k * 3 + 1, none⟩ = some (.int .i64 (l.getD k noIt).n) ∧ wc.cell? ⟨b, off + k * 3 + 2, none⟩ = some (.string (l.getD k noIt).s) from by
          rw [h.cell (p := ⟨b, off + k * 3, none⟩) hbw, h.cell (p := ⟨b, off + k * 3 + 1, none⟩) hbw, h.cell (p := ⟨b, off + k * 3 + 2, none⟩) hbw]
          exact hc k hlt)
        have hk0 : (0 : Int) ≤ (k : Int) := Int.natCast_nonneg _
        have hk1 : (k : Int) < (n : Int) := by omega
        subst hA
        clear hc
        obtain ⟨it, hit⟩ : ∃ it, it = l.getD k noIt := ⟨_, rfl⟩
        rw [← hit] at HE HSZ HNB HIT
        clear hit
        have hrr := HR.out.1
        rw [HE.out] at hrr
        have HWB := Lib.hid HR.out.2
        obtain ⟨c0, c1, c2⟩ := HIT.out wr HWB.out
        have HRR := Lib.hid hrr
        clear hrr HE
        rcases (show it.kind = 0 ∨ it.kind = 1 ∨ it.kind = 2 ∨ (it.kind ≠ 0 ∧ it.kind ≠ 1 ∧ it.kind ≠ 2) by omega) with hk2 | hk2 | hk2 | hk2
        · have HC := Lib.hid (back_num wr.drew B1 g1 it _ hk2 HNB.out (HRR.out.drew))
          rw [hk2] at c0
          clear hk2
          go_wp2_with fail
          have c1d : wr.drew.cell? ⟨b, off + k * 3 + 1, none⟩ = some (.int .i64 it.n) := c1
          go_region_held3 (fun w' => w'.cell? ⟨b, off + k * 3 + 1, none⟩ = some (.int .i64 it.n)) (first | assumption | (exact hc5.2.1) | go_keep)
            (first
              | (go_at_call 15; refine HC.out.mono ?_; rintro e w5 ⟨rfl, h59, hg⟩; have H5 := Lib.hid h59; have HB5 := Lib.hid (HWB.out.drew.trans (grown_below hg w3.heap.size hg1 (by have := HWB.out.drew.size; omega))); have hc5 := HIT.out w5 HB5.out; clear h59 hg))
          all_goals
            go_wp2_with fail
            go_roundw
            case rel => exact ⟨k + 1, by omega, by go_num, H5.out, HB5.out⟩
            case measure => simp [intOf]; omega
        · rcases (show it.n < 0 ∨ (0 ≤ it.n ∧ it.n ≤ 65535) ∨ 65535 < it.n by omega) with hx | ⟨hx, hx2⟩ | hx
          all_goals
            first
              | (have HC := Lib.hid (back_small wr.drew B1 g1 it 0 _ hk2 (by unfold clip; omega) (HRR.out.drew)))
              | (have HC := Lib.hid (back_small wr.drew B1 g1 it it.n _ hk2 (by unfold clip; omega) (HRR.out.drew)))
              | (have HC := Lib.hid (back_small wr.drew B1 g1 it 65535 _ hk2 (by unfold clip; omega) (HRR.out.drew)))
            rw [hk2] at c0
            clear hk2
            go_wp2_with fail
            have c1d : wr.drew.cell? ⟨b, off + k * 3 + 1, none⟩ = some (.int .i64 it.n) := c1
            go_region_held3 (fun w' => w'.cell? ⟨b, off + k * 3 + 1, none⟩ = some (.int .i64 it.n)) (first | assumption | (exact hc5.2.1) | go_keep)
              (first
                | (go_at_call 22; refine HC.out.mono ?_; rintro e w5 ⟨rfl, h59, hg⟩; have H5 := Lib.hid h59; have HB5 := Lib.hid (HWB.out.drew.trans (grown_below hg w3.heap.size hg1 (by have := HWB.out.drew.size; omega))); have hc5 := HIT.out w5 HB5.out; clear h59 hg))
            all_goals
              go_wp2_with fail
              go_roundw
              case rel => exact ⟨k + 1, by omega, by go_num, H5.out, HB5.out⟩
              case measure => simp [intOf]; omega
        · have HC := Lib.hid (back_text wr.drew B1 g1 it _ hk2 HSZ.out (HRR.out.drew))
          rw [hk2] at c0
          clear hk2
          go_wp2_with fail
          have c1d : wr.drew.cell? ⟨b, off + k * 3 + 2, none⟩ = some (.string it.s) := c2
          go_region_held3 (fun w' => w'.cell? ⟨b, off + k * 3 + 2, none⟩ = some (.string it.s)) (first | assumption | (exact hc5.2.2) | go_keep)
            (first
              | (go_at_call 19; refine HC.out.mono ?_; rintro e w5 ⟨rfl, h59, hg⟩; have H5 := Lib.hid h59; have HB5 := Lib.hid (HWB.out.drew.trans (grown_below hg w3.heap.size hg1 (by have := HWB.out.drew.size; omega))); have hc5 := HIT.out w5 HB5.out; clear h59 hg))
          all_goals
            go_wp2_with fail
            go_roundw
            case rel => exact ⟨k + 1, by omega, by go_num, H5.out, HB5.out⟩
            case measure => simp [intOf]; omega
        · have HX := Lib.hid (enc_no (i := it.itm) hk2)
          rw [HX.out, List.nil_append] at HRR
          obtain ⟨k0, k1, k2⟩ := hk2
          have d0 : (it.kind == 0) = false := by simpa using k0
          have d1 : (it.kind == 1) = false := by simpa using k1
          have d2 : (it.kind == 2) = false := by simpa using k2
          clear k0 k1 k2 HX
          go_wp2_with fail
          go_roundw
          case rel => exact ⟨k + 1, by omega, by go_num, HRR.out, HWB.out⟩
          case measure => simp [intOf]; omega
      · obtain rfl : n = k := by omega
        obtain ⟨wo, rfl⟩ : ∃ wo : World, wo = wr := ⟨_, rfl⟩
        have hend := HR.out.1
        rw [List.drop_eq_nil_of_le (by rw [HN.out]; omega)] at hend
        have H59 : Hid (Rdr 59 wo B1 g1 ⟨[], false⟩) := Lib.hid hend
        have HWB := Lib.hid HR.out.2
        have HE1 := Lib.hid (end_any wo B1 g1 _ H59.out)
        have HG1 := Lib.hid (good_any wo B1 g1 _ H59.out)
        rw [ab_end] at HE1
        clear hend HR
        go_wp2_with fail
        refine HE1.out.mono ?_
        rintro e w5 ⟨rfl, rfl⟩
        go_wp2_with fail
        refine HG1.out.mono ?_
        rintro e w5 ⟨rfl, rfl⟩
        go_wp2_with fail
        refine (rnum_none _).mono ?_
        rintro e w5 ⟨rfl, rfl⟩
        go_wp2_with fail
        refine (rsmall_none _).mono ?_
        rintro e w5 ⟨rfl, rfl⟩
        go_wp2_with fail
        refine (rtext_none _ 9 (by decide)).mono ?_
        rintro e w5 ⟨rfl, rfl⟩
        go_wp2_with fail
        refine (rcount_none _ 9 (by decide)).mono ?_
        rintro e w5 ⟨rfl, rfl⟩
        go_wp2_with fail
        refine (rleft_none _).mono ?_
        rintro e w5 ⟨rfl, rfl⟩
        go_wp2_with fail
        refine (rend_none _).mono ?_
        rintro e w5 ⟨rfl, rfl⟩
        by_cases hx0 : nx = 0
        · subst hx0
          go_wp2_with fail
          go_ret
          exact ⟨rfl, HB3.out.trans (HWB.out.mono HB3.out.size)⟩
        · have HLess := Lib.hid (HLS.out hx0)
          obtain ⟨my, rfl⟩ : ∃ my, nx = my + 1 := ⟨nx - 1, by omega⟩
          have hmy : my ≤ 202200 := by have := HZ.out; omega
          have hmc : my ≤ cb := by omega
          have hs1 := fun w => run_to w Ab (my + 1) cb my hmc
          have hby := (HO.out.byts.below HWB.out).take my (by omega)
          rw [show xs.take my = xs.dropLast by rw [List.dropLast_eq_take, HNX.out]; rfl] at hby
          have HC := Lib.hid (read_any wo _ my cb Ab _ hby HWB.out.size (by omega))
          have hz0 : (((my : Int) + 1) == 0) = false := by rw [beq_eq_false_iff_ne]; omega
          clear hby hx0 HLS
          go_wp2_with fail
          refine HC.out.mono ?_
          rintro e w6 ⟨B2, g2, rfl, hr, hB2, hb⟩
          have HQ : Hid (∃ s, Rdr 59 w6 B2 g2 s ∧ Less (encs ((l.drop 0).map It.itm)) s ∧ Below wo.heap.size wo w6) := Lib.hid ⟨_, hr, HLess.out, hb⟩
          have hg2 : wo.heap.size ≤ g2 := by have := hr.2.1; omega
          clear hr hb HC HLess hs1
          go_wp2_with fail
          go_loopw [7] (fun i wr => ∃ k : Nat, k ≤ n ∧ i = .int .i64 k ∧ Hid (∃ s, Rdr 59 wr B2 g2 s ∧ Less (encs ((l.drop k).map It.itm)) s ∧ Below wo.heap.size wo wr)) (fun i _ => n - (intOf i).toNat)
          case atStart => exact ⟨0, by omega, rfl, HQ⟩
          case round =>
            obtain ⟨k, hk, rfl, hq⟩ := hrel
            clear HQ
            obtain ⟨s, h59, hle, hbl⟩ := hq.out
            have H59 := Lib.hid h59
            have HLE := Lib.hid hle
            have HBL := Lib.hid hbl
            clear hq h59 hle hbl
            by_cases hlt : k < n
            · have HE := Lib.hid (encs_rest l k (by rw [HN.out]; exact hlt))
              have HSZ : Hid ((l.getD k noIt).s.size ≤ 2000) := Lib.hid ((of_few HFF.out).2 _ (by
                rw [List.getD_eq_getElem?_getD, List.getElem?_eq_getElem (by rw [HN.out]; exact hlt)]
                exact List.getElem_mem _))
              obtain ⟨b, off, hA, hbw, hc⟩ := ((HL.out.up HB3.out HB3.out.size).up HWB.out HWB.out.size).at_ (by omega)
              have c0 : wr.cell? ⟨b, off + k * 3, none⟩ = some (.int .i64 (l.getD k noIt).kind) := by
                rw [HBL.out.cell (p := ⟨b, off + k * 3, none⟩) hbw]
                exact (hc k hlt).1
              subst hA
              clear hc
              have HLE2 := Lib.hid (HE.out ▸ HLE.out : Less (enc (l.getD k noIt).itm ++ encs ((l.drop (k + 1)).map It.itm)) s)
              obtain ⟨it, hit⟩ : ∃ it, it = l.getD k noIt := ⟨_, rfl⟩
              rw [← hit] at HLE2 HSZ c0
              clear hit HE HLE
              have HST := Lib.hid (less_step it.itm _ s (by rw [show it.itm.s = bytesOf it.s from rfl, bytesOf_length]; exact HSZ.out) HLE2.out)
              clear HLE2
              rcases (show it.kind = 0 ∨ it.kind = 1 ∨ it.kind = 2 ∨ (it.kind ≠ 0 ∧ it.kind ≠ 1 ∧ it.kind ≠ 2) by omega) with hk2 | hk2 | hk2 | hk2
              · rw [step_0 (i := it.itm) hk2] at HST
                rw [hk2] at c0
                clear hk2
                go_wp2_with fail
                refine (num_any wr B2 g2 s H59.out).mono ?_
                rintro e w7 ⟨rfl, h59, hg⟩
                have H7 := Lib.hid h59
                have HB7 := Lib.hid (HBL.out.trans (grown_below hg wo.heap.size hg2 (by have := HBL.out.size; omega)))
                clear h59 hg
                go_wp2_with fail
                go_roundw
                case rel => exact ⟨k + 1, by omega, by go_num, Lib.hid ⟨_, H7.out, HST.out, HB7.out⟩⟩
                case measure => simp [intOf]; omega
              · rw [step_1 (i := it.itm) hk2] at HST
                rw [hk2] at c0
                clear hk2
                go_wp2_with fail
                refine (small_any wr B2 g2 s H59.out).mono ?_
                rintro e w7 ⟨rfl, h59, hg⟩
                have H7 := Lib.hid h59
                have HB7 := Lib.hid (HBL.out.trans (grown_below hg wo.heap.size hg2 (by have := HBL.out.size; omega)))
                clear h59 hg
                go_wp2_with fail
                go_roundw
                case rel => exact ⟨k + 1, by omega, by go_num, Lib.hid ⟨_, H7.out, HST.out, HB7.out⟩⟩
                case measure => simp [intOf]; omega
              · rw [step_2 (i := it.itm) hk2] at HST
                rw [hk2] at c0
                clear hk2
                go_wp2_with fail
                refine (text_any wr B2 g2 2000 s H59.out).mono ?_
                rintro e w7 ⟨rfl, h59, hg⟩
                have H7 := Lib.hid h59
                have HB7 := Lib.hid (HBL.out.trans (grown_below hg wo.heap.size hg2 (by have := HBL.out.size; omega)))
                clear h59 hg
                go_wp2_with fail
                go_roundw
                case rel => exact ⟨k + 1, by omega, by go_num, Lib.hid ⟨_, H7.out, HST.out, HB7.out⟩⟩
                case measure => simp [intOf]; omega
              · rw [step_no (i := it.itm) hk2] at HST
                obtain ⟨k0, k1, k2⟩ := hk2
                have d0 : (it.kind == 0) = false := by simpa using k0
                have d1 : (it.kind == 1) = false := by simpa using k1
                have d2 : (it.kind == 2) = false := by simpa using k2
                clear k0 k1 k2
                go_wp2_with fail
                go_roundw
                case rel => exact ⟨k + 1, by omega, by go_num, Lib.hid ⟨s, H59.out, HST.out, HBL.out⟩⟩
                case measure => simp [intOf]; omega
            · obtain rfl : n = k := by omega
              have hle := HLE.out
              rw [List.drop_eq_nil_of_le (by rw [HN.out]; omega)] at hle
              obtain rfl := less_end hle
              have HG := Lib.hid (good_any wr B2 g2 _ H59.out)
              have HD := Lib.hid (end_any wr B2 g2 _ H59.out)
              have HF := Lib.hid (left_any wr B2 g2 _ H59.out)
              clear hle HLE
              go_wp2_with fail
              refine HG.out.mono ?_
              rintro e w7 ⟨rfl, rfl⟩
              go_wp2_with fail
              refine HD.out.mono ?_
              rintro e w7 ⟨rfl, rfl⟩
              go_wp2_with fail
              refine HF.out.mono ?_
              rintro e w7 ⟨rfl, rfl⟩
              go_wp2_with fail
              go_ret
              exact ⟨rfl, (HB3.out.trans (HWB.out.mono HB3.out.size)).trans (HBL.out.mono (by have := HB3.out.size; have := HWB.out.size; omega))⟩
end Go.Proofs.Ytneipblbbjcmjaa
