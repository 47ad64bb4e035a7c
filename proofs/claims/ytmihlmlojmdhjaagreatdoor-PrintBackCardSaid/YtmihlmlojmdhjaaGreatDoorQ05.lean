/-
  The reader's text: what stands between quotes. Conditions: sizes.
-/
import Derived.Test.YtmihlmlojmdhjaaGreatDoorQ01
import Derived.Test.YtmihlmlojmdhjaaGreatDoorQ03
import Derived.Test.YtmihlmlojmdhjaaGreatDoorQ04
import Derived.Deep.MidRow
import Derived.ChangeKeysEq
import Derived.Lib.AppendIntMem
import Derived.Lib.SmallJoins
import GoSem.Claim
namespace Go.Proofs.YtmihlmlojmdhjaaGreatDoor.Lex
open Go.RowKit
open Num (EndsW)
set_option maxRecDepth 100000
theorem cut_len (c : UInt8) (l : List UInt8) : (l.take (cutN c l)).length = cutN c l := by
  rw [List.length_take]; have := cutN_le c l; omega
set_option maxHeartbeats 4000000 in
theorem text_no (w : World) (lo g : Nat) (c : UInt8) (r : List UInt8) (ws : List Wd) (v : Value) (h : Rd w lo g (c :: r) ws v) (hl : (c :: r).length ≤ 100000) (hc : cutN 34 r = r.length) :
    Calls Tryz.prog 72 #[.pointer (some ⟨g, 0, none⟩)] w (Told w lo g v (textS (c :: r) ws)) := by
  rw [textS_no (by rw [List.drop_succ_cons, List.drop_zero, cutQ_eq, if_neg (by omega)])]
  have HH := Lib.hid h
  have c0 := cell_at h.at_ 0
  have HLL := Lib.hid hl
  have hlr : r.length ≤ 100000 := by simp at hl; omega
  have hsz : 1 ≤ (bs (c :: r)).size := by rw [bs_size]; simp
  have hx : (bs (c :: r)).extract 1 (bs (c :: r)).size = bs r := by rw [extract_bs, bs_size]; simp
  have CC := fun w' => Lib.hid (cut_no r 34 w' hc)
  unfold tri str at CC
  clear h hl hc hlr
  go_enter Tryz.func72, Tryz.ntmps72
  go_wp2_with fail
  refine (CC _).out.mono ?_
  rintro e w1 ⟨rfl, hb1⟩
  clear hx hsz c0
  have HB := Lib.hid hb1
  clear hb1
  go_wp2_with fail
  go_ret
  exact Step.same HH.out HB.out _
set_option maxHeartbeats 4000000 in
theorem text_name (w : World) (lo g : Nat) (c : UInt8) (r : List UInt8) (ws : List Wd) (v : Value) (h : Rd w lo g (c :: r) ws v) (hl : (c :: r).length ≤ 100000) (hw : ws.length ≤ 100000) (hlo : lo ≤ w.heap.size) (hc : cutN 34 r < r.length)
    (hn : nameOk (r.take (cutN 34 r)) = true)  :
    Calls Tryz.prog 72 #[.pointer (some ⟨g, 0, none⟩)] w (Told w lo g v (textS (c :: r) ws)) := by
  rw [textS_ok (s := r.take (cutN 34 r)) (by rw [List.drop_succ_cons, List.drop_zero, cutQ_eq, if_pos hc]) (by unfold textOk; rw [hn]; rfl)]
  have HH := Lib.hid h
  have c0 := cell_at h.at_ 0
  have HLL := Lib.hid hl
  have hlr : r.length ≤ 100000 := by simp at hl; omega
  have hsz : 1 ≤ (bs (c :: r)).size := by rw [bs_size]; simp
  have hx : (bs (c :: r)).extract 1 (bs (c :: r)).size = bs r := by rw [extract_bs, bs_size]; simp
  have HW := Lib.hid hw
  have HLO := Lib.hid hlo
  have CC := fun w' => Lib.hid (cut_yes r 34 w' (by omega) hc)
  unfold tri str at CC
  have HCL := Lib.hid (cut_len 34 r)
  have HCN := Lib.hid hc
  generalize r.take (cutN 34 r) = s at *
  have hs1 : (bs s).size ≤ 100000 := by rw [bs_size]; have := HCL.out; omega
  have CN := fun w' => Lib.hid (show Calls Tryz.prog 59 #[.string (bs s)] w' (EndsB (.bool true) w') by have := name_any (bs s) w' (by unfold maxLen; omega); rwa [bs_data, hn] at this)
  have HSN : Hid (1 + ((bs s).size : Int) + 1 = ((s.length + 2 : Nat) : Int)) := Lib.hid (by rw [bs_size]; push_cast; omega)
  have HS2 : Hid (s.length + 2 ≤ (c :: r).length ∧ s.length ≤ 1000000) := Lib.hid (by have := HCL.out; have := HCN.out; simp; omega)
  clear h hl hw hlo hc hn hlr
  go_enter Tryz.func72, Tryz.ntmps72
  go_wp2_with fail
  refine (CC _).out.mono ?_
  rintro e w1 ⟨rfl, hb1⟩
  clear hx hsz c0
  have HB := Lib.hid hb1
  clear hb1
  go_wp2_with fail
  refine (CN _).out.mono ?_
  rintro e w2 ⟨rfl, hb2⟩
  have HB2 := Lib.hid (HB.out.trans (hb2.mono HB.out.size))
  clear hb2 HB
  have HG := Lib.hid (HH.out.below HB2.out)
  have HT := Lib.hid ((Turn.refl (mine g v) w).below HB2.out)
  have CT := Lib.hid (take_any w2 lo g (s.length + 2) (c :: r) ws v HG.out HS2.out.1 (by have := HLL.out; omega))
  rw [← HSN.out] at CT
  go_wp2_with fail
  refine CT.out.mono ?_
  intro e w3 hs
  obtain ⟨rfl, v2, hs⟩ := Step.then_ HT.out (fun _ hk => .inl hk) hs
  have HS := Lib.hid hs
  clear hs
  have CA := Lib.hid (add_any w3 lo g _ _ _ ⟨3, s, 0⟩ HS.out.1 HS2.out.2 (by have := HW.out; omega) (Nat.le_trans HLO.out HS.out.2.1.size))
  go_wp2_with fail
  refine CA.out.mono ?_
  intro e w4 hs
  obtain ⟨rfl, v3, hs⟩ := Step.then_ HS.out.2.1 HS.out.2.2 hs
  have HS3 := Lib.hid hs
  clear hs
  go_wp2_with fail
  go_ret
  exact ⟨rfl, v3, HS3.out⟩
set_option maxHeartbeats 4000000 in
theorem text_key (w : World) (lo g : Nat) (c : UInt8) (r : List UInt8) (ws : List Wd) (v : Value) (h : Rd w lo g (c :: r) ws v) (hl : (c :: r).length ≤ 100000) (hw : ws.length ≤ 100000) (hlo : lo ≤ w.heap.size) (hc : cutN 34 r < r.length)
    (hn : nameOk (r.take (cutN 34 r)) = false) (hk : keyB (r.take (cutN 34 r)) = true) :
    Calls Tryz.prog 72 #[.pointer (some ⟨g, 0, none⟩)] w (Told w lo g v (textS (c :: r) ws)) := by
  rw [textS_ok (s := r.take (cutN 34 r)) (by rw [List.drop_succ_cons, List.drop_zero, cutQ_eq, if_pos hc]) (by unfold textOk; rw [hn, hk]; rfl)]
  have HH := Lib.hid h
  have c0 := cell_at h.at_ 0
  have HLL := Lib.hid hl
  have hlr : r.length ≤ 100000 := by simp at hl; omega
  have hsz : 1 ≤ (bs (c :: r)).size := by rw [bs_size]; simp
  have hx : (bs (c :: r)).extract 1 (bs (c :: r)).size = bs r := by rw [extract_bs, bs_size]; simp
  have HW := Lib.hid hw
  have HLO := Lib.hid hlo
  have CC := fun w' => Lib.hid (cut_yes r 34 w' (by omega) hc)
  unfold tri str at CC
  have HCL := Lib.hid (cut_len 34 r)
  have HCN := Lib.hid hc
  generalize r.take (cutN 34 r) = s at *
  have hs1 : (bs s).size ≤ 100000 := by rw [bs_size]; have := HCL.out; omega
  have CN := fun w' => Lib.hid (show Calls Tryz.prog 59 #[.string (bs s)] w' (EndsB (.bool false) w') by have := name_any (bs s) w' (by unfold maxLen; omega); rwa [bs_data, hn] at this)
  have CK := fun w' => Lib.hid (show Calls Tryz.prog 76 #[.string (bs s)] w' (EndsW (.bool true) w') by have := key_any s w'; rwa [hk] at this)
  have HSN : Hid (1 + ((bs s).size : Int) + 1 = ((s.length + 2 : Nat) : Int)) := Lib.hid (by rw [bs_size]; push_cast; omega)
  have HS2 : Hid (s.length + 2 ≤ (c :: r).length ∧ s.length ≤ 1000000) := Lib.hid (by have := HCL.out; have := HCN.out; simp; omega)
  clear h hl hw hlo hc hn hk hlr
  go_enter Tryz.func72, Tryz.ntmps72
  go_wp2_with fail
  refine (CC _).out.mono ?_
  rintro e w1 ⟨rfl, hb1⟩
  clear hx hsz c0
  have HB := Lib.hid hb1
  clear hb1
  go_wp2_with fail
  refine (CN _).out.mono ?_
  rintro e w2 ⟨rfl, hb2⟩
  have HB2 := Lib.hid (HB.out.trans (hb2.mono HB.out.size))
  clear hb2 HB
  go_wp2_with fail
  refine (CK _).out.mono ?_
  rintro e w' ⟨rfl, rfl⟩
  have HG := Lib.hid (HH.out.below HB2.out)
  have HT := Lib.hid ((Turn.refl (mine g v) w).below HB2.out)
  have CT := Lib.hid (take_any w2 lo g (s.length + 2) (c :: r) ws v HG.out HS2.out.1 (by have := HLL.out; omega))
  rw [← HSN.out] at CT
  go_wp2_with fail
  refine CT.out.mono ?_
  intro e w3 hs
  obtain ⟨rfl, v2, hs⟩ := Step.then_ HT.out (fun _ hk => .inl hk) hs
  have HS := Lib.hid hs
  clear hs
  have CA := Lib.hid (add_any w3 lo g _ _ _ ⟨3, s, 0⟩ HS.out.1 HS2.out.2 (by have := HW.out; omega) (Nat.le_trans HLO.out HS.out.2.1.size))
  go_wp2_with fail
  refine CA.out.mono ?_
  intro e w4 hs
  obtain ⟨rfl, v3, hs⟩ := Step.then_ HS.out.2.1 HS.out.2.2 hs
  have HS3 := Lib.hid hs
  clear hs
  go_wp2_with fail
  go_ret
  exact ⟨rfl, v3, HS3.out⟩
set_option maxHeartbeats 4000000 in
theorem text_bad (w : World) (lo g : Nat) (c : UInt8) (r : List UInt8) (ws : List Wd) (v : Value) (h : Rd w lo g (c :: r) ws v) (hl : (c :: r).length ≤ 100000) (hc : cutN 34 r < r.length)
    (hn : nameOk (r.take (cutN 34 r)) = false) (hk : keyB (r.take (cutN 34 r)) = false) :
    Calls Tryz.prog 72 #[.pointer (some ⟨g, 0, none⟩)] w (Told w lo g v (textS (c :: r) ws)) := by
  rw [textS_bad (s := r.take (cutN 34 r)) (by rw [List.drop_succ_cons, List.drop_zero, cutQ_eq, if_pos hc]) (by unfold textOk; rw [hn, hk]; rfl)]
  have HH := Lib.hid h
  have c0 := cell_at h.at_ 0
  have HLL := Lib.hid hl
  have hlr : r.length ≤ 100000 := by simp at hl; omega
  have hsz : 1 ≤ (bs (c :: r)).size := by rw [bs_size]; simp
  have hx : (bs (c :: r)).extract 1 (bs (c :: r)).size = bs r := by rw [extract_bs, bs_size]; simp
  have CC := fun w' => Lib.hid (cut_yes r 34 w' (by omega) hc)
  unfold tri str at CC
  have HCL := Lib.hid (cut_len 34 r)
  have HCN := Lib.hid hc
  generalize r.take (cutN 34 r) = s at *
  have hs1 : (bs s).size ≤ 100000 := by rw [bs_size]; have := HCL.out; omega
  have CN := fun w' => Lib.hid (show Calls Tryz.prog 59 #[.string (bs s)] w' (EndsB (.bool false) w') by have := name_any (bs s) w' (by unfold maxLen; omega); rwa [bs_data, hn] at this)
  have CK := fun w' => Lib.hid (show Calls Tryz.prog 76 #[.string (bs s)] w' (EndsW (.bool false) w') by have := key_any s w'; rwa [hk] at this)
  clear h hl hc hn hk hlr
  go_enter Tryz.func72, Tryz.ntmps72
  go_wp2_with fail
  refine (CC _).out.mono ?_
  rintro e w1 ⟨rfl, hb1⟩
  clear hx hsz c0
  have HB := Lib.hid hb1
  clear hb1
  go_wp2_with fail
  refine (CN _).out.mono ?_
  rintro e w2 ⟨rfl, hb2⟩
  have HB2 := Lib.hid (HB.out.trans (hb2.mono HB.out.size))
  clear hb2 HB
  go_wp2_with fail
  refine (CK _).out.mono ?_
  rintro e w' ⟨rfl, rfl⟩
  go_wp2_with fail
  go_ret
  exact Step.same HH.out HB2.out _
theorem text_any (w : World) (lo g : Nat) (c : UInt8) (r : List UInt8) (ws : List Wd) (v : Value) (h : Rd w lo g (c :: r) ws v) (hl : (c :: r).length ≤ 100000) (hw : ws.length ≤ 100000) (hlo : lo ≤ w.heap.size) :
    Calls Tryz.prog 72 #[.pointer (some ⟨g, 0, none⟩)] w (Told w lo g v (textS (c :: r) ws)) := by
  by_cases hc : cutN 34 r < r.length
  · rcases Bool.eq_false_or_eq_true (nameOk (r.take (cutN 34 r))) with hn | hn
    · exact text_name w lo g c r ws v h hl hw hlo hc hn
    · rcases Bool.eq_false_or_eq_true (keyB (r.take (cutN 34 r))) with hk | hk
      · exact text_key w lo g c r ws v h hl hw hlo hc hn hk
      · exact text_bad w lo g c r ws v h hl hc hn hk
  · exact text_no w lo g c r ws v h hl (by have := cutN_le 34 r; omega)
end Go.Proofs.YtmihlmlojmdhjaaGreatDoor.Lex
/- The longest sign; the reader's sign. Conditions: the table of signs lies as the program's text lays it; sizes. -/
namespace Go.Proofs.YtmihlmlojmdhjaaGreatDoor.Lex
open Go.RowKit
open Num (EndsW)
set_option maxRecDepth 100000
theorem prefix_any (l p : List UInt8) (w : World) : Calls Tryz.prog 65 #[.string (bs l), .string (bs p)] w (EndsW (.bool (p.isPrefixOf l)) w) := by
  refine (Tryz.strings_HasPrefix (bs l) (bs p) w).mono ?_
  rintro e w' ⟨rfl, rfl⟩
  exact ⟨by rw [bs_data, bs_data]; rfl, rfl⟩
theorem fits_any (w : World) (b g : Nat) (l p : List UInt8) (hb : w.cell? ⟨b, 0, none⟩ = some (.pointer (some ⟨g, 0, none⟩))) (hg : w.cell? ⟨g, 0, none⟩ = some (.string (bs l))) :
    Calls Tryz.prog 111 #[.string (bs p), .pointer (some ⟨b, 0, none⟩)] w (EndsW (.bool (p.isPrefixOf l)) w) := by
  have C := Lib.hid (prefix_any l p w)
  go_enter Tryz.func111, Tryz.ntmps111
  go_wp2_with fail
  refine C.out.mono ?_
  rintro e w' ⟨rfl, rfl⟩
  go_wp2_with fail
  go_ret
  exact ⟨rfl, rfl⟩
/-- The table of signs, cell by cell. -/
def Signs (w : World) : Prop := ∀ i, i < 23 → w.cell? ⟨1, i, none⟩ = some (str (signsL.getD i []))
theorem Signs.below {w w' : World} {n : Nat} (h : Signs w) (h0 : 1 < n) (hb : Below n w w') : Signs w' := fun i hi => (World.cell?_of_block (w := w) (hb.block 1 h0)).trans (h i hi)
theorem Signs.range {w : World} (h : Signs w) : w.rangeAt 1 0 (signsL.map str) := fun j v hv => by
  obtain ⟨s, hs, rfl⟩ : ∃ s, signsL[j]? = some s ∧ str s = v := by simpa using hv
  have hj : j < 23 := (List.getElem?_eq_some_iff.1 hs).1
  rw [Nat.zero_add, h j hj, List.getD_eq_getElem?_getD, hs]
  rfl
theorem size_signs : (Tryz.prog.info? 157).map (·.size) = some 23 := by kernel_rfl
theorem size_str : (Tryz.prog.info? 9).map (·.size) = some 1 := by kernel_rfl
def sgn (k : Nat) : List UInt8 := signsL.getD k []
theorem index_sign (k : Nat) (hk : k < 23) (w : World) : (Instr.index 157 (.agg (signsL.map str).toArray) (.int .i64 k)).run Tryz.prog w = .ok (.string (bs (sgn k))) w := by
  have hq : (signsL.map str)[k]? = some (str (sgn k)) := by
    rw [List.getElem?_map, List.getElem?_eq_getElem (by exact hk)]
    rw [Option.map_some]
    unfold sgn
    rw [List.getD_eq_getElem?_getD, List.getElem?_eq_getElem (show k < signsL.length from hk)]
    rfl
  obtain ⟨i0, hi0, hz0⟩ := Option.map_eq_some_iff.1 size_str
  have h1 : (0 : Int) ≤ k ∧ (k : Int) < 23 := by omega
  simp [Instr.index, asIntOf, run_underlying Tryz.underlying157, h1, sizeOf, typeInfo, hi0, hz0]
  rw [if_pos hk]
  exact run_part_plain w (by kernel_rfl) (by rw [List.getElem?_toArray]; exact hq)
def bestK (l : List UInt8) (k : Nat) : List UInt8 := (signsL.take k).foldl (better l) []
theorem best_succ (l : List UInt8) (k : Nat) (hk : k < 23) : bestK l (k + 1) = better l (bestK l k) (sgn k) := by
  have hk' : k < signsL.length := hk
  unfold bestK sgn
  rw [List.take_succ_eq_append_getElem hk', List.foldl_append, List.getD_eq_getElem?_getD, List.getElem?_eq_getElem hk']
  rfl
theorem best_end (l : List UInt8) : bestK l 23 = longest l := rfl
set_option maxHeartbeats 4000000 in
theorem longest_any (w : World) (b g : Nat) (l : List UInt8) (hs : Signs w) (hb : w.cell? ⟨b, 0, none⟩ = some (.pointer (some ⟨g, 0, none⟩))) (hg : w.cell? ⟨g, 0, none⟩ = some (.string (bs l))) :
    Calls Tryz.prog 110 #[.func (.func 111) #[] #[.pointer (some ⟨b, 0, none⟩)]] w (EndsW (str (longest l)) w) := by
  have CF := fun p => Lib.hid (fits_any w b g l p hb hg)
  have HR := Lib.hid hs.range
  have HI := Lib.hid (fun k (hk : k < 23) => index_sign k hk w)
  have hsz : (signsL.map str).length = 23 := rfl
  generalize signsL.map str = SV at *
  have HSZ := Lib.hid hsz
  clear hb hg hs hsz
  unfold str
  go_enter Tryz.func110, Tryz.ntmps110
  go_wp2_with (with_reducible refine wpList_load_mid rfl 157 (.global 1) rfl 1 0 rfl SV _ HR.out Tryz.underlying157 rfl (by rw [HSZ.out]; exact size_signs) ?_)
  go_loop [3, 7] (fun B t => ∃ k : Nat, k ≤ 23 ∧ t = .int .i64 k ∧ B = .string (bs (bestK l k))) (fun _ t => 23 - (intOf t).toNat)
  case atStart => exact ⟨0, by omega, rfl, rfl⟩
  case round =>
    obtain ⟨k, hk, rfl, rfl⟩ := hrel
    by_cases hlt : k < 23
    · have hix := HI.out k hlt
      have HS := Lib.hid (best_succ l k hlt)
      have HB := Lib.hid (show better l (bestK l k) (sgn k) = if (bestK l k).length < (sgn k).length ∧ (sgn k).isPrefixOf l = true then sgn k else bestK l k from rfl)
      have C := CF (sgn k)
      have z1 := bs_size (bestK l k)
      have z2 := bs_size (sgn k)
      by_cases hle : (bestK l k).length < (sgn k).length
      · have hd : decide ((bs (bestK l k)).size < (bs (sgn k)).size) = true := by rw [bs_size, bs_size]; simpa using hle
        rcases Bool.eq_false_or_eq_true ((sgn k).isPrefixOf l) with hp | hp
        · rw [hp] at C
          have HE : Hid (bestK l (k + 1) = sgn k) := Lib.hid (by rw [HS.out, HB.out, if_pos ⟨hle, hp⟩])
          clear hp HB HS z1 z2 hle
          generalize bestK l k = B at *
          generalize sgn k = S at *
          go_wp2_with (go_at_call 111; refine C.out.mono ?_; rintro e w' ⟨rfl, rfl⟩)
          go_round
          case rel => exact ⟨k + 1, by omega, by go_num, by rw [HE.out]⟩
          case measure => simp [intOf]; omega
        · rw [hp] at C
          have HE : Hid (bestK l (k + 1) = bestK l k) := Lib.hid (by rw [HS.out, HB.out, if_neg (by rw [hp]; simp)])
          clear hp HB HS z1 z2 hle
          generalize bestK l k = B at *
          generalize sgn k = S at *
          go_wp2_with (go_at_call 111; refine C.out.mono ?_; rintro e w' ⟨rfl, rfl⟩)
          go_round
          case rel => exact ⟨k + 1, by omega, by go_num, by rw [HE.out]⟩
          case measure => simp [intOf]; omega
      · have hd : decide ((bs (bestK l k)).size < (bs (sgn k)).size) = false := by rw [bs_size, bs_size]; simpa using hle
        have HE : Hid (bestK l (k + 1) = bestK l k) := Lib.hid (by rw [HS.out, HB.out, if_neg (fun h => hle h.1)])
        clear HB HS z1 z2 hle C
        generalize bestK l k = B at *
        generalize sgn k = S at *
        go_wp2_with fail
        go_round
        case rel => exact ⟨k + 1, by omega, by go_num, by rw [HE.out]⟩
        case measure => simp [intOf]; omega
    · obtain rfl : k = 23 := by omega
      have HE := Lib.hid (best_end l)
      clear hk hlt
      generalize bestK l 23 = B at *
      go_wp2_with fail
      go_ret
      exact ⟨by show Ending.returned (Value.string (bs B)) = _; rw [HE.out], rfl⟩
theorem longest_len (l : List UInt8) : (longest l).length ≤ 2 ∧ (longest l).length ≤ l.length := by
  rcases longest_mem l with h | ⟨h1, h2⟩
  · rw [h]; simp
  · exact ⟨(signs_len h1).2, (List.isPrefixOf_iff_prefix.1 h2).length_le⟩
theorem signS_no {l : List UInt8} {ws : List Wd} (h : longest l = []) : signS l ws = ⟨7, l, ws⟩ := by unfold signS; rw [if_pos h]
theorem signS_yes {l : List UInt8} {ws : List Wd} (h : longest l ≠ []) : signS l ws = ⟨0, l.drop (longest l).length, ws ++ [⟨5, longest l, 0⟩]⟩ := by unfold signS; rw [if_neg h]
set_option maxHeartbeats 4000000 in
theorem sign_any (w : World) (lo g : Nat) (l : List UInt8) (ws : List Wd) (v : Value) (h : Rd w lo g l ws v) (hS : Signs w) (h0 : 1 < lo) (hl : l.length ≤ 100000) (hw : ws.length ≤ 100000) (hlo : lo ≤ w.heap.size) :
    Calls Tryz.prog 73 #[.pointer (some ⟨g, 0, none⟩)] w (Told w lo g v (signS l ws)) := by
  have HLL := Lib.hid hl
  have HW := Lib.hid hw
  have HLO := Lib.hid hlo
  have HA : Hid (Below w.heap.size w (w.alloc (.cells #[.pointer (some ⟨g, 0, none⟩)] 110))) := Lib.hid ((Below.refl _ w).alloc (Nat.le_refl _) _)
  have HN := Lib.hid (heap_alloc_new w (.cells #[.pointer (some ⟨g, 0, none⟩)] 110 (0, 0)))
  have HR := Lib.hid (h.below HA.out)
  have HT := Lib.hid ((Turn.refl (mine g v) w).below HA.out)
  have HM : Hid (∀ k ∈ mine g v, k < w.heap.size) := Lib.hid (fun k hk => (h.lt k hk).2)
  have CL := Lib.hid (longest_any (w.alloc (.cells #[.pointer (some ⟨g, 0, none⟩)] 110)) w.heap.size g l (hS.below (by omega) HA.out) (cell_at HN.out 0) (cell_at HR.out.at_ 0))
  have HLN := Lib.hid (longest_len l)
  clear h hS h0 hl hw hlo HA
  by_cases he : longest l = []
  · rw [signS_no he]
    rw [he] at CL
    clear he
    go_enter Tryz.func73, Tryz.ntmps73
    go_wp2_with fail
    refine CL.out.mono ?_
    rintro e w' ⟨rfl, rfl⟩
    unfold str bs
    go_wp2_with fail
    go_ret
    exact ⟨rfl, v, HR.out, HT.out, fun _ hk => .inl hk⟩
  · rw [signS_yes he]
    have e1 := not_empty (bs (longest l)) (by rw [bs_size]; cases hq : longest l with | nil => exact absurd hq he | cons c r => simp)
    clear he
    generalize longest l = s at *
    have HSZ := Lib.hid (bs_size s)
    have CT := Lib.hid (take_any (w.alloc (.cells #[.pointer (some ⟨g, 0, none⟩)] 110)) lo g s.length l ws v HR.out HLN.out.2 (by have := HLL.out; omega))
    rw [← HSZ.out] at CT
    have y0 := cell_at HN.out 0
    go_enter Tryz.func73, Tryz.ntmps73
    go_wp2_with fail
    refine CL.out.mono ?_
    rintro e w' ⟨rfl, rfl⟩
    unfold str
    go_wp2_with fail
    refine CT.out.mono ?_
    intro e w2 hs
    have HK : Hid (w2.heap[w.heap.size]? = some (.cells #[.pointer (some ⟨g, 0, none⟩)] 110 (0, 0))) := Lib.hid (by
      obtain ⟨_, _, _, ht, _⟩ := hs
      exact (ht.block _ (lt_of_heap HN.out) (fun hm => by have := HM.out _ hm; omega)).trans HN.out)
    obtain ⟨rfl, v2, hs⟩ := Step.then_ HT.out (fun _ hk => .inl hk) hs
    have HS := Lib.hid hs
    have z0 := cell_at HK.out 0
    clear hs y0
    have CA := Lib.hid (add_any w2 lo g _ _ _ ⟨5, s, 0⟩ HS.out.1 (by have := HLN.out.1; show s.length ≤ 1000000; omega) (by have := HW.out; omega) (Nat.le_trans HLO.out HS.out.2.1.size))
    go_wp2_with fail
    refine CA.out.mono ?_
    intro e w3 hs
    obtain ⟨rfl, v3, hs⟩ := Step.then_ HS.out.2.1 HS.out.2.2 hs
    have HS3 := Lib.hid hs
    clear hs
    go_wp2_with fail
    go_ret
    exact ⟨rfl, v3, by rw [← HSZ.out]; exact HS3.out⟩
end Go.Proofs.YtmihlmlojmdhjaaGreatDoor.Lex
/- What num.Digits answers: the decimal numeral; the library's FormatInt reads a table that the row lists. -/
namespace Go.Proofs.YtmihlmlojmdhjaaGreatDoor.Num
open Go.RowKit
set_option maxRecDepth 100000
def EndsBelow (v : Value) (w : World) (e : Ending) (w' : World) : Prop := e = .returned v ∧ Below w.heap.size w w'
def Tab (w : World) : Prop := Lib.TabIs Tryz.prog w "internal/strconv.uint64pow10" .u64 Lib.pow10Tab
def str (l : List UInt8) : Value := .string ⟨l.toArray⟩
theorem gTab : ∃ g, Tryz.prog.globalNamed "internal/strconv.uint64pow10" = some g := Option.isSome_iff_exists.1 (show (Tryz.prog.globalNamed "internal/strconv.uint64pow10").isSome = true by kernel_rfl)
theorem tab_below {w w' : World} (h : Tab w) (hb : Below w.heap.size w w') : Tab w' := by
  obtain ⟨g, hg⟩ := gTab
  exact Joins.tab_stays hg h hb (Nat.le_refl _)
theorem digits_any (n : Int) (w : World) (h0 : -9223372036854775808 ≤ n) (h1 : n ≤ 9223372036854775807) (ht : Tab w) : Calls Tryz.prog 90 #[.int .i64 n] w (EndsBelow (str (Lib.itoa n)) w) := by
  have C := Lib.hid (Tryz.strconv_FormatInt_10 n h0 h1 w ht)
  go_enter Tryz.func90, Tryz.ntmps90
  go_wp2_with (go_at_call 124; refine C.out.mono ?_; rintro e w' ⟨rfl, k, os, rfl⟩)
  go_ret
  exact ⟨rfl, Lib.below_grow _ _ (Nat.le_refl _) _ _⟩
theorem nDigits_le (k u : Nat) (h : u < 10 ^ (k + 1)) : Lib.nDigits u ≤ k + 1 := by
  induction k generalizing u with
  | zero => rw [Lib.nDigits_small (by simpa using h)]; omega
  | succ k ih =>
    by_cases hs : u < 10
    · rw [Lib.nDigits_small hs]; omega
    · rw [Lib.nDigits_big hs]
      rw [Nat.pow_succ] at h
      have := ih (u / 10) (by omega)
      omega
theorem itoa_len (n : Int) (h0 : -9223372036854775808 ≤ n) (h1 : n ≤ 9223372036854775807) : (Lib.itoa n).length ≤ 20 := by
  unfold Lib.itoa
  split
  · rw [List.length_cons, Lib.decDigits_length]
    have := nDigits_le 18 n.natAbs (by omega)
    omega
  · rw [Lib.decDigits_length]
    have := nDigits_le 18 n.toNat (by omega)
    omega
end Go.Proofs.YtmihlmlojmdhjaaGreatDoor.Num
/- Trees as plain mathematics: expressions, statements, functions, files; what a tree is made of, one behind the other; whether two are the same. No condition. -/
namespace Go.Proofs.YtmihlmlojmdhjaaGreatDoor.Tre
set_option maxRecDepth 100000
/-- An expression; a and c: where its parts lie, and how many could lie there. -/
inductive Ex where
  | mk (op n : Int) (s q : ByteArray) (a : Option Addr) (c : Nat) (x : List Ex)
/-- A statement. -/
inductive St where
  | mk (op : Int) (s : ByteArray) (e : Ex) (a : Option Addr) (c : Nat) (b : List St) (a2 : Option Addr) (c2 : Nat) (b2 : List St)
structure Par where
  s : ByteArray
  t : Int
structure Fn where
  s : ByteArray
  pa : Option Addr
  pc : Nat
  p : List Par
  r : Int
  ba : Option Addr
  bc : Nat
  b : List St
structure Fl where
  s : ByteArray
  ia : Option Addr
  ic : Nat
  i : List ByteArray
  fa : Option Addr
  fc : Nat
  f : List Fn
namespace Ex
def op : Ex → Int | mk o _ _ _ _ _ _ => o
def n : Ex → Int | mk _ n _ _ _ _ _ => n
def s : Ex → ByteArray | mk _ _ s _ _ _ _ => s
def q : Ex → ByteArray | mk _ _ _ q _ _ _ => q
def a : Ex → Option Addr | mk _ _ _ _ a _ _ => a
def c : Ex → Nat | mk _ _ _ _ _ c _ => c
def x : Ex → List Ex | mk _ _ _ _ _ _ x => x
end Ex
namespace St
def op : St → Int | mk o _ _ _ _ _ _ _ _ => o
def s : St → ByteArray | mk _ s _ _ _ _ _ _ _ => s
def e : St → Ex | mk _ _ e _ _ _ _ _ _ => e
def a : St → Option Addr | mk _ _ _ a _ _ _ _ _ => a
def c : St → Nat | mk _ _ _ _ c _ _ _ _ => c
def a2 : St → Option Addr | mk _ _ _ _ _ _ a2 _ _ => a2
def c2 : St → Nat | mk _ _ _ _ _ _ _ c2 _ => c2
def b : St → List St | mk _ _ _ _ _ b _ _ _ => b
def b2 : St → List St | mk _ _ _ _ _ _ _ _ b2 => b2
end St
theorem part_lt {e : Ex} : ∀ y ∈ e.x, SizeOf.sizeOf y < SizeOf.sizeOf e := fun y h => by
  cases e with
  | mk o n s q a c x =>
    have := List.sizeOf_lt_of_mem (show y ∈ x from h)
    simp
    omega
theorem partS_lt {e : St} : ∀ y, y ∈ e.b ∨ y ∈ e.b2 → SizeOf.sizeOf y < SizeOf.sizeOf e := fun y h => by
  cases e with
  | mk o s e a c b a2 c2 b2 =>
    rcases h with h | h
    · have := List.sizeOf_lt_of_mem (show y ∈ b from h)
      simp
      omega
    · have := List.sizeOf_lt_of_mem (show y ∈ b2 from h)
      simp
      omega
/-- An expression and all that it is made of, each ahead of its parts. -/
def flat (e : Ex) : List Ex := e :: e.x.attach.flatMap (fun ⟨y, _⟩ => flat y)
termination_by SizeOf.sizeOf e
decreasing_by exact part_lt _ (by assumption)
def flatL (l : List Ex) : List Ex := l.flatMap flat
def flatS (s : St) : List St := s :: (s.b.attach.flatMap (fun ⟨y, _⟩ => flatS y) ++ s.b2.attach.flatMap (fun ⟨y, _⟩ => flatS y))
termination_by SizeOf.sizeOf s
decreasing_by
  · exact partS_lt _ (.inl (by assumption))
  · exact partS_lt _ (.inr (by assumption))
def flatB (l : List St) : List St := l.flatMap flatS
theorem flat_eq (e : Ex) : flat e = e :: flatL e.x := by rw [flat]; congr 1; unfold flatL; exact List.flatMap_subtype (fun _ _ => rfl)|>.trans (by simp)
theorem flatS_eq (s : St) : flatS s = s :: (flatB s.b ++ flatB s.b2) := by
  rw [flatS]; congr 1; unfold flatB; congr 1
  · exact List.flatMap_subtype (fun _ _ => rfl)|>.trans (by simp)
  · exact List.flatMap_subtype (fun _ _ => rfl)|>.trans (by simp)
theorem flatL_app (l m : List Ex) : flatL (l ++ m) = flatL l ++ flatL m := by simp [flatL]
theorem flatB_app (l m : List St) : flatB (l ++ m) = flatB l ++ flatB m := by simp [flatB]
theorem flatL_cons (e : Ex) (l : List Ex) : flatL (e :: l) = flat e ++ flatL l := by simp [flatL]
theorem flatB_cons (e : St) (l : List St) : flatB (e :: l) = flatS e ++ flatB l := by simp [flatB]
theorem mem_flat (e : Ex) : e ∈ flat e := by rw [flat_eq]; simp
theorem mem_flatS (e : St) : e ∈ flatS e := by rw [flatS_eq]; simp
theorem flatL_of_mem {l : List Ex} {e y : Ex} (he : e ∈ l) (hy : y ∈ flat e) : y ∈ flatL l := List.mem_flatMap.2 ⟨e, he, hy⟩
theorem flatB_of_mem {l : List St} {e y : St} (he : e ∈ l) (hy : y ∈ flatS e) : y ∈ flatB l := List.mem_flatMap.2 ⟨e, he, hy⟩
theorem flat_sub {e x y : Ex} (hx : x ∈ e.x) (hy : y ∈ flat x) : y ∈ flat e := by rw [flat_eq]; exact List.mem_cons_of_mem _ (flatL_of_mem hx hy)
theorem flatS_sub {e x y : St} (hx : x ∈ e.b ∨ x ∈ e.b2) (hy : y ∈ flatS x) : y ∈ flatS e := by
  rw [flatS_eq]
  refine List.mem_cons_of_mem _ (List.mem_append.2 ?_)
  rcases hx with hx | hx
  · exact .inl (flatB_of_mem hx hy)
  · exact .inr (flatB_of_mem hx hy)
/-- How many expressions. -/
def size (e : Ex) : Nat := (flat e).length
def sizeL (l : List Ex) : Nat := (flatL l).length
def sizeS (s : St) : Nat := (flatS s).length
def sizeB (l : List St) : Nat := (flatB l).length
theorem size_eq (e : Ex) : size e = 1 + sizeL e.x := by unfold size sizeL; rw [flat_eq]; simp; omega
theorem sizeS_eq (s : St) : sizeS s = 1 + (sizeB s.b + sizeB s.b2) := by unfold sizeS sizeB; rw [flatS_eq]; simp; omega
theorem sizeL_cons (e : Ex) (l : List Ex) : sizeL (e :: l) = size e + sizeL l := by simp [sizeL, size, flatL_cons]
theorem sizeB_cons (e : St) (l : List St) : sizeB (e :: l) = sizeS e + sizeB l := by simp [sizeB, sizeS, flatB_cons]
theorem size_mem {l : List Ex} {e : Ex} (h : e ∈ l) : size e ≤ sizeL l := by
  induction l with
  | nil => cases h
  | cons x l ih =>
    rw [sizeL_cons]
    rcases List.mem_cons.1 h with rfl | h
    · omega
    · have := ih h; omega
theorem sizeS_mem {l : List St} {e : St} (h : e ∈ l) : sizeS e ≤ sizeB l := by
  induction l with
  | nil => cases h
  | cons x l ih =>
    rw [sizeB_cons]
    rcases List.mem_cons.1 h with rfl | h
    · omega
    · have := ih h; omega
theorem size_part {e x : Ex} (h : x ∈ e.x) : size x < size e := by have := size_mem h; rw [size_eq e]; omega
theorem sizeS_part {s x : St} (h : x ∈ s.b ∨ x ∈ s.b2) : sizeS x < sizeS s := by
  rw [sizeS_eq s]
  rcases h with h | h <;> · have := sizeS_mem h; omega
/-- Two lists, element by element. -/
def allTwo {α : Type} {β : Type} (p : α → β → Bool) : List α → List β → Bool
  | [], [] => true
  | a :: r, b :: t => p a b && allTwo p r t
  | _, _ => false
theorem allTwo_attach {α : Type} (p : α → α → Bool) : ∀ (l : List α) (P : α → Prop) (H : ∀ a ∈ l, P a) (m : List α), allTwo (fun (z : {a // P a}) y => p z.1 y) (l.attachWith P H) m = allTwo p l m
  | [], _, _, [] => rfl
  | [], _, _, _ :: _ => rfl
  | _ :: _, _, _, [] => rfl
  | a :: r, P, H, b :: t => by
    have := allTwo_attach p r P (fun a h => H a (List.mem_cons_of_mem _ h)) t
    simp [List.attachWith, allTwo] at this ⊢
    rw [this]
/-- Are two the same? Where they lie is nothing to them. -/
def sameX (a b : Ex) : Bool := a.op == b.op && a.n == b.n && a.s.toList == b.s.toList && a.q.toList == b.q.toList && allTwo (fun (z : {y // y ∈ a.x}) y => sameX z.1 y) a.x.attach b.x
termination_by SizeOf.sizeOf a
decreasing_by exact part_lt _ z.2
def sameXL (a b : List Ex) : Bool := allTwo sameX a b
def sameS (a b : St) : Bool := a.op == b.op && a.s.toList == b.s.toList && sameX a.e b.e && allTwo (fun (z : {y // y ∈ a.b}) y => sameS z.1 y) a.b.attach b.b && allTwo (fun (z : {y // y ∈ a.b2}) y => sameS z.1 y) a.b2.attach b.b2
termination_by SizeOf.sizeOf a
decreasing_by
  · exact partS_lt _ (.inl z.2)
  · exact partS_lt _ (.inr z.2)
def sameB (a b : List St) : Bool := allTwo sameS a b
theorem sameX_eq (a b : Ex) : sameX a b = (a.op == b.op && a.n == b.n && a.s.toList == b.s.toList && a.q.toList == b.q.toList && sameXL a.x b.x) := by
  rw [sameX]; congr 1; exact allTwo_attach sameX a.x _ _ b.x
theorem sameS_eq (a b : St) : sameS a b = (a.op == b.op && a.s.toList == b.s.toList && sameX a.e b.e && sameB a.b b.b && sameB a.b2 b.b2) := by
  rw [sameS]; congr 1
  · congr 1; exact allTwo_attach sameS a.b _ _ b.b
  · exact allTwo_attach sameS a.b2 _ _ b.b2
theorem sameXL_all (a b : List Ex) : sameXL a b = allTwo sameX a b := rfl
theorem sameB_all (a b : List St) : sameB a b = allTwo sameS a b := rfl
theorem allTwo_len {α : Type} {p : α → α → Bool} : ∀ {a b : List α}, a.length ≠ b.length → allTwo p a b = false
  | [], [], h => absurd rfl h
  | [], _ :: _, _ => rfl
  | _ :: _, [], _ => rfl
  | a :: r, b :: t, h => by
    have := allTwo_len (p := p) (a := r) (b := t) (by simpa using h)
    simp [allTwo, this]
theorem allTwo_no {α : Type} {p : α → α → Bool} : ∀ {a b : List α} (k : Nat) (x y : α), a[k]? = some x → b[k]? = some y → p x y = false → allTwo p a b = false
  | [], [], k, x, y, h, _, _ => by simp at h
  | [], _ :: _, _, _, _, _, _, _ => rfl
  | _ :: _, [], _, _, _, _, _, _ => rfl
  | a :: r, b :: t, 0, x, y, h, h2, hp => by
    obtain rfl : a = x := by simpa using h
    obtain rfl : b = y := by simpa using h2
    simp [allTwo, hp]
  | a :: r, b :: t, k + 1, x, y, h, h2, hp => by
    have := allTwo_no (p := p) (a := r) (b := t) k x y (by simpa using h) (by simpa using h2) hp
    simp [allTwo, this]
theorem allTwo_yes {α : Type} {p : α → α → Bool} : ∀ {a b : List α}, a.length = b.length → (∀ (k : Nat) (x y : α), a[k]? = some x → b[k]? = some y → p x y = true) → allTwo p a b = true
  | [], [], _, _ => rfl
  | [], _ :: _, h, _ => by simp at h
  | _ :: _, [], h, _ => by simp at h
  | a :: r, b :: t, h, hp => by
    have h0 := hp 0 a b rfl rfl
    have := allTwo_yes (p := p) (a := r) (b := t) (by simpa using h) (fun k x y h1 h2 => hp (k + 1) x y (by simpa using h1) (by simpa using h2))
    simp [allTwo, h0, this]
def sameT (a b : ByteArray) : Bool := a.toList == b.toList
def samePar (a b : Par) : Bool := a.s.toList == b.s.toList && a.t == b.t
def sameF (a b : Fn) : Bool := a.s.toList == b.s.toList && allTwo samePar a.p b.p && a.r == b.r && sameB a.b b.b
def sameFl (a b : Fl) : Bool := a.s.toList == b.s.toList && allTwo sameT a.i b.i && allTwo sameF a.f b.f
/-- The zero expression. -/
def zeroX (e : Ex) : Bool := e.op == 0 && e.n == 0 && e.s.toList == [] && e.q.toList == [] && e.x.length == 0
def nilX : Ex := .mk 0 0 ⟨#[]⟩ ⟨#[]⟩ none 0 []
/-- All nodes of a statement: itself (as the zero expression), its expression, if it has one. -/
def nodesS (has : St → Bool) (s : St) : List Ex := nilX :: (if has s then flat s.e else [])
def nodesF (has : St → Bool) (f : Fn) : List Ex := nilX :: (flatB f.b).flatMap (nodesS has)
def nodes (has : St → Bool) (l : List Fn) : List Ex := l.flatMap (nodesF has)
def givenB (s : St) : Bool := !zeroX s.e
def countsB (s : St) : Bool := if s.op == 5 then givenB s else if s.op == 8 then false else if s.op == 9 then false else true
end Go.Proofs.YtmihlmlojmdhjaaGreatDoor.Tre
/- What makes a tree right, as plain mathematics. No condition. -/
namespace Go.Proofs.YtmihlmlojmdhjaaGreatDoor.Tre
set_option maxRecDepth 100000
def nameB (s : ByteArray) : Bool := Lex.nameOk s.data.toList
def wordB (s : ByteArray) : Bool := nameB s || Lex.keyB s.data.toList
def partsI (op : Int) : Int := if op == 1 || op == 2 || op == 3 then 0 else if op == 5 || op == 6 then 1 else if decide (7 ≤ op) && decide (op ≤ 19) then 2 else -1
def numOk (e : Ex) : Bool := if e.op == 1 then decide (0 ≤ e.n) else if e.op == 2 then e.n == 0 || e.n == 1 else e.n == 0
def namesOk (e : Ex) : Bool := if e.op == 3 then nameB e.s && e.q.toList == [] else if e.op == 4 then nameB e.s && (e.q.toList == [] || nameB e.q) else e.s.toList == [] && e.q.toList == []
def partsOk (e : Ex) : Bool := if e.op == 4 then decide (e.x.length ≤ 255) else (e.x.length : Int) == partsI e.op
def rX (e : Ex) : Bool := numOk e && namesOk e && partsOk e
def rExpr (e : Ex) : Bool := (flat e).all rX
def targetOk (s : St) : Bool := if s.op == 1 || s.op == 2 then nameB s.s else s.s.toList == []
def blocksOk (s : St) : Bool := if s.op == 3 then true else if s.op == 4 then s.b2.length == 0 else s.b.length == 0 && s.b2.length == 0
def askedOk (s : St) : Bool :=
  if s.op == 1 || s.op == 2 || s.op == 3 || s.op == 4 || s.op == 6 then rExpr s.e else if s.op == 5 then zeroX s.e || rExpr s.e else if s.op == 7 then s.e.op == 4 && rExpr s.e else if s.op == 8 || s.op == 9 then zeroX s.e else false
def rStmt (s : St) : Bool := targetOk s && blocksOk s && askedOk s
def valB (t : Int) : Bool := t == 1 || t == 2
def wPar (p : Par) : Bool := !nameB p.s || !valB p.t
def wFn (f : Fn) : Bool := !nameB f.s || decide (4 < f.p.length) || f.p.any wPar || (!(f.r == 0) && !valB f.r) || !(flatB f.b).all rStmt
def rHead (f : Fl) : Bool := wordB f.s && decide (f.i.length ≤ 8) && decide (f.f.length ≤ 32) && !f.i.any (fun s => !wordB s)
def rFile (f : Fl) : Bool := rHead f && !f.f.any wFn
end Go.Proofs.YtmihlmlojmdhjaaGreatDoor.Tre
/- Trees without where they lie; the same trees have the same core. No condition. -/
namespace Go.Proofs.YtmihlmlojmdhjaaGreatDoor.Tre
set_option maxRecDepth 100000
inductive Tx where
  | mk (op n : Int) (s q : List UInt8) (x : List Tx)
inductive Ts where
  | mk (op : Int) (s : List UInt8) (e : Tx) (b b2 : List Ts)
structure Tp where
  s : List UInt8
  t : Int
structure Tf where
  s : List UInt8
  p : List Tp
  r : Int
  b : List Ts
structure Tl where
  s : List UInt8
  i : List (List UInt8)
  f : List Tf
def core (e : Ex) : Tx := .mk e.op e.n e.s.data.toList e.q.data.toList (e.x.attach.map (fun ⟨y, _⟩ => core y))
termination_by SizeOf.sizeOf e
decreasing_by exact part_lt _ (by assumption)
def coreS (s : St) : Ts := .mk s.op s.s.data.toList (core s.e) (s.b.attach.map (fun ⟨y, _⟩ => coreS y)) (s.b2.attach.map (fun ⟨y, _⟩ => coreS y))
termination_by SizeOf.sizeOf s
decreasing_by
  · exact partS_lt _ (.inl (by assumption))
  · exact partS_lt _ (.inr (by assumption))
def coreP (p : Par) : Tp := ⟨p.s.data.toList, p.t⟩
def coreF (f : Fn) : Tf := ⟨f.s.data.toList, f.p.map coreP, f.r, f.b.map coreS⟩
def coreL (f : Fl) : Tl := ⟨f.s.data.toList, f.i.map (·.data.toList), f.f.map coreF⟩
theorem core_eq (e : Ex) : core e = .mk e.op e.n e.s.data.toList e.q.data.toList (e.x.map core) := by
  rw [core]
  congr 1
  exact List.map_subtype (fun _ _ => rfl) |>.trans (by simp)
theorem coreS_eq (s : St) : coreS s = .mk s.op s.s.data.toList (core s.e) (s.b.map coreS) (s.b2.map coreS) := by
  rw [coreS]
  congr 1
  · exact List.map_subtype (fun _ _ => rfl) |>.trans (by simp)
  · exact List.map_subtype (fun _ _ => rfl) |>.trans (by simp)
theorem text_beq {s t : ByteArray} (h : s.data.toList = t.data.toList) : (s.toList == t.toList) = true := by
  rw [ByteArray.toList_eq, ByteArray.toList_eq, h]
  exact beq_self_eq_true _
theorem allTwo_map {α β : Type} {p : α → α → Bool} {c : α → β} : ∀ {a b : List α}, a.map c = b.map c → (∀ x ∈ a, ∀ y ∈ b, c x = c y → p x y = true) → allTwo p a b = true
  | [], [], _, _ => rfl
  | [], _ :: _, h, _ => by simp at h
  | _ :: _, [], h, _ => by simp at h
  | a :: r, b :: t, h, hp => by
    simp only [List.map_cons, List.cons.injEq] at h
    have h1 := hp a (by simp) b (by simp) h.1
    have h2 := allTwo_map (p := p) h.2 (fun x hx y hy => hp x (by simp [hx]) y (by simp [hy]))
    simp [allTwo, h1, h2]
theorem same_core_upto : ∀ (m : Nat) (a b : Ex), size a ≤ m → core a = core b → sameX a b = true
  | 0, a, b, h, _ => by rw [size_eq] at h; omega
  | m + 1, a, b, h, he => by
    rw [core_eq, core_eq] at he
    injection he with h1 h2 h3 h4 h5
    rw [sameX_eq, h1, h2, text_beq h3, text_beq h4, sameXL_all, allTwo_map h5 (fun x hx y _ hc => same_core_upto m x y (by have := size_part hx; omega) hc)]
    simp
theorem same_core {a b : Ex} (h : core a = core b) : sameX a b = true := same_core_upto _ a b (Nat.le_refl _) h
theorem sameS_core_upto : ∀ (m : Nat) (a b : St), sizeS a ≤ m → coreS a = coreS b → sameS a b = true
  | 0, a, b, h, _ => by rw [sizeS_eq] at h; omega
  | m + 1, a, b, h, he => by
    rw [coreS_eq, coreS_eq] at he
    injection he with h1 h2 h3 h4 h5
    rw [sameS_eq, h1, text_beq h2, same_core h3, sameB_all, sameB_all, allTwo_map h4 (fun x hx y _ hc => sameS_core_upto m x y (by have := sizeS_part (s := a) (x := x) (.inl hx); omega) hc), allTwo_map h5 (fun x hx y _ hc => sameS_core_upto m x y (by have := sizeS_part (s := a) (x := x) (.inr hx); omega) hc)]
    simp
theorem sameS_core {a b : St} (h : coreS a = coreS b) : sameS a b = true := sameS_core_upto _ a b (Nat.le_refl _) h
theorem sameF_core {a b : Fn} (h : coreF a = coreF b) : sameF a b = true := by
  unfold coreF at h
  injection h with h1 h2 h3 h4
  unfold sameF
  rw [text_beq h1, h3, sameB_all, allTwo_map h4 (fun x _ y _ hc => sameS_core hc), allTwo_map h2 (fun x _ y _ hc => by unfold coreP at hc; injection hc with g1 g2; unfold samePar; rw [text_beq g1, g2]; simp)]
  simp
/-- Files of one core are the same. -/
theorem sameFl_core {a b : Fl} (h : coreL a = coreL b) : sameFl a b = true := by
  unfold coreL at h
  injection h with h1 h2 h3
  unfold sameFl
  rw [text_beq h1, allTwo_map h3 (fun x _ y _ hc => sameF_core hc), allTwo_map h2 (fun x _ y _ hc => by unfold sameT; exact text_beq hc)]
  simp
end Go.Proofs.YtmihlmlojmdhjaaGreatDoor.Tre
