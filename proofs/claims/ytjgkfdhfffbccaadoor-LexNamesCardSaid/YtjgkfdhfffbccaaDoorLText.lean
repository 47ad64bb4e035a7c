/-
  The reader's text: what stands between quotes. Conditions: sizes.
-/
import Derived.Test.YtjgkfdhfffbccaaDoorLNum
namespace Go.Proofs.YtjgkfdhfffbccaaDoor.Lex
open Go.RowKit
open Num (EndsW)
set_option maxRecDepth 100000
theorem cut_len (c : UInt8) (l : List UInt8) : (l.take (cutN c l)).length = cutN c l := by
  rw [List.length_take]; have := cutN_le c l; omega
set_option maxHeartbeats 4000000 in
theorem text_no (w : World) (lo g : Nat) (c : UInt8) (r : List UInt8) (ws : List Wd) (v : Value) (h : Rd w lo g (c :: r) ws v) (hl : (c :: r).length ≤ 100000) (hc : cutN 34 r = r.length) :
    Calls Tryd.prog 38 #[.pointer (some ⟨g, 0, none⟩)] w (Told w lo g v (textS (c :: r) ws)) := by
  rw [textS_no (by rw [List.drop_succ_cons, List.drop_zero, cutQ_eq, if_neg (by omega)])]
  have HH := Lib.hid h
  have c0 := cell_at h.at_ 0
  have HLL := Lib.hid hl
  have hlr : r.length ≤ 100000 := by simp at hl; omega
  have hsz : 1 ≤ (bs (c :: r)).size := by rw [bs_size]; simp
  have hx : (bs (c :: r)).extract 1 (bs (c :: r)).size = bs r := by rw [extract_bs, bs_size]; simp
  have CC := fun w' => Lib.hid (cut_no r 34 w' hc)
  unfold tri str at CC
  clear h hl hc hlr
  go_enter Tryd.func38, Tryd.ntmps38
  go_wp2_with fail
  refine (CC _).out.mono ?_
  rintro e w1 ⟨rfl, hb1⟩
  clear hx hsz c0
  have HB := Lib.hid hb1
  clear hb1
  go_wp2_with fail
  go_ret
  exact Step.same HH.out HB.out _
set_option maxHeartbeats 4000000 in
theorem text_name (w : World) (lo g : Nat) (c : UInt8) (r : List UInt8) (ws : List Wd) (v : Value) (h : Rd w lo g (c :: r) ws v) (hl : (c :: r).length ≤ 100000) (hw : ws.length ≤ 100000) (hlo : lo ≤ w.heap.size) (hc : cutN 34 r < r.length)
    (hn : nameOk (r.take (cutN 34 r)) = true)  :
    Calls Tryd.prog 38 #[.pointer (some ⟨g, 0, none⟩)] w (Told w lo g v (textS (c :: r) ws)) := by
  rw [textS_ok (s := r.take (cutN 34 r)) (by rw [List.drop_succ_cons, List.drop_zero, cutQ_eq, if_pos hc]) (by unfold textOk; rw [hn]; rfl)]
  have HH := Lib.hid h
  have c0 := cell_at h.at_ 0
  have HLL := Lib.hid hl
  have hlr : r.length ≤ 100000 := by simp at hl; omega
  have hsz : 1 ≤ (bs (c :: r)).size := by rw [bs_size]; simp
  have hx : (bs (c :: r)).extract 1 (bs (c :: r)).size = bs r := by rw [extract_bs, bs_size]; simp
  have HW := Lib.hid hw
  have HLO := Lib.hid hlo
  have CC := fun w' => Lib.hid (cut_yes r 34 w' (by omega) hc)
  unfold tri str at CC
  have HCL := Lib.hid (cut_len 34 r)
  have HCN := Lib.hid hc
  generalize r.take (cutN 34 r) = s at *
  have hs1 : (bs s).size ≤ 100000 := by rw [bs_size]; have := HCL.out; omega
  have CN := fun w' => Lib.hid (show Calls Tryd.prog 8 #[.string (bs s)] w' (EndsB (.bool true) w') by have := name_any (bs s) w' (by unfold maxLen; omega); rwa [bs_data, hn] at this)
  have HSN : Hid (1 + ((bs s).size : Int) + 1 = ((s.length + 2 : Nat) : Int)) := Lib.hid (by rw [bs_size]; push_cast; omega)
  have HS2 : Hid (s.length + 2 ≤ (c :: r).length ∧ s.length ≤ 1000000) := Lib.hid (by have := HCL.out; have := HCN.out; simp; omega)
  clear h hl hw hlo hc hn hlr
  go_enter Tryd.func38, Tryd.ntmps38
  go_wp2_with fail
  refine (CC _).out.mono ?_
  rintro e w1 ⟨rfl, hb1⟩
  clear hx hsz c0
  have HB := Lib.hid hb1
  clear hb1
  go_wp2_with fail
  refine (CN _).out.mono ?_
  rintro e w2 ⟨rfl, hb2⟩
  have HB2 := Lib.hid (HB.out.trans (hb2.mono HB.out.size))
  clear hb2 HB
  have HG := Lib.hid (HH.out.below HB2.out)
  have HT := Lib.hid ((Turn.refl (mine g v) w).below HB2.out)
  have CT := Lib.hid (take_any w2 lo g (s.length + 2) (c :: r) ws v HG.out HS2.out.1 (by have := HLL.out; omega))
  rw [← HSN.out] at CT
  go_wp2_with fail
  refine CT.out.mono ?_
  intro e w3 hs
  obtain ⟨rfl, v2, hs⟩ := Step.then_ HT.out (fun _ hk => .inl hk) hs
  have HS := Lib.hid hs
  clear hs
  have CA := Lib.hid (add_any w3 lo g _ _ _ ⟨3, s, 0⟩ HS.out.1 HS2.out.2 (by have := HW.out; omega) (Nat.le_trans HLO.out HS.out.2.1.size))
  go_wp2_with fail
  refine CA.out.mono ?_
  intro e w4 hs
  obtain ⟨rfl, v3, hs⟩ := Step.then_ HS.out.2.1 HS.out.2.2 hs
  have HS3 := Lib.hid hs
  clear hs
  go_wp2_with fail
  go_ret
  exact ⟨rfl, v3, HS3.out⟩
set_option maxHeartbeats 4000000 in
theorem text_key (w : World) (lo g : Nat) (c : UInt8) (r : List UInt8) (ws : List Wd) (v : Value) (h : Rd w lo g (c :: r) ws v) (hl : (c :: r).length ≤ 100000) (hw : ws.length ≤ 100000) (hlo : lo ≤ w.heap.size) (hc : cutN 34 r < r.length)
    (hn : nameOk (r.take (cutN 34 r)) = false) (hk : keyB (r.take (cutN 34 r)) = true) :
    Calls Tryd.prog 38 #[.pointer (some ⟨g, 0, none⟩)] w (Told w lo g v (textS (c :: r) ws)) := by
  rw [textS_ok (s := r.take (cutN 34 r)) (by rw [List.drop_succ_cons, List.drop_zero, cutQ_eq, if_pos hc]) (by unfold textOk; rw [hn, hk]; rfl)]
  have HH := Lib.hid h
  have c0 := cell_at h.at_ 0
  have HLL := Lib.hid hl
  have hlr : r.length ≤ 100000 := by simp at hl; omega
  have hsz : 1 ≤ (bs (c :: r)).size := by rw [bs_size]; simp
  have hx : (bs (c :: r)).extract 1 (bs (c :: r)).size = bs r := by rw [extract_bs, bs_size]; simp
  have HW := Lib.hid hw
  have HLO := Lib.hid hlo
  have CC := fun w' => Lib.hid (cut_yes r 34 w' (by omega) hc)
  unfold tri str at CC
  have HCL := Lib.hid (cut_len 34 r)
  have HCN := Lib.hid hc
  generalize r.take (cutN 34 r) = s at *
  have hs1 : (bs s).size ≤ 100000 := by rw [bs_size]; have := HCL.out; omega
  have CN := fun w' => Lib.hid (show Calls Tryd.prog 8 #[.string (bs s)] w' (EndsB (.bool false) w') by have := name_any (bs s) w' (by unfold maxLen; omega); rwa [bs_data, hn] at this)
  have CK := fun w' => Lib.hid (show Calls Tryd.prog 6 #[.string (bs s)] w' (EndsW (.bool true) w') by have := key_any s w'; rwa [hk] at this)
  have HSN : Hid (1 + ((bs s).size : Int) + 1 = ((s.length + 2 : Nat) : Int)) := Lib.hid (by rw [bs_size]; push_cast; omega)
  have HS2 : Hid (s.length + 2 ≤ (c :: r).length ∧ s.length ≤ 1000000) := Lib.hid (by have := HCL.out; have := HCN.out; simp; omega)
  clear h hl hw hlo hc hn hk hlr
  go_enter Tryd.func38, Tryd.ntmps38
  go_wp2_with fail
  refine (CC _).out.mono ?_
  rintro e w1 ⟨rfl, hb1⟩
  clear hx hsz c0
  have HB := Lib.hid hb1
  clear hb1
  go_wp2_with fail
  refine (CN _).out.mono ?_
  rintro e w2 ⟨rfl, hb2⟩
  have HB2 := Lib.hid (HB.out.trans (hb2.mono HB.out.size))
  clear hb2 HB
  go_wp2_with fail
  refine (CK _).out.mono ?_
  rintro e w' ⟨rfl, rfl⟩
  have HG := Lib.hid (HH.out.below HB2.out)
  have HT := Lib.hid ((Turn.refl (mine g v) w).below HB2.out)
  have CT := Lib.hid (take_any w2 lo g (s.length + 2) (c :: r) ws v HG.out HS2.out.1 (by have := HLL.out; omega))
  rw [← HSN.out] at CT
  go_wp2_with fail
  refine CT.out.mono ?_
  intro e w3 hs
  obtain ⟨rfl, v2, hs⟩ := Step.then_ HT.out (fun _ hk => .inl hk) hs
  have HS := Lib.hid hs
  clear hs
  have CA := Lib.hid (add_any w3 lo g _ _ _ ⟨3, s, 0⟩ HS.out.1 HS2.out.2 (by have := HW.out; omega) (Nat.le_trans HLO.out HS.out.2.1.size))
  go_wp2_with fail
  refine CA.out.mono ?_
  intro e w4 hs
  obtain ⟨rfl, v3, hs⟩ := Step.then_ HS.out.2.1 HS.out.2.2 hs
  have HS3 := Lib.hid hs
  clear hs
  go_wp2_with fail
  go_ret
  exact ⟨rfl, v3, HS3.out⟩
set_option maxHeartbeats 4000000 in
theorem text_bad (w : World) (lo g : Nat) (c : UInt8) (r : List UInt8) (ws : List Wd) (v : Value) (h : Rd w lo g (c :: r) ws v) (hl : (c :: r).length ≤ 100000) (hc : cutN 34 r < r.length)
    (hn : nameOk (r.take (cutN 34 r)) = false) (hk : keyB (r.take (cutN 34 r)) = false) :
    Calls Tryd.prog 38 #[.pointer (some ⟨g, 0, none⟩)] w (Told w lo g v (textS (c :: r) ws)) := by
  rw [textS_bad (s := r.take (cutN 34 r)) (by rw [List.drop_succ_cons, List.drop_zero, cutQ_eq, if_pos hc]) (by unfold textOk; rw [hn, hk]; rfl)]
  have HH := Lib.hid h
  have c0 := cell_at h.at_ 0
  have HLL := Lib.hid hl
  have hlr : r.length ≤ 100000 := by simp at hl; omega
  have hsz : 1 ≤ (bs (c :: r)).size := by rw [bs_size]; simp
  have hx : (bs (c :: r)).extract 1 (bs (c :: r)).size = bs r := by rw [extract_bs, bs_size]; simp
  have CC := fun w' => Lib.hid (cut_yes r 34 w' (by omega) hc)
  unfold tri str at CC
  have HCL := Lib.hid (cut_len 34 r)
  have HCN := Lib.hid hc
  generalize r.take (cutN 34 r) = s at *
  have hs1 : (bs s).size ≤ 100000 := by rw [bs_size]; have := HCL.out; omega
  have CN := fun w' => Lib.hid (show Calls Tryd.prog 8 #[.string (bs s)] w' (EndsB (.bool false) w') by have := name_any (bs s) w' (by unfold maxLen; omega); rwa [bs_data, hn] at this)
  have CK := fun w' => Lib.hid (show Calls Tryd.prog 6 #[.string (bs s)] w' (EndsW (.bool false) w') by have := key_any s w'; rwa [hk] at this)
  clear h hl hc hn hk hlr
  go_enter Tryd.func38, Tryd.ntmps38
  go_wp2_with fail
  refine (CC _).out.mono ?_
  rintro e w1 ⟨rfl, hb1⟩
  clear hx hsz c0
  have HB := Lib.hid hb1
  clear hb1
  go_wp2_with fail
  refine (CN _).out.mono ?_
  rintro e w2 ⟨rfl, hb2⟩
  have HB2 := Lib.hid (HB.out.trans (hb2.mono HB.out.size))
  clear hb2 HB
  go_wp2_with fail
  refine (CK _).out.mono ?_
  rintro e w' ⟨rfl, rfl⟩
  go_wp2_with fail
  go_ret
  exact Step.same HH.out HB2.out _
theorem text_any (w : World) (lo g : Nat) (c : UInt8) (r : List UInt8) (ws : List Wd) (v : Value) (h : Rd w lo g (c :: r) ws v) (hl : (c :: r).length ≤ 100000) (hw : ws.length ≤ 100000) (hlo : lo ≤ w.heap.size) :
    Calls Tryd.prog 38 #[.pointer (some ⟨g, 0, none⟩)] w (Told w lo g v (textS (c :: r) ws)) := by
  by_cases hc : cutN 34 r < r.length
  · rcases Bool.eq_false_or_eq_true (nameOk (r.take (cutN 34 r))) with hn | hn
    · exact text_name w lo g c r ws v h hl hw hlo hc hn
    · rcases Bool.eq_false_or_eq_true (keyB (r.take (cutN 34 r))) with hk | hk
      · exact text_key w lo g c r ws v h hl hw hlo hc hn hk
      · exact text_bad w lo g c r ws v h hl hc hn hk
  · exact text_no w lo g c r ws v h hl (by have := cutN_le 34 r; omega)
end Go.Proofs.YtjgkfdhfffbccaaDoor.Lex
