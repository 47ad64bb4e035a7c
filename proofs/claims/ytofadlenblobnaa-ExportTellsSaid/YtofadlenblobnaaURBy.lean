/-
  The document's bytes, Encode. Conditions: the list lies in memory; bytes is asked of one that may be.
-/
import Derived.Test.YtofadlenblobnaaURRt
namespace Go.Proofs.Ytofadlenblobnaa.Exp
open Go.RowKit Codec Typ Tre
open Cod (Byts Owns Grew bytesOf)
set_option maxRecDepth 100000
set_option linter.unusedSimpArgs false
/-- Name and parameters of one signature. -/
def TwoAt (b o : Nat) (s : ByteArray) (a : Option Addr) (m c : Nat) (u : World) : Prop := u.cell? ⟨b, o, none⟩ = some (.string s) ∧ u.cell? ⟨b, o + 1, none⟩ = some (.slice a m c)
set_option maxHeartbeats 16000000 in
theorem rbytes_any (l : List Sg) (A : Option Addr) (c n : Nat) (w : World) (hn : l.length = n) (hr : Row 3 sgC w A l) (hi : ∀ g ∈ l, SgIn w g) (hR : rightL (l.map coreG) = true) :
    Calls Try.prog 18 #[.slice A n c] w (Grew w w.heap.size (encL (l.map coreG))) := by
  obtain ⟨h32, hok⟩ := rightL_ok hR
  rw [List.length_map, hn] at h32
  have HR := Lib.hid hr
  have HI := Lib.hid hi
  have HN := Lib.hid hn
  have HOKS := Lib.hid hok
  have HFW := Lib.hid (encB_few hok)
  obtain ⟨B, hB0⟩ : ∃ B, w.heap.size = B := ⟨_, rfl⟩
  have HBE := Lib.hid hB0
  have hzB : Hid (∀ u, Below B w u → B ≤ u.heap.size) := Lib.hid (fun u h => by rw [← hB0] at h ⊢; exact h.size)
  have CS0 := Lib.hid (Cod.ref_small w B 0 0 none n [] Owns.nil (by omega) (by rw [hB0]; exact Nat.le_refl _))
  rw [hB0]
  clear hr hi hn hok hR hB0
  go_enter Try.func18, Try.ntmps18
  go_wp2_with fail
  refine CS0.out.mono ?_
  rintro e w1 ⟨A0, m0, c0, rfl, ho0, hb0⟩
  have HO0 := Lib.hid ho0
  have HB00 := Lib.hid hb0
  clear ho0 hb0 CS0
  go_wp2_with fail
  go_loopw [3, 4] (fun v i wr => ∃ (k : Nat) (A : Option Addr) (p d : Nat), k ≤ n ∧ v = .slice A p d ∧ i = .int .i64 k ∧ Hid (Owns wr B (.slice A p d) p (encSmall n ++ encB ((l.take k).map coreG))) ∧ Hid (Below B w wr)) (fun _ i _ => n - (intOf i).toNat)
  case atStart => exact ⟨0, A0, m0, c0, Nat.zero_le _, rfl, rfl, Lib.hid (by rw [List.take_zero, show encB (([] : List Sg).map coreG) = [] from rfl, List.append_nil]; exact HO0.out), HB00⟩
  case round =>
    clear HO0 HB00
    obtain ⟨k, A1, m1, c1, hk, rfl, rfl, HO, HB⟩ := hrel
    by_cases hlt : k < n
    · obtain ⟨x, hx⟩ : ∃ x, l[k]? = some x := ⟨_, List.getElem?_eq_getElem (by rw [HN.out]; exact hlt)⟩
      obtain ⟨b1, o1, rfl, hall⟩ := row_all HR.out (by rw [HN.out]; omega)
      have hin := HI.out x (List.mem_of_getElem? hx)
      have HOK := Lib.hid (HOKS.out (coreG x) (List.mem_map_of_mem (List.mem_of_getElem? hx)))
      have HEM := Lib.hid (encB_more hx)
      obtain ⟨xs, xa, xc, xp, xr⟩ := x
      obtain ⟨m, hm⟩ : ∃ m, xp.length = m := ⟨_, rfl⟩
      have HM := Lib.hid hm
      have hm4 : m ≤ 4 := by have := HOK.out.few; have e : (coreG ⟨xs, xa, xc, xp, xr⟩).p.length = xp.length := rfl; omega
      have hs16 : xs.size ≤ 16 := by have := HOK.out.name; have e : (coreG ⟨xs, xa, xc, xp, xr⟩).s.length = xs.size := Cod.bytesOf_length xs; omega
      have HXP : Hid (Row 1 tyC w xa xp) := Lib.hid hin.row
      have HTH : Hid (∀ u, Below B w u → u.cell? ⟨b1, o1 + k * 3, none⟩ = some (.string xs) ∧ u.cell? ⟨b1, o1 + k * 3 + 1, none⟩ = some (.slice xa m xc) ∧ u.cell? ⟨b1, o1 + k * 3 + 2, none⟩ = some (.int .u8 xr)) := Lib.hid (fun u h => by
        have := hall u (HBE.out ▸ h) k _ hx
        rw [hm] at this
        exact this)
      have HTW : Hid (∀ u, Below B w u → TwoAt b1 (o1 + k * 3) xs xa m xc u) := Lib.hid (fun u h => ⟨(HTH.out u h).1, (HTH.out u h).2.1⟩)
      have HTL := Lib.hid (show (encText (bytesOf xs)).length ≤ 18 by rw [encText_length, Cod.bytesOf_length]; omega)
      have HL := Lib.hid (show (encSmall n ++ encB ((l.take k).map coreG)).length ≤ 10000 by rw [List.length_append, encSmall_length]; have := HFW.out k; omega)
      have HB0 : Hid (Below B w wr.drew) := Lib.hid HB.out.drew
      have CT := Lib.hid (Cod.ref_text wr.drew B m1 c1 A1 xs _ (HO.out.below (Below.refl _ _).drew) (by rw [← HO.out.len]; have := HL.out; omega) (by show B ≤ wr.heap.size; exact hzB.out wr HB.out) (by omega))
      have S0 : TwoAt b1 (o1 + k * 3) xs xa m xc wr.drew := HTW.out _ HB0.out
      have hz0 := hzB.out _ HB0.out
      clear hall hx hin hm
      go_wp2_with fail
      refine Lex.AtS.start (by kernel_rfl) 14 (TwoAt b1 (o1 + k * 3) xs xa m xc) (by kernel_rfl) (by kernel_rfl) ?_
      generalize wr.drew = u0 at *
      refine Lex.at_take 0 15 (.slice A1 m1 c1) rfl rfl (by kernel_rfl) (by decide) (by decide) (fun _ _ _ h => h) (by kernel_rfl) S0 (fun w' hw' => ?_) ?_
      · obtain ⟨y0, y1⟩ := hw'
        go_simp
      go_frame
      refine Lex.at_take 1 16 (.slice (some ⟨b1, o1, none⟩) n c) rfl rfl (by kernel_rfl) (by decide) (by decide) (fun _ _ _ h => h) (by kernel_rfl) S0 (fun w' hw' => ?_) ?_
      · obtain ⟨y0, y1⟩ := hw'
        go_simp
      go_frame
      refine Lex.at_take 2 17 (.int .i64 k) rfl rfl (by kernel_rfl) (by decide) (by decide) (fun _ _ _ h => h) (by kernel_rfl) S0 (fun w' hw' => ?_) ?_
      · obtain ⟨y0, y1⟩ := hw'
        go_simp
      go_frame
      refine Lex.at_take 3 18 (.pointer (some ⟨b1, o1 + k * 3, none⟩)) rfl rfl (by kernel_rfl) (by decide) (by decide) (fun _ _ _ h => h) (by kernel_rfl) S0 (fun w' hw' => ?_) ?_
      · obtain ⟨y0, y1⟩ := hw'
        go_simp
      go_frame
      refine Lex.at_take 4 19 (.pointer (some ⟨b1, o1 + k * 3, none⟩)) rfl rfl (by kernel_rfl) (by decide) (by decide) (fun _ _ _ h => h) (by kernel_rfl) S0 (fun w' hw' => ?_) ?_
      · obtain ⟨y0, y1⟩ := hw'
        go_simp
      go_frame
      refine Lex.at_take 5 20 (.string xs) rfl rfl (by kernel_rfl) (by decide) (by decide) (fun _ _ _ h => h) (by kernel_rfl) S0 (fun w' hw' => ?_) ?_
      · obtain ⟨y0, y1⟩ := hw'
        go_simp
      go_frame
      refine Lex.at_take 7 22 (.slice (some ⟨b1, o1, none⟩) n c) rfl rfl (by kernel_rfl) (by decide) (by decide) (fun _ _ _ h => h) (by kernel_rfl) S0 (fun w' hw' => ?_) ?_
      · obtain ⟨y0, y1⟩ := hw'
        go_simp
      go_frame
      refine Lex.at_take 8 23 (.int .i64 k) rfl rfl (by kernel_rfl) (by decide) (by decide) (fun _ _ _ h => h) (by kernel_rfl) S0 (fun w' hw' => ?_) ?_
      · obtain ⟨y0, y1⟩ := hw'
        go_simp
      go_frame
      refine Lex.at_take 9 24 (.pointer (some ⟨b1, o1 + k * 3, none⟩)) rfl rfl (by kernel_rfl) (by decide) (by decide) (fun _ _ _ h => h) (by kernel_rfl) S0 (fun w' hw' => ?_) ?_
      · obtain ⟨y0, y1⟩ := hw'
        go_simp
      go_frame
      refine Lex.at_take 10 25 (.pointer (some ⟨b1, o1 + k * 3 + 1, none⟩)) rfl rfl (by kernel_rfl) (by decide) (by decide) (fun _ _ _ h => h) (by kernel_rfl) S0 (fun w' hw' => ?_) ?_
      · obtain ⟨y0, y1⟩ := hw'
        go_simp
      go_frame
      refine Lex.at_take 11 26 (.slice xa m xc) rfl rfl (by kernel_rfl) (by decide) (by decide) (fun _ _ _ h => h) (by kernel_rfl) S0 (fun w' hw' => ?_) ?_
      · obtain ⟨y0, y1⟩ := hw'
        go_simp
      go_frame
      refine Lex.at_take 12 27 (.int .i64 m) rfl rfl (by kernel_rfl) (by decide) (by decide) (fun _ _ _ h => h) (by kernel_rfl) S0 (fun w' hw' => ?_) ?_
      · obtain ⟨y0, y1⟩ := hw'
        go_simp
      go_frame
      refine Lex.at_call 6 21 (f := 33) (args := #[.slice A1 m1 c1, .string xs]) rfl rfl (by kernel_rfl) (by decide) (by kernel_rfl) ?_ ?_
      · go_simp
      refine CT.out.mono ?_
      rintro e v1 ⟨A2, m2, c2, rfl, ho2, hb2⟩
      have HB2 := Lib.hid (HB0.out.trans hb2)
      have S2 : TwoAt b1 (o1 + k * 3) xs xa m xc v1 := HTW.out _ HB2.out
      refine ⟨_, rfl, S2, ?_⟩
      go_frame
      have hl2 := ho2.len
      have CS := Lib.hid (Cod.ref_small v1 B m2 c2 A2 m _ ho2 (by rw [← hl2, List.length_append]; have := HTL.out; have := HL.out; omega) (by have := hb2.size; omega))
      clear ho2 hb2 hl2 CT
      refine Lex.at_call 13 28 (f := 32) (args := #[.slice A2 m2 c2, .int .i64 m]) rfl rfl (by kernel_rfl) (by decide) (by kernel_rfl) ?_ ?_
      · go_simp
      refine CS.out.mono ?_
      rintro e v2 ⟨A3, m3, c3, rfl, ho3, hb3⟩
      have HB3 := Lib.hid (HB2.out.trans hb3)
      have HO3 := Lib.hid ho3
      have S3 : TwoAt b1 (o1 + k * 3) xs xa m xc v2 := HTW.out _ HB3.out
      refine ⟨_, rfl, S3, ?_⟩
      go_frame
      clear ho3 hb3 CS S2
      refine Lex.AtS.lastv 14 3 (.slice A3 m3 c3) v2 rfl rfl (by kernel_rfl) (by kernel_rfl) (by decide) (by kernel_rfl) ?_ ?_
      · go_simp
      go_frame
      clear S3
      go_wp2_with fail
      go_loopw [3, 5] (fun v i wy => ∃ (q : Nat) (A : Option Addr) (p d : Nat), q ≤ m ∧ v = .slice A p d ∧ i = .int .i64 q ∧ Hid (Owns wy B (.slice A p d) p (encSmall n ++ encB ((l.take k).map coreG) ++ encText (bytesOf xs) ++ encSmall m ++ encP (xp.take q))) ∧ Hid (Below B w wy)) (fun _ i _ => m - (intOf i).toNat)
      case atStart => exact ⟨0, A3, m3, c3, Nat.zero_le _, rfl, rfl, Lib.hid (by rw [List.take_zero, show encP [] = [] from rfl, List.append_nil]; exact HO3.out), HB3⟩
      case round =>
        clear HO3 HB3
        obtain ⟨q, A4, m4, c4, hq, rfl, rfl, HO4, HB4⟩ := hrel
        have z := HTH.out wr HB4.out
        obtain ⟨z0, z1, z2⟩ := z
        have HL4 : Hid (m4 ≤ 900000) := Lib.hid (by
          have h1 := HO4.out.len
          rw [List.length_append, List.length_append, List.length_append, encSmall_length, encP_len, List.length_take] at h1
          have := HTL.out
          have := HL.out
          omega)
        have hz4 := hzB.out wr HB4.out
        by_cases hqm : q < m
        · obtain ⟨y, hy⟩ : ∃ y, xp[q]? = some y := ⟨_, List.getElem?_eq_getElem (by rw [HM.out]; exact hqm)⟩
          obtain ⟨b2, o2, rfl, hty⟩ := row_ty HXP.out (by rw [HM.out]; omega)
          have y0 := hty wr (HBE.out ▸ HB4.out) q y hy
          have HYM := Lib.hid (encP_more hy)
          have hys := HOK.out.ps y (List.mem_of_getElem? hy)
          unfold smallT at hys
          have hy0 : 0 ≤ y := hys.1
          have hy2 : y ≤ 2 := hys.2
          have hwr : wrap64 y = y := by unfold wrap64; omega
          have CS := Lib.hid (Cod.ref_small wr B m4 c4 A4 y _ HO4.out (by have := HL4.out; omega) hz4)
          clear hty hy hys
          go_wp2_with fail
          refine CS.out.mono ?_
          rintro e v5 ⟨A5, m5, c5, rfl, ho5, hb5⟩
          have HO5 := Lib.hid ho5
          have HB5 := Lib.hid (HB4.out.trans hb5)
          clear ho5 hb5
          go_wp2_with fail
          go_roundw
          case rel => exact ⟨q + 1, A5, m5, c5, by omega, rfl, by go_num, Lib.hid (by rw [HYM.out, ← List.append_assoc]; exact HO5.out), HB5⟩
          case measure => simp [intOf]; omega
        · obtain rfl : q = m := by omega
          have hr2 := HOK.out.r
          unfold smallT at hr2
          have hr0 : 0 ≤ xr := hr2.1
          have hr3 : xr ≤ 2 := hr2.2
          have hwr : wrap64 xr = xr := by unfold wrap64; omega
          have CS := Lib.hid (Cod.ref_small wr B m4 c4 A4 xr _ HO4.out (by have := HL4.out; omega) hz4)
          have HFIN : Hid (encSmall n ++ encB ((l.take k).map coreG) ++ encText (bytesOf xs) ++ encSmall q ++ encP (xp.take q) ++ encSmall xr = encSmall n ++ encB ((l.take (k + 1)).map coreG)) := Lib.hid (by
            rw [HEM.out, List.take_of_length_le (Nat.le_of_eq HM.out)]
            unfold encG
            rw [show (coreG ⟨xs, xa, xc, xp, xr⟩).p.length = q from HM.out]
            simp only [List.append_assoc]
            rfl)
          clear hr2
          go_wp2_with fail
          refine CS.out.mono ?_
          rintro e v5 ⟨A5, m5, c5, rfl, ho5, hb5⟩
          have HO5 := Lib.hid ho5
          have HB5 := Lib.hid (HB4.out.trans hb5)
          clear ho5 hb5
          go_wp2_with fail
          go_roundw
          case rel => exact ⟨k + 1, A5, m5, c5, by omega, rfl, by go_num, Lib.hid (by rw [← HFIN.out]; exact HO5.out), HB5⟩
          case measure => simp [intOf]; omega
    · obtain rfl : k = n := by omega
      have HE : Hid (encSmall k ++ encB ((l.take k).map coreG) = encL (l.map coreG)) := Lib.hid (by
        rw [List.take_of_length_le (Nat.le_of_eq HN.out)]
        unfold encL
        rw [List.length_map, HN.out])
      go_wp2_with fail
      go_ret
      exact ⟨A1, m1, c1, rfl, by rw [← HE.out]; exact HO.out, HB.out⟩
end Go.Proofs.Ytofadlenblobnaa.Exp
