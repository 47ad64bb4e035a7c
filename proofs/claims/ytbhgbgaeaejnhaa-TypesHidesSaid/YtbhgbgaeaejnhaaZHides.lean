/-
  TypesHides: its walk.
-/
import Derived.Test.YtbhgbgaeaejnhaaZHMath
import Derived.Test.YtbhgbgaeaejnhaaZOpn
namespace Go.Proofs.Ytbhgbgaeaejnhaa.Typ
open Go.RowKit Tre
set_option maxRecDepth 100000
set_option linter.unusedSimpArgs false
set_option maxHeartbeats 8000000 in
theorem hides_many {w : World} {A B : Option Addr} {c d n k : Nat} {t : Int} (h : 100 < n ∨ 100 < k) (hn : n ≤ 9223372036854775807) (hk : k ≤ 9223372036854775807) :
    Calls Try.prog 5 #[.slice A n c, .slice B k d, .int .u8 t] w (fun e w' => e = .returned (.bool true) ∧ Below w.heap.size w w') := by
  have C := Lib.hid (knows_any w)
  by_cases h1 : 100 < n
  · clear h
    go_enter Try.func5, Try.ntmps5
    go_wp2_with fail
    refine C.out.mono ?_
    rintro e w1 ⟨rfl, hb⟩
    go_wp2_with fail
    go_ret
    exact ⟨rfl, hb⟩
  · have h2 : 100 < k := by omega
    clear h
    go_enter Try.func5, Try.ntmps5
    go_wp2_with fail
    refine C.out.mono ?_
    rintro e w1 ⟨rfl, hb⟩
    go_wp2_with fail
    go_ret
    exact ⟨rfl, hb⟩
/-- What the loops know. -/
structure HidAt (w1 wr : World) (LL : List (List Vr)) (N : Int) (m : Nat) : Prop where
  pb : PB w1.heap.size wr w1.heap.size LL N m
  bl : Below w1.heap.size w1 wr
set_option maxHeartbeats 16000000 in
theorem hides_few {w : World} {A B : Option Addr} {c d n k : Nat} {l l2 : List ByteArray} {t : Int} (hr : Row 1 txC w A l) (hr2 : Row 1 txC w B l2) (hl : l.length = n) (hl2 : l2.length = k) (hn : n ≤ 100) (hk : k ≤ 100) (hs : ∀ s ∈ l, s.size ≤ 140737488355327) (hs2 : ∀ s ∈ l2, s.size ≤ 140737488355327) :
    Calls Try.prog 5 #[.slice A n c, .slice B k d, .int .u8 t] w (fun e w' => e = .returned (.bool true) ∧ Below w.heap.size w w') := by
  have C := Lib.hid (knows_any w)
  have HR := Lib.hid hr
  have HR2 := Lib.hid hr2
  have HL := Lib.hid hl
  have HL2 := Lib.hid hl2
  have HS := Lib.hid hs
  have HS2 := Lib.hid hs2
  clear hr hr2 hl hl2 hs hs2
  go_enter Try.func5, Try.ntmps5
  go_wp2_with fail
  refine C.out.mono ?_
  rintro e w1 ⟨rfl, hb⟩
  have HB := Lib.hid hb
  have h0 := PB.zero w1
  have b0 := ball_new w1 #[.map none, .slice none 0 0, .int .i64 0] 49
  have B0 := Lib.hid b0
  have C1 := Lib.hid (bopen_any h0 (by simp))
  clear hb h0 b0 C
  go_wp2_with fail
  refine C1.out.mono ?_
  rintro e w2 ⟨rfl, h2, b2⟩
  have H0 : Hid (HidAt w1 w2 [(defs [] 1 0 (l.take 0)).1] (defs [] 1 0 (l.take 0)).2 0) := Lib.hid ⟨h2, B0.out.trans b2⟩
  have HRa : Hid (∀ wr LL N m, HidAt w1 wr LL N m → Row 1 txC wr A l ∧ Row 1 txC wr B l2) := Lib.hid (fun wr LL N m H => ⟨(HR.out.below HB.out).below H.bl, (HR2.out.below HB.out).below H.bl⟩)
  clear h2 b2 C1 B0
  go_wp2_with fail
  go_loopw [8] (fun i wr => ∃ j : Nat, j ≤ n ∧ i = .int .i64 j ∧ Hid (HidAt w1 wr [(defs [] 1 0 (l.take j)).1] (defs [] 1 0 (l.take j)).2 j)) (fun i _ => n - (intOf i).toNat)
  case atStart => exact ⟨0, Nat.zero_le _, rfl, H0⟩
  case round =>
    obtain ⟨j, hj, rfl, H⟩ := hrel
    by_cases hlt : j < n
    · obtain ⟨x, hx⟩ : ∃ x, l[j]? = some x := ⟨_, List.getElem?_eq_getElem (by rw [HL.out]; exact hlt)⟩
      obtain ⟨b1, o1, rfl, hc1⟩ := (HRa.out _ _ _ _ H.out).1.at_ (Below.refl _ _) hx
      have p0 := hc1 0 _ rfl
      have hlen := len_take [] 1 0 l j (by rw [HL.out]; exact hj)
      have hsz := HS.out x (List.mem_of_getElem? hx)
      have CD := Lib.hid (bdef_any (LL := []) (L := (defs [] 1 0 (l.take j)).1) H.out.pb (by simp) (by omega) (by omega) (by omega) x (by omega) 1)
      have HST := Lib.hid (defs_succ (LL := []) (t := 1) (N := 0) hx)
      rw [Nat.mul_one, Nat.add_zero] at p0
      clear hc1 hx hlen hsz
      go_wp2_with fail
      refine CD.out.mono ?_
      rintro e w3 ⟨rfl, h3, b3⟩
      have HN : Hid (HidAt w1 w3 [(defs [] 1 0 (l.take (j + 1))).1] (defs [] 1 0 (l.take (j + 1))).2 (j + 1)) := Lib.hid ⟨by rw [HST.out]; exact h3, H.out.bl.trans b3⟩
      clear h3 b3
      go_wp2_with fail
      go_roundw
      case rel => exact ⟨j + 1, by omega, by go_num, HN⟩
      case measure => simp [intOf]; omega
    · obtain rfl : j = n := by omega
      rw [List.take_of_length_le (Nat.le_of_eq HL.out)] at H
      have hlen := len_take [] 1 0 l j (Nat.le_of_eq HL.out.symm)
      rw [List.take_of_length_le (Nat.le_of_eq HL.out)] at hlen
      have HFO : Hid (∀ (i : Nat) (s : ByteArray), l[i]? = some s → ∃ q, findA [(defs [] 1 0 l).1].flatten s = .tuple #[.int .u8 1, .int .i64 q, .bool true] ∧ 0 ≤ q ∧ q < (defs [] 1 0 l).2) := Lib.hid (fun i s hi => find_out hi H.out.pb.wf)
      clear H0
      generalize (defs [] 1 0 l).1 = L1 at *
      generalize (defs [] 1 0 l).2 = N1 at *
      obtain ⟨hq1, hq2, hq3⟩ := hlen
      have CC := Lib.hid (bcount_any H.out.pb)
      have CO := Lib.hid (bopen_any H.out.pb (by simp))
      go_wp2_with fail
      refine CC.out.mono ?_
      rintro e w3 ⟨rfl, hw3⟩
      obtain rfl : wr = w3 := hw3.symm
      clear hw3
      go_wp2_with fail
      refine CO.out.mono ?_
      rintro e w3 ⟨rfl, h3, b3⟩
      have H1 : Hid (HidAt w1 w3 ([L1] ++ [(defs [L1] t N1 (l2.take 0)).1]) (defs [L1] t N1 (l2.take 0)).2 (j + 0)) := Lib.hid ⟨h3, H.out.bl.trans b3⟩
      clear h3 b3 CC CO H
      go_wp2_with fail
      go_loopw [10] (fun i wr => ∃ q : Nat, q ≤ k ∧ i = .int .i64 q ∧ Hid (HidAt w1 wr ([L1] ++ [(defs [L1] t N1 (l2.take q)).1]) (defs [L1] t N1 (l2.take q)).2 (j + q))) (fun i _ => k - (intOf i).toNat)
      case atStart => exact ⟨0, Nat.zero_le _, rfl, H1⟩
      case round =>
        obtain ⟨q, hq, rfl, H⟩ := hrel
        by_cases hlt : q < k
        · obtain ⟨x, hx⟩ : ∃ x, l2[q]? = some x := ⟨_, List.getElem?_eq_getElem (by rw [HL2.out]; exact hlt)⟩
          obtain ⟨b1, o1, rfl, hc1⟩ := (HRa.out _ _ _ _ H.out).2.at_ (Below.refl _ _) hx
          have p0 := hc1 0 _ rfl
          have hlen := len_take [L1] t N1 l2 q (by rw [HL2.out]; exact hq)
          have hsz := HS2.out x (List.mem_of_getElem? hx)
          have CD := Lib.hid (bdef_any (LL := [L1]) (L := (defs [L1] t N1 (l2.take q)).1) H.out.pb (by simp) (by omega) (by omega) (by omega) x (by omega) t)
          have HST := Lib.hid (defs_succ (LL := [L1]) (t := t) (N := N1) hx)
          have HSZ := Lib.hid hsz
          have HX := Lib.hid hx
          rw [Nat.mul_one, Nat.add_zero] at p0
          clear hc1 hx hlen hsz
          go_wp2_with fail
          refine CD.out.mono ?_
          rintro e w3 ⟨rfl, h3, b3⟩
          have HN : Hid (HidAt w1 w3 ([L1] ++ [(defs [L1] t N1 (l2.take (q + 1))).1]) (defs [L1] t N1 (l2.take (q + 1))).2 (j + (q + 1))) := Lib.hid ⟨by rw [HST.out]; exact h3, H.out.bl.trans b3⟩
          have CF := Lib.hid (bfind_any HN.out.pb x (by have := HSZ.out; unfold maxLen; omega))
          have p1 := (HRa.out _ _ _ _ HN.out).2.at_ (Below.refl _ _) HX.out
          obtain ⟨b2, o2, e2, hc2⟩ := p1
          injection e2 with e2
          injection e2 with e2 e3
          subst e2 e3
          have p1 := hc2 0 _ rfl
          rw [Nat.mul_one, Nat.add_zero] at p1
          obtain ⟨z, hz, hz1⟩ := find_in (L := L1) (t := t) (N := N1) HX.out
          rw [hz] at CF
          clear h3 b3 hc2 hz CD
          go_wp2_with fail
          refine CF.out.mono ?_
          rintro e w4 ⟨rfl, h4, b4⟩
          have HN2 : Hid (HidAt w1 w4 ([L1] ++ [(defs [L1] t N1 (l2.take (q + 1))).1]) (defs [L1] t N1 (l2.take (q + 1))).2 (j + (q + 1))) := Lib.hid ⟨h4, HN.out.bl.trans b4⟩
          clear h4 b4 HN CF
          go_wp2_with fail
          go_roundw
          case rel => exact ⟨q + 1, by omega, by go_num, HN2⟩
          case measure => simp [intOf]; omega
        · obtain rfl : q = k := by omega
          have hlen := (len_take [L1] t N1 l2 q (Nat.le_of_eq HL2.out.symm)).1
          clear H1
          generalize (defs [L1] t N1 (l2.take q)).1 = M at *
          generalize (defs [L1] t N1 (l2.take q)).2 = N2 at *
          have CC := Lib.hid (bcount_any H.out.pb)
          have CX := Lib.hid (bclose_any (LL := [L1]) (L := M) H.out.pb (by simp) (by omega) (by omega))
          go_wp2_with fail
          refine CC.out.mono ?_
          rintro e w5 ⟨rfl, hw5⟩
          obtain rfl : wr = w5 := hw5.symm
          clear hw5
          go_wp2_with fail
          refine CX.out.mono ?_
          rintro e w5 ⟨rfl, h5, b5⟩
          have H5 : Hid (HidAt w1 w5 [L1] N2 (j + q + M.length)) := Lib.hid ⟨h5, H.out.bl.trans b5⟩
          have CC2 := Lib.hid (bcount_any h5)
          clear h5 b5 CC CX H
          obtain ⟨m3, hm3⟩ : ∃ m3, j + q + M.length = m3 := ⟨_, rfl⟩
          have hm3' : m3 ≤ 10000 := by omega
          rw [hm3] at H5
          clear hm3 hlen
          go_wp2_with fail
          refine CC2.out.mono ?_
          rintro e w6 ⟨rfl, hw6⟩
          obtain rfl : w5 = w6 := hw6.symm
          clear hw6 CC2
          go_wp2_with fail
          go_loopw [15] (fun i wr => ∃ p : Nat, p ≤ j ∧ i = .int .i64 p ∧ Hid (HidAt w1 wr [L1] N2 m3)) (fun i _ => j - (intOf i).toNat)
          case atStart => exact ⟨0, Nat.zero_le _, rfl, H5⟩
          case round =>
            obtain ⟨p, hp, rfl, H⟩ := hrel
            by_cases hlt : p < j
            · obtain ⟨x, hx⟩ : ∃ x, l[p]? = some x := ⟨_, List.getElem?_eq_getElem (by rw [HL.out]; exact hlt)⟩
              obtain ⟨b1, o1, rfl, hc1⟩ := (HRa.out _ _ _ _ H.out).1.at_ (Below.refl _ _) hx
              have p0 := hc1 0 _ rfl
              have hsz := HS.out x (List.mem_of_getElem? hx)
              have CF := Lib.hid (bfind_any H.out.pb x (by unfold maxLen; omega))
              obtain ⟨z, hz, hz1, hz2⟩ := HFO.out p x hx
              rw [hz] at CF
              rw [Nat.mul_one, Nat.add_zero] at p0
              clear hc1 hx hz hsz
              go_wp2_with fail
              refine CF.out.mono ?_
              rintro e w7 ⟨rfl, h7, b7⟩
              have HN : Hid (HidAt w1 w7 [L1] N2 m3) := Lib.hid ⟨h7, H.out.bl.trans b7⟩
              clear h7 b7 CF
              go_wp2_with fail
              go_roundw
              case rel => exact ⟨p + 1, by omega, by go_num, HN⟩
              case measure => simp [intOf]; omega
            · obtain rfl : p = j := by omega
              have CX := Lib.hid (bclose_any (LL := []) (L := L1) H.out.pb (by simp) (by omega) (by omega))
              have E1 := Lib.hid (popen_nil wr)
              have E2 := fun v => Lib.hid (pfind_nil wr v)
              have E3 := Lib.hid (pclose_nil wr)
              have E4 := fun v u => Lib.hid (pdef_nil wr v u)
              have E5 := Lib.hid (pdeep_nil wr)
              have E6 := Lib.hid (pcount_nil wr)
              go_wp2_with fail
              refine E1.out.mono ?_
              rintro e w8 ⟨rfl, hw8⟩
              obtain rfl : wr = w8 := hw8.symm
              clear hw8
              go_wp2_with fail
              refine (E2 _).out.mono ?_
              rintro e w8 ⟨rfl, hw8⟩
              obtain rfl : wr = w8 := hw8.symm
              clear hw8
              go_wp2_with fail
              refine E3.out.mono ?_
              rintro e w8 ⟨rfl, hw8⟩
              obtain rfl : wr = w8 := hw8.symm
              clear hw8
              go_wp2_with fail
              refine (E4 _ _).out.mono ?_
              rintro e w8 ⟨rfl, hw8⟩
              obtain rfl : wr = w8 := hw8.symm
              clear hw8
              go_wp2_with fail
              refine E5.out.mono ?_
              rintro e w8 ⟨rfl, hw8⟩
              obtain rfl : wr = w8 := hw8.symm
              clear hw8
              go_wp2_with fail
              refine E6.out.mono ?_
              rintro e w8 ⟨rfl, hw8⟩
              obtain rfl : wr = w8 := hw8.symm
              clear hw8
              go_wp2_with fail
              refine CX.out.mono ?_
              rintro e w8 ⟨rfl, h8, b8⟩
              have CZ := Lib.hid (bclose_zero h8)
              have HB8 := Lib.hid (HB.out.trans ((H.out.bl.trans b8).mono HB.out.size))
              clear h8 b8
              go_wp2_with fail
              refine CZ.out.mono ?_
              rintro e w9 ⟨rfl, hw9⟩
              obtain rfl : w8 = w9 := hw9.symm
              clear hw9
              go_wp2_with fail
              go_ret
              exact ⟨rfl, HB8.out⟩
theorem typesHides_any {w : World} {A B : Option Addr} {c d : Nat} {l l2 : List ByteArray} {t : Int} (hr : Row 1 txC w A l) (hr2 : Row 1 txC w B l2) (hl : l.length ≤ most) (hl2 : l2.length ≤ most) (hs : ∀ s ∈ l, s.size ≤ 140737488355327) (hs2 : ∀ s ∈ l2, s.size ≤ 140737488355327) :
    Calls Try.prog 5 #[.slice A l.length c, .slice B l2.length d, .int .u8 t] w (fun e w' => e = .returned (.bool true) ∧ Below w.heap.size w w') := by
  by_cases h : 100 < l.length ∨ 100 < l2.length
  · exact hides_many h (by unfold most at hl; omega) (by unfold most at hl2; omega)
  · exact hides_few hr hr2 rfl rfl (by omega) (by omega) hs hs2
end Go.Proofs.Ytbhgbgaeaejnhaa.Typ
