/-
  What the document's Pack answers: bytes in sectors. Conditions: at most 1048576 bytes.
-/
import Derived.Test.YtpbojepliddflaaFPk
namespace Go.Proofs.Ytpbojepliddflaa.Frm
open Go.RowKit Codec FrameM Cod
set_option maxRecDepth 100000
def Packed (w : World) (ls : List (List UInt8)) (e : Ending) (w' : World) : Prop := ∃ A k c, e = .returned (.slice A k c) ∧ Pk w' w.heap.size (.slice A k c) k ls ∧ Below w.heap.size w w'
/-- A sector of which x bytes are there. -/
def part (xs : List UInt8) (j x : Nat) : List UInt8 := (piece xs j).take x ++ zeros (64 - x)
theorem part_length (xs : List UInt8) (j x : Nat) (h : x ≤ (piece xs j).length) : (part xs j x).length = 64 := by
  have := piece_length xs j
  simp only [part, List.length_append, List.length_take, zeros_length]
  omega
theorem part_full (xs : List UInt8) (j : Nat) : part xs j (piece xs j).length = sec xs j := by
  simp [part, sec, pad]
theorem part_set (xs : List UInt8) (j x : Nat) (h : x < (piece xs j).length) : (part xs j x).set x (xs.getD (64 * j + x) 0) = part xs j (x + 1) := by
  have hl := piece_length xs j
  have hp : (piece xs j)[x]? = some (xs.getD (64 * j + x) 0) := by
    have h64 : x < 64 := by omega
    have hx : 64 * j + x < xs.length := by omega
    simp [piece, h64, List.getD_eq_getElem?_getD, hx]
  apply List.ext_getElem?
  intro y
  have hlt : x < 64 := by omega
  rw [List.getElem?_set, part_length xs j x (by omega)]
  by_cases hy : x = y
  · subst hy
    rw [if_pos rfl, if_pos hlt]
    unfold part
    rw [List.getElem?_append_left (by rw [List.length_take]; omega), List.getElem?_take, if_pos (by omega), hp]
  · rw [if_neg hy]
    unfold part zeros
    by_cases hyx : y < x
    · rw [List.getElem?_append_left (by rw [List.length_take]; omega), List.getElem?_append_left (by rw [List.length_take]; omega), List.getElem?_take, List.getElem?_take, if_pos hyx, if_pos (by omega)]
    · rw [List.getElem?_append_right (by rw [List.length_take]; omega), List.getElem?_append_right (by rw [List.length_take]; omega), List.length_take, List.length_take, List.getElem?_replicate, List.getElem?_replicate]
      by_cases hy64 : y < 64
      · rw [if_pos (by omega), if_pos (by omega)]
      · rw [if_neg (by omega), if_neg (by omega)]
theorem cel_set (s : List UInt8) (x : Nat) (b : UInt8) : (cel s).toArray.setIfInBounds x (byt b) = (cel (s.set x b)).toArray := by
  simp [cel, List.map_set]
theorem range_next (xs : List UInt8) (j : Nat) : (List.range j).map (sec xs) ++ [sec xs j] = (List.range (j + 1)).map (sec xs) := by
  rw [List.range_succ, List.map_append]
  rfl
theorem index_at (w : World) (b off n c p : Nat) (z : Int) (hz : z = (p : Int)) (h : p < n) : (Instr.indexAt 24 (.slice (some ⟨b, off, none⟩) n c) (.int .i64 z)).run Try.prog w = .ok (.pointer (some ⟨b, off + p, none⟩)) w := by
  subst hz
  have h1 : ¬ n ≤ p := by omega
  simp [Instr.indexAt, asIntOf, run_underlying Try.underlying24, Result.andThen, Addr.add_mid, h1]
set_option maxHeartbeats 2000000 in
theorem rpack_any (w : World) (n c : Nat) (A : Option Addr) (xs : List UInt8) (h : Byts w w.heap.size A n xs) (hn : n ≤ 1048576) : Calls Try.prog 15 #[.slice A n c] w (Packed w (pack xs)) := by
  have hK : need n ≤ 16384 := by unfold need; omega
  have hL := h.len
  have HN := Lib.hid (fun u => rneed_any (n : Int) u (by unfold in64; omega))
  rw [needI_nat] at HN
  have HX := Lib.hid h
  have HPL : Hid (∀ j, (piece xs j).length = min 64 (n - 64 * j)) := Lib.hid (fun j => by rw [piece_length, hL])
  have HPK : Hid (pack xs = (List.range (need n)).map (sec xs)) := Lib.hid (by unfold pack; rw [hL])
  have HKN : Hid (∀ j, j < need n → 64 * j < n) := Lib.hid (fun j hj => by unfold need at hj; omega)
  have hmk : ∀ v : World, (Instr.makeSlice 24 (.int .i64 64) (.int .i64 64)).run Try.prog v = .ok (.slice (some ⟨v.heap.size, 0, none⟩) 64 64) (v.alloc (.cells (cel (zeros 64)).toArray 5)) := fun v => run_make_bytes v 64 (by omega)
  rw [HPK.out]
  clear h hL HPK
  generalize need n = K at *
  have hn1 : (n : Int) ≤ 1048576 := by omega
  go_enter Try.func15, Try.ntmps15
  go_wp2_with fail
  go_loopw [3, 4] (fun v i wr => ∃ j : Nat, j ≤ K ∧ i = .int .i64 j ∧ ∃ A' c', v = .slice A' j c' ∧ Pk wr w.heap.size (.slice A' j c') j ((List.range j).map (sec xs)) ∧ Below w.heap.size w wr) (fun _ i _ => K - (intOf i).toNat)
  case atStart => exact ⟨0, by omega, rfl, none, 0, rfl, Pk.nil, Below.refl _ _⟩
  case round =>
    obtain ⟨j, hj, rfl, A', c', rfl, hpk, hbel⟩ := hrel
    have HP := Lib.hid hpk
    have HB := Lib.hid hbel
    clear hpk hbel
    by_cases hlt : j < K
    · obtain ⟨wo, rfl⟩ : ∃ wo : World, wo = wr := ⟨_, rfl⟩
      have hjn := HKN.out j hlt
      have hpl := HPL.out j
      have hL64 : (piece xs j).length ≤ 64 ∧ 64 * j + (piece xs j).length ≤ n ∧ ((piece xs j).length = 64 ∨ ((piece xs j).length < 64 ∧ n ≤ 64 * j + (piece xs j).length)) := by omega
      have HPS := Lib.hid (part_set xs j)
      have HPF := Lib.hid (part_full xs j)
      have HST : Hid ((wo.alloc (.cells (cel (zeros 64)).toArray 5)).heap[wo.heap.size]? = some (.cells (cel (part xs j 0)).toArray 5 (0, 0))) := Lib.hid (by
        have e : part xs j 0 = zeros 64 := by simp [part]
        rw [e]
        exact heap_alloc_new wo _)
      have HPLN := Lib.hid (part_length xs j)
      clear hpl
      generalize (piece xs j).length = L at *
      obtain ⟨hL1, hL2, hL3⟩ := hL64
      have HL3 := Lib.hid hL3
      clear hL3
      go_wp2_with fail
      refine (HN.out _).mono ?_
      rintro e w1 ⟨rfl, rfl⟩
      go_wp2_with fail
      clear hmk
      go_loopw [6] (fun k wi => ∃ x : Nat, x ≤ L ∧ k = .int .i64 x ∧ wi.heap[wo.heap.size]? = some (.cells (cel (part xs j x)).toArray 5 (0, 0)) ∧ Below wo.heap.size wo wi) (fun k _ => 64 - (intOf k).toNat)
      case atStart => exact ⟨0, Nat.zero_le _, rfl, HST.out, alloc_below wo _⟩
      case round =>
        obtain ⟨x, hx, rfl, hg, hb⟩ := hrel
        have HG := Lib.hid hg
        have HBI := Lib.hid hb
        clear hg hb HST
        by_cases hxl : x < L
        · obtain ⟨b, off, rfl, hbw, hc⟩ := HX.out.at_ (by omega)
          have hcx : wr.cell? ⟨b, off + (64 * j + x), none⟩ = some (byt (xs.getD (64 * j + x) 0)) := ((HB.out.trans (HBI.out.mono HB.out.size)).cell (p := ⟨b, off + (64 * j + x), none⟩) hbw).trans (hc _ (by omega))
          have hix : ∀ v : World, (Instr.indexAt 24 (.slice (some ⟨b, off, none⟩) n c) (.int .i64 ((j : Int) * 64 + x))).run Try.prog v = .ok (.pointer (some ⟨b, off + (64 * j + x), none⟩)) v := fun v => index_at v b off n c (64 * j + x) _ (by omega) (by omega)
          have hgx : wr.cell? ⟨wo.heap.size, x, none⟩ = some (byt ((part xs j x).getD x 0)) := (cell_at HG.out x).trans (by rw [← cel_get _ x (by have := HPLN.out x hx; omega)]; simp)
          have hfx := free_at HG.out x
          have HS := Lib.hid (HPS.out x hxl)
          have hlt64 : (x : Int) < 64 := by omega
          have hltn : (j : Int) * 64 + x < n := by omega
          unfold byt at hcx hgx
          clear hc
          generalize xs.getD (64 * j + x) 0 = y at *
          generalize (part xs j x).getD x 0 = z at *
          go_wp2_with fail
          go_roundw
          case rel => exact ⟨x + 1, by omega, by go_num, by
            have h := set_at HG.out x (byt y)
            rw [cel_set, HS.out] at h
            exact h, HBI.out.setCell (p := ⟨wo.heap.size, x, none⟩) (Nat.le_refl _) _⟩
          case measure => simp [intOf]; omega
        · obtain rfl : x = L := by omega
          have hsc : Sct wr w.heap.size (.slice (some ⟨wo.heap.size, 0, none⟩) 64 64) (sec xs j) := ⟨wo.heap.size, rfl, by
            have h := HG.out
            rwa [HPF.out] at h, HB.out.size, sec_length xs j⟩
          have HSC := Lib.hid hsc
          have HPW := Lib.hid (HP.out.below HBI.out)
          have HBW := Lib.hid (HB.out.trans (HBI.out.mono HB.out.size))
          have HRN := Lib.hid (range_next xs j)
          clear hsc
          rcases HL3.out with h64 | ⟨h64, hnl⟩
          · subst h64
            go_wp2_with (at_builtin; (refine wpList_app34 _ rfl (.tmp 41) (.tmp 43) rfl w.heap.size (.slice A' j c') j _ rfl (HPW.out.alloc _) (.slice (some ⟨wo.heap.size, 0, none⟩) 64 64) (sec xs j) (HSC.out.keep fun g cs hg => (Below.heap_alloc _ _ _ (lt_of_heap hg)).trans hg) ⟨wr.heap.size, 0, none⟩ 1 rfl (by rw [World.cell?_alloc_mark]; rfl) (by omega) (by have := HBW.out.size; simp; omega) ?_); intro A1 c1 w2 hp2 hb2; have HP2 := Lib.hid hp2; have HB2 := Lib.hid hb2; clear hp2 hb2)
            go_roundw
            case rel => exact ⟨j + 1, by omega, by go_num, A1, c1, rfl, by rw [← HRN.out]; exact HP2.out, (HBW.out.alloc HBW.out.size _).trans HB2.out⟩
            case measure => simp [intOf]; omega
          · have hx64 : (x : Int) < 64 := by omega
            have hnl2 : (n : Int) ≤ (j : Int) * 64 + x := by omega
            go_wp2_with (at_builtin; (refine wpList_app34 _ rfl (.tmp 41) (.tmp 43) rfl w.heap.size (.slice A' j c') j _ rfl (HPW.out.alloc _) (.slice (some ⟨wo.heap.size, 0, none⟩) 64 64) (sec xs j) (HSC.out.keep fun g cs hg => (Below.heap_alloc _ _ _ (lt_of_heap hg)).trans hg) ⟨wr.heap.size, 0, none⟩ 1 rfl (by rw [World.cell?_alloc_mark]; rfl) (by omega) (by have := HBW.out.size; simp; omega) ?_); intro A1 c1 w2 hp2 hb2; have HP2 := Lib.hid hp2; have HB2 := Lib.hid hb2; clear hp2 hb2)
            go_roundw
            case rel => exact ⟨j + 1, by omega, by go_num, A1, c1, rfl, by rw [← HRN.out]; exact HP2.out, (HBW.out.alloc HBW.out.size _).trans HB2.out⟩
            case measure => simp [intOf]; omega
    · obtain rfl : j = K := by omega
      go_wp2_with fail
      refine (HN.out _).mono ?_
      rintro e w1 ⟨rfl, rfl⟩
      go_wp2_with fail
      go_ret
      exact ⟨A', j, c', rfl, HP.out, HB.out⟩
end Go.Proofs.Ytpbojepliddflaa.Frm
