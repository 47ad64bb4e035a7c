/-
  The longest sign; the reader's sign. Conditions: the table of signs lies as the program's text lays it; sizes.
-/
import Derived.Test.YtjgkfdhfffbccaaDoorLText
import Derived.Deep.MidRow
import Derived.ChangeKeysEq
namespace Go.Proofs.YtjgkfdhfffbccaaDoor.Lex
open Go.RowKit
open Num (EndsW)
set_option maxRecDepth 100000
theorem prefix_any (l p : List UInt8) (w : World) : Calls Tryd.prog 34 #[.string (bs l), .string (bs p)] w (EndsW (.bool (p.isPrefixOf l)) w) := by
  refine (Tryd.strings_HasPrefix (bs l) (bs p) w).mono ?_
  rintro e w' ⟨rfl, rfl⟩
  exact ⟨by rw [bs_data, bs_data]; rfl, rfl⟩
theorem fits_any (w : World) (b g : Nat) (l p : List UInt8) (hb : w.cell? ⟨b, 0, none⟩ = some (.pointer (some ⟨g, 0, none⟩))) (hg : w.cell? ⟨g, 0, none⟩ = some (.string (bs l))) :
    Calls Tryd.prog 47 #[.string (bs p), .pointer (some ⟨b, 0, none⟩)] w (EndsW (.bool (p.isPrefixOf l)) w) := by
  have C := Lib.hid (prefix_any l p w)
  go_enter Tryd.func47, Tryd.ntmps47
  go_wp2_with fail
  refine C.out.mono ?_
  rintro e w' ⟨rfl, rfl⟩
  go_wp2_with fail
  go_ret
  exact ⟨rfl, rfl⟩
/-- The table of signs, cell by cell. -/
def Signs (w : World) : Prop := ∀ i, i < 23 → w.cell? ⟨0, i, none⟩ = some (str (signsL.getD i []))
theorem Signs.below {w w' : World} {n : Nat} (h : Signs w) (h0 : 0 < n) (hb : Below n w w') : Signs w' := fun i hi => (World.cell?_of_block (w := w) (hb.block 0 h0)).trans (h i hi)
theorem Signs.range {w : World} (h : Signs w) : w.rangeAt 0 0 (signsL.map str) := fun j v hv => by
  obtain ⟨s, hs, rfl⟩ : ∃ s, signsL[j]? = some s ∧ str s = v := by simpa using hv
  have hj : j < 23 := (List.getElem?_eq_some_iff.1 hs).1
  rw [Nat.zero_add, h j hj, List.getD_eq_getElem?_getD, hs]
  rfl
theorem size_signs : (Tryd.prog.info? 64).map (·.size) = some 23 := by kernel_rfl
theorem size_str : (Tryd.prog.info? 9).map (·.size) = some 1 := by kernel_rfl
def sgn (k : Nat) : List UInt8 := signsL.getD k []
theorem index_sign (k : Nat) (hk : k < 23) (w : World) : (Instr.index 64 (.agg (signsL.map str).toArray) (.int .i64 k)).run Tryd.prog w = .ok (.string (bs (sgn k))) w := by
  have hq : (signsL.map str)[k]? = some (str (sgn k)) := by
    rw [List.getElem?_map, List.getElem?_eq_getElem (by exact hk)]
    rw [Option.map_some]
    unfold sgn
    rw [List.getD_eq_getElem?_getD, List.getElem?_eq_getElem (show k < signsL.length from hk)]
    rfl
  obtain ⟨i0, hi0, hz0⟩ := Option.map_eq_some_iff.1 size_str
  have h1 : (0 : Int) ≤ k ∧ (k : Int) < 23 := by omega
  simp [Instr.index, asIntOf, run_underlying Tryd.underlying64, h1, sizeOf, typeInfo, hi0, hz0]
  rw [if_pos hk]
  exact run_part_plain w (by kernel_rfl) (by rw [List.getElem?_toArray]; exact hq)
def bestK (l : List UInt8) (k : Nat) : List UInt8 := (signsL.take k).foldl (better l) []
theorem best_succ (l : List UInt8) (k : Nat) (hk : k < 23) : bestK l (k + 1) = better l (bestK l k) (sgn k) := by
  have hk' : k < signsL.length := hk
  unfold bestK sgn
  rw [List.take_succ_eq_append_getElem hk', List.foldl_append, List.getD_eq_getElem?_getD, List.getElem?_eq_getElem hk']
  rfl
theorem best_end (l : List UInt8) : bestK l 23 = longest l := rfl
set_option maxHeartbeats 4000000 in
theorem longest_any (w : World) (b g : Nat) (l : List UInt8) (hs : Signs w) (hb : w.cell? ⟨b, 0, none⟩ = some (.pointer (some ⟨g, 0, none⟩))) (hg : w.cell? ⟨g, 0, none⟩ = some (.string (bs l))) :
    Calls Tryd.prog 46 #[.func (.func 47) #[] #[.pointer (some ⟨b, 0, none⟩)]] w (EndsW (str (longest l)) w) := by
  have CF := fun p => Lib.hid (fits_any w b g l p hb hg)
  have HR := Lib.hid hs.range
  have HI := Lib.hid (fun k (hk : k < 23) => index_sign k hk w)
  have hsz : (signsL.map str).length = 23 := rfl
  generalize signsL.map str = SV at *
  have HSZ := Lib.hid hsz
  clear hb hg hs hsz
  unfold str
  go_enter Tryd.func46, Tryd.ntmps46
  go_wp2_with (with_reducible refine wpList_load_mid rfl 64 (.global 0) rfl 0 0 rfl SV _ HR.out Tryd.underlying64 rfl (by rw [HSZ.out]; exact size_signs) ?_)
  go_loop [3, 7] (fun B t => ∃ k : Nat, k ≤ 23 ∧ t = .int .i64 k ∧ B = .string (bs (bestK l k))) (fun _ t => 23 - (intOf t).toNat)
  case atStart => exact ⟨0, by omega, rfl, rfl⟩
  case round =>
    obtain ⟨k, hk, rfl, rfl⟩ := hrel
    by_cases hlt : k < 23
    · have hix := HI.out k hlt
      have HS := Lib.hid (best_succ l k hlt)
      have HB := Lib.hid (show better l (bestK l k) (sgn k) = if (bestK l k).length < (sgn k).length ∧ (sgn k).isPrefixOf l = true then sgn k else bestK l k from rfl)
      have C := CF (sgn k)
      have z1 := bs_size (bestK l k)
      have z2 := bs_size (sgn k)
      by_cases hle : (bestK l k).length < (sgn k).length
      · have hd : decide ((bs (bestK l k)).size < (bs (sgn k)).size) = true := by rw [bs_size, bs_size]; simpa using hle
        rcases Bool.eq_false_or_eq_true ((sgn k).isPrefixOf l) with hp | hp
        · rw [hp] at C
          have HE : Hid (bestK l (k + 1) = sgn k) := Lib.hid (by rw [HS.out, HB.out, if_pos ⟨hle, hp⟩])
          clear hp HB HS z1 z2 hle
          generalize bestK l k = B at *
          generalize sgn k = S at *
          go_wp2_with (go_at_call 47; refine C.out.mono ?_; rintro e w' ⟨rfl, rfl⟩)
          go_round
          case rel => exact ⟨k + 1, by omega, by go_num, by rw [HE.out]⟩
          case measure => simp [intOf]; omega
        · rw [hp] at C
          have HE : Hid (bestK l (k + 1) = bestK l k) := Lib.hid (by rw [HS.out, HB.out, if_neg (by rw [hp]; simp)])
          clear hp HB HS z1 z2 hle
          generalize bestK l k = B at *
          generalize sgn k = S at *
          go_wp2_with (go_at_call 47; refine C.out.mono ?_; rintro e w' ⟨rfl, rfl⟩)
          go_round
          case rel => exact ⟨k + 1, by omega, by go_num, by rw [HE.out]⟩
          case measure => simp [intOf]; omega
      · have hd : decide ((bs (bestK l k)).size < (bs (sgn k)).size) = false := by rw [bs_size, bs_size]; simpa using hle
        have HE : Hid (bestK l (k + 1) = bestK l k) := Lib.hid (by rw [HS.out, HB.out, if_neg (fun h => hle h.1)])
        clear HB HS z1 z2 hle C
        generalize bestK l k = B at *
        generalize sgn k = S at *
        go_wp2_with fail
        go_round
        case rel => exact ⟨k + 1, by omega, by go_num, by rw [HE.out]⟩
        case measure => simp [intOf]; omega
    · obtain rfl : k = 23 := by omega
      have HE := Lib.hid (best_end l)
      clear hk hlt
      generalize bestK l 23 = B at *
      go_wp2_with fail
      go_ret
      exact ⟨by show Ending.returned (Value.string (bs B)) = _; rw [HE.out], rfl⟩
theorem longest_len (l : List UInt8) : (longest l).length ≤ 2 ∧ (longest l).length ≤ l.length := by
  rcases longest_mem l with h | ⟨h1, h2⟩
  · rw [h]; simp
  · exact ⟨(signs_len h1).2, (List.isPrefixOf_iff_prefix.1 h2).length_le⟩
theorem signS_no {l : List UInt8} {ws : List Wd} (h : longest l = []) : signS l ws = ⟨7, l, ws⟩ := by unfold signS; rw [if_pos h]
theorem signS_yes {l : List UInt8} {ws : List Wd} (h : longest l ≠ []) : signS l ws = ⟨0, l.drop (longest l).length, ws ++ [⟨5, longest l, 0⟩]⟩ := by unfold signS; rw [if_neg h]
set_option maxHeartbeats 4000000 in
theorem sign_any (w : World) (lo g : Nat) (l : List UInt8) (ws : List Wd) (v : Value) (h : Rd w lo g l ws v) (hS : Signs w) (h0 : 0 < lo) (hl : l.length ≤ 100000) (hw : ws.length ≤ 100000) (hlo : lo ≤ w.heap.size) :
    Calls Tryd.prog 39 #[.pointer (some ⟨g, 0, none⟩)] w (Told w lo g v (signS l ws)) := by
  have HLL := Lib.hid hl
  have HW := Lib.hid hw
  have HLO := Lib.hid hlo
  have HA : Hid (Below w.heap.size w (w.alloc (.cells #[.pointer (some ⟨g, 0, none⟩)] 47))) := Lib.hid ((Below.refl _ w).alloc (Nat.le_refl _) _)
  have HN := Lib.hid (heap_alloc_new w (.cells #[.pointer (some ⟨g, 0, none⟩)] 47 (0, 0)))
  have HR := Lib.hid (h.below HA.out)
  have HT := Lib.hid ((Turn.refl (mine g v) w).below HA.out)
  have HM : Hid (∀ k ∈ mine g v, k < w.heap.size) := Lib.hid (fun k hk => (h.lt k hk).2)
  have CL := Lib.hid (longest_any (w.alloc (.cells #[.pointer (some ⟨g, 0, none⟩)] 47)) w.heap.size g l (hS.below (by omega) HA.out) (cell_at HN.out 0) (cell_at HR.out.at_ 0))
  have HLN := Lib.hid (longest_len l)
  clear h hS h0 hl hw hlo HA
  by_cases he : longest l = []
  · rw [signS_no he]
    rw [he] at CL
    clear he
    go_enter Tryd.func39, Tryd.ntmps39
    go_wp2_with fail
    refine CL.out.mono ?_
    rintro e w' ⟨rfl, rfl⟩
    unfold str bs
    go_wp2_with fail
    go_ret
    exact ⟨rfl, v, HR.out, HT.out, fun _ hk => .inl hk⟩
  · rw [signS_yes he]
    have e1 := not_empty (bs (longest l)) (by rw [bs_size]; cases hq : longest l with | nil => exact absurd hq he | cons c r => simp)
    clear he
    generalize longest l = s at *
    have HSZ := Lib.hid (bs_size s)
    have CT := Lib.hid (take_any (w.alloc (.cells #[.pointer (some ⟨g, 0, none⟩)] 47)) lo g s.length l ws v HR.out HLN.out.2 (by have := HLL.out; omega))
    rw [← HSZ.out] at CT
    have y0 := cell_at HN.out 0
    go_enter Tryd.func39, Tryd.ntmps39
    go_wp2_with fail
    refine CL.out.mono ?_
    rintro e w' ⟨rfl, rfl⟩
    unfold str
    go_wp2_with fail
    refine CT.out.mono ?_
    intro e w2 hs
    have HK : Hid (w2.heap[w.heap.size]? = some (.cells #[.pointer (some ⟨g, 0, none⟩)] 47 (0, 0))) := Lib.hid (by
      obtain ⟨_, _, _, ht, _⟩ := hs
      exact (ht.block _ (lt_of_heap HN.out) (fun hm => by have := HM.out _ hm; omega)).trans HN.out)
    obtain ⟨rfl, v2, hs⟩ := Step.then_ HT.out (fun _ hk => .inl hk) hs
    have HS := Lib.hid hs
    have z0 := cell_at HK.out 0
    clear hs y0
    have CA := Lib.hid (add_any w2 lo g _ _ _ ⟨5, s, 0⟩ HS.out.1 (by have := HLN.out.1; show s.length ≤ 1000000; omega) (by have := HW.out; omega) (Nat.le_trans HLO.out HS.out.2.1.size))
    go_wp2_with fail
    refine CA.out.mono ?_
    intro e w3 hs
    obtain ⟨rfl, v3, hs⟩ := Step.then_ HS.out.2.1 HS.out.2.2 hs
    have HS3 := Lib.hid hs
    clear hs
    go_wp2_with fail
    go_ret
    exact ⟨rfl, v3, by rw [← HSZ.out]; exact HS3.out⟩
end Go.Proofs.YtjgkfdhfffbccaaDoor.Lex
