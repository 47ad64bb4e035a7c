/-
  What the program's Unpack answers: the bytes of sectors. Conditions: the slices read as these bytes.
-/
import Derived.Test.YtpbojepliddflaaFCut
import Derived.Test.YtpbojepliddflaaFHeld
import Derived.Deep.DeepCutAuto
namespace Go.Proofs.Ytpbojepliddflaa.Frm
open Go.RowKit Codec FrameM Cod
set_option maxRecDepth 100000
/-- Bytes, and whether they are some. -/
def Told (w : World) (xs : List UInt8) (ok : Bool) (e : Ending) (w' : World) : Prop :=
  ∃ A m c, e = .returned (.tuple #[.slice A m c, .bool ok]) ∧ Byts w' w'.heap.size A m xs ∧ Below w.heap.size w w'
theorem told_no (w w' : World) (xs : List UInt8) (hx : xs = []) (h : Below w.heap.size w w') : Told w xs false (.returned (.tuple #[.slice none 0 0, .bool false])) w' := by
  subst hx
  exact ⟨none, 0, 0, rfl, Byts.none_, h⟩
/-- Where the number is wrong. -/
def outer (ls : List (List UInt8)) (n : Int) : Prop := 0 ≤ n ∧ n ≤ 1048576 ∧ (ls.length : Int) = needI n
theorem unpack_outer {ls : List (List UInt8)} {n : Int} (h : ¬ outer ls n) : unpackB ls n = false := by
  unfold outer at h
  simp [unpackB, h]
set_option maxHeartbeats 1000000 in
theorem unpack_wrong (w : World) (k c : Nat) (A : Option Addr) (ls : List (List UInt8)) (n : Int) (hn : in64 n) (hl : ls.length = k) (h : ¬ outer ls n) : Calls Try.prog 11 #[.slice A k c, .int .i64 n] w (Told w (unpack ls n) (unpackB ls n)) := by
  have hu := unpack_outer h
  have HU := Lib.hid (unpack_no hu)
  rw [hu, HU.out]
  clear hu HU
  have HN := Lib.hid (need_any n w hn)
  obtain ⟨h1, h2⟩ := hn
  have hc : n < 0 ∨ (0 ≤ n ∧ 1048576 < n) ∨ (0 ≤ n ∧ n ≤ 1048576 ∧ ((k : Int) != needI n) = true) := by
    unfold outer at h
    rw [hl] at h
    by_cases a : n < 0
    · exact .inl a
    · by_cases b : 1048576 < n
      · exact .inr (.inl ⟨by omega, b⟩)
      · refine .inr (.inr ⟨by omega, by omega, ?_⟩)
        rw [bne_iff_ne]
        exact fun e => h ⟨by omega, by omega, e⟩
  clear h
  generalize needI n = q at *
  rcases hc with a | ⟨a, b⟩ | ⟨a, b, d⟩
  · go_enter Try.func11, Try.ntmps11
    go_wp2_with fail
    go_ret2
    exact told_no w w [] rfl (Below.refl _ _)
  · go_enter Try.func11, Try.ntmps11
    go_wp2_with fail
    go_ret2
    exact told_no w w [] rfl (Below.refl _ _)
  · go_enter Try.func11, Try.ntmps11
    go_wp2_with fail
    refine HN.out.mono ?_
    rintro e w1 ⟨rfl, rfl⟩
    go_wp2_with fail
    go_ret2
    exact told_no w w [] rfl (Below.refl _ _)
/-- What stands in the bytes when j sectors are copied. -/
def flat (ls : List (List UInt8)) (k j : Nat) : List UInt8 := (ls.take j).flatten ++ zeros (64 * k - 64 * j)
theorem flat_len (ls : List (List UInt8)) (j : Nat) (hj : j ≤ ls.length) (h : ∀ x, x < j → (ls.getD x []).length = 64) : (ls.take j).flatten.length = 64 * j := by
  induction j with
  | zero => simp
  | succ j ih =>
    rw [flat_step ls j (by omega), List.length_append, ih (by omega) (fun x hx => h x (by omega)), h j (by omega)]
    omega
theorem flat_length (ls : List (List UInt8)) (k j : Nat) (hk : ls.length = k) (hj : j ≤ k) (h : ∀ x, x < j → (ls.getD x []).length = 64) : (flat ls k j).length = 64 * k := by
  rw [flat, List.length_append, flat_len ls j (by omega) h, zeros_length]
  omega
theorem flat_next (ls : List (List UInt8)) (k j : Nat) (hk : ls.length = k) (hj : j < k) (h : ∀ x, x < j → (ls.getD x []).length = 64) (hs : (ls.getD j []).length = 64) : splice (flat ls k j) (64 * j) (ls.getD j []) = flat ls k (j + 1) := by
  have hl := flat_len ls j (by omega) h
  unfold splice flat zeros
  rw [flat_step ls j (by omega), List.take_left' hl, List.drop_append, hl, hs, List.drop_eq_nil_of_le (by omega), List.nil_append, List.drop_replicate, List.append_assoc,
    show 64 * k - 64 * j - (64 * j + 64 - 64 * j) = 64 * k - 64 * (j + 1) by omega]
theorem flat_all (ls : List (List UInt8)) (k : Nat) (hk : ls.length = k) : flat ls k k = ls.flatten := by
  rw [flat, List.take_of_length_le (by omega), Nat.sub_self]
  simp [zeros]
theorem all_zero (l : List UInt8) (r : Nat) (hr : l.length = r) : decide (l = zeros r) = l.all (fun x => decide (x = 0)) := by
  rw [Bool.eq_iff_iff]
  simp only [decide_eq_true_eq, List.all_eq_true]
  refine ⟨fun h x hx => ?_, fun h => ?_⟩
  · rw [h] at hx
    exact (List.mem_replicate.1 hx).2
  · exact List.eq_replicate_iff.2 ⟨hr, h⟩
theorem unpack_some {ls : List (List UInt8)} {k N : Nat} (ho : outer ls (N : Int)) (hk : ls.length = k) (h : ∀ x, x < k → (ls.getD x []).length = 64) (r : Nat) (hr : (ls.flatten.drop N).length = r) : unpackB ls (N : Int) = decide (ls.flatten.drop N = zeros r) := by
  have ha : ls.all (fun s => decide (s.length = 64)) = true := by
    simp only [List.all_eq_true, decide_eq_true_eq]
    intro s hs
    obtain ⟨x, hx, rfl⟩ := List.getElem_of_mem hs
    rw [← getD_of (d := []) hx]
    exact h x (by omega)
  rw [all_zero _ r hr]
  unfold outer at ho
  simp [unpackB, ho, ha]
theorem unpack_short {ls : List (List UInt8)} {n : Int} {j : Nat} (hj : j < ls.length) (h : (ls.getD j []).length ≠ 64) : unpackB ls n = false := by
  have ha : ls.all (fun s => decide (s.length = 64)) = false := by
    rw [List.all_eq_false]
    refine ⟨ls[j], List.getElem_mem hj, ?_⟩
    rw [getD_of hj] at h
    simpa using h
  simp [unpackB, ha]
set_option maxHeartbeats 2000000 in
theorem unpack_right (w : World) (k c : Nat) (A : Option Addr) (ls : List (List UInt8)) (N : Nat) (hr : Rows w w.heap.size A k ls) (ho : outer ls (N : Int)) : Calls Try.prog 11 #[.slice A k c, .int .i64 N] w (Told w (unpack ls N) (unpackB ls N)) := by
  have hkl := hr.len
  have hN : N ≤ 1048576 ∧ need N = k := by
    obtain ⟨_, h2, h3⟩ := ho
    rw [needI_nat, hkl] at h3
    exact ⟨by omega, by omega⟩
  have hNK : N ≤ 64 * k ∧ k ≤ 16384 := by unfold need at hN; omega
  have HN := Lib.hid (need_any (N : Int) w (by unfold in64; omega))
  rw [needI_nat, hN.2] at HN
  have hN1 : (0 : Int) ≤ N := Int.natCast_nonneg _
  have hN2 : (N : Int) ≤ 1048576 := by omega
  have HO := Lib.hid ho
  have HR := Lib.hid hr
  have HKL := Lib.hid hkl
  have HNK := Lib.hid hNK.1
  have hk16 := hNK.2
  obtain ⟨K, hK⟩ : ∃ K, 64 * k = K := ⟨_, rfl⟩
  have HK := Lib.hid hK
  have hmk : ∀ v : World, (Instr.makeSlice 24 (.int .i64 ((k : Int) * 64)) (.int .i64 ((k : Int) * 64))).run Try.prog v = .ok (.slice (some ⟨v.heap.size, 0, none⟩) K K) (v.alloc (.cells (cel (zeros K)).toArray 5)) := fun v => by
    have := run_make_bytes v K (by omega)
    rwa [show ((K : Nat) : Int) = (k : Int) * 64 by omega] at this
  have HST : Hid ((w.alloc (.cells (cel (zeros K)).toArray 5)).heap[w.heap.size]? = some (.cells (cel (flat ls k 0)).toArray 5 (0, 0))) := Lib.hid (by
    have e : flat ls k 0 = zeros K := by unfold flat; simp [hK]
    rw [e]
    exact heap_alloc_new w _)
  clear hr ho hkl hN hNK hK
  go_enter Try.func11, Try.ntmps11
  go_wp2_with fail
  refine HN.out.mono ?_
  rintro e w1 ⟨rfl, rfl⟩
  go_wp2_with fail
  go_loopw [29] (fun i wr => ∃ j : Nat, j ≤ k ∧ i = .int .i64 j ∧ (∀ x, x < j → (ls.getD x []).length = 64) ∧ wr.heap[w.heap.size]? = some (.cells (cel (flat ls k j)).toArray 5 (0, 0)) ∧ Below w.heap.size w wr) (fun i _ => k - (intOf i).toNat)
  case atStart => exact ⟨0, by omega, rfl, fun x hx => absurd hx (by omega), HST.out, alloc_below w _⟩
  case round =>
    obtain ⟨j, hj, rfl, hall, hg, hbel⟩ := hrel
    have HA := Lib.hid hall
    have HG := Lib.hid hg
    have HB := Lib.hid hbel
    clear hall hg hbel HST hmk
    by_cases hlt : j < k
    · obtain ⟨b, off, rfl, hb, hc⟩ := HR.out.at_ (by omega)
      obtain ⟨Aj, cj, h1, h2, h3, h4⟩ := hc j hlt
      have hcell : wr.cell? ⟨b, off + j, none⟩ = some (.slice Aj (ls.getD j []).length cj) := (HB.out.cell (p := ⟨b, off + j, none⟩) hb).trans h1
      have HY := Lib.hid (h2.below HB.out)
      have h4' : cj ≤ 9223372036854775807 := h4
      have HJ : Hid (j < ls.length) := Lib.hid (by rw [HKL.out]; exact hlt)
      clear h1 h2 hc h4
      by_cases hs : (ls.getD j []).length = 64
      · have HS := Lib.hid (flat_next ls k j HKL.out hlt HA.out hs)
        have HFL := Lib.hid (flat_length ls k j HKL.out hj HA.out)
        have HS64 := Lib.hid hs
        have HSJ : Hid (∀ x, x < j + 1 → (ls.getD x []).length = 64) := Lib.hid (fun x hx => by
          by_cases hxj : x = j
          · rw [hxj]
            exact hs
          · exact HA.out x (by omega))
        generalize ls.getD j [] = ys at *
        rw [HS64.out] at hcell HY h3
        have hjK : 64 * j ≤ K := by have := HK.out; omega
        have hs1 : ∀ v : World, (Instr.slice 24 (.slice (some ⟨w.heap.size, 0, none⟩) K K) (some (.int .i64 ((j : Int) * 64))) none none).run Try.prog v = .ok (.slice (cutAt (some ⟨w.heap.size, 0, none⟩) (64 * j) K) (K - 64 * j) (K - 64 * j)) v := fun v => by
          have := cut_l v (some ⟨w.heap.size, 0, none⟩) K K (64 * j) hjK
          rwa [show ((64 * j : Nat) : Int) = (j : Int) * 64 by omega] at this
        have HD : Hid (cutAt (some ⟨w.heap.size, 0, none⟩) (64 * j) K = some ⟨w.heap.size, 64 * j, none⟩) := Lib.hid (by
          unfold cutAt
          rw [if_neg (by have := HK.out; omega), Option.map_some, plain_add, Nat.zero_add])
        have hfit : 64 ≤ K - 64 * j := by have := HK.out; omega
        clear hs hjK
        rw [HD.out] at hs1
        generalize K - 64 * j = R at *
        go_wp2_with (with_reducible refine wpList_copy_to _ rfl (.tmp 40) (.tmp 41) rfl w.heap.size (64 * j) (flat ls k j) ys _ Aj R R 64 cj w.heap.size rfl rfl HY.out hfit (fun _ => rfl) HG.out (by have := HFL.out; omega) w w.heap.size HB.out (Nat.le_refl _) ?_; intro w1 hg1 hb1)
        go_roundw
        case rel => exact ⟨j + 1, by omega, by go_num, HSJ.out, by rw [← HS.out]; exact hg1.out, hb1.out⟩
        case measure => simp [intOf]; omega
      · have HU := Lib.hid (unpack_short (n := (N : Int)) HJ.out hs)
        have HU2 := Lib.hid (unpack_no HU.out)
        generalize (ls.getD j []).length = m at *
        have hs' : ((m : Int) != 64) = true := by simp; omega
        clear hs
        go_wp2_with fail
        go_ret2
        rw [HU.out]
        exact told_no w wr _ HU2.out HB.out
    · obtain rfl : j = k := by omega
      have hfk := flat_all ls j HKL.out
      have hfl := flat_length ls j j HKL.out (Nat.le_refl _) HA.out
      rw [hfk] at hfl
      have HG1 : Hid (wr.heap[w.heap.size]? = some (.cells (cel ls.flatten).toArray 5 (0, 0))) := Lib.hid (by rw [← hfk]; exact HG.out)
      have hKn : K = 64 * j := HK.out.symm
      have hnk := HNK.out
      obtain ⟨r, hr⟩ : ∃ r, K - N = r := ⟨_, rfl⟩
      have hdl : (ls.flatten.drop N).length = r := by rw [List.length_drop, hfl]; omega
      have HU := Lib.hid (unpack_some HO.out HKL.out HA.out r hdl)
      have HBY : Hid (Byts wr (w.heap.size + 1) (some ⟨w.heap.size, 0, none⟩) K ls.flatten) := Lib.hid ⟨by rw [hfl]; exact HK.out, fun _ => ⟨w.heap.size, 0, rfl, by omega, fun x hx => by
        rw [cell_at HG1.out, Nat.zero_add, ← cel_get ls.flatten x (by omega)]
        simp⟩⟩
      have HBC := Lib.hid (Byts.cut HBY.out N K K (by omega) (Nat.le_refl _) (Nat.le_refl _))
      have hs1 : ∀ v : World, (Instr.slice 24 (.slice (some ⟨w.heap.size, 0, none⟩) K K) (some (.int .i64 N)) none none).run Try.prog v = .ok (.slice (cutAt (some ⟨w.heap.size, 0, none⟩) N K) r r) v := fun v => by
        have := cut_l v (some ⟨w.heap.size, 0, none⟩) K K N (by omega)
        rwa [hr] at this
      have hs2 : ∀ v : World, (Instr.slice 24 (.slice (some ⟨w.heap.size, 0, none⟩) K K) none (some (.int .i64 N)) (some (.int .i64 N))).run Try.prog v = .ok (.slice (some ⟨w.heap.size, 0, none⟩) N N) v := fun v => cut_hm v _ K K N N (Nat.le_refl _) (by omega)
      have hmk := fun v => run_make_bytes v r (by omega)
      rw [hr, List.take_of_length_le (by omega)] at HBC
      have HZ : Hid (Byts (wr.alloc (.cells (cel (zeros r)).toArray 5)) (wr.heap.size + 1) (some ⟨wr.heap.size, 0, none⟩) r (zeros r)) := Lib.hid (by
        have h := (own_lit wr wr.heap.size (zeros r) (cel (zeros r)).toArray r (by simp) (zeros_length r) (Nat.le_refl _) (by omega)).byts
        rwa [World.size_alloc] at h)
      have HBL := Lib.hid (HB.out.alloc HB.out.size (.cells (cel (zeros r)).toArray 5))
      have hlt0 := lt_of_heap HG1.out
      have HEQ := Lib.hid (equal_any (wr.alloc (.cells (cel (zeros r)).toArray 5)) _ _ r r r r _ _ _ _ (HBC.out.alloc (by omega) _) HZ.out)
      have HTK := Lib.hid ((HBY.out.take N (by omega)).alloc (by omega) (.cells (cel (zeros r)).toArray 5))
      generalize cutAt (some ⟨w.heap.size, 0, none⟩) N K = A2 at *
      clear hfk hfl hdl hr HBC HZ HBY hKn hnk
      go_wp2_with fail
      refine HEQ.out.mono ?_
      rintro e w2 ⟨rfl, rfl⟩
      rw [← HU.out]
      rcases Bool.eq_false_or_eq_true (unpackB ls (N : Int)) with hu | hu
      · have HV := Lib.hid (unpack_yes hu)
        have HUU := Lib.hid hu
        rw [hu]
        clear hu
        go_wp2_with fail
        go_ret2
        rw [HV.out, HUU.out]
        exact ⟨_, N, N, rfl, HTK.out.more (by simp; omega), HBL.out⟩
      · have HV := Lib.hid (unpack_no hu)
        have HUU := Lib.hid hu
        rw [hu]
        clear hu
        go_wp2_with fail
        go_ret2
        rw [HUU.out]
        exact told_no w _ _ HV.out HBL.out
theorem unpack_any (w : World) (k c : Nat) (A : Option Addr) (ls : List (List UInt8)) (n : Int) (hn : in64 n) (hr : Rows w w.heap.size A k ls) : Calls Try.prog 11 #[.slice A k c, .int .i64 n] w (Told w (unpack ls n) (unpackB ls n)) := by
  by_cases ho : outer ls n
  · obtain ⟨N, rfl⟩ : ∃ N : Nat, n = N := ⟨n.toNat, by have := ho.1; omega⟩
    exact unpack_right w k c A ls N hr ho
  · exact unpack_wrong w k c A ls n hn hr.len ho
end Go.Proofs.Ytpbojepliddflaa.Frm
