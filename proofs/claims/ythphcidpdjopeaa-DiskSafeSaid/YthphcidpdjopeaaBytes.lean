/-
  The bytes that the law writes: 32 of one, 32 of the next.
-/
import Derived.Test.YthphcidpdjopeaaCrash
namespace Go.Proofs.Ythphcidpdjopeaa
open Go.RowKit Go.Maps
def pat (b : UInt8) : List UInt8 := List.replicate 32 b ++ List.replicate 32 (b + 1)
theorem pat_length (b : UInt8) : (pat b).length = 64 := by simp [pat]
def fill (b : UInt8) (i : Nat) : List UInt8 := (List.range 64).map fun j => if j < i then b + UInt8.ofNat (j / 32) else 0
theorem fill_length (b : UInt8) (i : Nat) : (fill b i).length = 64 := by simp only [fill, List.length_map, List.length_range]
theorem fill_get (b : UInt8) (i j : Nat) (h : j < 64) : (fill b i)[j]? = some (if j < i then b + UInt8.ofNat (j / 32) else 0) := by
  simp only [fill, List.getElem?_map, List.getElem?_range h, Option.map_some]
theorem fill_all (b : UInt8) : fill b 64 = pat b := by
  apply List.ext_getElem?
  intro j
  by_cases h : j < 64
  · rw [fill_get b 64 j h, if_pos h]
    unfold pat
    by_cases h2 : j < 32
    · rw [List.getElem?_append_left (by simp; exact h2), List.getElem?_replicate, if_pos h2, Nat.div_eq_of_lt h2]
      simp
    · rw [List.getElem?_append_right (by simp; omega), List.length_replicate, List.getElem?_replicate, if_pos (by omega), show j / 32 = 1 by omega]
      rfl
  · rw [List.getElem?_eq_none (by rw [fill_length]; omega), List.getElem?_eq_none (by rw [pat_length]; omega)]
theorem fill_step (b : UInt8) (i : Nat) (h : i < 64) : (cel (fill b i)).toArray.setIfInBounds i (byt (b + UInt8.ofNat (i / 32))) = (cel (fill b (i + 1))).toArray := by
  apply Array.ext_getElem?
  intro j
  rw [Array.getElem?_setIfInBounds, List.size_toArray, cel_length, fill_length]
  simp only [List.getElem?_toArray, cel, List.getElem?_map]
  by_cases hj : j < 64
  · rw [fill_get b i j hj, fill_get b (i + 1) j hj]
    by_cases he : i = j
    · subst he
      simp [hj]
    · rw [if_neg he]
      by_cases h2 : j < i
      · simp [h2, show j < i + 1 by omega]
      · simp [h2, show ¬ j < i + 1 by omega]
  · rw [if_neg (by omega), List.getElem?_eq_none (by rw [fill_length]; omega), List.getElem?_eq_none (by rw [fill_length]; omega)]
theorem fill_none (b : UInt8) : fill b 0 = nul := by
  apply List.ext_getElem?
  intro j
  by_cases h : j < 64
  · rw [fill_get b 0 j h]
    simp only [nul, List.getElem?_replicate, h, if_true, Nat.not_lt_zero, if_false]
  · rw [List.getElem?_eq_none (by rw [fill_length]; omega), List.getElem?_eq_none (by rw [nul_length]; omega)]
theorem info5 : (Try.prog.info? 5).map (fun i => (i.zero, i.size, i.bytes)) = some (some (.int .u8 0), 1, 1) := by kernel_rfl
theorem run_make29 (w : World) : (Instr.makeSlice 29 (.int .i64 64) (.int .i64 64)).run Try.prog w = .ok (.slice (some ⟨w.heap.size, 0, none⟩) 64 64) (w.alloc (.cells (cel nul).toArray 5)) := by
  obtain ⟨i0, hi, hz0, hz1, hz2⟩ := info_parts info5
  have := run_make (P := Try.prog) w 29 5 i0 _ Try.underlying29 hi hz0 .i64 .i64 64 64 (by omega) (by omega) (by rw [hz2]; omega) (by omega)
  rw [this, hz1, show madeCells (Value.int .u8 0).cells ((64 : Int).toNat * 1) = (cel nul).toArray by kernel_rfl]
  rfl
/-- A new slice of 64 bytes. -/
def New64 (w : World) (xs : List UInt8) (e : Ending) (w' : World) : Prop :=
  ∃ k, e = .returned (.slice (some ⟨k, 0, none⟩) 64 64) ∧ w'.heap[k]? = some (.cells (cel xs).toArray 5 (0, 0)) ∧ w.heap.size ≤ k ∧ Below w.heap.size w w'
set_option maxHeartbeats 1000000 in
theorem bytes_64 (w : World) (b : UInt8) : Calls Try.prog 9 #[byt b, .int .i64 64] w (New64 w (pat b)) := by
  have hmk := run_make29 w
  unfold byt
  have hb0 : (0 : Int) ≤ b.toNat := by omega
  have hb1 : (b.toNat : Int) < 256 := by have := b.toNat_lt; omega
  have h127 : bits .and .i64 64 127 = 64 := by decide
  go_enter Try.func9, Try.ntmps9
  go_wp2
  go_loopw [6] (fun p wr => ∃ i : Nat, i ≤ 64 ∧ p = .int .i64 i ∧ wr.heap[w.heap.size]? = some (.cells (cel (fill b i)).toArray 5 (0, 0)) ∧ Below w.heap.size w wr) (fun p _ => 64 - (Go.RowKit.intOf p).toNat)
  case atStart => exact ⟨0, by omega, rfl, by rw [fill_none]; exact heap_alloc_last w _, (Below.refl _ w).alloc (Nat.le_refl _) _⟩
  case round =>
    obtain ⟨i, hi, rfl, hh, hbel⟩ := hrel
    obtain ⟨wo, rfl⟩ : ∃ wo : World, wo = wr := ⟨_, rfl⟩
    by_cases h64 : i < 64
    · have hc : wo.cell? ⟨w.heap.size, i, none⟩ = some (byt ((fill b i).getD i 0)) := by
        rw [cell_at hh, List.getElem?_toArray, cel_get _ _ (by rw [fill_length]; exact h64)]
      have hf : wo.frozen? ⟨w.heap.size, i, none⟩ = false := free_at hh i
      have HH := Lib.hid (And.intro hh hbel)
      clear hh hbel
      have i0 : (0 : Int) ≤ i := by omega
      have i1 : (i : Int) < 64 := by omega
      go_wp2
      obtain ⟨hh, hbel⟩ := HH.out
      have ev : Value.int .u8 (((b.toNat : Int) + (i : Int) / 32) % 256) = byt (b + UInt8.ofNat (i / 32)) := by
        unfold byt
        rw [UInt8.toNat_add, UInt8.toNat_ofNat']
        congr 1
        omega
      rw [ev]
      refine ⟨⟨i + 1, by omega, rfl, ?_, hbel.setCell (Nat.le_refl _) _⟩, by simp [Go.RowKit.intOf]; omega⟩
      rw [set_at hh i _, fill_step b i h64]
    · obtain rfl : i = 64 := by omega
      have HH := Lib.hid (And.intro hh hbel)
      clear hh hbel
      go_wp2
      go_ret
      rw [fill_all] at HH
      exact ⟨_, rfl, HH.out.1, Nat.le_refl _, HH.out.2⟩
end Go.Proofs.Ythphcidpdjopeaa
