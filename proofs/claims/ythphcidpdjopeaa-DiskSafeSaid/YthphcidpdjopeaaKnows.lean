/-
  What the law knows: half of what was written comes behind a crash. No condition.
-/
import Derived.Test.YthphcidpdjopeaaBytes
namespace Go.Proofs.Ythphcidpdjopeaa
open Go.RowKit Go.Maps
def d1 : Dsk := (fresh 2).deed.put 1 (pat 5)
def half5 : List UInt8 := List.replicate 32 5 ++ List.replicate 32 0
theorem known : (d1.crash [2]).read 1 = half5 := by rfl
theorem Dk.gone {w w' : World} {g gs gm : Nat} {d : Dsk} (h : Dk w g gs gm d) (hb : Below w.heap.size w w') : Dk w' g gs gm d := h.turn (Turn.ofBelow (S := []) hb) (by simp) (by simp) (by simp)
theorem range_of {w : World} {b : Nat} {s : List UInt8} {T : TypeId} (h : w.heap[b]? = some (.cells (cel s).toArray T (0, 0))) : w.rangeAt b 0 (cel s) := fun j v hv => by
  rw [cell_at h, Nat.zero_add]
  simpa using hv
theorem Dk.notIn {w : World} {g gs gm : Nat} {d : Dsk} (h : Dk w g gs gm d) {k : Nat} (hk : w.heap.size ≤ k) : k ∉ [g, gs, gm] := by
  have h1 := h.lt
  have h2 := h.sf.1
  have h3 := h.ltm
  simp
  omega
theorem nums_one {w : World} {S : List Nat} (z : Int) (hS : ∀ k ∈ S, k < w.heap.size) : Nums (w.alloc (.cells #[.int .i64 z] 3)) S (some ⟨w.heap.size, 0, none⟩) 1 [z] :=
  ⟨rfl, fun _ => ⟨w.heap.size, 0, rfl, fun hm => by have := hS _ hm; omega, by simp, fun j hj => by
    obtain rfl : j = 0 := by omega
    rw [cell_at (heap_alloc_last w _)]
    rfl⟩⟩
theorem Dk.all {w : World} {g gs gm : Nat} {d : Dsk} (h : Dk w g gs gm d) : ∀ k ∈ [g, gs, gm], k < w.heap.size := by
  have h1 := h.lt
  have h2 := h.sf.1
  have h3 := h.ltm
  intro k hk
  simp at hk
  rcases hk with rfl | rfl | rfl <;> assumption
set_option maxHeartbeats 1000000 in
theorem knows_any (w : World) : Calls Try.prog 4 #[] w fun e w' => e = .returned (.bool true) ∧ Below w.heap.size w w' := by
  have HN : Hid (Calls Try.prog 5 #[.int .i64 2] w (Made w 2)) := Lib.hid (new_disk w 2 (by omega) (by omega))
  go_enter Try.func4, Try.ntmps4
  go_wp2_with fail
  refine HN.out.mono ?_
  rintro e w1 ⟨g, gs, gm, rfl, hdk, ht, g1, g2, g3⟩
  have HD := Lib.hid hdk
  have HT := Lib.hid ht
  have HG := Lib.hid (And.intro g1 (And.intro g2 g3))
  have HB : Hid (Calls Try.prog 9 #[.int .u8 5, .int .i64 64] w1 (New64 w1 (pat 5))) := Lib.hid (bytes_64 w1 5)
  clear hdk ht g1 g2 g3 HN
  go_wp2_with fail
  refine HB.out.mono ?_
  rintro e w2 ⟨k2, rfl, hk2, hl2, hb2⟩
  have HD2 := Lib.hid (HD.out.gone hb2)
  have HT2 := Lib.hid (HT.out.below hb2)
  have HW : Hid (Calls Try.prog 8 #[ptr g, .int .i64 1, .slice (some ⟨k2, 0, none⟩) 64 64] w2 (Now (.int .i64 0) w2 g gs gm d1)) :=
    Lib.hid (write_do w2 g gs gm (fresh 2) HD2.out rfl rfl 1 (by show 1 < 2; omega) k2 0 64 (pat 5) (pat_length 5) (range_of hk2) (HD.out.notIn hl2) (lt_of_heap hk2))
  clear hk2 hl2 hb2 HB HT
  unfold ptr at HW
  go_wp2_with fail
  refine HW.out.mono ?_
  rintro e w3 ⟨rfl, hd3, ht3⟩
  have HD3 := Lib.hid hd3
  have HT3 := Lib.hid (HT2.out.then_ ht3 (S' := [g, gs, gm]) (by
    obtain ⟨h1, h2, h3⟩ := HG.out
    intro k hk
    simp at hk
    rcases hk with rfl | rfl | rfl <;> exact .inr (by assumption)))
  have HC : Hid (Calls Try.prog 11 #[ptr g, .slice (some ⟨w3.heap.size, 0, none⟩) 1 1] (w3.alloc (.cells #[.int .i64 2] 3)) (Now (.tuple #[]) (w3.alloc (.cells #[.int .i64 2] 3)) g gs gm (d1.crash [2]))) :=
    Lib.hid (crash_disk (w3.alloc (.cells #[.int .i64 2] 3)) g gs gm d1 (hd3.alloc _) _ 1 1 [2] (nums_one 2 hd3.all))
  clear hd3 ht3 HW HT2
  unfold ptr at HC
  go_wp2_with fail
  refine HC.out.mono ?_
  rintro e w5 ⟨rfl, hd5, ht5⟩
  have HT5 := Lib.hid (((HT3.out.alloc (.cells #[.int .i64 2] 3)).then_ ht5 (S' := [g, gs, gm]) (by
    obtain ⟨h1, h2, h3⟩ := HG.out
    intro k hk
    simp at hk
    rcases hk with rfl | rfl | rfl <;> exact .inr (by assumption))))
  have HR : Hid (Calls Try.prog 12 #[.pointer (some ⟨g, 0, none⟩), .int .i64 1] w5 (Told64 w5 half5)) := Lib.hid (by
    have := read_disk w5 g gs gm (d1.crash [2]) hd5 rfl 1 (by show 1 < 2; omega)
    rw [known] at this
    exact this)
  have HS : Hid (∀ w6, Turn [] w5 w6 → Calls Try.prog 14 #[.pointer (some ⟨g, 0, none⟩)] w6 (Ends (.int .i64 2) w6)) := Lib.hid fun w6 ht => sectors_disk w6 g gs gm (d1.crash [2]) (hd5.turn ht (by simp) (by simp) (by simp))
  clear hd5 ht5 HC HT3
  go_wp2_with fail
  refine HR.out.mono ?_
  rintro e w6 ⟨k6, rfl, hk6, hl6, ht6⟩
  have HS6 := Lib.hid (HS.out w6 ht6)
  have HT6 := Lib.hid (HT5.out.then_ ht6 (by simp))
  have c0 : w6.cell? ⟨k6, 0, none⟩ = some (.int .u8 5) := cell_at hk6 0
  have c63 : w6.cell? ⟨k6, 63, none⟩ = some (.int .u8 0) := cell_at hk6 63
  clear hk6 hl6 ht6 HR HS HT5
  go_wp2_with (first
    | (go_at_call 14; refine HS6.out.mono ?_; rintro e w7 ⟨rfl, rfl⟩)
    | go_in)
  go_ret
  exact ⟨rfl, HT6.out.low (by simp) (Nat.le_refl _)⟩
end Go.Proofs.Ythphcidpdjopeaa
