/-
  What must come (a text's bytes) comes. No condition.
-/
import Derived.Test.YtneipblbbjcmjaaItems
namespace Go.Proofs.Ytneipblbbjcmjaa
open Go.RowKit Codec
def ab : ByteArray := ⟨#[97, 98]⟩
theorem ab_enc : encText (bytesOf ab) = [2, 0, 97, 98] := by decide
theorem ab_text : text 2 ⟨[2, 0, 97, 98], false⟩ = [97, 98] := by decide
theorem ab_textS : textS 2 ⟨[2, 0, 97, 98], false⟩ = ⟨[], false⟩ := by rfl
theorem ab_end : endB ⟨[], false⟩ = true := by rfl
theorem Wr.start (w : World) : Wr (w.alloc (.cells #[.slice none 0 0] 47)) w.heap.size w.heap.size [] := ⟨none, 0, 0, heap_alloc_new w _, Owns.nil, Nat.le_refl _⟩
set_option maxHeartbeats 1000000 in
theorem knows_any (w : World) : Calls Try.prog 7 #[] w (EndsBelow (.bool true) w) := by
  have HT := Lib.hid (text_some ((w.alloc (.cells #[.slice none 0 0] 47)).alloc (.cells #[.string ab] 9)) w.heap.size w.heap.size (w.heap.size + 1) ab [] ((Wr.start w).alloc _) (by decide) (by simp; omega) (by decide)
    (by rw [show w.heap.size + 1 = (w.alloc (.cells #[.slice none 0 0] 47)).heap.size by simp, World.cell?_alloc_mark]; rfl))
  rw [ab_enc, List.nil_append] at HT
  go_enter Try.func7, Try.ntmps7
  go_wp2_with fail
  refine HT.out.mono ?_
  rintro e w1 ⟨rfl, hW, hb⟩
  have HW := Lib.hid hW
  have HB := Lib.hid (((((Below.refl w.heap.size w).alloc (Nat.le_refl _) (.cells #[.slice none 0 0] 47)).alloc (by simp) (.cells #[.string ab] 9)).trans hb))
  have HC := Lib.hid (bytes_some w1 _ _ _ hW (by decide))
  clear hW hb HT
  go_wp2_with fail
  refine HC.out.mono ?_
  rintro e w2 ⟨A, c, rfl, ho, hb⟩
  have HW2 := Lib.hid (HW.out.below hb)
  have HR := Lib.hid (read_any w2 _ _ c A _ ho.byts (Nat.le_refl _) (by decide))
  have HB2 := Lib.hid (HB.out.trans (hb.mono HB.out.size))
  clear ho hb HC HB HW
  go_wp2_with fail
  refine HR.out.mono ?_
  rintro e w3 ⟨B, g, rfl, hr, hB, hb⟩
  have HW3 := Lib.hid (HW2.out.below hb)
  have HB3 := Lib.hid (HB2.out.trans (hb.mono HB2.out.size))
  have HC := Lib.hid (bytes_some w3 _ _ _ HW3.out (by decide))
  have HD := Lib.hid hr
  clear hr hb HR HW2
  go_wp2_with fail
  refine HC.out.mono ?_
  rintro e w4 ⟨A4, c4, rfl, ho, hb⟩
  have HB4 := Lib.hid (HB3.out.trans (hb.mono HB3.out.size))
  have HD4 := Lib.hid (HD.out.below hb)
  have hcv : (convert 29 9 (.slice A4 4 c4)).run Try.prog w4 = .ok (.string ⟨#[2, 0, 97, 98]⟩) w4 := run_string_of w4 _ _ c4 A4 _ ho.byts
  have HX := Lib.hid (text_any w4 B g 2 _ HD4.out)
  rw [ab_text, ab_textS] at HX
  clear ho hb HB3 HD HC
  go_wp2_with fail
  refine HX.out.mono ?_
  rintro e w5 ⟨rfl, hr, hg⟩
  have HE := Lib.hid (end_any w5 B g _ hr)
  rw [ab_end] at HE
  have hB5 : w.heap.size ≤ g := by have := hr.2.1; have := HB2.out.size; omega
  have HB5 := Lib.hid (HB4.out.trans (grown_below hg w.heap.size hB5 (by have := HB4.out.size; omega)))
  clear hr hg HX HB4 HD4 hcv
  go_wp2_with fail
  refine HE.out.mono ?_
  rintro e w6 ⟨rfl, rfl⟩
  go_wp2_with fail
  go_ret
  exact ⟨rfl, HB5.out⟩
end Go.Proofs.Ytneipblbbjcmjaa
