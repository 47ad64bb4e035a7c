/-
  The walk of CodecLays: true, for every slice of items. Conditions: the slice reads as items.
-/
import Derived.Test.YtneipblbbjcmjaaKnows
import Derived.Deep.RegionWith
import Derived.Deep.DrawnRows
namespace Go.Proofs.Ytneipblbbjcmjaa
open Go.RowKit Codec
attribute [local go_sem ↓] Go.wp_at_zero Go.wp_at_succ
theorem Items.up {w w' : World} {B n : Nat} {A : Option Addr} {l : List It} (h : Items w B A n l) (hb : Below B w w') (hB : B ≤ w'.heap.size) : Items w' w'.heap.size A n l :=
  let h2 := h.keep hb.block
  ⟨h2.len, fun hn => by
    obtain ⟨b, off, e, hlt, hc⟩ := h2.at_ hn
    exact ⟨b, off, e, by omega, hc⟩, h2.fits, h2.size⟩
theorem nobody (w : World) : Calls Try.prog 8 #[.pointer none, .slice (some ⟨w.heap.size, 0, none⟩) 1 1] (w.alloc (.cells #[.int .i64 1] 2)) (EndsBelow (.tuple #[]) (w.alloc (.cells #[.int .i64 1] 2))) :=
  num_none _ w.heap.size 1 (by rw [World.cell?_alloc_mark]; rfl)
theorem nobody_small (w : World) : Calls Try.prog 9 #[.pointer none, .slice (some ⟨w.heap.size, 0, none⟩) 1 1] (w.alloc (.cells #[.int .i64 1] 3)) (EndsBelow (.tuple #[]) (w.alloc (.cells #[.int .i64 1] 3))) :=
  small_none _ w.heap.size 1 (by decide) (by rw [World.cell?_alloc_mark]; rfl)
theorem nobody_text (w : World) : Calls Try.prog 10 #[.pointer none, .slice (some ⟨w.heap.size, 0, none⟩) 1 1] (w.alloc (.cells #[.string ⟨#[97]⟩] 9)) (EndsBelow (.tuple #[]) (w.alloc (.cells #[.string ⟨#[97]⟩] 9))) :=
  text_none _ w.heap.size ⟨#[97]⟩ (by decide) (by rw [World.cell?_alloc_mark]; rfl)
set_option maxRecDepth 100000 in
set_option maxHeartbeats 4000000 in
theorem lays_any (w : World) (n c : Nat) (A : Option Addr) (l : List It) (hl : Items w w.heap.size A n l) (hn : n ≤ 9223372036854775807) :
    Calls Try.prog 3 #[.slice A n c] w (EndsBelow (.bool true) w) := by
  have HF := Lib.hid (few_any w w.heap.size n c A l hl hn)
  cases hf : fewB l
  · rw [hf] at HF
    clear hl hf
    go_enter Try.func3, Try.ntmps3
    go_wp2_with fail
    refine HF.out.mono ?_
    rintro e w1 ⟨rfl, rfl⟩
    go_wp2_with fail
    refine (knows_any _).mono ?_
    rintro e w2 ⟨rfl, hb⟩
    go_wp2_with fail
    go_ret
    exact ⟨rfl, hb⟩
  · rw [hf] at HF
    have HL := Lib.hid hl
    have HFF := Lib.hid hf
    have HS := Lib.hid (encs_size l hf l.length)
    rw [List.take_length] at HS
    clear hl hf
    go_enter Try.func3, Try.ntmps3
    go_wp2_with fail
    refine HF.out.mono ?_
    rintro e w1 ⟨rfl, rfl⟩
    go_wp2_with fail
    refine (nobody w).mono ?_
    rintro e w1 ⟨rfl, hb⟩
    have HB1 := Lib.hid (((Below.refl w.heap.size w).alloc (Nat.le_refl _) _).trans (hb.mono (by simp)))
    clear hb
    go_wp2_with fail
    refine (nobody_small w1).mono ?_
    rintro e w2 ⟨rfl, hb⟩
    have HB2 := Lib.hid ((HB1.out.alloc HB1.out.size _).trans (hb.mono (by have := HB1.out.size; simp; omega)))
    clear hb HB1
    go_wp2_with fail
    refine (nobody_text w2).mono ?_
    rintro e w3 ⟨rfl, hb⟩
    have HB3 := Lib.hid ((HB2.out.alloc HB2.out.size _).trans (hb.mono (by have := HB2.out.size; simp; omega)))
    clear hb HB2
    have HL3 := Lib.hid (HL.out.up HB3.out HB3.out.size)
    go_wp2_with fail
    have HA := Lib.hid (fun (w4 : World) (h : Items w4 w4.heap.size A n l) => lay_items w4 n c A l h HFF.out)
    have HD := Lib.hid (fun (w4 : World) (h : Items w4 w4.heap.size A n l) => laid_items w4 n c A l h HFF.out)
    have HLD := Lib.hid (HL3.out.up (w' := w3.drew) ((Below.refl _ w3).drew) (Nat.le_refl _))
    have HBD := Lib.hid (HB3.out.drew)
    clear HL3 HB3 HL HFF
    generalize encs (l.map It.itm) = xs at *
    go_region_with (first
      | (go_at_call 11; refine (HA.out _ HLD.out).mono ?_; rintro e w4 ⟨g, rfl, hW, hb⟩; have HW4 := Lib.hid hW; have HB4 := Lib.hid (HBD.out.trans (hb.mono HBD.out.size)); have HL4 := Lib.hid (HLD.out.up hb hb.size); clear hW hb)
      | (go_at_call_of 12 (Value.pointer (some ⟨g, 0, none⟩)); refine (bytes_some _ _ _ _ HW4.out (by have := HS.out; omega)).mono ?_; rintro e w5 ⟨A5, c5, rfl, ho, hb⟩; have hcv5 := run_string_of _ _ _ c5 A5 _ ho.byts; have HO5 := Lib.hid ho; have HB5 := Lib.hid (HB4.out.trans (hb.mono HB4.out.size)); have HL5 := Lib.hid (HL4.out.up hb hb.size); clear ho hb)
      | (go_at_call 13; refine (HD.out _ HL5.out).mono ?_; rintro e w6 ⟨A6, m6, c6, rfl, ho, hb⟩; have hcv6 := run_string_of _ _ _ c5 A5 _ (HO5.out.below hb).byts; have hcv7 := run_string_of _ _ _ c6 A6 _ ho.byts; have HB6 := Lib.hid (HB5.out.trans (hb.mono HB5.out.size)); clear ho hb)
      | (go_at_call 12; refine (bytes_none _).mono ?_; rintro e w7 ⟨rfl, rfl⟩)
      | (go_at_call 7; refine (knows_any _).mono ?_; rintro e w8 ⟨rfl, hb⟩; have HB8 := Lib.hid (HB6.out.trans (hb.mono HB6.out.size)); clear hb))
    all_goals
      go_wp2_with fail
      go_ret
      exact ⟨rfl, HB8.out⟩
end Go.Proofs.Ytneipblbbjcmjaa
