/-
  The law's knows. No condition.
-/
import Derived.Test.YtofadlenblobnaaUKnow
namespace Go.Proofs.Ytofadlenblobnaa.Exp
open Go.RowKit Codec Typ Tre
open OwnR (OwnG)
open Cod (Byts bytesOf)
set_option maxRecDepth 100000
set_option linter.unusedSimpArgs false
def oneS : Sp := ⟨[70], [], 1⟩
theorem k0v : encV [] = [0, 0] := by kernel_rfl
theorem k0n : encN [] = 0 := by kernel_rfl
theorem k1n : encN [oneS] = 0 := by kernel_rfl
theorem k1r : rightL [oneS] = true := by kernel_rfl
theorem k1d : decP (encV [oneS]) = some [oneS] := by
  unfold encV
  rw [k1r]
  exact decP_back k1r
theorem one_of {l : List Sg} (h : l.map coreG = decV (some [oneS])) : ∃ a c r, l = [⟨⟨#[70]⟩, a, c, [], r⟩] ∧ r = 1 := by
  have h : l.map coreG = [oneS] := h
  rcases l with _ | ⟨⟨s, a, c, p, r⟩, _ | ⟨g2, l⟩⟩
  · simp at h
  · simp [coreG, oneS] at h
    obtain ⟨h1, h2, h3⟩ := h
    subst h2 h3
    refine ⟨a, c, 1, ?_, rfl⟩
    have : s = ⟨#[70]⟩ := by
      apply ByteArray.ext
      apply Array.toList_inj.1
      exact h1
    rw [this]
  · simp at h
set_option maxHeartbeats 8000000 in
theorem knows_any (w : World) : Calls Try.prog 6 #[] w (EndsB (.bool true) w) := by
  have C0 := Lib.hid (encode_any [] none 0 0 w rfl (Row.nil _ _ _ _) (fun g hg => by simp at hg) (by omega))
  rw [show ([] : List Sg).map coreG = [] from rfl, k0v, k0n] at C0
  go_enter Try.func6, Try.ntmps6
  go_wp2_with fail
  refine C0.out.mono ?_
  rintro e w1 ⟨A1, n1, c1, rfl, ha1, _, hb1⟩
  have hl1 := ha1.len
  have HA1 := Lib.hid ha1
  have HB1 := Lib.hid hb1
  -- one signature, in memory
  have n1' := new_at w1 #[.string ⟨#[70]⟩, .slice none 0 0, .int .u8 1] 37
  have hbw := ball_new w1 #[.string ⟨#[70]⟩, .slice none 0 0, .int .u8 1] 37
  have hrow : Row 3 sgC (w1.alloc (.cells #[.string ⟨#[70]⟩, .slice none 0 0, .int .u8 1] 37)) (some ⟨w1.heap.size, 0, none⟩) [⟨⟨#[70]⟩, none, 0, [], 1⟩] := fun _ => by
    refine ⟨w1.heap.size, 0, rfl, by simp, fun j x hx r u hu => ?_⟩
    match j, hx with
    | 0, hx =>
      injection hx with hx
      subst hx
      rw [show 0 + 0 * 3 + r = r by omega, cell_at n1']
      simpa [sgC] using hu
  have C1 := encode_any [⟨⟨#[70]⟩, none, 0, [], 1⟩] (some ⟨w1.heap.size, 0, none⟩) 1 1 _ rfl hrow (fun g hg => by
    obtain rfl : g = ⟨⟨#[70]⟩, none, 0, [], 1⟩ := by simpa using hg
    exact ⟨Row.nil _ _ _ _, by unfold most; simp, by unfold maxLen; simp [ByteArray.size]⟩) (by omega)
  rw [show ([⟨⟨#[70]⟩, none, 0, [], 1⟩] : List Sg).map coreG = [oneS] from rfl, k1n] at C1
  have C1 := Lib.hid C1
  have HB2 := Lib.hid (hb1.trans (hbw.mono hb1.size))
  have HA2 := Lib.hid (ha1.below (hbw))
  have HZ2 := Lib.hid hbw.size
  clear n1' hbw hrow ha1 hb1 C0
  go_wp2_with fail
  refine C1.out.mono ?_
  rintro e w3 ⟨A3, n3, c3, rfl, ha3, hl3, hb3⟩
  have CD := decode_any (encV [oneS]) A3 w3.heap.size n3 c3 w3 ha3 (Nat.le_refl _) (by have := ha3.len; omega)
  rw [k1d] at CD
  have CD := Lib.hid CD
  have HB3 := Lib.hid (HB2.out.trans (hb3.mono HB2.out.size))
  have HZ3 := Lib.hid hb3.size
  have HA3 := Lib.hid (HA2.out.below (hb3.mono HZ2.out))
  clear ha3 hl3 hb3 C1
  go_wp2_with fail
  refine CD.out.mono ?_
  rintro e w4 ⟨A4, c4, l4, rfl, hl4, hr4, _, _, _, hb4⟩
  obtain ⟨a, c, r, rfl, hr1⟩ := one_of hl4
  subst hr1
  obtain ⟨b5, o5, rfl, hc5⟩ := hr4.at_ (Below.refl _ _) (show ([⟨⟨#[70]⟩, a, c, [], 1⟩] : List Sg)[0]? = some ⟨⟨#[70]⟩, a, c, [], 1⟩ from rfl)
  obtain ⟨p0, p1, p2⟩ := sgC_at hc5
  simp only [Nat.zero_mul, Nat.add_zero] at p0 p1 p2
  rw [show decE (some [oneS]) = 0 from rfl]
  have hcv := Cod.run_string_of w4 _ n1 c1 A1 [0, 0] (HA3.out.below (hb4.mono (Nat.le_trans HZ2.out HZ3.out)))
  have HB4 := Lib.hid (HB3.out.trans (hb4.mono HB3.out.size))
  clear hr4 hl4 hc5 hb4 CD
  go_wp2_with (go_at_call 11; refine (num_any _ _).mono ?_; rintro e w' ⟨rfl, rfl⟩)
  go_ret
  exact ends_bool (by rfl) HB4.out
end Go.Proofs.Ytofadlenblobnaa.Exp
