/-
  What the statements' knows answers: true. No condition.
-/
import Derived.Test.YtpbojepliddflaaFRGet
namespace Go.Proofs.Ytpbojepliddflaa.Frm
open Go.RowKit Codec FrameM Cod
set_option maxRecDepth 100000
def one4 : Mk := ⟨1, 2, 3, 4⟩
theorem one4_right : one4.right = true := by decide
theorem one4_fits : one4.fits := by
  constructor <;> (unfold in64 one4; decide)
theorem one4_head : (put one4).take 6 = [84, 77, 1, 0, 2, 0] := by
  rw [put_right one4_right]
  unfold half body
  rw [letters_bytes, show encSmall one4.kind = [1, 0] by decide, show encNum one4.gen = [2, 0, 0, 0, 0, 0, 0, 0] by decide]
  rfl
set_option maxHeartbeats 1000000 in
theorem knows_any (w : World) : Calls Try.prog 6 #[] w (EndsBelow (.bool true) w) := by
  have HC1 := Lib.hid (put_any one4 w)
  have HL := Lib.hid (put_length one4_right)
  have HG := Lib.hid (getB_put one4_right one4_fits)
  have HT := Lib.hid one4_head
  have HN := Lib.hid (fun u => need_any 65 u (by unfold in64; decide))
  rw [show needI 65 = 2 from rfl] at HN
  unfold mkV one4 at HC1
  dsimp only at HC1
  change Hid (Calls Try.prog 9 #[.agg #[.int .i64 1, .int .i64 2, .int .i64 3, .int .i64 4]] w (Gives w (put one4))) at HC1
  go_enter Try.func6, Try.ntmps6
  go_wp2_with fail
  refine HC1.out.mono ?_
  rintro e w1 ⟨A, c, rfl, hb, hbl, hlc, hcm⟩
  generalize put one4 = xs at *
  rw [HL.out] at hb hlc ⊢
  have HB := Lib.hid hbl
  have HX := Lib.hid hb
  have HC2 := Lib.hid (fget_any w1 _ 64 c A xs hb (Nat.le_refl _) hlc hcm)
  rw [HG.out.1, HG.out.2] at HC2
  clear hb hbl HC1
  unfold tupV mkV one4 at HC2
  dsimp only at HC2
  go_wp2_with fail
  refine HC2.out.mono ?_
  rintro e w2 ⟨rfl, hb2⟩
  have HB2 := Lib.hid (HB.out.trans (hb2.mono HB.out.size))
  have hs : ∀ v, (Instr.slice 24 (.slice A 64 c) none (some (.int .i64 6)) none).run Try.prog v = .ok (.slice A 6 c) v := fun v => run_to v A 64 c 6 (by omega)
  have hcv := run_string_of (w2.alloc (.cells #[.int .i64 1, .int .i64 2, .int .i64 3, .int .i64 4] 26)) w1.heap.size 6 c A _ (((HX.out.take 6 (by decide)).below hb2).alloc hb2.size _)
  rw [HT.out] at hcv
  clear hb2 HC2 hcm hlc
  go_wp2_with fail
  refine (HN.out _).mono ?_
  rintro e w3 ⟨rfl, rfl⟩
  go_wp2_with fail
  go_ret
  exact ⟨rfl, HB2.out.alloc HB2.out.size _⟩
end Go.Proofs.Ytpbojepliddflaa.Frm
