/-
  Cuts of a slice of bytes, as values and as what they read as. Conditions: the bounds are in order.
-/
import Derived.Test.YtpbojepliddflaaFGet
namespace Go.Proofs.Ytpbojepliddflaa.Frm
open Go.RowKit Codec FrameM Cod
set_option maxRecDepth 100000
def cutAt (A : Option Addr) (l m : Nat) : Option Addr := if m = l then A else A.map (·.add l)
theorem cut_lh (w : World) (A : Option Addr) (n c l h : Nat) (h1 : l ≤ h) (h2 : h ≤ c) :
    (Instr.slice 24 (.slice A n c) (some (.int .i64 l)) (some (.int .i64 h)) none).run Try.prog w = .ok (.slice (cutAt A l c) (h - l) (c - l)) w := by
  rw [run_slice_lh (P := Try.prog) w 24 A n c Try.underlying24 .i64 .i64 l h (by omega) (by omega) (by omega), size5]
  simp [Result.andThen, sliced, cutAt]
theorem cut_lhm (w : World) (A : Option Addr) (n c l h m : Nat) (h1 : l ≤ h) (h2 : h ≤ m) (h3 : m ≤ c) :
    (Instr.slice 24 (.slice A n c) (some (.int .i64 l)) (some (.int .i64 h)) (some (.int .i64 m))).run Try.prog w = .ok (.slice (cutAt A l m) (h - l) (m - l)) w := by
  rw [run_slice_lhm (P := Try.prog) w 24 A n c Try.underlying24 .i64 .i64 .i64 l h m (by omega) (by omega) (by omega) (by omega), size5]
  simp [Result.andThen, sliced, cutAt]
theorem cut_hm (w : World) (A : Option Addr) (n c h m : Nat) (h2 : h ≤ m) (h3 : m ≤ c) :
    (Instr.slice 24 (.slice A n c) none (some (.int .i64 h)) (some (.int .i64 m))).run Try.prog w = .ok (.slice A h m) w := by
  rw [run_slice_hm (P := Try.prog) w 24 A n c Try.underlying24 .i64 .i64 h m (by omega) (by omega) (by omega), size5]
  simp only [Result.andThen, sliced, Int.toNat_natCast, Nat.zero_mul, Nat.sub_zero]
  congr 2
  split
  · rfl
  · cases A <;> simp [Addr.add]
theorem cut_l (w : World) (A : Option Addr) (n c l : Nat) (h1 : l ≤ n) :
    (Instr.slice 24 (.slice A n c) (some (.int .i64 l)) none none).run Try.prog w = .ok (.slice (cutAt A l c) (n - l) (c - l)) w := run_from w A n c l h1
theorem Byts.cut {w : World} {B n : Nat} {A : Option Addr} {xs : List UInt8} (hb : Byts w B A n xs) (l h m : Nat) (h1 : l ≤ h) (h2 : h ≤ n) (h3 : h ≤ m) : Byts w B (cutAt A l m) (h - l) ((xs.drop l).take (h - l)) :=
  ⟨by rw [List.length_take, List.length_drop, hb.len]; omega, fun h0 => by
    obtain ⟨b, off, rfl, hB, hc⟩ := hb.at_ (by omega)
    unfold cutAt
    rw [if_neg (by omega)]
    refine ⟨b, off + l, by rw [Option.map_some, plain_add], hB, fun j hj => ?_⟩
    rw [Nat.add_assoc, hc (l + j) (by omega)]
    simp [List.getD_eq_getElem?_getD, hj]⟩
end Go.Proofs.Ytpbojepliddflaa.Frm
