/-
  What the program's Reader reads and tells: Num, Small, Count, Text, Good, Left, End, Read; nobody's Reader. Conditions: the Reader's block is known.
-/
import Derived.Test.YtpbojepliddflaaCTake
namespace Go.Proofs.Ytpbojepliddflaa.Cod
open Go.RowKit Codec
set_option maxRecDepth 100000
theorem Turned.of {T : TypeId} {w w' : World} {B g : Nat} {u v : Value} {s : St} {e : Ending} (h : Turned T w B g u s e w') (hv : u = v) : Turned T w B g v s e w' := by subst hv; exact h
theorem signed_of (n : Nat) (h : n < 18446744073709551616) : wrap64 (n : Int) = signed n := by
  unfold wrap64 signed
  split <;> omega
theorem num_lt (s : St) : leVal (tk 8 s) < 18446744073709551616 := by
  have h := leVal_lt (tk 8 s)
  have h2 : 256 ^ (tk 8 s).length ≤ 256 ^ 8 := Nat.pow_le_pow_right (by decide) (take_le 8 s)
  omega
set_option maxHeartbeats 400000 in
theorem num_any (w : World) (B g : Nat) (s : St) (hr : Rdr 71 w B g s) :
    Calls Try.prog 30 #[.pointer (some ⟨g, 0, none⟩)] w (Turned 71 w B g (.int .i64 (num s)) (tkS 8 s)) := by
  have HN := Lib.hid (number_any w B g 8 s hr (Nat.le_refl _))
  have HS : Hid (wrap64 (leVal (tk 8 s) : Int) = num s) := signed_of _ (num_lt s)
  clear hr
  generalize leVal (tk 8 s) = x at *
  generalize num s = y at *
  generalize tkS 8 s = s1 at *
  go_enter Try.func30, Try.ntmps30
  go_wp2_with fail
  refine HN.out.mono ?_
  rintro e w1 ⟨rfl, hw, hg⟩
  have HW := Lib.hid hw
  have HG := Lib.hid hg
  clear hw hg
  go_wp2_with fail
  go_ret
  exact ⟨by rw [← HS.out]; rfl, HW.out, HG.out⟩
set_option maxHeartbeats 400000 in
theorem small_any (w : World) (B g : Nat) (s : St) (hr : Rdr 71 w B g s) :
    Calls Try.prog 29 #[.pointer (some ⟨g, 0, none⟩)] w (Turned 71 w B g (.int .i64 (small s)) (tkS 2 s)) := by
  have HN := Lib.hid (number_any w B g 2 s hr (by decide))
  have hx : small s < 65536 := small_lt s
  have e : leVal (tk 2 s) = small s := rfl
  rw [e] at HN
  clear hr e
  generalize small s = x at *
  generalize tkS 2 s = s1 at *
  go_enter Try.func29, Try.ntmps29
  go_wp2_with fail
  refine HN.out.mono ?_
  rintro e w1 ⟨rfl, hw, hg⟩
  have HW := Lib.hid hw
  have HG := Lib.hid hg
  clear hw hg
  go_wp2_with fail
  go_ret
  exact ⟨rfl, HW.out, HG.out⟩
/-- Good, and nothing left. -/
def endB (s : St) : Bool := !s.bad && decide (s.left.length = 0)
/-! ### Nobody's Reader -/
theorem rnumber_none (w : World) (v : Value) : Calls Try.prog 41 #[.pointer none, v] w fun e w' => e = .returned (.int .u64 0) ∧ w = w' := by
  go_enter Try.func41, Try.ntmps41
  go_wp2_with fail
  refine (take_none _ _).mono ?_
  rintro e w1 ⟨rfl, rfl⟩
  go_wp2_with fail
  go_loop [5, 12] (fun r i => i = .int .i64 0 ∧ r = .int .u64 0) (fun _ _ => 0)
  case atStart => exact ⟨rfl, rfl⟩
  case round =>
    obtain ⟨rfl, rfl⟩ := hrel
    go_wp2
    go_ret
    exact ⟨rfl, rfl⟩
theorem rnum_none (w : World) : Calls Try.prog 30 #[.pointer none] w fun e w' => e = .returned (.int .i64 0) ∧ w = w' := by
  go_enter Try.func30, Try.ntmps30
  go_wp2_with fail
  refine (rnumber_none _ _).mono ?_
  rintro e w1 ⟨rfl, rfl⟩
  go_wp2_with fail
  go_ret
  exact ⟨rfl, rfl⟩
theorem rsmall_none (w : World) : Calls Try.prog 29 #[.pointer none] w fun e w' => e = .returned (.int .i64 0) ∧ w = w' := by
  go_enter Try.func29, Try.ntmps29
  go_wp2_with fail
  refine (rnumber_none _ _).mono ?_
  rintro e w1 ⟨rfl, rfl⟩
  go_wp2_with fail
  go_ret
  exact ⟨rfl, rfl⟩
/-! ### A Reader of bytes -/
def Opened (w : World) (xs : List UInt8) (e : Ending) (w' : World) : Prop := ∃ B g, e = .returned (.pointer (some ⟨g, 0, none⟩)) ∧ Rdr 71 w' B g ⟨xs, false⟩ ∧ w.heap.size ≤ B ∧ Below w.heap.size w w'
theorem read_any (w : World) (B m c : Nat) (A : Option Addr) (ys : List UInt8) (hr : Byts w B A m ys) (hB : B ≤ w.heap.size) (hn : m ≤ 1000000000) :
    Calls Try.prog 28 #[.slice A m c] w (Opened w ys) := by
  have HC := Lib.hid (clone_any w B m c A ys hr hB hn)
  clear hr
  go_enter Try.func28, Try.ntmps28
  go_wp2_with fail
  refine HC.out.mono ?_
  rintro e w1 ⟨A1, c1, rfl, ho, hb⟩
  have HO := Lib.hid ho
  have HB := Lib.hid hb
  clear ho hb
  go_wp2_with fail
  go_ret
  obtain ⟨A2, c2, e2, h1, h2⟩ := Owns.form HO.out
  obtain ⟨rfl, rfl⟩ : A1 = A2 ∧ c1 = c2 := by injection e2 with a b c; exact ⟨a, c⟩
  exact ⟨w1.heap.size, w1.heap.size, rfl, ⟨goodOk _, Nat.le_refl _, A1, m, c1, heap_alloc_new w1 _, (HO.out.byts).alloc (Nat.le_refl _) _, h1, h2, hn⟩, HB.out.size, HB.out.alloc HB.out.size _⟩
end Go.Proofs.Ytpbojepliddflaa.Cod
