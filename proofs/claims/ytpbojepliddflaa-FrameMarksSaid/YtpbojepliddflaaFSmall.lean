/-
  What the program's and the document's small functions of frame answer: Need, right, Equal, a half, a sector filled. Conditions: the sizes are named.
-/
import Derived.Test.YtpbojepliddflaaCMany
import Derived.Test.YtpbojepliddflaaCRef
import Derived.Test.YtpbojepliddflaaSRef
import Derived.Test.YtpbojepliddflaaFMath
import Derived.Laws.BytesArg
import Derived.Laws.CopyOwn
import Derived.Laws.BitsAll
namespace Go.Proofs.Ytpbojepliddflaa.Frm
open Go.RowKit Codec FrameM Cod
set_option maxRecDepth 100000
/-- A mark as a value. -/
def mkV (m : Mk) : Value := .agg #[.int .i64 m.kind, .int .i64 m.gen, .int .i64 m.seq, .int .i64 m.n]

/-! ### Need -/
theorem need_any (n : Int) (w : World) (h : in64 n) : Calls Try.prog 16 #[.int .i64 n] w fun e w' => e = .returned (.int .i64 (needI n)) ∧ w = w' := by
  obtain ⟨h1, h2⟩ := h
  by_cases hn : n ≤ 0
  · have HN : Hid (needI n = 0) := Lib.hid (by unfold needI; rw [if_pos hn])
    rw [HN.out]
    go_enter Try.func16, Try.ntmps16
    go_wp2
    go_ret
    exact ⟨rfl, rfl⟩
  · have HN : Hid (needI n = (n - 1) / 64 + 1) := Lib.hid (by unfold needI; rw [if_neg hn])
    have hn1 : 0 < n := by omega
    rw [HN.out]
    clear hn HN
    go_enter Try.func16, Try.ntmps16
    go_wp2
    go_ret
    exact ⟨rfl, rfl⟩
theorem rneed_any (n : Int) (w : World) (h : in64 n) : Calls Try.prog 17 #[.int .i64 n] w fun e w' => e = .returned (.int .i64 (needI n)) ∧ w = w' := by
  obtain ⟨h1, h2⟩ := h
  by_cases hn : n ≤ 0
  · have HN : Hid (needI n = 0) := Lib.hid (by unfold needI; rw [if_pos hn])
    rw [HN.out]
    go_enter Try.func17, Try.ntmps17
    go_wp2
    go_ret
    exact ⟨rfl, rfl⟩
  · have HN : Hid (needI n = (n - 1) / 64 + 1) := Lib.hid (by unfold needI; rw [if_neg hn])
    have hn1 : 0 < n := by omega
    rw [HN.out]
    clear hn HN
    go_enter Try.func17, Try.ntmps17
    go_wp2
    go_ret
    exact ⟨rfl, rfl⟩

/-! ### Is it a mark -/
theorem right_cases (m : Mk) : (m.right = false ∧ (m.kind < 1 ∨ (1 ≤ m.kind ∧ 255 < m.kind) ∨ (1 ≤ m.kind ∧ m.kind ≤ 255 ∧ m.gen < 0) ∨ (1 ≤ m.kind ∧ m.kind ≤ 255 ∧ 0 ≤ m.gen ∧ m.seq < 0) ∨ (1 ≤ m.kind ∧ m.kind ≤ 255 ∧ 0 ≤ m.gen ∧ 0 ≤ m.seq ∧ m.n < 0))) ∨
    (m.right = true ∧ 1 ≤ m.kind ∧ m.kind ≤ 255 ∧ 0 ≤ m.gen ∧ 0 ≤ m.seq ∧ 0 ≤ m.n) := by
  cases h : m.right with
  | true => exact .inr ⟨rfl, right_iff.1 h⟩
  | false =>
    refine .inl ⟨rfl, ?_⟩
    have hno : ¬ (1 ≤ m.kind ∧ m.kind ≤ 255 ∧ 0 ≤ m.gen ∧ 0 ≤ m.seq ∧ 0 ≤ m.n) := fun k => by rw [right_iff.2 k] at h; cases h
    by_cases h1 : 1 ≤ m.kind <;> by_cases h2 : m.kind ≤ 255 <;> by_cases h3 : 0 ≤ m.gen <;> by_cases h4 : 0 ≤ m.seq <;> by_cases h5 : 0 ≤ m.n <;> omega
theorem alloc_below (w : World) (o : Obj) : Below w.heap.size w (w.alloc o) := (Below.refl _ w).alloc (Nat.le_refl _) o
set_option maxHeartbeats 1000000 in
theorem right_any (m : Mk) (w : World) : Calls Try.prog 23 #[mkV m] w (EndsBelow (.bool m.right) w) := by
  have hr := right_cases m
  obtain ⟨k, g, s, n⟩ := m
  dsimp only [mkV] at hr ⊢
  rcases hr with ⟨hb, h | ⟨h, h2⟩ | ⟨h, h2, h3⟩ | ⟨h, h2, h3, h4⟩ | ⟨h, h2, h3, h4, h5⟩⟩ | ⟨hb, h, h2, h3, h4, h5⟩
  all_goals
    rw [hb]
    clear hb
    try (have hd : decide (0 ≤ n) = false := by simpa using h5)
    go_enter Try.func23, Try.ntmps23
    go_wp2
    go_ret
    exact ⟨rfl, alloc_below _ _⟩
set_option maxHeartbeats 1000000 in
theorem rright_any (m : Mk) (w : World) : Calls Try.prog 18 #[mkV m] w (EndsBelow (.bool m.right) w) := by
  have hr := right_cases m
  obtain ⟨k, g, s, n⟩ := m
  dsimp only [mkV] at hr ⊢
  rcases hr with ⟨hb, h | ⟨h, h2⟩ | ⟨h, h2, h3⟩ | ⟨h, h2, h3, h4⟩ | ⟨h, h2, h3, h4, h5⟩⟩ | ⟨hb, h, h2, h3, h4, h5⟩
  all_goals
    rw [hb]
    clear hb
    try (have hd : decide (0 ≤ n) = false := by simpa using h5)
    go_enter Try.func18, Try.ntmps18
    go_wp2
    go_ret
    exact ⟨rfl, alloc_below _ _⟩

/-! ### Equal -/
theorem beq_dec (xs ys : List UInt8) : (xs == ys) = decide (xs = ys) := by
  rw [Bool.eq_iff_iff]
  simp
set_option maxHeartbeats 400000 in
theorem equal_any (w : World) (B B' n n' c c' : Nat) (A A' : Option Addr) (xs ys : List UInt8) (h : Byts w B A n xs) (h' : Byts w B' A' n' ys) :
    Calls Try.prog 20 #[.slice A n c, .slice A' n' c'] w fun e w' => e = .returned (.bool (decide (xs = ys))) ∧ w = w' := by
  have h1 := run_string_of w B n c A xs h
  have h2 := run_string_of w B' n' c' A' ys h'
  clear h h'
  go_enter Try.func20, Try.ntmps20
  go_wp2
  go_ret
  refine ⟨?_, rfl⟩
  simp
  exact beq_dec xs ys
end Go.Proofs.Ytpbojepliddflaa.Frm
