/-
  What the program's Reader reads and tells: Num, Small, Count, Text, Good, Left, End, Read; nobody's Reader. Conditions: the Reader's block is known.
-/
import Derived.Test.YtofadlenblobnaaCTake
namespace Go.Proofs.Ytofadlenblobnaa.Cod
open Go.RowKit Codec
set_option maxRecDepth 100000
theorem Turned.of {T : TypeId} {w w' : World} {B g : Nat} {u v : Value} {s : St} {e : Ending} (h : Turned T w B g u s e w') (hv : u = v) : Turned T w B g v s e w' := by subst hv; exact h
theorem signed_of (n : Nat) (h : n < 18446744073709551616) : wrap64 (n : Int) = signed n := by
  unfold wrap64 signed
  split <;> omega
theorem num_lt (s : St) : leVal (tk 8 s) < 18446744073709551616 := by
  have h := leVal_lt (tk 8 s)
  have h2 : 256 ^ (tk 8 s).length ≤ 256 ^ 8 := Nat.pow_le_pow_right (by decide) (take_le 8 s)
  omega
set_option maxHeartbeats 400000 in
theorem small_any (w : World) (B g : Nat) (s : St) (hr : Rdr 65 w B g s) :
    Calls Try.prog 34 #[.pointer (some ⟨g, 0, none⟩)] w (Turned 65 w B g (.int .i64 (small s)) (tkS 2 s)) := by
  have HN := Lib.hid (number_any w B g 2 s hr (by decide))
  have hx : small s < 65536 := small_lt s
  have e : leVal (tk 2 s) = small s := rfl
  rw [e] at HN
  clear hr e
  generalize small s = x at *
  generalize tkS 2 s = s1 at *
  go_enter Try.func34, Try.ntmps34
  go_wp2_with fail
  refine HN.out.mono ?_
  rintro e w1 ⟨rfl, hw, hg⟩
  have HW := Lib.hid hw
  have HG := Lib.hid hg
  clear hw hg
  go_wp2_with fail
  go_ret
  exact ⟨rfl, HW.out, HG.out⟩
set_option maxHeartbeats 400000 in
theorem count_any (w : World) (B g : Nat) (most : Int) (s : St) (hr : Rdr 65 w B g s) :
    Calls Try.prog 20 #[.pointer (some ⟨g, 0, none⟩), .int .i64 most] w (Turned 65 w B g (.int .i64 (count most s)) (countS most s)) := by
  have HN := Lib.hid (small_any w B g s hr)
  have hx : small s < 65536 := small_lt s
  by_cases ho : most < (small s : Int)
  · have H1 : Hid (count most s = 0) := by unfold count over; rw [decide_eq_true ho]; exact Lib.hid rfl
    have H2 : Hid (countS most s = ⟨[], true⟩) := by unfold countS over; rw [decide_eq_true ho]; exact Lib.hid rfl
    clear hr
    generalize count most s = y at *
    generalize countS most s = s2 at *
    generalize small s = x at *
    generalize tkS 2 s = s1 at *
    go_enter Try.func20, Try.ntmps20
    go_wp2_with fail
    refine HN.out.mono ?_
    rintro e w1 ⟨rfl, hw, hg⟩
    have HG := Lib.hid hg
    have HR := Lib.hid (refuse_true w1 B g s1 hw)
    clear hw hg
    go_wp2_with fail
    refine HR.out.mono ?_
    rintro e w2 ⟨rfl, hw, hg⟩
    have HW := Lib.hid hw
    have HG2 := Lib.hid hg
    clear hw hg
    go_wp2_with fail
    go_ret
    rw [H1.out, H2.out]
    exact ⟨rfl, HW.out, grown_trans HG.out HG2.out⟩
  · have H1 : Hid (count most s = small s) := by unfold count over; rw [decide_eq_false ho]; exact Lib.hid rfl
    have H2 : Hid (countS most s = tkS 2 s) := by unfold countS over; rw [decide_eq_false ho]; exact Lib.hid rfl
    clear hr
    rw [H1.out, H2.out]
    clear H1 H2
    generalize small s = x at *
    generalize tkS 2 s = s1 at *
    go_enter Try.func20, Try.ntmps20
    go_wp2_with fail
    refine HN.out.mono ?_
    rintro e w1 ⟨rfl, hw, hg⟩
    have HW := Lib.hid hw
    have HG := Lib.hid hg
    clear hw hg
    go_wp2_with fail
    go_ret
    exact ⟨rfl, HW.out, HG.out⟩
set_option maxHeartbeats 400000 in
theorem text_any (w : World) (B g : Nat) (most : Int) (s : St) (hr : Rdr 65 w B g s) :
    Calls Try.prog 36 #[.pointer (some ⟨g, 0, none⟩), .int .i64 most] w (Turned 65 w B g (.string ⟨(text most s).toArray⟩) (textS most s)) := by
  have HN := Lib.hid (count_any w B g most s hr)
  have HT := Lib.hid (fun w1 (h : Rdr 65 w1 B g (countS most s)) => take_any w1 B g (count most s) (countS most s) h)
  have H1 : Hid (tk (count most s) (countS most s) = text most s) := Lib.hid rfl
  have H2 : Hid (tkS (count most s) (countS most s) = textS most s) := Lib.hid rfl
  rw [H1.out, H2.out] at HT
  clear hr H1 H2
  generalize count most s = n at *
  generalize countS most s = s1 at *
  generalize text most s = xs at *
  generalize textS most s = s2 at *
  go_enter Try.func36, Try.ntmps36
  go_wp2_with fail
  refine HN.out.mono ?_
  rintro e w1 ⟨rfl, hw, hg⟩
  have HG := Lib.hid hg
  have HT1 := Lib.hid (HT.out w1 hw)
  clear hw hg
  go_wp2_with fail
  refine HT1.out.mono ?_
  rintro e w2 ⟨A, m, c, rfl, hb, hw, hg⟩
  have HW := Lib.hid hw
  have HG2 := Lib.hid hg
  have hcv := run_string_of w2 B m c A xs hb
  clear hw hg hb
  go_wp2_with fail
  go_ret
  exact ⟨rfl, HW.out, grown_trans HG.out HG2.out⟩
theorem good_any (w : World) (B g : Nat) (s : St) (hr : Rdr 65 w B g s) : Calls Try.prog 38 #[.pointer (some ⟨g, 0, none⟩)] w fun e w' => e = .returned (.bool (!s.bad)) ∧ w = w' := by
  obtain ⟨_, _, A, n, c, hg, _⟩ := hr
  have c1 : w.cell? ⟨g, 1, none⟩ = some (.bool s.bad) := cell_at hg 1
  clear hg
  generalize s.bad = b at *
  cases b
  · go_enter Try.func38, Try.ntmps38
    go_wp2
    go_ret
    exact ⟨rfl, rfl⟩
  · go_enter Try.func38, Try.ntmps38
    go_wp2
    go_ret
    exact ⟨rfl, rfl⟩
theorem left_any (w : World) (B g : Nat) (s : St) (hr : Rdr 65 w B g s) : Calls Try.prog 39 #[.pointer (some ⟨g, 0, none⟩)] w fun e w' => e = .returned (.int .i64 s.left.length) ∧ w = w' := by
  obtain ⟨_, _, A, n, c, hg, hb, _⟩ := hr
  have c0 : w.cell? ⟨g, 0, none⟩ = some (.slice A n c) := cell_at hg 0
  have hl := hb.len
  subst hl
  clear hg hb
  go_enter Try.func39, Try.ntmps39
  go_wp2
  go_ret
  exact ⟨rfl, rfl⟩
/-- Good, and nothing left. -/
def endB (s : St) : Bool := !s.bad && decide (s.left.length = 0)
set_option maxHeartbeats 400000 in
theorem end_any (w : World) (B g : Nat) (s : St) (hr : Rdr 65 w B g s) : Calls Try.prog 22 #[.pointer (some ⟨g, 0, none⟩)] w fun e w' => e = .returned (.bool (endB s)) ∧ w = w' := by
  have HG := Lib.hid (good_any w B g s hr)
  have HL := Lib.hid (left_any w B g s hr)
  clear hr
  unfold endB
  generalize s.left.length = n at *
  generalize s.bad = b at *
  cases b
  · by_cases h0 : n = 0
    · subst h0
      go_enter Try.func22, Try.ntmps22
      go_wp2_with fail
      refine HG.out.mono ?_
      rintro e w1 ⟨rfl, rfl⟩
      go_wp2_with fail
      refine HL.out.mono ?_
      rintro e w1 ⟨rfl, rfl⟩
      go_wp2_with fail
      go_ret
      exact ⟨rfl, rfl⟩
    · have h1 : ((n : Int) == 0) = false := by simp; omega
      have HF : Hid (decide (n = 0) = false) := Lib.hid (by simpa using h0)
      rw [HF.out]
      clear HF h0
      go_enter Try.func22, Try.ntmps22
      go_wp2_with fail
      refine HG.out.mono ?_
      rintro e w1 ⟨rfl, rfl⟩
      go_wp2_with fail
      refine HL.out.mono ?_
      rintro e w1 ⟨rfl, rfl⟩
      go_wp2_with fail
      go_ret
      exact ⟨rfl, rfl⟩
  · go_enter Try.func22, Try.ntmps22
    go_wp2_with fail
    refine HG.out.mono ?_
    rintro e w1 ⟨rfl, rfl⟩
    go_wp2_with fail
    go_ret
    exact ⟨rfl, rfl⟩

/-! ### Nobody's Reader -/
theorem rnumber_none (w : World) (v : Value) : Calls Try.prog 47 #[.pointer none, v] w fun e w' => e = .returned (.int .u64 0) ∧ w = w' := by
  go_enter Try.func47, Try.ntmps47
  go_wp2_with fail
  refine (take_none _ _).mono ?_
  rintro e w1 ⟨rfl, rfl⟩
  go_wp2_with fail
  go_loop [5, 12] (fun r i => i = .int .i64 0 ∧ r = .int .u64 0) (fun _ _ => 0)
  case atStart => exact ⟨rfl, rfl⟩
  case round =>
    obtain ⟨rfl, rfl⟩ := hrel
    go_wp2
    go_ret
    exact ⟨rfl, rfl⟩
theorem rsmall_none (w : World) : Calls Try.prog 34 #[.pointer none] w fun e w' => e = .returned (.int .i64 0) ∧ w = w' := by
  go_enter Try.func34, Try.ntmps34
  go_wp2_with fail
  refine (rnumber_none _ _).mono ?_
  rintro e w1 ⟨rfl, rfl⟩
  go_wp2_with fail
  go_ret
  exact ⟨rfl, rfl⟩
theorem rcount_none (w : World) (most : Int) (hm : 0 ≤ most) : Calls Try.prog 20 #[.pointer none, .int .i64 most] w fun e w' => e = .returned (.int .i64 0) ∧ w = w' := by
  go_enter Try.func20, Try.ntmps20
  go_wp2_with fail
  refine (rsmall_none _).mono ?_
  rintro e w1 ⟨rfl, rfl⟩
  go_wp2_with fail
  go_ret
  exact ⟨rfl, rfl⟩
theorem rtext_none (w : World) (most : Int) (hm : 0 ≤ most) : Calls Try.prog 36 #[.pointer none, .int .i64 most] w fun e w' => e = .returned (.string ⟨#[]⟩) ∧ w = w' := by
  have hcv := run_string_of w 0 0 0 none [] Byts.none_
  go_enter Try.func36, Try.ntmps36
  go_wp2_with fail
  refine (rcount_none _ _ hm).mono ?_
  rintro e w1 ⟨rfl, rfl⟩
  go_wp2_with fail
  refine (take_none _ _).mono ?_
  rintro e w1 ⟨rfl, rfl⟩
  go_wp2_with fail
  go_ret
  exact ⟨rfl, rfl⟩
theorem rgood_none (w : World) : Calls Try.prog 38 #[.pointer none] w fun e w' => e = .returned (.bool true) ∧ w = w' := by
  go_enter Try.func38, Try.ntmps38
  go_wp2
  go_ret
  exact ⟨rfl, rfl⟩
theorem rleft_none (w : World) : Calls Try.prog 39 #[.pointer none] w fun e w' => e = .returned (.int .i64 0) ∧ w = w' := by
  go_enter Try.func39, Try.ntmps39
  go_wp2
  go_ret
  exact ⟨rfl, rfl⟩
theorem rend_none (w : World) : Calls Try.prog 22 #[.pointer none] w fun e w' => e = .returned (.bool true) ∧ w = w' := by
  go_enter Try.func22, Try.ntmps22
  go_wp2_with fail
  refine (rgood_none _).mono ?_
  rintro e w1 ⟨rfl, rfl⟩
  go_wp2_with fail
  refine (rleft_none _).mono ?_
  rintro e w1 ⟨rfl, rfl⟩
  go_wp2_with fail
  go_ret
  exact ⟨rfl, rfl⟩

/-! ### A Reader of bytes -/
def Opened (w : World) (xs : List UInt8) (e : Ending) (w' : World) : Prop := ∃ B g, e = .returned (.pointer (some ⟨g, 0, none⟩)) ∧ Rdr 65 w' B g ⟨xs, false⟩ ∧ w.heap.size ≤ B ∧ Below w.heap.size w w'
theorem read_any (w : World) (B m c : Nat) (A : Option Addr) (ys : List UInt8) (hr : Byts w B A m ys) (hB : B ≤ w.heap.size) (hn : m ≤ 1000000000) :
    Calls Try.prog 19 #[.slice A m c] w (Opened w ys) := by
  have HC := Lib.hid (clone_any w B m c A ys hr hB hn)
  clear hr
  go_enter Try.func19, Try.ntmps19
  go_wp2_with fail
  refine HC.out.mono ?_
  rintro e w1 ⟨A1, c1, rfl, ho, hb⟩
  have HO := Lib.hid ho
  have HB := Lib.hid hb
  clear ho hb
  go_wp2_with fail
  go_ret
  obtain ⟨A2, c2, e2, h1, h2⟩ := Owns.form HO.out
  obtain ⟨rfl, rfl⟩ : A1 = A2 ∧ c1 = c2 := by injection e2 with a b c; exact ⟨a, c⟩
  exact ⟨w1.heap.size, w1.heap.size, rfl, ⟨goodOk _, Nat.le_refl _, A1, m, c1, heap_alloc_new w1 _, (HO.out.byts).alloc (Nat.le_refl _) _, h1, h2, hn⟩, HB.out.size, HB.out.alloc HB.out.size _⟩
end Go.Proofs.Ytofadlenblobnaa.Cod
