/-
  strings.Cut at a separator of one byte. No condition.
-/
import Derived.Test.YtjgkfdhfffbccaaDoorLName
namespace Go.Proofs.YtjgkfdhfffbccaaDoor.Lex
open Go.RowKit
open Num (EndsW)
set_option maxRecDepth 100000
def cutN (c : UInt8) (l : List UInt8) : Nat := (l.takeWhile fun x => x != c).length
theorem index_yes (c : UInt8) : ∀ l : List UInt8, cutN c l < l.length → Lib.indexByte l c = (cutN c l : Int)
  | [], h => by simp at h
  | x :: r, h => by
    by_cases e : x = c
    · subst e
      simp [cutN, Lib.indexByte]
    · have e1 : (x != c) = true := by simpa using e
      have e2 : (x == c) = false := by simpa using e
      have e3 : cutN c (x :: r) = cutN c r + 1 := by unfold cutN; rw [List.takeWhile_cons, if_pos e1]; simp
      rw [e3] at h
      have ih := index_yes c r (by simpa using h)
      unfold Lib.indexByte
      rw [e2, ih, e3]
      simp
theorem index_no (c : UInt8) : ∀ l : List UInt8, cutN c l = l.length → Lib.indexByte l c = -1
  | [], _ => rfl
  | x :: r, h => by
    by_cases e : x = c
    · subst e
      simp [cutN] at h
    · have e1 : (x != c) = true := by simpa using e
      have e2 : (x == c) = false := by simpa using e
      have e3 : cutN c (x :: r) = cutN c r + 1 := by unfold cutN; rw [List.takeWhile_cons, if_pos e1]; simp
      rw [e3] at h
      have ih := index_no c r (by simpa using h)
      unfold Lib.indexByte
      rw [e2, ih]
      simp
theorem below_drewN (w : World) (n : Nat) : Below w.heap.size w (w.drewN n) := ⟨rfl, rfl, rfl, Nat.le_refl _, fun _ _ => rfl⟩
theorem cutN_le (c : UInt8) (l : List UInt8) : cutN c l ≤ l.length := (List.takeWhile_sublist _).length_le
theorem take_cutN (c : UInt8) (l : List UInt8) : l.take (cutN c l) = l.takeWhile fun x => x != c := take_rowN _ l
def tri (a b : List UInt8) (ok : Bool) : Value := .tuple #[str a, str b, .bool ok]
set_option maxHeartbeats 1000000 in
theorem lcut_yes (l : List UInt8) (c : UInt8) (w : World) (hl : l.length ≤ 1000000) (h : cutN c l < l.length) :
    Calls Tryd.prog 52 #[.string (bs l), .string ⟨#[c]⟩] w (EndsB (tri (l.take (cutN c l)) (l.drop (cutN c l + 1)) true) w) := by
  have CI := Lib.hid (show Calls Tryd.prog 58 #[.string (bs l), .string ⟨#[c]⟩] w (EndsW (.int .i64 (cutN c l : Int)) w) by
    refine (Tryd.stringslite_Index_one (bs l) c w).mono ?_
    rintro e w' ⟨rfl, rfl⟩
    exact ⟨by rw [bs_data, index_yes c l h], rfl⟩)
  have HE1 := Lib.hid (extract_bs l 0 (cutN c l))
  have HE2 := Lib.hid (extract_bs l (cutN c l + 1) l.length)
  have hn1 : cutN c l + 1 ≤ (bs l).size := by rw [bs_size]; omega
  have hl2 : (bs l).size ≤ 1000000 := hl
  clear h hl
  generalize cutN c l = n at *
  have HW := Lib.hid (show IntKind.i64.wrap ((n : Int) + 1) = (n : Int) + 1 by exact IntWalk.i64_in _ (by omega))
  go_enter Tryd.func52, Tryd.ntmps52
  go_wp2_with (go_at_call 58; refine CI.out.mono ?_; rintro e w' ⟨rfl, rfl⟩)
  go_quiet (fail)
  go_wp2
  go_ret3
  refine ⟨?_, below_drewN w nq⟩
  show Ending.returned (Value.tuple #[Value.string ((bs l).extract 0 n), Value.string ((bs l).extract (n + 1) (bs l).size), Value.bool true]) = _
  rw [HE1.out, bs_size, HE2.out, List.drop_zero, Nat.sub_zero, List.take_of_length_le (l := List.drop (n + 1) l) (by simp)]
  rfl
set_option maxHeartbeats 1000000 in
theorem lcut_no (l : List UInt8) (c : UInt8) (w : World) (h : cutN c l = l.length) :
    Calls Tryd.prog 52 #[.string (bs l), .string ⟨#[c]⟩] w (EndsB (tri l [] false) w) := by
  have CI := Lib.hid (show Calls Tryd.prog 58 #[.string (bs l), .string ⟨#[c]⟩] w (EndsW (.int .i64 (-1)) w) by
    refine (Tryd.stringslite_Index_one (bs l) c w).mono ?_
    rintro e w' ⟨rfl, rfl⟩
    exact ⟨by rw [bs_data, index_no c l h], rfl⟩)
  clear h
  go_enter Tryd.func52, Tryd.ntmps52
  go_wp2_with (go_at_call 58; refine CI.out.mono ?_; rintro e w' ⟨rfl, rfl⟩)
  go_ret3
  exact ⟨rfl, Below.refl _ _⟩
theorem cut_yes (l : List UInt8) (c : UInt8) (w : World) (hl : l.length ≤ 1000000) (h : cutN c l < l.length) :
    Calls Tryd.prog 45 #[.string (bs l), .string ⟨#[c]⟩] w (EndsB (tri (l.take (cutN c l)) (l.drop (cutN c l + 1)) true) w) := by
  have C := Lib.hid (lcut_yes l c w hl h)
  unfold tri str at *
  clear h hl
  go_enter Tryd.func45, Tryd.ntmps45
  go_wp2_with (go_at_call 52; refine C.out.mono ?_; rintro e w' ⟨rfl, hb⟩)
  go_ret3
  exact ⟨rfl, hb⟩
theorem cut_no (l : List UInt8) (c : UInt8) (w : World) (h : cutN c l = l.length) :
    Calls Tryd.prog 45 #[.string (bs l), .string ⟨#[c]⟩] w (EndsB (tri l [] false) w) := by
  have C := Lib.hid (lcut_no l c w h)
  unfold tri str at *
  clear h
  go_enter Tryd.func45, Tryd.ntmps45
  go_wp2_with (go_at_call 52; refine C.out.mono ?_; rintro e w' ⟨rfl, hb⟩)
  go_ret3
  exact ⟨rfl, hb⟩
end Go.Proofs.YtjgkfdhfffbccaaDoor.Lex
