/-
  The reader's endLine: a sign ; behind the last word, if that may end a statement. Conditions: sizes.
-/
import Derived.Test.YtjgkfdhfffbccaaDoorLCut
namespace Go.Proofs.YtjgkfdhfffbccaaDoor.Lex
open Go.RowKit
open Num (EndsW)
set_option maxRecDepth 100000
theorem Step.same {w w' : World} {lo g : Nat} {v : Value} {l : List UInt8} {ws : List Wd} (h : Rd w lo g l ws v) (hb : Below w.heap.size w w') (r : Value) : Step w lo g v r l ws (.returned r) w' :=
  ⟨rfl, v, h.below hb, (Turn.refl _ w).below hb, fun _ hk => .inl hk⟩
theorem endLn_nil : endLn [] = [] := rfl
theorem endLn_yes {ws : List Wd} {x : Wd} (h : ws.getLast? = some x) (hm : mayB x = true) : endLn ws = ws ++ [semi] := by unfold endLn; rw [h]; simp [hm]
theorem endLn_no {ws : List Wd} {x : Wd} (h : ws.getLast? = some x) (hm : mayB x = false) : endLn ws = ws := by unfold endLn; rw [h]; simp [hm]
set_option maxHeartbeats 2000000 in
theorem end_any (w : World) (lo g : Nat) (l : List UInt8) (ws : List Wd) (v : Value) (h : Rd w lo g l ws v) (hl : ws.length ≤ 100000) (hlo : lo ≤ w.heap.size) :
    Calls Tryd.prog 28 #[.pointer (some ⟨g, 0, none⟩)] w (Step w lo g v (.tuple #[]) l (endLn ws)) := by
  have HH := Lib.hid h
  have HLO := Lib.hid hlo
  have c1 := cell_at h.at_ 1
  rcases List.eq_nil_or_concat ws with rfl | ⟨r, x, rfl⟩
  · obtain ⟨A, c, rfl⟩ := h.own.form
    clear h hl hlo
    rw [endLn_nil]
    go_enter Tryd.func28, Tryd.ntmps28
    go_wp2
    go_end0
    exact Step.same HH.out (Below.refl _ _) _
  · obtain ⟨b, cap, rfl, hlob, hbw⟩ := World.ownsRow.form h.own (by simp)
    have hc := h.own.wds (by simp)
    obtain ⟨b', o, e, _, hc⟩ := hc
    injection e with e
    injection e with e1 e2
    subst e1; subst e2
    obtain ⟨g0, g1, g2⟩ := hc r.length x (by simp)
    obtain ⟨k, s, n⟩ := x
    simp only [Nat.zero_add] at g0 g1 g2
    have HL : Hid ((r ++ [(⟨k, s, n⟩ : Wd)]).getLast? = some ⟨k, s, n⟩) := Lib.hid (by simp)
    have hlen : (r ++ [(⟨k, s, n⟩ : Wd)]).length = r.length + 1 := by simp
    have hl' : r.length + 1 ≤ 100000 := by simpa using hl
    have HR : Hid ((r ++ [(⟨k, s, n⟩ : Wd)]).length ≤ 1000000) := Lib.hid (by omega)
    have HB : Hid (r.length ≤ 100000) := Lib.hid (by omega)
    rw [List.concat_eq_append] at *
    rw [hlen] at HH c1
    clear h hl hl' hlo hlob hbw hc hlen
    have hr := HB.out
    clear HB
    generalize r.length = m at *
    generalize hb' : bs s = S at *
    have HBS := Lib.hid hb'
    clear hb'
    rcases Bool.eq_false_or_eq_true (mayB ⟨k, s, n⟩) with hm | hm
    · have CM := fun w' => Lib.hid (show Calls Tryd.prog 40 #[.agg #[.int .i64 k, .string S, .int .i64 n]] w' (EndsB (.bool true) w') by have := may_any ⟨k, s, n⟩ w'; rw [hm] at this; unfold wdV at this; rw [HBS.out] at this; exact this)
      rw [endLn_yes HL.out hm]
      clear hm HL
      go_enter Tryd.func28, Tryd.ntmps28
      go_wp2_with fail
      refine (CM _).out.mono ?_
      rintro e w1 ⟨rfl, hb1⟩
      have HG := Lib.hid (HH.out.below hb1)
      have HT := Lib.hid ((Turn.refl (mine g (.slice (some ⟨b, 0, none⟩) (m + 1) cap)) w).below hb1)
      have HL1 : Hid (lo ≤ w1.heap.size) := Lib.hid (Nat.le_trans HLO.out hb1.size)
      clear hb1 c1 g0 g1 g2
      have CA := Lib.hid (add_any w1 lo g l _ _ semi HG.out (by decide) HR.out HL1.out)
      go_wp2_with fail
      refine CA.out.mono ?_
      intro e w2 hs
      obtain ⟨rfl, v2, hs⟩ := Step.then_ HT.out (fun _ hk => .inl hk) hs
      have HS := Lib.hid hs
      clear hs
      go_wp2_with fail
      go_end0
      exact ⟨rfl, v2, HS.out⟩
    · have CM := fun w' => Lib.hid (show Calls Tryd.prog 40 #[.agg #[.int .i64 k, .string S, .int .i64 n]] w' (EndsB (.bool false) w') by have := may_any ⟨k, s, n⟩ w'; rw [hm] at this; unfold wdV at this; rw [HBS.out] at this; exact this)
      rw [endLn_no HL.out hm]
      clear hm HL
      go_enter Tryd.func28, Tryd.ntmps28
      go_wp2_with fail
      refine (CM _).out.mono ?_
      rintro e w1 ⟨rfl, hb1⟩
      have HS : Hid (Step w lo g (.slice (some ⟨b, 0, none⟩) (m + 1) cap) (.tuple #[]) l (r ++ [⟨k, s, n⟩]) (.returned (.tuple #[])) w1) := Lib.hid (Step.same HH.out hb1 _)
      clear hb1 c1 g0 g1 g2
      go_wp2_with fail
      go_end0
      exact HS.out
end Go.Proofs.YtjgkfdhfffbccaaDoor.Lex
