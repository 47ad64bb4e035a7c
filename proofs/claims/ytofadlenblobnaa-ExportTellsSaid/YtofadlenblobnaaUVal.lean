/-
  The program's value and typed. Conditions: what is asked lies in memory.
-/
import Derived.Test.YtofadlenblobnaaUMath
import Derived.Test.YtofadlenblobnaaOwn
namespace Go.Proofs.Ytofadlenblobnaa.Exp
open Go.RowKit Typ Codec Tre
set_option maxRecDepth 100000
theorem ends_w {a b : Bool} {w : World} (h : a = b) : EndsW (.bool b) w (.returned (.bool a)) w := ⟨by rw [h], rfl⟩
theorem value_any (t : Int) (w : World) : Calls Try.prog 43 #[.int .u8 t] w (EndsW (.bool (valT t)) w) := by
  rcases Bool.eq_false_or_eq_true (t == 1) with h | h
  · have H := Lib.hid (show valT t = true by unfold valT; rw [h]; rfl)
    go_enter Try.func43, Try.ntmps43
    go_wp2
    go_ret
    exact ends_w H.out.symm
  · rcases Bool.eq_false_or_eq_true (t == 2) with h2 | h2
    · have H := Lib.hid (show valT t = true by unfold valT; rw [h2]; cases (t == 1) <;> rfl)
      go_enter Try.func43, Try.ntmps43
      go_wp2
      go_ret
      exact ends_w H.out.symm
    · have H := Lib.hid (show valT t = false by unfold valT; rw [h, h2]; rfl)
      go_enter Try.func43, Try.ntmps43
      go_wp2
      go_ret
      exact ends_w H.out.symm
theorem all_of {l : List Int} {n : Nat} (hn : l.length = n) (h : ∀ (j : Nat) (x : Int), j < n → l[j]? = some x → valT x = true) : l.all valT = true := by
  rw [List.all_eq_true]
  intro x hx
  obtain ⟨j, hj, e⟩ := List.getElem_of_mem hx
  exact h j x (by omega) (by rw [List.getElem?_eq_getElem hj, e])
theorem all_no {l : List Int} {k : Nat} {x : Int} (hx : l[k]? = some x) (h : valT x = false) : l.all valT = false := by
  rw [Bool.eq_false_iff, ne_eq, List.all_eq_true]
  intro ha
  rw [ha x (List.mem_of_getElem? hx)] at h
  cases h
theorem more_v {l : List Int} {k : Nat} {x : Int} (h : ∀ (j : Nat) (x : Int), j < k → l[j]? = some x → valT x = true) (hx : l[k]? = some x) (hv : valT x = true) : ∀ (j : Nat) (x : Int), j < k + 1 → l[j]? = some x → valT x = true := by
  intro j y hj hy
  by_cases e : j = k
  · subst e
    rw [hx] at hy
    injection hy with hy
    rw [← hy]
    exact hv
  · exact h j y (by omega) hy
set_option maxHeartbeats 4000000 in
theorem typed_at (gs : ByteArray) (ga : Option Addr) (gc n : Nat) (gp : List Int) (gr : Int) (w : World) (hn : gp.length = n) (hr : Row 1 tyC w ga gp) (hlen : n ≤ 9223372036854775807) :
    Calls Try.prog 27 #[.agg #[.string gs, .slice ga n gc, .int .u8 gr]] w (EndsB (.bool (!decide (4 < n) && (gp.all valT && resT gr))) w) := by
  have hb0 := ball_new w #[.string gs, .slice ga n gc, .int .u8 gr] 37
  have n0 := new_at w #[.string gs, .slice ga n gc, .int .u8 gr] 37
  have HR := Lib.hid (hr.below hb0)
  obtain ⟨W0, hW0⟩ : ∃ W0, w.alloc (.cells #[.string gs, .slice ga n gc, .int .u8 gr] 37) = W0 := ⟨_, rfl⟩
  rw [hW0] at hb0 n0 HR
  have HB := Lib.hid hb0
  have z1 : W0.cell? ⟨w.heap.size, 1, none⟩ = some (.slice ga n gc) := cell_at n0 1
  have z2 : W0.cell? ⟨w.heap.size, 2, none⟩ = some (.int .u8 gr) := cell_at n0 2
  have HN := Lib.hid hn
  clear hb0 n0 hr hn
  by_cases h4 : 4 < n
  · have H := Lib.hid (show (!decide (4 < n) && (gp.all valT && resT gr)) = false by rw [decide_eq_true h4]; rfl)
    have h4' : decide ((4 : Int) < (n : Int)) = true := by simp; omega
    go_enter Try.func27, Try.ntmps27
    go_wp2_with fail
    go_ret
    exact ends_bool H.out.symm HB.out
  have H := Lib.hid (show (!decide (4 < n) && (gp.all valT && resT gr)) = (gp.all valT && resT gr) by rw [decide_eq_false h4]; rfl)
  have h4' : decide ((4 : Int) < (n : Int)) = false := by simp; omega
  go_enter Try.func27, Try.ntmps27
  go_wp2_with fail
  go_loopw [12] (fun i wr => ∃ k : Nat, k ≤ n ∧ i = .int .i64 k ∧ wr = W0 ∧ Hid (∀ (j : Nat) (x : Int), j < k → gp[j]? = some x → valT x = true)) (fun i _ => n - (intOf i).toNat)
  case atStart => exact ⟨0, Nat.zero_le _, rfl, rfl, Lib.hid (fun j x h => by omega)⟩
  case round =>
    obtain ⟨k, hk, rfl, rfl, hs⟩ := hrel
    by_cases hlt : k < n
    · obtain ⟨x, hx⟩ : ∃ x, gp[k]? = some x := ⟨_, List.getElem?_eq_getElem (by rw [HN.out]; exact hlt)⟩
      obtain ⟨b1, o1, rfl, hc1⟩ := HR.out.at_ (Below.refl _ _) hx
      have p0 := hc1 0 _ rfl
      simp only [Nat.add_zero, Nat.mul_one] at p0
      have HX := Lib.hid hx
      have HS := hs
      clear hc1 hx hs
      rcases Bool.eq_false_or_eq_true (valT x) with hv | hv
      · have CV := Lib.hid (show Calls Try.prog 43 #[.int .u8 x] wr (EndsW (.bool true) wr) by have := value_any x wr; rwa [hv] at this)
        have HM := Lib.hid (more_v HS.out HX.out hv)
        clear hv
        go_wp2_with (go_at_call 43; refine CV.out.mono ?_; rintro e w' ⟨rfl, rfl⟩)
        go_roundw
        case rel => exact ⟨k + 1, by omega, by go_num, by first | rfl | trivial, HM⟩
        case measure => simp [intOf]; omega
      · have CV := Lib.hid (show Calls Try.prog 43 #[.int .u8 x] wr (EndsW (.bool false) wr) by have := value_any x wr; rwa [hv] at this)
        have HF := Lib.hid (show (!decide (4 < n) && (gp.all valT && resT gr)) = false by rw [H.out, all_no HX.out hv]; rfl)
        clear hv
        go_wp2_with (go_at_call 43; refine CV.out.mono ?_; rintro e w' ⟨rfl, rfl⟩)
        go_ret
        exact ends_bool HF.out.symm HB.out
    · obtain rfl : k = n := by omega
      have HF := Lib.hid (show (!decide (4 < k) && (gp.all valT && resT gr)) = resT gr by rw [H.out, all_of HN.out hs.out]; rfl)
      rcases Bool.eq_false_or_eq_true (gr == 0) with h0 | h0
      · have HG := Lib.hid (show (!decide (4 < k) && (gp.all valT && resT gr)) = true by rw [HF.out]; unfold resT; rw [h0]; rfl)
        go_wp2_with fail
        go_ret
        exact ends_bool HG.out.symm HB.out
      · have HG := Lib.hid (show (!decide (4 < k) && (gp.all valT && resT gr)) = valT gr by rw [HF.out]; unfold resT; rw [h0]; rfl)
        have CV := Lib.hid (value_any gr wr)
        obtain ⟨v, hv⟩ : ∃ v, valT gr = v := ⟨_, rfl⟩
        rw [hv] at HG CV
        clear hv
        go_wp2_with (go_at_call 43; refine CV.out.mono ?_; rintro e w' ⟨rfl, rfl⟩)
        go_ret
        exact ends_bool HG.out.symm HB.out
theorem typed_any (g : Sg) (w : World) (hg : SgIn w g) : Calls Try.prog 27 #[sgV g] w (EndsB (.bool (typedP (coreG g))) w) :=
  typed_at g.s g.a g.c g.p.length g.p g.r w rfl hg.row hg.len
end Go.Proofs.Ytofadlenblobnaa.Exp
