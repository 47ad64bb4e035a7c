/-
  The law's num, light, knows. Conditions: the list lies in memory.
-/
import Derived.Test.YtofadlenblobnaaUDec
namespace Go.Proofs.Ytofadlenblobnaa.Exp
open Go.RowKit Codec Typ Tre
open OwnR (OwnG)
open Cod (Byts bytesOf)
set_option maxRecDepth 100000
set_option linter.unusedSimpArgs false
theorem num_any (n : Int) (w : World) : Calls Try.prog 11 #[.int .i64 n] w (EndsW (.int .i64 n) w) := by
  go_enter Try.func11, Try.ntmps11
  go_wp2
  go_ret
  exact ⟨rfl, rfl⟩
def SmallG (g : Sg) : Prop := g.s.size ≤ 300 ∧ g.p.length ≤ 50
structure LightL (l : List Sg) : Prop where
  few : l.length ≤ 60
  all : ∀ g ∈ l, SmallG g
def Lit (l : List Sg) (w : World) (e : Ending) (w' : World) : Prop := ∃ t : Bool, e = .returned (.bool t) ∧ (t = true → LightL l) ∧ w = w'
theorem lit_no {l : List Sg} {w : World} : Lit l w (.returned (.bool false)) w := ⟨false, rfl, fun h => by simp at h, rfl⟩
theorem lit_yes {l : List Sg} {w : World} {b : Bool} (h : b = true → LightL l) : Lit l w (.returned (.bool b)) w := ⟨b, rfl, h, rfl⟩
set_option maxHeartbeats 8000000 in
theorem light_any (l : List Sg) (A : Option Addr) (c n : Nat) (w : World) (hn : l.length = n) (hr : Row 3 sgC w A l) (hlen : n ≤ 9223372036854775807) :
    Calls Try.prog 5 #[.slice A n c] w (Lit l w) := by
  have HR := Lib.hid hr
  have HN := Lib.hid hn
  clear hr hn
  go_enter Try.func5, Try.ntmps5
  go_wp2_with fail
  go_loop [3] (fun i => ∃ k : Nat, k ≤ n ∧ k ≤ 100 ∧ i = .int .i64 k ∧ Hid (∀ (j : Nat) (x : Sg), j < k → l[j]? = some x → SmallG x)) (fun i => n - (intOf i).toNat)
  case atStart => exact ⟨0, Nat.zero_le _, Nat.zero_le _, rfl, Lib.hid (fun j x h => by omega)⟩
  case round =>
    obtain ⟨k, hk, hk1, rfl, hs⟩ := hrel
    by_cases hlt : k < n
    · by_cases h1 : k < 100
      · obtain ⟨x, hx⟩ : ∃ x, l[k]? = some x := ⟨_, List.getElem?_eq_getElem (by rw [HN.out]; exact hlt)⟩
        obtain ⟨b1, o1, rfl, hc1⟩ := HR.out.at_ (Below.refl _ _) hx
        obtain ⟨p0, p1, p2⟩ := sgC_at hc1
        obtain ⟨xs, xa, xc, xp, xr⟩ := x
        have HX := Lib.hid hx
        clear hc1 hx
        have d1 : decide ((k : Int) < 100) = true := by simp; omega
        by_cases h3 : 300 < xs.size
        · have e1 : decide ((300 : Int) < (xs.size : Int)) = true := by simp; omega
          go_wp2_with fail
          go_ret
          exact lit_no
        · have e1 : decide ((300 : Int) < (xs.size : Int)) = false := by simp; omega
          by_cases h5 : 50 < xp.length
          · have e2 : decide ((50 : Int) < (xp.length : Int)) = true := by simp; omega
            go_wp2_with fail
            go_ret
            exact lit_no
          · have e2 : decide ((50 : Int) < (xp.length : Int)) = false := by simp; omega
            have HM : Hid (∀ (j : Nat) (x : Sg), j < k + 1 → l[j]? = some x → SmallG x) := Lib.hid (fun j y hj hy => by
              by_cases e : j = k
              · subst e
                rw [HX.out] at hy
                injection hy with hy
                subst hy
                exact ⟨by show xs.size ≤ 300; omega, by show xp.length ≤ 50; omega⟩
              · exact hs.out j y (by omega) hy)
            go_wp2_with fail
            go_round
            case rel => exact ⟨k + 1, by omega, by omega, by go_num, HM⟩
            case measure => simp [intOf]; omega
      · have d1 : decide ((k : Int) < 100) = false := by simp; omega
        have e1 : decide ((n : Int) ≤ 60) = false := by simp; omega
        go_wp2_with fail
        go_ret
        exact lit_no
    · obtain rfl : k = n := by omega
      go_wp2_with fail
      go_ret
      refine lit_yes fun h => ⟨by have := HN.out; simp at h; omega, fun g hg => ?_⟩
      obtain ⟨j, hj, e⟩ := List.getElem_of_mem hg
      exact hs.out j g (by have := HN.out; omega) (by rw [List.getElem?_eq_getElem hj, e])
end Go.Proofs.Ytofadlenblobnaa.Exp
