/-
  The law, for whatever comes in: true.
-/
import Derived.Test.YthphcidpdjopeaaSafe2
namespace Go.Proofs.Ythphcidpdjopeaa
open Go.RowKit Go.Maps
set_option maxRecDepth 100000 in
set_option maxHeartbeats 1000000 in
theorem safe_long (w : World) (n0 c0 n1 c1 : Nat) (A0 A1 : Option Addr) (h0 : n0 ≤ 9223372036854775807) (h1 : n1 ≤ 9223372036854775807) (hl : 60 < n0 ∨ 100 < n1) :
    Calls Try.prog 3 #[.slice A0 n0 c0, .slice A1 n1 c1] w fun e w' => e = .returned (.bool true) ∧ Below w.heap.size w w' := by
  have HK := Lib.hid (knows_any w)
  have i0 : (n0 : Int) ≤ 9223372036854775807 := by omega
  have i1 : (n1 : Int) ≤ 9223372036854775807 := by omega
  by_cases h60 : 60 < n0
  · have j0 : (60 : Int) < n0 := by omega
    clear hl h60
    go_enter Try.func3, Try.ntmps3
    go_wp2_with fail
    refine HK.out.mono ?_
    rintro e w1 ⟨rfl, hbel⟩
    have HB := Lib.hid hbel
    clear hbel
    go_wp2_with fail
    go_ret
    exact ⟨rfl, HB.out⟩
  · have j0 : (n0 : Int) ≤ 60 := by omega
    have j1 : (100 : Int) < n1 := by omega
    clear hl h60
    go_enter Try.func3, Try.ntmps3
    go_wp2_with fail
    refine HK.out.mono ?_
    rintro e w1 ⟨rfl, hbel⟩
    have HB := Lib.hid hbel
    clear hbel
    go_wp2_with fail
    go_ret
    exact ⟨rfl, HB.out⟩
theorem safe_any (w : World) (n0 c0 n1 c1 : Nat) (A0 A1 : Option Addr) (fs : List Int) (hA : Acts w w.heap.size A0 n0) (hF : NumsB w w.heap.size A1 n1 fs) (h0 : n0 ≤ 9223372036854775807) (h1 : n1 ≤ 9223372036854775807) :
    Calls Try.prog 3 #[.slice A0 n0 c0, .slice A1 n1 c1] w fun e w' => e = .returned (.bool true) ∧ Below w.heap.size w w' := by
  by_cases h60 : n0 ≤ 60
  · by_cases h100 : n1 ≤ 100
    · exact safe_most w n0 c0 n1 c1 A0 A1 fs hA hF h60 h100
    · exact safe_long w n0 c0 n1 c1 A0 A1 h0 h1 (.inr (by omega))
  · exact safe_long w n0 c0 n1 c1 A0 A1 h0 h1 (.inl (by omega))
end Go.Proofs.Ythphcidpdjopeaa
