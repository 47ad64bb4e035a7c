/-
  What Light and either tell. Conditions: the acts, the slices lie where they came in.
-/
import Derived.Test.YtgjdgmpjbpnjbaaJActs
namespace Go.Proofs.Ytgjdgmpjbpnjbaa.Jou
open Go.RowKit Codec FrameM Cod JourM
open Disk (Turn Dk Dsk ptr Now Made Nums fresh)
set_option maxRecDepth 100000
theorem Acts.fn {w : World} {base n : Nat} {A : Option Addr} (h : Acts w base A n) : ∃ (X : Nat → ActR) (bb oo : Nat → Nat), ∀ k, k < n → ActAt w base A n k (X k) (bb k) (oo k) := by
  classical
  refine ⟨fun k => if hk : k < n then (h k hk).choose else ⟨0, 0, none, 0, [], none, 0, 0, [], none, 0, 0, []⟩, fun k => if hk : k < n then (h k hk).choose_spec.choose else 0, fun k => if hk : k < n then (h k hk).choose_spec.choose_spec.choose else 0, fun k hk => ?_⟩
  simp only [dif_pos hk]
  exact (h k hk).choose_spec.choose_spec.choose_spec
def LightR (w : World) (n : Nat) (X : Nat → ActR) (e : Ending) (w' : World) : Prop := w' = w ∧ ∃ L, e = .returned (.bool L) ∧ (L = true → n ≤ 60 ∧ ∀ k, k < n → (X k).nl ≤ 10)
set_option maxHeartbeats 4000000 in
theorem light_any (w : World) (base n c : Nat) (A : Option Addr) (X : Nat → ActR) (bb oo : Nat → Nat) (h : ∀ k, k < n → ActAt w base A n k (X k) (bb k) (oo k)) (hn : n ≤ maxLen) (hb : base ≤ w.heap.size) :
    Calls Try.prog 5 #[.slice A n c] w (LightR w n X) := by
  have HX := Lib.hid h
  have HN := Lib.hid hn
  have HBS := Lib.hid hb
  clear h hn hb
  by_cases h60 : n ≤ 60
  · have hn60 : (n : Int) ≤ 60 := by omega
    have H60 := Lib.hid h60
    clear h60
    go_enter Try.func5, Try.ntmps5
    go_wp2
    go_loop [3] (fun i => ∃ k : Nat, k ≤ n ∧ i = .int .i64 k ∧ ∀ q, q < k → (X q).nl ≤ 10) (fun i => n - (Go.RowKit.intOf i).toNat)
    case atStart => exact ⟨0, by omega, rfl, fun q hq => absurd hq (by omega)⟩
    case round =>
      obtain ⟨k, hk, rfl, hq⟩ := hrel
      have HQ := Lib.hid hq
      clear hq
      by_cases hlt : k < n
      · obtain ⟨hidx0, hin⟩ := HX.out k hlt
        have hidx := fun w' => hidx0 c w'
        have HIN := Lib.hid hin
        obtain ⟨_, _, _, c2, c3, c4, _, _, _, hrw, hrm, _, hfm, _, _⟩ := hin
        have HRW := Lib.hid (RowsB.rowl (RowsB.of_rows hrw HBS.out (S := []) (by simp)))
        clear hidx0
        obtain ⟨y, hy⟩ : ∃ y, X k = y := ⟨_, rfl⟩
        rw [hy] at c2 c3 c4 hrw hrm hfm HRW
        have HY := Lib.hid hy
        clear hy hrw
        have hk2 : (k : Int) < 100 := by omega
        by_cases hb1 : (y.bs.length : Int) ≤ 1000
        · by_cases hb2 : (y.nl : Int) ≤ 10
          · by_cases hb3 : (y.nf : Int) ≤ 100
            · go_wp2
              go_loop [4] (fun i => ∃ q : Nat, q ≤ y.nl ∧ i = .int .i64 q) (fun i => y.nl - (Go.RowKit.intOf i).toNat)
              case atStart => exact ⟨0, by omega, rfl⟩
              case round =>
                obtain ⟨q, hq, rfl⟩ := hrel
                by_cases hql : q < y.nl
                · obtain ⟨b, o, Aj, cj, hat, hcell⟩ := HRW.out.at hql
                  have hidx2 := hat y.cl
                  clear hat
                  by_cases hl : ((y.ls.getD q []).length : Int) ≤ 1000
                  · generalize (y.ls.getD q []).length = lx at *
                    go_wp2
                    go_round
                    case rel => exact ⟨q + 1, by omega, by go_num⟩
                    case measure => simp [Go.RowKit.intOf]; omega
                  · have hl2 : (1000 : Int) < ((y.ls.getD q []).length : Int) := by omega
                    clear hl
                    generalize (y.ls.getD q []).length = lx at *
                    go_wp2
                    go_ret
                    exact ⟨rfl, false, rfl, fun h => by cases h⟩
                · obtain rfl : q = y.nl := by omega
                  go_wp2
                  go_round
                  case rel => exact ⟨k + 1, by omega, by go_num, fun p hp => by
                    by_cases e : p = k
                    · subst e
                      rw [HY.out]
                      omega
                    · exact HQ.out p (by omega)⟩
                  case measure => simp [Go.RowKit.intOf]; omega
            · have hbn : (100 : Int) < (y.nf : Int) := by omega
              clear hb3
              go_wp2
              go_ret
              exact ⟨rfl, false, rfl, fun h => by cases h⟩
          · have hbn : (10 : Int) < (y.nl : Int) := by omega
            clear hb2
            go_wp2
            go_ret
            exact ⟨rfl, false, rfl, fun h => by cases h⟩
        · have hbn : (1000 : Int) < (y.bs.length : Int) := by omega
          clear hb1
          go_wp2
          go_ret
          exact ⟨rfl, false, rfl, fun h => by cases h⟩
      · obtain rfl : k = n := by omega
        go_wp2
        go_ret
        exact ⟨rfl, true, rfl, fun _ => ⟨H60.out, HQ.out⟩⟩
  · have hn60 : (60 : Int) < (n : Int) := by omega
    have H60 := Lib.hid h60
    have hnm : (n : Int) ≤ 9223372036854775 * 1024 := by have := HN.out; unfold maxLen at this; omega
    clear h60 hnm
    go_enter Try.func5, Try.ntmps5
    go_wp2
    go_loop [3] (fun i => ∃ k : Nat, k ≤ n ∧ k ≤ 100 ∧ i = .int .i64 k) (fun i => 100 - (Go.RowKit.intOf i).toNat)
    case atStart => exact ⟨0, by omega, by omega, rfl⟩
    case round =>
      obtain ⟨k, hk, hk1, rfl⟩ := hrel
      by_cases hlt : k < n
      · by_cases hk3 : k < 100
        · obtain ⟨hidx0, hin⟩ := HX.out k hlt
          have hidx := fun w' => hidx0 c w'
          obtain ⟨_, _, _, c2, c3, c4, _, _, _, hrw, hrm, _, hfm, _, _⟩ := hin
          have HRW := Lib.hid (RowsB.rowl (RowsB.of_rows hrw HBS.out (S := []) (by simp)))
          clear hidx0
          obtain ⟨y, hy⟩ : ∃ y, X k = y := ⟨_, rfl⟩
          rw [hy] at c2 c3 c4 hrw hrm hfm HRW
          clear hy hrw
          by_cases hb1 : (y.bs.length : Int) ≤ 1000
          · by_cases hb2 : (y.nl : Int) ≤ 10
            · by_cases hb3 : (y.nf : Int) ≤ 100
              · go_wp2
                go_loop [4] (fun i => ∃ q : Nat, q ≤ y.nl ∧ i = .int .i64 q) (fun i => y.nl - (Go.RowKit.intOf i).toNat)
                case atStart => exact ⟨0, by omega, rfl⟩
                case round =>
                  obtain ⟨q, hq, rfl⟩ := hrel
                  by_cases hql : q < y.nl
                  · obtain ⟨b, o, Aj, cj, hat, hcell⟩ := HRW.out.at hql
                    have hidx2 := hat y.cl
                    clear hat
                    by_cases hl : ((y.ls.getD q []).length : Int) ≤ 1000
                    · generalize (y.ls.getD q []).length = lx at *
                      go_wp2
                      go_round
                      case rel => exact ⟨q + 1, by omega, by go_num⟩
                      case measure => simp [Go.RowKit.intOf]; omega
                    · have hl2 : (1000 : Int) < ((y.ls.getD q []).length : Int) := by omega
                      clear hl
                      generalize (y.ls.getD q []).length = lx at *
                      go_wp2
                      go_ret
                      exact ⟨rfl, false, rfl, fun h => by cases h⟩
                  · obtain rfl : q = y.nl := by omega
                    go_wp2
                    go_round
                    case rel => exact ⟨k + 1, by omega, by omega, by go_num⟩
                    case measure => simp [Go.RowKit.intOf]; omega
              · have hbn : (100 : Int) < (y.nf : Int) := by omega
                clear hb3
                go_wp2
                go_ret
                exact ⟨rfl, false, rfl, fun h => by cases h⟩
            · have hbn : (10 : Int) < (y.nl : Int) := by omega
              clear hb2
              go_wp2
              go_ret
              exact ⟨rfl, false, rfl, fun h => by cases h⟩
          · have hbn : (1000 : Int) < (y.bs.length : Int) := by omega
            clear hb1
            go_wp2
            go_ret
            exact ⟨rfl, false, rfl, fun h => by cases h⟩
        · obtain rfl : k = 100 := by omega
          go_wp2
          go_ret
          have hd : decide ((n : Int) ≤ 60) = false := by simp; omega
          exact ⟨rfl, false, by rw [← hd]; rfl, fun h => by cases h⟩
      · obtain rfl : k = n := by omega
        go_wp2
        go_ret
        have hd : decide ((k : Int) ≤ 60) = false := by simp; omega
        exact ⟨rfl, false, by rw [← hd]; rfl, fun h => by cases h⟩
set_option maxHeartbeats 1000000 in
theorem either_any (w : World) (n c n1 c1 n2 c2 : Nat) (A A1 A2 : Option Addr) (ls l1 l2 : List (List UInt8)) (hA : RowsB w [] A n ls) (h1 : RowsB w [] A1 n1 l1) (h2 : RowsB w [] A2 n2 l2) (hn : n ≤ 1000000) (hn1 : n1 ≤ 1000000) (hn2 : n2 ≤ 1000000) (he : ls = l1 ∨ ls = l2) :
    Calls Try.prog 17 #[.slice A n c, .slice A1 n1 c1, .slice A2 n2 c2] w (EndsBelow (.bool true) w) := by
  have HS := Lib.hid (same_any w n c n1 c1 A A1 ls l1 hA h1 hn hn1)
  have HS2 := Lib.hid (fun u (hb : Below w.heap.size w u) => same_any u n c n2 c2 A A2 ls l2 (hA.below hb) (h2.below hb) hn hn2)
  have HE := Lib.hid he
  clear hA h1 h2 hn hn1 hn2 he
  by_cases e : ls = l1
  · have hd : decide (ls = l1) = true := by simp [e]
    rw [hd] at HS
    clear e hd
    go_enter Try.func17, Try.ntmps17
    go_wp2_with fail
    refine HS.out.mono ?_
    rintro e w1 ⟨rfl, hb⟩
    have HB := Lib.hid hb
    clear hb
    go_wp2_with fail
    go_ret
    exact ⟨rfl, HB.out⟩
  · have hd : decide (ls = l1) = false := by simp [e]
    have hd2 : decide (ls = l2) = true := by simp [HE.out.resolve_left e]
    rw [hd] at HS
    rw [hd2] at HS2
    clear e hd hd2
    go_enter Try.func17, Try.ntmps17
    go_wp2_with fail
    refine HS.out.mono ?_
    rintro e w1 ⟨rfl, hb⟩
    have HB := Lib.hid hb
    clear hb
    go_wp2_with fail
    refine (HS2.out _ HB.out).mono ?_
    rintro e w2 ⟨rfl, hb⟩
    have HB2 := Lib.hid (HB.out.trans (hb.mono HB.out.size))
    clear hb
    go_wp2_with fail
    go_ret
    exact ⟨rfl, HB2.out⟩
end Go.Proofs.Ytgjdgmpjbpnjbaa.Jou
