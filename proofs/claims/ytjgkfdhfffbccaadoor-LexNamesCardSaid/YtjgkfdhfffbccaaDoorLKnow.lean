/-
  What the laws' own functions answer: num, same of two lists that are the same, knows. Condition: the table of signs lies as the program's text lays it.
-/
import Derived.Test.YtjgkfdhfffbccaaDoorLRef2
import Derived.Laws.StructEq
namespace Go.Proofs.YtjgkfdhfffbccaaDoor.Lex
open Go.RowKit
open Num (EndsW)
set_option maxRecDepth 100000
theorem num_any (e : Int) (w : World) : Calls Tryd.prog 15 #[.int .i64 e] w (EndsW (.int .i64 e) w) := by
  go_enter Tryd.func15, Tryd.ntmps15
  go_wp2
  go_ret
  exact ⟨rfl, rfl⟩
theorem know_words : words [120, 32, 58, 61, 32, 49] = ([⟨1, [120], 0⟩, ⟨5, [58, 61], 0⟩, ⟨2, [], 1⟩, ⟨5, [59], 0⟩], 0) := by kernel_rfl
theorem key_func (w : World) : Calls Tryd.prog 6 #[.string ⟨#[102, 117, 110, 99]⟩] w (EndsW (.bool true) w) := key_any [102, 117, 110, 99] w
set_option maxHeartbeats 4000000 in
theorem knows_any (w : World) (hS : Signs w) : Calls Tryd.prog 5 #[] w (EndsB (.bool true) w) := by
  have CW := Lib.hid (words_any [120, 32, 58, 61, 32, 49] w hS)
  have CK := fun w' => Lib.hid (key_func w')
  have CN := fun w' => Lib.hid (num_any 0 w')
  clear hS
  go_enter Tryd.func5, Tryd.ntmps5
  go_wp2_with fail
  refine CW.out.mono ?_
  rintro e w1 ⟨v, rfl, hv, hb⟩
  rw [know_words] at hv ⊢
  dsimp only at hv ⊢
  obtain ⟨b, cap, rfl, _, hbw⟩ := World.ownsRow.form hv (by simp)
  obtain ⟨b', o, e, _, hc⟩ := hv.wds (by simp)
  injection e with e
  injection e with e1 e2
  subst e1; subst e2
  have c0 := (hc 0 _ rfl).1
  have c1 := (hc 0 _ rfl).2.1
  have c2 := (hc 0 _ rfl).2.2
  have c4 := (hc 1 _ rfl).2.1
  have c8 := (hc 2 _ rfl).2.2
  have c10 := (hc 3 _ rfl).2.1
  simp only [Nat.zero_add, Nat.zero_mul, Nat.reduceMul, Nat.reduceAdd, bs] at c0 c1 c2 c4 c8 c10
  have HB := Lib.hid hb
  clear hb hv hc CW hbw
  go_wp2_with (first | (go_at_call 15; refine (CN _).out.mono ?_; rintro e w' ⟨rfl, rfl⟩) | (go_at_call 6; refine (CK _).out.mono ?_; rintro e w' ⟨rfl, rfl⟩))
  go_ret
  exact ⟨rfl, HB.out⟩
set_option maxHeartbeats 4000000 in
theorem same_yes (w : World) (A B : Option Addr) (n c d : Nat) (l : List Wd) (hA : Wds w A l) (hB : Wds w B l) (hn : l.length = n) (hs : n ≤ 1000000) :
    Calls Tryd.prog 16 #[.slice A n c, .slice B n d] w (EndsB (.bool true) w) := by
  have HA := Lib.hid hA
  have HB := Lib.hid hB
  have HN := Lib.hid hn
  clear hA hB hn
  go_enter Tryd.func16, Tryd.ntmps16
  go_wp2
  go_loopw [5] (fun i wr => ∃ k m : Nat, k ≤ n ∧ i = .int .i64 k ∧ wr = w.drewN m) (fun i _ => n - (intOf i).toNat)
  case atStart => exact ⟨0, 0, by omega, rfl, rfl⟩
  case round =>
    obtain ⟨k, m, hk, rfl, rfl⟩ := hrel
    by_cases hlt : k < n
    · obtain ⟨x, hx⟩ : ∃ x, l[k]? = some x := ⟨_, List.getElem?_eq_getElem (by rw [HN.out]; exact hlt)⟩
      obtain ⟨b1, o1, rfl, hl1, hc1⟩ := HA.out (by rw [HN.out]; omega)
      obtain ⟨b2, o2, rfl, hl2, hc2⟩ := HB.out (by rw [HN.out]; omega)
      obtain ⟨p0, p1, p2⟩ := hc1 k x hx
      obtain ⟨q0, q1, q2⟩ := hc2 k x hx
      clear hc1 hc2 hx hl1 hl2
      obtain ⟨xk, xs, xn⟩ := x
      dsimp only at *
      generalize bs xs = S at *
      rw [← Nat.add_assoc] at p1 p2 q1 q2
      go_wp2
      go_quiet (fail)
      go_wp2
      go_roundw
      case rel => exact ⟨k + 1, m + nq, by omega, by go_num, rfl⟩
      case measure => simp [intOf]; omega
    · obtain rfl : k = n := by omega
      go_wp2
      go_ret
      exact ⟨rfl, below_drewN w m⟩
end Go.Proofs.YtjgkfdhfffbccaaDoor.Lex
