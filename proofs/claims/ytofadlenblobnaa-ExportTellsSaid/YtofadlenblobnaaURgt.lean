/-
  The program's riser, its closure, and Right. Conditions: the list lies in memory.
-/
import Derived.Test.YtofadlenblobnaaUVal
namespace Go.Proofs.Ytofadlenblobnaa.Exp
open Go.RowKit Typ Codec Tre
set_option maxRecDepth 100000
/-- The block that the closure keeps the name ahead in. -/
def Kept (c : Nat) (a : ByteArray) (w : World) : Prop := w.heap[c]? = some (.cells #[.string a] 9 (0, 0))
def Rose (c : Nat) (s : ByteArray) (b : Bool) (w : World) (e : Ending) (w' : World) : Prop := e = .returned (.bool b) ∧ Kept c s w' ∧ w.grownBy w' (some c)
theorem Kept.below {c : Nat} {a : ByteArray} {w w' : World} (h : Kept c a w) (hb : Below w.heap.size w w') : Kept c a w' := (hb.block c (lt_of_heap h)).trans h
theorem Rose.of {c : Nat} {a s : ByteArray} {x b : Bool} {w w1 : World} (hk : Kept c a w1) (hb : Below w.heap.size w w1) (h : x = b) : Rose c s b w (.returned (.bool x)) (w1.setCell ⟨c, 0, none⟩ (.string s)) :=
  ⟨by rw [h], Cod.set_at hk 0 _, Cod.grown_trans ⟨hb.os, hb.tape, hb.output, hb.size, fun k hk _ => hb.block k hk⟩ (Cod.grown_set w1 c 0 _)⟩
set_option maxHeartbeats 4000000 in
theorem rises_any (c : Nat) (a s : ByteArray) (w : World) (hk : Kept c a w) (hs : s.size ≤ maxLen) :
    Calls Try.prog 41 #[.string s, .pointer (some ⟨c, 0, none⟩)] w (Rose c s (risP a.data.toList s.data.toList) w) := by
  have CN := Lib.hid (Lex.name_any s w hs)
  have HK := Lib.hid hk
  have HP : Hid (risP a.data.toList s.data.toList = (Lex.nameOk s.data.toList && Op.bytesLess a.toList s.toList)) := Lib.hid (by unfold risP; rw [Lex.toList_data, Lex.toList_data])
  obtain ⟨t, ht⟩ : ∃ t, risP a.data.toList s.data.toList = t := ⟨_, rfl⟩
  rw [ht] at HP ⊢
  obtain ⟨u, hu⟩ : ∃ u, Lex.nameOk s.data.toList = u := ⟨_, rfl⟩
  rw [hu] at HP CN
  clear hk ht hu
  cases u with
  | false =>
    go_enter Try.func41, Try.ntmps41
    go_wp2_with (go_at_call 42; refine CN.out.mono ?_; rintro e w1 ⟨rfl, hb⟩; have HB := Lib.hid hb; have HK1 := Lib.hid (HK.out.below hb); have c0 := cell_at HK1.out 0; have f0 := Cod.free_at HK1.out 0; clear hb)
    go_ret
    exact Rose.of HK1.out HB.out HP.out.symm
  | true =>
    obtain ⟨v, hv⟩ : ∃ v, Op.bytesLess a.toList s.toList = v := ⟨_, rfl⟩
    rw [hv] at HP
    go_enter Try.func41, Try.ntmps41
    go_wp2_with (go_at_call 42; refine CN.out.mono ?_; rintro e w1 ⟨rfl, hb⟩; have HB := Lib.hid hb; have HK1 := Lib.hid (HK.out.below hb); have c0 := cell_at HK1.out 0; have f0 := Cod.free_at HK1.out 0; clear hb)
    go_ret
    exact Rose.of HK1.out HB.out HP.out.symm
theorem riser_any (w : World) : Calls Try.prog 26 #[] w fun e w' => e = .returned (.func (.func 41) #[] #[.pointer (some ⟨w.heap.size, 0, none⟩)]) ∧ Kept w.heap.size ⟨#[]⟩ w' ∧ Below w.heap.size w w' := by
  have hmf : ∀ (fn : Fn) (first cap : Array Value) (w : World), (Instr.makeFunc fn first cap).run Try.prog w = .ok (.func fn first cap) w := fun _ _ _ _ => rfl
  have n0 := new_at w #[.string ⟨#[]⟩] 9
  have hb0 := ball_new w #[.string ⟨#[]⟩] 9
  have HN := Lib.hid n0
  have HB := Lib.hid hb0
  clear n0 hb0
  go_enter Try.func26, Try.ntmps26
  go_wp2
  go_ret
  exact ⟨rfl, HN.out, HB.out⟩
end Go.Proofs.Ytofadlenblobnaa.Exp
