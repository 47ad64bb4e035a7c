/-
  nodes, first: what these makers hand back; first's sequence: as many values as it may give, of a sequence of expressions. Conditions: the sequence gives these values.
-/
import Derived.Test.YtlhbhpdpjidpgaaGreatDoorX03
import Derived.Test.YtlhbhpdpjidpgaaGreatDoorX05
import Derived.Test.YtlhbhpdpjidpgaaGreatDoorX09
namespace Go.Proofs.YtlhbhpdpjidpgaaGreatDoor.Tre
open Go.RowKit
set_option maxRecDepth 100000
attribute [local go_sem] Oper.semAt_some
set_option maxHeartbeats 1000000 in
theorem nodes_any (F : Fence) (m : Nat) (hF : F.fn 35) (hro : F.round = none) (A : Option Addr) (n c h : Nat) (w : World) : CallsIn F m Tryz.prog 35 #[.slice A n c, .func (.func h) #[] #[]] w fun r w' => r = .returned (.func (.func 61) #[] #[.pointer (some ⟨w.heap.size, 0, none⟩), .pointer (some ⟨w.heap.size + 1, 0, none⟩)]) ∧ w' = (w.alloc (.cells #[.slice A n c] 24)).alloc (.cells #[.func (.func h) #[] #[]] 79) := by
  refine callsIn_of_wp Tryz.func35 rfl hF ?_ hro
  simp only [Tryz.ntmps35, List.size_toArray, List.length_cons, List.length_nil, Nat.reduceAdd, Nat.reduceSub, Array.replicate_succ, Array.replicate_zero, List.push_toArray, List.append_toArray, List.nil_append, List.cons_append]
  gi_wp2
  go_ret
  exact ⟨rfl, rfl⟩
set_option maxHeartbeats 1000000 in
theorem first_any (F : Fence) (m : Nat) (hF : F.fn 60) (hro : F.round = none) (n : Int) (g : Nat) (lb : Array Value) (w : World) : CallsIn F m Tryz.prog 60 #[.int .i64 n, .func (.func g) #[] lb] w fun r w' => r = .returned (.func (.func 94) #[] #[.pointer (some ⟨w.heap.size, 0, none⟩), .pointer (some ⟨w.heap.size + 1, 0, none⟩)]) ∧ w' = (w.alloc (.cells #[.int .i64 n] 3)).alloc (.cells #[.func (.func g) #[] lb] 77) := by
  refine callsIn_of_wp Tryz.func60 rfl hF ?_ hro
  simp only [Tryz.ntmps60, List.size_toArray, List.length_cons, List.length_nil, Nat.reduceAdd, Nat.reduceSub, Array.replicate_succ, Array.replicate_zero, List.push_toArray, List.append_toArray, List.nil_append, List.cons_append]
  gi_wp2
  go_ret
  exact ⟨rfl, rfl⟩
theorem set_at {w : World} {g : Nat} {cs : Array Value} {T : TypeId} (h : w.heap[g]? = some (.cells cs T (0, 0))) (i : Nat) (u : Value) :
    (w.setCell ⟨g, i, none⟩ u).heap[g]? = some (.cells (cs.setIfInBounds i u) T (0, 0)) := by simp [World.setCell, Array.getElem?_modify, h]
theorem free_at {w : World} {g : Nat} {cs : Array Value} {T : TypeId} (h : w.heap[g]? = some (.cells cs T (0, 0))) (i : Nat) : w.frozen? ⟨g, i, none⟩ = false := by simp [World.frozen?, h]
theorem other_at {w : World} {g b : Nat} {o : Obj} (h : w.heap[g]? = some o) (hne : g ≠ b) (i : Nat) (u : Value) : (w.setCell ⟨b, i, none⟩ u).heap[g]? = some o := (Below.heap_setCell w _ u g hne).trans h
theorem take_at {α : Type} {l : List α} {N k : Nat} {y : α} (h : l[k]? = some y) (hk : k < N) : (l.take N)[k]? = some y := by rw [List.getElem?_take, if_pos hk]; exact h
end Go.Proofs.YtlhbhpdpjidpgaaGreatDoor.Tre
/- fits: can all of a sequence be gone through; SameExpr: are two expressions the same. Conditions: the sequence gives these expressions; the trees lie in memory. -/
namespace Go.Proofs.YtlhbhpdpjidpgaaGreatDoor.Tre
open Go.RowKit
set_option maxRecDepth 100000
attribute [local go_sem] Oper.semAt_some
/-- A function's answer behind its one mark. -/
theorem ends_one {n : Nat} {fn : Func} {tmps : Array Value} {R : Ending → World → Prop} {D : Nat} {W : World} (hd : W.heap[D]? = some (.deferred (some []))) (t : Tmp) (v : Value) (hres : fn.results = #[.tmp t]) (hv : tmps.getD t undef = v) (h : R (.returned v) (W.putObj D (.deferred none))) :
    LeavesInM Fence.wide n Tryz.prog fn tmps R [mark D] .returning W := by
  refine ⟨by simp, .inl ⟨D, _, rfl, run_takeDeferred hd, ?_⟩⟩
  subst hv
  exact ⟨_, results_tmp hres _ _ _, h⟩
end Go.Proofs.YtlhbhpdpjidpgaaGreatDoor.Tre
/- SameExpr, Same: are two expressions, two files the same (the package's own), so far as they can be gone through. Conditions: the trees lie in memory. -/
namespace Go.Proofs.YtlhbhpdpjidpgaaGreatDoor.Tre
open Go.RowKit
set_option maxRecDepth 100000
theorem flV_eq (f : Fl) : flV f = .agg #[.string f.s, .slice f.ia f.i.length f.ic, .slice f.fa f.f.length f.fc] := rfl
end Go.Proofs.YtlhbhpdpjidpgaaGreatDoor.Tre
/- Parts, rightNumber, rightNames, rightParts, rightTarget, rightBlocks, valued, wrongParam, rightWord, wrongWord: what the package's small tests answer. Conditions: sizes. -/
namespace Go.Proofs.YtlhbhpdpjidpgaaGreatDoor.Tre
open Go.RowKit
set_option maxRecDepth 100000
theorem lexName (s : ByteArray) (w : World) (hs : s.size ≤ maxLen) : Calls Tryz.prog 72 #[.string s] w (EndsB (.bool (nameB s)) w) := Lex.name_any s w hs
theorem lexKey (s : ByteArray) (w : World) : Calls Tryz.prog 59 #[.string s] w (EndsB (.bool (Lex.keyB s.data.toList)) w) := by
  have := Lex.key_any s.data.toList w
  rw [Lex.bs_of] at this
  refine this.mono ?_
  rintro e w' ⟨rfl, rfl⟩
  exact ⟨rfl, Below.refl _ _⟩
theorem parts_1 (w : World) : Calls Tryz.prog 148 #[.int .i64 1] w (EndsW (.int .i64 0) w) := by
  go_enter Tryz.func148, Tryz.ntmps148
  go_wp2
  go_ret
  exact ⟨rfl, rfl⟩
theorem parts_2 (w : World) : Calls Tryz.prog 148 #[.int .i64 2] w (EndsW (.int .i64 0) w) := by
  go_enter Tryz.func148, Tryz.ntmps148
  go_wp2
  go_ret
  exact ⟨rfl, rfl⟩
theorem parts_3 (w : World) : Calls Tryz.prog 148 #[.int .i64 3] w (EndsW (.int .i64 0) w) := by
  go_enter Tryz.func148, Tryz.ntmps148
  go_wp2
  go_ret
  exact ⟨rfl, rfl⟩
theorem parts_5 (w : World) : Calls Tryz.prog 148 #[.int .i64 5] w (EndsW (.int .i64 1) w) := by
  go_enter Tryz.func148, Tryz.ntmps148
  go_wp2
  go_ret
  exact ⟨rfl, rfl⟩
theorem parts_6 (w : World) : Calls Tryz.prog 148 #[.int .i64 6] w (EndsW (.int .i64 1) w) := by
  go_enter Tryz.func148, Tryz.ntmps148
  go_wp2
  go_ret
  exact ⟨rfl, rfl⟩
theorem parts_7 (w : World) : Calls Tryz.prog 148 #[.int .i64 7] w (EndsW (.int .i64 2) w) := by
  go_enter Tryz.func148, Tryz.ntmps148
  go_wp2
  go_ret
  exact ⟨rfl, rfl⟩
theorem parts_8 (w : World) : Calls Tryz.prog 148 #[.int .i64 8] w (EndsW (.int .i64 2) w) := by
  go_enter Tryz.func148, Tryz.ntmps148
  go_wp2
  go_ret
  exact ⟨rfl, rfl⟩
theorem parts_9 (w : World) : Calls Tryz.prog 148 #[.int .i64 9] w (EndsW (.int .i64 2) w) := by
  go_enter Tryz.func148, Tryz.ntmps148
  go_wp2
  go_ret
  exact ⟨rfl, rfl⟩
theorem parts_10 (w : World) : Calls Tryz.prog 148 #[.int .i64 10] w (EndsW (.int .i64 2) w) := by
  go_enter Tryz.func148, Tryz.ntmps148
  go_wp2
  go_ret
  exact ⟨rfl, rfl⟩
theorem parts_11 (w : World) : Calls Tryz.prog 148 #[.int .i64 11] w (EndsW (.int .i64 2) w) := by
  go_enter Tryz.func148, Tryz.ntmps148
  go_wp2
  go_ret
  exact ⟨rfl, rfl⟩
theorem parts_12 (w : World) : Calls Tryz.prog 148 #[.int .i64 12] w (EndsW (.int .i64 2) w) := by
  go_enter Tryz.func148, Tryz.ntmps148
  go_wp2
  go_ret
  exact ⟨rfl, rfl⟩
theorem parts_13 (w : World) : Calls Tryz.prog 148 #[.int .i64 13] w (EndsW (.int .i64 2) w) := by
  go_enter Tryz.func148, Tryz.ntmps148
  go_wp2
  go_ret
  exact ⟨rfl, rfl⟩
theorem parts_14 (w : World) : Calls Tryz.prog 148 #[.int .i64 14] w (EndsW (.int .i64 2) w) := by
  go_enter Tryz.func148, Tryz.ntmps148
  go_wp2
  go_ret
  exact ⟨rfl, rfl⟩
theorem parts_15 (w : World) : Calls Tryz.prog 148 #[.int .i64 15] w (EndsW (.int .i64 2) w) := by
  go_enter Tryz.func148, Tryz.ntmps148
  go_wp2
  go_ret
  exact ⟨rfl, rfl⟩
theorem parts_16 (w : World) : Calls Tryz.prog 148 #[.int .i64 16] w (EndsW (.int .i64 2) w) := by
  go_enter Tryz.func148, Tryz.ntmps148
  go_wp2
  go_ret
  exact ⟨rfl, rfl⟩
theorem parts_17 (w : World) : Calls Tryz.prog 148 #[.int .i64 17] w (EndsW (.int .i64 2) w) := by
  go_enter Tryz.func148, Tryz.ntmps148
  go_wp2
  go_ret
  exact ⟨rfl, rfl⟩
theorem parts_18 (w : World) : Calls Tryz.prog 148 #[.int .i64 18] w (EndsW (.int .i64 2) w) := by
  go_enter Tryz.func148, Tryz.ntmps148
  go_wp2
  go_ret
  exact ⟨rfl, rfl⟩
theorem parts_19 (w : World) : Calls Tryz.prog 148 #[.int .i64 19] w (EndsW (.int .i64 2) w) := by
  go_enter Tryz.func148, Tryz.ntmps148
  go_wp2
  go_ret
  exact ⟨rfl, rfl⟩
set_option maxHeartbeats 2000000 in
theorem parts_no (op : Int) (w : World) (h1 : (op == 1) = false) (h2 : (op == 2) = false) (h3 : (op == 3) = false) (h5 : (op == 5) = false) (h6 : (op == 6) = false) (h7 : (op == 7) = false) (h8 : (op == 8) = false) (h9 : (op == 9) = false) (h10 : (op == 10) = false) (h11 : (op == 11) = false) (h12 : (op == 12) = false) (h13 : (op == 13) = false) (h14 : (op == 14) = false) (h15 : (op == 15) = false) (h16 : (op == 16) = false) (h17 : (op == 17) = false) (h18 : (op == 18) = false) (h19 : (op == 19) = false) : Calls Tryz.prog 148 #[.int .i64 op] w (EndsW (.int .i64 (-1)) w) := by
  go_enter Tryz.func148, Tryz.ntmps148
  go_wp2
  go_ret
  exact ⟨rfl, rfl⟩
end Go.Proofs.YtlhbhpdpjidpgaaGreatDoor.Tre
