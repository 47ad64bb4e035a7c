/-
  rightParts, rightNames, rightTarget, rightBlocks, valued, wrongParam, rightWord, wrongWord: what the package's small tests answer. Conditions: sizes.
-/
import Derived.Test.YtlhbhpdpjidpgaaGreatDoorX10
namespace Go.Proofs.YtlhbhpdpjidpgaaGreatDoor.Tre
open Go.RowKit
set_option maxRecDepth 100000
theorem one_at {w w1 : World} {cs : Array Value} {T : TypeId} (h : Below (w.alloc (.cells cs T)).heap.size (w.alloc (.cells cs T)) w1) (i : Nat) : w1.cell? ⟨w.heap.size, i, none⟩ = cs[i]? :=
  cell_at ((h.block _ (by simp)).trans (new_at w cs T)) i
theorem valued_any (t : Int) (w : World) : Calls Tryz.prog 75 #[.int .u8 t] w (EndsW (.bool (valB t)) w) := by
  unfold valB
  rcases Bool.eq_false_or_eq_true (t == 1) with h1 | h1
  · go_enter Tryz.func75, Tryz.ntmps75
    go_wp2
    go_ret
    exact ⟨by simp [*], rfl⟩
  · rcases Bool.eq_false_or_eq_true (t == 2) with h2 | h2
    all_goals go_enter Tryz.func75, Tryz.ntmps75
    all_goals go_wp2
    all_goals go_ret
    all_goals exact ⟨by simp [*], rfl⟩
theorem rightWord_any (s : ByteArray) (w : World) (hs : s.size ≤ maxLen) : Calls Tryz.prog 68 #[.string s] w (EndsB (.bool (wordB s)) w) := by
  have CS := fun w' => Lib.hid (lexName s w' hs)
  have CK := fun w' => Lib.hid (lexKey s w')
  unfold wordB
  clear hs
  generalize nameB s = ts at *
  generalize Lex.keyB s.data.toList = tk at *
  rcases Bool.eq_false_or_eq_true ts with ht | ht <;> subst ht
  all_goals go_enter Tryz.func68, Tryz.ntmps68
  all_goals go_wp2_with fail
  all_goals refine (CS _).out.mono ?_
  all_goals rintro e1 w1 ⟨rfl, hb1⟩
  all_goals have HB1 := Lib.hid hb1
  all_goals clear hb1
  all_goals go_wp2_with fail
  · go_ret
    exact ends_bool (by simp) HB1.out
  · refine (CK _).out.mono ?_
    rintro e2 w2 ⟨rfl, hb2⟩
    have HB2 := Lib.hid (HB1.out.trans (hb2.mono HB1.out.size))
    clear hb2
    go_wp2_with fail
    go_ret
    exact ends_bool (by simp) HB2.out
theorem wrongWord_any (s : ByteArray) (w : World) (hs : s.size ≤ maxLen) : Calls Tryz.prog 70 #[.string s] w (EndsB (.bool (!wordB s)) w) := by
  have CS := fun w' => Lib.hid (rightWord_any s w' hs)
  clear hs
  generalize wordB s = ts at *
  go_enter Tryz.func70, Tryz.ntmps70
  go_wp2_with fail
  refine (CS _).out.mono ?_
  rintro e1 w1 ⟨rfl, hb1⟩
  have HB1 := Lib.hid hb1
  clear hb1
  go_wp2_with fail
  go_ret
  exact ends_bool rfl HB1.out
end Go.Proofs.YtlhbhpdpjidpgaaGreatDoor.Tre
/- rightExpr: is all that an expression is made of right. Condition: the expression lies in memory. -/
namespace Go.Proofs.YtlhbhpdpjidpgaaGreatDoor.Tre
open Go.RowKit
set_option maxRecDepth 100000
attribute [local go_sem] Oper.semAt_some
theorem results_bool {fn : Func} {p : Tmp} (h : fn.results = #[.cell p 4]) (tmps : Array Value) (w : World) (g : Nat) (v : Bool) (hv : tmps.getD p undef = .pointer (some ⟨g, 0, none⟩)) (hc : w.cell? ⟨g, 0, none⟩ = some (.bool v)) :
    (results fn tmps).run Tryz.prog w = .ok (.bool v) w := by
  have a4 := Tryz.isAgg4
  simp only [Array.getD_eq_getD_getElem?] at hv
  unfold results
  rw [h]
  go_simp
/-- A function's answer, from its cell, behind its one mark. -/
theorem ends_cell {n : Nat} {fn : Func} {tmps : Array Value} {R : Ending → World → Prop} {D g : Nat} {W : World} {v : Bool} (hd : W.heap[D]? = some (.deferred (some []))) (p : Tmp) (hres : fn.results = #[.cell p 4]) (hv : tmps.getD p undef = .pointer (some ⟨g, 0, none⟩)) (hc : W.heap[g]? = some (.cells #[.bool v] 4 (0, 0)))
    (h : R (.returned (.bool v)) (W.putObj D (.deferred none))) : LeavesInM Fence.wide n Tryz.prog fn tmps R [mark D] .returning W := by
  refine ⟨by simp, .inl ⟨D, _, rfl, run_takeDeferred hd, ?_⟩⟩
  have hne : g ≠ D := by rintro rfl; rw [hd] at hc; cases hc
  exact ⟨_, results_bool hres _ _ g v hv (cell_at ((World.putObj_heap_other hne).trans hc) 0), h⟩
theorem all_more {α : Type} {p : α → Bool} {l : List α} {k : Nat} {y : α} (hy : l[k]? = some y) (h : (l.take k).all p = true) (hp : p y = (true && true && true)) : (l.take (k + 1)).all p = true := by
  rw [List.take_add_one, hy, List.all_append, h]
  simp [hp]
theorem all_less {l : List Ex} {k : Nat} {y : Ex} {t1 t2 t3 : Bool} (hy : l[k]? = some y) (hp : rX y = (t1 && t2 && t3)) (hf : (t1 && t2 && t3) = false := by rfl) : l.all rX = false := by
  rw [List.all_eq_false]
  exact ⟨y, List.mem_of_getElem? hy, by rw [hp, hf]; simp⟩
end Go.Proofs.YtlhbhpdpjidpgaaGreatDoor.Tre
