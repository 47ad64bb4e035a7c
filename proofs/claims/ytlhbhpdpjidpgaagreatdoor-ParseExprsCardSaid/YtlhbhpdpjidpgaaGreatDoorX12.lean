/-
  rightAsked, rightStmt: is a statement right; the library's IndexFunc and ContainsFunc with the package's own tests. Conditions: the trees lie in memory.
-/
import Derived.Test.YtlhbhpdpjidpgaaGreatDoorX11
namespace Go.Proofs.YtlhbhpdpjidpgaaGreatDoor.Tre
open Go.RowKit
set_option maxRecDepth 100000
set_option linter.unusedSimpArgs false
theorem any_yes {α : Type} {p : α → Bool} {l : List α} {k : Nat} {y : α} (hy : l[k]? = some y) (hp : p y = true) : l.any p = true := List.any_eq_true.2 ⟨y, List.mem_of_getElem? hy, hp⟩
theorem any_no {α : Type} {p : α → Bool} {l : List α} {k : Nat} {y : α} (hy : l[k]? = some y) (h : (l.take k).any p = false) (hp : p y = false) : (l.take (k + 1)).any p = false := by
  rw [List.take_add_one, hy, List.any_append, h]
  simp [hp]
end Go.Proofs.YtlhbhpdpjidpgaaGreatDoor.Tre
/- wrongFunc: is a function not right. Condition: the function lies in memory. -/
namespace Go.Proofs.YtlhbhpdpjidpgaaGreatDoor.Tre
open Go.RowKit
set_option maxRecDepth 100000
set_option linter.unusedSimpArgs false
attribute [local go_sem] Oper.semAt_some
/-- A function's answer, from its cell, where it has no mark. -/
theorem ends_cell0 {n : Nat} {fn : Func} {tmps : Array Value} {R : Ending → World → Prop} {g : Nat} {W : World} {v : Bool} (p : Tmp) (hres : fn.results = #[.cell p 4]) (hv : tmps.getD p undef = .pointer (some ⟨g, 0, none⟩)) (hc : W.heap[g]? = some (.cells #[.bool v] 4 (0, 0)))
    (h : R (.returned (.bool v)) W) : LeavesInM Fence.wide n Tryz.prog fn tmps R [] .returning W := ⟨_, results_bool hres _ _ g v hv (cell_at hc 0), h⟩
theorem box2_at {w w1 : World} {cs ds : Array Value} {T U : TypeId} (h : Below ((w.alloc (.cells cs T)).alloc (.cells ds U)).heap.size ((w.alloc (.cells cs T)).alloc (.cells ds U)) w1) :
    w1.heap[w.heap.size]? = some (.cells cs T (0, 0)) ∧ w1.heap[w.heap.size + 1]? = some (.cells ds U (0, 0)) := by
  have h0 : ((w.alloc (.cells cs T)).alloc (.cells ds U)).heap[w.heap.size]? = some (.cells cs T (0, 0)) := (Below.heap_alloc _ _ _ (by simp)).trans (new_at w cs T)
  have h1 : ((w.alloc (.cells cs T)).alloc (.cells ds U)).heap[w.heap.size + 1]? = some (.cells ds U (0, 0)) := by
    have := new_at (w.alloc (.cells cs T)) ds U
    rwa [World.size_alloc] at this
  exact ⟨(h.block _ (by simp; omega)).trans h0, (h.block _ (by simp)).trans h1⟩
theorem four_at {w : World} {b : Nat} {v0 v1 v2 v3 : Value} {T : TypeId} (h : w.heap[b]? = some (.cells #[v0, v1, v2, v3] T (0, 0))) :
    w.cell? ⟨b, 0, none⟩ = some v0 ∧ w.cell? ⟨b, 1, none⟩ = some v1 ∧ w.cell? ⟨b, 2, none⟩ = some v2 ∧ w.cell? ⟨b, 3, none⟩ = some v3 := ⟨cell_at h 0, cell_at h 1, cell_at h 2, cell_at h 3⟩
theorem all_one {α : Type} {p : α → Bool} {l : List α} {k : Nat} {y : α} (hy : l[k]? = some y) (h : (l.take k).all p = true) (hp : p y = true) : (l.take (k + 1)).all p = true := by
  rw [List.take_add_one, hy, List.all_append, h]
  simp [hp]
theorem all_none {α : Type} {p : α → Bool} {l : List α} {k : Nat} {y : α} (hy : l[k]? = some y) (hp : p y = false) : l.all p = false := by
  rw [List.all_eq_false]
  exact ⟨y, List.mem_of_getElem? hy, by rw [hp]; simp⟩
end Go.Proofs.YtlhbhpdpjidpgaaGreatDoor.Tre
