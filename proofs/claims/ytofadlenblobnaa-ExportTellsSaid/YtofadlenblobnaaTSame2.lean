/-
  Are two statements, two functions the same (the package's own): what sameStmt, sameFunc and the library's Equal over parameters, over texts answer. Conditions: both trees lie in memory.
-/
import Derived.Test.YtofadlenblobnaaTEqS
namespace Go.Proofs.Ytofadlenblobnaa.Tre
open Go.RowKit
set_option maxRecDepth 100000
/-- The two boxes lie as they lay. -/
theorem box_at {w w1 : World} {cs ds : Array Value} {T : TypeId} (h : Below ((w.alloc (.cells cs T)).alloc (.cells ds T)).heap.size ((w.alloc (.cells cs T)).alloc (.cells ds T)) w1) (i : Nat) :
    w1.cell? ⟨w.heap.size, i, none⟩ = cs[i]? ∧ w1.cell? ⟨w.heap.size + 1, i, none⟩ = ds[i]? := by
  have h0 : ((w.alloc (.cells cs T)).alloc (.cells ds T)).heap[w.heap.size]? = some (.cells cs T (0, 0)) := (Below.heap_alloc _ _ _ (by simp)).trans (new_at w cs T)
  have h1 : ((w.alloc (.cells cs T)).alloc (.cells ds T)).heap[w.heap.size + 1]? = some (.cells ds T (0, 0)) := by
    have := new_at (w.alloc (.cells cs T)) ds T
    rwa [World.size_alloc] at this
  exact ⟨cell_at ((h.block _ (by simp; omega)).trans h0) i, cell_at ((h.block _ (by simp)).trans h1) i⟩
theorem exV_flat (e : Ex) : Value.agg #[.int .i64 e.op, .int .i64 e.n, .string e.s, .string e.q, .slice e.a e.x.length e.c] = exV e := (exV_eq e).symm
end Go.Proofs.Ytofadlenblobnaa.Tre
