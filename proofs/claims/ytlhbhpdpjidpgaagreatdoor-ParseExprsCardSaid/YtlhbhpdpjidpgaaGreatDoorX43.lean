/-
  The document's Same, of two files that are the same. Conditions: both lie in memory.
-/
import Derived.Test.YtlhbhpdpjidpgaaGreatDoorX07
import Derived.Test.YtlhbhpdpjidpgaaGreatDoorX42
namespace Go.Proofs.YtlhbhpdpjidpgaaGreatDoor.Prs
open Go.RowKit Tre
open Lex (Wd wdC wdV bs str Turn)
set_option maxRecDepth 100000
set_option linter.unusedSimpArgs false
theorem texts_same : ∀ {a b : List ByteArray}, a.map (·.data.toList) = b.map (·.data.toList) → a = b
  | [], [], _ => rfl
  | [], _ :: _, h => by simp at h
  | _ :: _, [], h => by simp at h
  | x :: r, y :: t, h => by
    simp only [List.map_cons, List.cons.injEq] at h
    rw [bytes_same h.1, texts_same h.2]
theorem pars_same : ∀ {a b : List Par}, a.map coreP = b.map coreP → a = b
  | [], [], _ => rfl
  | [], _ :: _, h => by simp at h
  | _ :: _, [], h => by simp at h
  | x :: r, y :: t, h => by
    simp only [List.map_cons, List.cons.injEq] at h
    obtain ⟨h1, h2⟩ := h
    unfold coreP at h1
    injection h1 with q1 q2
    obtain ⟨xs, xt⟩ := x
    obtain ⟨ys, yt⟩ := y
    dsimp only at q1 q2
    rw [bytes_same q1, q2, pars_same h2]
theorem txC_at {e : ByteArray} {w : World} {b o : Nat} (h : ∀ (r : Nat) (u : Value), (txC e)[r]? = some u → w.cell? ⟨b, o + r, none⟩ = some u) : w.cell? ⟨b, o, none⟩ = some (.string e) := h 0 _ rfl
theorem par_same (a : ByteArray) (s : Int) (w : World) : (binOp .neq 67 (.agg #[.string a, .int .u8 s]) (.agg #[.string a, .int .u8 s])).run Tryz.prog w = .ok (.bool false) w := by
  rw [par_neq]
  simp
theorem fn_set {w : World} {b : Nat} {a0 a1 a2 a3 v0 v1 v2 v3 : Value} {T : TypeId} (h : w.heap[b]? = some (.cells #[a0, a1, a2, a3] T (0, 0))) : ((((w.setCell ⟨b, 0, none⟩ v0).setCell ⟨b, 1, none⟩ v1).setCell ⟨b, 2, none⟩ v2).setCell ⟨b, 3, none⟩ v3).heap[b]? = some (.cells #[v0, v1, v2, v3] T (0, 0)) := set_at (set_at (set_at (set_at h 0 v0) 1 v1) 2 v2) 3 v3
theorem fn_turn (w : World) (b : Nat) (v0 v1 v2 v3 : Value) : Turn [b] w ((((w.setCell ⟨b, 0, none⟩ v0).setCell ⟨b, 1, none⟩ v1).setCell ⟨b, 2, none⟩ v2).setCell ⟨b, 3, none⟩ v3) := ((((Turn.refl [b] w).setCell (.inl (by simp)) v0).setCell (.inl (by simp)) v1).setCell (.inl (by simp)) v2).setCell (.inl (by simp)) v3
end Go.Proofs.YtlhbhpdpjidpgaaGreatDoor.Prs
