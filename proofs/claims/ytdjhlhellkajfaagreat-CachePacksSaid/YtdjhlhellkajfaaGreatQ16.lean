/-
  Texts FRGet, in one file. What each proves, and its conditions, stand at its head below.
-/
import Derived.Test.YtdjhlhellkajfaaGreatQ13
import Derived.Test.YtdjhlhellkajfaaGreatQ14
/-
  What the document's Get answers. Conditions: the slice reads as these bytes.
-/
namespace Go.Proofs.YtdjhlhellkajfaaGreat.Frm
open Go.RowKit Codec FrameM Cod
set_option maxRecDepth 100000
set_option maxRecDepth 100000
theorem count_small (s : St) : count 65535 s = small s ∧ countS 65535 s = tkS 2 s := by
  have h := small_lt s
  have ho : over 65535 s = false := by simp [over]; omega
  simp [count, countS, ho]
theorem rdr_new (w w' : World) (T : TypeId) (A : Option Addr) (n c B : Nat) (xs : List UInt8) (h : Byts w B A n xs) (hB : B ≤ w.heap.size) (hn : n ≤ c) (hc : c ≤ maxLen) (hm : n ≤ 1000000000) (he : w' = w.alloc (.cells #[.slice A n c, .bool false] T)) : Rdr T w' B w.heap.size ⟨xs, false⟩ := by
  subst he
  exact ⟨goodOk _, hB, A, n, c, heap_alloc_new w _, h.alloc hB _, hn, hc, hm⟩
theorem cell_drew (w : World) (a : Addr) : w.drew.cell? a = w.cell? a := rfl
/-- The four cells of a mark; bytes as a text: what a region asks of its worlds. -/
def Four (b : Nat) (x0 x1 x2 x3 : Int) (w : World) : Prop := w.cell? ⟨b, 0, none⟩ = some (.int .i64 x0) ∧ w.cell? ⟨b, 1, none⟩ = some (.int .i64 x1) ∧ w.cell? ⟨b, 2, none⟩ = some (.int .i64 x2) ∧ w.cell? ⟨b, 3, none⟩ = some (.int .i64 x3)
def Cv (A : Option Addr) (n c : Nat) (xs : List UInt8) (w : World) : Prop := (convert 39 9 (.slice A n c)).run Tryz.prog w = .ok (.string ⟨xs.toArray⟩) w
theorem four_of {w : World} {b : Nat} {T : TypeId} {x0 x1 x2 x3 : Int} (h : w.heap[b]? = some (.cells (mkC x0 x1 x2 x3) T (0, 0))) : Four b x0 x1 x2 x3 w := ⟨cell_at h 0, cell_at h 1, cell_at h 2, cell_at h 3⟩
theorem four_drew {w : World} {b : Nat} {x0 x1 x2 x3 : Int} (h : Four b x0 x1 x2 x3 w) : Four b x0 x1 x2 x3 w.drew := ⟨(cell_drew _ _).trans h.1, (cell_drew _ _).trans h.2.1, (cell_drew _ _).trans h.2.2.1, (cell_drew _ _).trans h.2.2.2⟩
end Go.Proofs.YtdjhlhellkajfaaGreat.Frm
