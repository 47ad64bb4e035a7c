/-
  The library's EqualFunc over lists of statements, and over lists of functions, with the package's own sameStmt, sameFunc. Conditions: the trees lie in memory.
-/
import Derived.Test.YtofadlenblobnaaTEq
namespace Go.Proofs.Ytofadlenblobnaa.Tre
open Go.RowKit
set_option maxRecDepth 100000
theorem stC_at {e : St} {w : World} {b o : Nat} (h : ∀ (r : Nat) (u : Value), (stC e)[r]? = some u → w.cell? ⟨b, o + r, none⟩ = some u) :
    w.cell? ⟨b, o, none⟩ = some (.int .i64 e.op) ∧ w.cell? ⟨b, o + 1, none⟩ = some (.string e.s) ∧ w.cell? ⟨b, o + 2, none⟩ = some (.int .i64 e.e.op) ∧ w.cell? ⟨b, o + 3, none⟩ = some (.int .i64 e.e.n) ∧ w.cell? ⟨b, o + 4, none⟩ = some (.string e.e.s) ∧ w.cell? ⟨b, o + 5, none⟩ = some (.string e.e.q) ∧ w.cell? ⟨b, o + 6, none⟩ = some (.slice e.e.a e.e.x.length e.e.c) ∧ w.cell? ⟨b, o + 7, none⟩ = some (.slice e.a e.b.length e.c) ∧ w.cell? ⟨b, o + 8, none⟩ = some (.slice e.a2 e.b2.length e.c2) := by
  obtain ⟨o, s, ⟨eo, en, es, eq, ea, ec, ex⟩, a, c, b, a2, c2, b2⟩ := e
  exact ⟨h 0 _ rfl, h 1 _ rfl, h 2 _ rfl, h 3 _ rfl, h 4 _ rfl, h 5 _ rfl, h 6 _ rfl, h 7 _ rfl, h 8 _ rfl⟩
theorem fnC_at {e : Fn} {w : World} {b o : Nat} (h : ∀ (r : Nat) (u : Value), (fnC e)[r]? = some u → w.cell? ⟨b, o + r, none⟩ = some u) :
    w.cell? ⟨b, o, none⟩ = some (.string e.s) ∧ w.cell? ⟨b, o + 1, none⟩ = some (.slice e.pa e.p.length e.pc) ∧ w.cell? ⟨b, o + 2, none⟩ = some (.int .u8 e.r) ∧ w.cell? ⟨b, o + 3, none⟩ = some (.slice e.ba e.b.length e.bc) := by
  cases e
  exact ⟨h 0 _ rfl, h 1 _ rfl, h 2 _ rfl, h 3 _ rfl⟩
theorem stV_eq (e : St) : stV e = .agg #[.int .i64 e.op, .string e.s, .int .i64 e.e.op, .int .i64 e.e.n, .string e.e.s, .string e.e.q, .slice e.e.a e.e.x.length e.e.c, .slice e.a e.b.length e.c, .slice e.a2 e.b2.length e.c2] := by
  obtain ⟨o, s, ⟨eo, en, es, eq, ea, ec, ex⟩, a, c, b, a2, c2, b2⟩ := e
  rfl
theorem fnV_eq (e : Fn) : fnV e = .agg #[.string e.s, .slice e.pa e.p.length e.pc, .int .u8 e.r, .slice e.ba e.b.length e.bc] := rfl
end Go.Proofs.Ytofadlenblobnaa.Tre
