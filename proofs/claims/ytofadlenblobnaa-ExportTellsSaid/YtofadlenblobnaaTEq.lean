/-
  The library's EqualFunc over lists of expressions, with the package's own sameExpr; so sameExpr of any two expressions. Conditions: both trees lie in memory.
-/
import Derived.Test.YtofadlenblobnaaTSame
namespace Go.Proofs.Ytofadlenblobnaa.Tre
open Go.RowKit
set_option maxRecDepth 100000
theorem Row.at_ {α : Type} {k : Nat} {C : α → List Value} {w w' : World} {A : Option Addr} {l : List α} (h : Row k C w A l) (hb : Below w.heap.size w w') {j : Nat} {x : α} (hx : l[j]? = some x) :
    ∃ b o, A = some ⟨b, o, none⟩ ∧ ∀ (r : Nat) (u : Value), (C x)[r]? = some u → w'.cell? ⟨b, o + j * k + r, none⟩ = some u := by
  obtain ⟨b, o, e, _, hc⟩ := h.below hb (by have := (List.getElem?_eq_some_iff.1 hx).1; omega)
  exact ⟨b, o, e, fun r u hu => hc j x hx r u hu⟩
theorem exC_at {e : Ex} {w : World} {b o : Nat} (h : ∀ (r : Nat) (u : Value), (exC e)[r]? = some u → w.cell? ⟨b, o + r, none⟩ = some u) :
    w.cell? ⟨b, o, none⟩ = some (.int .i64 e.op) ∧ w.cell? ⟨b, o + 1, none⟩ = some (.int .i64 e.n) ∧ w.cell? ⟨b, o + 2, none⟩ = some (.string e.s) ∧ w.cell? ⟨b, o + 3, none⟩ = some (.string e.q) ∧ w.cell? ⟨b, o + 4, none⟩ = some (.slice e.a e.x.length e.c) := by
  cases e
  exact ⟨h 0 _ rfl, h 1 _ rfl, h 2 _ rfl, h 3 _ rfl, h 4 _ rfl⟩
theorem exV_eq (e : Ex) : exV e = .agg #[.int .i64 e.op, .int .i64 e.n, .string e.s, .string e.q, .slice e.a e.x.length e.c] := by cases e; rfl
theorem two_more {α : Type} {p : α → α → Bool} {x y : List α} {k : Nat} (h : ∀ (j : Nat) (a b : α), j < k → x[j]? = some a → y[j]? = some b → p a b = true) {a b : α} (ha : x[k]? = some a) (hb : y[k]? = some b) (hp : p a b = true) : ∀ (j : Nat) (a b : α), j < k + 1 → x[j]? = some a → y[j]? = some b → p a b = true := fun j a' b' hj h1 h2 => by
  by_cases e : j = k
  · subst e
    obtain rfl : a = a' := Option.some.inj (ha.symm.trans h1)
    obtain rfl : b = b' := Option.some.inj (hb.symm.trans h2)
    exact hp
  · exact h j a' b' (by omega) h1 h2
theorem all_two {α : Type} {p : α → α → Bool} {x y : List α} {n : Nat} (hl : x.length = y.length) (hn : x.length = n) (h : ∀ (j : Nat) (a b : α), j < n → x[j]? = some a → y[j]? = some b → p a b = true) : allTwo p x y = true :=
  allTwo_yes hl fun k a b h1 h2 => h k a b (by have := (List.getElem?_eq_some_iff.1 h1).1; omega) h1 h2
end Go.Proofs.Ytofadlenblobnaa.Tre
