/-
  Memory, in the words of this layer: what a call may turn; a row of words of the call's own; the reader. Appending a word. No condition beyond the sizes that each law names.
-/
import Derived.Test.YtofadlenblobnaaLRow
import Derived.Test.YtofadlenblobnaaLDraw
import Derived.Below
import Derived.OwnWalk
import Derived.Laws.OwnMore
import Derived.Maps.AppendAt
import Derived.Deep.AppendLies
namespace Go.Proofs.Ytofadlenblobnaa.Lex
open Go.RowKit
open Num (EndsW)
set_option maxRecDepth 100000
/-- Only these blocks turned; what is new is new. -/
structure Turn (S : List Nat) (w w' : World) : Prop where
  os : w'.os = w.os
  tape : w'.tape = w.tape
  output : w'.output = w.output
  size : w.heap.size ≤ w'.heap.size
  block : ∀ k, k < w.heap.size → k ∉ S → w'.heap[k]? = w.heap[k]?
theorem Turn.refl (S : List Nat) (w : World) : Turn S w w := ⟨rfl, rfl, rfl, Nat.le_refl _, fun _ _ _ => rfl⟩
section
variable {S S' : List Nat} {w w1 w2 : World}
theorem Turn.then_ (h : Turn S w w1) (h2 : Turn S' w1 w2) (hS : ∀ k ∈ S', k ∈ S ∨ w.heap.size ≤ k) : Turn S w w2 :=
  ⟨h2.os.trans h.os, h2.tape.trans h.tape, h2.output.trans h.output, Nat.le_trans h.size h2.size, fun k hk hn =>
    (h2.block k (Nat.lt_of_lt_of_le hk h.size) (fun hm => by rcases hS k hm with h | h; exact hn h; omega)).trans (h.block k hk hn)⟩
theorem Turn.trans (h : Turn S w w1) (h2 : Turn S w1 w2) : Turn S w w2 := h.then_ h2 fun _ hk => .inl hk
theorem Turn.more (h : Turn S w w1) (hS : ∀ k ∈ S, k ∈ S') : Turn S' w w1 := ⟨h.os, h.tape, h.output, h.size, fun k hk hn => h.block k hk fun hm => hn (hS k hm)⟩
theorem Turn.grown (h : Turn S w w1) {row : Option Nat} (hg : w1.grownBy w2 row) (hr : ∀ k, row = some k → k ∈ S ∨ w.heap.size ≤ k) : Turn S w w2 :=
  ⟨hg.os.trans h.os, hg.tape.trans h.tape, hg.output.trans h.output, Nat.le_trans h.size hg.size, fun k hk hn =>
    (hg.block k (Nat.lt_of_lt_of_le hk h.size) (fun he => by rcases hr k he.symm with h | h; exact hn h; omega)).trans (h.block k hk hn)⟩
theorem Turn.below (h : Turn S w w1) (hb : Below w1.heap.size w1 w2) : Turn S w w2 :=
  ⟨hb.os.trans h.os, hb.tape.trans h.tape, hb.output.trans h.output, Nat.le_trans h.size hb.size, fun k hk hn => (hb.block k (Nat.lt_of_lt_of_le hk h.size)).trans (h.block k hk hn)⟩
theorem Turn.alloc (h : Turn S w w1) (o : Obj) : Turn S w (w1.alloc o) := h.grown (World.grownBy_alloc w1 o none) (by simp)
theorem Turn.drew (h : Turn S w w1) : Turn S w w1.drew := ⟨h.os, h.tape, h.output, h.size, h.block⟩
theorem Turn.drewN (h : Turn S w w1) (m : Nat) : Turn S w (w1.drewN m) := ⟨h.os, h.tape, h.output, h.size, h.block⟩
theorem Turn.setCell (h : Turn S w w1) {p : Addr} (hp : p.block ∈ S ∨ w.heap.size ≤ p.block) (u : Value) : Turn S w (w1.setCell p u) :=
  ⟨h.os, h.tape, h.output, by simp [World.setCell]; exact h.size, fun k hk hn => (Below.heap_setCell w1 p u k (by rintro rfl; rcases hp with h | h; exact hn h; omega)).trans (h.block k hk hn)⟩
theorem heap_setCells {b k : Nat} (hk : k ≠ b) : ∀ (vs : List Value) (o : Nat) (w : World), (w.setCells b o vs).heap[k]? = w.heap[k]?
  | [], _, _ => rfl
  | v :: r, o, w => (heap_setCells hk r (o + 1) (w.setCell ⟨b, o, none⟩ v)).trans (Below.heap_setCell w _ v k hk)
theorem size_setCells {b : Nat} : ∀ (vs : List Value) (o : Nat) (w : World), (w.setCells b o vs).heap.size = w.heap.size
  | [], _, _ => rfl
  | v :: r, o, w => (size_setCells r (o + 1) (w.setCell ⟨b, o, none⟩ v)).trans (by simp [World.setCell])
theorem os_setCells {b : Nat} : ∀ (vs : List Value) (o : Nat) (w : World), (w.setCells b o vs).os = w.os ∧ (w.setCells b o vs).tape = w.tape ∧ (w.setCells b o vs).output = w.output
  | [], _, _ => ⟨rfl, rfl, rfl⟩
  | v :: r, o, w => os_setCells r (o + 1) (w.setCell ⟨b, o, none⟩ v)
theorem Turn.setCells (h : Turn S w w1) {b : Nat} (hb : b ∈ S ∨ w.heap.size ≤ b) (o : Nat) (vs : List Value) : Turn S w (w1.setCells b o vs) := by
  obtain ⟨e1, e2, e3⟩ := os_setCells (b := b) vs o w1
  exact ⟨e1.trans h.os, e2.trans h.tape, e3.trans h.output, by rw [size_setCells]; exact h.size,
    fun k hk hn => (heap_setCells (by rintro rfl; rcases hb with h | h; exact hn h; omega) vs o w1).trans (h.block k hk hn)⟩
theorem Turn.low (h : Turn S w w1) {base : Nat} (hS : ∀ k ∈ S, base ≤ k) (hb : base ≤ w.heap.size) : Below base w w1 :=
  ⟨h.os, h.tape, h.output, h.size, fun k hk => h.block k (by omega) (fun hm => by have := hS k hm; omega)⟩
theorem Turn.ofBelow (h : Below w.heap.size w w1) : Turn S w w1 := (Turn.refl S w).below h
end

theorem plain_add (b off j : Nat) : (⟨b, off, none⟩ : Addr).add j = ⟨b, off + j, none⟩ := by unfold Addr.add; split <;> simp_all
theorem lt_of_heap {w : World} {g : Nat} {o : Obj} (h : w.heap[g]? = some o) : g < w.heap.size := (Array.getElem?_eq_some_iff.1 h).1

theorem grown_set (w : World) (g i : Nat) (u : Value) : w.grownBy (w.setCell ⟨g, i, none⟩ u) (some g) :=
  ⟨rfl, rfl, rfl, by simp [World.setCell], fun k _ hne => Below.heap_setCell w _ u k (by rintro rfl; exact hne rfl)⟩
theorem cell_at {w : World} {g : Nat} {cs : Array Value} {T : TypeId} (h : w.heap[g]? = some (.cells cs T (0, 0))) (i : Nat) : w.cell? ⟨g, i, none⟩ = cs[i]? := by simp [World.cell?, h]
theorem free_at {w : World} {g : Nat} {cs : Array Value} {T : TypeId} (h : w.heap[g]? = some (.cells cs T (0, 0))) (i : Nat) : w.frozen? ⟨g, i, none⟩ = false := by simp [World.frozen?, h]
theorem set_at {w : World} {g : Nat} {cs : Array Value} {T : TypeId} (h : w.heap[g]? = some (.cells cs T (0, 0))) (i : Nat) (u : Value) :
    (w.setCell ⟨g, i, none⟩ u).heap[g]? = some (.cells (cs.setIfInBounds i u) T (0, 0)) := by simp [World.setCell, Array.getElem?_modify, h]

def bs (l : List UInt8) : ByteArray := ⟨l.toArray⟩
def str (l : List UInt8) : Value := .string (bs l)
theorem bs_data (l : List UInt8) : (bs l).data.toList = l := rfl
theorem bs_of (s : ByteArray) : bs s.data.toList = s := by cases s; rfl
theorem bs_size (l : List UInt8) : (bs l).size = l.length := rfl
/-- A word as cells; as a value. -/
def wdC (x : Wd) : List Value := [.int .i64 x.k, .string (bs x.s), .int .i64 x.n]
def wdV (x : Wd) : Value := .agg #[.int .i64 x.k, .string (bs x.s), .int .i64 x.n]
def rowC (l : List Wd) : List Value := l.flatMap wdC
theorem rowC_app (l m : List Wd) : rowC (l ++ m) = rowC l ++ rowC m := by simp [rowC]
theorem rowC_one (x : Wd) : rowC [x] = wdC x := by simp [rowC]
theorem rowC_cons (x : Wd) (l : List Wd) : rowC (x :: l) = wdC x ++ rowC l := by simp [rowC]
theorem rowC_length (l : List Wd) : (rowC l).length = l.length * 3 := by
  induction l with
  | nil => rfl
  | cons x l ih => rw [rowC_cons, List.length_append, ih]; simp [wdC]; omega
theorem rowC_get : ∀ (l : List Wd) (p r : Nat), r < 3 → (rowC l)[p * 3 + r]? = (l[p]?).bind fun x => (wdC x)[r]?
  | [], p, r, _ => by simp [rowC]
  | x :: l, 0, r, hr => by
    rw [rowC_cons, List.getElem?_append_left (by simp [wdC]; omega)]
    simp
  | x :: l, p + 1, r, hr => by
    have hl : (wdC x).length = 3 := rfl
    rw [rowC_cons, List.getElem?_append_right (by omega), hl, show (p + 1) * 3 + r - 3 = p * 3 + r by omega, rowC_get l p r hr]
    simp
/-- What a slice of words reads as. -/
def Wds (w : World) (A : Option Addr) (l : List Wd) : Prop := 0 < l.length → ∃ b o, A = some ⟨b, o, none⟩ ∧ b < w.heap.size ∧ ∀ j x, l[j]? = some x →
  w.cell? ⟨b, o + j * 3, none⟩ = some (.int .i64 x.k) ∧ w.cell? ⟨b, o + (j * 3 + 1), none⟩ = some (.string (bs x.s)) ∧ w.cell? ⟨b, o + (j * 3 + 2), none⟩ = some (.int .i64 x.n)
theorem Wds.keep {w w' : World} {A : Option Addr} {l : List Wd} (h : Wds w A l) (hs : w.heap.size ≤ w'.heap.size) (hk : ∀ b o, A = some ⟨b, o, none⟩ → w'.heap[b]? = w.heap[b]?) : Wds w' A l := fun h0 => by
  obtain ⟨b, o, e, hb, hc⟩ := h h0
  have hh := hk b o e
  exact ⟨b, o, e, by omega, fun j x hx => ⟨(World.cell?_of_block (w := w) hh).trans (hc j x hx).1, (World.cell?_of_block (w := w) hh).trans (hc j x hx).2.1, (World.cell?_of_block (w := w) hh).trans (hc j x hx).2.2⟩⟩
theorem Wds.below {w w' : World} {A : Option Addr} {l : List Wd} (h : Wds w A l) (hb : Below w.heap.size w w') : Wds w' A l := fun h0 => by
  obtain ⟨b, o, e, hlt, hc⟩ := h h0
  have hh := hb.block b hlt
  exact ⟨b, o, e, Nat.lt_of_lt_of_le hlt hb.size, fun j x hx => ⟨(World.cell?_of_block (w := w) hh).trans (hc j x hx).1, (World.cell?_of_block (w := w) hh).trans (hc j x hx).2.1, (World.cell?_of_block (w := w) hh).trans (hc j x hx).2.2⟩⟩
theorem info_of {o : Option TypeInfo} {z : Option Value} {n b : Nat} (h : o.map (fun i => (i.zero, i.size, i.bytes)) = some (z, n, b)) : ∃ i, o = some i ∧ i.zero = z ∧ i.size = n ∧ i.bytes = b := by
  obtain ⟨i, hi, he⟩ := Option.map_eq_some_iff.1 h
  simp only [Prod.mk.injEq] at he
  exact ⟨i, hi, he.1, he.2.1, he.2.2⟩
def mine (g : Nat) (v : Value) : List Nat := g :: v.ownBlock.toList
end Go.Proofs.Ytofadlenblobnaa.Lex
