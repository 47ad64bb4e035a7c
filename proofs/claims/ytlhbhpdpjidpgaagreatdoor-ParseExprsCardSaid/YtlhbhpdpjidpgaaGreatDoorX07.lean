/-
  The library's EqualFunc over lists of expressions, with the package's own sameExpr; so sameExpr of any two expressions. Conditions: both trees lie in memory.
-/
import Derived.Test.YtlhbhpdpjidpgaaGreatDoorX06
import Derived.RangeFuncNested
import Derived.RangeFuncBound
import Derived.RangeFuncKeeps
import Derived.RangeFuncBox
import Derived.RangeFuncCalls
import Derived.RangeFuncLeaves
import Derived.Shelf.RegionOpen
import Derived.OwnWalkIn
import Derived.TacticsInMore
import Derived.LoopNIn
import Derived.LoopIn
namespace Go.Proofs.YtlhbhpdpjidpgaaGreatDoor.Tre
open Go.RowKit
set_option maxRecDepth 100000
theorem Row.at_ {α : Type} {k : Nat} {C : α → List Value} {w w' : World} {A : Option Addr} {l : List α} (h : Row k C w A l) (hb : Below w.heap.size w w') {j : Nat} {x : α} (hx : l[j]? = some x) :
    ∃ b o, A = some ⟨b, o, none⟩ ∧ ∀ (r : Nat) (u : Value), (C x)[r]? = some u → w'.cell? ⟨b, o + j * k + r, none⟩ = some u := by
  obtain ⟨b, o, e, _, hc⟩ := h.below hb (by have := (List.getElem?_eq_some_iff.1 hx).1; omega)
  exact ⟨b, o, e, fun r u hu => hc j x hx r u hu⟩
theorem exC_at {e : Ex} {w : World} {b o : Nat} (h : ∀ (r : Nat) (u : Value), (exC e)[r]? = some u → w.cell? ⟨b, o + r, none⟩ = some u) :
    w.cell? ⟨b, o, none⟩ = some (.int .i64 e.op) ∧ w.cell? ⟨b, o + 1, none⟩ = some (.int .i64 e.n) ∧ w.cell? ⟨b, o + 2, none⟩ = some (.string e.s) ∧ w.cell? ⟨b, o + 3, none⟩ = some (.string e.q) ∧ w.cell? ⟨b, o + 4, none⟩ = some (.slice e.a e.x.length e.c) := by
  cases e
  exact ⟨h 0 _ rfl, h 1 _ rfl, h 2 _ rfl, h 3 _ rfl, h 4 _ rfl⟩
theorem exV_eq (e : Ex) : exV e = .agg #[.int .i64 e.op, .int .i64 e.n, .string e.s, .string e.q, .slice e.a e.x.length e.c] := by cases e; rfl
theorem two_more {α : Type} {p : α → α → Bool} {x y : List α} {k : Nat} (h : ∀ (j : Nat) (a b : α), j < k → x[j]? = some a → y[j]? = some b → p a b = true) {a b : α} (ha : x[k]? = some a) (hb : y[k]? = some b) (hp : p a b = true) : ∀ (j : Nat) (a b : α), j < k + 1 → x[j]? = some a → y[j]? = some b → p a b = true := fun j a' b' hj h1 h2 => by
  by_cases e : j = k
  · subst e
    obtain rfl : a = a' := Option.some.inj (ha.symm.trans h1)
    obtain rfl : b = b' := Option.some.inj (hb.symm.trans h2)
    exact hp
  · exact h j a' b' (by omega) h1 h2
theorem all_two {α : Type} {p : α → α → Bool} {x y : List α} {n : Nat} (hl : x.length = y.length) (hn : x.length = n) (h : ∀ (j : Nat) (a b : α), j < n → x[j]? = some a → y[j]? = some b → p a b = true) : allTwo p x y = true :=
  allTwo_yes hl fun k a b h1 h2 => h k a b (by have := (List.getElem?_eq_some_iff.1 h1).1; omega) h1 h2
end Go.Proofs.YtlhbhpdpjidpgaaGreatDoor.Tre
/- The library's EqualFunc over lists of statements, and over lists of functions, with the package's own sameStmt, sameFunc. Conditions: the trees lie in memory. -/
namespace Go.Proofs.YtlhbhpdpjidpgaaGreatDoor.Tre
open Go.RowKit
set_option maxRecDepth 100000
theorem stC_at {e : St} {w : World} {b o : Nat} (h : ∀ (r : Nat) (u : Value), (stC e)[r]? = some u → w.cell? ⟨b, o + r, none⟩ = some u) :
    w.cell? ⟨b, o, none⟩ = some (.int .i64 e.op) ∧ w.cell? ⟨b, o + 1, none⟩ = some (.string e.s) ∧ w.cell? ⟨b, o + 2, none⟩ = some (.int .i64 e.e.op) ∧ w.cell? ⟨b, o + 3, none⟩ = some (.int .i64 e.e.n) ∧ w.cell? ⟨b, o + 4, none⟩ = some (.string e.e.s) ∧ w.cell? ⟨b, o + 5, none⟩ = some (.string e.e.q) ∧ w.cell? ⟨b, o + 6, none⟩ = some (.slice e.e.a e.e.x.length e.e.c) ∧ w.cell? ⟨b, o + 7, none⟩ = some (.slice e.a e.b.length e.c) ∧ w.cell? ⟨b, o + 8, none⟩ = some (.slice e.a2 e.b2.length e.c2) := by
  obtain ⟨o, s, ⟨eo, en, es, eq, ea, ec, ex⟩, a, c, b, a2, c2, b2⟩ := e
  exact ⟨h 0 _ rfl, h 1 _ rfl, h 2 _ rfl, h 3 _ rfl, h 4 _ rfl, h 5 _ rfl, h 6 _ rfl, h 7 _ rfl, h 8 _ rfl⟩
theorem fnC_at {e : Fn} {w : World} {b o : Nat} (h : ∀ (r : Nat) (u : Value), (fnC e)[r]? = some u → w.cell? ⟨b, o + r, none⟩ = some u) :
    w.cell? ⟨b, o, none⟩ = some (.string e.s) ∧ w.cell? ⟨b, o + 1, none⟩ = some (.slice e.pa e.p.length e.pc) ∧ w.cell? ⟨b, o + 2, none⟩ = some (.int .u8 e.r) ∧ w.cell? ⟨b, o + 3, none⟩ = some (.slice e.ba e.b.length e.bc) := by
  cases e
  exact ⟨h 0 _ rfl, h 1 _ rfl, h 2 _ rfl, h 3 _ rfl⟩
theorem stV_eq (e : St) : stV e = .agg #[.int .i64 e.op, .string e.s, .int .i64 e.e.op, .int .i64 e.e.n, .string e.e.s, .string e.e.q, .slice e.e.a e.e.x.length e.e.c, .slice e.a e.b.length e.c, .slice e.a2 e.b2.length e.c2] := by
  obtain ⟨o, s, ⟨eo, en, es, eq, ea, ec, ex⟩, a, c, b, a2, c2, b2⟩ := e
  rfl
theorem fnV_eq (e : Fn) : fnV e = .agg #[.string e.s, .slice e.pa e.p.length e.pc, .int .u8 e.r, .slice e.ba e.b.length e.bc] := rfl
end Go.Proofs.YtlhbhpdpjidpgaaGreatDoor.Tre
/- Are two statements, two functions the same (the package's own): what sameStmt, sameFunc and the library's Equal over parameters, over texts answer. Conditions: both trees lie in memory. -/
namespace Go.Proofs.YtlhbhpdpjidpgaaGreatDoor.Tre
open Go.RowKit
set_option maxRecDepth 100000
/-- The two boxes lie as they lay. -/
theorem box_at {w w1 : World} {cs ds : Array Value} {T : TypeId} (h : Below ((w.alloc (.cells cs T)).alloc (.cells ds T)).heap.size ((w.alloc (.cells cs T)).alloc (.cells ds T)) w1) (i : Nat) :
    w1.cell? ⟨w.heap.size, i, none⟩ = cs[i]? ∧ w1.cell? ⟨w.heap.size + 1, i, none⟩ = ds[i]? := by
  have h0 : ((w.alloc (.cells cs T)).alloc (.cells ds T)).heap[w.heap.size]? = some (.cells cs T (0, 0)) := (Below.heap_alloc _ _ _ (by simp)).trans (new_at w cs T)
  have h1 : ((w.alloc (.cells cs T)).alloc (.cells ds T)).heap[w.heap.size + 1]? = some (.cells ds T (0, 0)) := by
    have := new_at (w.alloc (.cells cs T)) ds T
    rwa [World.size_alloc] at this
  exact ⟨cell_at ((h.block _ (by simp; omega)).trans h0) i, cell_at ((h.block _ (by simp)).trans h1) i⟩
theorem exV_flat (e : Ex) : Value.agg #[.int .i64 e.op, .int .i64 e.n, .string e.s, .string e.q, .slice e.a e.x.length e.c] = exV e := (exV_eq e).symm
end Go.Proofs.YtlhbhpdpjidpgaaGreatDoor.Tre
/- The library's Equal over lists of parameters, and over lists of texts. Conditions: both lists lie in memory. -/
namespace Go.Proofs.YtlhbhpdpjidpgaaGreatDoor.Tre
open Go.RowKit
set_option maxRecDepth 100000
theorem below_drewN (w : World) (m : Nat) : Below w.heap.size w (w.drewN m) := ⟨rfl, rfl, rfl, Nat.le_refl _, fun _ _ => rfl⟩
theorem parC_at {e : Par} {w : World} {b o : Nat} (h : ∀ (r : Nat) (u : Value), (parC e)[r]? = some u → w.cell? ⟨b, o + r, none⟩ = some u) :
    w.cell? ⟨b, o, none⟩ = some (.string e.s) ∧ w.cell? ⟨b, o + 1, none⟩ = some (.int .u8 e.t) := ⟨h 0 _ rfl, h 1 _ rfl⟩
theorem par_neq (a b : ByteArray) (s t : Int) (w : World) : (binOp .neq 67 (.agg #[.string a, .int .u8 s]) (.agg #[.string b, .int .u8 t])).run Tryz.prog w = .ok (.bool (!(a.toList == b.toList && s == t))) w := by
  have u9 := Tryz.underlying9
  have u33 : Tryz.prog.underlying 49 = some (.int .u8) := by kernel_rfl
  have a9 := Tryz.isAgg9
  have a33 := Tryz.isAgg49
  have z9 := Tryz.sizeOf9
  have z33 := Tryz.sizeOf49
  have hS : Tryz.prog.underlying 67 = some (.struct (Tryz.prog.fieldsOf 67)) := by kernel_rfl
  have hp : Tryz.prog.stoodInHeld 67 = false := by kernel_rfl
  rw [run_neq_struct, show (10000 : Nat) = 9999 + 1 from rfl, run_equalIn_agg w 9999 67 _ _ hS hp]
  simp only [Program.fieldsOf, Tryz.underlying67]
  go_simp
  by_cases h1 : a.toList = b.toList <;> by_cases h2 : s = t <;> simp [h1, h2]
theorem par_guard (op : BinOp) (x y : Operand) (xs ys : Array Value) (w : World) : (eqGuard op 67 x y (.agg xs) (.agg ys)).run Tryz.prog w = .ok () w := run_eqGuard_agg w op _ x y xs ys (by kernel_rfl)
end Go.Proofs.YtlhbhpdpjidpgaaGreatDoor.Tre
/- Are two functions the same (the package's own): what sameFunc and the library's EqualFunc over it answer. Conditions: both trees lie in memory. -/
namespace Go.Proofs.YtlhbhpdpjidpgaaGreatDoor.Tre
open Go.RowKit
set_option maxRecDepth 100000
end Go.Proofs.YtlhbhpdpjidpgaaGreatDoor.Tre
/- What a round of a loop over a tree keeps: all that lay below lo; all cells that lay from hi on. What a loop over a tree asks of each round. No condition. -/
namespace Go.Proofs.YtlhbhpdpjidpgaaGreatDoor.Tre
open Go.RowKit
set_option maxRecDepth 100000
/-- All cells but those of S, and all that is no cells from top on, lie as they lay. -/
structure Keep (S : Nat → Prop) (top : Nat) (W W' : World) : Prop where
  size : W.heap.size ≤ W'.heap.size
  high : ∀ (k : Nat) (o : Obj), ¬ S k → W.heap[k]? = some o → o.isCells = true → W'.heap[k]? = some o
  rest : ∀ (k : Nat) (o : Obj), top ≤ k → W.heap[k]? = some o → o.isCells = false → W'.heap[k]? = some o
section
variable {S : Nat → Prop} {top : Nat} {A B C : World}
theorem Keep.refl (S : Nat → Prop) (top : Nat) (W : World) : Keep S top W W := ⟨Nat.le_refl _, fun _ _ _ h _ => h, fun _ _ _ h _ => h⟩
theorem Keep.trans (h : Keep S top A B) (k : Keep S top B C) : Keep S top A C :=
  ⟨Nat.le_trans h.size k.size, fun i o hi ho hc => k.high i o hi (h.high i o hi ho hc) hc, fun i o hi ho hc => k.rest i o hi (h.rest i o hi ho hc) hc⟩
theorem Keep.below (hb : Below A.heap.size A B) : Keep S top A B :=
  ⟨hb.size, fun k _ _ ho _ => (hb.block k (lt_of_heap ho)).trans ho, fun k _ _ ho _ => (hb.block k (lt_of_heap ho)).trans ho⟩
theorem Keep.alloc (o : Obj) : Keep S top A (A.alloc o) := Keep.below ((Below.refl _ A).alloc (Nat.le_refl _) o)
theorem Keep.drew : Keep S top A A.drew := ⟨Nat.le_refl _, fun _ _ _ h _ => h, fun _ _ _ h _ => h⟩
/-- One's own cells may turn. -/
theorem Keep.set {b i : Nat} {v : Value} (h1 : S b) {cs : Array Value} {T : TypeId} (hc : A.heap[b]? = some (.cells cs T (0, 0))) : Keep S top A (A.setCell ⟨b, i, none⟩ v) :=
  ⟨by simp [World.setCell], fun k o hk ho _ => (Below.heap_setCell A _ v k (by rintro rfl; exact hk h1)).trans ho,
   fun k o _ ho hn => (Below.heap_setCell A _ v k (by rintro rfl; rw [hc] at ho; cases ho; simp [Obj.isCells] at hn)).trans ho⟩
/-- A record that is no cells may turn, below top. -/
theorem Keep.put {l : Nat} {o : Obj} (o' : Obj) (h2 : l < top) (hl : A.heap[l]? = some o) (hn : o.isCells = false) : Keep S top A (A.putObj l o') :=
  ⟨by simp, fun k o2 _ ho hc => (World.putObj_heap_other (by rintro rfl; rw [hl] at ho; cases ho; rw [hn] at hc; cases hc)).trans ho, fun k o2 hk ho _ => (World.putObj_heap_other (by omega)).trans ho⟩
theorem Keep.cell (h : Keep S top A B) {k : Nat} {cs : Array Value} {T : TypeId} (hk : ¬ S k) (hc : A.heap[k]? = some (.cells cs T (0, 0))) : B.heap[k]? = some (.cells cs T (0, 0)) := h.high k _ hk hc rfl
theorem Keep.more {S' : Nat → Prop} {top' : Nat} (h : Keep S top A B) (h1 : ∀ b, S b → S' b) (h3 : top ≤ top') : Keep S' top' A B := ⟨h.size, fun k o hk => h.high k o (fun hs => hk (h1 k hs)), fun k o hk => h.rest k o (by omega)⟩
end
/-- All cells of w0 lie in W. -/
def Low (w0 W : World) : Prop := ∀ (k : Nat) (o : Obj), w0.heap[k]? = some o → o.isCells = true → W.heap[k]? = some o
theorem Low.keep {w0 A B : World} {S : Nat → Prop} {hi top : Nat} (h : Low w0 A) (h0 : ∀ b, S b → w0.heap.size ≤ b ∧ b < hi) (k : Keep S top A B) : Low w0 B := fun i o ho hc => k.high i o (fun hs => by have := (h0 i hs).1; have := lt_of_heap ho; omega) (h i o ho hc) hc
theorem Low.below {w0 A : World} (h : Below w0.heap.size w0 A) : Low w0 A := fun k _ ho _ => (h.block k (lt_of_heap ho)).trans ho
theorem Low.later {w0 A B : World} (h : Low w0 A) (hb : Below A.heap.size A B) : Low w0 B := fun k o ho hc => (hb.block k (lt_of_heap (h k o ho hc))).trans (h k o ho hc)
theorem cells_cell {W : World} {a : Addr} {v : Value} (h : W.cell? a = some v) : ∃ o : Obj, W.heap[a.block]? = some o ∧ o.isCells = true := by
  unfold World.cell? at h
  cases ho : W.heap[a.block]? with
  | none => simp [ho] at h
  | some o => cases o <;> simp [ho, Obj.isCells] at h ⊢
theorem Row.low {α : Type} {k : Nat} {C : α → List Value} {w0 W : World} {A : Option Addr} {l : List α} (h : Row k C w0 A l) (hb : Low w0 W) {j : Nat} {x : α} (hx : l[j]? = some x) :
    ∃ b o, A = some ⟨b, o, none⟩ ∧ b < w0.heap.size ∧ ∀ (r : Nat) (u : Value), (C x)[r]? = some u → W.cell? ⟨b, o + j * k + r, none⟩ = some u := by
  obtain ⟨b, o, e, hlt, hc⟩ := h (by have := (List.getElem?_eq_some_iff.1 hx).1; omega)
  refine ⟨b, o, e, hlt, fun r u hu => ?_⟩
  have h1 := hc j x hx r u hu
  obtain ⟨ob, ho, hcell⟩ := cells_cell h1
  exact (World.cell?_of_block (w := w0) ((hb b ob ho hcell).trans ho.symm)).trans h1
/-- Whatever turns from block B on is nothing to it. -/
def Mine {β : Type} (B : Nat) (J : β → World → Prop) : Prop := ∀ s W W' row, J s W → W.grownBy W' row → (∀ r, row = some r → B ≤ r) → J s W'
section
variable {β : Type} {B : Nat} {J : β → World → Prop}
theorem Mine.own (h : Mine B J) : OwnFrom B J := fun s W W' row hs hg hr => h s W W' row hs hg (fun r e => (hr r e).1)
theorem Mine.alloc (h : Mine B J) {s : β} {W : World} (o : Obj) (hs : J s W) : J s (W.alloc o) := h s W _ none hs (World.grownBy_alloc W o none) (fun r e => by cases e)
theorem Mine.putObj (h : Mine B J) {s : β} {W : World} {l : Nat} (o' : Obj) (hs : J s W) (hB : B ≤ l) : J s (W.putObj l o') := h s W _ (some l) hs (grownBy_putObj' W l o') (fun r e => by cases e; exact hB)
theorem Mine.setCell (h : Mine B J) {s : β} {W : World} {l : Nat} (v : Value) (hs : J s W) (hB : B ≤ l) : J s (W.setCell ⟨l, 0, none⟩ v) := h s W _ (some l) hs (grownBy_setCell' W l v) (fun r e => by cases e; exact hB)
theorem Mine.below (h : Mine B J) {s : β} {X Y : World} (hj : J s X) (hb : Below X.heap.size X Y) : J s Y :=
  h s X Y none hj ⟨hb.os, hb.tape, hb.output, hb.size, fun k hk _ => hb.block k hk⟩ (fun r e => by cases e)
end
/-- How a round ends: on, at the next node; or no more. -/
def Goes (S : Nat → Prop) (top : Nat) (J : Nat → World → Prop) (Jx : World → Prop) (k : Nat) (W : World) (e : Ending) (W' : World) : Prop :=
  (e = .returned (.bool true) ∧ J k W' ∧ Keep S top W W') ∨ (e = .returned (.bool false) ∧ Jx W' ∧ Keep S top W W')
theorem own_alloc {J : Nat → World → Prop} {B : Nat} (h : Mine B J) {k : Nat} {W : World} (hJ : J k W) (o : Obj) : J k (W.alloc o) := h.alloc o hJ
end Go.Proofs.YtlhbhpdpjidpgaaGreatDoor.Tre
