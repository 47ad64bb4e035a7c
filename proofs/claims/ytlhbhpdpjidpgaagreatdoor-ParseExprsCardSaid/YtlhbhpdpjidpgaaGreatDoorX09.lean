/-
  Small laws for a function whose loops over sequences stand within a loop: the marks that it collects; what its own steps leave. Places in a list of lists. No condition.
-/
import Derived.Test.YtlhbhpdpjidpgaaGreatDoorX08
namespace Go.Proofs.YtlhbhpdpjidpgaaGreatDoor.Tre
open Go.RowKit
set_option maxRecDepth 100000
theorem flatMap_at {α β : Type} (g : α → List β) : ∀ (l : List α) (j i : Nat) (a : α) (y : β), l[j]? = some a → (g a)[i]? = some y → (l.flatMap g)[((l.take j).flatMap g).length + i]? = some y
  | [], j, i, a, y, h, _ => by simp at h
  | b :: r, 0, i, a, y, h, hy => by
    obtain rfl : b = a := by simpa using h
    rw [List.flatMap_cons, List.getElem?_append_left (by have := (List.getElem?_eq_some_iff.1 hy).1; simp; omega)]
    simpa using hy
  | b :: r, j + 1, i, a, y, h, hy => by
    have ih := flatMap_at g r j i a y (by simpa using h) hy
    rw [List.take_succ_cons, List.flatMap_cons, List.flatMap_cons, List.length_append, List.getElem?_append_right (by omega), show (g b).length + ((r.take j).flatMap g).length + i - (g b).length = ((r.take j).flatMap g).length + i by omega]
    exact ih
theorem flatMap_take {α β : Type} (g : α → List β) (l : List α) (j : Nat) (a : α) (h : l[j]? = some a) : ((l.take (j + 1)).flatMap g).length = ((l.take j).flatMap g).length + (g a).length := by
  rw [List.take_add_one, h]
  simp
def mark (D : Nat) : Deferred := { target := .collected D, args := #[] }
/-- The blocks of the marks stand open. -/
def Marks (ds : List Nat) (W : World) : Prop := ds.Nodup ∧ ∀ D ∈ ds, W.heap[D]? = some (.deferred (some []))
theorem Marks.nil (W : World) : Marks [] W := ⟨List.nodup_nil, fun D h => by cases h⟩
theorem Marks.lt {ds : List Nat} {W : World} (h : Marks ds W) : ∀ D ∈ ds, D < W.heap.size := fun D hD => lt_of_heap (h.2 D hD)
theorem Marks.cons {ds : List Nat} {D : Nat} {W : World} (h : Marks ds W) (hn : D ∉ ds) (hD : W.heap[D]? = some (.deferred (some []))) : Marks (D :: ds) W :=
  ⟨List.nodup_cons.2 ⟨hn, h.1⟩, fun k hk => by rcases List.mem_cons.1 hk with rfl | hk; exact hD; exact h.2 k hk⟩
theorem Marks.keep {ds : List Nat} {A B : World} {S : Nat → Prop} {top : Nat} (h : Marks ds A) (hk : Keep S top A B) (ht : ∀ D ∈ ds, top ≤ D) : Marks ds B := ⟨h.1, fun D hD => hk.rest D _ (ht D hD) (h.2 D hD) rfl⟩
theorem Marks.below {ds : List Nat} {A B : World} (h : Marks ds A) (hb : Below A.heap.size A B) : Marks ds B := ⟨h.1, fun D hD => (hb.block D (h.lt D hD)).trans (h.2 D hD)⟩
theorem Marks.grown {ds : List Nat} {A B : World} {row : Option Nat} {b : Nat} (h : Marks ds A) (hg : A.grownBy B row) (hr : ∀ k, row = some k → b ≤ k) (ht : ∀ D ∈ ds, D < b) : Marks ds B :=
  ⟨h.1, fun D hD => (hg.block D (h.lt D hD) (fun e => by have := hr D e.symm; have := ht D hD; omega)).trans (h.2 D hD)⟩
/-- On its way out the function comes to its marks, one behind the other. -/
theorem leaves_marks {n : Nat} {fn : Func} {tmps : Array Value} {R : Ending → World → Prop} {B : Nat} (Inv : World → Prop) (hInv : ∀ W D, Inv W → B ≤ D → W.heap[D]? = some (.deferred (some [])) → Inv (W.putObj D (.deferred none)))
    (base : ∀ W, Inv W → LeavesIn Fence.wide n Tryz.prog fn tmps R [] .returning W) : ∀ (ds : List Nat) (W : World), Marks ds W → (∀ D ∈ ds, B ≤ D) → Inv W → LeavesInM Fence.wide n Tryz.prog fn tmps R (ds.map mark) .returning W
  | [], W, _, _, h => base W h
  | D :: ds, W, hm, hB, h => by
    have hD := hm.2 D (by simp)
    have hn := (List.nodup_cons.1 hm.1)
    refine ⟨by simp, .inl ⟨D, _, rfl, run_takeDeferred hD, ?_⟩⟩
    exact leaves_marks Inv hInv base ds _ ⟨hn.2, fun k hk => (World.putObj_heap_other (by rintro rfl; exact hn.1 hk)).trans (hm.2 k (by simp [hk]))⟩ (fun k hk => hB k (by simp [hk])) (hInv W D h (hB D (by simp)) hD)
/-- A sequence that is through: its marks are shut; what it told stands. -/
theorem ends_marks {n : Nat} {fn : Func} {tmps : Array Value} {B N : Nat} {J : Nat → World → Prop} {Jx : World → Prop} (hJ : Mine B J) (hJx : Mine B (fun (_ : Unit) => Jx)) (hres : fn.results = #[]) {ds : List Nat} {W : World} (hm : Marks ds W) (hd : ∀ D ∈ ds, B ≤ D) (h : J N W ∨ Jx W) :
    LeavesInM Fence.wide n Tryz.prog fn tmps (fun e W' => (∃ v, e = .returned v) ∧ (J N W' ∨ Jx W')) (ds.map mark) .returning W :=
  leaves_marks (B := B) (fun W' => J N W' ∨ Jx W') (fun W' D hx hB _ => by
    rcases hx with hx | hx
    · exact .inl (hJ.putObj _ hx hB)
    · exact .inr (hJx.putObj (s := ()) _ hx hB)) (fun W' hx => ⟨_, results_none hres _ _ _, ⟨_, rfl⟩, hx⟩) ds W hm hd h
/-- What one's own steps leave as it lay. -/
theorem Keep.grow {S : Nat → Prop} {top b : Nat} {A X Y : World} {row : Option Nat} (h : Keep S top A X) (hg : X.grownBy Y row) (hr : ∀ k, row = some k → b ≤ k) (hb : A.heap.size ≤ b) : Keep S top A Y :=
  ⟨Nat.le_trans h.size hg.size,
   fun k o hk ho hc => (hg.block k (lt_of_heap (h.high k o hk ho hc)) (fun e => by have := hr k e.symm; have := lt_of_heap ho; omega)).trans (h.high k o hk ho hc),
   fun k o hk ho hc => (hg.block k (lt_of_heap (h.rest k o hk ho hc)) (fun e => by have := hr k e.symm; have := lt_of_heap ho; omega)).trans (h.rest k o hk ho hc)⟩
theorem cells_grown {X Y : World} {row : Option Nat} {b : Nat} {cs : Array Value} {T : TypeId} (hg : X.grownBy Y row) (hr : ∀ k, row = some k → ∃ o : Obj, X.heap[k]? = some o ∧ o.isCells = false) (hb : X.heap[b]? = some (.cells cs T (0, 0))) : Y.heap[b]? = some (.cells cs T (0, 0)) :=
  (hg.block b (lt_of_heap hb) (fun e => by obtain ⟨o, ho, hn⟩ := hr b e.symm; rw [hb] at ho; cases ho; simp [Obj.isCells] at hn)).trans hb
theorem nine_at {w : World} {b : Nat} {v0 v1 v2 v3 v4 v5 v6 v7 v8 : Value} {T : TypeId} (h : w.heap[b]? = some (.cells #[v0, v1, v2, v3, v4, v5, v6, v7, v8] T (0, 0))) :
    w.cell? ⟨b, 0, none⟩ = some v0 ∧ w.cell? ⟨b, 1, none⟩ = some v1 ∧ w.cell? ⟨b, 2, none⟩ = some v2 ∧ w.cell? ⟨b, 3, none⟩ = some v3 ∧ w.cell? ⟨b, 4, none⟩ = some v4 ∧ w.cell? ⟨b, 5, none⟩ = some v5 ∧ w.cell? ⟨b, 6, none⟩ = some v6 ∧ w.cell? ⟨b, 7, none⟩ = some v7 ∧ w.cell? ⟨b, 8, none⟩ = some v8 :=
  ⟨cell_at h 0, cell_at h 1, cell_at h 2, cell_at h 3, cell_at h 4, cell_at h 5, cell_at h 6, cell_at h 7, cell_at h 8⟩
theorem five_at {w : World} {b : Nat} {v0 v1 v2 v3 v4 : Value} {T : TypeId} (h : w.heap[b]? = some (.cells #[v0, v1, v2, v3, v4] T (0, 0))) :
    w.cell? ⟨b, 0, none⟩ = some v0 ∧ w.cell? ⟨b, 1, none⟩ = some v1 ∧ w.cell? ⟨b, 2, none⟩ = some v2 ∧ w.cell? ⟨b, 3, none⟩ = some v3 ∧ w.cell? ⟨b, 4, none⟩ = some v4 :=
  ⟨cell_at h 0, cell_at h 1, cell_at h 2, cell_at h 3, cell_at h 4⟩
theorem sts_mem {w : World} {x : List St} (h : ∀ s ∈ x, StIn w s) {s : St} (hs : s ∈ flatB x) : NdS w s := by
  obtain ⟨t, ht, hs⟩ := List.mem_flatMap.1 hs
  exact h t ht s hs
/-- What a sequence that hands on leans on: the trees; the box of yield; the box of the test. -/
structure Base (w0 : World) (B l b2 h : Nat) (W : World) : Prop where
  low : Low w0 W
  sz : B < W.heap.size
  ty : w0.heap.size ≤ B
  cap : b2 < B
  box : W.heap[B]? = some (.cells #[.func (.yield l) #[] #[]] 99 (0, 0))
  has : W.heap[b2]? = some (.cells #[.func (.func h) #[] #[]] 79 (0, 0))
section
variable {w0 X Y : World} {B l b2 h hi top : Nat} {S : Nat → Prop}
theorem Base.keep (hx : Base w0 B l b2 h X) (hk : Keep S top X Y) (h1 : ∀ b, S b → w0.heap.size ≤ b ∧ b < hi) (h2 : hi ≤ B) (h3 : ¬ S b2) : Base w0 B l b2 h Y :=
  ⟨hx.low.keep h1 hk, Nat.lt_of_lt_of_le hx.sz hk.size, hx.ty, hx.cap, hk.cell (fun hs => by have := (h1 _ hs).2; omega) hx.box, hk.cell h3 hx.has⟩
theorem Base.grown {row : Option Nat} (hx : Base w0 B l b2 h X) (hg : X.grownBy Y row) (hr : ∀ k, row = some k → B < k) : Base w0 B l b2 h Y :=
  ⟨fun k o ho hc => (hg.block k (lt_of_heap (hx.low k o ho hc)) (fun e => by have := hr k e.symm; have := hx.ty; have := lt_of_heap ho; omega)).trans (hx.low k o ho hc), Nat.lt_of_lt_of_le hx.sz hg.size, hx.ty, hx.cap, (hg.block _ (lt_of_heap hx.box) (fun e => by have := hr _ e.symm; omega)).trans hx.box, (hg.block _ (lt_of_heap hx.has) (fun e => by have := hr _ e.symm; have := hx.cap; omega)).trans hx.has⟩
theorem Base.below (hx : Base w0 B l b2 h X) (hb : Below X.heap.size X Y) : Base w0 B l b2 h Y :=
  ⟨hx.low.later hb, Nat.lt_of_lt_of_le hx.sz hb.size, hx.ty, hx.cap, (hb.block _ (lt_of_heap hx.box)).trans hx.box, (hb.block _ (lt_of_heap hx.has)).trans hx.has⟩
end
end Go.Proofs.YtlhbhpdpjidpgaaGreatDoor.Tre
/- nodes: the sequence of all nodes of functions: what it gives. Conditions: the trees lie in memory. -/
namespace Go.Proofs.YtlhbhpdpjidpgaaGreatDoor.Tre
open Go.RowKit
set_option maxRecDepth 100000
attribute [local go_sem] Oper.semAt_some
theorem nil_eq : Value.agg #[.int .i64 0, .int .i64 0, .string ⟨#[]⟩, .string ⟨#[]⟩, .slice none 0 0] = exV nilX := rfl
/-- How far the functions ahead reach. -/
def fpos (has : St → Bool) (x : List Fn) (j : Nat) : Nat := ((x.take j).flatMap (nodesF has)).length
/-- How far the statements ahead reach. -/
def spos (has : St → Bool) (x : List St) (j : Nat) : Nat := ((x.take j).flatMap (nodesS has)).length
theorem node_f {has : St → Bool} {x : List Fn} {j : Nat} {f : Fn} (h : x[j]? = some f) : (nodes has x)[fpos has x j]? = some nilX := by
  have := flatMap_at (nodesF has) x j 0 f nilX h rfl
  rwa [Nat.add_zero] at this
theorem node_s {has : St → Bool} {x : List Fn} {j k : Nat} {f : Fn} {s : St} (h : x[j]? = some f) (hs : (flatB f.b)[k]? = some s) : (nodes has x)[fpos has x j + 1 + spos has (flatB f.b) k]? = some nilX := by
  have h1 := flatMap_at (nodesS has) (flatB f.b) k 0 s nilX hs rfl
  have h2 := flatMap_at (nodesF has) x j (spos has (flatB f.b) k + 1) f nilX h (by unfold nodesF; rw [List.getElem?_cons_succ]; rwa [Nat.add_zero] at h1)
  rwa [show ((x.take j).flatMap (nodesF has)).length + (spos has (flatB f.b) k + 1) = fpos has x j + 1 + spos has (flatB f.b) k by unfold fpos; omega] at h2
theorem node_e {has : St → Bool} {x : List Fn} {j k i : Nat} {f : Fn} {s : St} {y : Ex} (h : x[j]? = some f) (hs : (flatB f.b)[k]? = some s) (hh : has s = true) (hy : (flat s.e)[i]? = some y) : (nodes has x)[fpos has x j + 1 + spos has (flatB f.b) k + 1 + i]? = some y := by
  have h1 := flatMap_at (nodesS has) (flatB f.b) k (i + 1) s y hs (by unfold nodesS; rw [List.getElem?_cons_succ, if_pos hh]; exact hy)
  have h2 := flatMap_at (nodesF has) x j (spos has (flatB f.b) k + (i + 1) + 1) f y h (by unfold nodesF; rw [List.getElem?_cons_succ]; exact h1)
  rwa [show ((x.take j).flatMap (nodesF has)).length + (spos has (flatB f.b) k + (i + 1) + 1) = fpos has x j + 1 + spos has (flatB f.b) k + 1 + i by unfold fpos; omega] at h2
theorem fpos_succ {has : St → Bool} {x : List Fn} {j : Nat} {f : Fn} (h : x[j]? = some f) : fpos has x (j + 1) = fpos has x j + 1 + spos has (flatB f.b) (flatB f.b).length := by
  unfold fpos spos
  rw [flatMap_take (nodesF has) x j f h, List.take_length]
  simp [nodesF]
  omega
theorem spos_yes {has : St → Bool} {x : List St} {k : Nat} {s : St} (hs : x[k]? = some s) (hh : has s = true) : spos has x (k + 1) = spos has x k + 1 + size s.e := by
  unfold spos size
  rw [flatMap_take (nodesS has) x k s hs]
  simp [nodesS, hh]
  omega
theorem spos_no {has : St → Bool} {x : List St} {k : Nat} {s : St} (hs : x[k]? = some s) (hh : has s = false) : spos has x (k + 1) = spos has x k + 1 := by
  unfold spos
  rw [flatMap_take (nodesS has) x k s hs]
  simp [nodesS, hh]
end Go.Proofs.YtlhbhpdpjidpgaaGreatDoor.Tre
