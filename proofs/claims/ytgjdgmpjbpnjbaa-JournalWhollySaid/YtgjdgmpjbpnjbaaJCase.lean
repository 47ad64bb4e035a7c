/-
  What the walk of the statement on crashes wants beside: a row of slices begun, appended to in a region that draws; the blocks of a journal lie in its world. Conditions: the slices' bytes lay there before.
-/
import Derived.Test.YtgjdgmpjbpnjbaaJMore
namespace Go.Proofs.Ytgjdgmpjbpnjbaa.Jou
open Go.RowKit Codec FrameM Cod JourM
open Disk (Turn Dk Dsk ptr Now Made Nums fresh)
set_option maxRecDepth 100000
theorem Vr.new {W u : World} {S : List Nat} (h : W.heap.size ≤ u.heap.size) : Vr W (u.alloc (.cells #[] 35)) S (.slice (some ⟨u.heap.size, 0, none⟩) 0 0) 0 [] :=
  ⟨[], World.ownsRow_made u #[] 0 h (Nat.zero_le _) rfl, rfl, rfl, fun j hj => absurd hj (by omega)⟩
theorem Vr.alloc {W u : World} {S : List Nat} {v : Value} {n : Nat} {ls : List (List UInt8)} (h : Vr W u S v n ls) (o : Obj) : Vr W (u.alloc o) S v n ls := by
  obtain ⟨vs, ho, h1⟩ := h
  exact ⟨vs, World.ownsRow.alloc ho o, h1⟩
theorem Vr.below_own {W w w1 : World} {S : List Nat} {v : Value} {n : Nat} {ls : List (List UInt8)} (h : Vr W w S v n ls) (hB : W.heap.size ≤ w.heap.size) (hg : w.grownBy w1 v.ownBlock) : Below W.heap.size w w1 := by
  obtain ⟨vs, ho, _⟩ := h
  exact (Below.refl _ w).grown hg hB (fun k hk => (World.ownsRow.lt ho k hk).1)
theorem one_sl {W w : World} {S : List Nat} {bx : Nat} {A : Option Addr} {c : Nat} {bs : List UInt8} (hx : w.heap[bx]? = some (.cells #[.slice A bs.length c] 35 (0, 0))) (hb : Bts W S A bs.length bs) (hc : bs.length ≤ c) (hm : c ≤ maxLen) :
    0 < 1 → ∃ b off, some (⟨bx, 0, none⟩ : Addr) = some ⟨b, off, none⟩ ∧ ∀ j, j < 1 → ∃ u, w.cell? ⟨b, off + j, none⟩ = some u ∧ Sl W S u ([bs].getD j []) := fun _ =>
  ⟨bx, 0, rfl, fun j hj => by
    obtain rfl : j = 0 := by omega
    exact ⟨_, cell_at hx 0, A, c, rfl, hb, hc, hm⟩⟩
theorem wo_vr {ops : Array Oper} {Q : Exit → Act → World → Prop} {a : Act} {w : World} {i : Nat} (d : Nat) {oi : Oper} {K : Act → World → Prop} (hi : ops[i]? = some oi) (hd : oi.dst = some d) (hw : Region.wanted oi (yielded ops a.tmps) = true)
    (s x : Operand) (ho : oi.op = .call { callee := .builtin .append, args := #[s, x], argTypes := #[34, 34] })
    (W : World) (S : List Nat) (v : Value) (n : Nat) (ls : List (List UInt8)) (hs : a.eval s = v) (h : Vr W w S v n ls) (A : Option Addr) (m c : Nat) (ls2 : List (List UInt8)) (hx : a.eval x = .slice A m c) (hl2 : ls2.length = m)
    (h2 : 0 < m → ∃ b off, A = some ⟨b, off, none⟩ ∧ ∀ j, j < m → ∃ u, w.cell? ⟨b, off + j, none⟩ = some u ∧ Sl W S u (ls2.getD j [])) (k : Nat) (hk : n + m = k) (hn : k ≤ 1000000) (hlo : W.heap.size ≤ w.heap.size)
    (hK : ∀ A' c' w', Vr W w' S (.slice A' k c') k (ls ++ ls2) → w.grownBy w' v.ownBlock → K (a.put (some d) (.slice A' k c')) w') : wpOp Try.prog ops Q i K a w := by
  subst hk
  obtain ⟨A', c', w', hrun, h3, h4⟩ := run_app_vr W w oi.type S v n ls h A m c ls2 hl2 h2 hn hlo
  refine Frm.wo_run d _ w' hi hd hw ?_ (hK A' c' w' h3 h4)
  unfold execOp
  simp only [ho, resolve, invoke, builtin, Sem.run_bind, Sem.run_pure, Result.andThen_ok, List.map_toArray, List.map_cons, List.map_nil, hs, hx, hrun]
/-- A journal's blocks lie in its world. -/
theorem Jn.owns_lt {w : World} {lo j g gs gm : Nat} {d : Dsk} {jr : Jr} {v : Value} (h : Jn w lo j g gs gm d jr v) : ∀ k ∈ [j, g, gs, gm] ++ v.ownBlock.toList, k < w.heap.size := by
  intro k hk
  rcases List.mem_append.1 hk with hk | hk
  · exact Nat.lt_of_lt_of_le (h.lows k hk) h.le
  · obtain ⟨its, o1, _⟩ := h.own
    obtain ⟨_, cur, hc⟩ := own_type o1 (by simpa using hk)
    exact lt_of_heap hc
end Go.Proofs.Ytgjdgmpjbpnjbaa.Jou
