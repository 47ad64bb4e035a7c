/-
  A slice of ints that is read while a disk is written: where its elements lie. No condition.
-/
import Derived.Test.YthphcidpdjopeaaDraw
import Derived.Test.YthphcidpdjopeaaWait
namespace Go.Proofs.Ythphcidpdjopeaa
open Go.RowKit Go.Maps
/-- The slice of n ints at A is zs; it lies in no block of S. -/
def Nums (w : World) (S : List Nat) (A : Option Addr) (n : Nat) (zs : List Int) : Prop :=
  zs.length = n ∧ (0 < n → ∃ b off, A = some ⟨b, off, none⟩ ∧ b ∉ S ∧ b < w.heap.size ∧ ∀ j, j < n → w.cell? ⟨b, off + j, none⟩ = some (.int .i64 (zs.getD j 0)))
theorem Nums.turn {w w' : World} {S S' : List Nat} {A : Option Addr} {n : Nat} {zs : List Int} (h : Nums w S A n zs) (ht : Turn S' w w') (hS : ∀ k ∈ S', k ∈ S) : Nums w' S A n zs :=
  ⟨h.1, fun hn => by
    obtain ⟨b, off, e, hb, hl, hc⟩ := h.2 hn
    exact ⟨b, off, e, hb, Nat.lt_of_lt_of_le hl ht.size, fun j hj => (World.cell?_of_block (w := w) (ht.block b hl (fun hm => hb (hS b hm)))).trans (hc j hj)⟩⟩
theorem Nums.nil {w : World} {S : List Nat} {A : Option Addr} : Nums w S A 0 [] := ⟨rfl, fun h => absurd h (by omega)⟩
/-- Where the k-th one lies. -/
def Lies (w : World) (S : List Nat) (A : Option Addr) (n k : Nat) (z : Int) (b o : Nat) : Prop :=
  b ∉ S ∧ b < w.heap.size ∧ (∀ c w', (Instr.indexAt 23 (.slice A n c) (.int .i64 k)).run Try.prog w' = .ok (.pointer (some ⟨b, o, none⟩)) w') ∧ w.cell? ⟨b, o, none⟩ = some (.int .i64 z)
theorem Nums.lies {w : World} {S : List Nat} {A : Option Addr} {n : Nat} {zs : List Int} (h : Nums w S A n zs) {k : Nat} (hk : k < n) : ∃ b o, Lies w S A n k (zs.getD k 0) b o := by
  obtain ⟨b, off, rfl, hb, hl, hc⟩ := h.2 (by omega)
  refine ⟨b, off + k, hb, hl, fun c w' => ?_, hc k hk⟩
  simp [Instr.indexAt, asIntOf, run_underlying Try.underlying23, Result.andThen, Addr.add_mid]
  intro h1
  omega
theorem Lies.turn {w w' : World} {S : List Nat} {A : Option Addr} {n k : Nat} {z : Int} {b o : Nat} (h : Lies w S A n k z b o) (ht : Turn S w w') : w'.cell? ⟨b, o, none⟩ = some (.int .i64 z) :=
  (World.cell?_of_block (w := w) (ht.block b h.2.1 h.1)).trans h.2.2.2
theorem listed_nums {w1 : World} {base : Nat} {v : Value} {ks : List Nat} (h : w1.ownsRow base 3 1 v ks.length (ks.map fun k : Nat => encZ (k : Int))) {S : List Nat} (hS : ∀ k ∈ S, k < base) :
    ∃ A c, v = .slice A ks.length c ∧ Nums w1 S A ks.length (ks.map fun k : Nat => (k : Int)) := by
  rcases h.2 with ⟨rfl, h0⟩ | ⟨g, cap, cur, rfl, hg, hh, h1, h2, h3, h4⟩
  · obtain rfl : ks = [] := List.eq_nil_of_length_eq_zero h0
    exact ⟨none, 0, rfl, Nums.nil⟩
  · refine ⟨some ⟨g, 0, none⟩, cap, rfl, by simp, fun _ => ⟨g, 0, rfl, fun hm => by have := hS g hm; omega, lt_of_heap hh, fun j hj => ?_⟩⟩
    rw [cell_at hh, Nat.zero_add]
    have e : cur.toList[j]? = (ks.map fun k : Nat => encZ (k : Int))[j]? := by
      rw [← h4, List.getElem?_take_of_lt (by omega)]
    rw [← Array.getElem?_toList, e]
    simp [encZ, hj]
end Go.Proofs.Ythphcidpdjopeaa
