/-
  Memory, in the words of this layer: bytes that a slice reads as; a row of bytes that the call made; a Writer; a Reader (the program's and the document's). Appending bytes to a row of the call's own. No condition beyond the sizes that each law names.
-/
import Derived.Test.YtofadlenblobnaaRows
import Derived.Test.YtofadlenblobnaaCMath
import Derived.WalkKit
import Derived.WalkSpells
import Derived.WalkLawsBesides
import Derived.Below
import Derived.OwnWalk
import Derived.Laws.OwnMore
import Derived.Laws.IdiomStrings
import Derived.Lib.AppendStr
import Derived.Lib.Hide
import Derived.Maps.AppendAt
import Derived.Deep.AppendLies
import Derived.Deep.Draws
namespace Go.Proofs.Ytofadlenblobnaa.Cod
open Go.RowKit Codec
set_option maxRecDepth 100000
def byt (x : UInt8) : Value := .int .u8 (x.toNat : Int)
def cel (xs : List UInt8) : List Value := xs.map byt
theorem cel_length (xs : List UInt8) : (cel xs).length = xs.length := by simp [cel]
theorem cel_app (xs ys : List UInt8) : cel xs ++ cel ys = cel (xs ++ ys) := by simp [cel]
theorem cel_one (xs : List UInt8) : ∀ u ∈ cel xs, u.oneCell' = true := by
  intro u hu
  obtain ⟨x, _, rfl⟩ := List.mem_map.1 hu
  rfl
theorem cel_get (xs : List UInt8) (j : Nat) (h : j < xs.length) : (cel xs)[j]? = some (byt (xs.getD j 0)) := by simp [cel, h]
theorem plain_add (b off j : Nat) : (⟨b, off, none⟩ : Addr).add j = ⟨b, off + j, none⟩ := by unfold Addr.add; split <;> simp_all
theorem lt_of_heap {w : World} {g : Nat} {o : Obj} (h : w.heap[g]? = some o) : g < w.heap.size := (Array.getElem?_eq_some_iff.1 h).1

/-- The slice of n bytes at A is xs; it lies below block B. -/
structure Byts (w : World) (B : Nat) (A : Option Addr) (n : Nat) (xs : List UInt8) : Prop where
  len : xs.length = n
  at_ : 0 < n → ∃ b off, A = some ⟨b, off, none⟩ ∧ b < B ∧ ∀ j, j < n → w.cell? ⟨b, off + j, none⟩ = some (byt (xs.getD j 0))
theorem Byts.none_ {w : World} {B : Nat} {A : Option Addr} : Byts w B A 0 [] := ⟨rfl, fun h => absurd h (by omega)⟩
section
variable {w w' : World} {B B' n : Nat} {A : Option Addr} {xs : List UInt8}
theorem Byts.keep (h : Byts w B A n xs) (hk : ∀ k, k < B → w'.heap[k]? = w.heap[k]?) : Byts w' B A n xs :=
  ⟨h.len, fun hn => by
    obtain ⟨b, off, e, hb, hc⟩ := h.at_ hn
    exact ⟨b, off, e, hb, fun j hj => (World.cell?_of_block (w := w) (hk b hb)).trans (hc j hj)⟩⟩
theorem Byts.more (h : Byts w B A n xs) (hB : B ≤ B') : Byts w B' A n xs :=
  ⟨h.len, fun hn => by
    obtain ⟨b, off, e, hb, hc⟩ := h.at_ hn
    exact ⟨b, off, e, by omega, hc⟩⟩
theorem Byts.below (h : Byts w B A n xs) (hb : Below B w w') : Byts w' B A n xs := h.keep hb.block
theorem Byts.alloc (h : Byts w B A n xs) (hB : B ≤ w.heap.size) (o : Obj) : Byts (w.alloc o) B A n xs := h.keep fun k hk => Below.heap_alloc w o k (by omega)
theorem Byts.drewN (h : Byts w B A n xs) (m : Nat) : Byts (w.drewN m) B A n xs := ⟨h.len, h.at_⟩
theorem Byts.setCell (h : Byts w B A n xs) {p : Addr} (hp : B ≤ p.block) (u : Value) : Byts (w.setCell p u) B A n xs := h.keep fun k hk => Below.heap_setCell w p u k (by omega)
theorem Byts.take (h : Byts w B A n xs) (k : Nat) (hk : k ≤ n) : Byts w B A k (xs.take k) :=
  ⟨by rw [List.length_take, h.len]; omega, fun h0 => by
    obtain ⟨b, off, e, hb, hc⟩ := h.at_ (by omega)
    exact ⟨b, off, e, hb, fun j hj => by rw [hc j (by omega)]; simp [List.getD_eq_getElem?_getD, hj]⟩⟩
theorem Byts.drop (h : Byts w B A n xs) (k c : Nat) (hk : k ≤ n) (hc : n ≤ c) : Byts w B (if c = k then A else A.map (·.add k)) (n - k) (xs.drop k) :=
  ⟨by rw [List.length_drop, h.len], fun h0 => by
    obtain ⟨b, off, rfl, hb, hc⟩ := h.at_ (by omega)
    rw [if_neg (by omega)]
    exact ⟨b, off + k, by rw [Option.map_some, plain_add], hb, fun j hj => by rw [Nat.add_assoc, hc (k + j) (by omega)]; simp [List.getD_eq_getElem?_getD]⟩⟩
end

/-- The slice value owns these bytes, in blocks from base on. -/
def Owns (w : World) (base : Nat) (v : Value) (n : Nat) (xs : List UInt8) : Prop := w.ownsRow base 5 1 v n (cel xs)
section
variable {w w' : World} {base n c : Nat} {v : Value} {A : Option Addr} {xs : List UInt8}
theorem Owns.len (h : Owns w base v n xs) : xs.length = n := by have := h.1; rw [cel_length] at this; omega
theorem Owns.nil : Owns w base (.slice none 0 0) 0 [] := World.ownsRow_nil w base 5 1
theorem Owns.form (h : Owns w base v n xs) : ∃ A c, v = .slice A n c ∧ n ≤ c ∧ c ≤ maxLen := by
  rcases h.2 with ⟨rfl, rfl⟩ | ⟨g, cap, cur, rfl, _, _, h1, h2, _⟩
  · exact ⟨none, 0, rfl, Nat.le_refl _, by unfold maxLen; omega⟩
  · exact ⟨_, cap, rfl, h1, h2⟩
theorem Owns.byts (h : Owns w base (.slice A n c) n xs) : Byts w w.heap.size A n xs := by
  refine ⟨h.len, fun hn => ?_⟩
  obtain ⟨g, cap, hv, _, hlt⟩ := World.ownsRow.form h hn
  have hA : A = some ⟨g, 0, none⟩ := by injection hv
  subst hA
  refine ⟨g, 0, rfl, hlt, fun j hj => ?_⟩
  have := h.cells (g := g) rfl j _ (cel_get xs j (by have := h.len; omega))
  rwa [plain_add] at this
theorem Owns.keep (h : Owns w base v n xs) {row : Option Nat} (hg : w.grownBy w' row) (hne : v.ownBlock = none ∨ v.ownBlock ≠ row) : Owns w' base v n xs := World.ownsRow.kept h hg hne
theorem Owns.alloc (h : Owns w base v n xs) (o : Obj) : Owns (w.alloc o) base v n xs := World.ownsRow.alloc h o
theorem Owns.below (h : Owns w base v n xs) (hb : Below w.heap.size w w') : Owns w' base v n xs :=
  World.ownsRow.kept (row := none) h ⟨hb.os, hb.tape, hb.output, hb.size, fun k hk _ => hb.block k hk⟩ (by cases hv : v.ownBlock <;> simp)
theorem Owns.lower {base' : Nat} (h : Owns w base v n xs) (hb : base' ≤ base) : Owns w base' v n xs := by
  refine ⟨h.1, ?_⟩
  rcases h.2 with h0 | ⟨g, cap, cur, hv, hg, r⟩
  · exact .inl h0
  · exact .inr ⟨g, cap, cur, hv, by omega, r⟩
theorem Owns.far (h : Owns w base v n xs) {g : Nat} {cs : Array Value} {T : TypeId} (hg : w.heap[g]? = some (.cells cs T (0, 0))) (hT : T ≠ 5) : v.ownBlock ≠ some g := by
  rcases h.2 with ⟨rfl, _⟩ | ⟨k, cap, cur, rfl, _, hh, _⟩
  · simp [Value.ownBlock]
  · intro he
    have : k = g := by simpa [Value.ownBlock] using he
    subst this
    rw [hh] at hg
    injection hg with hg
    injection hg with _ ht
    exact hT ht.symm
end

theorem info5 : (Try.prog.info? 5).map (fun i => (i.zero, i.size, i.bytes)) = some (some (.int .u8 0), 1, 1) := by kernel_rfl
/-- Appending bytes to a row of the call's own: the source nil, empty or not. -/
theorem run_app (w : World) (ty : TypeId) (base : Nat) (v : Value) (n : Nat) (xs : List UInt8) (hown : Owns w base v n xs) (B : Nat) (A : Option Addr) (m c : Nat) (ys : List UInt8) (hr : Byts w B A m ys)
    (hn : n + m ≤ 1000000000) (hbase : base ≤ w.heap.size) :
    ∃ A' c' w', (Builtin.append_ #[23, 23] ty #[v, .slice A m c]).run Try.prog w = .ok (.slice A' (n + m) c') w' ∧ Owns w' base (.slice A' (n + m) c') (n + m) (xs ++ ys) ∧ w.grownBy w' v.ownBlock := by
  obtain ⟨i0, hi0, hz0, hz1, hz2⟩ := info_parts info5
  have hown0 : w.ownsRow base 5 1 v n (cel xs) := hown
  have key : ∃ v' w', (Builtin.append_ #[23, 23] ty #[v, .slice A m c]).run Try.prog w = .ok v' w' ∧ w'.ownsRow base 5 1 v' (n + m) (cel xs ++ cel ys) ∧ w.grownBy w' v.ownBlock := by
    rcases A with _ | ad
    · have hm : m = 0 := by
        rcases Nat.eq_zero_or_pos m with h0 | h0
        · exact h0
        · obtain ⟨b, off, h, _⟩ := hr.at_ h0
          cases h
      subst hm
      have hy : ys = [] := List.eq_nil_of_length_eq_zero hr.len
      subst hy
      refine ⟨v, w, ?_, by simpa [cel] using hown0, ⟨rfl, rfl, rfl, Nat.le_refl _, fun _ _ _ => rfl⟩⟩
      rcases hown0.2 with ⟨rfl, rfl⟩ | ⟨g, cap, cur, rfl, _, _, hnc, _⟩
      · simp [Builtin.append_, run_underlying Try.underlying23, sizeOf, typeInfo, hi0, Builtin.lenOf, Builtin.firstCells]
      · simp [Builtin.append_, run_underlying Try.underlying23, sizeOf, typeInfo, hi0, Builtin.lenOf, Builtin.firstCells, hnc, storeCells]
    · have hcells : ∀ j u, (cel ys)[j]? = some u → w.cell? (ad.add j) = some u := by
        intro j u hu
        have hj : j < m := by
          have := (List.getElem?_eq_some_iff.1 hu).1
          rw [cel_length, hr.len] at this
          exact this
        obtain ⟨b, off, h, _, hc⟩ := hr.at_ (by omega)
        injection h with h
        subst h
        rw [plain_add, hc j hj, ← cel_get ys j (by rw [hr.len]; exact hj)]
        exact hu
      obtain ⟨v', w', hrun, h2, h3, _, _⟩ := run_append_own_at (P := Try.prog) w base 23 ty 5 i0 (.int .u8 0) 1 1 Try.underlying23 hi0 hz0 hz1 hz2 rfl (by decide) v n (cel xs) hown0 ad m c (cel ys)
        (by rw [cel_length, hr.len, Nat.mul_one]) hcells (cel_one ys) (by unfold maxLen; omega) (by omega) hbase
      exact ⟨v', w', hrun, h2, h3⟩
  obtain ⟨v', w', hrun, h2, h3⟩ := key
  rw [cel_app] at h2
  obtain ⟨A', c', rfl, _, _⟩ := Owns.form h2
  exact ⟨A', c', w', hrun, h2, h3⟩
theorem wpList_app (w : World) {ops : Array Oper} {rest : List Oper} {o : Oper} {a : Act} {Q : Exit → Act → World → Prop} (hgd : o.guard = none) (s x : Operand)
    (ho : o.op = .call { callee := .builtin .append, args := #[s, x], argTypes := #[23, 23] })
    (base : Nat) (v : Value) (n : Nat) (xs : List UInt8) (hs : a.eval s = v) (hown : Owns w base v n xs) (B : Nat) (A : Option Addr) (m c : Nat) (ys : List UInt8) (hx : a.eval x = .slice A m c) (hr : Byts w B A m ys)
    (hn : n + m ≤ 1000000000) (hbase : base ≤ w.heap.size)
    (h : ∀ A' c' w', Owns w' base (.slice A' (n + m) c') (n + m) (xs ++ ys) → w.grownBy w' v.ownBlock → wpList Try.prog ops Q rest (a.put o.dst (.slice A' (n + m) c')) w') : wpList Try.prog ops Q (o :: rest) a w := by
  obtain ⟨A', c', w', hrun, h2, h3⟩ := run_app w o.type base v n xs hown B A m c ys hr hn hbase
  refine wpList_plain hgd fun _ hK => ?_
  unfold Oper.wp execOp
  simp only [ho, resolve, invoke, builtin, Sem.run_bind, Sem.run_pure, Result.andThen_ok, List.map_toArray, List.map_cons, List.map_nil, hs, hx, hrun]
  exact hK _ _ (h A' c' w' h2 h3)

/-- A Writer: block g holds a slice that owns these bytes, all from base on. -/
def Wr (w : World) (base g : Nat) (xs : List UInt8) : Prop :=
  ∃ A n c, w.heap[g]? = some (.cells #[.slice A n c] 39 (0, 0)) ∧ Owns w base (.slice A n c) n xs ∧ base ≤ g
/-- A Reader (the program's: 59, the document's: 37): block g holds what is left, which lies below B, and whether it is bad. -/
def Rdr (T : TypeId) (w : World) (B g : Nat) (s : St) : Prop :=
  s.ok ∧ B ≤ g ∧ ∃ A n c, w.heap[g]? = some (.cells #[.slice A n c, .bool s.bad] T (0, 0)) ∧ Byts w B A n s.left ∧ n ≤ c ∧ c ≤ maxLen ∧ n ≤ 1000000000
theorem Rdr.keep {T : TypeId} {w w' : World} {B g : Nat} {s : St} (h : Rdr T w B g s) (hk : ∀ k, k < B → w'.heap[k]? = w.heap[k]?) (hg : w'.heap[g]? = w.heap[g]?) : Rdr T w' B g s := by
  obtain ⟨h1, h2, A, n, c, h3, h4, h5⟩ := h
  exact ⟨h1, h2, A, n, c, hg.trans h3, h4.keep hk, h5⟩
theorem Rdr.lt {T : TypeId} {w : World} {B g : Nat} {s : St} (h : Rdr T w B g s) : g < w.heap.size := by
  obtain ⟨_, _, A, n, c, h3, _⟩ := h
  exact lt_of_heap h3
/-- What is written to another block, from B on, leaves it. -/
theorem Rdr.grown {T : TypeId} {w w' : World} {B g k : Nat} {s : St} (h : Rdr T w B g s) (hw : w.grownBy w' (some k)) (hB : B ≤ k) (hne : g ≠ k) : Rdr T w' B g s :=
  h.keep (fun j hj => hw.block j (by have := h.lt; have := h.2.1; omega) (by simp; omega)) (hw.block g h.lt (by simp; exact hne))
theorem Rdr.below {T : TypeId} {w w' : World} {B g : Nat} {s : St} (h : Rdr T w B g s) (hw : Below w.heap.size w w') : Rdr T w' B g s :=
  h.keep (fun j hj => hw.block j (by have := h.lt; have := h.2.1; omega)) (hw.block g h.lt)
theorem grown_refl (w : World) (row : Option Nat) : w.grownBy w row := ⟨rfl, rfl, rfl, Nat.le_refl _, fun _ _ _ => rfl⟩
theorem grown_trans {a b c : World} {row : Option Nat} (h : a.grownBy b row) (k : b.grownBy c row) : a.grownBy c row :=
  ⟨k.os.trans h.os, k.tape.trans h.tape, k.output.trans h.output, Nat.le_trans h.size k.size, fun i hi hne => (k.block i (Nat.lt_of_lt_of_le hi h.size) hne).trans (h.block i hi hne)⟩
theorem grown_set (w : World) (g i : Nat) (u : Value) : w.grownBy (w.setCell ⟨g, i, none⟩ u) (some g) :=
  ⟨rfl, rfl, rfl, by simp [World.setCell], fun k _ hne => Below.heap_setCell w _ u k (by rintro rfl; exact hne rfl)⟩
theorem grown_below {w w' : World} {g : Nat} (h : w.grownBy w' (some g)) (B : Nat) (hB : B ≤ g) (hw : B ≤ w.heap.size) : Below B w w' :=
  ⟨h.os, h.tape, h.output, h.size, fun k hk => h.block k (by omega) (by simp; omega)⟩
/-- Block g, known whole: its cells, its marks. -/
theorem cell_at {w : World} {g : Nat} {cs : Array Value} {T : TypeId} (h : w.heap[g]? = some (.cells cs T (0, 0))) (i : Nat) : w.cell? ⟨g, i, none⟩ = cs[i]? := by simp [World.cell?, h]
theorem free_at {w : World} {g : Nat} {cs : Array Value} {T : TypeId} (h : w.heap[g]? = some (.cells cs T (0, 0))) (i : Nat) : w.frozen? ⟨g, i, none⟩ = false := by simp [World.frozen?, h]
theorem set_at {w : World} {g : Nat} {cs : Array Value} {T : TypeId} (h : w.heap[g]? = some (.cells cs T (0, 0))) (i : Nat) (u : Value) :
    (w.setCell ⟨g, i, none⟩ u).heap[g]? = some (.cells (cs.setIfInBounds i u) T (0, 0)) := by simp [World.setCell, Array.getElem?_modify, h]
/-- The program's store behind the append. -/
theorem Wr.stored {w w1 : World} {base g n m c c' : Nat} {A A' : Option Addr} {xs ys : List UInt8} (hg : w.heap[g]? = some (.cells #[.slice A n c] 39 (0, 0))) (hown : Owns w base (.slice A n c) n xs) (hb : base ≤ g) (hB : base ≤ w.heap.size)
    (h1 : Owns w1 base (.slice A' (n + m) c') (n + m) (xs ++ ys)) (hw : w.grownBy w1 (Value.ownBlock (.slice A n c))) :
    w1.heap[g]? = some (.cells #[.slice A n c] 39 (0, 0)) ∧ Wr (w1.setCell ⟨g, 0, none⟩ (.slice A' (n + m) c')) base g (xs ++ ys) ∧ Below base w (w1.setCell ⟨g, 0, none⟩ (.slice A' (n + m) c')) := by
  have hne := hown.far hg (by decide)
  have hg1 : w1.heap[g]? = some (.cells #[.slice A n c] 39 (0, 0)) := (hw.block g (lt_of_heap hg) (fun e => hne e.symm)).trans hg
  have hne1 := h1.far hg1 (by decide)
  refine ⟨hg1, ⟨A', n + m, c', set_at hg1 0 _, h1.keep (grown_set w1 g 0 _) (.inr hne1), hb⟩, ?_⟩
  exact ((Below.refl base w).grown hw hB (fun k hk => (World.ownsRow.lt hown k hk).1)).setCell hb _
end Go.Proofs.Ytofadlenblobnaa.Cod
