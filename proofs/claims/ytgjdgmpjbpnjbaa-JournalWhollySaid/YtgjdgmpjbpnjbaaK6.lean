/-
  Texts DDraw, JMem, JSmall, JRows, JHalf, in one file. What each proves, and its conditions, stand at its head below.
-/
import Derived.Test.YtgjdgmpjbpnjbaaK5
import Derived.OrdersHeld
import Derived.StillTail
import Derived.Deep.QuietTactic
import Derived.BigQuiet
import Derived.IntWalk
/-
  A region that draws its order, whose last operation waits for all others: what yields in every world that meets S may be taken first; S is shown anew behind all operations but the last one.
-/
namespace Go.Proofs.Ytgjdgmpjbpnjbaa.Disk
set_option maxRecDepth 100000
section
variable {P : Program} {ops : Array Oper} {Q : Exit → Act → World → Prop} {md : Region.Mode} {S : World → Prop} {n : Nat}
def anyS (P : Program) (md : Region.Mode) (ops : Array Oper) (Q : Exit → Act → World → Prop) (S : World → Prop) (n : Nat) : Nat → Array Bool → Act → World → Prop
  | 0, listed, a, w => Region.ready md ops listed = [] ∧ Q .normal a w
  | fuel + 1, listed, a, w =>
    (Region.ready md ops listed = [] → Q .normal a w) ∧
    ∀ i ∈ Region.ready md ops listed, wpOp P ops Q i (fun a' w' => (i < n → S w') ∧ anyS P md ops Q S n fuel (listed.setIfInBounds i true) a' w') a w
theorem any_of_S : ∀ (fuel : Nat) (listed : Array Bool) (a : Act) (w : World), anyS P md ops Q S n fuel listed a w → wpAny P md ops Q fuel listed a w
  | 0, _, _, _, h => h
  | fuel + 1, _, _, _, h => ⟨h.1, fun i hi => wpOp_mono (fun a' w' h' => any_of_S fuel _ a' w' h'.2) (h.2 i hi)⟩
theorem anyS_first {i : Nat} {oi : Oper} {v : Value} (hi : ops[i]? = some oi) (hsel : ∀ (j : Nat) (o : Oper) cs b, ops[j]? = some o → o.op ≠ .select cs b)
    (hQ : ∀ c a w, Q (.panic c) (a.put oi.dst v) w → Q (.panic c) a w) (hs : Region.sinkB md ops n = true) (hc : Region.chainB md ops n = true) (hn : n < ops.size) (hin : i < n) :
    ∀ (fuel : Nat) (listed : Array Bool) (a : Act) (w : World), HeadInv md ops n listed →
      (∀ j oj, ops[j]? = some oj → j ≠ i → listed.getD j true = false → (∀ e ∈ oj.after, Region.binds md e = true → e.on ≠ i) → oi.apart ops oj = true) →
      i ∈ Region.ready md ops listed → YieldsIf P ops S oi v a → S w →
      anyS P md ops Q S n fuel (listed.setIfInBounds i true) (a.put oi.dst v) w → anyS P md ops Q S n (fuel + 1) listed a w := by
  intro fuel
  induction fuel with
  | zero =>
    intro listed a w _ _ hr hy hS H
    refine ⟨fun h => (by rw [h] at hr; cases hr), fun j hj => ?_⟩
    by_cases hji : j = i
    · subst hji; exact hy.wpOp hi hS ⟨fun _ => hS, H⟩
    · have := ready_mono hj hji
      rw [H.1] at this
      cases this
  | succ fuel ih =>
    intro listed a w inv hfree hr hy hS H
    have hun := (mem_ready.1 hr).1
    refine ⟨fun h => (by rw [h] at hr; cases hr), fun j hj => ?_⟩
    by_cases hji : j = i
    · subst hji; exact hy.wpOp hi hS ⟨fun _ => hS, H⟩
    · have hjn : j < n := by
        rcases Nat.lt_or_ge j n with h | h
        · exact h
        · exact absurd hj (tail_waits hs hc hn inv _ i rfl hin hun j h)
      have h1 := H.2 j (ready_mono hj hji)
      obtain ⟨hjun, oj, hoj, hall⟩ := mem_ready.1 hj
      have hnot : ∀ e ∈ oj.after, Region.binds md e = true → e.on ≠ i := fun e he hb heq => by
        have h1 := hall e he hb
        rw [heq, getD_both hun] at h1
        cases h1
      have h2 := wpOp_putIf hoj (hfree j oj hoj hji hjun hnot) (fun cs b => hsel i oi cs b hi) (fun cs b => hsel j oj cs b hoj) hQ hy h1
      have hfree' : ∀ k ok, ops[k]? = some ok → k ≠ i → (listed.setIfInBounds j true).getD k true = false →
          (∀ e ∈ ok.after, Region.binds md e = true → e.on ≠ i) → oi.apart ops ok = true := fun k ok hk hki hun2 hno => by
        refine hfree k ok hk hki ?_ hno
        by_cases hjk : j = k
        · subst hjk; exact hjun
        · rw [getD_set_ne true hjk] at hun2; exact hun2
      refine wpOp_mono (fun a' w' h3 => ⟨fun _ => h3.2.1 hjn, ih (listed.setIfInBounds j true) a' w' (inv.set hj hjn) hfree' (ready_mono hr (Ne.symm hji)) h3.1 (h3.2.1 hjn) ?_⟩) h2
      rw [Array.setIfInBounds_comm _ _ hji]
      exact h3.2.2
/-- The walk's goal. -/
def AtS (P : Program) (md : Region.Mode) (ops : Array Oper) (Q : Exit → Act → World → Prop) (S : World → Prop) (n fuel : Nat) (listed : Array Bool) (a : Act) (w : World) : Prop :=
  Region.sinkB md ops n = true → Region.chainB md ops n = true → HeadInv md ops n listed → anyS P md ops Q S n fuel listed a w
theorem AtS.start {id : Nat} {a : Act} {w : World} (hm : P.follows .mixedOrders = true) (n : Nat) (S : World → Prop) (hs : Region.sinkB .any ops n = true) (hc : Region.chainB .any ops n = true)
    (h : AtS P .any ops Q S n ops.size (Array.replicate ops.size false) a w.drew) : (Code.region id ops true).wp P Q a w :=
  wp_region_any hm (any_of_S _ _ _ _ (h hs hc ⟨by simp, fun j oj _ hl => (by rw [getD_replicate_false] at hl; cases hl), fun t _ ht => getD_in (by simpa using ht) (getD_replicate_false _ _)⟩))
theorem AtS.take {a : Act} {w : World} {i fuel : Nat} {oi : Oper} {v : Value} {listed : Array Bool} (hi : ops[i]? = some oi) (hsel : Region.noSelect ops = true) (hf : Region.free md ops listed i = true) (hr : (Region.ready md ops listed).contains i = true)
    (hin : i < n) (hn : n < ops.size) (hQ : ∀ c a w, Q (.panic c) (a.put oi.dst v) w → Q (.panic c) a w) (hw : Region.wanted oi (yielded ops a.tmps) = true) (hy : ∀ w, S w → (execOp a.eval oi).run P w = .ok (.value v) w) (hS : S w)
    (h : AtS P md ops Q S n fuel (listed.setIfInBounds i true) (a.put oi.dst v) w) : AtS P md ops Q S n (fuel + 1) listed a w := fun hs hc inv => by
  have hr' : i ∈ Region.ready md ops listed := by simpa using hr
  exact anyS_first hi (Region.noSelect_spec hsel) hQ hs hc hn hin fuel listed a w inv (Region.free_spec hi hf) hr' (.inl ⟨hw, hy⟩) hS (h hs hc (inv.set hr' hin))
theorem AtS.call {a : Act} {w : World} {i fuel f : Nat} {args : Array Value} {oi : Oper} {listed : Array Bool} (hi : ops[i]? = some oi) (hr : Region.ready md ops listed = [i]) (hin : i < n) (hw : Region.wanted oi (yielded ops a.tmps) = true)
    (hrun : (execOp a.eval oi).run P w = .ok (.enter f args) w) (hc : Calls P f args w fun e w' => ∃ v, e = .returned v ∧ S w' ∧ AtS P md ops Q S n fuel (listed.setIfInBounds i true) (a.put oi.dst v) w') :
    AtS P md ops Q S n (fuel + 1) listed a w := fun hs hcb inv => by
  refine ⟨fun h0 => (by rw [h0] at hr; cases hr), fun j hj => ?_⟩
  rw [hr] at hj
  obtain rfl : j = i := by simpa using hj
  unfold wpOp
  simp only [hi, hw, if_true]
  refine .inl ?_
  unfold Oper.wp
  rw [hrun]
  simp only [Oper.upon]
  refine Calls.mono hc ?_
  rintro e w' ⟨v, rfl, hS, h⟩
  exact ⟨fun _ => hS, h hs hcb (inv.set (by rw [hr]; simp) hin)⟩
theorem AtS.last {a : Act} {w w' : World} {i fuel : Nat} {oi : Oper} {listed : Array Bool} (hi : ops[i]? = some oi) (hr : Region.ready md ops listed = [i]) (hr2 : Region.ready md ops (listed.setIfInBounds i true) = []) (hni : n ≤ i) (hw : Region.wanted oi (yielded ops a.tmps) = true)
    (hrun : (execOp a.eval oi).run P w = .ok .skip w') (h : Q .normal (a.put oi.dst undef) w') : AtS P md ops Q S n (fuel + 1) listed a w := fun _ _ _ => by
  refine ⟨fun h0 => (by rw [h0] at hr; cases hr), fun j hj => ?_⟩
  rw [hr] at hj
  obtain rfl : j = i := by simpa using hj
  unfold wpOp
  simp only [hi, hw, if_true]
  refine .inl ?_
  unfold Oper.wp
  rw [hrun]
  simp only [Oper.upon]
  refine ⟨fun h => by omega, ?_⟩
  cases fuel with
  | zero => exact ⟨hr2, h⟩
  | succ fuel => exact ⟨fun _ => h, by rw [hr2]; simp⟩
/-- The first operations, in the text's order: each yields its value in every world that meets S. -/
def heldL (P : Program) (S : World → Prop) (K : Act → Prop) : List Oper → Act → Prop
  | [], a => K a
  | o :: rest, a => o.guard = none ∧ ∃ v, (∀ w, S w → (execOp a.eval o).run P w = .ok (.value v) w) ∧ heldL P S K rest (a.put o.dst v)
theorem heldL.step {K : Act → Prop} {o : Oper} {rest : List Oper} {a : Act} (v : Value) (hg : o.guard = none) (hv : ∀ w, S w → (execOp a.eval o).run P w = .ok (.value v) w) (h : heldL P S K rest (a.put o.dst v)) : heldL P S K (o :: rest) a := ⟨hg, v, hv, h⟩
def marks : Nat → Nat → Array Bool → Array Bool
  | 0, _, L => L
  | f + 1, k, L => marks f (k + 1) (L.setIfInBounds k true)
def lexH (md : Region.Mode) (ops : Array Oper) : Nat → Nat → Array Bool → Bool
  | 0, _, _ => true
  | f + 1, k, L => (Region.ready md ops L).contains k && Region.free md ops L k && lexH md ops f (k + 1) (L.setIfInBounds k true)
theorem anyS_lex {K : Act → Prop} {w : World} {fuel : Nat} (hsel : Region.noSelect ops = true) (hQ : ∀ c a d v w, Q (.panic c) (a.put d v) w → Q (.panic c) a w) (hs : Region.sinkB md ops n = true) (hc : Region.chainB md ops n = true) (hn : n < ops.size) (hS : S w) :
    ∀ (l : List Oper) (k : Nat) (listed : Array Bool) (a : Act), (∀ j, j < l.length → l[j]? = ops[k + j]?) → k + l.length ≤ n → HeadInv md ops n listed → lexH md ops l.length k listed = true →
      (∀ a, K a → HeadInv md ops n (marks l.length k listed) → anyS P md ops Q S n fuel (marks l.length k listed) a w) → heldL P S K l a → anyS P md ops Q S n (l.length + fuel) listed a w
  | [], k, listed, a, _, _, inv, _, hK, h => by
    rw [List.length_nil, Nat.zero_add]
    exact hK a h inv
  | o :: l, k, listed, a, hl, hkn, inv, hB, hK, h => by
    have h0 : ops[k]? = some o := by simpa using (hl 0 (by simp)).symm
    simp only [List.length_cons, lexH, Bool.and_eq_true] at hB
    obtain ⟨⟨hr, hf⟩, hB'⟩ := hB
    have hk' : k < n := by simp only [List.length_cons] at hkn; omega
    have hr' : k ∈ Region.ready md ops listed := by simpa using hr
    obtain ⟨hg, v, hv, hrest⟩ := h
    have e : (o :: l).length + fuel = (l.length + fuel) + 1 := by simp only [List.length_cons]; omega
    rw [e]
    exact anyS_first h0 (Region.noSelect_spec hsel) (fun c a w => hQ c a _ v w) hs hc hn hk' _ listed a w inv (Region.free_spec h0 hf) hr' (.inl ⟨by simp [Region.wanted, hg], hv⟩) hS
      (anyS_lex hsel hQ hs hc hn hS l (k + 1) _ _ (fun j hj => by have := hl (j + 1) (by simp; omega); simpa [Nat.add_assoc, Nat.add_comm 1 j] using this) (by simp only [List.length_cons] at hkn; omega) (inv.set hr' hk') hB' hK hrest)
/-- The beginning: m operations yield, n wait for none behind them. -/
theorem AtS.head {id : Nat} {a : Act} {w : World} {l : List Oper} (m n fuel : Nat) (S : World → Prop) (hm : P.follows .mixedOrders = true) (hB : (Region.noSelect l.toArray && Region.sinkB .any l.toArray n && Region.chainB .any l.toArray n && decide (n < l.length) && decide (m ≤ n) && decide (l.length = m + fuel) && lexH .any l.toArray m 0 (Array.replicate l.toArray.size false)) = true)
    (hQ : ∀ c a d v w, Q (.panic c) (a.put d v) w → Q (.panic c) a w) (hS : S w.drew)
    (h : ∀ K : Act → Prop, (∀ a, AtS P .any l.toArray Q S n fuel (marks m 0 (Array.replicate l.toArray.size false)) a w.drew → K a) → heldL P S K (l.take m) a) : (Code.region id l.toArray true).wp P Q a w := by
  simp only [Bool.and_eq_true, decide_eq_true_eq] at hB
  obtain ⟨⟨⟨⟨⟨⟨hsel, hs⟩, hc⟩, hn⟩, hmn⟩, hlen⟩, hlex⟩ := hB
  have htl : (l.take m).length = m := by simp; omega
  refine AtS.start hm n S hs hc fun _ _ inv => ?_
  have := anyS_lex (md := .any) (Q := Q) (S := S) (fuel := fuel) hsel hQ hs hc (by simpa using hn) hS (l.take m) 0 _ a (fun j hj => by
    rw [htl] at hj
    simp [hj]) (by rw [htl]; omega) inv (by rw [htl]; exact hlex) (fun a' (hK : AtS P .any l.toArray Q S n fuel (marks m 0 (Array.replicate l.toArray.size false)) a' w.drew) inv' => by rw [htl] at inv' ⊢; exact hK hs hc inv') (h _ (fun a' ha => ha))
  rw [htl] at this
  have e : l.toArray.size = m + fuel := by simpa using hlen
  rw [← e] at this
  exact this
end
end Go.Proofs.Ytgjdgmpjbpnjbaa.Disk
/-
  Memory, in the words of this layer: bytes, and slices of slices of bytes, that lie apart from some blocks; a half by value. No condition.
-/
namespace Go.Proofs.Ytgjdgmpjbpnjbaa.Jou
open Go.RowKit Codec FrameM Cod JourM
open Disk (Turn Dk Dsk ptr Now)
set_option maxRecDepth 100000
theorem cel_disk (xs : List UInt8) : Disk.cel xs = cel xs := rfl
/-- Bytes that lie in no block of S. -/
structure Bts (w : World) (S : List Nat) (A : Option Addr) (n : Nat) (xs : List UInt8) : Prop where
  len : xs.length = n
  at_ : 0 < n → ∃ b off, A = some ⟨b, off, none⟩ ∧ b < w.heap.size ∧ b ∉ S ∧ ∀ j, j < n → w.cell? ⟨b, off + j, none⟩ = some (byt (xs.getD j 0))
/-- A slice of slices of bytes: none of it lies in a block of S. -/
structure RowsB (w : World) (S : List Nat) (A : Option Addr) (n : Nat) (ls : List (List UInt8)) : Prop where
  len : ls.length = n
  at_ : 0 < n → ∃ b off, A = some ⟨b, off, none⟩ ∧ b < w.heap.size ∧ b ∉ S ∧ ∀ j, j < n → ∃ Aj cj, w.cell? ⟨b, off + j, none⟩ = some (.slice Aj (ls.getD j []).length cj) ∧
    Bts w S Aj (ls.getD j []).length (ls.getD j []) ∧ (ls.getD j []).length ≤ cj ∧ cj ≤ maxLen
section
variable {w w' : World} {S S' : List Nat} {A : Option Addr} {n : Nat} {xs : List UInt8} {ls : List (List UInt8)}
theorem Bts.none_ : Bts w S A 0 [] := ⟨rfl, fun h => absurd h (by omega)⟩
theorem Bts.turn (h : Bts w S A n xs) (ht : Turn S' w w') (hS : ∀ k ∈ S', k ∈ S ∨ w.heap.size ≤ k) : Bts w' S A n xs :=
  ⟨h.len, fun hn => by
    obtain ⟨b, off, e, hl, hb, hc⟩ := h.at_ hn
    exact ⟨b, off, e, Nat.lt_of_lt_of_le hl ht.size, hb, fun j hj => (World.cell?_of_block (w := w) (ht.block b hl (fun hm => (hS b hm).elim hb (by omega)))).trans (hc j hj)⟩⟩
theorem Bts.sub (h : Bts w S A n xs) (hS : ∀ k ∈ S', k ∈ S ∨ w.heap.size ≤ k) : Bts w S' A n xs :=
  ⟨h.len, fun hn => by
    obtain ⟨b, off, e, hl, hb, hc⟩ := h.at_ hn
    exact ⟨b, off, e, hl, fun hm => (hS b hm).elim hb (by omega), hc⟩⟩
theorem Bts.byts (h : Bts w S A n xs) : Byts w w.heap.size A n xs :=
  ⟨h.len, fun hn => by
    obtain ⟨b, off, e, hl, hb, hc⟩ := h.at_ hn
    exact ⟨b, off, e, hl, hc⟩⟩
theorem Bts.of_byts {B : Nat} (h : Byts w B A n xs) (hB : B ≤ w.heap.size) (hS : ∀ k ∈ S, B ≤ k) : Bts w S A n xs :=
  ⟨h.len, fun hn => by
    obtain ⟨b, off, e, hl, hc⟩ := h.at_ hn
    exact ⟨b, off, e, by omega, fun hm => by have := hS b hm; omega, hc⟩⟩
theorem Bts.above {lo : Nat} (h : Byts w w.heap.size A n xs) (ha : Frm.Above lo A) (hS : ∀ k ∈ S, k < lo) : Bts w S A n xs :=
  ⟨h.len, fun hn => by
    obtain ⟨b, off, e, hl, hc⟩ := h.at_ hn
    exact ⟨b, off, e, hl, fun hm => by have := hS b hm; have : lo ≤ b := ha _ e; omega, hc⟩⟩
theorem Bts.below (h : Bts w S A n xs) (hb : Below w.heap.size w w') : Bts w' S A n xs := h.turn (S' := []) (Turn.ofBelow hb) (by simp)
theorem Bts.range {b o : Nat} (h : Bts w S (some ⟨b, o, none⟩) n xs) (hn : 0 < n) : w.rangeAt b o (Disk.cel xs) ∧ b ∉ S ∧ b < w.heap.size := by
  obtain ⟨b', o', e, hl, hb, hc⟩ := h.at_ hn
  injection e with e
  injection e with e1 e2 _
  subst e1 e2
  refine ⟨fun j v hv => ?_, hb, hl⟩
  have hj : j < xs.length := by
    have := (List.getElem?_eq_some_iff.1 hv).1
    rwa [cel_disk, cel_length] at this
  rw [hc j (by rw [← h.len]; exact hj), ← cel_get xs j hj]
  exact hv
theorem RowsB.none_ : RowsB w S A 0 [] := ⟨rfl, fun h => absurd h (by omega)⟩
theorem RowsB.turn (h : RowsB w S A n ls) (ht : Turn S' w w') (hS : ∀ k ∈ S', k ∈ S ∨ w.heap.size ≤ k) : RowsB w' S A n ls :=
  ⟨h.len, fun hn => by
    obtain ⟨b, off, e, hl, hb, hc⟩ := h.at_ hn
    refine ⟨b, off, e, Nat.lt_of_lt_of_le hl ht.size, hb, fun j hj => ?_⟩
    obtain ⟨Aj, cj, h1, h2, h3⟩ := hc j hj
    exact ⟨Aj, cj, (World.cell?_of_block (w := w) (ht.block b hl (fun hm => (hS b hm).elim hb (by omega)))).trans h1, h2.turn ht hS, h3⟩⟩
theorem RowsB.sub (h : RowsB w S A n ls) (hS : ∀ k ∈ S', k ∈ S ∨ w.heap.size ≤ k) : RowsB w S' A n ls :=
  ⟨h.len, fun hn => by
    obtain ⟨b, off, e, hl, hb, hc⟩ := h.at_ hn
    refine ⟨b, off, e, hl, fun hm => (hS b hm).elim hb (by omega), fun j hj => ?_⟩
    obtain ⟨Aj, cj, h1, h2, h3⟩ := hc j hj
    exact ⟨Aj, cj, h1, h2.sub hS, h3⟩⟩
theorem RowsB.below (h : RowsB w S A n ls) (hb : Below w.heap.size w w') : RowsB w' S A n ls := h.turn (S' := []) (Turn.ofBelow hb) (by simp)
theorem RowsB.rows (h : RowsB w S A n ls) : Frm.Rows w w.heap.size A n ls :=
  ⟨h.len, fun hn => by
    obtain ⟨b, off, e, hl, hb, hc⟩ := h.at_ hn
    refine ⟨b, off, e, hl, fun j hj => ?_⟩
    obtain ⟨Aj, cj, h1, h2, h3⟩ := hc j hj
    exact ⟨Aj, cj, h1, h2.byts, h3⟩⟩
theorem RowsB.of_rows {B : Nat} (h : Frm.Rows w B A n ls) (hB : B ≤ w.heap.size) (hS : ∀ k ∈ S, B ≤ k) : RowsB w S A n ls :=
  ⟨h.len, fun hn => by
    obtain ⟨b, off, e, hl, hc⟩ := h.at_ hn
    refine ⟨b, off, e, by omega, fun hm => by have := hS b hm; omega, fun j hj => ?_⟩
    obtain ⟨Aj, cj, h1, h2, h3⟩ := hc j hj
    exact ⟨Aj, cj, h1, Bts.of_byts h2 hB hS, h3⟩⟩
/-- The k-th one. -/
def RowAt (w : World) (S : List Nat) (A : Option Addr) (n k : Nat) (x : List UInt8) (b o : Nat) (Aj : Option Addr) (cj : Nat) : Prop :=
  (∀ c w', (Instr.indexAt 34 (.slice A n c) (.int .i64 k)).run Try.prog w' = .ok (.pointer (some ⟨b, o, none⟩)) w') ∧ w.cell? ⟨b, o, none⟩ = some (.slice Aj x.length cj) ∧ Bts w S Aj x.length x ∧ x.length ≤ cj ∧ cj ≤ maxLen ∧ b ∉ S ∧ b < w.heap.size
theorem RowsB.at (h : RowsB w S A n ls) {k : Nat} (hk : k < n) : ∃ b o Aj cj, RowAt w S A n k (ls.getD k []) b o Aj cj := by
  obtain ⟨b, off, rfl, hl, hb, hc⟩ := h.at_ (by omega)
  obtain ⟨Aj, cj, h1, h2, h3, h4⟩ := hc k hk
  refine ⟨b, off + k, Aj, cj, fun c w' => ?_, h1, h2, h3, h4, hb, hl⟩
  simp [Instr.indexAt, asIntOf, run_underlying Try.underlying34, Result.andThen, Addr.add_mid]
  intro h1
  omega
theorem RowAt.index {k : Nat} {x : List UInt8} {b o cj : Nat} {Aj : Option Addr} (h : RowAt w S A n k x b o Aj cj) (c : Nat) : ∀ w' : World, (Instr.indexAt 34 (.slice A n c) (.int .i64 k)).run Try.prog w' = .ok (.pointer (some ⟨b, o, none⟩)) w' := fun w' => h.1 c w'
/-- Sectors that a call made. -/
theorem RowsB.of_pk {lo c : Nat} (h : Frm.Pk w lo (.slice A n c) n ls) (hS : ∀ k ∈ S, k < lo) : RowsB w S A n ls := by
  obtain ⟨vs, ho, h1, h2, h3⟩ := h
  refine ⟨h2, fun hn => ?_⟩
  obtain ⟨g, cap, hv, hlo, hlt⟩ := World.ownsRow.form ho hn
  have hA : A = some ⟨g, 0, none⟩ := by injection hv
  subst hA
  refine ⟨g, 0, rfl, hlt, fun hm => by have := hS g hm; omega, fun j hj => ?_⟩
  obtain ⟨gj, e, hg, hlj, hs⟩ := h3 j hj
  have hc := ho.cells (g := g) rfl j (vs.getD j undef) (by simp [List.getD_eq_getElem?_getD, h1, hj])
  rw [plain_add, e] at hc
  refine ⟨some ⟨gj, 0, none⟩, 64, by rw [hs]; exact hc, ⟨by rw [hs], fun _ => ⟨gj, 0, rfl, lt_of_heap hg, fun hm => by have := hS gj hm; omega, fun x hx => ?_⟩⟩, by omega, by unfold maxLen; omega⟩
  rw [cell_at hg, Nat.zero_add, ← cel_get _ x hx]
  simp
end
/-- A half by value. -/
def hv (g gen : Nat) : Value := .agg #[ptr g, .int .i64 gen]
def hbox (g gen : Nat) : Obj := .cells #[ptr g, .int .i64 gen] 49
def err (b : Bool) : Int := if b then 0 else 3
theorem err_true : err true = 0 := rfl
theorem err_false : err false = 3 := rfl
theorem Dk.below {w w' : World} {g gs gm : Nat} {d : Dsk} (h : Dk w g gs gm d) (hb : Below w.heap.size w w') : Dk w' g gs gm d := h.turn (Turn.ofBelow (S := []) hb) (by simp) (by simp) (by simp)
theorem Dk.lows {w : World} {g gs gm : Nat} {d : Dsk} (h : Dk w g gs gm d) : ∀ k ∈ [g, gs, gm], k < w.heap.size := by
  intro k hk
  simp only [List.mem_cons, List.not_mem_nil, or_false] at hk
  rcases hk with rfl | rfl | rfl
  · exact h.lt
  · exact h.sf.1
  · exact h.ltm
/-- Write, Sync: by whether the deed is done. -/
theorem write_go (w : World) (g gs gm : Nat) (d : Dsk) (h : Dk w g gs gm d) (hg : go d = true) (i : Nat) (hi : i < d.n) (b o c : Nat) (xs : List UInt8) (hx : xs.length = 64) (hr : Bts w [g, gs, gm] (some ⟨b, o, none⟩) 64 xs) :
    Calls Try.prog 54 #[ptr g, .int .i64 i, .slice (some ⟨b, o, none⟩) 64 c] w (Now (.int .i64 0) w g gs gm (wr d i xs)) := by
  obtain ⟨h1, h2⟩ := go_on hg
  obtain ⟨r1, r2, r3⟩ := hr.range (by omega)
  rw [wr_go hg]
  exact Disk.write_do w g gs gm d h h1 h2 i hi b o c xs hx r1 r2 r3
theorem Turn.self (S : List Nat) (w : World) : Turn S w w := Turn.refl S w
theorem write_no (w : World) (g gs gm : Nat) (d : Dsk) (h : Dk w g gs gm d) (hg : go d = false) (i : Nat) (hi : i < d.n) (A : Option Addr) (c : Nat) (xs : List UInt8) :
    Calls Try.prog 54 #[ptr g, .int .i64 i, .slice A 64 c] w (Now (.int .i64 3) w g gs gm (wr d i xs)) := by
  unfold wr
  cases ho : d.off with
  | true =>
    refine (Disk.write_off w g gs gm d h ho i _).mono ?_
    rintro e w' ⟨rfl, rfl⟩
    exact ⟨rfl, h, Turn.refl _ _⟩
  | false =>
    have hd : d.done = false := by simpa [go, ho] using hg
    rw [hd]
    exact Disk.write_stop w g gs gm d h ho hd i hi A c
theorem sync_any (w : World) (g gs gm : Nat) (d : Dsk) (h : Dk w g gs gm d) : Calls Try.prog 55 #[ptr g] w (Now (.int .i64 (err (go d))) w g gs gm (sy d)) := by
  unfold sy
  cases ho : d.off with
  | true =>
    have hg : go d = false := by simp [go, ho]
    rw [hg]
    refine (Disk.sync_off w g gs gm d h ho).mono ?_
    rintro e w' ⟨rfl, rfl⟩
    exact ⟨rfl, h, Turn.refl _ _⟩
  | false =>
    cases hd : d.done with
    | true =>
      have hg : go d = true := by simp [go, ho, hd]
      rw [hg]
      exact Disk.sync_do w g gs gm d h ho hd
    | false =>
      have hg : go d = false := by simp [go, ho, hd]
      rw [hg]
      exact Disk.sync_stop w g gs gm d h ho hd
/-- Read, of a disk whose power is on: what is there; nothing behind the last sector. -/
def Got (w : World) (xs : List UInt8) (e : Ending) (w' : World) : Prop :=
  ∃ A c z, e = .returned (.tuple #[.slice A xs.length c, .int .i64 z]) ∧ Byts w' w'.heap.size A xs.length xs ∧ Below w.heap.size w w' ∧ xs.length ≤ c ∧ c ≤ maxLen ∧ Frm.Above w.heap.size A
theorem byts_block {w : World} {k : Nat} {xs : List UInt8} {T : TypeId} (h : w.heap[k]? = some (.cells (cel xs).toArray T (0, 0))) : Byts w w.heap.size (some ⟨k, 0, none⟩) xs.length xs :=
  ⟨rfl, fun _ => ⟨k, 0, rfl, lt_of_heap h, fun j hj => by rw [cell_at h, Nat.zero_add, ← cel_get xs j hj]; simp⟩⟩
theorem below_of_turn {w w' : World} (h : Turn [] w w') : Below w.heap.size w w' := h.low (by simp) (Nat.le_refl _)
end Go.Proofs.Ytgjdgmpjbpnjbaa.Jou
/-
  What the small functions of a half answer: its room, a place, a sector, a head's mark, a group's mark; what groups take. Conditions: the disk is known.
-/
namespace Go.Proofs.Ytgjdgmpjbpnjbaa.Jou
open Go.RowKit Codec FrameM Cod JourM
open Disk (Turn Dk Dsk ptr Now)
set_option maxRecDepth 100000
theorem read_bad (w : World) (g gs gm : Nat) (d : Dsk) (h : Dk w g gs gm d) (ho : d.off = false) (i : Nat) (hi : d.n ≤ i) : Calls Try.prog 50 #[ptr g, .int .i64 i] w (Disk.Ends (.tuple #[.slice none 0 0, .int .i64 1]) w) := by
  have HR := Lib.hid (Disk.refuses_disk w g gs gm d i h)
  have hw : d.why i = 1 := by simp [Dsk.why, ho]; omega
  rw [hw] at HR
  clear h ho hw hi
  unfold ptr at HR ⊢
  go_enter Try.func50, Try.ntmps50
  go_wp2_with fail
  refine HR.out.mono ?_
  rintro e w1 ⟨rfl, rfl⟩
  go_wp2
  go_ret2
  exact ⟨rfl, rfl⟩
theorem read_any (w : World) (g gs gm : Nat) (d : Dsk) (h : Dk w g gs gm d) (ho : d.off = false) (i : Nat) : Calls Try.prog 50 #[ptr g, .int .i64 i] w (Got w (rd d i)) := by
  by_cases hi : i < d.n
  · have hr : rd d i = d.read i := by unfold rd; rw [if_pos hi]
    have hl := Disk.Dsk.read_length h.ok hi
    rw [hr]
    refine (Disk.read_disk w g gs gm d h ho i hi).mono ?_
    rintro e w' ⟨k, rfl, h1, h2, h3⟩
    have hb := byts_block h1
    exact ⟨some ⟨k, 0, none⟩, 64, 0, by rw [hl], hb, below_of_turn h3, by omega, by unfold maxLen; omega, Frm.Above.one h2⟩
  · rw [rd_out (by omega)]
    refine (read_bad w g gs gm d h ho i (by omega)).mono ?_
    rintro e w' ⟨rfl, rfl⟩
    exact ⟨none, 0, 1, rfl, Byts.none_, Below.refl _ _, Nat.le_refl _, Nat.zero_le _, Frm.Above.none_⟩
theorem place_any (w : World) (gen : Nat) (hg : gen < 9223372036854775808) : Calls Try.prog 43 #[.int .i64 gen] w (Disk.Ends (.int .i64 ((gen % 2 : Nat) : Int)) w) := by
  have h1 : (0 : Int) ≤ gen := by omega
  have h2 : (gen : Int) ≤ 9223372036854775807 := by omega
  have HM : Hid (((gen % 2 : Nat) : Int) = (gen : Int) % 2) := Lib.hid (by omega)
  rw [HM.out]
  go_enter Try.func43, Try.ntmps43
  go_wp2
  go_ret
  exact ⟨rfl, rfl⟩
theorem room_any (w : World) (g gs gm : Nat) (d : Dsk) (gen : Nat) (h : Dk w g gs gm d) (h8 : 2 ≤ d.n) : Calls Try.prog 36 #[hv g gen] w (EndsBelow (.int .i64 (room d.n)) w) := by
  have h1 := h.ok.2.1
  have HS := Lib.hid (Disk.sectors_disk (w.alloc (hbox g gen)) g gs gm d (h.alloc _))
  have HM : Hid ((room d.n : Int) = ((d.n : Int) - 2) / 2) := Lib.hid (by unfold room; omega)
  rw [HM.out]
  clear h HM
  unfold hv
  unfold hbox at HS
  unfold ptr at HS ⊢
  generalize d.n = n at *
  have h2 : (2 : Int) ≤ n := by omega
  have h3 : (n : Int) ≤ 65536 := by omega
  go_enter Try.func36, Try.ntmps36
  go_wp2_with fail
  refine HS.out.mono ?_
  rintro e w1 ⟨rfl, rfl⟩
  go_wp2
  go_ret
  exact ⟨rfl, Frm.alloc_below _ _⟩
theorem head_any (w : World) (gen : Nat) : Calls Try.prog 45 #[.int .i64 gen] w (EndsBelow (Frm.mkV (headM gen)) w) := by
  go_enter Try.func45, Try.ntmps45
  go_wp2
  exact bodyPost_ret (v := .agg #[.int .i64 1, .int .i64 gen, .int .i64 0, .int .i64 0]) (by simp [results, Try.results45, go_sem]) rfl ⟨rfl, Frm.alloc_below _ _⟩
/-- A half in a box, its disk; what was made since w0. -/
structure HB (w0 w : World) (k g gs gm gen : Nat) (d : Dsk) : Prop where
  bx : w.heap[k]? = some (hbox g gen)
  dk : Dk w g gs gm d
  low : Below w0.heap.size w0 w
  lo : w0.heap.size ≤ k
theorem HB.c0 {w0 w : World} {k g gs gm gen : Nat} {d : Dsk} (h : HB w0 w k g gs gm gen d) : w.cell? ⟨k, 0, none⟩ = some (.pointer (some ⟨g, 0, none⟩)) := cell_at h.bx 0
theorem HB.c1 {w0 w : World} {k g gs gm gen : Nat} {d : Dsk} (h : HB w0 w k g gs gm gen d) : w.cell? ⟨k, 1, none⟩ = some (.int .i64 gen) := cell_at h.bx 1
theorem HB.start {w : World} {g gs gm : Nat} (gen : Nat) {d : Dsk} (h : Dk w g gs gm d) : HB w (w.alloc (hbox g gen)) w.heap.size g gs gm gen d :=
  ⟨heap_alloc_new w _, h.alloc _, Frm.alloc_below _ _, Nat.le_refl _⟩
theorem HB.call {w0 w w' : World} {k g gs gm gen : Nat} {d : Dsk} (h : HB w0 w k g gs gm gen d) (hb : Below w.heap.size w w') : HB w0 w' k g gs gm gen d :=
  ⟨(hb.block k (lt_of_heap h.bx)).trans h.bx, Dk.below h.dk hb, h.low.trans (hb.mono h.low.size), h.lo⟩
theorem HB.drew {w0 w : World} {k g gs gm gen : Nat} {d : Dsk} (h : HB w0 w k g gs gm gen d) : HB w0 w.drew k g gs gm gen d :=
  ⟨h.bx, h.dk.drewN 1, h.low.drew, h.lo⟩
theorem HB.alloc {w0 w : World} {k g gs gm gen : Nat} {d : Dsk} (h : HB w0 w k g gs gm gen d) (o : Obj) : HB w0 (w.alloc o) k g gs gm gen d := h.call (Frm.alloc_below w o)
/-- A block of another type than the disk's, which does not begin with a byte, is none of the disk's. -/
theorem apart_disk {w : World} {g gs gm k : Nat} {d : Dsk} (h : Dk w g gs gm d) {cs : Array Value} {T : TypeId} {fr : Nat × Nat} (hk : w.heap[k]? = some (.cells cs T fr)) (hT : T ≠ 57) (h0 : ∀ x, cs[0]? ≠ some (.int .u8 x)) : k ∉ [g, gs, gm] := by
  intro hm
  simp only [List.mem_cons, List.not_mem_nil, or_false] at hm
  rcases hm with rfl | rfl | rfl
  · obtain ⟨z, hz⟩ := h.hd
    rw [hz] at hk
    injection hk with hk
    injection hk with _ ht
    exact hT ht.symm
  · have h1 := h.ok.1
    have hl := h.ok.2.2.1 0 h1
    have hc := h.sf.2.2 0 h1 0 (Disk.byt ((d.safe 0).getD 0 0)) (Disk.cel_get _ 0 (by omega))
    simp only [World.cell?, hk, Nat.zero_mul, Nat.add_zero] at hc
    exact h0 _ hc
  · exact h.mp.isMap hk rfl
/-- The disk has turned. -/
theorem HB.disk {w0 w w' : World} {k g gs gm gen : Nat} {d : Dsk} (h : HB w0 w k g gs gm gen d) (ht : Turn [g, gs, gm] w w') : w'.heap[k]? = some (hbox g gen) :=
  (ht.block k (lt_of_heap h.bx) (apart_disk h.dk h.bx (by decide) (by simp [ptr]))).trans h.bx
theorem sector_any (w : World) (g gs gm : Nat) (d : Dsk) (gen pos : Nat) (h : Dk w g gs gm d) (h2 : 2 ≤ d.n) (hg : gen < 9223372036854775808) (hp : pos ≤ 100000) :
    Calls Try.prog 42 #[hv g gen, .int .i64 pos] w (EndsBelow (.int .i64 (secAt d.n gen pos)) w) := by
  have hn := h.ok.2.1
  have HB0 := Lib.hid (HB.start gen h)
  have HPL := Lib.hid (fun u => place_any u gen hg)
  have HRM := Lib.hid (fun u hu => room_any u g gs gm d gen hu h2)
  have HE : Hid ((secAt d.n gen pos : Int) = (2 + ((gen % 2 : Nat) : Int) * (room d.n : Int)) + (pos : Int)) := Lib.hid (by unfold secAt; push_cast; rfl)
  have hr1 : room d.n ≤ 65536 := by unfold room; omega
  have hq := Nat.mod_two_eq_zero_or_one gen
  generalize room d.n = R at *
  generalize gen % 2 = q at *
  rw [HE.out]
  unfold hv at HRM ⊢
  unfold hbox at HB0
  unfold ptr at HRM HB0 ⊢
  clear h h2 hg HE hn
  go_enter Try.func42, Try.ntmps42
  go_wp2_with fail
  generalize w.alloc (.cells #[.pointer (some ⟨g, 0, none⟩), .int .i64 gen] 49) = W at *
  have HS := Lib.hid HB0.out.drew
  refine Frm.wh_start (fun w' => HB w w' w.heap.size g gs gm gen d) (by kernel_rfl) ?_
  refine Frm.wh_take 0 5 (.pointer (some ⟨w.heap.size, 1, none⟩)) rfl rfl (by kernel_rfl) (fun _ _ _ h => h) rfl HS.out (fun w' hw' => ?_) ?_
  · go_simp
  go_frame
  refine Frm.wh_take 1 6 (.int .i64 gen) rfl rfl (by kernel_rfl) (fun _ _ _ h => h) rfl HS.out (fun w' hw' => ?_) ?_
  · have h1 := hw'.c1
    go_simp
  go_frame
  refine Frm.wh_take 3 8 (.agg #[.pointer (some ⟨g, 0, none⟩), .int .i64 gen]) rfl rfl (by kernel_rfl) (fun _ _ _ h => h) rfl HS.out (fun w' hw' => ?_) ?_
  · have h0 := hw'.c0
    have h1 := hw'.c1
    go_simp
  go_frame
  refine Frm.wh_take 7 12 (.int .i64 pos) rfl rfl (by kernel_rfl) (fun _ _ _ h => h) rfl HS.out (fun w' hw' => ?_) ?_
  · exact rfl
  go_frame
  refine Frm.wh_call 2 7 43 #[.int .i64 gen] rfl rfl (by kernel_rfl) rfl ?_ ?_
  · go_simp
  refine (HPL.out _).mono ?_
  rintro e w2 ⟨rfl, rfl⟩
  refine ⟨_, rfl, HS.out, ?_⟩
  go_frame
  refine Frm.wh_call 4 9 36 #[.agg #[.pointer (some ⟨g, 0, none⟩), .int .i64 gen]] rfl rfl (by kernel_rfl) rfl ?_ ?_
  · go_simp
  refine (HRM.out _ HS.out.dk).mono ?_
  rintro e w3 ⟨rfl, hb⟩
  have HS := Lib.hid (HS.out.call hb)
  clear hb
  refine ⟨_, rfl, HS.out, ?_⟩
  go_frame
  have hw1 : IntKind.i64.wrap ((q : Int) * (R : Int)) = (q : Int) * (R : Int) := IntWalk.i64_in _ (by rcases hq with rfl | rfl <;> omega)
  have hw2 : IntKind.i64.wrap (2 + (q : Int) * (R : Int)) = 2 + (q : Int) * (R : Int) := IntWalk.i64_in _ (by rcases hq with rfl | rfl <;> omega)
  have hw3 : IntKind.i64.wrap (2 + (q : Int) * (R : Int) + (pos : Int)) = 2 + (q : Int) * (R : Int) + (pos : Int) := IntWalk.i64_in _ (by rcases hq with rfl | rfl <;> omega)
  refine Frm.wh_take 5 10 (.int .i64 ((q : Int) * (R : Int))) rfl rfl (by kernel_rfl) (fun _ _ _ h => h) rfl HS.out (fun w' hw' => ?_) ?_
  · go_simp
  go_frame
  refine Frm.wh_take 6 11 (.int .i64 (2 + (q : Int) * (R : Int))) rfl rfl (by kernel_rfl) (fun _ _ _ h => h) rfl HS.out (fun w' hw' => ?_) ?_
  · go_simp
  go_frame
  refine Frm.wh_take 8 13 (.int .i64 (2 + (q : Int) * (R : Int) + (pos : Int))) rfl rfl (by kernel_rfl) (fun _ _ _ h => h) rfl HS.out (fun w' hw' => ?_) ?_
  · go_simp
  go_frame
  refine Frm.wh_take 9 4 (.int .i64 (2 + (q : Int) * (R : Int) + (pos : Int))) rfl rfl (by kernel_rfl) (fun _ _ _ h => h) rfl HS.out (fun w' hw' => ?_) ?_
  · exact rfl
  go_frame
  refine wpAnyH_done (by kernel_rfl) ?_ _
  go_wp2_with fail
  go_ret
  exact ⟨rfl, HS.out.low⟩
theorem i64_or32 (a b : Nat) (ha : a < 2147483648) (hb : b < 4294967296) : bits .or .i64 ((a : Int) * 4294967296) (b : Int) = (a : Int) * 4294967296 + (b : Int) := by
  have ea : (BitVec.ofInt 64 ((a : Int) * 4294967296)).toNat = 2 ^ 32 * a := by rw [BitVec.toNat_ofInt]; omega
  have eb : (BitVec.ofInt 64 (b : Int)).toNat = b := by rw [BitVec.toNat_ofInt]; omega
  have key : (BitVec.ofInt 64 ((a : Int) * 4294967296) ||| BitVec.ofInt 64 (b : Int)).toNat = 2 ^ 32 * a + b := by
    rw [BitVec.toNat_or, ea, eb, Nat.two_pow_add_eq_or_of_lt (by omega)]
  show IntKind.i64.wrap ((BitVec.ofInt 64 ((a : Int) * 4294967296) ||| BitVec.ofInt 64 (b : Int)).toNat : Nat) = _
  rw [key, IntKind.wrap_i64]
  omega
set_option maxHeartbeats 1000000 in
theorem mark_any (w : World) (g gen seq B n c : Nat) (A : Option Addr) (b : List UInt8) (h : Byts w B A n b) (hB : B ≤ w.heap.size) (hn : n ≤ 1048576) : Calls Try.prog 52 #[hv g gen, .int .i64 seq, .slice A n c] w (EndsBelow (Frm.mkV (markM gen seq b)) w) := by
  have hl := h.len
  have HC := Lib.hid (Frm.crc_byts ((w.alloc (hbox g gen)).alloc (.cells #[.int .i64 0, .int .i64 0, .int .i64 0, .int .i64 0] 79)) B n c A b ((h.alloc hB _).alloc (by simp; omega) _) (by omega))
  have hc := crcOf_lt b
  have HO := Lib.hid (i64_or32 n (crcOf b) (by omega) hc)
  have HM : Hid (Frm.mkV (markM gen seq b) = .agg #[.int .i64 2, .int .i64 gen, .int .i64 seq, .int .i64 ((n : Int) * 4294967296 + (crcOf b : Nat))]) := Lib.hid (by unfold Frm.mkV markM; rw [hl])
  rw [HM.out]
  unfold hv
  unfold hbox ptr at HC
  unfold ptr
  clear h hl HM
  generalize crcOf b = z at *
  have hn1 : (n : Int) ≤ 1048576 := by omega
  have hc1 : (z : Int) < 4294967296 := by omega
  go_enter Try.func52, Try.ntmps52
  go_wp2_with fail
  refine HC.out.mono ?_
  rintro e w1 ⟨rfl, rfl⟩
  go_wp2_with fail
  rw [HO.out]
  exact bodyPost_ret (v := .agg #[.int .i64 2, .int .i64 gen, .int .i64 seq, .int .i64 ((n : Int) * 4294967296 + (z : Int))]) (by simp [results, Try.results52, go_sem]) rfl ⟨rfl, (Frm.alloc_below _ _).alloc (by simp) _⟩
end Go.Proofs.Ytgjdgmpjbpnjbaa.Jou
/-
  Slices of sectors that a call made: many appended, one behind the first one's tail. Conditions: the sizes are named.
-/
namespace Go.Proofs.Ytgjdgmpjbpnjbaa.Jou
open Go.RowKit Codec FrameM Cod JourM
open Disk (Turn Dk Dsk ptr Now)
open Frm (Sct Pk)
set_option maxRecDepth 100000
/-- Sectors in a slice, in blocks from lo on. -/
structure Secs (w : World) (lo : Nat) (A : Option Addr) (n : Nat) (ls : List (List UInt8)) : Prop where
  len : ls.length = n
  at_ : 0 < n → ∃ b off, A = some ⟨b, off, none⟩ ∧ b < w.heap.size ∧ lo ≤ b ∧ ∀ j, j < n → ∃ u, w.cell? ⟨b, off + j, none⟩ = some u ∧ Sct w lo u (ls.getD j [])
theorem Secs.none_ {w : World} {lo : Nat} {A : Option Addr} : Secs w lo A 0 [] := ⟨rfl, fun h => absurd h (by omega)⟩
theorem Secs.below {w w' : World} {lo n : Nat} {A : Option Addr} {ls : List (List UInt8)} (h : Secs w lo A n ls) (hb : Below w.heap.size w w') : Secs w' lo A n ls :=
  ⟨h.len, fun hn => by
    obtain ⟨b, off, e, hl, hlo, hc⟩ := h.at_ hn
    refine ⟨b, off, e, Nat.lt_of_lt_of_le hl hb.size, hlo, fun j hj => ?_⟩
    obtain ⟨u, h1, h2⟩ := hc j hj
    exact ⟨u, (World.cell?_of_block (w := w) (hb.block b hl)).trans h1, h2.keep fun g cs hg => (hb.block g (lt_of_heap hg)).trans hg⟩⟩
theorem Secs.of_pk {w : World} {lo n c : Nat} {A : Option Addr} {ls : List (List UInt8)} (h : Pk w lo (.slice A n c) n ls) : Secs w lo A n ls := by
  obtain ⟨vs, ho, h1, h2, h3⟩ := h
  refine ⟨h2, fun hn => ?_⟩
  obtain ⟨g, cap, hv, hlo, hlt⟩ := World.ownsRow.form ho hn
  have hA : A = some ⟨g, 0, none⟩ := by injection hv
  subst hA
  refine ⟨g, 0, rfl, hlt, hlo, fun j hj => ⟨_, ?_, h3 j hj⟩⟩
  have hc := ho.cells (g := g) rfl j (vs.getD j undef) (by simp [List.getD_eq_getElem?_getD, h1, hj])
  rwa [plain_add] at hc
theorem Secs.rowsB {w : World} {lo n : Nat} {A : Option Addr} {ls : List (List UInt8)} {S : List Nat} (h : Secs w lo A n ls) (hS : ∀ k ∈ S, k < lo) : RowsB w S A n ls :=
  ⟨h.len, fun hn => by
    obtain ⟨b, off, e, hl, hlo, hc⟩ := h.at_ hn
    refine ⟨b, off, e, hl, fun hm => by have := hS b hm; omega, fun j hj => ?_⟩
    obtain ⟨u, h1, gj, rfl, hg, hlj, hs⟩ := hc j hj
    refine ⟨some ⟨gj, 0, none⟩, 64, by rw [hs]; exact h1, ⟨by rw [hs], fun _ => ⟨gj, 0, rfl, lt_of_heap hg, fun hm => by have := hS gj hm; omega, fun x hx => ?_⟩⟩, by omega, by unfold maxLen; omega⟩
    rw [cell_at hg, Nat.zero_add, ← cel_get _ x hx]
    simp⟩
theorem sct_kept {w w' : World} {lo lo0 n : Nat} {v u : Value} {vs : List Value} {s : List UInt8} (ho : w.ownsRow lo0 35 1 v n vs) (hg : w.grownBy w' v.ownBlock) (h : Sct w lo u s) : Sct w' lo u s := by
  refine h.keep fun k cs hkc => (hg.block k (lt_of_heap hkc) ?_).trans hkc
  rcases ho.2 with ⟨rfl, _⟩ | ⟨b, cap, cur, rfl, _, hgb, _⟩
  · simp [Value.ownBlock]
  · intro e
    have : b = k := by simpa [Value.ownBlock] using e.symm
    subst this
    rw [hkc] at hgb
    injection hgb with hgb
    injection hgb with _ ht
    exact absurd ht (by decide)
theorem getD_app_left {α : Type} (a b : List α) (k : Nat) (d : α) (h : k < a.length) : (a ++ b).getD k d = a.getD k d := JourM.getD_left a b k d h
theorem getD_app_right {α : Type} (a b : List α) (k : Nat) (d : α) (h : a.length ≤ k) : (a ++ b).getD k d = b.getD (k - a.length) d := JourM.getD_right a b k d h
/-- Sectors appended onto a slice of the call's own. -/
theorem run_app_pk (w : World) (ty : TypeId) (lo : Nat) (v : Value) (n : Nat) (ls : List (List UInt8)) (h : Pk w lo v n ls) (A : Option Addr) (m c : Nat) (ls2 : List (List UInt8)) (h2 : Secs w lo A m ls2) (hn : n + m ≤ 1000000) (hlo : lo ≤ w.heap.size) :
    ∃ A' c' w', (Builtin.append_ #[34, 34] ty #[v, .slice A m c]).run Try.prog w = .ok (.slice A' (n + m) c') w' ∧ Pk w' lo (.slice A' (n + m) c') (n + m) (ls ++ ls2) ∧ Below lo w w' ∧ w.grownBy w' v.ownBlock := by
  obtain ⟨i0, hi0, hz0, hz1, hz2⟩ := info_parts Frm.info24
  obtain ⟨vs, ho, h1, hl1, h3⟩ := h
  have key : ∃ v' w' vs', (Builtin.append_ #[34, 34] ty #[v, .slice A m c]).run Try.prog w = .ok v' w' ∧ w'.ownsRow lo 35 1 v' (n + m) (vs ++ vs') ∧ w.grownBy w' v.ownBlock ∧ vs'.length = m ∧ ∀ j, j < m → Sct w lo (vs'.getD j undef) (ls2.getD j []) := by
    by_cases hm : m = 0
    · subst hm
      refine ⟨v, w, [], ?_, by simpa using ho, ⟨rfl, rfl, rfl, Nat.le_refl _, fun _ _ _ => rfl⟩, rfl, fun j hj => absurd hj (by omega)⟩
      rcases ho.2 with ⟨rfl, rfl⟩ | ⟨g, cap, cur, rfl, _, _, hnc, _⟩
      · cases A <;> simp [Builtin.append_, run_underlying Try.underlying34, sizeOf, typeInfo, hi0, Builtin.lenOf, Builtin.firstCells, loadCells, loadCellsFrom]
      · cases A <;> simp [Builtin.append_, run_underlying Try.underlying34, sizeOf, typeInfo, hi0, Builtin.lenOf, Builtin.firstCells, loadCells, loadCellsFrom, hnc, storeCells]
    · obtain ⟨b, off, rfl, hl, hb, hc⟩ := h2.at_ (by omega)
      have hex : ∃ vs' : List Value, vs'.length = m ∧ ∀ j, j < m → w.cell? ⟨b, off + j, none⟩ = some (vs'.getD j undef) ∧ Sct w lo (vs'.getD j undef) (ls2.getD j []) := by
        refine ⟨(List.range m).map fun j => (w.cell? ⟨b, off + j, none⟩).getD undef, by simp, fun j hj => ?_⟩
        obtain ⟨u, hu1, hu2⟩ := hc j hj
        have e : ((List.range m).map fun j => (w.cell? ⟨b, off + j, none⟩).getD undef).getD j undef = u := by simp [List.getD_eq_getElem?_getD, hj, hu1]
        rw [e]
        exact ⟨hu1, hu2⟩
      obtain ⟨vs', hv1, hv2⟩ := hex
      obtain ⟨v', w', hrun, r1, r2, _, _⟩ := run_append_own_at (P := Try.prog) w lo 34 ty 35 i0 (.slice none 0 0) 1 24 Try.underlying34 hi0 hz0 hz1 hz2 rfl (by decide) v n vs ho ⟨b, off, none⟩ m c vs' (by omega) (fun j u hu => by
        have hj : j < m := by rw [← hv1]; exact (List.getElem?_eq_some_iff.1 hu).1
        have e := (hv2 j hj).1
        rw [plain_add, e, List.getD_eq_getElem?_getD, hu]
        rfl) (fun u hu => by
        obtain ⟨j, hj, rfl⟩ := List.getElem_of_mem hu
        obtain ⟨g, hg, _⟩ := (hv2 j (by omega)).2
        have e : vs'.getD j undef = vs'[j] := by simp [List.getD_eq_getElem?_getD, hj]
        rw [e] at hg
        rw [hg]
        rfl) (by unfold maxLen; omega) (by omega) hlo
      exact ⟨v', w', vs', hrun, r1, r2, hv1, fun j hj => (hv2 j hj).2⟩
  obtain ⟨v', w', vs', hrun, r1, r2, r3, r4⟩ := key
  have hpk : Pk w' lo v' (n + m) (ls ++ ls2) := by
    refine ⟨vs ++ vs', r1, by simp [h1, r3], by simp [hl1, h2.len], fun j hj => ?_⟩
    by_cases hjn : j < n
    · rw [getD_app_left _ _ _ _ (by omega), getD_app_left _ _ _ _ (by omega)]
      exact sct_kept ho r2 (h3 j hjn)
    · rw [getD_app_right _ _ _ _ (by omega), getD_app_right _ _ _ _ (by omega), h1, hl1]
      exact sct_kept ho r2 (r4 (j - n) (by omega))
  have hb : Below lo w w' := (Below.refl lo w).grown r2 hlo (fun k hk => (World.ownsRow.lt ho k hk).1)
  obtain ⟨A', c', rfl, _, _⟩ := hpk.form
  exact ⟨A', c', w', hrun, hpk, hb, r2⟩
theorem wpList_app_pk (w : World) {ops : Array Oper} {rest : List Oper} {o : Oper} {a : Act} {Q : Exit → Act → World → Prop} (hgd : o.guard = none) (s x : Operand)
    (ho : o.op = .call { callee := .builtin .append, args := #[s, x], argTypes := #[34, 34] })
    (lo : Nat) (v : Value) (n : Nat) (ls : List (List UInt8)) (hs : a.eval s = v) (h : Pk w lo v n ls) (A : Option Addr) (m c : Nat) (ls2 : List (List UInt8)) (hx : a.eval x = .slice A m c) (h2 : Secs w lo A m ls2) (hn : n + m ≤ 1000000) (hlo : lo ≤ w.heap.size)
    (hK : ∀ A' c' w', Pk w' lo (.slice A' (n + m) c') (n + m) (ls ++ ls2) → Below lo w w' → w.grownBy w' v.ownBlock → wpList Try.prog ops Q rest (a.put o.dst (.slice A' (n + m) c')) w') : wpList Try.prog ops Q (o :: rest) a w := by
  obtain ⟨A', c', w', hrun, k2, k3, k4⟩ := run_app_pk w o.type lo v n ls h A m c ls2 h2 hn hlo
  refine wpList_plain hgd fun _ hK' => ?_
  unfold Oper.wp execOp
  simp only [ho, resolve, invoke, builtin, Sem.run_bind, Sem.run_pure, Result.andThen_ok, List.map_toArray, List.map_cons, List.map_nil, hs, hx, hrun]
  exact hK' _ _ (hK A' c' w' k2 k3 k4)
/-- A slice of one, made of a sector of the call's own. -/
theorem pk_one (w : World) (lo g : Nat) (s : List UInt8) (hs : Sct w lo (.slice (some ⟨g, 0, none⟩) 64 64) s) (hlo : lo ≤ w.heap.size) : Pk (w.alloc (.cells #[.slice (some ⟨g, 0, none⟩) 64 64] 35)) lo (.slice (some ⟨w.heap.size, 0, none⟩) 1 1) 1 [s] := by
  refine ⟨[.slice (some ⟨g, 0, none⟩) 64 64], ⟨by simp, .inr ⟨w.heap.size, 1, _, rfl, hlo, heap_alloc_new w _, Nat.le_refl _, by unfold maxLen; omega, by simp, by simp⟩⟩, rfl, rfl, fun j hj => ?_⟩
  obtain rfl : j = 0 := by omega
  exact hs.keep fun k cs hk => (Below.heap_alloc w _ k (lt_of_heap hk)).trans hk
/-- The tail of a slice of sectors. -/
theorem size24 (w : World) : (sizeOf (Try.prog.elem 34)).run Try.prog w = .ok 1 w := by kernel_rfl
theorem cut_one (A : Option Addr) (n c : Nat) (hn : 1 ≤ n) (v : World) : (Instr.slice 34 (.slice A n c) (some (.int .i64 1)) none none).run Try.prog v = .ok (.slice (Frm.cutAt A 1 c) (n - 1) (c - 1)) v := by
  have h := run_slice_l (P := Try.prog) v 34 A n c Try.underlying34 .i64 ((1 : Nat) : Int) (by omega) (by omega)
  rw [size24 v] at h
  simpa [Result.andThen, sliced, Frm.cutAt] using h
theorem Secs.tail {w : World} {lo n c : Nat} {A : Option Addr} {ls : List (List UInt8)} (h : Secs w lo A n ls) (hn : n ≤ c) : Secs w lo (Frm.cutAt A 1 c) (n - 1) (ls.drop 1) :=
  ⟨by rw [List.length_drop, h.len], fun h0 => by
    obtain ⟨b, off, rfl, hl, hlo, hc⟩ := h.at_ (by omega)
    unfold Frm.cutAt
    rw [if_neg (by omega)]
    refine ⟨b, off + 1, by rw [Option.map_some, plain_add], hl, hlo, fun j hj => ?_⟩
    obtain ⟨u, h1, h2⟩ := hc (1 + j) (by omega)
    refine ⟨u, by rw [Nat.add_assoc]; exact h1, ?_⟩
    have e : (ls.drop 1).getD j [] = ls.getD (1 + j) [] := by simp [List.getD_eq_getElem?_getD, Nat.add_comm]
    rw [e]
    exact h2⟩
/-- One sector behind the tail: in the spare room, or in a new block; the whole slice is as it was. -/
theorem run_app_tail (w : World) (ty : TypeId) (lo n c : Nat) (A : Option Addr) (ls : List (List UInt8)) (h : Pk w lo (.slice A n c) n ls) (hn : 1 ≤ n) (u : Value) (s : List UInt8) (hs : Sct w lo u s) (ad : Addr) (cu : Nat) (hc : w.cell? ad = some u) (hm : n ≤ 1000000) (hlo : lo ≤ w.heap.size) :
    ∃ A' c' w', (Builtin.append_ #[34, 34] ty #[.slice (Frm.cutAt A 1 c) (n - 1) (c - 1), .slice (some ad) 1 cu]).run Try.prog w = .ok (.slice A' n c') w' ∧ Pk w' lo (.slice A n c) n ls ∧ Secs w' lo A' n (ls.drop 1 ++ [s]) ∧ Below lo w w' := by
  obtain ⟨i0, hi0, hz0, hz1, hz2⟩ := info_parts Frm.info24
  have hadd : ad.add 0 = ad := by unfold Addr.add; split <;> simp_all
  have hl := h.rows.len
  obtain ⟨vs, ho, h1, h2, h3⟩ := h
  have hnews : ∀ j x, ([u] : List Value)[j]? = some x → w.cell? (ad.add j) = some x := fun j x hx => by
    match j, hx with
    | 0, hx =>
      simp at hx
      subst hx
      rw [hadd]
      exact hc
  obtain ⟨gu, hu, hgu, hlu, hsl⟩ := hs
  have hone : ∀ x ∈ ([u] : List Value), x.oneCell' = true := by rw [hu]; simp [Value.oneCell']
  have hn1 : n - 1 + 1 = n := by omega
  rcases ho.2 with ⟨e, _⟩ | ⟨g, cap, cur, e, hg, hh, k1, k2, k3, k4⟩
  · injection e with _ e _
    omega
  · injection e with e1 _ e3
    subst e1 e3
    rw [Nat.mul_one] at k3 k4
    have hcl : ∀ j, j < n → cur.toList[j]? = some (vs.getD j undef) := fun j hj => by
      have : (cur.toList.take n)[j]? = vs[j]? := by rw [k4]
      rw [List.getElem?_take, if_pos hj] at this
      rw [this]
      simp [List.getD_eq_getElem?_getD, h1, hj]
    by_cases hlt : n < c
    · have hcut : Frm.cutAt (some (⟨g, 0, none⟩ : Addr)) 1 c = some ⟨g, 1, none⟩ := by unfold Frm.cutAt; rw [if_neg (by omega), Option.map_some, plain_add]
      have hf := run_firstCells_some (P := Try.prog) w i0.size 1 ad 1 cu [u] (by simp [hz1]) hnews
      have hst := run_storeCells_at Try.prog g (1 + (n - 1)) 35 [u] 0 cur w hh (by simp; omega) hone
      have hroom : n - 1 + 1 ≤ c - 1 := by omega
      have hrun : (Builtin.append_ #[34, 34] ty #[.slice (some ⟨g, 1, none⟩) (n - 1) (c - 1), .slice (some ad) 1 cu]).run Try.prog w =
          .ok (.slice (some ⟨g, 1, none⟩) n (c - 1)) (w.setRow g (cur.toList.take (1 + (n - 1) + 0) ++ [u] ++ cur.toList.drop (1 + (n - 1) + 0 + [u].length)).toArray) := by
        rw [hz1] at hf
        simp [Builtin.append_, run_underlying Try.underlying34, sizeOf, typeInfo, hi0, hz1, Builtin.lenOf, hf, plain_add, hn1]
        have hr2 : n ≤ c - 1 := by omega
        simp [hr2]
        simp at hst
        rw [hst]
        rfl
      rw [show 1 + (n - 1) + 0 = n by omega] at hrun
      have hrow := setRow_heap w g cur (cur.toList.take n ++ [u] ++ cur.toList.drop (n + [u].length)).toArray 35 (0, 0) hh
      have hoth : ∀ k, k ≠ g → (w.setRow g (cur.toList.take n ++ [u] ++ cur.toList.drop (n + [u].length)).toArray).heap[k]? = w.heap[k]? := fun k hk => setRow_other w g k _ hk
      have hszs : (w.setRow g (cur.toList.take n ++ [u] ++ cur.toList.drop (n + [u].length)).toArray).heap.size = w.heap.size := by simp
      have hB : Below lo w (w.setRow g (cur.toList.take n ++ [u] ++ cur.toList.drop (n + [u].length)).toArray) :=
        (Below.refl lo w).grown (row := some g) ⟨rfl, rfl, rfl, by rw [hszs]; exact Nat.le_refl _, fun k _ hk => hoth k (fun e => hk (by rw [e]))⟩ hlo (fun k hk => by injection hk with hk; omega)
      have hsct : ∀ {x : Value} {t : List UInt8}, Sct w lo x t → Sct (w.setRow g (cur.toList.take n ++ [u] ++ cur.toList.drop (n + [u].length)).toArray) lo x t := fun hx => hx.keep fun k cs hkc => (hoth k (by
        rintro rfl
        rw [hkc] at hh
        injection hh with hh
        injection hh with _ ht
        exact absurd ht (by decide))).trans hkc
      refine ⟨_, _, _, by rw [hcut]; exact hrun, ⟨vs, ⟨by omega, .inr ⟨g, c, _, rfl, hg, hrow, k1, k2, ?_, ?_⟩⟩, h1, h2, fun j hj => hsct (h3 j hj)⟩, ⟨by rw [List.length_append, List.length_drop, h2]; simp; omega, fun _ => ⟨g, 1, rfl, by rw [hszs]; exact lt_of_heap hh, hg, fun j hj => ?_⟩⟩, hB⟩
      · simp only [List.size_toArray, List.length_append, List.length_take, List.length_drop, Array.length_toList, List.length_cons, List.length_nil]
        omega
      · rw [Nat.mul_one, List.append_assoc, List.take_left' (by simp; omega)]
        exact k4
      · have hc1 : (w.setRow g (cur.toList.take n ++ [u] ++ cur.toList.drop (n + [u].length)).toArray).cell? ⟨g, 1 + j, none⟩ = (cur.toList.take n ++ [u] ++ cur.toList.drop (n + [u].length))[1 + j]? := by
          rw [cell_at hrow]
          simp
        by_cases hj1 : j < n - 1
        · refine ⟨vs.getD (1 + j) undef, ?_, ?_⟩
          · rw [hc1, List.append_assoc, List.getElem?_append_left (by simp; omega), List.getElem?_take, if_pos (by omega)]
            exact hcl _ (by omega)
          · have e : (ls.drop 1 ++ [s]).getD j [] = ls.getD (1 + j) [] := by
              rw [getD_app_left _ _ _ _ (by simp; omega)]
              simp [List.getD_eq_getElem?_getD, Nat.add_comm]
            rw [e]
            exact hsct (h3 _ (by omega))
        · obtain rfl : j = n - 1 := by omega
          refine ⟨u, ?_, ?_⟩
          · rw [hc1, List.append_assoc, List.getElem?_append_right (by simp; omega)]
            have : 1 + (n - 1) - (cur.toList.take n).length = 0 := by simp; omega
            rw [this]
            rfl
          · have e : (ls.drop 1 ++ [s]).getD (n - 1) [] = s := by
              rw [getD_app_right _ _ _ _ (by simp; omega), show n - 1 - (ls.drop 1).length = 0 by simp; omega]
              rfl
            rw [e]
            exact hsct ⟨gu, hu, hgu, hlu, hsl⟩
    · obtain rfl : n = c := by omega
      have holds : ∀ (b : Addr), Frm.cutAt (some (⟨g, 0, none⟩ : Addr)) 1 n = some b → ∀ j v, (vs.drop 1)[j]? = some v → w.cell? (b.add j) = some v := fun b hb j v hv => by
        have hj : j < n - 1 := by
          have := (List.getElem?_eq_some_iff.1 hv).1
          simp at this
          omega
        unfold Frm.cutAt at hb
        rw [if_neg (by omega), Option.map_some, plain_add] at hb
        injection hb with hb
        subst hb
        rw [plain_add, cell_at hh]
        have := hcl (0 + 1 + j) (by omega)
        rw [Array.getElem?_toList] at this
        rw [this]
        rw [List.getElem?_drop] at hv
        simp [List.getD_eq_getElem?_getD, hv]
      obtain ⟨b, hb⟩ : ∃ b, Frm.cutAt (some (⟨g, 0, none⟩ : Addr)) 1 n = some b := by unfold Frm.cutAt; split <;> exact ⟨_, rfl⟩
      have hrun := run_append_grow (P := Try.prog) w 34 ty 35 i0 (.slice none 0 0) Try.underlying34 hi0 hz0 b (n - 1) (n - 1) (vs.drop 1) (by rw [hz1, List.length_drop, h1]; omega) (holds b hb) ad 1 cu [u] (by simp [hz1]) hnews (by omega) (by omega)
        (growslice_fits (by omega) (by rw [hz2]; omega))
      rw [hn1] at hrun
      have hge := grownCap_ge w n (n - 1) 35
      have hB : Below lo w (w.drew.alloc (.cells ((vs.drop 1).toArray ++ [u].toArray ++ Builtin.zeroCells (Value.slice none 0 0).cells (grownCap w n (n - 1) 35 - n)) 35)) := ((Below.refl lo w).drew).alloc hlo _
      have hBw : Below w.heap.size w (w.drew.alloc (.cells ((vs.drop 1).toArray ++ [u].toArray ++ Builtin.zeroCells (Value.slice none 0 0).cells (grownCap w n (n - 1) 35 - n)) 35)) := ((Below.refl _ w).drew).alloc (Nat.le_refl _) _
      have hnew := heap_alloc_new w.drew (.cells ((vs.drop 1).toArray ++ [u].toArray ++ Builtin.zeroCells (Value.slice none 0 0).cells (grownCap w n (n - 1) 35 - n)) 35)
      have hsct : ∀ {x : Value} {t : List UInt8}, Sct w lo x t → Sct (w.drew.alloc (.cells ((vs.drop 1).toArray ++ [u].toArray ++ Builtin.zeroCells (Value.slice none 0 0).cells (grownCap w n (n - 1) 35 - n)) 35)) lo x t := fun hx => hx.keep fun k cs hkc => (hBw.block k (lt_of_heap hkc)).trans hkc
      refine ⟨_, _, _, by rw [hb]; exact hrun, Pk.below ⟨vs, ho, h1, h2, h3⟩ hBw, ⟨by rw [List.length_append, List.length_drop, h2]; simp; omega, fun _ => ⟨w.heap.size, 0, rfl, by simp, hlo, fun j hj => ?_⟩⟩, hB⟩
      have hc1 := cell_at (g := w.heap.size) hnew (0 + j)
      by_cases hj1 : j < n - 1
      · refine ⟨vs.getD (1 + j) undef, ?_, ?_⟩
        · rw [hc1, ← Array.getElem?_toList, Nat.zero_add]
          simp only [Array.toList_append, List.append_assoc]
          rw [List.getElem?_append_left (by simp; omega), List.getElem?_drop]
          simp [List.getD_eq_getElem?_getD, h1, show 1 + j < n by omega]
        · have e : (ls.drop 1 ++ [s]).getD j [] = ls.getD (1 + j) [] := by
            rw [getD_app_left _ _ _ _ (by simp; omega)]
            simp [List.getD_eq_getElem?_getD, Nat.add_comm]
          rw [e]
          exact hsct (h3 _ (by omega))
      · obtain rfl : j = n - 1 := by omega
        refine ⟨u, ?_, ?_⟩
        · rw [hc1, ← Array.getElem?_toList, Nat.zero_add]
          simp only [Array.toList_append, List.append_assoc]
          rw [List.getElem?_append_right (by simp; omega)]
          simp [h1]
        · have e : (ls.drop 1 ++ [s]).getD (n - 1) [] = s := by
            rw [getD_app_right _ _ _ _ (by simp; omega), show n - 1 - (ls.drop 1).length = 0 by simp; omega]
            rfl
          rw [e]
          exact hsct ⟨gu, hu, hgu, hlu, hsl⟩
end Go.Proofs.Ytgjdgmpjbpnjbaa.Jou
/-
  What end, laid and keep of a half do: the sector of 0, a group's sectors, sectors written and synced. Conditions: the disk is known, the sectors lie apart from it.
-/
namespace Go.Proofs.Ytgjdgmpjbpnjbaa.Jou
open Go.RowKit Codec FrameM Cod JourM
open Disk (Turn Dk Dsk ptr Now)
open Frm (Sct Pk)
set_option maxRecDepth 100000
/-- A slice of sectors of the call's own. -/
def Gave (w : World) (ls : List (List UInt8)) (e : Ending) (w' : World) : Prop :=
  ∃ A c, e = .returned (.slice A ls.length c) ∧ Secs w' w.heap.size A ls.length ls ∧ Below w.heap.size w w' ∧ ls.length ≤ c ∧ c ≤ maxLen
theorem zeros_nul : FrameM.zeros 64 = nul64 := rfl
set_option maxHeartbeats 1000000 in
theorem end_any (w : World) (g gs gm : Nat) (d : Dsk) (gen pos : Nat) (h : Dk w g gs gm d) (h2 : 2 ≤ d.n) (hp : pos ≤ 1000000) : Calls Try.prog 40 #[hv g gen, .int .i64 pos] w (Gave w (endL d.n pos)) := by
  have HB0 := Lib.hid (HB.start gen h)
  have HRM := Lib.hid (fun u hu => room_any u g gs gm d gen hu h2)
  have hn := h.ok.2.1
  have hr1 : room d.n ≤ 65536 := by unfold room; omega
  have hmk : ∀ v : World, (Instr.makeSlice 35 (.int .i64 64) (.int .i64 64)).run Try.prog v = .ok (.slice (some ⟨v.heap.size, 0, none⟩) 64 64) (v.alloc (.cells (cel (FrameM.zeros 64)).toArray 5)) := fun v => Frm.run_make_bytes v 64 (by omega)
  have hi1 : (pos : Int) ≤ 1000000 := by omega
  have hi2 : (room d.n : Int) ≤ 65536 := by omega
  unfold hv at HRM ⊢
  unfold hbox at HB0
  unfold ptr at HRM HB0 ⊢
  clear h h2 hn
  by_cases hlt : pos < room d.n
  · have HE : Hid (endL d.n pos = [nul64]) := Lib.hid (by unfold endL; rw [if_pos hlt])
    rw [HE.out]
    generalize room d.n = R at *
    have hi3 : (pos : Int) < R := by omega
    have hc0 := HB0.out.c0
    have hc1 := HB0.out.c1
    go_enter Try.func40, Try.ntmps40
    go_wp2_with fail
    refine (HRM.out _ HB0.out.dk).mono ?_
    rintro e w1 ⟨rfl, hb⟩
    have HS := Lib.hid (HB0.out.call hb)
    clear hb hc0 hc1
    go_wp2_with fail
    go_ret
    have hlow := HS.out.low
    have hsz := hlow.size
    have hnew := heap_alloc_new w1 (.cells (cel (FrameM.zeros 64)).toArray 5)
    have hs : Sct (w1.alloc (.cells (cel (FrameM.zeros 64)).toArray 5)) w.heap.size (.slice (some ⟨w1.heap.size, 0, none⟩) 64 64) nul64 := ⟨w1.heap.size, rfl, hnew, hsz, rfl⟩
    have hp1 := pk_one (w1.alloc (.cells (cel (FrameM.zeros 64)).toArray 5)) w.heap.size w1.heap.size nul64 hs (by simp; omega)
    rw [World.size_alloc] at hp1
    exact ⟨_, 1, rfl, Secs.of_pk hp1, (hlow.alloc hsz _).alloc (by simp; omega) _, Nat.le_refl _, by unfold maxLen; omega⟩
  · have HE : Hid (endL d.n pos = []) := Lib.hid (by unfold endL; rw [if_neg hlt])
    rw [HE.out]
    generalize room d.n = R at *
    have hi3 : (R : Int) ≤ pos := by omega
    have hc0 := HB0.out.c0
    have hc1 := HB0.out.c1
    go_enter Try.func40, Try.ntmps40
    go_wp2_with fail
    refine (HRM.out _ HB0.out.dk).mono ?_
    rintro e w1 ⟨rfl, hb⟩
    have HS := Lib.hid (HB0.out.call hb)
    clear hb hc0 hc1
    go_wp2_with fail
    go_ret
    exact ⟨none, 0, rfl, Secs.none_, HS.out.low, Nat.le_refl _, Nat.zero_le _⟩
/-- What a loop of writes has done. -/
structure KR (w0 w1 : World) (g gs gm i : Nat) (d : Dsk) (ls : List (List UInt8)) (k : Nat) (dk : Dsk) : Prop where
  disk : Dk w1 g gs gm dk
  turn : Turn [g, gs, gm] w0 w1
  num : dk.n = d.n
  yes : keepB dk (i + k) (ls.drop k) = keepB d i ls
  left : keepD dk (i + k) (ls.drop k) = keepD d i ls
theorem drop_cons (ls : List (List UInt8)) (k : Nat) (h : k < ls.length) : ls.drop k = ls.getD k [] :: ls.drop (k + 1) := by
  rw [List.drop_eq_getElem_cons h]
  simp [List.getD_eq_getElem?_getD, h]
set_option maxHeartbeats 2000000 in
theorem keep_any (w : World) (g gs gm : Nat) (d : Dsk) (gen i n c : Nat) (A : Option Addr) (ls : List (List UInt8)) (h : Dk w g gs gm d) (hr : RowsB w [g, gs, gm] A n ls) (hl : ∀ s ∈ ls, s.length = 64) (hi : i + n ≤ d.n) :
    Calls Try.prog 41 #[hv g gen, .int .i64 i, .slice A n c] w (Now (.int .i64 (err (keepB d i ls))) w g gs gm (keepD d i ls)) := by
  have HB0 := Lib.hid (HB.start gen h)
  have HR0 := Lib.hid (hr.below (Frm.alloc_below w (hbox g gen)))
  have hlen := hr.len
  have hnn := h.ok.2.1
  have HL := Lib.hid hl
  have hi1 : (i : Int) + n ≤ 65536 := by omega
  have HI := Lib.hid hi
  have HLEN := Lib.hid hlen
  unfold hv
  unfold hbox at HB0 HR0
  unfold ptr at HB0 HR0 ⊢
  clear h hr hl hi hlen hnn
  go_enter Try.func41, Try.ntmps41
  go_wp2_with fail
  obtain ⟨W, hW⟩ : ∃ W, w.alloc (.cells #[.pointer (some ⟨g, 0, none⟩), .int .i64 gen] 49) = W := ⟨_, rfl⟩
  rw [hW] at HB0 HR0 ⊢
  have HWT : Hid (Turn [] w W) := Lib.hid (by rw [← hW]; exact (Turn.refl [] w).alloc _)
  clear hW
  go_loopw [12] (fun i' wr => ∃ k : Nat, k ≤ n ∧ i' = .int .i64 k ∧ ∃ dk, KR W wr g gs gm i d ls k dk) (fun i' _ => n - (Go.RowKit.intOf i').toNat)
  case atStart => exact ⟨0, by omega, rfl, d, ⟨HB0.out.dk, Turn.refl _ _, rfl, rfl, rfl⟩⟩
  case round =>
    obtain ⟨k, hk, rfl, dk, hkr⟩ := hrel
    have HK := Lib.hid hkr
    have hbx := HB0.out.disk hkr.turn
    have hc0 : wr.cell? ⟨w.heap.size, 0, none⟩ = some (.pointer (some ⟨g, 0, none⟩)) := cell_at hbx 0
    clear hkr hbx
    by_cases hlt : k < n
    · obtain ⟨b, o, Aj, cj, hat⟩ := (HR0.out.turn HK.out.turn (fun k hk => .inl hk)).at hlt
      have h64 : (ls.getD k []).length = 64 := HL.out _ (by
        have := HLEN.out
        rw [Frm.getD_of (by omega)]
        exact List.getElem_mem _)
      have HX := Lib.hid (drop_cons ls k (by rw [HLEN.out]; exact hlt))
      have hidx := hat.index c
      obtain ⟨_, hcell, hbt, _⟩ := hat
      rw [h64] at hcell hbt
      obtain ⟨bj, oj, rfl, _⟩ := hbt.at_ (by omega)
      have H64 := Lib.hid h64
      have HBT := Lib.hid hbt
      clear h64 hbt
      have hw1 : (i : Int) + k ≤ 65536 := by omega
      have HIK : Hid (i + k < dk.n) := Lib.hid (by have := HI.out; rw [HK.out.num]; omega)
      generalize ls.getD k [] = x at *
      rcases Bool.eq_false_or_eq_true (go dk) with hg | hg
      · have HC := Lib.hid (write_go wr g gs gm dk HK.out.disk hg (i + k) HIK.out bj oj cj x H64.out HBT.out)
        have HG := Lib.hid hg
        clear hg
        unfold ptr at HC
        push_cast at HC
        go_wp2_with fail
        refine HC.out.mono ?_
        rintro e w2 ⟨rfl, hdk, ht⟩
        have HK2 : Hid (KR W w2 g gs gm i d ls (k + 1) (JourM.wr dk (i + k) x)) := Lib.hid ⟨hdk, HK.out.turn.trans ht, by rw [wr_n]; exact HK.out.num,
          by rw [← HK.out.yes, HX.out, keepB_cons, HG.out]; rfl, by rw [← HK.out.left, HX.out, keepD_cons, HG.out]; rfl⟩
        clear hdk ht HC
        go_wp2_with fail
        go_roundw
        case rel => exact ⟨k + 1, by omega, by go_num, _, HK2.out⟩
        case measure => simp [Go.RowKit.intOf]; omega
      · have HC := Lib.hid (write_no wr g gs gm dk HK.out.disk hg (i + k) HIK.out (some ⟨bj, oj, none⟩) cj x)
        have HE : Hid (err (keepB d i ls) = 3) := Lib.hid (by rw [← HK.out.yes, HX.out, keepB_cons, hg]; rfl)
        have HD : Hid (keepD d i ls = JourM.wr dk (i + k) x) := Lib.hid (by rw [← HK.out.left, HX.out, keepD_cons, hg]; rfl)
        rw [HE.out, HD.out]
        clear hg
        unfold ptr at HC
        push_cast at HC
        go_wp2_with fail
        refine HC.out.mono ?_
        rintro e w2 ⟨rfl, hdk, ht⟩
        have HF := Lib.hid (And.intro hdk ht)
        clear hdk ht HC
        go_wp2_with fail
        go_ret
        exact ⟨rfl, HF.out.1, (HWT.out.more (by simp)).trans (HK.out.turn.trans HF.out.2)⟩
    · obtain rfl : k = n := by omega
      have HC := Lib.hid (sync_any wr g gs gm dk HK.out.disk)
      have hdr : ls.drop k = [] := by rw [← HLEN.out]; exact List.drop_length
      have HE : Hid (err (keepB d i ls) = err (go dk)) := Lib.hid (by rw [← HK.out.yes, hdr, keepB_nil])
      have HD : Hid (keepD d i ls = sy dk) := Lib.hid (by rw [← HK.out.left, hdr, keepD_nil])
      clear hdr
      unfold ptr at HC
      generalize err (go dk) = er at *
      go_wp2_with fail
      refine HC.out.mono ?_
      rintro e w2 ⟨rfl, hdk, ht⟩
      have HF := Lib.hid (And.intro hdk ht)
      clear hdk ht HC
      go_wp2_with fail
      go_ret
      rw [HE.out, HD.out]
      exact ⟨rfl, HF.out.1, (HWT.out.more (by simp)).trans (HK.out.turn.trans HF.out.2)⟩
theorem Secs.mono {w : World} {lo lo' n : Nat} {A : Option Addr} {ls : List (List UInt8)} (h : Secs w lo A n ls) (hl : lo' ≤ lo) : Secs w lo' A n ls :=
  ⟨h.len, fun hn => by
    obtain ⟨b, off, e, h1, h2, hc⟩ := h.at_ hn
    refine ⟨b, off, e, h1, by omega, fun j hj => ?_⟩
    obtain ⟨u, k1, g, k2, k3, k4, k5⟩ := hc j hj
    exact ⟨u, k1, g, k2, k3, by omega, k5⟩⟩
def LaidP (w : World) (ls : List (List UInt8)) (e : Ending) (w' : World) : Prop :=
  ∃ A c, e = .returned (.slice A ls.length c) ∧ Pk w' w.heap.size (.slice A ls.length c) ls.length ls ∧ Below w.heap.size w w'
set_option maxHeartbeats 2000000 in
theorem laid_any (w : World) (g gen seq n c : Nat) (A : Option Addr) (b : List UInt8) (h : Byts w w.heap.size A n b) (hn : n ≤ 1048576) (hc : n ≤ c) : Calls Try.prog 39 #[hv g gen, .int .i64 seq, .slice A n c] w (LaidP w (laid gen seq b)) := by
  have hl := h.len
  have HX := Lib.hid h
  have HMK := Lib.hid (fun u hu hB => mark_any u g gen seq w.heap.size n c A b hu hB hn)
  have HPT := Lib.hid (fun u => Frm.put_new (markM gen seq b) u (markM_right gen seq b))
  have HML := Lib.hid (put_length (markM_right gen seq b))
  have HPK := Lib.hid (fun u hu => Frm.pack_any u n c A b hu hn hc)
  have HLD : Hid (laid gen seq b = [put (markM gen seq b)] ++ pack b) := Lib.hid rfl
  have hnd : need b.length ≤ 16384 := by unfold need; omega
  have HND := Lib.hid (pack_length b)
  have hcc : ∀ v : World, v.heap[w.heap.size]? = some (hbox g gen) → v.cell? ⟨w.heap.size, 0, none⟩ = some (.pointer (some ⟨g, 0, none⟩)) ∧ v.cell? ⟨w.heap.size, 1, none⟩ = some (.int .i64 gen) := fun v hv => ⟨cell_at hv 0, cell_at hv 1⟩
  have HCC := Lib.hid hcc
  have HB0 := Lib.hid (And.intro (heap_alloc_new w (hbox g gen)) (Frm.alloc_below w (hbox g gen)))
  unfold hv at HMK ⊢
  unfold hbox at HB0
  unfold ptr at HMK HB0 ⊢
  rw [HLD.out]
  clear h hn hl hcc HLD
  generalize markM gen seq b = M at *
  generalize put M = pm at *
  generalize hpk : pack b = pb at *
  clear hpk
  go_enter Try.func39, Try.ntmps39
  go_wp2_with fail
  have HW : Hid (Below w.heap.size w (w.alloc (.cells #[.pointer (some ⟨g, 0, none⟩), .int .i64 gen] 49))) := Lib.hid HB0.out.2
  refine (HMK.out _ (HX.out.below HW.out) HW.out.size).mono ?_
  rintro e w1 ⟨rfl, hb1⟩
  have HW1 := Lib.hid (HW.out.trans (hb1.mono HW.out.size))
  clear hb1 HMK
  unfold Frm.mkV at *
  go_wp2_with fail
  refine (HPT.out w1).mono ?_
  rintro e w2 ⟨g2, rfl, hg2, hlo2, hb2⟩
  have hz1 := HW1.out.size
  have HW2 := Lib.hid (HW1.out.trans (hb2.mono hz1))
  have HP1 := Lib.hid (pk_one w2 w.heap.size g2 pm ⟨g2, rfl, hg2, by omega, HML.out⟩ (by have := HW2.out.size; omega))
  clear hg2 hlo2 hb2 HPT hz1
  have HW3 := Lib.hid (HW2.out.alloc HW2.out.size (.cells #[.slice (some ⟨g2, 0, none⟩) 64 64] 35))
  go_wp2_with fail
  refine (HPK.out _ ((HX.out.below HW3.out).more HW3.out.size)).mono ?_
  rintro e w4 ⟨A4, k4, c4, rfl, hpk, hb4⟩
  have hk4 : k4 = pb.length := by have := hpk.rows.len; omega
  subst hk4
  have HW4 := Lib.hid (HW3.out.trans (hb4.mono HW3.out.size))
  have HP4 := Lib.hid (HP1.out.below hb4)
  have HS4 := Lib.hid ((Secs.of_pk hpk).mono HW3.out.size)
  have hpl : pb.length ≤ 16384 := by rw [HND.out]; exact hnd
  clear hpk hb4 HPK HP1
  go_wp2_with (at_builtin; (refine wpList_app_pk w4 rfl (.tmp 12) (.tmp 14) rfl w.heap.size (.slice (some ⟨w2.heap.size, 0, none⟩) 1 1) 1 [pm] rfl HP4.out A4 pb.length c4 pb rfl HS4.out (by omega) HW4.out.size ?_); intro A5 c5 w5 hp5 hb5 _; have HP5 := Lib.hid hp5; have HB5 := Lib.hid hb5; clear hp5 hb5)
  go_ret
  have e : (pm :: pb).length = 1 + pb.length := by simp; omega
  refine ⟨A5, c5, ?_, ?_, HW4.out.trans HB5.out⟩
  · rw [e]
    rfl
  · rw [e]
    exact HP5.out
end Go.Proofs.Ytgjdgmpjbpnjbaa.Jou
