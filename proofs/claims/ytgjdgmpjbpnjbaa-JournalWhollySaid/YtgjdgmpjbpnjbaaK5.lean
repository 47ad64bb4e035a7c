/-
  Texts DMem, DSmall, DNew, DWrite, DRead, DSurv, DLaws, DSync, in one file. What each proves, and its conditions, stand at its head below.
-/
import Derived.Test.YtgjdgmpjbpnjbaaK4
import Derived.Test.YtgjdgmpjbpnjbaaRows
import Derived.WalkKit
import Derived.WalkSpells
import Derived.WalkLawsBesides
import Derived.Below
import Derived.OwnWalk
import Derived.Lib.Hide
import Derived.Maps.OwnSet
import Derived.Maps.RangeWalk
import Derived.Deep.MidRow
import Derived.Deep.WholeRow
import Derived.Lib.SlKeysI
import Derived.StillTailTactics
import Derived.Maps.OwnOps
import Derived.Laws.CopyRow
import Derived.Laws.BitsLemmas
import Derived.Deep.DeepCutAuto
/-
  Memory, in the words of this layer: what a call may turn; bytes and sectors in a row; the map of the sectors that wait; a disk. No condition beyond those that each law names.
-/
namespace Go.Proofs.Ytgjdgmpjbpnjbaa.Disk
open Go.RowKit Go.Maps Go.ChangeMaps Go.MapKept
open Go.WideElems (Fit rd rg pl rd_val elemAt)
set_option maxRecDepth 100000
def byt (x : UInt8) : Value := .int .u8 (x.toNat : Int)
def cel (xs : List UInt8) : List Value := xs.map byt
theorem cel_length (xs : List UInt8) : (cel xs).length = xs.length := by simp [cel]
theorem cel_app (xs ys : List UInt8) : cel xs ++ cel ys = cel (xs ++ ys) := by simp [cel]
theorem cel_one (xs : List UInt8) : ∀ u ∈ cel xs, u.oneCell' = true := by
  intro u hu
  obtain ⟨x, _, rfl⟩ := List.mem_map.1 hu
  rfl
theorem cel_get (xs : List UInt8) (j : Nat) (h : j < xs.length) : (cel xs)[j]? = some (byt (xs.getD j 0)) := by simp [cel, h]
theorem cel_all (xs : List UInt8) : (cel xs).toArray.all (·.oneCell') = true := all_oneCell_toArray (cel_one xs)
theorem cel_take (xs : List UInt8) (n : Nat) : (cel xs).take n = cel (xs.take n) := by simp [cel]
theorem cel_drop (xs : List UInt8) (n : Nat) : (cel xs).drop n = cel (xs.drop n) := by simp [cel]
theorem lt_of_heap {w : World} {g : Nat} {o : Obj} (h : w.heap[g]? = some o) : g < w.heap.size := (Array.getElem?_eq_some_iff.1 h).1

/-- Only these blocks turned; what is new is new. -/
structure Turn (S : List Nat) (w w' : World) : Prop where
  os : w'.os = w.os
  tape : w'.tape = w.tape
  output : w'.output = w.output
  size : w.heap.size ≤ w'.heap.size
  block : ∀ k, k < w.heap.size → k ∉ S → w'.heap[k]? = w.heap[k]?
theorem Turn.refl (S : List Nat) (w : World) : Turn S w w := ⟨rfl, rfl, rfl, Nat.le_refl _, fun _ _ _ => rfl⟩
section
variable {S S' : List Nat} {w w1 w2 : World}
theorem Turn.then_ (h : Turn S w w1) (h2 : Turn S' w1 w2) (hS : ∀ k ∈ S', k ∈ S ∨ w.heap.size ≤ k) : Turn S w w2 :=
  ⟨h2.os.trans h.os, h2.tape.trans h.tape, h2.output.trans h.output, Nat.le_trans h.size h2.size, fun k hk hn =>
    (h2.block k (Nat.lt_of_lt_of_le hk h.size) (fun hm => by rcases hS k hm with h | h; exact hn h; omega)).trans (h.block k hk hn)⟩
theorem Turn.trans (h : Turn S w w1) (h2 : Turn S w1 w2) : Turn S w w2 := h.then_ h2 fun _ hk => .inl hk
theorem Turn.more (h : Turn S w w1) (hS : ∀ k ∈ S, k ∈ S') : Turn S' w w1 := ⟨h.os, h.tape, h.output, h.size, fun k hk hn => h.block k hk fun hm => hn (hS k hm)⟩
theorem Turn.grown (h : Turn S w w1) {row : Option Nat} (hg : w1.grownBy w2 row) (hr : ∀ k, row = some k → k ∈ S ∨ w.heap.size ≤ k) : Turn S w w2 :=
  ⟨hg.os.trans h.os, hg.tape.trans h.tape, hg.output.trans h.output, Nat.le_trans h.size hg.size, fun k hk hn =>
    (hg.block k (Nat.lt_of_lt_of_le hk h.size) (fun he => by rcases hr k he.symm with h | h; exact hn h; omega)).trans (h.block k hk hn)⟩
theorem Turn.below (h : Turn S w w1) (hb : Below w1.heap.size w1 w2) : Turn S w w2 :=
  ⟨hb.os.trans h.os, hb.tape.trans h.tape, hb.output.trans h.output, Nat.le_trans h.size hb.size, fun k hk hn => (hb.block k (Nat.lt_of_lt_of_le hk h.size)).trans (h.block k hk hn)⟩
theorem Turn.alloc (h : Turn S w w1) (o : Obj) : Turn S w (w1.alloc o) := h.grown (World.grownBy_alloc w1 o none) (by simp)
theorem Turn.drew (h : Turn S w w1) : Turn S w w1.drew := ⟨h.os, h.tape, h.output, h.size, h.block⟩
theorem Turn.drewN (h : Turn S w w1) (m : Nat) : Turn S w (w1.drewN m) := ⟨h.os, h.tape, h.output, h.size, h.block⟩
theorem Turn.setCell (h : Turn S w w1) {p : Addr} (hp : p.block ∈ S ∨ w.heap.size ≤ p.block) (u : Value) : Turn S w (w1.setCell p u) :=
  ⟨h.os, h.tape, h.output, by simp [World.setCell]; exact h.size, fun k hk hn => (Below.heap_setCell w1 p u k (by rintro rfl; rcases hp with h | h; exact hn h; omega)).trans (h.block k hk hn)⟩
theorem heap_setCells {b k : Nat} (hk : k ≠ b) : ∀ (vs : List Value) (o : Nat) (w : World), (w.setCells b o vs).heap[k]? = w.heap[k]?
  | [], _, _ => rfl
  | v :: r, o, w => (heap_setCells hk r (o + 1) (w.setCell ⟨b, o, none⟩ v)).trans (Below.heap_setCell w _ v k hk)
theorem size_setCells {b : Nat} : ∀ (vs : List Value) (o : Nat) (w : World), (w.setCells b o vs).heap.size = w.heap.size
  | [], _, _ => rfl
  | v :: r, o, w => (size_setCells r (o + 1) (w.setCell ⟨b, o, none⟩ v)).trans (by simp [World.setCell])
theorem os_setCells {b : Nat} : ∀ (vs : List Value) (o : Nat) (w : World), (w.setCells b o vs).os = w.os ∧ (w.setCells b o vs).tape = w.tape ∧ (w.setCells b o vs).output = w.output
  | [], _, _ => ⟨rfl, rfl, rfl⟩
  | v :: r, o, w => os_setCells r (o + 1) (w.setCell ⟨b, o, none⟩ v)
theorem Turn.setCells (h : Turn S w w1) {b : Nat} (hb : b ∈ S ∨ w.heap.size ≤ b) (o : Nat) (vs : List Value) : Turn S w (w1.setCells b o vs) := by
  obtain ⟨e1, e2, e3⟩ := os_setCells (b := b) vs o w1
  exact ⟨e1.trans h.os, e2.trans h.tape, e3.trans h.output, by rw [size_setCells]; exact h.size,
    fun k hk hn => (heap_setCells (by rintro rfl; rcases hb with h | h; exact hn h; omega) vs o w1).trans (h.block k hk hn)⟩
theorem Turn.low (h : Turn S w w1) {base : Nat} (hS : ∀ k ∈ S, base ≤ k) (hb : base ≤ w.heap.size) : Below base w w1 :=
  ⟨h.os, h.tape, h.output, h.size, fun k hk => h.block k (by omega) (fun hm => by have := hS k hm; omega)⟩
theorem Turn.ofBelow (h : Below w.heap.size w w1) : Turn S w w1 := (Turn.refl S w).below h
end

theorem rangeAt_keep {w w' : World} {b o : Nat} {cs : List Value} (h : w.rangeAt b o cs) (hb : w'.heap[b]? = w.heap[b]?) : w'.rangeAt b o cs := fun j v hv => (World.cell?_of_block (w := w) hb).trans (h j v hv)
theorem frozen_keep {w w' : World} {p : Addr} (hb : w'.heap[p.block]? = w.heap[p.block]?) : w'.frozen? p = w.frozen? p := by simp [World.frozen?, hb]
theorem there_keep {w w' : World} {b o n : Nat} (h : w.there b o n) (hb : w'.heap[b]? = w.heap[b]?) : w'.there b o n := fun j hj =>
  ⟨by rw [World.cell?_of_block (w := w) hb]; exact (h j hj).1, by rw [frozen_keep (w := w) hb]; exact (h j hj).2⟩
theorem there_part {w : World} {b o n o' n' : Nat} (h : w.there b o n) (h1 : o ≤ o') (h2 : o' + n' ≤ o + n) : w.there b o' n' := fun j hj => by
  have := h (o' - o + j) (by omega)
  rwa [show o + (o' - o + j) = o' + j by omega] at this
theorem there_block {w : World} {b : Nat} {C : Array Value} {t : TypeId} (hb : w.heap[b]? = some (.cells C t (0, 0))) : w.there b 0 C.size := fun j hj => by
  simp [World.cell?, World.frozen?, hb, hj]

/-- Block g, known whole: its cells, its marks. -/
theorem cell_at {w : World} {g : Nat} {cs : Array Value} {T : TypeId} (h : w.heap[g]? = some (.cells cs T (0, 0))) (i : Nat) : w.cell? ⟨g, i, none⟩ = cs[i]? := by simp [World.cell?, h]
theorem free_at {w : World} {g : Nat} {cs : Array Value} {T : TypeId} (h : w.heap[g]? = some (.cells cs T (0, 0))) (i : Nat) : w.frozen? ⟨g, i, none⟩ = false := by simp [World.frozen?, h]
theorem set_at {w : World} {g : Nat} {cs : Array Value} {T : TypeId} (h : w.heap[g]? = some (.cells cs T (0, 0))) (i : Nat) (u : Value) :
    (w.setCell ⟨g, i, none⟩ u).heap[g]? = some (.cells (cs.setIfInBounds i u) T (0, 0)) := by simp [World.setCell, Array.getElem?_modify, h]

/-- A sector as a value; how the map's elements read: as themselves. -/
def secV (s : List UInt8) : Value := .agg (cel s).toArray
def R0 : Value → Option (DataW Value × List MemPlace) := fun v => some (.held v, [])
def ky (i : Nat) : Lit := .int .i64 i
/-- The datum tells, of the sectors below n, just those that wait. -/
def Told (D : DataW Value) (n : Nat) (f : Nat → Option (List UInt8)) : Prop :=
  (∀ kl, Maps.has D kl = true → ∃ i : Nat, i < n ∧ kl = ky i) ∧
  ∀ i : Nat, i < n → (f i = none → Maps.has D (ky i) = false) ∧ (∀ s, f i = some s → ∀ z, D.atKey (ky i) z = .held (secV s))
theorem ky_inj {i j : Nat} (h : ky i = ky j) : i = j := by
  have h1 : ((i : Nat) : Int) = (j : Nat) := by simpa [ky] using h
  omega
theorem Told.empty (n : Nat) : Told (.map []) n fun _ => none :=
  ⟨fun kl h => by simp [Maps.has] at h, fun i _ => ⟨fun _ => by simp [Maps.has], fun s h => by cases h⟩⟩
theorem Told.has {D : DataW Value} {n : Nat} {f : Nat → Option (List UInt8)} (h : Told D n f) {i : Nat} (hi : i < n) : Maps.has D (ky i) = (f i).isSome := by
  cases hf : f i with
  | none => exact (h.2 i hi).1 hf
  | some s => exact Maps.has_true_of_atKey ((h.2 i hi).2 s hf)
theorem isKey_ky (i : Nat) : WideAt.IsKeyLit (ky i) := by first | exact trivial | simp [ky, WideAt.IsKeyLit]
theorem Told.put {D : DataW Value} {n : Nat} {f : Nat → Option (List UInt8)} (h : Told D n f) (hD : Maps.IsMap D) {i : Nat} (hi : i < n) (s : List UInt8) :
    Told (D.put (ky i) (.held (secV s))) n (upd f i (some s)) := by
  refine ⟨fun kl hk => ?_, fun j hj => ?_⟩
  · by_cases he : kl = ky i
    · exact ⟨i, hi, he⟩
    · rw [Maps.has_put_other he] at hk
      exact h.1 kl hk
  · by_cases he : j = i
    · subst he
      rw [upd_same]
      refine ⟨fun h => (by cases h), fun t ht z => ?_⟩
      injection ht with ht
      subst ht
      exact Maps.atKey_put_same hD (isKey_ky j) _ z
    · rw [upd_other f _ he, Maps.has_put_other (fun e => he (ky_inj e))]
      exact ⟨(h.2 j hj).1, fun t ht z => by rw [Maps.atKey_put_other (fun e => he (ky_inj e))]; exact (h.2 j hj).2 t ht z⟩
/-- Every key is an int. -/
def Ints (D : DataW Value) : Prop := ∀ es, D = .map es → ∀ p ∈ es, ∃ x, p.1 = Lit.int .i64 x
theorem ints_of {w : World} {gm nn : Nat} {D : DataW Value} (h : w.ownsMap Try.prog 3 R0 gm nn D) : Ints D := by
  obtain ⟨es, hD, hko⟩ := h.keysOf
  intro es' he p hp
  rw [hD] at he
  injection he with he
  subst he
  obtain ⟨v, hv⟩ := hko p hp
  obtain ⟨x, _, hx, _⟩ := Maps.keyOf_i64 Try.underlying3 hv
  exact ⟨x, hx⟩
theorem Told.keys {D : DataW Value} {n : Nat} {f : Nat → Option (List UInt8)} (h : Told D n f) (hD : Maps.Tidy D) (hI : Ints D) : ((waitsOf n f).map (fun i : Nat => (i : Int))).Perm (intKeys D) := by
  obtain ⟨es, rfl, hp⟩ := hD
  refine perm_intKeys hp (hI es rfl) ?_ fun x => ?_
  · refine List.pairwise_map.2 ((waitsOf_nodup n f).imp fun {a b} hne e => hne ?_)
    omega
  · constructor
    · intro hx
      obtain ⟨i, hi, rfl⟩ := List.mem_map.1 hx
      obtain ⟨h1, h2⟩ := waitsOf_mem.1 hi
      exact (h.has h1).trans h2
    · intro hx
      obtain ⟨i, hi, he⟩ := h.1 _ hx
      have hs := (h.has hi).symm.trans (he ▸ hx)
      have he : x = (i : Int) := by simpa [ky] using he
      exact List.mem_map.2 ⟨i, waitsOf_mem.2 ⟨hi, hs⟩, he.symm⟩
theorem length_intKeys {H : Type} {D : DataW H} (hD : Maps.IsMap D) : (intKeys D).length = Maps.size D := by
  obtain ⟨es, rfl⟩ := hD
  simp [intKeys, Maps.size]
theorem Told.size {D : DataW Value} {n : Nat} {f : Nat → Option (List UInt8)} (h : Told D n f) (hD : Maps.Tidy D) (hI : Ints D) : Maps.size D ≤ n := by
  have h1 := (h.keys hD hI).length_eq
  rw [List.length_map, length_intKeys hD.isMap] at h1
  have := waitsOf_length n f
  omega
theorem Told.sorted {D : DataW Value} {n : Nat} {f : Nat → Option (List UInt8)} (h : Told D n f) (hD : Maps.Tidy D) (hI : Ints D) {ss : List Int} (hs : ss.Perm (intKeys D)) :
    ss.mergeSort (fun x y => decide (x ≤ y)) = (waitsOf n f).map fun i : Nat => (i : Int) := by
  have tr : ∀ a b c : Int, leI a b = true → leI b c = true → leI a c = true := fun a b c h1 h2 => by simp only [leI, decide_eq_true_eq] at *; omega
  have tot : ∀ a b : Int, (leI a b || leI b a) = true := fun a b => by simp only [leI, Bool.or_eq_true, decide_eq_true_eq]; omega
  refine List.Perm.eq_of_pairwise (le := fun a b => leI a b = true) (fun a b _ _ h1 h2 => ?_) (List.pairwise_mergeSort tr tot ss) ?_ (((List.mergeSort_perm ss leI).trans hs).trans (h.keys hD hI).symm)
  · simp only [leI, decide_eq_true_eq] at h1 h2
    omega
  · refine List.pairwise_map.2 ?_
    refine (List.Pairwise.filter _ (List.pairwise_lt_range (n := n))).imp fun {a b} hab => ?_
    simp only [leI, decide_eq_true_eq]
    omega

/-- Block gm is the map of the sectors that wait. -/
def Mp (w : World) (gm n : Nat) (f : Nat → Option (List UInt8)) : Prop := ∃ nn D, w.ownsMap Try.prog 3 R0 gm nn D ∧ nn ≤ n ∧ Told D n f
theorem Mp.keep {w w' : World} {gm n : Nat} {f : Nat → Option (List UInt8)} (h : Mp w gm n f) (hb : w'.heap[gm]? = w.heap[gm]?) : Mp w' gm n f := by
  obtain ⟨nn, D, ⟨es, c, h1, h2⟩, hn, hT⟩ := h
  exact ⟨nn, D, ⟨es, c, hb.trans h1, h2⟩, hn, hT⟩
theorem key3 : Maps.Keyed Try.prog 3 := Maps.int_keyed Try.underlying3
/-- The bound is the map's own size. -/
theorem ownsMap_fit {w : World} {gm nn : Nat} {D : DataW Value} (h : w.ownsMap Try.prog 3 R0 gm nn D) : w.ownsMap Try.prog 3 R0 gm (Maps.size D) D := by
  obtain ⟨es, c, h1, h2, h3, h4⟩ := h
  refine ⟨es, c, h1, h2, ?_, h4⟩
  rw [h4]
  simp [Maps.size, length_sorted]
theorem Mp.made {w : World} {gm n : Nat} {f : Nat → Option (List UInt8)} {nn : Nat} {D : DataW Value} (h : w.ownsMap Try.prog 3 R0 gm nn D) (hT : Told D n f) : Mp w gm n f :=
  ⟨_, D, ownsMap_fit h, hT.size (h.tidy key3) (ints_of h), hT⟩
theorem Mp.lt {w : World} {gm n : Nat} {f : Nat → Option (List UInt8)} (h : Mp w gm n f) : gm < w.heap.size := by
  obtain ⟨nn, D, h, _⟩ := h
  exact h.lt
theorem Mp.isMap {w : World} {gm n : Nat} {f : Nat → Option (List UInt8)} (h : Mp w gm n f) {k : Nat} {cs : Array Value} {T : TypeId} {fr : Nat × Nat} (hk : w.heap[k]? = some (.cells cs T fr)) : k ≠ gm := by
  obtain ⟨nn, D, ⟨es, c, h1, _⟩, _⟩ := h
  rintro rfl
  rw [h1] at hk
  cases hk

/-- Block gs holds n sectors. -/
def Sf (w : World) (gs n : Nat) (safe : Nat → List UInt8) : Prop := gs < w.heap.size ∧ w.there gs 0 (n * 64) ∧ ∀ i, i < n → w.rangeAt gs (i * 64) (cel (safe i))
theorem Sf.keep {w w' : World} {gs n : Nat} {safe : Nat → List UInt8} (h : Sf w gs n safe) (hb : w'.heap[gs]? = w.heap[gs]?) (hs : w.heap.size ≤ w'.heap.size) : Sf w' gs n safe :=
  ⟨Nat.lt_of_lt_of_le h.1 hs, there_keep h.2.1 hb, fun i hi => rangeAt_keep (h.2.2 i hi) hb⟩
theorem Sf.at_ {w : World} {gs n : Nat} {safe : Nat → List UInt8} (h : Sf w gs n safe) {i : Nat} (hi : i < n) : w.there gs (i * 64) 64 := there_part h.2.1 (by omega) (by omega)
theorem Sf.set {w : World} {gs n : Nat} {safe : Nat → List UInt8} (h : Sf w gs n safe) (hl : ∀ i, i < n → (safe i).length = 64) {i : Nat} (hi : i < n) {s : List UInt8} (hs : s.length = 64) :
    Sf (w.setCells gs (i * 64) (cel s)) gs n (upd safe i s) := by
  refine ⟨by rw [size_setCells]; exact h.1, World.there_setCells h.2.1 _ _ _, fun j hj => ?_⟩
  by_cases he : j = i
  · subst he
    rw [upd_same]
    exact World.rangeAt_setCells_same w gs _ _ (by rw [cel_length, hs]; exact h.at_ hi)
  · rw [upd_other _ _ he]
    refine World.rangeAt_setCells_apart (h.2.2 j hj) _ _ _ (.inr ?_)
    rw [cel_length, cel_length, hs, hl j hj]
    omega
theorem Sf.same {w : World} {gs n : Nat} {safe safe' : Nat → List UInt8} (h : Sf w gs n safe) (he : ∀ i, i < n → safe' i = safe i) : Sf w gs n safe' :=
  ⟨h.1, h.2.1, fun i hi => by rw [he i hi]; exact h.2.2 i hi⟩

/-- The six fields. -/
def fields (gs gm : Nat) (d : Dsk) (z : Int) : Array Value :=
  #[.slice (some ⟨gs, 0, none⟩) d.n d.n, .map (some gm), .bool d.off, .bool d.stops, .int .i64 d.left, .int .i64 z]
/-- A disk. -/
structure Dk (w : World) (g gs gm : Nat) (d : Dsk) : Prop where
  ok : d.ok
  ne : g ≠ gs
  hd : ∃ z, w.heap[g]? = some (.cells (fields gs gm d z) 57 (0, 0))
  sf : Sf w gs d.n d.safe
  mp : Mp w gm d.n d.waits
section
variable {w w' : World} {g gs gm : Nat} {d : Dsk}
theorem Dk.keep (h : Dk w g gs gm d) (h1 : w'.heap[g]? = w.heap[g]?) (h2 : w'.heap[gs]? = w.heap[gs]?) (h3 : w'.heap[gm]? = w.heap[gm]?) (hs : w.heap.size ≤ w'.heap.size) : Dk w' g gs gm d :=
  ⟨h.ok, h.ne, by obtain ⟨z, hz⟩ := h.hd; exact ⟨z, h1.trans hz⟩, h.sf.keep h2 hs, h.mp.keep h3⟩
theorem Dk.lt (h : Dk w g gs gm d) : g < w.heap.size := by obtain ⟨z, hz⟩ := h.hd; exact lt_of_heap hz
theorem Dk.ltm (h : Dk w g gs gm d) : gm < w.heap.size := h.mp.lt
theorem Dk.nem (h : Dk w g gs gm d) : g ≠ gm := by obtain ⟨z, hz⟩ := h.hd; exact h.mp.isMap hz
theorem Dk.nes (h : Dk w g gs gm d) : gs ≠ gm := by
  have h0 := (h.sf.2.1 0 (by have := h.ok.1; omega)).1
  obtain ⟨nn, D, ⟨es, c, h1, _⟩, _⟩ := h.mp
  rintro rfl
  simp [World.cell?, h1] at h0
theorem Dk.turn {S : List Nat} (h : Dk w g gs gm d) (ht : Turn S w w') (h1 : g ∉ S) (h2 : gs ∉ S) (h3 : gm ∉ S) : Dk w' g gs gm d :=
  h.keep (ht.block g h.lt h1) (ht.block gs h.sf.1 h2) (ht.block gm h.ltm h3) ht.size
theorem Dk.alloc (h : Dk w g gs gm d) (o : Obj) : Dk (w.alloc o) g gs gm d := h.turn ((Turn.refl [] w).alloc o) (by simp) (by simp) (by simp)
theorem Dk.drewN (h : Dk w g gs gm d) (m : Nat) : Dk (w.drewN m) g gs gm d := h.turn ((Turn.refl [] w).drewN m) (by simp) (by simp) (by simp)
end
end Go.Proofs.Ytgjdgmpjbpnjbaa.Disk
/-
  What the program's New, made, refuses, deed, Sectors, Down, Done and Stop do. Condition: the disk is known.
-/
namespace Go.Proofs.Ytgjdgmpjbpnjbaa.Disk
open Go.RowKit Go.Maps
set_option maxRecDepth 100000
def Ends (v : Value) (w : World) (e : Ending) (w' : World) : Prop := e = .returned v ∧ w = w'
def ptr (g : Nat) : Value := .pointer (some ⟨g, 0, none⟩)
/-- The pointer is nil, or a disk of the program's that New did not make. -/
def Nobody (w : World) (p : Value) : Prop := p = .pointer none ∨ ∃ g, p = ptr g ∧ w.heap[g]? = some (.cells #[.slice none 0 0, .map none, .bool false, .bool false, .int .i64 0, .int .i64 0] 57 (0, 0))
/-- A disk's six cells, as the walk asks them. -/
def Six (w : World) (g gs gm n : Nat) (off stops : Bool) (left z : Int) : Prop :=
  w.heap[g]? = some (.cells #[.slice (some ⟨gs, 0, none⟩) n n, .map (some gm), .bool off, .bool stops, .int .i64 left, .int .i64 z] 57 (0, 0))
section
variable {w : World} {g gs gm n : Nat} {off stops : Bool} {left z : Int}
theorem Dk.six {d : Dsk} (h : Dk w g gs gm d) : ∃ z, Six w g gs gm d.n d.off d.stops d.left z := h.hd
theorem Six.c0 (h : Six w g gs gm n off stops left z) : w.cell? ⟨g, 0, none⟩ = some (.slice (some ⟨gs, 0, none⟩) n n) := cell_at h 0
theorem Six.c1 (h : Six w g gs gm n off stops left z) : w.cell? ⟨g, 1, none⟩ = some (.map (some gm)) := cell_at h 1
theorem Six.c2 (h : Six w g gs gm n off stops left z) : w.cell? ⟨g, 2, none⟩ = some (.bool off) := cell_at h 2
theorem Six.c3 (h : Six w g gs gm n off stops left z) : w.cell? ⟨g, 3, none⟩ = some (.bool stops) := cell_at h 3
theorem Six.c4 (h : Six w g gs gm n off stops left z) : w.cell? ⟨g, 4, none⟩ = some (.int .i64 left) := cell_at h 4
theorem Six.c5 (h : Six w g gs gm n off stops left z) : w.cell? ⟨g, 5, none⟩ = some (.int .i64 z) := cell_at h 5
theorem Six.f (h : Six w g gs gm n off stops left z) (i : Nat) : w.frozen? ⟨g, i, none⟩ = false := free_at h i
theorem Six.set2 (h : Six w g gs gm n off stops left z) (b : Bool) : Six (w.setCell ⟨g, 2, none⟩ (.bool b)) g gs gm n b stops left z := set_at h 2 _
theorem Six.set3 (h : Six w g gs gm n off stops left z) (b : Bool) : Six (w.setCell ⟨g, 3, none⟩ (.bool b)) g gs gm n off b left z := set_at h 3 _
theorem Six.set4 (h : Six w g gs gm n off stops left z) (k : Int) : Six (w.setCell ⟨g, 4, none⟩ (.int .i64 k)) g gs gm n off stops k z := set_at h 4 _
theorem Six.set5 (h : Six w g gs gm n off stops left z) (k : Int) : Six (w.setCell ⟨g, 5, none⟩ (.int .i64 k)) g gs gm n off stops left k := set_at h 5 _
/-- Another head, the rest as it was. -/
theorem Dk.head {w' : World} {d d' : Dsk} (h : Dk w g gs gm d) (hs : Six w' g gs gm d'.n d'.off d'.stops d'.left z) (ht : Turn [g] w w') (hok : d'.ok) (hn : d'.n = d.n) (h1 : d'.safe = d.safe) (h2 : d'.waits = d.waits) : Dk w' g gs gm d' :=
  ⟨hok, h.ne, ⟨z, hs⟩, by rw [hn, h1]; exact h.sf.keep (ht.block gs h.sf.1 (by simp; exact fun e => h.ne e.symm)) ht.size, by rw [hn, h2]; exact h.mp.keep (ht.block gm h.ltm (by simp; exact fun e => h.nem e.symm))⟩
end
theorem made_disk (w : World) (g gs gm : Nat) (d : Dsk) (h : Dk w g gs gm d) : Calls Try.prog 32 #[ptr g] w (Ends (.bool true) w) := by
  obtain ⟨z, hz⟩ := h.six
  have c0 := hz.c0
  clear hz h
  unfold ptr
  go_enter Try.func32, Try.ntmps32
  go_wp2
  go_ret
  exact ⟨rfl, rfl⟩
theorem made_none (w : World) (p : Value) (h : Nobody w p) : Calls Try.prog 32 #[p] w (Ends (.bool false) w) := by
  rcases h with rfl | ⟨g, rfl, hz⟩
  · go_enter Try.func32, Try.ntmps32
    go_wp2
    go_ret
    exact ⟨rfl, rfl⟩
  · have c0 := cell_at hz 0
    simp only [List.getElem?_toArray, List.getElem?_cons_zero] at c0
    clear hz
    unfold ptr
    go_enter Try.func32, Try.ntmps32
    go_wp2
    go_ret
    exact ⟨rfl, rfl⟩
theorem sectors_disk (w : World) (g gs gm : Nat) (d : Dsk) (h : Dk w g gs gm d) : Calls Try.prog 23 #[ptr g] w (Ends (.int .i64 d.n) w) := by
  obtain ⟨z, hz⟩ := h.six
  have c0 := hz.c0
  clear hz h
  unfold ptr
  go_enter Try.func23, Try.ntmps23
  go_wp2
  go_ret
  exact ⟨rfl, rfl⟩
theorem sectors_none (w : World) (p : Value) (h : Nobody w p) : Calls Try.prog 23 #[p] w (Ends (.int .i64 0) w) := by
  rcases h with rfl | ⟨g, rfl, hz⟩
  · go_enter Try.func23, Try.ntmps23
    go_wp2
    go_ret
    exact ⟨rfl, rfl⟩
  · have c0 := cell_at hz 0
    simp only [List.getElem?_toArray, List.getElem?_cons_zero] at c0
    clear hz
    unfold ptr
    go_enter Try.func23, Try.ntmps23
    go_wp2
    go_ret
    exact ⟨rfl, rfl⟩
theorem down_disk (w : World) (g gs gm : Nat) (d : Dsk) (h : Dk w g gs gm d) : Calls Try.prog 15 #[ptr g] w (Ends (.bool d.off) w) := by
  have HM := Lib.hid (made_disk w g gs gm d h)
  obtain ⟨z, hz⟩ := h.six
  have c2 := hz.c2
  clear hz h
  unfold ptr at HM ⊢
  generalize d.off = o at c2 ⊢
  go_enter Try.func15, Try.ntmps15
  go_wp2_with fail
  refine HM.out.mono ?_
  rintro e w1 ⟨rfl, rfl⟩
  go_wp2
  go_ret
  exact ⟨rfl, rfl⟩
theorem down_none (w : World) (p : Value) (h : Nobody w p) : Calls Try.prog 15 #[p] w (Ends (.bool true) w) := by
  have HM := Lib.hid (made_none w p h)
  clear h
  go_enter Try.func15, Try.ntmps15
  go_wp2_with fail
  refine HM.out.mono ?_
  rintro e w1 ⟨rfl, rfl⟩
  go_wp2
  go_ret
  exact ⟨rfl, rfl⟩
theorem stop_none (w : World) (p : Value) (k : Int) (h : Nobody w p) : Calls Try.prog 13 #[p, .int .i64 k] w (Ends (.tuple #[]) w) := by
  have HM := Lib.hid (made_none w p h)
  clear h
  go_enter Try.func13, Try.ntmps13
  go_wp2_with fail
  refine HM.out.mono ?_
  rintro e w1 ⟨rfl, rfl⟩
  go_wp2
  go_end0
  exact ⟨rfl, rfl⟩
/-- The disk is another one now; nothing else turned. -/
def Now (v : Value) (w : World) (g gs gm : Nat) (d : Dsk) (e : Ending) (w' : World) : Prop := e = .returned v ∧ Dk w' g gs gm d ∧ Turn [g, gs, gm] w w'
theorem stop_disk (w : World) (g gs gm : Nat) (d : Dsk) (k : Int) (h : Dk w g gs gm d) (k1 : -9223372036854775808 ≤ k) (k2 : k ≤ 9223372036854775807) :
    Calls Try.prog 13 #[ptr g, .int .i64 k] w (Now (.tuple #[]) w g gs gm (d.stop k)) := by
  have HM := Lib.hid (made_disk w g gs gm d h)
  obtain ⟨z, hz⟩ := h.six
  have f2 := hz.f 2
  have f3 := hz.f 3
  have f4 := hz.f 4
  have c2 := hz.c2
  have c3 := hz.c3
  have c4 := hz.c4
  have HD := Lib.hid h
  have HZ := Lib.hid hz
  clear hz h
  unfold ptr at HM ⊢
  have Hgo : ∀ w', Six w' g gs gm d.n (d.off || decide (k < 1)) true k z → Turn [g] w w' → Now (.tuple #[]) w g gs gm (d.stop k) (.returned (.tuple #[])) w' := fun w' h6 ht =>
    ⟨rfl, HD.out.head h6 ht (Dsk.stop_ok HD.out.ok k1 k2) rfl rfl rfl, ht.more (by simp)⟩
  have HG := Lib.hid Hgo
  clear Hgo
  generalize hoff : d.off = o at HG HZ c2
  generalize d.stops = s at HZ c3
  generalize d.left = l at HZ c4
  by_cases hk : k < 1
  · have hk2 : decide (k < 1) = true := by simpa using hk
    rw [hk2, Bool.or_true] at HG
    go_enter Try.func13, Try.ntmps13
    go_wp2_with fail
    refine HM.out.mono ?_
    rintro e w1 ⟨rfl, rfl⟩
    go_wp2
    go_end0
    exact HG.out _ (((HZ.out.set3 true).set4 k).set2 true) ((((Turn.refl _ _).setCell (by simp) _).setCell (by simp) _).setCell (by simp) _)
  · have hk2 : decide (k < 1) = false := by simpa using hk
    rw [hk2, Bool.or_false] at HG
    go_enter Try.func13, Try.ntmps13
    go_wp2_with fail
    refine HM.out.mono ?_
    rintro e w1 ⟨rfl, rfl⟩
    go_wp2
    go_end0
    exact HG.out _ ((HZ.out.set3 true).set4 k) (((Turn.refl _ _).setCell (by simp) _).setCell (by simp) _)
end Go.Proofs.Ytgjdgmpjbpnjbaa.Disk
/-
  What the program's deed, refuses and New do. Condition: the disk is known; New: of 1 to 65536 sectors.
-/
namespace Go.Proofs.Ytgjdgmpjbpnjbaa.Disk
open Go.RowKit Go.Maps
set_option maxRecDepth 100000
theorem deed_fin {w w' : World} {g gs gm n : Nat} {sf : Nat → List UInt8} {wt : Nat → Option (List UInt8)} {s b s' : Bool} {l l' z : Int} (h : Dk w g gs gm ⟨n, sf, wt, false, s, l⟩)
    (hd : Dsk.deed ⟨n, sf, wt, false, s, l⟩ = ⟨n, sf, wt, b, s', l'⟩) (h6 : Six w' g gs gm n b s' l' z) (ht : Turn [g] w w') (v : Value) : Now v w g gs gm ⟨n, sf, wt, b, s', l'⟩ (.returned v) w' :=
  ⟨rfl, h.head (d' := ⟨n, sf, wt, b, s', l'⟩) h6 ht (hd ▸ Dsk.deed_ok h.ok rfl) rfl rfl rfl, ht.more (by simp)⟩
set_option maxHeartbeats 400000 in
theorem deed_disk (w : World) (g gs gm : Nat) (d : Dsk) (h : Dk w g gs gm d) (ho : d.off = false) : Calls Try.prog 69 #[ptr g] w (Now (.bool d.done) w g gs gm d.deed) := by
  obtain ⟨n, sf, wt, off, s, l⟩ := d
  obtain rfl : off = false := ho
  obtain ⟨z, hz⟩ := h.six
  obtain ⟨l1, l2, l3⟩ := h.ok.2.2.2.2
  have l2 : l ≤ 9223372036854775807 := l2
  have l3 : s = true → 0 ≤ l := fun e => l3 e rfl
  have HD := Lib.hid h
  have HZ := Lib.hid hz
  have f2 := hz.f 2
  have f4 := hz.f 4
  have f5 := hz.f 5
  have c2 := hz.c2
  have c3 := hz.c3
  have c4 := hz.c4
  have c5 := hz.c5
  clear hz h l1
  unfold ptr
  cases s
  · have hd : Dsk.deed ⟨n, sf, wt, false, false, l⟩ = ⟨n, sf, wt, false, false, l⟩ := rfl
    have hn : Dsk.done ⟨n, sf, wt, false, false, l⟩ = true := rfl
    rw [hd, hn]
    clear hn l3
    have Hd := Lib.hid hd
    clear hd
    go_enter Try.func69, Try.ntmps69
    go_wp2
    go_ret
    exact deed_fin HD.out Hd.out (HZ.out.set5 _) ((Turn.refl _ _).setCell (by simp) _) _
  · by_cases hl0 : l = 0
    · subst hl0
      have hd : Dsk.deed ⟨n, sf, wt, false, true, 0⟩ = ⟨n, sf, wt, true, true, 0⟩ := rfl
      have hn : Dsk.done ⟨n, sf, wt, false, true, 0⟩ = false := rfl
      rw [hd, hn]
      clear hn l3 l2
      have Hd := Lib.hid hd
      clear hd
      go_enter Try.func69, Try.ntmps69
      go_wp2
      go_ret
      exact deed_fin HD.out Hd.out (HZ.out.set2 true) ((Turn.refl _ _).setCell (by simp) _) _
    · have hd : Dsk.deed ⟨n, sf, wt, false, true, l⟩ = ⟨n, sf, wt, false, true, l - 1⟩ := by simp [Dsk.deed, hl0]
      have hn : Dsk.done ⟨n, sf, wt, false, true, l⟩ = true := by simp [Dsk.done, hl0]
      rw [hd, hn]
      have Hd := Lib.hid hd
      have l4 : 0 < l := by have := l3 rfl; omega
      clear hd hn l3
      go_enter Try.func69, Try.ntmps69
      go_wp2
      go_ret
      exact deed_fin HD.out Hd.out ((HZ.out.set4 _).set5 _) (((Turn.refl _ _).setCell (by simp) _).setCell (by simp) _) _
/-- Why a sector can't be had. -/
def Dsk.why (d : Dsk) (i : Int) : Int := if d.off then 3 else if i < 0 ∨ (d.n : Int) ≤ i then 1 else 0
theorem refuses_none (w : World) (p : Value) (i : Int) (h : Nobody w p) : Calls Try.prog 64 #[p, .int .i64 i] w (Ends (.int .i64 1) w) := by
  have HM := Lib.hid (made_none w p h)
  clear h
  go_enter Try.func64, Try.ntmps64
  go_wp2_with fail
  refine HM.out.mono ?_
  rintro e w1 ⟨rfl, rfl⟩
  go_wp2
  go_ret
  exact ⟨rfl, rfl⟩
set_option maxHeartbeats 400000 in
theorem refuses_disk (w : World) (g gs gm : Nat) (d : Dsk) (i : Int) (h : Dk w g gs gm d) : Calls Try.prog 64 #[ptr g, .int .i64 i] w (Ends (.int .i64 (d.why i)) w) := by
  have HM := Lib.hid (made_disk w g gs gm d h)
  obtain ⟨z, hz⟩ := h.six
  have c0 := hz.c0
  have c2 := hz.c2
  clear hz h
  unfold Dsk.why
  unfold ptr at HM ⊢
  generalize d.off = o at c2 ⊢
  generalize d.n = n at c0 ⊢
  cases o
  · by_cases h0 : i < 0
    · rw [if_neg (by simp), if_pos (.inl h0)]
      go_enter Try.func64, Try.ntmps64
      go_wp2_with fail
      refine HM.out.mono ?_
      rintro e w1 ⟨rfl, rfl⟩
      go_wp2
      go_ret
      exact ⟨rfl, rfl⟩
    · have h0' : 0 ≤ i := by omega
      by_cases h1 : (n : Int) ≤ i
      · rw [if_neg (by simp), if_pos (.inr h1)]
        clear h0
        go_enter Try.func64, Try.ntmps64
        go_wp2_with fail
        refine HM.out.mono ?_
        rintro e w1 ⟨rfl, rfl⟩
        go_wp2
        go_ret
        exact ⟨rfl, rfl⟩
      · rw [if_neg (by simp), if_neg (by omega)]
        have h1' : i < (n : Int) := by omega
        clear h0 h1
        go_enter Try.func64, Try.ntmps64
        go_wp2_with fail
        refine HM.out.mono ?_
        rintro e w1 ⟨rfl, rfl⟩
        go_wp2
        go_ret
        exact ⟨rfl, rfl⟩
  · rw [if_pos rfl]
    go_enter Try.func64, Try.ntmps64
    go_wp2_with fail
    refine HM.out.mono ?_
    rintro e w1 ⟨rfl, rfl⟩
    go_wp2
    go_ret
    exact ⟨rfl, rfl⟩
theorem info49 : (Try.prog.info? 69).map (fun i => (i.zero, i.size, i.bytes)) = some (some (secV (List.replicate 64 0)), 64, 64) := by kernel_rfl
def zeros (n : Nat) : Array Value := madeCells (secV (List.replicate 64 0)).cells (n * 64)
theorem zeros_get (n i : Nat) (h : i < n * 64) : (zeros n)[i]? = some (byt 0) := by
  have e : (secV (List.replicate 64 0)).cells = Array.replicate 64 (byt 0) := by rfl
  simp only [zeros, madeCells, e, Array.getElem?_map, Array.getElem?_range, Array.size_replicate, h, if_true, Option.map_some]
  rw [getElem!_pos _ _ (by simp; omega)]
  simp
theorem fresh_sf {w : World} {gs n : Nat} (h : w.heap[gs]? = some (.cells (zeros n) 69 (0, 0))) : Sf w gs n (fresh n).safe := by
  refine ⟨lt_of_heap h, ?_, fun i hi j v hv => ?_⟩
  · have := there_block h
    rwa [show (zeros n).size = n * 64 from size_madeCells _ _] at this
  · have hj : j < 64 := by
      have := (List.getElem?_eq_some_iff.1 hv).1
      simpa [cel, fresh] using this
    rw [cell_at h, zeros_get n _ (by omega), ← hv]
    simp only [cel, fresh, List.map_replicate, List.getElem?_replicate, hj, if_true]
theorem run_make43 (w : World) (n : Nat) (hn : n ≤ 65536) :
    (Instr.makeSlice 54 (.int .i64 n) (.int .i64 n)).run Try.prog w = .ok (.slice (some ⟨w.heap.size, 0, none⟩) n n) (w.alloc (.cells (zeros n) 69)) := by
  obtain ⟨i0, hi, hz0, hz1, hz2⟩ := info_parts info49
  have := run_make (P := Try.prog) w 54 69 i0 _ Try.underlying54 hi hz0 .i64 .i64 n n (by omega) (Int.le_refl _) (by rw [hz2]; omega) (by omega)
  rw [this, hz1]
  rfl
def Made (w : World) (n : Nat) (e : Ending) (w' : World) : Prop :=
  ∃ g gs gm, e = .returned (.tuple #[ptr g, .int .i64 0]) ∧ Dk w' g gs gm (fresh n) ∧ Turn [] w w' ∧ w.heap.size ≤ g ∧ w.heap.size ≤ gs ∧ w.heap.size ≤ gm
theorem made_fresh (w : World) (n : Nat) (h1 : 1 ≤ n) (h2 : n ≤ 65536) : Made w n (.returned (.tuple #[ptr (w.heap.size + 1 + 1), .int .i64 0]))
    (((w.alloc (.cells (zeros n) 69)).alloc (.map #[] 0)).alloc (.cells (fields w.heap.size (w.heap.size + 1) (fresh n) 0) 57)) := by
  have s1 : (w.alloc (.cells (zeros n) 69)).heap.size = w.heap.size + 1 := by simp
  have s2 : ((w.alloc (.cells (zeros n) 69)).alloc (.map #[] 0)).heap.size = w.heap.size + 1 + 1 := by simp
  have hf := fresh_sf (n := n) (heap_alloc_last w (.cells (zeros n) 69))
  have hm : Mp ((w.alloc (.cells (zeros n) 69)).alloc (.map #[] 0)) (w.heap.size + 1) n fun _ => none :=
    Mp.made (s1 ▸ World.ownsMap_made (w.alloc (.cells (zeros n) 69)) Try.prog 3 R0) (Told.empty n)
  refine ⟨w.heap.size + 1 + 1, w.heap.size, w.heap.size + 1, rfl, ⟨fresh_ok h1 h2, by omega, ⟨0, ?_⟩, ?_, ?_⟩, (((Turn.refl [] w).alloc _).alloc _).alloc _, by omega, by omega, by omega⟩
  · have := heap_alloc_last ((w.alloc (.cells (zeros n) 69)).alloc (.map #[] 0)) (.cells (fields w.heap.size (w.heap.size + 1) (fresh n) 0) 57)
    rwa [s2] at this
  · exact hf.keep ((Below.heap_alloc _ _ _ (by omega)).trans (Below.heap_alloc _ _ _ (by omega))) (by simp)
  · exact hm.keep (Below.heap_alloc _ _ _ (by omega))
theorem new_disk (w : World) (n : Nat) (h1 : 1 ≤ n) (h2 : n ≤ 65536) : Calls Try.prog 7 #[.int .i64 n] w (Made w n) := by
  have hmk := run_make43 w n h2
  have hmm := @run_makeMap Try.prog
  have HH := Lib.hid (And.intro h1 h2)
  have h1' : (1 : Int) ≤ n := by omega
  have h2' : (n : Int) ≤ 65536 := by omega
  clear h1 h2
  go_enter Try.func7, Try.ntmps7
  go_wp2
  go_ret2
  exact made_fresh w n HH.out.1 HH.out.2
end Go.Proofs.Ytgjdgmpjbpnjbaa.Disk
/-
  What the program's Write does, of 64 bytes, into a sector that there is. Condition: the disk and the bytes are known.
-/
namespace Go.Proofs.Ytgjdgmpjbpnjbaa.Disk
open Go.RowKit Go.Maps
set_option maxRecDepth 100000
theorem hkey3 {i : Nat} (h : i < 65536) : keyOf Try.prog 3 (.int .i64 i) = some (ky i) := Maps.keyOf_int_mk Try.underlying3 (WalkArith.wf_i64 (by omega))
/-- 'm[k] = s' at the operation. -/
theorem wpList_putsec (w : World) {ops : Array Oper} {rest : List Oper} {o : Oper} {a : Act} {Q : Exit → Act → World → Prop} (hg : o.guard = none) (m x v : Operand) (hop : o.op = Op.mapUpdate 55 m x v)
    (gm n : Nat) (f : Nat → Option (List UInt8)) (i : Nat) (s : List UInt8) (hm : a.eval m = .map (some gm)) (hx : a.eval x = .int .i64 i) (hv : a.eval v = .agg (cel s).toArray) (h : Mp w gm n f) (hi : i < n) (hn : n ≤ 65536)
    (hK : ∀ w', Mp w' gm n (upd f i (some s)) → w.grownBy w' (some gm) → wpList Try.prog ops Q rest (a.put o.dst undef) w') : wpList Try.prog ops Q (o :: rest) a w := by
  obtain ⟨nn, D, hown, hnn, hT⟩ := h
  refine wpList_mapUpdate_own w hg m x v 55 hop 3 69 key3 Try.underlying55 R0 gm nn D hm hown (by unfold maxLen; omega) _ _ (ky i) hx hv (hkey3 (by omega)) (.held (secV s)) [] rfl ?_
  intro w' h1 h2
  exact hK w' (Mp.made h1 (hT.put hown.isMap hi s)) h2
theorem size49 : (Try.prog.info? 69).map (·.size) = some 64 := by kernel_rfl
theorem run_load49 (w : World) (b o : Nat) (s : List UInt8) (hs : s.length = 64) (h : w.rangeAt b o (cel s)) : (Instr.loadAt 69 (.pointer (some ⟨b, o, none⟩))).run Try.prog w = .ok (.agg (cel s).toArray) w :=
  run_loadAt_mid w b o 69 (cel s) _ h Try.underlying69 rfl (by rw [cel_length, hs]; exact size49)
/-- The load of a sector in a region that draws, ahead of its tail. -/
theorem still_load49 {ops : Array Oper} {w : World} {Q : Act → Prop} {a : Act} {o : Oper} {rest : List Oper} (b off : Nat) (s : List UInt8) (x : Operand) (ho : o.op = .load 69 x) (hx : a.eval x = .pointer (some ⟨b, off, none⟩))
    (hs : s.length = 64) (hr : w.rangeAt b off (cel s)) (hw : Region.wanted o (yielded ops a.tmps) = true) (h : wpStill Try.prog ops w Q rest (a.put o.dst (.agg (cel s).toArray))) : wpStill Try.prog ops w Q (o :: rest) a := by
  refine wpStill_step (fun K hK => ?_)
  rw [if_pos hw]
  unfold Oper.still execOp
  have e := run_load49 w b off s hs hr
  simp only [ho, hx, Sem.run_bind, Sem.run_pure, Result.andThen_ok, e, Oper.stillUpon_value]
  exact hK _ h
theorem run_array (w : World) (A : Option Addr) (c : Nat) : (Instr.arrayAt 69 (.slice A 64 c)).run Try.prog w = .ok (.pointer A) w := by
  simp [Instr.arrayAt, run_underlying Try.underlying69]
theorem write_off (w : World) (g gs gm : Nat) (d : Dsk) (h : Dk w g gs gm d) (ho : d.off = true) (i : Nat) (v : Value) : Calls Try.prog 54 #[ptr g, .int .i64 i, v] w (Ends (.int .i64 3) w) := by
  have HR := Lib.hid (refuses_disk w g gs gm d i h)
  have hw : d.why i = 3 := by simp [Dsk.why, ho]
  rw [hw] at HR
  clear h ho hw
  unfold ptr at HR ⊢
  go_enter Try.func54, Try.ntmps54
  go_wp2_with fail
  refine HR.out.mono ?_
  rintro e w1 ⟨rfl, rfl⟩
  go_wp2
  go_ret
  exact ⟨rfl, rfl⟩
theorem write_none (w : World) (p v : Value) (i : Int) (h : Nobody w p) : Calls Try.prog 54 #[p, .int .i64 i, v] w (Ends (.int .i64 1) w) := by
  have HR := Lib.hid (refuses_none w p i h)
  clear h
  go_enter Try.func54, Try.ntmps54
  go_wp2_with fail
  refine HR.out.mono ?_
  rintro e w1 ⟨rfl, rfl⟩
  go_wp2
  go_ret
  exact ⟨rfl, rfl⟩
theorem write_stop (w : World) (g gs gm : Nat) (d : Dsk) (h : Dk w g gs gm d) (ho : d.off = false) (hd : d.done = false) (i : Nat) (hi : i < d.n) (A : Option Addr) (c : Nat) :
    Calls Try.prog 54 #[ptr g, .int .i64 i, .slice A 64 c] w (Now (.int .i64 3) w g gs gm d.deed) := by
  have HR := Lib.hid (refuses_disk w g gs gm d i h)
  have hw : d.why i = 0 := by simp [Dsk.why, ho]; omega
  rw [hw] at HR
  have HW := Lib.hid (deed_disk w g gs gm d h ho)
  rw [hd] at HW
  clear h ho hw hi hd
  unfold ptr at HR HW ⊢
  generalize d.deed = d' at HW ⊢
  go_enter Try.func54, Try.ntmps54
  go_wp2_with fail
  refine HR.out.mono ?_
  rintro e w1 ⟨rfl, rfl⟩
  go_wp2_with fail
  refine HW.out.mono ?_
  rintro e w1 ⟨rfl, hdk, ht⟩
  have HF := Lib.hid (And.intro hdk ht)
  clear hdk ht
  go_wp2
  go_ret
  exact ⟨rfl, HF.out.1, HF.out.2⟩
set_option maxHeartbeats 400000 in
theorem write_do (w : World) (g gs gm : Nat) (d : Dsk) (h : Dk w g gs gm d) (ho : d.off = false) (hd : d.done = true) (i : Nat) (hi : i < d.n) (b o c : Nat) (xs : List UInt8) (hx : xs.length = 64) (hr : w.rangeAt b o (cel xs)) (hb : b ∉ [g, gs, gm]) (hbl : b < w.heap.size) :
    Calls Try.prog 54 #[ptr g, .int .i64 i, .slice (some ⟨b, o, none⟩) 64 c] w (Now (.int .i64 0) w g gs gm (d.deed.put i xs)) := by
  have HR := Lib.hid (refuses_disk w g gs gm d i h)
  have hw : d.why i = 0 := by simp [Dsk.why, ho]; omega
  rw [hw] at HR
  have HW := Lib.hid (deed_disk w g gs gm d h ho)
  rw [hd] at HW
  have h3 := h.ok.2.1
  have hn := d.deed_parts.1
  have hof : d.deed.off = false := by rw [Dsk.deed_on ho, hd]; rfl
  rw [← hn] at hi h3
  have HX := Lib.hid hx
  have HB := Lib.hid hb
  have HI := Lib.hid hi
  have HL := Lib.hid hbl
  have HRR := Lib.hid hr
  have H3 := Lib.hid h3
  clear h ho hw h3 hx hb hi hbl hr hn hd hof
  unfold ptr at HR HW ⊢
  generalize d.deed = d' at *
  go_enter Try.func54, Try.ntmps54
  go_wp2_with fail
  refine HR.out.mono ?_
  rintro e w1 ⟨rfl, rfl⟩
  go_wp2_with fail
  refine HW.out.mono ?_
  rintro e w1 ⟨rfl, hdk, ht⟩
  obtain ⟨z, hz⟩ := hdk.six
  have c1 := hz.c1
  have hr1 : w1.rangeAt b o (cel xs) := rangeAt_keep HRR.out (ht.block b HL.out HB.out)
  have hr2 := Lib.hid ((World.rangeAt_drew w1 b o (cel xs)).2 hr1)
  have hra := fun w => run_array w (some ⟨b, o, none⟩) c
  have HF := Lib.hid (And.intro hdk ht)
  clear hdk ht hz hr1
  go_wp2
  refine wp_region_still_tail 8 (by kernel_rfl) (by kernel_rfl) ?_
  simp only [List.take_succ_cons, List.take_zero, List.drop_succ_cons, List.drop_zero]
  iterate 7 still_step
  refine still_load49 b o xs _ rfl rfl HX.out hr2.out rfl ?_
  simp only [Act.put, List.setIfInBounds_toArray, List.set_cons_zero, List.set_cons_succ]
  refine wpStill_nil ?_
  change wpList _ _ _ _ _ w1.drew
  refine wpList_putsec w1.drew rfl _ _ _ rfl gm d'.n d'.waits i xs rfl rfl rfl (HF.out.1.mp.keep rfl) HI.out H3.out ?_
  intro w2 hm2 hg2
  have HH := Lib.hid (And.intro hm2 hg2)
  clear hm2 hg2
  go_wp2
  go_ret
  have hdk := HF.out.1
  have ht := HF.out.2
  have hm2 := HH.out.1
  have hg2 := HH.out.2
  refine ⟨rfl, ?_, ht.grown (w1 := w1) ⟨hg2.os, hg2.tape, hg2.output, hg2.size, hg2.block⟩ (fun k hk => .inl (by cases hk; simp))⟩
  have e1 : w2.heap[g]? = w1.heap[g]? := hg2.block g hdk.lt (by simp; exact hdk.nem)
  have e2 : w2.heap[gs]? = w1.heap[gs]? := hg2.block gs hdk.sf.1 (by simp; exact hdk.nes)
  obtain ⟨z, hz⟩ := hdk.hd
  exact ⟨Dsk.put_ok hdk.ok HI.out HX.out, hdk.ne, ⟨z, e1.trans hz⟩, hdk.sf.keep e2 hg2.size, hm2⟩
end Go.Proofs.Ytgjdgmpjbpnjbaa.Disk
/-
  What the program's Read does. Condition: the disk is known.
-/
namespace Go.Proofs.Ytgjdgmpjbpnjbaa.Disk
open Go.RowKit Go.Maps
set_option maxRecDepth 100000
def nul : List UInt8 := List.replicate 64 0
theorem nul_length : nul.length = 64 := rfl
theorem zero49 (w : World) : (zeroValue 69).run Try.prog w = .ok (.agg (cel nul).toArray) w := (zero_of_info (n := 64) (v := .agg (cel nul).toArray) (by kernel_rfl)).1 w
section
variable {ops : Array Oper} {rest : List Oper} {o : Oper} {a : Act} {Q : Exit → Act → World → Prop}
/-- What the operation is, and what its operands hold. -/
def IsAlloc (o : Oper) : Prop := o.guard = none ∧ o.op = .alloc 69
def IsStore (o : Oper) (a : Act) (p v : Value) : Prop := o.guard = none ∧ ∃ x y, o.op = .store 69 x y ∧ a.eval x = p ∧ a.eval y = v
def IsLoad (o : Oper) (a : Act) (p : Value) : Prop := o.guard = none ∧ ∃ x, o.op = .load 69 x ∧ a.eval x = p
def IsLook (o : Oper) (a : Act) (ok : Bool) (m k : Value) : Prop := o.guard = none ∧ ∃ x y, o.op = Op.lookup 55 x y ok ∧ a.eval x = m ∧ a.eval y = k
theorem wpList_alloc49 (w : World) (ho : IsAlloc o) (h : wpList Try.prog ops Q rest (a.put o.dst (.pointer (some ⟨w.heap.size, 0, none⟩))) (w.alloc (.cells (cel nul).toArray 69))) : wpList Try.prog ops Q (o :: rest) a w := by
  refine wpList_plain ho.1 fun _ hK => ?_
  unfold Oper.wp execOp
  simp only [ho.2, Instr.alloc, zero49, Sem.run_bind, Sem.run_pure, Result.andThen_ok, newVar, newRow, Value.cells, run_newObj_alloc]
  exact hK _ _ h
theorem wpList_store49 (w : World) (b : Nat) (c : Array Value) (s : List UInt8) (hb : b = w.heap.size) (ho : IsStore o a (.pointer (some ⟨b, 0, none⟩)) (.agg (cel s).toArray)) (hc : c.size = 64) (hs : s.length = 64)
    (h : wpList Try.prog ops Q rest (a.put o.dst undef) (w.alloc (.cells (cel s).toArray 69))) : wpList Try.prog ops Q (o :: rest) a (w.alloc (.cells c 69)) := by
  obtain ⟨hg, x, y, ho, hx, hy⟩ := ho
  subst hb
  refine wpList_plain hg fun _ hK => ?_
  have e := run_storeAt_new (P := Try.prog) w 69 c (cel s).toArray (by rw [List.size_toArray, cel_length, hs]; exact size49) (by rw [hc, List.size_toArray, cel_length, hs]) (cel_all s)
  unfold Oper.wp execOp
  simp only [ho, hx, hy, Sem.run_bind, Sem.run_pure, Result.andThen_ok, e]
  exact hK _ _ h
theorem wpList_load49 (w : World) (b off : Nat) (s : List UInt8) (hs : s.length = 64) (hr : w.rangeAt b off (cel s)) (ho : IsLoad o a (.pointer (some ⟨b, off, none⟩)))
    (h : wpList Try.prog ops Q rest (a.put o.dst (.agg (cel s).toArray)) w) : wpList Try.prog ops Q (o :: rest) a w := by
  obtain ⟨hg, x, ho, hx⟩ := ho
  exact wpList_load_mid hg 69 x ho b off hx (cel s) _ hr Try.underlying69 rfl (by rw [cel_length, hs]; exact size49) h
/-- A map's look-up, where the sector waits, and where it doesn't. -/
theorem look_some (w : World) (gm n : Nat) (f : Nat → Option (List UInt8)) (i : Nat) (s : List UInt8) (hi : i < n) (hn : n ≤ 65536) (hf : f i = some s) (h : Mp w gm n f) :
    (Instr.lookup 55 (.map (some gm)) (.int .i64 i) true).run Try.prog w = .ok (.tuple #[.agg (cel s).toArray, .bool true]) w := by
  obtain ⟨nn, D, hown, hnn, hT⟩ := h
  obtain ⟨v, ps, hrun, hv⟩ := hown.look_ok key3 Try.underlying55 (zero49 w) (R := R0) (zd := .held (secV nul)) (zp := []) rfl (hkey3 (i := i) (by omega))
  rw [(hT.2 i hi).2 s hf] at hv
  have hv : v = secV s := by have := (by simpa [R0] using hv : v = secV s ∧ ps = []); exact this.1
  rw [hT.has hi, hf, hv] at hrun
  exact hrun
theorem look_none (w : World) (gm n : Nat) (f : Nat → Option (List UInt8)) (i : Nat) (hi : i < n) (hn : n ≤ 65536) (hf : f i = none) (h : Mp w gm n f) :
    (Instr.lookup 55 (.map (some gm)) (.int .i64 i) true).run Try.prog w = .ok (.tuple #[.agg (cel nul).toArray, .bool false]) w := by
  obtain ⟨nn, D, hown, hnn, hT⟩ := h
  obtain ⟨v, ps, hrun, hv⟩ := hown.look_ok key3 Try.underlying55 (zero49 w) (R := R0) (zd := .held (secV nul)) (zp := []) rfl (hkey3 (i := i) (by omega))
  rw [Maps.atKey_of_not_has ((hT.2 i hi).1 hf)] at hv
  have hv : v = secV nul := by have := (by simpa [R0] using hv : v = secV nul ∧ ps = []); exact this.1
  rw [hT.has hi, hf, hv] at hrun
  exact hrun
/-- .. without 'ok'. -/
theorem look_sec (w : World) (gm n : Nat) (f : Nat → Option (List UInt8)) (i : Nat) (s : List UInt8) (hi : i < n) (hn : n ≤ 65536) (hf : f i = some s) (h : Mp w gm n f) :
    (Instr.lookup 55 (.map (some gm)) (.int .i64 i) false).run Try.prog w = .ok (.agg (cel s).toArray) w := by
  obtain ⟨nn, D, hown, hnn, hT⟩ := h
  obtain ⟨v, ps, hrun, hv⟩ := hown.lookup key3 Try.underlying55 (zero49 w) (R := R0) (zd := .held (secV nul)) (zp := []) rfl (hkey3 (i := i) (by omega))
  rw [(hT.2 i hi).2 s hf] at hv
  have hv : v = secV s := by have := (by simpa [R0] using hv : v = secV s ∧ ps = []); exact this.1
  rw [hv] at hrun
  exact hrun
theorem wpList_look (w : World) (gm i : Nat) (v : Value) (hr : (Instr.lookup 55 (.map (some gm)) (.int .i64 i) true).run Try.prog w = .ok v w) (ho : IsLook o a true (.map (some gm)) (.int .i64 i))
    (h : wpList Try.prog ops Q rest (a.put o.dst v) w) : wpList Try.prog ops Q (o :: rest) a w := by
  obtain ⟨hg, x, y, ho, hx, hy⟩ := ho
  refine wpList_plain hg fun _ hK => ?_
  unfold Oper.wp execOp
  simp only [ho, hx, hy, Sem.run_bind, Sem.run_pure, Result.andThen_ok, hr]
  exact hK _ _ h
end
theorem read_none (w : World) (p : Value) (i : Int) (h : Nobody w p) : Calls Try.prog 50 #[p, .int .i64 i] w (Ends (.tuple #[.slice none 0 0, .int .i64 1]) w) := by
  have HR := Lib.hid (refuses_none w p i h)
  clear h
  go_enter Try.func50, Try.ntmps50
  go_wp2_with fail
  refine HR.out.mono ?_
  rintro e w1 ⟨rfl, rfl⟩
  go_wp2
  go_ret2
  exact ⟨rfl, rfl⟩
/-- What Read hands back: a new sector, these bytes. -/
def Told64 (w : World) (xs : List UInt8) (e : Ending) (w' : World) : Prop :=
  ∃ k, e = .returned (.tuple #[.slice (some ⟨k, 0, none⟩) 64 64, .int .i64 0]) ∧ w'.heap[k]? = some (.cells (cel xs).toArray 69 (0, 0)) ∧ w.heap.size ≤ k ∧ Turn [] w w'
set_option maxHeartbeats 400000 in
theorem read_some (w : World) (g gs gm : Nat) (d : Dsk) (h : Dk w g gs gm d) (ho : d.off = false) (i : Nat) (hi : i < d.n) (s : List UInt8) (hf : d.waits i = some s) : Calls Try.prog 50 #[ptr g, .int .i64 i] w (Told64 w s) := by
  have HR := Lib.hid (refuses_disk w g gs gm d i h)
  have hw : d.why i = 0 := by simp [Dsk.why, ho]; omega
  rw [hw] at HR
  have HS := Lib.hid (h.ok.2.2.2.1 i s hf).2
  have H3 := Lib.hid h.ok.2.1
  have HI := Lib.hid hi
  have HF := Lib.hid hf
  have HM := Lib.hid h.mp
  obtain ⟨z, hz⟩ := h.six
  have c1 := hz.c1
  clear hz h hw hi hf ho
  unfold ptr at HR ⊢
  go_enter Try.func50, Try.ntmps50
  go_wp2_with fail
  refine HR.out.mono ?_
  rintro e w1 ⟨rfl, rfl⟩
  have HLK := Lib.hid (look_some w gm d.n d.waits i s HI.out H3.out HF.out HM.out)
  go_wp2_with (first
    | (at_lookup; (with_reducible refine wpList_look w gm i _ HLK.out ?_ ?_); exact ⟨rfl, _, _, rfl, rfl, rfl⟩)
    | ((with_reducible refine wpList_alloc49 w ?_ ?_); exact ⟨rfl, rfl⟩)
    | ((with_reducible refine wpList_store49 w w.heap.size _ s rfl ?_ ?_ HS.out ?_); exact ⟨rfl, _, _, rfl, rfl, rfl⟩; rfl))
  go_ret2
  exact ⟨w.heap.size, rfl, heap_alloc_last w _, Nat.le_refl _, (Turn.refl [] w).alloc _⟩
set_option maxHeartbeats 400000 in
theorem read_safe (w : World) (g gs gm : Nat) (d : Dsk) (h : Dk w g gs gm d) (ho : d.off = false) (i : Nat) (hi : i < d.n) (hf : d.waits i = none) : Calls Try.prog 50 #[ptr g, .int .i64 i] w (Told64 w (d.safe i)) := by
  have HR := Lib.hid (refuses_disk w g gs gm d i h)
  have hw : d.why i = 0 := by simp [Dsk.why, ho]; omega
  rw [hw] at HR
  have HS := Lib.hid (h.ok.2.2.1 i hi)
  have H3 := Lib.hid h.ok.2.1
  have HI := Lib.hid hi
  have HF := Lib.hid hf
  have HM := Lib.hid h.mp
  have HL := Lib.hid (h.sf.2.2 i hi)
  have i0 : (0 : Int) ≤ i := by omega
  have i1 : (i : Int) < d.n := by omega
  obtain ⟨z, hz⟩ := h.six
  have c0 := hz.c0
  have c1 := hz.c1
  have gl := h.lt
  clear hz h hw hi hf ho
  unfold ptr at HR ⊢
  go_enter Try.func50, Try.ntmps50
  go_wp2_with fail
  refine HR.out.mono ?_
  rintro e w1 ⟨rfl, rfl⟩
  have HLK := Lib.hid (look_none w gm d.n d.waits i HI.out H3.out HF.out HM.out)
  have HLA := Lib.hid (World.rangeAt_alloc HL.out (.cells (cel nul).toArray 69))
  go_wp2_with (first
    | (at_lookup; (with_reducible refine wpList_look w gm i _ HLK.out ?_ ?_); exact ⟨rfl, _, _, rfl, rfl, rfl⟩)
    | ((with_reducible refine wpList_alloc49 w ?_ ?_); exact ⟨rfl, rfl⟩)
    | ((with_reducible refine wpList_load49 _ gs (i * 64) (d.safe i) HS.out HLA.out ?_ ?_); exact ⟨rfl, _, rfl, rfl⟩)
    | ((with_reducible refine wpList_store49 w w.heap.size _ nul rfl ?_ ?_ nul_length ?_); exact ⟨rfl, _, _, rfl, rfl, rfl⟩; rfl)
    | ((with_reducible refine wpList_store49 w w.heap.size _ (d.safe i) rfl ?_ ?_ HS.out ?_); exact ⟨rfl, _, _, rfl, rfl, rfl⟩; rfl))
  go_ret2
  exact ⟨w.heap.size, rfl, heap_alloc_last w _, Nat.le_refl _, (Turn.refl [] w).alloc _⟩
theorem read_disk (w : World) (g gs gm : Nat) (d : Dsk) (h : Dk w g gs gm d) (ho : d.off = false) (i : Nat) (hi : i < d.n) : Calls Try.prog 50 #[ptr g, .int .i64 i] w (Told64 w (d.read i)) := by
  cases hf : d.waits i with
  | none =>
    have e : d.read i = d.safe i := by simp [Dsk.read, hf]
    rw [e]
    exact read_safe w g gs gm d h ho i hi hf
  | some s =>
    have e : d.read i = s := by simp [Dsk.read, hf]
    rw [e]
    exact read_some w g gs gm d h ho i hi s hf
end Go.Proofs.Ytgjdgmpjbpnjbaa.Disk
/-
  What the program's survivor does: of a sector, at a crash. No condition beyond the sectors' size.
-/
namespace Go.Proofs.Ytgjdgmpjbpnjbaa.Disk
open Go.RowKit Go.Maps
set_option maxRecDepth 100000
theorem i64_and3 (n : Int) : bits .and .i64 n 3 = n % 4 := by
  have h3 : (BitVec.ofInt 64 3).toNat = 2 ^ 2 - 1 := by decide
  have key : (BitVec.ofInt 64 n &&& BitVec.ofInt 64 3).toNat = (n % ((2 ^ 64 : Nat) : Int)).toNat % 2 ^ 2 := by
    rw [BitVec.toNat_and, BitVec.toNat_ofInt, h3, Nat.and_two_pow_sub_one_eq_mod]
  show IntKind.i64.wrap ((BitVec.ofInt 64 n &&& BitVec.ofInt 64 3).toNat : Nat) = n % 4
  rw [key, IntKind.wrap_i64]
  omega
theorem i64_and7 (n : Int) : bits .and .i64 n 7 = n % 8 := by
  have h3 : (BitVec.ofInt 64 7).toNat = 2 ^ 3 - 1 := by decide
  have key : (BitVec.ofInt 64 n &&& BitVec.ofInt 64 7).toNat = (n % ((2 ^ 64 : Nat) : Int)).toNat % 2 ^ 3 := by
    rw [BitVec.toNat_and, BitVec.toNat_ofInt, h3, Nat.and_two_pow_sub_one_eq_mod]
  show IntKind.i64.wrap ((BitVec.ofInt 64 n &&& BitVec.ofInt 64 7).toNat : Nat) = n % 8
  rw [key, IntKind.wrap_i64]
  omega
/-- Block b is one sector, known whole. -/
def Sec1 (w : World) (b : Nat) (s : List UInt8) : Prop := w.heap[b]? = some (.cells (cel s).toArray 69 (0, 0))
theorem Sec1.range {w : World} {b : Nat} {s : List UInt8} (h : Sec1 w b s) : w.rangeAt b 0 (cel s) := fun j v hv => by
  rw [cell_at h, Nat.zero_add]
  simpa using hv
theorem Sec1.setOther {w : World} {b k : Nat} {s : List UInt8} (h : Sec1 w b s) (hk : b ≠ k) (c : Array Value) : Sec1 (w.setRow k c) b s := by
  unfold Sec1 at *
  rw [← h]
  simp only [World.setRow, Array.getElem?_modify]
  rw [if_neg (fun e => hk e.symm)]
theorem Sec1.set {w : World} {b : Nat} {s t : List UInt8} (h : Sec1 w b s) : Sec1 (w.setRow b (cel t).toArray) b t := by
  unfold Sec1 at *
  simp [World.setRow, Array.getElem?_modify, h]
theorem Sec1.below {w w1 : World} {b : Nat} (h : Below w.heap.size w w1) (hb : w.heap.size ≤ b) (c : Array Value) : Below w.heap.size w (w1.setRow b c) :=
  ⟨h.os, h.tape, h.output, by simp [World.setRow]; exact h.size, fun k hk => by
    rw [← h.block k hk]
    simp only [World.setRow, Array.getElem?_modify]
    rw [if_neg (by omega)]⟩
section
variable {ops : Array Oper} {rest : List Oper} {o : Oper} {a : Act} {Q : Exit → Act → World → Prop}
theorem wpList_storeRow (w : World) (b : Nat) (s t : List UInt8) (h : Sec1 w b s) (hs : s.length = 64) (ht : t.length = 64) (ho : IsStore o a (.pointer (some ⟨b, 0, none⟩)) (.agg (cel t).toArray))
    (hK : wpList Try.prog ops Q rest (a.put o.dst undef) (w.setRow b (cel t).toArray)) : wpList Try.prog ops Q (o :: rest) a w := by
  obtain ⟨hg, x, y, ho, hx, hy⟩ := ho
  refine wpList_plain hg fun _ hK' => ?_
  have e : (storeVar 69 ⟨b, 0, none⟩ (.agg (cel t).toArray)).run Try.prog w = .ok () (w.setRow b (cel t).toArray) :=
    run_storeVar_row w b 69 69 _ _ h (by rw [List.size_toArray, cel_length, ht]; exact size49) (by rw [List.size_toArray, List.size_toArray, cel_length, cel_length, ht, hs]) (cel_all t)
  unfold Oper.wp execOp
  simp only [ho, hx, hy, Instr.storeAt, Instr.sureAddr, Sem.run_bind, Sem.run_pure, Result.andThen_ok, e]
  exact hK' _ _ hK
def IsCopy (o : Oper) (a : Act) (x' y' : Value) : Prop := o.guard = none ∧ ∃ x y, o.op = .call { callee := .builtin .copy, args := #[x, y], argTypes := #[35, 35] } ∧ a.eval x = x' ∧ a.eval y = y'
theorem size5i : (Try.prog.info? 5).map (·.size) = some 1 := by kernel_rfl
theorem wpList_copy32 (w : World) (k0 k1 off c c' : Nat) (s t : List UInt8) (h0 : Sec1 w k0 s) (h1 : Sec1 w k1 t) (hs : s.length = 64) (ht : t.length = 64) (hoff : off + 32 ≤ 64)
    (ho : IsCopy o a (.slice (some ⟨k0, off, none⟩) 32 c) (.slice (some ⟨k1, off, none⟩) 32 c'))
    (hK : wpList Try.prog ops Q rest (a.put o.dst (.int .i64 32)) (w.setRow k0 (cel (s.take off ++ (t.drop off).take 32 ++ s.drop (off + 32))).toArray)) : wpList Try.prog ops Q (o :: rest) a w := by
  obtain ⟨hg, x, y, ho, hx, hy⟩ := ho
  have hl : ((t.drop off).take 32).length = 32 := by simp; omega
  have e := run_copy_row (P := Try.prog) w 35 35 o.type 5 k0 off 32 c ⟨k1, off, none⟩ 32 c' _ 69 (cel ((t.drop off).take 32)) Try.underlying35 size5i h0 (by rw [cel_length, hl]; rfl)
    (fun j v hv => by
      have hj : j < 32 := by have := (List.getElem?_eq_some_iff.1 hv).1; rwa [cel_length, hl] at this
      rw [Addr.add_mid, cell_at h1, ← hv, ← cel_take, ← cel_drop]
      simp [hj]) (by rw [cel_length, hl, List.size_toArray, cel_length, hs]; exact hoff) (cel_one _)
  rw [cel_length, hl] at e
  have e2 : ((cel s).toArray.toList.take off ++ cel ((t.drop off).take 32) ++ (cel s).toArray.toList.drop (off + 32)) = cel (s.take off ++ (t.drop off).take 32 ++ s.drop (off + 32)) := by
    simp only [cel_take, cel_drop, cel_app]
  rw [e2] at e
  refine wpList_plain hg fun _ hK' => ?_
  unfold Oper.wp execOp
  simp only [ho, resolve, invoke, builtin, Sem.run_bind, Sem.run_pure, Result.andThen_ok, List.map_toArray, List.map_cons, List.map_nil, hx, hy, e]
  exact hK' _ _ hK
end
theorem surv_two {f : Int} (h : f % 4 = 2) (s t : List UInt8) : s.take 0 ++ (t.drop 0).take 32 ++ s.drop (0 + 32) = surv f s t := by simp [surv, h]
theorem surv_three {f : Int} (h : f % 4 = 3) {s t : List UInt8} (hs : s.length = 64) (ht : t.length = 64) : s.take 32 ++ (t.drop 32).take 32 ++ s.drop (32 + 32) = surv f s t := by
  have e1 : (t.drop 32).take 32 = t.drop 32 := List.take_of_length_le (by simp; omega)
  have e2 : s.drop (32 + 32) = [] := List.drop_eq_nil_of_le (by omega)
  rw [e1, e2]
  simp [surv, h]
def Left1 (w : World) (s : List UInt8) (e : Ending) (w' : World) : Prop := e = .returned (.agg (cel s).toArray) ∧ Below w.heap.size w w'
/-- The three blocks that survivor lays. -/
def W3 (w : World) (s t : List UInt8) : World := ((w.alloc (.cells (cel s).toArray 69)).alloc (.cells (cel t).toArray 69)).alloc (.cells (cel nul).toArray 69)
theorem w3_a (w : World) (s t : List UInt8) : Sec1 (W3 w s t) w.heap.size s :=
  (Below.heap_alloc _ _ _ (by simp; omega)).trans ((Below.heap_alloc _ _ _ (by simp)).trans (heap_alloc_last w _))
theorem w3_b (w : World) (s t : List UInt8) : Sec1 (W3 w s t) (w.heap.size + 1) t := by
  have := heap_alloc_last (w.alloc (.cells (cel s).toArray 69)) (.cells (cel t).toArray 69)
  rw [World.size_alloc] at this
  exact (Below.heap_alloc _ _ _ (by simp)).trans this
theorem w3_c (w : World) (s t : List UInt8) : Sec1 (W3 w s t) (w.heap.size + 1 + 1) nul := by
  have := heap_alloc_last ((w.alloc (.cells (cel s).toArray 69)).alloc (.cells (cel t).toArray 69)) (.cells (cel nul).toArray 69)
  rwa [World.size_alloc, World.size_alloc] at this
theorem w3_low (w : World) (s t : List UInt8) : Below w.heap.size w (W3 w s t) := (((Below.refl _ w).alloc (Nat.le_refl _) _).alloc (by simp) _).alloc (by simp; omega) _
theorem size_W3 (w : World) (s t : List UInt8) : (W3 w s t).heap.size = w.heap.size + 3 := by simp [W3]
theorem surv_end {tmps : Array Value} {W : World} {k : Nat} {r : List UInt8} (hp : tmps.getD 6 undef = .pointer (some ⟨k, 0, none⟩)) (h : Sec1 W k r) (hr : r.length = 64) : (results Try.f35 tmps).run Try.prog W = .ok (.agg (cel r).toArray) W :=
  results_cell_row (P := Try.prog) (ty := 69) (p := 6) rfl tmps W k 69 _ (0, 0) _ hp h Try.underlying69 rfl (by rw [List.size_toArray, cel_length, hr]; exact size49)
set_option maxHeartbeats 400000 in
theorem surv_one (w : World) (f : Int) (s t : List UInt8) (hs : s.length = 64) (ht : t.length = 64) (hf : f % 4 = 1) : Calls Try.prog 35 #[.int .i64 f, .agg (cel s).toArray, .agg (cel t).toArray] w (Left1 w (surv f s t)) := by
  have e : surv f s t = t := by simp [surv, hf]
  have hb : bits .and .i64 f 3 = 1 := (i64_and3 f).trans hf
  have HR := Lib.hid (surv_length f hs ht)
  have HS := Lib.hid hs
  have HT := Lib.hid ht
  have HA := Lib.hid (w3_a w s t)
  have HB := Lib.hid (w3_b w s t)
  have HC := Lib.hid (w3_c w s t)
  have HL := Lib.hid (w3_low w s t)
  generalize hrr : surv f s t = r at *
  have HE := Lib.hid e
  clear hs ht hf e hrr
  go_enter Try.func35, Try.ntmps35
  go_upto_region 1 with (first
    | ((with_reducible refine wpList_alloc49 _ ?_ ?_); exact ⟨rfl, rfl⟩))
  have hw : ((w.alloc (.cells (cel s).toArray 69)).alloc (.cells (cel t).toArray 69)).alloc (.cells (cel nul).toArray 69) = W3 w s t := rfl
  rw [hw]
  clear hw
  generalize W3 w s t = W at *
  have k1 : w.heap.size ≠ w.heap.size + 1 := by omega
  have k2 : w.heap.size + 1 + 1 ≠ w.heap.size := by omega
  obtain rfl := HE.out
  have HA1 := Lib.hid (HA.out.set (t := r))
  have HC1 := Lib.hid (HC.out.setOther k2 (cel r).toArray)
  have HL1 := Lib.hid (Sec1.below HL.out (Nat.le_refl _) (cel r).toArray)
  go_wp2_with (first
    | ((with_reducible refine wpList_load49 W (w.heap.size + 1) 0 r HR.out HB.out.range ?_ ?_); exact ⟨rfl, _, rfl, rfl⟩)
    | ((with_reducible refine wpList_storeRow W w.heap.size s r HA.out HS.out HR.out ?_ ?_); exact ⟨rfl, _, _, rfl, rfl, rfl⟩)
    | ((with_reducible refine wpList_load49 (W.setRow w.heap.size (cel r).toArray) w.heap.size 0 r HR.out HA1.out.range ?_ ?_); exact ⟨rfl, _, rfl, rfl⟩)
    | ((with_reducible refine wpList_storeRow (W.setRow w.heap.size (cel r).toArray) (w.heap.size + 1 + 1) nul r HC1.out nul_length HR.out ?_ ?_); exact ⟨rfl, _, _, rfl, rfl, rfl⟩))
  try simp only [Exit.inBlock, Exit.then]
  refine bodyPost_ret (surv_end rfl HC1.out.set HR.out) rfl ?_
  exact ⟨rfl, Sec1.below HL1.out (by omega) _⟩
set_option maxHeartbeats 400000 in
theorem surv_zero (w : World) (f : Int) (s t : List UInt8) (hs : s.length = 64) (ht : t.length = 64) (hf : f % 4 = 0) : Calls Try.prog 35 #[.int .i64 f, .agg (cel s).toArray, .agg (cel t).toArray] w (Left1 w (surv f s t)) := by
  have e : surv f s t = s := by simp [surv, hf]
  have hb : bits .and .i64 f 3 = 0 := (i64_and3 f).trans hf
  have HR := Lib.hid (surv_length f hs ht)
  have HS := Lib.hid hs
  have HT := Lib.hid ht
  have HA := Lib.hid (w3_a w s t)
  have HB := Lib.hid (w3_b w s t)
  have HC := Lib.hid (w3_c w s t)
  have HL := Lib.hid (w3_low w s t)
  generalize hrr : surv f s t = r at *
  have HE := Lib.hid e
  clear hs ht hf e hrr
  go_enter Try.func35, Try.ntmps35
  go_upto_region 1 with (first
    | ((with_reducible refine wpList_alloc49 _ ?_ ?_); exact ⟨rfl, rfl⟩))
  have hw : ((w.alloc (.cells (cel s).toArray 69)).alloc (.cells (cel t).toArray 69)).alloc (.cells (cel nul).toArray 69) = W3 w s t := rfl
  rw [hw]
  clear hw
  generalize W3 w s t = W at *
  have k1 : w.heap.size ≠ w.heap.size + 1 := by omega
  have k2 : w.heap.size + 1 + 1 ≠ w.heap.size := by omega
  obtain rfl := HE.out
  go_wp2_with (first
    | ((with_reducible refine wpList_load49 W w.heap.size 0 r HR.out HA.out.range ?_ ?_); exact ⟨rfl, _, rfl, rfl⟩)
    | ((with_reducible refine wpList_storeRow W (w.heap.size + 1 + 1) nul r HC.out nul_length HR.out ?_ ?_); exact ⟨rfl, _, _, rfl, rfl, rfl⟩))
  try simp only [Exit.inBlock, Exit.then]
  refine bodyPost_ret (surv_end rfl HC.out.set HR.out) rfl ?_
  exact ⟨rfl, Sec1.below HL.out (by omega) _⟩
set_option maxHeartbeats 400000 in
theorem surv_two_ (w : World) (f : Int) (s t : List UInt8) (hs : s.length = 64) (ht : t.length = 64) (hf : f % 4 = 2) : Calls Try.prog 35 #[.int .i64 f, .agg (cel s).toArray, .agg (cel t).toArray] w (Left1 w (surv f s t)) := by
  have e : s.take 0 ++ (t.drop 0).take 32 ++ s.drop (0 + 32) = surv f s t := surv_two hf s t
  have hb : bits .and .i64 f 3 = 2 := (i64_and3 f).trans hf
  have HR := Lib.hid (surv_length f hs ht)
  have HS := Lib.hid hs
  have HT := Lib.hid ht
  have HA := Lib.hid (w3_a w s t)
  have HB := Lib.hid (w3_b w s t)
  have HC := Lib.hid (w3_c w s t)
  have HL := Lib.hid (w3_low w s t)
  generalize hrr : surv f s t = r at *
  have HE := Lib.hid e
  clear hs ht hf e hrr
  go_enter Try.func35, Try.ntmps35
  go_upto_region 1 with (first
    | ((with_reducible refine wpList_alloc49 _ ?_ ?_); exact ⟨rfl, rfl⟩))
  have hw : ((w.alloc (.cells (cel s).toArray 69)).alloc (.cells (cel t).toArray 69)).alloc (.cells (cel nul).toArray 69) = W3 w s t := rfl
  rw [hw]
  clear hw
  generalize W3 w s t = W at *
  have k1 : w.heap.size ≠ w.heap.size + 1 := by omega
  have k2 : w.heap.size + 1 + 1 ≠ w.heap.size := by omega
  have HA1 := Lib.hid (HA.out.set (t := r))
  have HC1 := Lib.hid (HC.out.setOther k2 (cel r).toArray)
  have HL1 := Lib.hid (Sec1.below HL.out (Nat.le_refl _) (cel r).toArray)
  go_wp2_with fail
  refine wp_region_still_tail 2 (by kernel_rfl) (by kernel_rfl) ?_
  simp only [List.take_succ_cons, List.take_zero, List.drop_succ_cons, List.drop_zero]
  iterate 2 still_step
  refine wpStill_nil ?_
  change wpList _ _ _ _ _ W.drew
  refine wpList_copy32 W.drew w.heap.size (w.heap.size + 1) 0 _ _ s t HA.out HB.out HS.out HT.out (by omega) ⟨rfl, _, _, rfl, rfl, rfl⟩ ?_
  rw [HE.out]
  have HA2 : Hid (Sec1 (W.drew.setRow w.heap.size (cel r).toArray) w.heap.size r) := HA1
  have HC2 : Hid (Sec1 (W.drew.setRow w.heap.size (cel r).toArray) (w.heap.size + 1 + 1) nul) := HC1
  have HL2 : Hid (Below w.heap.size w (W.drew.setRow w.heap.size (cel r).toArray)) := Lib.hid ⟨HL1.out.os, HL1.out.tape, HL1.out.output, HL1.out.size, HL1.out.block⟩
  generalize W.drew.setRow w.heap.size (cel r).toArray = X at *
  go_wp2_with (first
    | ((with_reducible refine wpList_load49 X w.heap.size 0 r HR.out HA2.out.range ?_ ?_); exact ⟨rfl, _, rfl, rfl⟩)
    | ((with_reducible refine wpList_storeRow X (w.heap.size + 1 + 1) nul r HC2.out nul_length HR.out ?_ ?_); exact ⟨rfl, _, _, rfl, rfl, rfl⟩))
  try simp only [Exit.inBlock, Exit.then]
  refine bodyPost_ret (surv_end rfl HC2.out.set HR.out) rfl ?_
  exact ⟨rfl, Sec1.below HL2.out (by omega) _⟩
set_option maxHeartbeats 400000 in
theorem surv_three_ (w : World) (f : Int) (s t : List UInt8) (hs : s.length = 64) (ht : t.length = 64) (hf : f % 4 = 3) : Calls Try.prog 35 #[.int .i64 f, .agg (cel s).toArray, .agg (cel t).toArray] w (Left1 w (surv f s t)) := by
  have e : s.take 32 ++ (t.drop 32).take 32 ++ s.drop (32 + 32) = surv f s t := surv_three hf hs ht
  have hb : bits .and .i64 f 3 = 3 := (i64_and3 f).trans hf
  have HR := Lib.hid (surv_length f hs ht)
  have HS := Lib.hid hs
  have HT := Lib.hid ht
  have HA := Lib.hid (w3_a w s t)
  have HB := Lib.hid (w3_b w s t)
  have HC := Lib.hid (w3_c w s t)
  have HL := Lib.hid (w3_low w s t)
  generalize hrr : surv f s t = r at *
  have HE := Lib.hid e
  clear hs ht hf e hrr
  go_enter Try.func35, Try.ntmps35
  go_upto_region 1 with (first
    | ((with_reducible refine wpList_alloc49 _ ?_ ?_); exact ⟨rfl, rfl⟩))
  have hw : ((w.alloc (.cells (cel s).toArray 69)).alloc (.cells (cel t).toArray 69)).alloc (.cells (cel nul).toArray 69) = W3 w s t := rfl
  rw [hw]
  clear hw
  generalize W3 w s t = W at *
  have k1 : w.heap.size ≠ w.heap.size + 1 := by omega
  have k2 : w.heap.size + 1 + 1 ≠ w.heap.size := by omega
  have HA1 := Lib.hid (HA.out.set (t := r))
  have HC1 := Lib.hid (HC.out.setOther k2 (cel r).toArray)
  have HL1 := Lib.hid (Sec1.below HL.out (Nat.le_refl _) (cel r).toArray)
  go_wp2_with fail
  refine wp_region_still_tail 2 (by kernel_rfl) (by kernel_rfl) ?_
  simp only [List.take_succ_cons, List.take_zero, List.drop_succ_cons, List.drop_zero]
  iterate 2 still_step
  refine wpStill_nil ?_
  change wpList _ _ _ _ _ W.drew
  refine wpList_copy32 W.drew w.heap.size (w.heap.size + 1) 32 _ _ s t HA.out HB.out HS.out HT.out (by omega) ⟨rfl, _, _, rfl, rfl, rfl⟩ ?_
  rw [HE.out]
  have HA2 : Hid (Sec1 (W.drew.setRow w.heap.size (cel r).toArray) w.heap.size r) := HA1
  have HC2 : Hid (Sec1 (W.drew.setRow w.heap.size (cel r).toArray) (w.heap.size + 1 + 1) nul) := HC1
  have HL2 : Hid (Below w.heap.size w (W.drew.setRow w.heap.size (cel r).toArray)) := Lib.hid ⟨HL1.out.os, HL1.out.tape, HL1.out.output, HL1.out.size, HL1.out.block⟩
  generalize W.drew.setRow w.heap.size (cel r).toArray = X at *
  go_wp2_with (first
    | ((with_reducible refine wpList_load49 X w.heap.size 0 r HR.out HA2.out.range ?_ ?_); exact ⟨rfl, _, rfl, rfl⟩)
    | ((with_reducible refine wpList_storeRow X (w.heap.size + 1 + 1) nul r HC2.out nul_length HR.out ?_ ?_); exact ⟨rfl, _, _, rfl, rfl, rfl⟩))
  try simp only [Exit.inBlock, Exit.then]
  refine bodyPost_ret (surv_end rfl HC2.out.set HR.out) rfl ?_
  exact ⟨rfl, Sec1.below HL2.out (by omega) _⟩
theorem survivor_any (w : World) (f : Int) (s t : List UInt8) (hs : s.length = 64) (ht : t.length = 64) : Calls Try.prog 35 #[.int .i64 f, .agg (cel s).toArray, .agg (cel t).toArray] w (Left1 w (surv f s t)) := by
  have h4 : f % 4 = 0 ∨ f % 4 = 1 ∨ f % 4 = 2 ∨ f % 4 = 3 := by omega
  rcases h4 with h | h | h | h
  · exact surv_zero w f s t hs ht h
  · exact surv_one w f s t hs ht h
  · exact surv_two_ w f s t hs ht h
  · exact surv_three_ w f s t hs ht h
end Go.Proofs.Ytgjdgmpjbpnjbaa.Disk
/-
  A step of a range over the sectors that wait; a map that is cleared; a sector that is stored among others.
-/
namespace Go.Proofs.Ytgjdgmpjbpnjbaa.Disk
open Go.RowKit Go.Maps Go.ChangeMaps Go.MapKept
set_option maxRecDepth 100000
section
variable {ops : Array Oper} {rest : List Oper} {o : Oper} {a : Act} {Q : Exit → Act → World → Prop}
theorem wpList_next_sec (w : World) (gm r n nn : Nat) (f : Nat → Option (List UInt8)) (D : DataW Value) (left : Lit → Bool) (cnt : Nat) (hT : Told D n f) (h : w.ranges Try.prog 3 R0 gm r nn D left cnt)
    (ho : o.guard = none ∧ ∃ it, o.op = Op.next it false ∧ a.eval it = .pointer (some ⟨r, 0, none⟩))
    (hDone : (∀ kl, left kl = false) → wpList Try.prog ops Q rest (a.put o.dst (.tuple #[.bool false])) w)
    (hMore : ∀ (i : Nat) (s : List UInt8) (w' : World) (cnt' : Nat), i < n → f i = some s → left (ky i) = true → w'.ranges Try.prog 3 R0 gm r nn D (fun z => left z && !z.sameKey (ky i)) cnt' → cnt' < cnt →
      w.grownBy w' (some r) → w'.heap.size = w.heap.size → (Instr.entry (.pointer (some ⟨r, 0, none⟩))).run Try.prog w' = .ok (.tuple #[.int .i64 i, .agg (cel s).toArray]) w' →
      wpList Try.prog ops Q rest (a.put o.dst (.tuple #[.bool true, .int .i64 i, .agg (cel s).toArray])) w') :
    wpList Try.prog ops Q (o :: rest) a w := by
  obtain ⟨hg, it, hop, hit⟩ := ho
  refine wpList_plain hg fun K' hK' => ?_
  unfold Oper.wp
  rcases h.next key3 o.type with ⟨h0, hl, hrun⟩ | ⟨key, v, kl, y, w', cnt', hkey, hlk, hv, hat, hrun, hrg, hlt, hgr, hsz, hen⟩
  · simp [execOp, hop, hit, hrun, Result.andThen]
    exact hK' _ _ (hDone hl)
  · have hhas := Maps.has_true_of_atKey hat
    obtain ⟨i, hi, rfl⟩ := hT.1 kl hhas
    obtain ⟨x, rfl, hx, _⟩ := Maps.keyOf_i64 Try.underlying3 hkey
    have hxi : x = (i : Int) := by simpa [ky] using hx.symm
    subst hxi
    have hs := (hT.has hi).symm.trans hhas
    obtain ⟨s, hs⟩ := Option.isSome_iff_exists.1 hs
    have e1 := (hT.2 i hi).2 s hs .nil
    rw [hat .nil] at e1
    have e2 : y = (.held v, []) := by simpa [R0] using hv.symm
    rw [e2] at e1
    have e3 : v = secV s := by simpa using e1
    subst e3
    simp [execOp, hop, hit, hrun, Result.andThen]
    exact hK' _ _ (hMore i s w' cnt' hi hs hlk hrg hlt hgr hsz hen)
theorem wpList_clear (w : World) (gm n : Nat) (f : Nat → Option (List UInt8)) (h : Mp w gm n f) (ho : o.guard = none ∧ ∃ x, o.op = .call { callee := .builtin .clear, args := #[x], argTypes := #[55] } ∧ a.eval x = .map (some gm))
    (hK : ∀ w', Mp w' gm n (fun _ => none) → w.grownBy w' (some gm) → wpList Try.prog ops Q rest (a.put o.dst (.tuple #[])) w') : wpList Try.prog ops Q (o :: rest) a w := by
  obtain ⟨hg, x, hop, hx⟩ := ho
  obtain ⟨nn, D, ⟨es, clock, hb, F, hs, hD⟩, hnn, hT⟩ := h
  have e : (Builtin.clear_ #[55] o.type #[.map (some gm)]).run Try.prog w = .ok (.tuple #[]) (setBlock w gm (.map #[] clock)) := by
    simp [Builtin.clear_, run_underlying Try.underlying55, MapKept.run_getObj_map hb, MapKept.run_setObj_map _ hb, Result.andThen, setBlock]
  refine wpList_plain hg fun _ hK' => ?_
  unfold Oper.wp execOp
  simp only [hop, resolve, invoke, builtin, Sem.run_bind, Sem.run_pure, Result.andThen_ok, List.map_toArray, List.map_cons, List.map_nil, hx, e]
  refine hK' _ _ (hK _ ⟨0, .map [], ⟨#[], clock, heap_setBlock_same hb _, ⟨by simp, stamped_empty clock, by simp⟩, Nat.le_refl _, rfl⟩, Nat.zero_le _, Told.empty n⟩ ?_)
  exact ⟨rfl, rfl, rfl, by simp [setBlock], fun i _ hi => heap_setBlock_other hb _ (fun e => hi (by rw [e]))⟩
theorem wpList_storeMid (w : World) (b off : Nat) (s : List UInt8) (h : w.there b off 64) (hs : s.length = 64) (ho : IsStore o a (.pointer (some ⟨b, off, none⟩)) (.agg (cel s).toArray))
    (hK : wpList Try.prog ops Q rest (a.put o.dst undef) (w.setCells b off (cel s))) : wpList Try.prog ops Q (o :: rest) a w := by
  obtain ⟨hg, x, y, ho, hx, hy⟩ := ho
  have hc : (cel s).toArray.size = 64 := by rw [List.size_toArray, cel_length, hs]
  exact wpList_store_mid hg 69 x y ho b off (cel s).toArray hx hy (hc ▸ h) (hc ▸ size49) (cel_all s) hK
end
end Go.Proofs.Ytgjdgmpjbpnjbaa.Disk
/-
  What the program's Sync does. Condition: the disk is known.
-/
namespace Go.Proofs.Ytgjdgmpjbpnjbaa.Disk
open Go.RowKit Go.Maps
set_option maxRecDepth 100000
/-- What is safe while some of the waiting sectors are still to come. -/
def part (safe : Nat → List UInt8) (f : Nat → Option (List UInt8)) (left : Lit → Bool) (i : Nat) : List UInt8 :=
  match f i with
  | some s => if left (ky i) then safe i else s
  | none => safe i
theorem part_start {D : DataW Value} {n : Nat} {f : Nat → Option (List UInt8)} (h : Told D n f) (safe : Nat → List UInt8) (i : Nat) (hi : i < n) : part safe f (Maps.has D) i = safe i := by
  unfold part
  cases hf : f i with
  | none => rfl
  | some s => simp [h.has hi, hf]
theorem sameKey_ky (i j : Nat) : (ky i).sameKey (ky j) = decide (i = j) := by
  by_cases h : i = j
  · subst h
    simp [ky, Lit.sameKey]
  · rw [Maps.sameKey_ne (fun e => h (ky_inj e))]
    simp [h]
theorem part_step (safe : Nat → List UInt8) {f : Nat → Option (List UInt8)} (left : Lit → Bool) {k : Nat} {s : List UInt8} (hf : f k = some s) (i : Nat) :
    part safe f (fun z => left z && !z.sameKey (ky k)) i = upd (part safe f left) k s i := by
  by_cases he : i = k
  · subst he
    rw [upd_same]
    simp [part, hf, sameKey_ky]
  · rw [upd_other _ _ he]
    simp [part, sameKey_ky, he]
theorem part_end {d : Dsk} {left : Lit → Bool} (h : ∀ kl, left kl = false) (i : Nat) : part d.safe d.waits left i = d.read i := by
  unfold part Dsk.read
  cases d.waits i <;> simp [h]
theorem part_length {d : Dsk} (h : d.ok) (left : Lit → Bool) (i : Nat) (hi : i < d.n) : (part d.safe d.waits left i).length = 64 := by
  unfold part
  cases hf : d.waits i with
  | none => exact h.2.2.1 i hi
  | some s =>
    show (if left (ky i) then d.safe i else s).length = 64
    split
    · exact h.2.2.1 i hi
    · exact (h.2.2.2.1 i s hf).2
theorem grown_setCells (w : World) (b o : Nat) (vs : List Value) : w.grownBy (w.setCells b o vs) (some b) := by
  obtain ⟨e1, e2, e3⟩ := os_setCells (b := b) vs o w
  exact ⟨e1, e2, e3, by rw [size_setCells]; exact Nat.le_refl _, fun k _ hk => heap_setCells (fun e => hk (by rw [e])) vs o w⟩
theorem sync_none (w : World) (p : Value) (h : Nobody w p) : Calls Try.prog 55 #[p] w (Ends (.int .i64 1) w) := by
  have HM := Lib.hid (made_none w p h)
  clear h
  go_enter Try.func55, Try.ntmps55
  go_wp2_with fail
  refine HM.out.mono ?_
  rintro e w1 ⟨rfl, rfl⟩
  go_wp2
  go_ret
  exact ⟨rfl, rfl⟩
theorem sync_off (w : World) (g gs gm : Nat) (d : Dsk) (h : Dk w g gs gm d) (ho : d.off = true) : Calls Try.prog 55 #[ptr g] w (Ends (.int .i64 3) w) := by
  have HM := Lib.hid (made_disk w g gs gm d h)
  obtain ⟨z, hz⟩ := h.six
  have c2 := hz.c2
  rw [ho] at c2
  clear hz h ho
  unfold ptr at HM ⊢
  go_enter Try.func55, Try.ntmps55
  go_wp2_with fail
  refine HM.out.mono ?_
  rintro e w1 ⟨rfl, rfl⟩
  go_wp2
  go_ret
  exact ⟨rfl, rfl⟩
theorem sync_stop (w : World) (g gs gm : Nat) (d : Dsk) (h : Dk w g gs gm d) (ho : d.off = false) (hd : d.done = false) : Calls Try.prog 55 #[ptr g] w (Now (.int .i64 3) w g gs gm d.deed) := by
  have HM := Lib.hid (made_disk w g gs gm d h)
  have HW := Lib.hid (deed_disk w g gs gm d h ho)
  rw [hd] at HW
  obtain ⟨z, hz⟩ := h.six
  have c2 := hz.c2
  rw [ho] at c2
  clear hz h ho hd
  unfold ptr at HM HW ⊢
  generalize d.deed = d' at HW ⊢
  go_enter Try.func55, Try.ntmps55
  go_wp2_with fail
  refine HM.out.mono ?_
  rintro e w1 ⟨rfl, rfl⟩
  go_wp2_with fail
  refine HW.out.mono ?_
  rintro e w1 ⟨rfl, hdk, ht⟩
  have HF := Lib.hid (And.intro hdk ht)
  clear hdk ht
  go_wp2
  go_ret
  exact ⟨rfl, HF.out.1, HF.out.2⟩
set_option maxHeartbeats 1000000 in
theorem sync_do (w : World) (g gs gm : Nat) (d : Dsk) (h : Dk w g gs gm d) (ho : d.off = false) (hd : d.done = true) : Calls Try.prog 55 #[ptr g] w (Now (.int .i64 0) w g gs gm d.deed.synced) := by
  have HM := Lib.hid (made_disk w g gs gm d h)
  have HW := Lib.hid (deed_disk w g gs gm d h ho)
  rw [hd] at HW
  obtain ⟨z, hz⟩ := h.six
  have c2 := hz.c2
  rw [ho] at c2
  clear hz h ho hd
  unfold ptr at HM HW ⊢
  generalize d.deed = d' at HW ⊢
  go_enter Try.func55, Try.ntmps55
  go_wp2_with fail
  refine HM.out.mono ?_
  rintro e w1 ⟨rfl, rfl⟩
  go_wp2_with fail
  refine HW.out.mono ?_
  rintro e w1 ⟨rfl, hdk, ht⟩
  clear c2
  obtain ⟨z1, hz1⟩ := hdk.six
  have c1 := hz1.c1
  obtain ⟨nn, D, hown, hnn, hT⟩ := hdk.mp
  have HD := Lib.hid hdk
  have HT := Lib.hid ht
  have HTD := Lib.hid hT
  clear hdk ht hz1 hnn hT
  go_wp2_with (first
    | (at_range; refine wpList_range_own _ rfl _ 55 rfl 3 69 key3 Try.underlying55 R0 gm nn D rfl hown ?_; intro w0 hrg0 hg0 hs0)
    | go_in)
  go_frame
  clear c1
  go_loopw [3] (fun _ wr => ∃ left cnt, wr.ranges Try.prog 3 R0 gm w1.heap.size nn D left cnt ∧ Sf wr gs d'.n (part d'.safe d'.waits left) ∧ wr.heap[g]? = w1.heap[g]? ∧ Turn [gs] w1 wr)
    (fun _ wr => wr.rangeLeft gm w1.heap.size)
  case atStart =>
    have hdk := HD.out
    exact ⟨_, _, hrg0, (hdk.sf.keep (hg0.block gs hdk.sf.1 (by simp)) hg0.size).same fun i hi => part_start HTD.out _ i hi, hg0.block g hdk.lt (by simp), (Turn.refl _ _).grown hg0 (by simp)⟩
  case round =>
    obtain ⟨left, cnt, hrg, hsf, hgg, htr⟩ := hrel
    obtain ⟨wo, rfl⟩ : ∃ wo : World, wo = wr := ⟨_, rfl⟩
    go_wp2_with (first
      | (at_next; (with_reducible refine wpList_next_sec wo gm w1.heap.size d'.n nn d'.waits D left cnt HTD.out hrg ?_ ?_ ?_); exact ⟨rfl, _, rfl, rfl⟩)
      | go_in)
    · -- nothing is left
      intro hl0
      have hown2 := hrg.owns
      obtain ⟨z2, hz2⟩ := HD.out.six
      have c1 : wo.cell? ⟨g, 1, none⟩ = some (.map (some gm)) := (World.cell?_of_block (w := w1) hgg).trans hz2.c1
      have HMP := Lib.hid (Mp.made hown2 HTD.out)
      have HH := Lib.hid (And.intro hl0 (And.intro hsf (And.intro hgg htr)))
      clear hl0 hown2 hz2 hsf hgg htr hrg
      go_wp2_with (first
        | ((with_reducible refine wpList_clear wo gm d'.n d'.waits HMP.out ?_ ?_); exact ⟨rfl, _, rfl, rfl⟩; intro w4 hm4 hg4; have HQ := Lib.hid (And.intro hm4 hg4); clear hm4 hg4)
        | go_in)
      go_ret
      obtain ⟨hl0, hsf, hgg, htr⟩ := HH.out
      obtain ⟨hm4, hg4⟩ := HQ.out
      have hdk := HD.out
      obtain ⟨z2, hz2⟩ := hdk.hd
      have hng : g < wo.heap.size := Nat.lt_of_lt_of_le hdk.lt htr.size
      refine ⟨rfl, ⟨Dsk.synced_ok hdk.ok, hdk.ne, ⟨z2, ?_⟩, ?_, hm4⟩, ?_⟩
      · exact (hg4.block g hng (by simp; exact hdk.nem)).trans (hgg.trans hz2)
      · exact (hsf.keep (hg4.block gs hsf.1 (by simp; exact hdk.nes)) hg4.size).same fun i _ => (part_end hl0 i).symm
      · exact HT.out.then_ ((htr.more (S' := [gs, gm]) (by simp)).grown hg4 (fun k hk => .inl (by cases hk; simp))) (by simp)
    · -- a sector has come
      intro i s w2 cnt2 hi hf hlk hrg2 hlt hg2 hs2 hen
      have hdk := HD.out
      obtain ⟨z2, hz2⟩ := hdk.six
      have hgl : g < w2.heap.size := by have := hdk.lt; have := htr.size; omega
      have e2 : w2.heap[g]? = w1.heap[g]? := (hg2.block g (Nat.lt_of_lt_of_le hdk.lt htr.size) (by simp; exact fun e => absurd hdk.lt (by omega))).trans hgg
      have c0 : w2.cell? ⟨g, 0, none⟩ = some (.slice (some ⟨gs, 0, none⟩) d'.n d'.n) := (World.cell?_of_block (w := w1) e2).trans hz2.c0
      have i0 : (0 : Int) ≤ i := by omega
      have i1 : (i : Int) < d'.n := by omega
      have HS := Lib.hid (hdk.ok.2.2.2.1 i s hf).2
      have hsf2 : Sf w2 gs d'.n (part d'.safe d'.waits left) := hsf.keep (hg2.block gs hsf.1 (by simp; exact fun e => absurd hdk.sf.1 (by omega))) (by omega)
      have CX := Lib.hid (show (w2.alloc (.cells (cel s).toArray 69)).cell? ⟨g, 0, none⟩ = some (.slice (some ⟨gs, 0, none⟩) d'.n d'.n) from (World.cell?_of_block (w := w2) (Below.heap_alloc w2 _ g hgl)).trans c0)
      have HTH := Lib.hid ((World.there_drew _ _ _ _).2 (World.there_alloc (hsf2.at_ hi) (.cells (cel s).toArray 69)))
      have HSE := Lib.hid ((World.rangeAt_drew _ _ _ _).2 (Sec1.range (show Sec1 (w2.alloc (.cells (cel s).toArray 69)) w2.heap.size s from heap_alloc_last w2 _)))
      have HH := Lib.hid (And.intro hi (And.intro hf (And.intro hrg2 (And.intro hlt (And.intro hg2 (And.intro hs2 (And.intro e2 hsf2)))))))
      have HR := Lib.hid (And.intro hrg (And.intro hgg htr))
      clear hs2 hsf2 hg2 hrg2 hlt hlk hf hi hz2 hdk hrg hsf hgg htr e2
      go_upto_region 8 with (first
        | ((with_reducible refine wpList_alloc49 w2 ?_ ?_); exact ⟨rfl, rfl⟩)
        | ((with_reducible refine wpList_store49 w2 w2.heap.size _ s rfl ?_ ?_ HS.out ?_); exact ⟨rfl, _, _, rfl, rfl, rfl⟩; rfl)
        | go_in)
      obtain ⟨X, hX⟩ : ∃ X, X = w2.alloc (.cells (cel s).toArray 69) := ⟨_, rfl⟩
      rw [← hX] at CX HTH HSE ⊢
      have HX := Lib.hid hX
      clear c0 hX
      have c0 := CX.out
      refine wp_region_still_tail 7 (by kernel_rfl) (by kernel_rfl) ?_
      simp only [List.take_succ_cons, List.take_zero, List.drop_succ_cons, List.drop_zero]
      iterate 5 still_step
      refine still_load49 w2.heap.size 0 s _ rfl rfl HS.out HSE.out rfl ?_
      simp only [Act.put, List.setIfInBounds_toArray, List.set_cons_zero, List.set_cons_succ]
      still_step
      refine wpStill_nil ?_
      change wpList _ _ _ _ _ X.drew
      refine wpList_storeMid _ gs (i * 64) s HTH.out HS.out ⟨rfl, _, _, rfl, rfl, rfl⟩ ?_
      go_frame
      have hX := HX.out
      obtain ⟨hi, hf, hrg2, hlt, hg2, hs2, e2, hsf2⟩ := HH.out
      obtain ⟨hrg, hgg, htr⟩ := HR.out
      have hdk := HD.out
      have hrX : X.ranges Try.prog 3 R0 gm w1.heap.size nn D (fun z => left z && !z.sameKey (ky i)) cnt2 := by rw [hX]; exact hrg2.alloc _
      have htX : Turn [gs] w1 X := by rw [hX]; exact (htr.grown hg2 (fun k hk => .inr (by cases hk; exact Nat.le_refl _))).alloc _
      have hsX : Sf X gs d'.n (part d'.safe d'.waits left) := by rw [hX]; exact hsf2.keep (Below.heap_alloc w2 _ gs hsf2.1) (by simp)
      have hgX : X.heap[g]? = w1.heap[g]? := by rw [hX]; exact (Below.heap_alloc w2 _ g hgl).trans e2
      have hr1 : (X.drew.setCells gs (i * 64) (cel s)).ranges Try.prog 3 R0 gm w1.heap.size nn D (fun z => left z && !z.sameKey (ky i)) cnt2 :=
        World.ranges.kept (w := X.drew) hrX (grown_setCells _ _ _ _) (by simp; exact fun e => hdk.nes e.symm) (by simp; exact fun e => absurd hdk.sf.1 (by omega))
      have hs1 : Sf (X.drew.setCells gs (i * 64) (cel s)) gs d'.n (part d'.safe d'.waits fun z => left z && !z.sameKey (ky i)) :=
        Sf.same (Sf.set (w := X.drew) hsX (part_length hdk.ok left) hi HS.out) fun j _ => part_step _ left hf j
      have hm := hr1.left_eq
      have hm0 := hrg.left_eq
      have HY := Lib.hid (And.intro hr1 (And.intro hs1 (And.intro ((heap_setCells hdk.ne (cel s) (i * 64) X.drew).trans hgX) (htX.drew.setCells (b := gs) (by simp) (i * 64) (cel s)))))
      have HZ := Lib.hid (And.intro hm (And.intro hm0 hlt))
      clear hX hi hf hrg2 hlt hg2 hs2 e2 hsf2 hrg hgg htr hdk hrX htX hsX hgX hr1 hs1 hm hm0
      go_wp2
      obtain ⟨hm, hm0, hlt⟩ := HZ.out
      rw [hm, hm0]
      exact ⟨⟨_, cnt2, HY.out⟩, hlt⟩
end Go.Proofs.Ytgjdgmpjbpnjbaa.Disk
