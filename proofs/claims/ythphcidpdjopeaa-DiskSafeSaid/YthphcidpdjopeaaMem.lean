/-
  Memory, in the words of this layer: what a call may turn; bytes and sectors in a row; the map of the sectors that wait; a disk. No condition beyond those that each law names.
-/
import Derived.Test.YthphcidpdjopeaaRows
import Derived.Test.YthphcidpdjopeaaMath
import Derived.WalkKit
import Derived.WalkSpells
import Derived.WalkLawsBesides
import Derived.Below
import Derived.OwnWalk
import Derived.Lib.Hide
import Derived.Maps.OwnSet
import Derived.Maps.RangeWalk
import Derived.Deep.MidRow
import Derived.Deep.WholeRow
import Derived.Lib.SlKeysI
namespace Go.Proofs.Ythphcidpdjopeaa
open Go.RowKit Go.Maps Go.ChangeMaps Go.MapKept
open Go.WideElems (Fit rd rg pl rd_val elemAt)
def byt (x : UInt8) : Value := .int .u8 (x.toNat : Int)
def cel (xs : List UInt8) : List Value := xs.map byt
theorem cel_length (xs : List UInt8) : (cel xs).length = xs.length := by simp [cel]
theorem cel_app (xs ys : List UInt8) : cel xs ++ cel ys = cel (xs ++ ys) := by simp [cel]
theorem cel_one (xs : List UInt8) : ∀ u ∈ cel xs, u.oneCell' = true := by
  intro u hu
  obtain ⟨x, _, rfl⟩ := List.mem_map.1 hu
  rfl
theorem cel_get (xs : List UInt8) (j : Nat) (h : j < xs.length) : (cel xs)[j]? = some (byt (xs.getD j 0)) := by simp [cel, h]
theorem cel_all (xs : List UInt8) : (cel xs).toArray.all (·.oneCell') = true := all_oneCell_toArray (cel_one xs)
theorem cel_take (xs : List UInt8) (n : Nat) : (cel xs).take n = cel (xs.take n) := by simp [cel]
theorem cel_drop (xs : List UInt8) (n : Nat) : (cel xs).drop n = cel (xs.drop n) := by simp [cel]
theorem lt_of_heap {w : World} {g : Nat} {o : Obj} (h : w.heap[g]? = some o) : g < w.heap.size := (Array.getElem?_eq_some_iff.1 h).1

/-- Only these blocks turned; what is new is new. -/
structure Turn (S : List Nat) (w w' : World) : Prop where
  os : w'.os = w.os
  tape : w'.tape = w.tape
  output : w'.output = w.output
  size : w.heap.size ≤ w'.heap.size
  block : ∀ k, k < w.heap.size → k ∉ S → w'.heap[k]? = w.heap[k]?
theorem Turn.refl (S : List Nat) (w : World) : Turn S w w := ⟨rfl, rfl, rfl, Nat.le_refl _, fun _ _ _ => rfl⟩
section
variable {S S' : List Nat} {w w1 w2 : World}
theorem Turn.then_ (h : Turn S w w1) (h2 : Turn S' w1 w2) (hS : ∀ k ∈ S', k ∈ S ∨ w.heap.size ≤ k) : Turn S w w2 :=
  ⟨h2.os.trans h.os, h2.tape.trans h.tape, h2.output.trans h.output, Nat.le_trans h.size h2.size, fun k hk hn =>
    (h2.block k (Nat.lt_of_lt_of_le hk h.size) (fun hm => by rcases hS k hm with h | h; exact hn h; omega)).trans (h.block k hk hn)⟩
theorem Turn.trans (h : Turn S w w1) (h2 : Turn S w1 w2) : Turn S w w2 := h.then_ h2 fun _ hk => .inl hk
theorem Turn.more (h : Turn S w w1) (hS : ∀ k ∈ S, k ∈ S') : Turn S' w w1 := ⟨h.os, h.tape, h.output, h.size, fun k hk hn => h.block k hk fun hm => hn (hS k hm)⟩
theorem Turn.grown (h : Turn S w w1) {row : Option Nat} (hg : w1.grownBy w2 row) (hr : ∀ k, row = some k → k ∈ S ∨ w.heap.size ≤ k) : Turn S w w2 :=
  ⟨hg.os.trans h.os, hg.tape.trans h.tape, hg.output.trans h.output, Nat.le_trans h.size hg.size, fun k hk hn =>
    (hg.block k (Nat.lt_of_lt_of_le hk h.size) (fun he => by rcases hr k he.symm with h | h; exact hn h; omega)).trans (h.block k hk hn)⟩
theorem Turn.below (h : Turn S w w1) (hb : Below w1.heap.size w1 w2) : Turn S w w2 :=
  ⟨hb.os.trans h.os, hb.tape.trans h.tape, hb.output.trans h.output, Nat.le_trans h.size hb.size, fun k hk hn => (hb.block k (Nat.lt_of_lt_of_le hk h.size)).trans (h.block k hk hn)⟩
theorem Turn.alloc (h : Turn S w w1) (o : Obj) : Turn S w (w1.alloc o) := h.grown (World.grownBy_alloc w1 o none) (by simp)
theorem Turn.drew (h : Turn S w w1) : Turn S w w1.drew := ⟨h.os, h.tape, h.output, h.size, h.block⟩
theorem Turn.drewN (h : Turn S w w1) (m : Nat) : Turn S w (w1.drewN m) := ⟨h.os, h.tape, h.output, h.size, h.block⟩
theorem Turn.setCell (h : Turn S w w1) {p : Addr} (hp : p.block ∈ S ∨ w.heap.size ≤ p.block) (u : Value) : Turn S w (w1.setCell p u) :=
  ⟨h.os, h.tape, h.output, by simp [World.setCell]; exact h.size, fun k hk hn => (Below.heap_setCell w1 p u k (by rintro rfl; rcases hp with h | h; exact hn h; omega)).trans (h.block k hk hn)⟩
theorem heap_setCells {b k : Nat} (hk : k ≠ b) : ∀ (vs : List Value) (o : Nat) (w : World), (w.setCells b o vs).heap[k]? = w.heap[k]?
  | [], _, _ => rfl
  | v :: r, o, w => (heap_setCells hk r (o + 1) (w.setCell ⟨b, o, none⟩ v)).trans (Below.heap_setCell w _ v k hk)
theorem size_setCells {b : Nat} : ∀ (vs : List Value) (o : Nat) (w : World), (w.setCells b o vs).heap.size = w.heap.size
  | [], _, _ => rfl
  | v :: r, o, w => (size_setCells r (o + 1) (w.setCell ⟨b, o, none⟩ v)).trans (by simp [World.setCell])
theorem os_setCells {b : Nat} : ∀ (vs : List Value) (o : Nat) (w : World), (w.setCells b o vs).os = w.os ∧ (w.setCells b o vs).tape = w.tape ∧ (w.setCells b o vs).output = w.output
  | [], _, _ => ⟨rfl, rfl, rfl⟩
  | v :: r, o, w => os_setCells r (o + 1) (w.setCell ⟨b, o, none⟩ v)
theorem Turn.setCells (h : Turn S w w1) {b : Nat} (hb : b ∈ S ∨ w.heap.size ≤ b) (o : Nat) (vs : List Value) : Turn S w (w1.setCells b o vs) := by
  obtain ⟨e1, e2, e3⟩ := os_setCells (b := b) vs o w1
  exact ⟨e1.trans h.os, e2.trans h.tape, e3.trans h.output, by rw [size_setCells]; exact h.size,
    fun k hk hn => (heap_setCells (by rintro rfl; rcases hb with h | h; exact hn h; omega) vs o w1).trans (h.block k hk hn)⟩
theorem Turn.low (h : Turn S w w1) {base : Nat} (hS : ∀ k ∈ S, base ≤ k) (hb : base ≤ w.heap.size) : Below base w w1 :=
  ⟨h.os, h.tape, h.output, h.size, fun k hk => h.block k (by omega) (fun hm => by have := hS k hm; omega)⟩
theorem Turn.ofBelow (h : Below w.heap.size w w1) : Turn S w w1 := (Turn.refl S w).below h
end

theorem rangeAt_keep {w w' : World} {b o : Nat} {cs : List Value} (h : w.rangeAt b o cs) (hb : w'.heap[b]? = w.heap[b]?) : w'.rangeAt b o cs := fun j v hv => (World.cell?_of_block (w := w) hb).trans (h j v hv)
theorem frozen_keep {w w' : World} {p : Addr} (hb : w'.heap[p.block]? = w.heap[p.block]?) : w'.frozen? p = w.frozen? p := by simp [World.frozen?, hb]
theorem there_keep {w w' : World} {b o n : Nat} (h : w.there b o n) (hb : w'.heap[b]? = w.heap[b]?) : w'.there b o n := fun j hj =>
  ⟨by rw [World.cell?_of_block (w := w) hb]; exact (h j hj).1, by rw [frozen_keep (w := w) hb]; exact (h j hj).2⟩
theorem there_part {w : World} {b o n o' n' : Nat} (h : w.there b o n) (h1 : o ≤ o') (h2 : o' + n' ≤ o + n) : w.there b o' n' := fun j hj => by
  have := h (o' - o + j) (by omega)
  rwa [show o + (o' - o + j) = o' + j by omega] at this
theorem there_block {w : World} {b : Nat} {C : Array Value} {t : TypeId} (hb : w.heap[b]? = some (.cells C t (0, 0))) : w.there b 0 C.size := fun j hj => by
  simp [World.cell?, World.frozen?, hb, hj]

/-- Block g, known whole: its cells, its marks. -/
theorem cell_at {w : World} {g : Nat} {cs : Array Value} {T : TypeId} (h : w.heap[g]? = some (.cells cs T (0, 0))) (i : Nat) : w.cell? ⟨g, i, none⟩ = cs[i]? := by simp [World.cell?, h]
theorem free_at {w : World} {g : Nat} {cs : Array Value} {T : TypeId} (h : w.heap[g]? = some (.cells cs T (0, 0))) (i : Nat) : w.frozen? ⟨g, i, none⟩ = false := by simp [World.frozen?, h]
theorem set_at {w : World} {g : Nat} {cs : Array Value} {T : TypeId} (h : w.heap[g]? = some (.cells cs T (0, 0))) (i : Nat) (u : Value) :
    (w.setCell ⟨g, i, none⟩ u).heap[g]? = some (.cells (cs.setIfInBounds i u) T (0, 0)) := by simp [World.setCell, Array.getElem?_modify, h]

/-- A sector as a value; how the map's elements read: as themselves. -/
def secV (s : List UInt8) : Value := .agg (cel s).toArray
def R0 : Value → Option (DataW Value × List MemPlace) := fun v => some (.held v, [])
def ky (i : Nat) : Lit := .int .i64 i
/-- The datum tells, of the sectors below n, just those that wait. -/
def Told (D : DataW Value) (n : Nat) (f : Nat → Option (List UInt8)) : Prop :=
  (∀ kl, Maps.has D kl = true → ∃ i : Nat, i < n ∧ kl = ky i) ∧
  ∀ i : Nat, i < n → (f i = none → Maps.has D (ky i) = false) ∧ (∀ s, f i = some s → ∀ z, D.atKey (ky i) z = .held (secV s))
theorem ky_inj {i j : Nat} (h : ky i = ky j) : i = j := by
  have h1 : ((i : Nat) : Int) = (j : Nat) := by simpa [ky] using h
  omega
theorem Told.empty (n : Nat) : Told (.map []) n fun _ => none :=
  ⟨fun kl h => by simp [Maps.has] at h, fun i _ => ⟨fun _ => by simp [Maps.has], fun s h => by cases h⟩⟩
theorem Told.has {D : DataW Value} {n : Nat} {f : Nat → Option (List UInt8)} (h : Told D n f) {i : Nat} (hi : i < n) : Maps.has D (ky i) = (f i).isSome := by
  cases hf : f i with
  | none => exact (h.2 i hi).1 hf
  | some s => exact Maps.has_true_of_atKey ((h.2 i hi).2 s hf)
theorem isKey_ky (i : Nat) : WideAt.IsKeyLit (ky i) := by first | exact trivial | simp [ky, WideAt.IsKeyLit]
theorem Told.put {D : DataW Value} {n : Nat} {f : Nat → Option (List UInt8)} (h : Told D n f) (hD : Maps.IsMap D) {i : Nat} (hi : i < n) (s : List UInt8) :
    Told (D.put (ky i) (.held (secV s))) n (upd f i (some s)) := by
  refine ⟨fun kl hk => ?_, fun j hj => ?_⟩
  · by_cases he : kl = ky i
    · exact ⟨i, hi, he⟩
    · rw [Maps.has_put_other he] at hk
      exact h.1 kl hk
  · by_cases he : j = i
    · subst he
      rw [upd_same]
      refine ⟨fun h => (by cases h), fun t ht z => ?_⟩
      injection ht with ht
      subst ht
      exact Maps.atKey_put_same hD (isKey_ky j) _ z
    · rw [upd_other f _ he, Maps.has_put_other (fun e => he (ky_inj e))]
      exact ⟨(h.2 j hj).1, fun t ht z => by rw [Maps.atKey_put_other (fun e => he (ky_inj e))]; exact (h.2 j hj).2 t ht z⟩
/-- Every key is an int. -/
def Ints (D : DataW Value) : Prop := ∀ es, D = .map es → ∀ p ∈ es, ∃ x, p.1 = Lit.int .i64 x
theorem ints_of {w : World} {gm nn : Nat} {D : DataW Value} (h : w.ownsMap Try.prog 3 R0 gm nn D) : Ints D := by
  obtain ⟨es, hD, hko⟩ := h.keysOf
  intro es' he p hp
  rw [hD] at he
  injection he with he
  subst he
  obtain ⟨v, hv⟩ := hko p hp
  obtain ⟨x, _, hx, _⟩ := Maps.keyOf_i64 Try.underlying3 hv
  exact ⟨x, hx⟩
theorem Told.keys {D : DataW Value} {n : Nat} {f : Nat → Option (List UInt8)} (h : Told D n f) (hD : Maps.Tidy D) (hI : Ints D) : ((waitsOf n f).map (fun i : Nat => (i : Int))).Perm (intKeys D) := by
  obtain ⟨es, rfl, hp⟩ := hD
  refine perm_intKeys hp (hI es rfl) ?_ fun x => ?_
  · refine List.pairwise_map.2 ((waitsOf_nodup n f).imp fun {a b} hne e => hne ?_)
    omega
  · constructor
    · intro hx
      obtain ⟨i, hi, rfl⟩ := List.mem_map.1 hx
      obtain ⟨h1, h2⟩ := waitsOf_mem.1 hi
      exact (h.has h1).trans h2
    · intro hx
      obtain ⟨i, hi, he⟩ := h.1 _ hx
      have hs := (h.has hi).symm.trans (he ▸ hx)
      have he : x = (i : Int) := by simpa [ky] using he
      exact List.mem_map.2 ⟨i, waitsOf_mem.2 ⟨hi, hs⟩, he.symm⟩
theorem length_intKeys {H : Type} {D : DataW H} (hD : Maps.IsMap D) : (intKeys D).length = Maps.size D := by
  obtain ⟨es, rfl⟩ := hD
  simp [intKeys, Maps.size]
theorem Told.size {D : DataW Value} {n : Nat} {f : Nat → Option (List UInt8)} (h : Told D n f) (hD : Maps.Tidy D) (hI : Ints D) : Maps.size D ≤ n := by
  have h1 := (h.keys hD hI).length_eq
  rw [List.length_map, length_intKeys hD.isMap] at h1
  have := waitsOf_length n f
  omega
theorem Told.sorted {D : DataW Value} {n : Nat} {f : Nat → Option (List UInt8)} (h : Told D n f) (hD : Maps.Tidy D) (hI : Ints D) {ss : List Int} (hs : ss.Perm (intKeys D)) :
    ss.mergeSort (fun x y => decide (x ≤ y)) = (waitsOf n f).map fun i : Nat => (i : Int) := by
  have tr : ∀ a b c : Int, leI a b = true → leI b c = true → leI a c = true := fun a b c h1 h2 => by simp only [leI, decide_eq_true_eq] at *; omega
  have to : ∀ a b : Int, (leI a b || leI b a) = true := fun a b => by simp only [leI, Bool.or_eq_true, decide_eq_true_eq]; omega
  refine List.Perm.eq_of_pairwise (le := fun a b => leI a b = true) (fun a b _ _ h1 h2 => ?_) (List.pairwise_mergeSort tr to ss) ?_ (((List.mergeSort_perm ss leI).trans hs).trans (h.keys hD hI).symm)
  · simp only [leI, decide_eq_true_eq] at h1 h2
    omega
  · refine List.pairwise_map.2 ?_
    refine (List.Pairwise.filter _ (List.pairwise_lt_range (n := n))).imp fun {a b} hab => ?_
    simp only [leI, decide_eq_true_eq]
    omega

/-- Block gm is the map of the sectors that wait. -/
def Mp (w : World) (gm n : Nat) (f : Nat → Option (List UInt8)) : Prop := ∃ nn D, w.ownsMap Try.prog 3 R0 gm nn D ∧ nn ≤ n ∧ Told D n f
theorem Mp.keep {w w' : World} {gm n : Nat} {f : Nat → Option (List UInt8)} (h : Mp w gm n f) (hb : w'.heap[gm]? = w.heap[gm]?) : Mp w' gm n f := by
  obtain ⟨nn, D, ⟨es, c, h1, h2⟩, hn, hT⟩ := h
  exact ⟨nn, D, ⟨es, c, hb.trans h1, h2⟩, hn, hT⟩
theorem key3 : Maps.Keyed Try.prog 3 := Maps.int_keyed Try.underlying3
/-- The bound is the map's own size. -/
theorem ownsMap_fit {w : World} {gm nn : Nat} {D : DataW Value} (h : w.ownsMap Try.prog 3 R0 gm nn D) : w.ownsMap Try.prog 3 R0 gm (Maps.size D) D := by
  obtain ⟨es, c, h1, h2, h3, h4⟩ := h
  refine ⟨es, c, h1, h2, ?_, h4⟩
  rw [h4]
  simp [Maps.size, length_sorted]
theorem Mp.made {w : World} {gm n : Nat} {f : Nat → Option (List UInt8)} {nn : Nat} {D : DataW Value} (h : w.ownsMap Try.prog 3 R0 gm nn D) (hT : Told D n f) : Mp w gm n f :=
  ⟨_, D, ownsMap_fit h, hT.size (h.tidy key3) (ints_of h), hT⟩
theorem Mp.lt {w : World} {gm n : Nat} {f : Nat → Option (List UInt8)} (h : Mp w gm n f) : gm < w.heap.size := by
  obtain ⟨nn, D, h, _⟩ := h
  exact h.lt
theorem Mp.isMap {w : World} {gm n : Nat} {f : Nat → Option (List UInt8)} (h : Mp w gm n f) {k : Nat} {cs : Array Value} {T : TypeId} {fr : Nat × Nat} (hk : w.heap[k]? = some (.cells cs T fr)) : k ≠ gm := by
  obtain ⟨nn, D, ⟨es, c, h1, _⟩, _⟩ := h
  rintro rfl
  rw [h1] at hk
  cases hk

/-- Block gs holds n sectors. -/
def Sf (w : World) (gs n : Nat) (safe : Nat → List UInt8) : Prop := gs < w.heap.size ∧ w.there gs 0 (n * 64) ∧ ∀ i, i < n → w.rangeAt gs (i * 64) (cel (safe i))
theorem Sf.keep {w w' : World} {gs n : Nat} {safe : Nat → List UInt8} (h : Sf w gs n safe) (hb : w'.heap[gs]? = w.heap[gs]?) (hs : w.heap.size ≤ w'.heap.size) : Sf w' gs n safe :=
  ⟨Nat.lt_of_lt_of_le h.1 hs, there_keep h.2.1 hb, fun i hi => rangeAt_keep (h.2.2 i hi) hb⟩
theorem Sf.at_ {w : World} {gs n : Nat} {safe : Nat → List UInt8} (h : Sf w gs n safe) {i : Nat} (hi : i < n) : w.there gs (i * 64) 64 := there_part h.2.1 (by omega) (by omega)
theorem Sf.set {w : World} {gs n : Nat} {safe : Nat → List UInt8} (h : Sf w gs n safe) (hl : ∀ i, i < n → (safe i).length = 64) {i : Nat} (hi : i < n) {s : List UInt8} (hs : s.length = 64) :
    Sf (w.setCells gs (i * 64) (cel s)) gs n (upd safe i s) := by
  refine ⟨by rw [size_setCells]; exact h.1, World.there_setCells h.2.1 _ _ _, fun j hj => ?_⟩
  by_cases he : j = i
  · subst he
    rw [upd_same]
    exact World.rangeAt_setCells_same w gs _ _ (by rw [cel_length, hs]; exact h.at_ hi)
  · rw [upd_other _ _ he]
    refine World.rangeAt_setCells_apart (h.2.2 j hj) _ _ _ (.inr ?_)
    rw [cel_length, cel_length, hs, hl j hj]
    omega
theorem Sf.same {w : World} {gs n : Nat} {safe safe' : Nat → List UInt8} (h : Sf w gs n safe) (he : ∀ i, i < n → safe' i = safe i) : Sf w gs n safe' :=
  ⟨h.1, h.2.1, fun i hi => by rw [he i hi]; exact h.2.2 i hi⟩

/-- The six fields. -/
def fields (gs gm : Nat) (d : Dsk) (z : Int) : Array Value :=
  #[.slice (some ⟨gs, 0, none⟩) d.n d.n, .map (some gm), .bool d.off, .bool d.stops, .int .i64 d.left, .int .i64 z]
/-- A disk. -/
structure Dk (w : World) (g gs gm : Nat) (d : Dsk) : Prop where
  ok : d.ok
  ne : g ≠ gs
  hd : ∃ z, w.heap[g]? = some (.cells (fields gs gm d z) 46 (0, 0))
  sf : Sf w gs d.n d.safe
  mp : Mp w gm d.n d.waits
section
variable {w w' : World} {g gs gm : Nat} {d : Dsk}
theorem Dk.keep (h : Dk w g gs gm d) (h1 : w'.heap[g]? = w.heap[g]?) (h2 : w'.heap[gs]? = w.heap[gs]?) (h3 : w'.heap[gm]? = w.heap[gm]?) (hs : w.heap.size ≤ w'.heap.size) : Dk w' g gs gm d :=
  ⟨h.ok, h.ne, by obtain ⟨z, hz⟩ := h.hd; exact ⟨z, h1.trans hz⟩, h.sf.keep h2 hs, h.mp.keep h3⟩
theorem Dk.lt (h : Dk w g gs gm d) : g < w.heap.size := by obtain ⟨z, hz⟩ := h.hd; exact lt_of_heap hz
theorem Dk.ltm (h : Dk w g gs gm d) : gm < w.heap.size := h.mp.lt
theorem Dk.nem (h : Dk w g gs gm d) : g ≠ gm := by obtain ⟨z, hz⟩ := h.hd; exact h.mp.isMap hz
theorem Dk.nes (h : Dk w g gs gm d) : gs ≠ gm := by
  have h0 := (h.sf.2.1 0 (by have := h.ok.1; omega)).1
  obtain ⟨nn, D, ⟨es, c, h1, _⟩, _⟩ := h.mp
  rintro rfl
  simp [World.cell?, h1] at h0
theorem Dk.turn {S : List Nat} (h : Dk w g gs gm d) (ht : Turn S w w') (h1 : g ∉ S) (h2 : gs ∉ S) (h3 : gm ∉ S) : Dk w' g gs gm d :=
  h.keep (ht.block g h.lt h1) (ht.block gs h.sf.1 h2) (ht.block gm h.ltm h3) ht.size
theorem Dk.alloc (h : Dk w g gs gm d) (o : Obj) : Dk (w.alloc o) g gs gm d := h.turn ((Turn.refl [] w).alloc o) (by simp) (by simp) (by simp)
theorem Dk.drewN (h : Dk w g gs gm d) (m : Nat) : Dk (w.drewN m) g gs gm d := h.turn ((Turn.refl [] w).drewN m) (by simp) (by simp) (by simp)
end
end Go.Proofs.Ythphcidpdjopeaa
