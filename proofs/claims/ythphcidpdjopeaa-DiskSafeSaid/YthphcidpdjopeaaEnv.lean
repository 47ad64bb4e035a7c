/-
  What the law holds: a disk; two arrays of eight slices of bytes; what a Sync and a Write leave, told together.
-/
import Derived.Test.YthphcidpdjopeaaKnows
namespace Go.Proofs.Ythphcidpdjopeaa
open Go.RowKit Go.Maps
def sl (k : Nat) : Value := .slice (some ⟨k, 0, none⟩) 64 64
def row8 (f : Nat → Value) : Array Value := ((List.range 8).map f).toArray
theorem row8_size (f : Nat → Value) : (row8 f).size = 8 := by simp [row8]
theorem row8_get (f : Nat → Value) {j : Nat} (h : j < 8) : (row8 f)[j]? = some (f j) := by
  unfold row8
  rw [List.getElem?_toArray, List.getElem?_map, List.getElem?_range h]
  rfl
theorem row8_set (f : Nat → Value) (i : Nat) (v : Value) : (row8 f).setIfInBounds i v = row8 (upd f i v) := by
  apply Array.ext_getElem?
  intro j
  rw [Array.getElem?_setIfInBounds, row8_size]
  by_cases hj : j < 8
  · rw [row8_get _ hj, row8_get _ hj]
    by_cases he : i = j
    · subst he
      rw [if_pos rfl, if_pos hj, upd_same]
    · rw [if_neg he, upd_other _ _ (fun e => he e.symm)]
  · have e1 : (row8 f)[j]? = none := Array.getElem?_eq_none (by rw [row8_size]; omega)
    have e2 : (row8 (upd f i v))[j]? = none := Array.getElem?_eq_none (by rw [row8_size]; omega)
    rw [e1, e2]
    split
    · rw [if_neg (by omega)]
    · rfl
theorem row8_one (f : Nat → Value) (h : ∀ j, j < 8 → (f j).oneCell' = true) : (row8 f).all (·.oneCell') = true := by
  refine all_oneCell_toArray fun v hv => ?_
  obtain ⟨j, hj, rfl⟩ := List.mem_map.1 hv
  exact h j (List.mem_range.1 hj)
def Byt1 (w : World) (b : Nat) (s : List UInt8) : Prop := w.heap[b]? = some (.cells (cel s).toArray 5 (0, 0))
def Row1 (w : World) (b : Nat) (f : Nat → Value) : Prop := w.heap[b]? = some (.cells (row8 f) 30 (0, 0))
structure Env (w : World) (base g gs gm sA lA : Nat) (d : Dsk) (sv lv : Nat → Nat) (S L : Nat → List UInt8) : Prop where
  dk : Dk w g gs gm d
  sr : Row1 w sA fun j => sl (sv j)
  lr : Row1 w lA fun j => sl (lv j)
  ne : sA ≠ lA
  so : sA ∉ [g, gs, gm]
  lo : lA ∉ [g, gs, gm]
  sb : ∀ j, j < 8 → Byt1 w (sv j) (S j) ∧ sv j ∉ [g, gs, gm]
  lb : ∀ j, j < 8 → Byt1 w (lv j) (L j) ∧ lv j ∉ [g, gs, gm]
  low : ∀ k ∈ [g, gs, gm, sA, lA], base ≤ k
section
variable {w w' : World} {base g gs gm sA lA : Nat} {d d' : Dsk} {sv lv : Nat → Nat} {S L : Nat → List UInt8}
theorem Env.disk (h : Env w base g gs gm sA lA d sv lv S L) (hd : Dk w' g gs gm d') (ht : Turn [g, gs, gm] w w') : Env w' base g gs gm sA lA d' sv lv S L :=
  ⟨hd, (ht.block sA (lt_of_heap h.sr) h.so).trans h.sr, (ht.block lA (lt_of_heap h.lr) h.lo).trans h.lr, h.ne, h.so, h.lo,
    fun j hj => ⟨(ht.block _ (lt_of_heap (h.sb j hj).1) (h.sb j hj).2).trans (h.sb j hj).1, (h.sb j hj).2⟩,
    fun j hj => ⟨(ht.block _ (lt_of_heap (h.lb j hj).1) (h.lb j hj).2).trans (h.lb j hj).1, (h.lb j hj).2⟩, h.low⟩
theorem Env.gone (h : Env w base g gs gm sA lA d sv lv S L) (ht : Turn [] w w') : Env w' base g gs gm sA lA d sv lv S L :=
  h.disk (h.dk.turn ht (by simp) (by simp) (by simp)) (ht.more (by simp))
theorem Env.lowDisk (h : Env w base g gs gm sA lA d sv lv S L) : ∀ k ∈ [g, gs, gm], base ≤ k := fun k hk => h.low k (by
  simp at hk ⊢
  rcases hk with rfl | rfl | rfl <;> simp)
/-- A block that turned, of bytes, or of slices, is none of the others. -/
theorem byt_ne_row {w : World} {b k : Nat} {s : List UInt8} {f : Nat → Value} (h : Byt1 w b s) (hk : Row1 w k f) : b ≠ k := by
  rintro rfl
  unfold Byt1 at h
  unfold Row1 at hk
  rw [h] at hk
  injection hk with hk
  injection hk with _ ht
  cases ht
theorem Env.last (h : Env w base g gs gm sA lA d sv lv S L) {a k : Nat} {s : List UInt8} (hk : Byt1 w k s) (hn : k ∉ [g, gs, gm]) :
    Env (w.setCell ⟨lA, a, none⟩ (sl k)) base g gs gm sA lA d sv (upd lv a k) S (upd L a s) := by
  have ht : Turn [lA] w (w.setCell ⟨lA, a, none⟩ (sl k)) := (Turn.refl _ _).setCell (by simp) _
  have hl := h.lo
  simp at hl
  have keepB : ∀ b t, Byt1 w b t → Byt1 (w.setCell ⟨lA, a, none⟩ (sl k)) b t := fun b t hb => (ht.block b (lt_of_heap hb) (by simp; exact byt_ne_row hb h.lr)).trans hb
  refine ⟨h.dk.turn ht (by simp; exact fun e => hl.1 e.symm) (by simp; exact fun e => hl.2.1 e.symm) (by simp; exact fun e => hl.2.2 e.symm), (ht.block sA (lt_of_heap h.sr) (by simp; exact h.ne)).trans h.sr, ?_, h.ne, h.so, h.lo,
    fun j hj => ⟨keepB _ _ (h.sb j hj).1, (h.sb j hj).2⟩, fun j hj => ?_, h.low⟩
  · have e : (fun j => sl (upd lv a k j)) = upd (fun j => sl (lv j)) a (sl k) := by
      funext j
      unfold upd
      split <;> rfl
    rw [Row1, e, ← row8_set]
    exact set_at h.lr a _
  · by_cases he : j = a
    · subst he
      rw [upd_same, upd_same]
      exact ⟨keepB _ _ hk, hn⟩
    · rw [upd_other _ _ he, upd_other _ _ he]
      exact ⟨keepB _ _ (h.lb j hj).1, (h.lb j hj).2⟩
theorem Env.copied (h : Env w base g gs gm sA lA d sv lv S L) : Env (w.setRow sA (row8 fun j => sl (lv j))) base g gs gm sA lA d lv lv L L := by
  have hh : ∀ k, k ≠ sA → (w.setRow sA (row8 fun j => sl (lv j))).heap[k]? = w.heap[k]? := fun k hk => setRow_other w sA k _ hk
  have hs := h.so
  simp at hs
  have keepB : ∀ b t, Byt1 w b t → Byt1 (w.setRow sA (row8 fun j => sl (lv j))) b t := fun b t hb => (hh b (byt_ne_row hb h.sr)).trans hb
  refine ⟨h.dk.keep (hh g (fun e => hs.1 e.symm)) (hh gs (fun e => hs.2.1 e.symm)) (hh gm (fun e => hs.2.2 e.symm)) (by simp), setRow_heap w sA _ _ 30 _ h.sr, (hh lA (fun e => h.ne e.symm)).trans h.lr, h.ne, h.so, h.lo,
    fun j hj => ⟨keepB _ _ (h.lb j hj).1, (h.lb j hj).2⟩, fun j hj => ⟨keepB _ _ (h.lb j hj).1, (h.lb j hj).2⟩, h.low⟩
end
theorem below_row {base : Nat} {w w1 : World} (h : Below base w w1) {b : Nat} (hb : base ≤ b) (c : Array Value) : Below base w (w1.setRow b c) :=
  ⟨h.os, h.tape, h.output, by simp; exact h.size, fun k hk => (setRow_other w1 b k c (by omega)).trans (h.block k hk)⟩
/-- What the arrays hold is the disk's. -/
def Agree (d : Dsk) (S L : Nat → List UInt8) : Prop := d.n = 8 ∧ ∀ j, j < 8 → S j = d.safe j ∧ L j = d.read j
theorem Agree.deed {d : Dsk} {S L : Nat → List UInt8} (h : Agree d S L) : Agree d.deed S L := by
  obtain ⟨e1, e2, e3⟩ := d.deed_parts
  refine ⟨e1.trans h.1, fun j hj => ?_⟩
  unfold Dsk.read
  rw [e2, e3]
  exact h.2 j hj
theorem Agree.synced {d : Dsk} {S L : Nat → List UInt8} (h : Agree d S L) : Agree d.synced L L := ⟨h.1, fun j hj => ⟨(h.2 j hj).2, by rw [(h.2 j hj).2]; simp [Dsk.read, Dsk.synced]⟩⟩
theorem Agree.put {d : Dsk} {S L : Nat → List UInt8} (h : Agree d S L) (a : Nat) (s : List UInt8) : Agree (d.put a s) S (upd L a s) :=
  ⟨h.1, fun j hj => ⟨(h.2 j hj).1, by
    by_cases he : j = a
    · subst he
      simp [Dsk.read, Dsk.put, upd]
    · rw [upd_other _ _ he, (h.2 j hj).2]
      simp [Dsk.read, Dsk.put, upd, he]⟩⟩
theorem Agree.stop {d : Dsk} {S L : Nat → List UInt8} (h : Agree d S L) (k : Int) : Agree (d.stop k) S L := h
/-- Sync, told together. -/
def Synced (w : World) (g gs gm : Nat) (d : Dsk) (e : Ending) (w' : World) : Prop :=
  ∃ d', Dk w' g gs gm d' ∧ Turn [g, gs, gm] w w' ∧ ((e = .returned (.int .i64 0) ∧ ∀ S L, Agree d S L → Agree d' L L) ∨ (e = .returned (.int .i64 3) ∧ ∀ S L, Agree d S L → Agree d' S L))
theorem sync_any (w : World) (g gs gm : Nat) (d : Dsk) (h : Dk w g gs gm d) : Calls Try.prog 7 #[ptr g] w (Synced w g gs gm d) := by
  cases ho : d.off
  · cases hd : d.done
    · refine (sync_stop w g gs gm d h ho hd).mono ?_
      rintro e w' ⟨rfl, hdk, ht⟩
      exact ⟨_, hdk, ht, .inr ⟨rfl, fun S L ha => ha.deed⟩⟩
    · refine (sync_do w g gs gm d h ho hd).mono ?_
      rintro e w' ⟨rfl, hdk, ht⟩
      exact ⟨_, hdk, ht, .inl ⟨rfl, fun S L ha => ha.deed.synced⟩⟩
  · refine (sync_off w g gs gm d h ho).mono ?_
    rintro e w' ⟨rfl, rfl⟩
    exact ⟨d, h, Turn.refl _ _, .inr ⟨rfl, fun S L ha => ha⟩⟩
/-- Write, told together. -/
def Wrote (w : World) (g gs gm a : Nat) (s : List UInt8) (d : Dsk) (e : Ending) (w' : World) : Prop :=
  ∃ d', Dk w' g gs gm d' ∧ Turn [g, gs, gm] w w' ∧ ((e = .returned (.int .i64 0) ∧ ∀ S L, Agree d S L → Agree d' S (upd L a s)) ∨ (e = .returned (.int .i64 3) ∧ ∀ S L, Agree d S L → Agree d' S L))
theorem write_any (w : World) (g gs gm : Nat) (d : Dsk) (h : Dk w g gs gm d) (a k : Nat) (s : List UInt8) (ha : a < d.n) (hs : s.length = 64) (hk : Byt1 w k s) (hn : k ∉ [g, gs, gm]) :
    Calls Try.prog 8 #[ptr g, .int .i64 a, .slice (some ⟨k, 0, none⟩) 64 64] w (Wrote w g gs gm a s d) := by
  cases ho : d.off
  · cases hd : d.done
    · refine (write_stop w g gs gm d h ho hd a ha _ 64).mono ?_
      rintro e w' ⟨rfl, hdk, ht⟩
      exact ⟨_, hdk, ht, .inr ⟨rfl, fun S L hg => hg.deed⟩⟩
    · refine (write_do w g gs gm d h ho hd a ha k 0 64 s hs (range_of hk) hn (lt_of_heap hk)).mono ?_
      rintro e w' ⟨rfl, hdk, ht⟩
      exact ⟨_, hdk, ht, .inl ⟨rfl, fun S L hg => hg.deed.put a s⟩⟩
  · refine (write_off w g gs gm d h ho a _).mono ?_
    rintro e w' ⟨rfl, rfl⟩
    exact ⟨d, h, Turn.refl _ _, .inr ⟨rfl, fun S L hg => hg⟩⟩
end Go.Proofs.Ythphcidpdjopeaa
