/-
  The law's walk: what comes in; the eight slices that are made at first.
-/
import Derived.Test.YthphcidpdjopeaaEnv
import Derived.Laws.IdiomStrings
import Derived.WalkLawsBesides
namespace Go.Proofs.Ythphcidpdjopeaa
open Go.RowKit Go.Maps
structure ActR where
  kind : Int
  a : Int
  b : UInt8
/-- The k-th act, and where it lies. -/
def ActAt (w : World) (base : Nat) (A : Option Addr) (n k : Nat) (x : ActR) (b o : Nat) : Prop :=
  b < base ∧ (∀ c w', (Instr.indexAt 22 (.slice A n c) (.int .i64 k)).run Try.prog w' = .ok (.pointer (some ⟨b, o, none⟩)) w') ∧
    w.cell? ⟨b, o, none⟩ = some (.int .i64 x.kind) ∧ w.cell? ⟨b, o + 1, none⟩ = some (.int .i64 x.a) ∧ w.cell? ⟨b, o + 3, none⟩ = some (byt x.b) ∧
    -9223372036854775808 ≤ x.a ∧ x.a ≤ 9223372036854775807
def Acts (w : World) (base : Nat) (A : Option Addr) (n : Nat) : Prop := ∀ k, k < n → ∃ x b o, ActAt w base A n k x b o
theorem ActAt.below {w w' : World} {base : Nat} {A : Option Addr} {n k : Nat} {x : ActR} {b o : Nat} (h : ActAt w base A n k x b o) (hb : Below base w w') : ActAt w' base A n k x b o :=
  ⟨h.1, h.2.1, (World.cell?_of_block (w := w) (hb.block b h.1)).trans h.2.2.1, (World.cell?_of_block (w := w) (hb.block b h.1)).trans h.2.2.2.1, (World.cell?_of_block (w := w) (hb.block b h.1)).trans h.2.2.2.2.1, h.2.2.2.2.2⟩
/-- The slice of n ints at A is zs; it lies below base. -/
def NumsB (w : World) (base : Nat) (A : Option Addr) (n : Nat) (zs : List Int) : Prop :=
  zs.length = n ∧ (0 < n → ∃ b off, A = some ⟨b, off, none⟩ ∧ b < base ∧ ∀ j, j < n → w.cell? ⟨b, off + j, none⟩ = some (.int .i64 (zs.getD j 0)))
theorem NumsB.nums {w w' : World} {base : Nat} {A : Option Addr} {n : Nat} {zs : List Int} (h : NumsB w base A n zs) (hb : Below base w w') (hs : base ≤ w'.heap.size) {S : List Nat} (hS : ∀ k ∈ S, base ≤ k) : Nums w' S A n zs :=
  ⟨h.1, fun hn => by
    obtain ⟨b, off, e, hlt, hc⟩ := h.2 hn
    exact ⟨b, off, e, fun hm => by have := hS b hm; omega, by omega, fun j hj => (World.cell?_of_block (w := w) (hb.block b hlt)).trans (hc j hj)⟩⟩
/-- So far i of the eight are made. -/
def mix (i : Nat) (sv : Nat → Nat) (j : Nat) : Value := if j < i then sl (sv j) else .slice none 0 0
structure Pre (w : World) (base g gs gm sA lA : Nat) (i : Nat) (sv : Nat → Nat) : Prop where
  dk : Dk w g gs gm (fresh 8)
  sr : Row1 w sA (mix i sv)
  lr : Row1 w lA (mix i sv)
  ne : sA ≠ lA
  so : sA ∉ [g, gs, gm]
  lo : lA ∉ [g, gs, gm]
  sb : ∀ j, j < i → Byt1 w (sv j) nul ∧ sv j ∉ [g, gs, gm]
  low : ∀ k ∈ [g, gs, gm, sA, lA], base ≤ k
theorem Row1.ext {w : World} {b : Nat} {f f' : Nat → Value} (h : Row1 w b f) (he : ∀ j, j < 8 → f' j = f j) : Row1 w b f' := by
  have e : row8 f' = row8 f := by
    unfold row8
    congr 1
    exact List.map_congr_left fun j hj => he j (List.mem_range.1 hj)
  rw [Row1, e]
  exact h
theorem mix_step (i : Nat) (sv : Nat → Nat) (k j : Nat) : mix (i + 1) (upd sv i k) j = upd (mix i sv) i (sl k) j := by
  unfold mix upd
  by_cases he : j = i
  · subst he
    simp
  · by_cases h2 : j < i
    · simp [he, h2, show j < i + 1 by omega]
    · simp [he, h2, show ¬ j < i + 1 by omega]
/-- A round: a new row k, into both arrays. -/
theorem Pre.step {w : World} {base g gs gm sA lA i : Nat} {sv : Nat → Nat} (h : Pre w base g gs gm sA lA i sv) :
    Pre (((w.alloc (.cells (cel nul).toArray 5)).setCell ⟨sA, i, none⟩ (sl w.heap.size)).setCell ⟨lA, i, none⟩ (sl w.heap.size)) base g gs gm sA lA (i + 1) (upd sv i w.heap.size) := by
  have t1 : Turn [sA, lA] w (((w.alloc (.cells (cel nul).toArray 5)).setCell ⟨sA, i, none⟩ (sl w.heap.size)).setCell ⟨lA, i, none⟩ (sl w.heap.size)) := (((Turn.refl [sA, lA] w).alloc _).setCell (by simp) _).setCell (by simp) _
  have hs := h.so
  have hl := h.lo
  simp at hs hl
  have hsl := lt_of_heap h.sr
  have hll := lt_of_heap h.lr
  have k1 : (((w.alloc (.cells (cel nul).toArray 5)).setCell ⟨sA, i, none⟩ (sl w.heap.size)).setCell ⟨lA, i, none⟩ (sl w.heap.size)).heap[w.heap.size]? = some (.cells (cel nul).toArray 5 (0, 0)) :=
    (Below.heap_setCell _ _ _ _ (by show w.heap.size ≠ lA; omega)).trans ((Below.heap_setCell _ _ _ _ (by show w.heap.size ≠ sA; omega)).trans (heap_alloc_last w _))
  have ks : (w.alloc (.cells (cel nul).toArray 5)).heap[sA]? = some (.cells (row8 (mix i sv)) 30 (0, 0)) := (Below.heap_alloc w _ sA hsl).trans h.sr
  have kl : ((w.alloc (.cells (cel nul).toArray 5)).setCell ⟨sA, i, none⟩ (sl w.heap.size)).heap[lA]? = some (.cells (row8 (mix i sv)) 30 (0, 0)) :=
    (Below.heap_setCell _ _ _ _ (by exact fun e => h.ne e.symm)).trans ((Below.heap_alloc w _ lA hll).trans h.lr)
  refine ⟨h.dk.turn t1 (by simp; exact ⟨fun e => hs.1 e.symm, fun e => hl.1 e.symm⟩) (by simp; exact ⟨fun e => hs.2.1 e.symm, fun e => hl.2.1 e.symm⟩) (by simp; exact ⟨fun e => hs.2.2 e.symm, fun e => hl.2.2 e.symm⟩), ?_, ?_, h.ne, h.so, h.lo, fun j hj => ?_, h.low⟩
  · have e : Row1 (((w.alloc (.cells (cel nul).toArray 5)).setCell ⟨sA, i, none⟩ (sl w.heap.size)).setCell ⟨lA, i, none⟩ (sl w.heap.size)) sA (upd (mix i sv) i (sl w.heap.size)) :=
      (Below.heap_setCell _ _ _ _ (by exact h.ne)).trans (by rw [← row8_set]; exact set_at ks i _)
    exact e.ext fun j _ => mix_step i sv _ j
  · have e : Row1 (((w.alloc (.cells (cel nul).toArray 5)).setCell ⟨sA, i, none⟩ (sl w.heap.size)).setCell ⟨lA, i, none⟩ (sl w.heap.size)) lA (upd (mix i sv) i (sl w.heap.size)) := by
      rw [Row1, ← row8_set]
      exact set_at kl i _
    exact e.ext fun j _ => mix_step i sv _ j
  · by_cases he : j = i
    · subst he
      rw [upd_same]
      exact ⟨k1, h.dk.notIn (Nat.le_refl _)⟩
    · rw [upd_other _ _ he]
      have hb := (h.sb j (by omega)).1
      exact ⟨(t1.block _ (lt_of_heap hb) (by simp; exact ⟨byt_ne_row hb h.sr, byt_ne_row hb h.lr⟩)).trans hb, (h.sb j (by omega)).2⟩
theorem Pre.env {w : World} {base g gs gm sA lA : Nat} {sv : Nat → Nat} (h : Pre w base g gs gm sA lA 8 sv) : Env w base g gs gm sA lA (fresh 8) sv sv (fun _ => nul) (fun _ => nul) :=
  ⟨h.dk, h.sr.ext fun j hj => by simp [mix, hj], h.lr.ext fun j hj => by simp [mix, hj], h.ne, h.so, h.lo, h.sb, h.sb, h.low⟩
theorem fresh_agree : Agree (fresh 8) (fun _ => nul) (fun _ => nul) := ⟨rfl, fun _ _ => ⟨rfl, rfl⟩⟩
theorem Pre.start {w : World} {base g gs gm : Nat} (h : Dk w g gs gm (fresh 8)) (hlow : ∀ k ∈ [g, gs, gm], base ≤ k) (hb : base ≤ w.heap.size) :
    Pre ((w.alloc (.cells (row8 fun _ => .slice none 0 0) 30)).alloc (.cells (row8 fun _ => .slice none 0 0) 30)) base g gs gm w.heap.size (w.heap.size + 1) 0 id := by
  have h1 := heap_alloc_last (w.alloc (.cells (row8 fun _ => .slice none 0 0) 30)) (.cells (row8 fun _ => .slice none 0 0) 30)
  rw [World.size_alloc] at h1
  refine ⟨(h.alloc _).alloc _, ?_, h1, by omega, h.notIn (Nat.le_refl _), h.notIn (by omega), fun j hj => by omega, fun k hk => ?_⟩
  · exact (Below.heap_alloc _ _ _ (by simp)).trans (heap_alloc_last w _)
  · simp at hk hlow
    rcases hk with rfl | rfl | rfl | rfl | rfl
    · exact hlow.1
    · exact hlow.2.1
    · exact hlow.2.2
    · exact hb
    · omega
theorem Pre.step' {w : World} {base g gs gm sA lA i : Nat} {sv : Nat → Nat} (h : Pre w base g gs gm sA lA i sv) :
    Pre (((w.setCell ⟨sA, i, none⟩ (sl w.heap.size)).setCell ⟨lA, i, none⟩ (sl w.heap.size)).alloc (.cells (cel nul).toArray 5)) base g gs gm sA lA (i + 1) (upd sv i w.heap.size) := by
  have h1 := h.step
  rw [World.setCell_alloc_past _ _ _ _ (lt_of_heap h.sr), World.setCell_alloc_past _ _ _ _ (by simp [World.setCell]; exact lt_of_heap h.lr)] at h1
  exact h1
section
variable {ops : Array Oper} {rest : List Oper} {o : Oper} {a : Act} {Q : Exit → Act → World → Prop}
theorem size30 : (Try.prog.info? 30).map (·.size) = some 8 := by kernel_rfl
theorem wpList_loadRow (w : World) (b : Nat) (f : Nat → Value) (h : Row1 w b f) (ho : o.guard = none ∧ ∃ x, o.op = .load 30 x ∧ a.eval x = .pointer (some ⟨b, 0, none⟩))
    (hK : wpList Try.prog ops Q rest (a.put o.dst (.agg (row8 f))) w) : wpList Try.prog ops Q (o :: rest) a w := by
  obtain ⟨hg, x, ho, hx⟩ := ho
  have e : (loadVar 30 ⟨b, 0, none⟩).run Try.prog w = .ok (.agg (row8 f)) w := run_loadVar_row w b 30 30 _ (0, 0) _ h Try.underlying30 rfl (by rw [row8_size]; exact size30)
  refine wpList_plain hg fun _ hK' => ?_
  unfold Oper.wp execOp
  simp only [ho, hx, Instr.loadAt, Instr.sureAddr, Sem.run_bind, Sem.run_pure, Result.andThen_ok, e]
  exact hK' _ _ hK
theorem wpList_saveRow (w : World) (b : Nat) (f f' : Nat → Value) (h : Row1 w b f) (h1 : ∀ j, j < 8 → (f' j).oneCell' = true) (ho : o.guard = none ∧ ∃ x y, o.op = .store 30 x y ∧ a.eval x = .pointer (some ⟨b, 0, none⟩) ∧ a.eval y = .agg (row8 f'))
    (hK : wpList Try.prog ops Q rest (a.put o.dst undef) (w.setRow b (row8 f'))) : wpList Try.prog ops Q (o :: rest) a w := by
  obtain ⟨hg, x, y, ho, hx, hy⟩ := ho
  have e : (storeVar 30 ⟨b, 0, none⟩ (.agg (row8 f'))).run Try.prog w = .ok () (w.setRow b (row8 f')) :=
    run_storeVar_row w b 30 30 _ _ h (by rw [row8_size]; exact size30) (by rw [row8_size, row8_size]) (row8_one f' h1)
  refine wpList_plain hg fun _ hK' => ?_
  unfold Oper.wp execOp
  simp only [ho, hx, hy, Instr.storeAt, Instr.sureAddr, Sem.run_bind, Sem.run_pure, Result.andThen_ok, e]
  exact hK' _ _ hK
end
theorem num_any (w : World) (z : Int) : Calls Try.prog 6 #[.int .i64 z] w (Ends (.int .i64 z) w) := by
  go_enter Try.func6, Try.ntmps6
  go_wp2
  go_ret
  exact ⟨rfl, rfl⟩
/-- Bytes as a string. -/
def strOf (s : List UInt8) : ByteArray := ⟨s.toArray⟩
theorem run_conv (w : World) (b o n c : Nat) (s : List UInt8) (hs : s.length = n) (hr : w.rangeAt b o (cel s)) : (convert 29 9 (.slice (some ⟨b, o, none⟩) n c)).run Try.prog w = .ok (.string (strOf s)) w := by
  subst hs
  exact run_convert_bytes_back w 29 9 5 ⟨b, o, none⟩ c s Try.underlying29 Try.underlying5 Try.underlying9 (fun j hj => by
    rw [Addr.add_mid]
    have := hr j _ (cel_get s j hj)
    simpa [byt, List.getD_eq_getElem?_getD, hj] using this)
theorem range_take {w : World} {b : Nat} {s : List UInt8} (h : w.rangeAt b 0 (cel s)) (hs : s.length = 64) : w.rangeAt b 0 (cel (s.take 32)) := fun j v hv => by
  have hj : j < 32 := by
    have := (List.getElem?_eq_some_iff.1 hv).1
    rw [cel_length, List.length_take] at this
    omega
  rw [← cel_take, List.getElem?_take_of_lt hj] at hv
  exact h j v hv
theorem range_drop {w : World} {b : Nat} {s : List UInt8} (h : w.rangeAt b 0 (cel s)) : w.rangeAt b 32 (cel (s.drop 32)) := fun j v hv => by
  rw [← cel_drop, List.getElem?_drop] at hv
  have := h (32 + j) v hv
  rwa [Nat.zero_add] at this
theorem conv_lo (w : World) (b : Nat) (s : List UInt8) (hs : s.length = 64) (hr : w.rangeAt b 0 (cel s)) : (convert 29 9 (.slice (some ⟨b, 0, none⟩) 32 64)).run Try.prog w = .ok (.string (strOf (s.take 32))) w :=
  run_conv w b 0 32 64 _ (by rw [List.length_take, hs]; rfl) (range_take hr hs)
theorem conv_hi (w : World) (b : Nat) (s : List UInt8) (hs : s.length = 64) (hr : w.rangeAt b 0 (cel s)) : (convert 29 9 (.slice (some ⟨b, 32, none⟩) 32 32)).run Try.prog w = .ok (.string (strOf (s.drop 32))) w :=
  run_conv w b 32 32 32 _ (by rw [List.length_drop, hs]) (range_drop hr)
theorem slice_lo (b : Nat) (w : World) : (Instr.slice 29 (.slice (some ⟨b, 0, none⟩) 64 64) none (some (.int .i64 32)) none).run Try.prog w = .ok (.slice (some ⟨b, 0, none⟩) 32 64) w := by
  rw [run_slice_h (P := Try.prog) w 29 (some ⟨b, 0, none⟩) 64 64 Try.underlying29 .i64 32 (by omega) (by omega), show (sizeOf (Try.prog.elem 29)).run Try.prog w = .ok 1 w by kernel_rfl]
  simp [Result.andThen, sliced, Addr.add]
theorem slice_hi (b : Nat) (w : World) : (Instr.slice 29 (.slice (some ⟨b, 0, none⟩) 64 64) (some (.int .i64 32)) none none).run Try.prog w = .ok (.slice (some ⟨b, 32, none⟩) 32 32) w := by
  rw [run_slice_l (P := Try.prog) w 29 (some ⟨b, 0, none⟩) 64 64 Try.underlying29 .i64 32 (by omega) (by omega), show (sizeOf (Try.prog.elem 29)).run Try.prog w = .ok 1 w by kernel_rfl]
  simp [Result.andThen, sliced, Addr.add]
theorem still_conv {ops : Array Oper} {w : World} {Q : Act → Prop} {a : Act} {o : Oper} {rest : List Oper} (v v' : Value) (x : Operand) (ho : o.op = .convert 29 9 x) (hx : a.eval x = v)
    (hr : (convert 29 9 v).run Try.prog w = .ok v' w) (hw : Region.wanted o (yielded ops a.tmps) = true) (h : wpStill Try.prog ops w Q rest (a.put o.dst v')) : wpStill Try.prog ops w Q (o :: rest) a := by
  refine wpStill_step (fun K hK => ?_)
  rw [if_pos hw]
  unfold Oper.still execOp
  simp only [ho, hx, Sem.run_bind, Sem.run_pure, Result.andThen_ok, hr, Oper.stillUpon_value]
  exact hK _ h
theorem Nobody.keep {w w' : World} {p : Value} (h : Nobody w p) (hb : Below w.heap.size w w') : Nobody w' p := by
  rcases h with rfl | ⟨g, rfl, hz⟩
  · exact .inl rfl
  · exact .inr ⟨g, rfl, (hb.block g (lt_of_heap hz)).trans hz⟩
theorem waiting_no (w : World) (g gs gm : Nat) (d : Dsk) (h : Dk w g gs gm d) (hw : d.waits = fun _ => none) : Calls Try.prog 16 #[ptr g] w fun e w' => ∃ A c, e = .returned (.slice A 0 c) ∧ Below w.heap.size w w' := by
  refine (waiting_nums w g gs gm d h).mono ?_
  rintro e w' ⟨A, c, rfl, _, hb⟩
  have e : waitsOf d.n d.waits = [] := by
    rw [hw]
    simp [waitsOf]
  rw [e]
  exact ⟨A, c, rfl, hb⟩
end Go.Proofs.Ythphcidpdjopeaa
