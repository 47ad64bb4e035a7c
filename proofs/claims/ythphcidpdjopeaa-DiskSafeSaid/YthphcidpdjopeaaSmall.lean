/-
  What the program's New, made, refuses, deed, Sectors, Down, Done and Stop do. Condition: the disk is known.
-/
import Derived.Test.YthphcidpdjopeaaMem
namespace Go.Proofs.Ythphcidpdjopeaa
open Go.RowKit Go.Maps
def Ends (v : Value) (w : World) (e : Ending) (w' : World) : Prop := e = .returned v ∧ w = w'
def ptr (g : Nat) : Value := .pointer (some ⟨g, 0, none⟩)
/-- The pointer is nil, or a disk of the program's that New did not make. -/
def Nobody (w : World) (p : Value) : Prop := p = .pointer none ∨ ∃ g, p = ptr g ∧ w.heap[g]? = some (.cells #[.slice none 0 0, .map none, .bool false, .bool false, .int .i64 0, .int .i64 0] 46 (0, 0))
/-- A disk's six cells, as the walk asks them. -/
def Six (w : World) (g gs gm n : Nat) (off stops : Bool) (left z : Int) : Prop :=
  w.heap[g]? = some (.cells #[.slice (some ⟨gs, 0, none⟩) n n, .map (some gm), .bool off, .bool stops, .int .i64 left, .int .i64 z] 46 (0, 0))
section
variable {w : World} {g gs gm n : Nat} {off stops : Bool} {left z : Int}
theorem Dk.six {d : Dsk} (h : Dk w g gs gm d) : ∃ z, Six w g gs gm d.n d.off d.stops d.left z := h.hd
theorem Six.c0 (h : Six w g gs gm n off stops left z) : w.cell? ⟨g, 0, none⟩ = some (.slice (some ⟨gs, 0, none⟩) n n) := cell_at h 0
theorem Six.c1 (h : Six w g gs gm n off stops left z) : w.cell? ⟨g, 1, none⟩ = some (.map (some gm)) := cell_at h 1
theorem Six.c2 (h : Six w g gs gm n off stops left z) : w.cell? ⟨g, 2, none⟩ = some (.bool off) := cell_at h 2
theorem Six.c3 (h : Six w g gs gm n off stops left z) : w.cell? ⟨g, 3, none⟩ = some (.bool stops) := cell_at h 3
theorem Six.c4 (h : Six w g gs gm n off stops left z) : w.cell? ⟨g, 4, none⟩ = some (.int .i64 left) := cell_at h 4
theorem Six.c5 (h : Six w g gs gm n off stops left z) : w.cell? ⟨g, 5, none⟩ = some (.int .i64 z) := cell_at h 5
theorem Six.f (h : Six w g gs gm n off stops left z) (i : Nat) : w.frozen? ⟨g, i, none⟩ = false := free_at h i
theorem Six.set2 (h : Six w g gs gm n off stops left z) (b : Bool) : Six (w.setCell ⟨g, 2, none⟩ (.bool b)) g gs gm n b stops left z := set_at h 2 _
theorem Six.set3 (h : Six w g gs gm n off stops left z) (b : Bool) : Six (w.setCell ⟨g, 3, none⟩ (.bool b)) g gs gm n off b left z := set_at h 3 _
theorem Six.set4 (h : Six w g gs gm n off stops left z) (k : Int) : Six (w.setCell ⟨g, 4, none⟩ (.int .i64 k)) g gs gm n off stops k z := set_at h 4 _
theorem Six.set5 (h : Six w g gs gm n off stops left z) (k : Int) : Six (w.setCell ⟨g, 5, none⟩ (.int .i64 k)) g gs gm n off stops left k := set_at h 5 _
/-- Another head, the rest as it was. -/
theorem Dk.head {w' : World} {d d' : Dsk} (h : Dk w g gs gm d) (hs : Six w' g gs gm d'.n d'.off d'.stops d'.left z) (ht : Turn [g] w w') (hok : d'.ok) (hn : d'.n = d.n) (h1 : d'.safe = d.safe) (h2 : d'.waits = d.waits) : Dk w' g gs gm d' :=
  ⟨hok, h.ne, ⟨z, hs⟩, by rw [hn, h1]; exact h.sf.keep (ht.block gs h.sf.1 (by simp; exact fun e => h.ne e.symm)) ht.size, by rw [hn, h2]; exact h.mp.keep (ht.block gm h.ltm (by simp; exact fun e => h.nem e.symm))⟩
end
theorem made_disk (w : World) (g gs gm : Nat) (d : Dsk) (h : Dk w g gs gm d) : Calls Try.prog 17 #[ptr g] w (Ends (.bool true) w) := by
  obtain ⟨z, hz⟩ := h.six
  have c0 := hz.c0
  clear hz h
  unfold ptr
  go_enter Try.func17, Try.ntmps17
  go_wp2
  go_ret
  exact ⟨rfl, rfl⟩
theorem made_none (w : World) (p : Value) (h : Nobody w p) : Calls Try.prog 17 #[p] w (Ends (.bool false) w) := by
  rcases h with rfl | ⟨g, rfl, hz⟩
  · go_enter Try.func17, Try.ntmps17
    go_wp2
    go_ret
    exact ⟨rfl, rfl⟩
  · have c0 := cell_at hz 0
    simp only [List.getElem?_toArray, List.getElem?_cons_zero] at c0
    clear hz
    unfold ptr
    go_enter Try.func17, Try.ntmps17
    go_wp2
    go_ret
    exact ⟨rfl, rfl⟩
theorem sectors_disk (w : World) (g gs gm : Nat) (d : Dsk) (h : Dk w g gs gm d) : Calls Try.prog 14 #[ptr g] w (Ends (.int .i64 d.n) w) := by
  obtain ⟨z, hz⟩ := h.six
  have c0 := hz.c0
  clear hz h
  unfold ptr
  go_enter Try.func14, Try.ntmps14
  go_wp2
  go_ret
  exact ⟨rfl, rfl⟩
theorem sectors_none (w : World) (p : Value) (h : Nobody w p) : Calls Try.prog 14 #[p] w (Ends (.int .i64 0) w) := by
  rcases h with rfl | ⟨g, rfl, hz⟩
  · go_enter Try.func14, Try.ntmps14
    go_wp2
    go_ret
    exact ⟨rfl, rfl⟩
  · have c0 := cell_at hz 0
    simp only [List.getElem?_toArray, List.getElem?_cons_zero] at c0
    clear hz
    unfold ptr
    go_enter Try.func14, Try.ntmps14
    go_wp2
    go_ret
    exact ⟨rfl, rfl⟩
theorem done_none (w : World) (p : Value) (h : Nobody w p) : Calls Try.prog 15 #[p] w (Ends (.int .i64 0) w) := by
  rcases h with rfl | ⟨g, rfl, hz⟩
  · go_enter Try.func15, Try.ntmps15
    go_wp2
    go_ret
    exact ⟨rfl, rfl⟩
  · have c5 := cell_at hz 5
    simp only [List.getElem?_toArray, List.getElem?_cons_zero, List.getElem?_cons_succ] at c5
    clear hz
    unfold ptr
    go_enter Try.func15, Try.ntmps15
    go_wp2
    go_ret
    exact ⟨rfl, rfl⟩
theorem down_disk (w : World) (g gs gm : Nat) (d : Dsk) (h : Dk w g gs gm d) : Calls Try.prog 13 #[ptr g] w (Ends (.bool d.off) w) := by
  have HM := Lib.hid (made_disk w g gs gm d h)
  obtain ⟨z, hz⟩ := h.six
  have c2 := hz.c2
  clear hz h
  unfold ptr at HM ⊢
  generalize d.off = o at c2 ⊢
  go_enter Try.func13, Try.ntmps13
  go_wp2_with fail
  refine HM.out.mono ?_
  rintro e w1 ⟨rfl, rfl⟩
  go_wp2
  go_ret
  exact ⟨rfl, rfl⟩
theorem down_none (w : World) (p : Value) (h : Nobody w p) : Calls Try.prog 13 #[p] w (Ends (.bool true) w) := by
  have HM := Lib.hid (made_none w p h)
  clear h
  go_enter Try.func13, Try.ntmps13
  go_wp2_with fail
  refine HM.out.mono ?_
  rintro e w1 ⟨rfl, rfl⟩
  go_wp2
  go_ret
  exact ⟨rfl, rfl⟩
theorem stop_none (w : World) (p : Value) (k : Int) (h : Nobody w p) : Calls Try.prog 10 #[p, .int .i64 k] w (Ends (.tuple #[]) w) := by
  have HM := Lib.hid (made_none w p h)
  clear h
  go_enter Try.func10, Try.ntmps10
  go_wp2_with fail
  refine HM.out.mono ?_
  rintro e w1 ⟨rfl, rfl⟩
  go_wp2
  go_end0
  exact ⟨rfl, rfl⟩
/-- The disk is another one now; nothing else turned. -/
def Now (v : Value) (w : World) (g gs gm : Nat) (d : Dsk) (e : Ending) (w' : World) : Prop := e = .returned v ∧ Dk w' g gs gm d ∧ Turn [g, gs, gm] w w'
theorem stop_disk (w : World) (g gs gm : Nat) (d : Dsk) (k : Int) (h : Dk w g gs gm d) (k1 : -9223372036854775808 ≤ k) (k2 : k ≤ 9223372036854775807) :
    Calls Try.prog 10 #[ptr g, .int .i64 k] w (Now (.tuple #[]) w g gs gm (d.stop k)) := by
  have HM := Lib.hid (made_disk w g gs gm d h)
  obtain ⟨z, hz⟩ := h.six
  have f2 := hz.f 2
  have f3 := hz.f 3
  have f4 := hz.f 4
  have c2 := hz.c2
  have c3 := hz.c3
  have c4 := hz.c4
  have HD := Lib.hid h
  have HZ := Lib.hid hz
  clear hz h
  unfold ptr at HM ⊢
  have Hgo : ∀ w', Six w' g gs gm d.n (d.off || decide (k < 1)) true k z → Turn [g] w w' → Now (.tuple #[]) w g gs gm (d.stop k) (.returned (.tuple #[])) w' := fun w' h6 ht =>
    ⟨rfl, HD.out.head h6 ht (Dsk.stop_ok HD.out.ok k1 k2) rfl rfl rfl, ht.more (by simp)⟩
  have HG := Lib.hid Hgo
  clear Hgo
  generalize hoff : d.off = o at HG HZ c2
  generalize d.stops = s at HZ c3
  generalize d.left = l at HZ c4
  by_cases hk : k < 1
  · have hk2 : decide (k < 1) = true := by simpa using hk
    rw [hk2, Bool.or_true] at HG
    go_enter Try.func10, Try.ntmps10
    go_wp2_with fail
    refine HM.out.mono ?_
    rintro e w1 ⟨rfl, rfl⟩
    go_wp2
    go_end0
    exact HG.out _ (((HZ.out.set3 true).set4 k).set2 true) ((((Turn.refl _ _).setCell (by simp) _).setCell (by simp) _).setCell (by simp) _)
  · have hk2 : decide (k < 1) = false := by simpa using hk
    rw [hk2, Bool.or_false] at HG
    go_enter Try.func10, Try.ntmps10
    go_wp2_with fail
    refine HM.out.mono ?_
    rintro e w1 ⟨rfl, rfl⟩
    go_wp2
    go_end0
    exact HG.out _ ((HZ.out.set3 true).set4 k) (((Turn.refl _ _).setCell (by simp) _).setCell (by simp) _)
end Go.Proofs.Ythphcidpdjopeaa
