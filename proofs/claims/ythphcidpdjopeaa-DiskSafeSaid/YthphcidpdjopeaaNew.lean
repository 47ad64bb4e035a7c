/-
  What the program's deed, refuses and New do. Condition: the disk is known; New: of 1 to 65536 sectors.
-/
import Derived.Test.YthphcidpdjopeaaSmall
namespace Go.Proofs.Ythphcidpdjopeaa
open Go.RowKit Go.Maps
theorem deed_fin {w w' : World} {g gs gm n : Nat} {sf : Nat → List UInt8} {wt : Nat → Option (List UInt8)} {s b s' : Bool} {l l' z : Int} (h : Dk w g gs gm ⟨n, sf, wt, false, s, l⟩)
    (hd : Dsk.deed ⟨n, sf, wt, false, s, l⟩ = ⟨n, sf, wt, b, s', l'⟩) (h6 : Six w' g gs gm n b s' l' z) (ht : Turn [g] w w') (v : Value) : Now v w g gs gm ⟨n, sf, wt, b, s', l'⟩ (.returned v) w' :=
  ⟨rfl, h.head (d' := ⟨n, sf, wt, b, s', l'⟩) h6 ht (hd ▸ Dsk.deed_ok h.ok rfl) rfl rfl rfl, ht.more (by simp)⟩
set_option maxHeartbeats 400000 in
theorem deed_disk (w : World) (g gs gm : Nat) (d : Dsk) (h : Dk w g gs gm d) (ho : d.off = false) : Calls Try.prog 18 #[ptr g] w (Now (.bool d.done) w g gs gm d.deed) := by
  obtain ⟨n, sf, wt, off, s, l⟩ := d
  obtain rfl : off = false := ho
  obtain ⟨z, hz⟩ := h.six
  obtain ⟨l1, l2, l3⟩ := h.ok.2.2.2.2
  have l2 : l ≤ 9223372036854775807 := l2
  have l3 : s = true → 0 ≤ l := fun e => l3 e rfl
  have HD := Lib.hid h
  have HZ := Lib.hid hz
  have f2 := hz.f 2
  have f4 := hz.f 4
  have f5 := hz.f 5
  have c2 := hz.c2
  have c3 := hz.c3
  have c4 := hz.c4
  have c5 := hz.c5
  clear hz h l1
  unfold ptr
  cases s
  · have hd : Dsk.deed ⟨n, sf, wt, false, false, l⟩ = ⟨n, sf, wt, false, false, l⟩ := rfl
    have hn : Dsk.done ⟨n, sf, wt, false, false, l⟩ = true := rfl
    rw [hd, hn]
    clear hn l3
    have Hd := Lib.hid hd
    clear hd
    go_enter Try.func18, Try.ntmps18
    go_wp2
    go_ret
    exact deed_fin HD.out Hd.out (HZ.out.set5 _) ((Turn.refl _ _).setCell (by simp) _) _
  · by_cases hl0 : l = 0
    · subst hl0
      have hd : Dsk.deed ⟨n, sf, wt, false, true, 0⟩ = ⟨n, sf, wt, true, true, 0⟩ := rfl
      have hn : Dsk.done ⟨n, sf, wt, false, true, 0⟩ = false := rfl
      rw [hd, hn]
      clear hn l3 l2
      have Hd := Lib.hid hd
      clear hd
      go_enter Try.func18, Try.ntmps18
      go_wp2
      go_ret
      exact deed_fin HD.out Hd.out (HZ.out.set2 true) ((Turn.refl _ _).setCell (by simp) _) _
    · have hd : Dsk.deed ⟨n, sf, wt, false, true, l⟩ = ⟨n, sf, wt, false, true, l - 1⟩ := by simp [Dsk.deed, hl0]
      have hn : Dsk.done ⟨n, sf, wt, false, true, l⟩ = true := by simp [Dsk.done, hl0]
      rw [hd, hn]
      have Hd := Lib.hid hd
      have l4 : 0 < l := by have := l3 rfl; omega
      clear hd hn l3
      go_enter Try.func18, Try.ntmps18
      go_wp2
      go_ret
      exact deed_fin HD.out Hd.out ((HZ.out.set4 _).set5 _) (((Turn.refl _ _).setCell (by simp) _).setCell (by simp) _) _
/-- Why a sector can't be had. -/
def Dsk.why (d : Dsk) (i : Int) : Int := if d.off then 3 else if i < 0 ∨ (d.n : Int) ≤ i then 1 else 0
theorem refuses_none (w : World) (p : Value) (i : Int) (h : Nobody w p) : Calls Try.prog 19 #[p, .int .i64 i] w (Ends (.int .i64 1) w) := by
  have HM := Lib.hid (made_none w p h)
  clear h
  go_enter Try.func19, Try.ntmps19
  go_wp2_with fail
  refine HM.out.mono ?_
  rintro e w1 ⟨rfl, rfl⟩
  go_wp2
  go_ret
  exact ⟨rfl, rfl⟩
set_option maxHeartbeats 400000 in
theorem refuses_disk (w : World) (g gs gm : Nat) (d : Dsk) (i : Int) (h : Dk w g gs gm d) : Calls Try.prog 19 #[ptr g, .int .i64 i] w (Ends (.int .i64 (d.why i)) w) := by
  have HM := Lib.hid (made_disk w g gs gm d h)
  obtain ⟨z, hz⟩ := h.six
  have c0 := hz.c0
  have c2 := hz.c2
  clear hz h
  unfold Dsk.why
  unfold ptr at HM ⊢
  generalize d.off = o at c2 ⊢
  generalize d.n = n at c0 ⊢
  cases o
  · by_cases h0 : i < 0
    · rw [if_neg (by simp), if_pos (.inl h0)]
      go_enter Try.func19, Try.ntmps19
      go_wp2_with fail
      refine HM.out.mono ?_
      rintro e w1 ⟨rfl, rfl⟩
      go_wp2
      go_ret
      exact ⟨rfl, rfl⟩
    · have h0' : 0 ≤ i := by omega
      by_cases h1 : (n : Int) ≤ i
      · rw [if_neg (by simp), if_pos (.inr h1)]
        clear h0
        go_enter Try.func19, Try.ntmps19
        go_wp2_with fail
        refine HM.out.mono ?_
        rintro e w1 ⟨rfl, rfl⟩
        go_wp2
        go_ret
        exact ⟨rfl, rfl⟩
      · rw [if_neg (by simp), if_neg (by omega)]
        have h1' : i < (n : Int) := by omega
        clear h0 h1
        go_enter Try.func19, Try.ntmps19
        go_wp2_with fail
        refine HM.out.mono ?_
        rintro e w1 ⟨rfl, rfl⟩
        go_wp2
        go_ret
        exact ⟨rfl, rfl⟩
  · rw [if_pos rfl]
    go_enter Try.func19, Try.ntmps19
    go_wp2_with fail
    refine HM.out.mono ?_
    rintro e w1 ⟨rfl, rfl⟩
    go_wp2
    go_ret
    exact ⟨rfl, rfl⟩
theorem info49 : (Try.prog.info? 49).map (fun i => (i.zero, i.size, i.bytes)) = some (some (secV (List.replicate 64 0)), 64, 64) := by kernel_rfl
def zeros (n : Nat) : Array Value := madeCells (secV (List.replicate 64 0)).cells (n * 64)
theorem zeros_get (n i : Nat) (h : i < n * 64) : (zeros n)[i]? = some (byt 0) := by
  have e : (secV (List.replicate 64 0)).cells = Array.replicate 64 (byt 0) := by rfl
  simp only [zeros, madeCells, e, Array.getElem?_map, Array.getElem?_range, Array.size_replicate, h, if_true, Option.map_some]
  rw [getElem!_pos _ _ (by simp; omega)]
  simp
theorem fresh_sf {w : World} {gs n : Nat} (h : w.heap[gs]? = some (.cells (zeros n) 49 (0, 0))) : Sf w gs n (fresh n).safe := by
  refine ⟨lt_of_heap h, ?_, fun i hi j v hv => ?_⟩
  · have := there_block h
    rwa [show (zeros n).size = n * 64 from size_madeCells _ _] at this
  · have hj : j < 64 := by
      have := (List.getElem?_eq_some_iff.1 hv).1
      simpa [cel, fresh] using this
    rw [cell_at h, zeros_get n _ (by omega), ← hv]
    simp only [cel, fresh, List.map_replicate, List.getElem?_replicate, hj, if_true]
theorem run_make43 (w : World) (n : Nat) (hn : n ≤ 65536) :
    (Instr.makeSlice 43 (.int .i64 n) (.int .i64 n)).run Try.prog w = .ok (.slice (some ⟨w.heap.size, 0, none⟩) n n) (w.alloc (.cells (zeros n) 49)) := by
  obtain ⟨i0, hi, hz0, hz1, hz2⟩ := info_parts info49
  have := run_make (P := Try.prog) w 43 49 i0 _ Try.underlying43 hi hz0 .i64 .i64 n n (by omega) (Int.le_refl _) (by rw [hz2]; omega) (by omega)
  rw [this, hz1]
  rfl
def Made (w : World) (n : Nat) (e : Ending) (w' : World) : Prop :=
  ∃ g gs gm, e = .returned (.tuple #[ptr g, .int .i64 0]) ∧ Dk w' g gs gm (fresh n) ∧ Turn [] w w' ∧ w.heap.size ≤ g ∧ w.heap.size ≤ gs ∧ w.heap.size ≤ gm
theorem made_fresh (w : World) (n : Nat) (h1 : 1 ≤ n) (h2 : n ≤ 65536) : Made w n (.returned (.tuple #[ptr (w.heap.size + 1 + 1), .int .i64 0]))
    (((w.alloc (.cells (zeros n) 49)).alloc (.map #[] 0)).alloc (.cells (fields w.heap.size (w.heap.size + 1) (fresh n) 0) 46)) := by
  have s1 : (w.alloc (.cells (zeros n) 49)).heap.size = w.heap.size + 1 := by simp
  have s2 : ((w.alloc (.cells (zeros n) 49)).alloc (.map #[] 0)).heap.size = w.heap.size + 1 + 1 := by simp
  have hf := fresh_sf (n := n) (heap_alloc_last w (.cells (zeros n) 49))
  have hm : Mp ((w.alloc (.cells (zeros n) 49)).alloc (.map #[] 0)) (w.heap.size + 1) n fun _ => none :=
    Mp.made (s1 ▸ World.ownsMap_made (w.alloc (.cells (zeros n) 49)) Try.prog 3 R0) (Told.empty n)
  refine ⟨w.heap.size + 1 + 1, w.heap.size, w.heap.size + 1, rfl, ⟨fresh_ok h1 h2, by omega, ⟨0, ?_⟩, ?_, ?_⟩, (((Turn.refl [] w).alloc _).alloc _).alloc _, by omega, by omega, by omega⟩
  · have := heap_alloc_last ((w.alloc (.cells (zeros n) 49)).alloc (.map #[] 0)) (.cells (fields w.heap.size (w.heap.size + 1) (fresh n) 0) 46)
    rwa [s2] at this
  · exact hf.keep ((Below.heap_alloc _ _ _ (by omega)).trans (Below.heap_alloc _ _ _ (by omega))) (by simp)
  · exact hm.keep (Below.heap_alloc _ _ _ (by omega))
theorem new_disk (w : World) (n : Nat) (h1 : 1 ≤ n) (h2 : n ≤ 65536) : Calls Try.prog 5 #[.int .i64 n] w (Made w n) := by
  have hmk := run_make43 w n h2
  have hmm := @run_makeMap Try.prog
  have HH := Lib.hid (And.intro h1 h2)
  have h1' : (1 : Int) ≤ n := by omega
  have h2' : (n : Int) ≤ 65536 := by omega
  clear h1 h2
  go_enter Try.func5, Try.ntmps5
  go_wp2
  go_ret2
  exact made_fresh w n HH.out.1 HH.out.2
end Go.Proofs.Ythphcidpdjopeaa
