/-
  Texts FRGet, QFRGet, in one file. What each proves, and its conditions, stand at its head below.
-/
import Derived.Test.YtdjhlhellkajfaaGreatM13
import Derived.Test.YtdjhlhellkajfaaGreatM14
import Derived.Test.YtdjhlhellkajfaaGreatM33
/-
  What the document's Get answers. Conditions: the slice reads as these bytes.
-/
namespace Go.Proofs.YtdjhlhellkajfaaGreat.Frm
open Go.RowKit Codec FrameM Cod
set_option maxRecDepth 100000
set_option maxRecDepth 100000
theorem count_small (s : St) : count 65535 s = small s ∧ countS 65535 s = tkS 2 s := by
  have h := small_lt s
  have ho : over 65535 s = false := by simp [over]; omega
  simp [count, countS, ho]
theorem rdr_new (w w' : World) (T : TypeId) (A : Option Addr) (n c B : Nat) (xs : List UInt8) (h : Byts w B A n xs) (hB : B ≤ w.heap.size) (hn : n ≤ c) (hc : c ≤ maxLen) (hm : n ≤ 1000000000) (he : w' = w.alloc (.cells #[.slice A n c, .bool false] T)) : Rdr T w' B w.heap.size ⟨xs, false⟩ := by
  subst he
  exact ⟨goodOk _, hB, A, n, c, heap_alloc_new w _, h.alloc hB _, hn, hc, hm⟩
theorem cell_drew (w : World) (a : Addr) : w.drew.cell? a = w.cell? a := rfl
/-- The four cells of a mark; bytes as a text: what a region asks of its worlds. -/
def Four (b : Nat) (x0 x1 x2 x3 : Int) (w : World) : Prop := w.cell? ⟨b, 0, none⟩ = some (.int .i64 x0) ∧ w.cell? ⟨b, 1, none⟩ = some (.int .i64 x1) ∧ w.cell? ⟨b, 2, none⟩ = some (.int .i64 x2) ∧ w.cell? ⟨b, 3, none⟩ = some (.int .i64 x3)
def Cv (A : Option Addr) (n c : Nat) (xs : List UInt8) (w : World) : Prop := (convert 39 9 (.slice A n c)).run Tryz.prog w = .ok (.string ⟨xs.toArray⟩) w
theorem four_of {w : World} {b : Nat} {T : TypeId} {x0 x1 x2 x3 : Int} (h : w.heap[b]? = some (.cells (mkC x0 x1 x2 x3) T (0, 0))) : Four b x0 x1 x2 x3 w := ⟨cell_at h 0, cell_at h 1, cell_at h 2, cell_at h 3⟩
theorem four_drew {w : World} {b : Nat} {x0 x1 x2 x3 : Int} (h : Four b x0 x1 x2 x3 w) : Four b x0 x1 x2 x3 w.drew := ⟨(cell_drew _ _).trans h.1, (cell_drew _ _).trans h.2.1, (cell_drew _ _).trans h.2.2.1, (cell_drew _ _).trans h.2.2.2⟩
end Go.Proofs.YtdjhlhellkajfaaGreat.Frm
/-
  What the document's Get answers. Conditions: the slice reads as these bytes.
-/
namespace Go.Proofs.YtdjhlhellkajfaaGreat.Frm
open Go.RowKit Codec FrameM Cod
set_option maxRecDepth 100000
set_option maxRecDepth 100000
set_option maxHeartbeats 2000000 in
theorem rget_short (w : World) (n c : Nat) (A : Option Addr) (hn : n ≠ 64) (hm : n ≤ maxLen) : Calls Tryz.prog 58 #[.slice A n c] w (EndsBelow (tupV zeroM false) w) := by
  have hn1 : ((n : Int) != 64) = true := by simp; omega
  have hm2 : n ≤ 9223372036854775807 := hm
  clear hn
  go_enter Tryz.func58, Tryz.ntmps58
  go_wp2_with fail
  exact bodyPost_ret (v := tupV zeroM false) (by simp [results, Tryz.results58, go_sem, mkV, tupV, zeroM]) rfl ⟨rfl, alloc_below w _⟩
set_option maxHeartbeats 4000000 in
theorem rget_long (w : World) (B c : Nat) (A : Option Addr) (xs : List UInt8) (h : Byts w B A 64 xs) (hB : B ≤ w.heap.size) (hc : 64 ≤ c) (hcm : c ≤ maxLen) : Calls Tryz.prog 58 #[.slice A 64 c] w (EndsBelow (tupV (getM xs) (getB xs)) w) := by
  have hs : ∀ v, (Instr.slice 39 (.slice A 64 c) (some (.int .i64 2)) (some (.int .i64 32)) none).run Tryz.prog v = .ok (.slice (cutAt A 2 c) 30 (c - 2)) v := fun v => cut_lh v A 64 c 2 32 (by omega) (by omega)
  have hcut : Byts w B (cutAt A 2 c) 30 ((xs.drop 2).take 30) := Byts.cut h 2 32 c (by omega) (by omega) (by omega)
  have hr0 := rdr_new (w.alloc (.cells (mkC 0 0 0 0) 117)) _ 138 (cutAt A 2 c) 30 (c - 2) B _ (hcut.alloc hB _) (by simp; omega) (by omega) (by unfold maxLen at *; omega) (by omega) rfl
  have HC1 := Lib.hid (rcount_any _ B _ 65535 _ hr0)
  rw [(count_small _).1, (count_small _).2, World.size_alloc] at HC1
  have HX := Lib.hid h
  have HI : Hid (getB xs = decide (put (readM xs) = xs)) := Lib.hid (by simp [getB, isM, h.len])
  have HM : Hid (readM xs = readFrom ⟨(xs.drop 2).take 30, false⟩) := Lib.hid (readM_ref xs h.len)
  unfold readFrom at HM
  have HR0 : Hid (((w.alloc (.cells (mkC 0 0 0 0) 117)).alloc (.cells #[.slice (cutAt A 2 c) 30 (c - 2), .bool false] 138)).heap[w.heap.size]? = some (.cells (mkC 0 0 0 0) 117 (0, 0))) := Lib.hid ((Below.heap_alloc _ _ _ (by simp)).trans (heap_alloc_new w _))
  have HB0 : Hid (Below w.heap.size w ((w.alloc (.cells (mkC 0 0 0 0) 117)).alloc (.cells #[.slice (cutAt A 2 c) 30 (c - 2), .bool false] 138))) := Lib.hid ((alloc_below w _).alloc (by simp) _)
  clear h hcut hr0
  unfold mkC at HC1 HR0 HB0
  generalize cutAt A 2 c = A2 at *
  generalize (⟨(xs.drop 2).take 30, false⟩ : St) = s at *
  go_enter Tryz.func58, Tryz.ntmps58
  go_wp2_with fail
  refine HC1.out.mono ?_
  rintro e w1 ⟨rfl, hr, hg⟩
  have hz1 := hr.lt
  have HMid := Lib.hid (Mid.start (w0 := w) (M := 117) (r := w.heap.size) hr ((hg.block w.heap.size (lt_of_heap HR0.out) (by simp)).trans HR0.out) (by omega) (by omega) (by omega) (Nat.le_refl _) (HB0.out.trans (grown_below hg _ (by omega) HB0.out.size)) (mkC (small s) 0 0 0))
  have HC2 := Lib.hid (rnum_any _ B _ _ HMid.out.rdr)
  clear hr hg HC1 HR0 HB0 hs
  unfold mkC at HC2
  go_wp2_with fail
  refine HC2.out.mono ?_
  rintro e w2 ⟨rfl, hr, hg⟩
  have HMid := Lib.hid (HMid.out.call hr hg)
  have HC3 := Lib.hid (rnum_any _ B _ _ HMid.out.rdr)
  clear hr hg HC2
  go_wp2_with fail
  refine HC3.out.mono ?_
  rintro e w3 ⟨rfl, hr, hg⟩
  have HMid := Lib.hid (HMid.out.call hr hg)
  have HC4 := Lib.hid (rnum_any _ B _ _ HMid.out.rdr)
  clear hr hg HC3
  go_wp2_with fail
  refine HC4.out.mono ?_
  rintro e w4 ⟨rfl, hr, hg⟩
  have HMid := Lib.hid (HMid.out.call hr hg)
  clear hr hg HC4
  generalize num (tkS 8 (tkS 8 (tkS 2 s))) = x3 at *
  generalize num (tkS 8 (tkS 2 s)) = x2 at *
  generalize num (tkS 2 s) = x1 at *
  generalize ((small s : Nat) : Int) = x0 at *
  have hm := HMid.out.mark
  unfold mkC at hm
  have c1 := cell_at hm 1
  have c2 := cell_at hm 2
  have c3 := cell_at hm 3
  have f1 := free_at hm 1
  have f2 := free_at hm 2
  have f3 := free_at hm 3
  have HMid := Lib.hid (((HMid.out.step HMid.out.rdr (grown_refl _ _) 1 (.int .i64 x1) (mkC x0 x1 0 0) rfl).step (HMid.out.step HMid.out.rdr (grown_refl _ _) 1 (.int .i64 x1) (mkC x0 x1 0 0) rfl).rdr (grown_refl _ _) 2 (.int .i64 x2) (mkC x0 x1 x2 0) rfl))
  have HMid := Lib.hid (HMid.out.step HMid.out.rdr (grown_refl _ _) 3 (.int .i64 x3) (mkC x0 x1 x2 x3) rfl)
  clear hm
  go_upto_region 6 with fail
  clear c1 c2 c3 f1 f2 f3
  generalize ((w4.setCell ⟨w1.heap.size, 1, none⟩ (.int .i64 x1)).setCell ⟨w1.heap.size, 2, none⟩ (.int .i64 x2)).setCell ⟨w1.heap.size, 3, none⟩ (.int .i64 x3) = W at *
  have HBM := Lib.hid HMid.out.mark
  have HR := Lib.hid HMid.out.res
  have HBL := Lib.hid HMid.out.below
  have HS : Hid (Four w1.heap.size x0 x1 x2 x3 W.drew ∧ Cv A 64 c xs W.drew) := Lib.hid ⟨four_drew (four_of HBM.out), run_string_of W.drew B 64 c A xs (HX.out.below (HBL.out.drew.mono hB))⟩
  clear HMid
  have HC5 := Lib.hid (fun u => rput_any ⟨x0, x1, x2, x3⟩ u)
  unfold mkV at HC5
  dsimp only at HC5
  have HI2 : Hid (decide (put ⟨x0, x1, x2, x3⟩ = xs) = getB xs) := Lib.hid (by rw [HI.out, HM.out])
  generalize put ⟨x0, x1, x2, x3⟩ = ys at *
  refine wh_start (fun w' => Four w1.heap.size x0 x1 x2 x3 w' ∧ Cv A 64 c xs w') (by kernel_rfl) ?_
  refine wh_take 0 26 (.agg #[.int .i64 x0, .int .i64 x1, .int .i64 x2, .int .i64 x3]) rfl rfl (by kernel_rfl) (fun _ _ _ h => h) rfl HS.out (fun w' hw' => ?_) ?_
  · obtain ⟨⟨h0, h1, h2, h3⟩, h4⟩ := hw'
    go_simp
  go_frame
  refine wh_take 3 29 (.slice A 64 c) rfl rfl (by kernel_rfl) (fun _ _ _ h => h) rfl HS.out (fun w' hw' => rfl) ?_
  go_frame
  refine wh_take 4 30 (.string ⟨xs.toArray⟩) rfl rfl (by kernel_rfl) (fun _ _ _ h => h) rfl HS.out (fun w' hw' => ?_) ?_
  · obtain ⟨_, h4⟩ := hw'
    unfold Cv at h4
    go_simp
  go_frame
  refine wh_call 1 27 62 #[.agg #[.int .i64 x0, .int .i64 x1, .int .i64 x2, .int .i64 x3]] rfl rfl (by kernel_rfl) rfl ?_ ?_
  · go_simp
  refine (HC5.out _).mono ?_
  rintro e w6 ⟨A6, c6, rfl, hb6, hbl6, _, _⟩
  have HB6 := Lib.hid (HBL.out.drew.trans (hbl6.mono HBL.out.size))
  have hcv6 : Cv A6 ys.length c6 ys w6 := run_string_of w6 _ _ c6 A6 _ hb6
  have HBM6 := Lib.hid ((hbl6.block w1.heap.size (lt_of_heap HBM.out)).trans HBM.out)
  have HR6 := Lib.hid ((hbl6.block w.heap.size (lt_of_heap HR.out)).trans HR.out)
  have HS6 : Hid ((Four w1.heap.size x0 x1 x2 x3 w6 ∧ Cv A 64 c xs w6) ∧ Cv A6 ys.length c6 ys w6) := Lib.hid ⟨⟨four_of HBM6.out, run_string_of w6 B 64 c A xs (HX.out.below (HB6.out.mono hB))⟩, hcv6⟩
  refine ⟨_, rfl, HS6.out.1, ?_⟩
  clear hb6 hbl6 HS hcv6
  go_frame
  refine wh_more (S' := fun w' => (Four w1.heap.size x0 x1 x2 x3 w' ∧ Cv A 64 c xs w') ∧ Cv A6 ys.length c6 ys w') (fun _ h => h.1) _ _ _ _ ?_
  refine wh_take 2 28 (.string ⟨ys.toArray⟩) rfl rfl (by kernel_rfl) (fun _ _ _ h => h) rfl HS6.out (fun w' hw' => ?_) ?_
  · obtain ⟨_, h5⟩ := hw'
    unfold Cv at h5
    go_simp
  go_frame
  refine wh_take 5 31 (.bool (!(ys == xs))) rfl rfl (by kernel_rfl) (fun _ _ _ h => h) rfl HS6.out (fun w' hw' => ?_) ?_
  · go_simp
  go_frame
  refine wpAnyH_done (by kernel_rfl) ?_ _
  rcases Bool.eq_false_or_eq_true (getB xs) with hg | hg
  · have hq : (ys == xs) = true := by rw [beq_dec, HI2.out, hg]
    rw [hq]
    have HGB := Lib.hid hg
    clear hq
    have HG := Lib.hid (getM_yes hg)
    clear hg
    have HW := Lib.hid (four_set HR6.out x0 x1 x2 x3)
    have HF := Lib.hid (four_below HB6.out (Nat.le_refl _) x0 x1 x2 x3)
    obtain ⟨r0, r1, r2, r3⟩ := four_of HR6.out
    have q0 := free_at HR6.out 0
    have q1 := free_at HR6.out 1
    have q2 := free_at HR6.out 2
    have q3 := free_at HR6.out 3
    obtain ⟨k0, k1, k2, k3⟩ := four_of HBM6.out
    go_wp2_with fail
    have hw := HW.out
    generalize (((w6.setCell ⟨w.heap.size, 0, none⟩ (.int .i64 x0)).setCell ⟨w.heap.size, 1, none⟩ (.int .i64 x1)).setCell ⟨w.heap.size, 2, none⟩ (.int .i64 x2)).setCell ⟨w.heap.size, 3, none⟩ (.int .i64 x3) = W2 at *
    have z0 := cell_at hw 0
    have z1 := cell_at hw 1
    have z2 := cell_at hw 2
    have z3 := cell_at hw 3
    exact bodyPost_ret (v := tupV ⟨x0, x1, x2, x3⟩ true) (by simp [results, Tryz.results58, go_sem, z0, z1, z2, z3, mkV, mkC, tupV]) rfl ⟨by rw [HG.out, HGB.out, HM.out], HF.out⟩
  · have hq : (ys == xs) = false := by rw [beq_dec, HI2.out, hg]
    rw [hq]
    have HGB := Lib.hid hg
    clear hq
    have HG := Lib.hid (getM_no hg)
    clear hg
    have HW := Lib.hid (four_set HR6.out 0 0 0 0)
    have HF := Lib.hid (four_below HB6.out (Nat.le_refl _) 0 0 0 0)
    obtain ⟨r0, r1, r2, r3⟩ := four_of HR6.out
    have q0 := free_at HR6.out 0
    have q1 := free_at HR6.out 1
    have q2 := free_at HR6.out 2
    have q3 := free_at HR6.out 3
    go_wp2_with fail
    have hw := HW.out
    generalize (((w6.setCell ⟨w.heap.size, 0, none⟩ (.int .i64 0)).setCell ⟨w.heap.size, 1, none⟩ (.int .i64 0)).setCell ⟨w.heap.size, 2, none⟩ (.int .i64 0)).setCell ⟨w.heap.size, 3, none⟩ (.int .i64 0) = W2 at *
    have z0 := cell_at hw 0
    have z1 := cell_at hw 1
    have z2 := cell_at hw 2
    have z3 := cell_at hw 3
    exact bodyPost_ret (v := tupV zeroM false) (by simp [results, Tryz.results58, go_sem, z0, z1, z2, z3, mkV, mkC, tupV, zeroM]) rfl ⟨by rw [HG.out, HGB.out], HF.out⟩
theorem rget_any (w : World) (B n c : Nat) (A : Option Addr) (xs : List UInt8) (h : Byts w B A n xs) (hB : B ≤ w.heap.size) (hc : n ≤ c) (hm : c ≤ maxLen) : Calls Tryz.prog 58 #[.slice A n c] w (EndsBelow (tupV (getM xs) (getB xs)) w) := by
  by_cases hn : n = 64
  · subst hn
    exact rget_long w B c A xs h hB hc hm
  · have hg : getB xs = false := by simp [getB, h.len, hn]
    rw [getM_no hg, hg]
    exact rget_short w n c A hn (by omega)
end Go.Proofs.YtdjhlhellkajfaaGreat.Frm
