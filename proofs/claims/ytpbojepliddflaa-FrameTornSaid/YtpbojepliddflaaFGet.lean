/-
  What the program's and the document's Get answer: the mark whose sector the bytes are. Conditions: the slice reads as these bytes.
-/
import Derived.Test.YtpbojepliddflaaFRead
namespace Go.Proofs.Ytpbojepliddflaa.Frm
open Go.RowKit Codec FrameM Cod
set_option maxRecDepth 100000
/-- A mark and whether it is one. -/
def tupV (m : Mk) (b : Bool) : Value := .tuple #[mkV m, .bool b]
theorem four_far {W : World} {r k : Nat} (hne : k ≠ r) (a b c d : Value) :
    ((((W.setCell ⟨r, 0, none⟩ a).setCell ⟨r, 1, none⟩ b).setCell ⟨r, 2, none⟩ c).setCell ⟨r, 3, none⟩ d).heap[k]? = W.heap[k]? :=
  (Below.heap_setCell _ _ _ _ hne).trans ((Below.heap_setCell _ _ _ _ hne).trans ((Below.heap_setCell _ _ _ _ hne).trans (Below.heap_setCell _ _ _ _ hne)))
set_option maxHeartbeats 2000000 in
theorem fget_short (w : World) (n c : Nat) (A : Option Addr) (hn : n ≠ 64) (hm : n ≤ maxLen) : Calls Try.prog 7 #[.slice A n c] w (EndsBelow (tupV zeroM false) w) := by
  have hn1 : ((n : Int) != 64) = true := by simp; omega
  have hm2 : n ≤ 9223372036854775807 := hm
  clear hn
  go_enter Try.func7, Try.ntmps7
  go_wp2_with fail
  exact bodyPost_ret (v := tupV zeroM false) (by simp [results, Try.results7, go_sem, mkV, tupV, zeroM]) rfl ⟨rfl, alloc_below w _⟩
set_option maxHeartbeats 2000000 in
theorem fget_long (w : World) (B c : Nat) (A : Option Addr) (xs : List UInt8) (h : Byts w B A 64 xs) (hB : B ≤ w.heap.size) (hc : 64 ≤ c) : Calls Try.prog 7 #[.slice A 64 c] w (EndsBelow (tupV (getM xs) (getB xs)) w) := by
  have HC1 := Lib.hid (fread_any (w.alloc (.cells (mkC 0 0 0 0) 26)) B 64 c A xs (h.alloc hB _) (by simp; omega) (by decide) hc)
  have HX := Lib.hid h
  have HL := Lib.hid h.len
  have HI : Hid (getB xs = decide (put (readM xs) = xs)) := Lib.hid (by simp [getB, isM, h.len])
  clear h
  unfold mkC at HC1
  generalize hm : readM xs = m at *
  have HM := Lib.hid hm
  clear hm
  have HC2 := Lib.hid (fun u => put_any m u)
  unfold mkV at HC1 HC2
  go_enter Try.func7, Try.ntmps7
  go_wp2_with fail
  refine HC1.out.mono ?_
  rintro e w1 ⟨rfl, hb1⟩
  have hr1 := (hb1.block w.heap.size (by simp)).trans (heap_alloc_new w _)
  have hz1 := hb1.size
  simp only [World.size_alloc] at hz1
  have HBM := Lib.hid (heap_alloc_new w1 (.cells (mkC m.kind m.gen m.seq m.n) 26))
  have HR2 := Lib.hid ((Below.heap_alloc w1 (.cells (mkC m.kind m.gen m.seq m.n) 26) _ (by omega)).trans hr1)
  have HB2 := Lib.hid (((alloc_below w _).trans (hb1.mono (by simp))).alloc (by omega) (.cells (mkC m.kind m.gen m.seq m.n) 26))
  clear hb1 hr1 HC1
  unfold mkC at HBM HR2 HB2
  obtain ⟨k, g, s, n⟩ := m
  dsimp only at *
  go_upto_region 4 with fail
  generalize w1.alloc (.cells #[.int .i64 k, .int .i64 g, .int .i64 s, .int .i64 n] 26) = W at *
  have k0 := cell_at HBM.out 0
  have k1 := cell_at HBM.out 1
  have k2 := cell_at HBM.out 2
  have k3 := cell_at HBM.out 3
  go_wp2_with fail
  refine (HC2.out W).mono ?_
  rintro e w2 ⟨A2, c2, rfl, hb, hbl, _, _⟩
  have HC3 := Lib.hid (equal_any w2 _ _ _ _ c2 c A2 A _ xs hb (HX.out.below ((HB2.out.trans (hbl.mono HB2.out.size)).mono hB)))
  have hbm := (hbl.block w1.heap.size (lt_of_heap HBM.out)).trans HBM.out
  have hr := (hbl.block w.heap.size (lt_of_heap HR2.out)).trans HR2.out
  have HB3 := Lib.hid (HB2.out.trans (hbl.mono HB2.out.size))
  clear HC2 HB2 HR2 HBM hb hbl k0 k1 k2 k3
  have HBM := Lib.hid hbm
  have HR := Lib.hid hr
  clear hbm hr
  go_wp2_with fail
  refine HC3.out.mono ?_
  rintro e w3 ⟨rfl, rfl⟩
  rw [← HI.out]
  clear HC3 HI
  cases hg : getB xs with
  | false =>
    have HG := Lib.hid (getM_no hg)
    have HGB := Lib.hid hg
    clear hg
    have HW := Lib.hid (four_set HR.out 0 0 0 0)
    have HF := Lib.hid (four_below HB3.out (Nat.le_refl _) 0 0 0 0)
    have r0 := cell_at HR.out 0
    have r1 := cell_at HR.out 1
    have r2 := cell_at HR.out 2
    have r3 := cell_at HR.out 3
    have q0 := free_at HR.out 0
    have q1 := free_at HR.out 1
    have q2 := free_at HR.out 2
    have q3 := free_at HR.out 3
    go_wp2_with fail
    have hw := HW.out
    generalize (((w2.setCell ⟨w.heap.size, 0, none⟩ (.int .i64 0)).setCell ⟨w.heap.size, 1, none⟩ (.int .i64 0)).setCell ⟨w.heap.size, 2, none⟩ (.int .i64 0)).setCell ⟨w.heap.size, 3, none⟩ (.int .i64 0) = W2 at *
    have z0 := cell_at hw 0
    have z1 := cell_at hw 1
    have z2 := cell_at hw 2
    have z3 := cell_at hw 3
    exact bodyPost_ret (v := tupV zeroM false) (by simp [results, Try.results7, go_sem, z0, z1, z2, z3, mkV, mkC, tupV, zeroM]) rfl ⟨by rw [HG.out, HGB.out], HF.out⟩
  | true =>
    have HG := Lib.hid (getM_yes hg)
    have HGB := Lib.hid hg
    clear hg
    have HW := Lib.hid (four_set HR.out k g s n)
    have HF := Lib.hid (four_below HB3.out (Nat.le_refl _) k g s n)
    have r0 := cell_at HR.out 0
    have r1 := cell_at HR.out 1
    have r2 := cell_at HR.out 2
    have r3 := cell_at HR.out 3
    have q0 := free_at HR.out 0
    have q1 := free_at HR.out 1
    have q2 := free_at HR.out 2
    have q3 := free_at HR.out 3
    have k0 := cell_at HBM.out 0
    have k1 := cell_at HBM.out 1
    have k2 := cell_at HBM.out 2
    have k3 := cell_at HBM.out 3
    go_wp2_with fail
    have hw := HW.out
    generalize (((w2.setCell ⟨w.heap.size, 0, none⟩ (.int .i64 k)).setCell ⟨w.heap.size, 1, none⟩ (.int .i64 g)).setCell ⟨w.heap.size, 2, none⟩ (.int .i64 s)).setCell ⟨w.heap.size, 3, none⟩ (.int .i64 n) = W2 at *
    have z0 := cell_at hw 0
    have z1 := cell_at hw 1
    have z2 := cell_at hw 2
    have z3 := cell_at hw 3
    exact bodyPost_ret (v := tupV ⟨k, g, s, n⟩ true) (by simp [results, Try.results7, go_sem, z0, z1, z2, z3, mkV, mkC, tupV]) rfl ⟨by rw [HG.out, HGB.out, HM.out], HF.out⟩
theorem fget_any (w : World) (B n c : Nat) (A : Option Addr) (xs : List UInt8) (h : Byts w B A n xs) (hB : B ≤ w.heap.size) (hc : n ≤ c) (hm : c ≤ maxLen) : Calls Try.prog 7 #[.slice A n c] w (EndsBelow (tupV (getM xs) (getB xs)) w) := by
  by_cases hn : n = 64
  · subst hn
    exact fget_long w B c A xs h hB hc
  · have hg : getB xs = false := by simp [getB, h.len, hn]
    rw [getM_no hg, hg]
    exact fget_short w n c A hn (by omega)
end Go.Proofs.Ytpbojepliddflaa.Frm
