/-
  The program's lay: one signature behind what was laid. Conditions: the signature lies below the Writer's blocks; it may be; the sizes are named.
-/
import Derived.Test.YtofadlenblobnaaUWr
import Derived.Test.YtofadlenblobnaaURight
namespace Go.Proofs.Ytofadlenblobnaa.Exp
open Go.RowKit Codec Typ Tre
open Cod (Wr Byts Owns bytesOf)
set_option maxRecDepth 100000
def Box (w : World) (bx : Nat) (s : ByteArray) (a : Option Addr) (n c : Nat) (r : Int) : Prop := w.heap[bx]? = some (.cells #[.string s, .slice a n c, .int .u8 r] 37 (0, 0))
theorem Box.kept {w w' : World} {bx : Nat} {s : ByteArray} {a : Option Addr} {n c : Nat} {r : Int} (h : Box w bx s a n c r) (hk : KeptO w w') : Box w' bx s a n c r :=
  hk _ _ h (fun _ _ _ e => by injection e with _ e2 _; subst e2; exact ⟨by decide, by decide⟩)
theorem Box.at0 {w : World} {bx : Nat} {s : ByteArray} {a : Option Addr} {n c : Nat} {r : Int} (h : Box w bx s a n c r) : w.cell? ⟨bx, 0, none⟩ = some (.string s) := cell_at h 0
theorem Box.at1 {w : World} {bx : Nat} {s : ByteArray} {a : Option Addr} {n c : Nat} {r : Int} (h : Box w bx s a n c r) : w.cell? ⟨bx, 1, none⟩ = some (.slice a n c) := cell_at h 1
theorem Box.at2 {w : World} {bx : Nat} {s : ByteArray} {a : Option Addr} {n c : Nat} {r : Int} (h : Box w bx s a n c r) : w.cell? ⟨bx, 2, none⟩ = some (.int .u8 r) := cell_at h 2
theorem smallK (w : World) (base g : Nat) (n : Int) (xs : List UInt8) (hw : Wr w base g xs) (hn : xs.length ≤ 800000000) (hB : base ≤ w.heap.size) :
    Calls Try.prog 15 #[.pointer (some ⟨g, 0, none⟩), .slice (some ⟨w.heap.size, 0, none⟩) 1 1] (w.alloc (.cells #[.int .i64 n] 3)) (LaidK w base g (xs ++ encSmall n)) := by
  refine (small_some _ base g w.heap.size n xs (hw.alloc _) (by omega) (by simp; omega) (by rw [World.cell?_alloc_mark]; rfl)).mono ?_
  rintro e w' ⟨he, h1, h2⟩
  exact ⟨he, h1, ((BelowK.refl base w).alloc hB _).trans h2⟩
theorem textK (w : World) (base g : Nat) (s : ByteArray) (xs : List UInt8) (hw : Wr w base g xs) (hn : xs.length ≤ 800000000) (hB : base ≤ w.heap.size) (hs : s.size ≤ 65535) :
    Calls Try.prog 30 #[.pointer (some ⟨g, 0, none⟩), .slice (some ⟨w.heap.size, 0, none⟩) 1 1] (w.alloc (.cells #[.string s] 9)) (LaidK w base g (xs ++ encText (bytesOf s))) := by
  refine (text_some _ base g w.heap.size s xs (hw.alloc _) hn (by simp; omega) hs (by rw [World.cell?_alloc_mark]; rfl)).mono ?_
  rintro e w' ⟨he, h1, h2⟩
  exact ⟨he, h1, ((BelowK.refl base w).alloc hB _).trans h2⟩
theorem encP_more {p : List Int} {k : Nat} {x : Int} (hx : p[k]? = some x) : encP (p.take (k + 1)) = encP (p.take k) ++ encSmall x := by
  unfold encP
  rw [List.take_add_one, hx, List.flatMap_append]
  simp
set_option maxHeartbeats 8000000 in
theorem layG_at (B : Nat) (w0 w : World) (gb : Nat) (gs : ByteArray) (ga : Option Addr) (gc n : Nat) (gp : List Int) (gr : Int) (xs : List UInt8) (hB0 : B = w0.heap.size) (hw : Wr w B gb xs) (h0 : Below B w0 w) (hr : Row 1 tyC w0 ga gp) (hn : gp.length = n) (ok : OkG (coreG ⟨gs, ga, gc, gp, gr⟩)) (hx : xs.length ≤ 700000000) :
    Calls Try.prog 16 #[.pointer (some ⟨gb, 0, none⟩), .agg #[.string gs, .slice ga n gc, .int .u8 gr]] w (LaidK w B gb (xs ++ encG (coreG ⟨gs, ga, gc, gp, gr⟩))) := by
  have hBw : B ≤ w.heap.size := by rw [hB0]; exact (hB0 ▸ h0).size
  have hbx : Box (w.alloc (.cells #[.string gs, .slice ga n gc, .int .u8 gr] 37)) w.heap.size gs ga n gc gr := new_at w _ _
  have hW1 := hw.alloc (.cells #[.string gs, .slice ga n gc, .int .u8 gr] 37)
  have hK1 := (BelowK.refl B w).alloc hBw (.cells #[.string gs, .slice ga n gc, .int .u8 gr] 37)
  obtain ⟨W1, hE1⟩ : ∃ W1, w.alloc (.cells #[.string gs, .slice ga n gc, .int .u8 gr] 37) = W1 := ⟨_, rfl⟩
  rw [hE1] at hbx hW1 hK1
  have hB1 : B ≤ W1.heap.size := Nat.le_trans hBw hK1.size
  have hs16 : gs.size ≤ 16 := by have := ok.name; have e : (coreG ⟨gs, ga, gc, gp, gr⟩).s.length = gs.size := Cod.bytesOf_length gs; omega
  have hn4 : n ≤ 4 := by have := ok.few; have e : (coreG ⟨gs, ga, gc, gp, gr⟩).p.length = n := hn; omega
  have CT := Lib.hid (textK W1 B gb gs xs hW1 (by omega) hB1 (by omega))
  have z0 := hbx.at0
  have HBX := Lib.hid hbx
  have HK1 := Lib.hid hK1
  have H0 := Lib.hid h0
  have HR := Lib.hid hr
  have HN := Lib.hid hn
  have HOK := Lib.hid ok
  have hr2 := ok.r
  unfold smallT at hr2
  have hr0 : 0 ≤ gr := hr2.1
  have hr3 : gr ≤ 2 := hr2.2
  have HLT := Lib.hid (show (encText (bytesOf gs)).length ≤ 18 by rw [encText_length, Cod.bytesOf_length]; omega)
  clear hbx hW1 hK1 h0 hr hn ok hw hr2 hs16
  go_enter Try.func16, Try.ntmps16
  go_wp2_with fail
  refine CT.out.mono ?_
  rintro e w2 ⟨rfl, hW2, hK2⟩
  have hbx2 := HBX.out.kept hK2.kept
  have z1 := hbx2.at1
  have hB2 := Nat.le_trans hB1 hK2.size
  have CS := Lib.hid (smallK w2 B gb n _ hW2 (by rw [List.length_append]; have := HLT.out; omega) hB2)
  have HK2 := Lib.hid (HK1.out.trans hK2)
  have HBX2 := Lib.hid hbx2
  clear hbx2 hW2 hK2
  go_wp2_with fail
  refine CS.out.mono ?_
  rintro e w3 ⟨rfl, hW3, hK3⟩
  have hbx3 := HBX2.out.kept hK3.kept
  have y1 := hbx3.at1
  have HW3 := Lib.hid hW3
  have HK3 := Lib.hid (HK2.out.trans hK3)
  have HBX3 := Lib.hid hbx3
  clear hbx3 hW3 hK3
  go_wp2_with fail
  go_loopw [20] (fun i wr => ∃ k : Nat, k ≤ n ∧ i = .int .i64 k ∧ Hid (Wr wr B gb (xs ++ encText (bytesOf gs) ++ encSmall n ++ encP (gp.take k))) ∧ Hid (BelowK B w wr) ∧ Hid (Box wr w.heap.size gs ga n gc gr)) (fun i _ => n - (intOf i).toNat)
  case atStart => exact ⟨0, Nat.zero_le _, rfl, Lib.hid (by rw [List.take_zero, show encP [] = [] from rfl, List.append_nil]; exact HW3.out), HK3, HBX3⟩
  case round =>
    obtain ⟨k, hk, rfl, HW, HK, HX⟩ := hrel
    have hBr := Nat.le_trans hBw HK.out.size
    have HL := Lib.hid (show (xs ++ encText (bytesOf gs) ++ encSmall n ++ encP (gp.take k)).length ≤ 800000000 by
      rw [List.length_append, List.length_append, List.length_append, encSmall_length, encP_len, List.length_take]
      have := HLT.out
      omega)
    by_cases hlt : k < n
    · obtain ⟨x, hx1⟩ : ∃ x, gp[k]? = some x := ⟨_, List.getElem?_eq_getElem (by rw [HN.out]; exact hlt)⟩
      have hbel : Below w0.heap.size w0 wr := by rw [← hB0]; exact H0.out.trans HK.out.bel
      obtain ⟨b1, o1, rfl, hc1⟩ := HR.out.at_ hbel hx1
      have p0 := hc1 0 _ rfl
      simp only [Nat.add_zero, Nat.mul_one] at p0
      have hsx := HOK.out.ps x (List.mem_of_getElem? hx1)
      unfold smallT at hsx
      have hx0 : 0 ≤ x := hsx.1
      have hx2 : x ≤ 2 := hsx.2
      have hwr : wrap64 x = x := by unfold wrap64; omega
      have CS := Lib.hid (smallK wr B gb x _ HW.out HL.out hBr)
      have HM := Lib.hid (encP_more hx1)
      clear hc1 hx1 hsx hbel
      go_wp2_with fail
      refine CS.out.mono ?_
      rintro e w4 ⟨rfl, hW4, hK4⟩
      have HW4 := Lib.hid hW4
      have HK4 := Lib.hid (HK.out.trans hK4)
      have HX4 := Lib.hid (HX.out.kept hK4.kept)
      clear hW4 hK4
      go_wp2_with fail
      go_roundw
      case rel => exact ⟨k + 1, by omega, by go_num, Lib.hid (by rw [HM.out, ← List.append_assoc]; exact HW4.out), HK4, HX4⟩
      case measure => simp [intOf]; omega
    · obtain rfl : k = n := by omega
      have q2 := HX.out.at2
      have hwr : wrap64 gr = gr := by unfold wrap64; omega
      have CS := Lib.hid (smallK wr B gb gr _ HW.out HL.out hBr)
      have HG : Hid (xs ++ encText (bytesOf gs) ++ encSmall k ++ encP (gp.take k) ++ encSmall gr = xs ++ encG (coreG ⟨gs, ga, gc, gp, gr⟩)) := Lib.hid (by
        rw [List.take_of_length_le (Nat.le_of_eq HN.out)]
        unfold encG
        rw [show (coreG ⟨gs, ga, gc, gp, gr⟩).p.length = k from HN.out]
        simp only [List.append_assoc]
        rfl)
      go_wp2_with fail
      refine CS.out.mono ?_
      rintro e w4 ⟨rfl, hW4, hK4⟩
      have HW4 := Lib.hid hW4
      have HK4 := Lib.hid (HK.out.trans hK4)
      clear hW4 hK4
      go_wp2_with fail
      go_end0
      exact ⟨rfl, by rw [← HG.out]; exact HW4.out, HK4.out⟩
end Go.Proofs.Ytofadlenblobnaa.Exp
