/-
  The program's Encode. Conditions: the list lies in memory.
-/
import Derived.Test.YtofadlenblobnaaULay
namespace Go.Proofs.Ytofadlenblobnaa.Exp
open Go.RowKit Codec Typ Tre
open Cod (Wr Byts Owns bytesOf)
set_option maxRecDepth 100000
def encV (l : List Sp) : List UInt8 := if rightL l then encL l else []
def encN (l : List Sp) : Int := if rightL l then 0 else 1
/-- What Encode leaves: bytes, and why not. -/
def Encd (xs : List UInt8) (er : Int) (w : World) (e : Ending) (w' : World) : Prop :=
  ∃ A n c, e = .returned (.tuple #[.slice A n c, .int .i64 er]) ∧ Byts w' w'.heap.size A n xs ∧ xs.length ≤ 962 ∧ Below w.heap.size w w'
theorem Encd.of {xs ys : List UInt8} {er r2 : Int} {w w' : World} {A : Option Addr} {n c : Nat} (h1 : xs = ys) (h2 : er = r2) (hb : Byts w' w'.heap.size A n ys) (hl : ys.length ≤ 962) (hw : Below w.heap.size w w') : Encd xs er w (.returned (.tuple #[.slice A n c, .int .i64 r2])) w' := by
  subst h1 h2
  exact ⟨A, n, c, rfl, hb, hl, hw⟩
theorem encB_more {l : List Sg} {k : Nat} {x : Sg} (hx : l[k]? = some x) : encB ((l.take (k + 1)).map coreG) = encB ((l.take k).map coreG) ++ encG (coreG x) := by
  unfold encB
  rw [List.take_add_one, hx, List.map_append, List.flatMap_append]
  simp
theorem encB_few {l : List Sg} (h : ∀ s ∈ l.map coreG, OkG s) (k : Nat) : (encB ((l.take k).map coreG)).length ≤ 30 * k := by
  have h1 := encB_len ((l.take k).map coreG) (fun s hs => h s (by
    rw [List.mem_map] at hs ⊢
    obtain ⟨x, hx, e⟩ := hs
    exact ⟨x, List.mem_of_mem_take hx, e⟩))
  rw [List.length_map, List.length_take] at h1
  omega
theorem wr_new (w : World) (base : Nat) (hB : base ≤ w.heap.size) : Wr (w.alloc (.cells #[.slice none 0 0] 39)) base w.heap.size [] :=
  ⟨none, 0, 0, new_at w _ _, Owns.nil, hB⟩
set_option maxHeartbeats 8000000 in
theorem encode_any (l : List Sg) (A : Option Addr) (c n : Nat) (w : World) (hn : l.length = n) (hr : Row 3 sgC w A l) (hi : ∀ g ∈ l, SgIn w g) (hlen : n ≤ 9223372036854775807) :
    Calls Try.prog 7 #[.slice A n c] w (Encd (encV (l.map coreG)) (encN (l.map coreG)) w) := by
  have CR := Lib.hid (right_any l A c n w hn hr hi hlen)
  have HR := Lib.hid hr
  have HI := Lib.hid hi
  have HN := Lib.hid hn
  rcases Bool.eq_false_or_eq_true (rightL (l.map coreG)) with ht | ht
  · have HV : Hid (encV (l.map coreG) = encL (l.map coreG) ∧ encN (l.map coreG) = 0) := Lib.hid ⟨by unfold encV; rw [ht]; rfl, by unfold encN; rw [ht]; rfl⟩
    obtain ⟨h32, hok⟩ := rightL_ok ht
    rw [List.length_map, hn] at h32
    have HLN := Lib.hid (encL_len ht)
    have HOK := Lib.hid hok
    have HFW := Lib.hid (encB_few hok)
    obtain ⟨B, hB0⟩ : ∃ B, w.heap.size = B := ⟨_, rfl⟩
    have HBE := Lib.hid hB0
    clear hB0
    rw [ht] at CR
    clear ht hok hr hi hn
    go_enter Try.func7, Try.ntmps7
    go_wp2_with (go_at_call 13; refine CR.out.mono ?_; rintro e w1 ⟨rfl, hb1⟩; have HB1 := Lib.hid hb1; have hz1 := (HBE.out ▸ hb1.size : B ≤ w1.heap.size); have CS0 := smallK _ B w1.heap.size n [] (wr_new w1 B hz1) (by simp) (by simp; omega); rw [World.size_alloc] at CS0; have CS := Lib.hid CS0; clear CS0; have HB2 := Lib.hid (show Below B w (w1.alloc (.cells #[.slice none 0 0] 39)) from HBE.out ▸ (hb1.alloc hb1.size _)); clear hb1)
    refine CS.out.mono ?_
    rintro e w3 ⟨rfl, hW3, hK3⟩
    have HW3 := Lib.hid hW3
    have HB3 := Lib.hid (HB2.out.trans hK3.bel)
    clear hW3 hK3
    go_wp2_with fail
    go_loopw [16] (fun i wr => ∃ k : Nat, k ≤ n ∧ i = .int .i64 k ∧ Hid (Wr wr B w1.heap.size (encSmall n ++ encB ((l.take k).map coreG))) ∧ Hid (Below B w wr)) (fun i _ => n - (intOf i).toNat)
    case atStart => exact ⟨0, Nat.zero_le _, rfl, Lib.hid (by rw [List.take_zero, show encB (([] : List Sg).map coreG) = [] from rfl, List.append_nil]; exact HW3.out), HB3⟩
    case round =>
      obtain ⟨k, hk, rfl, HW, HB⟩ := hrel
      by_cases hlt : k < n
      · obtain ⟨x, hx⟩ : ∃ x, l[k]? = some x := ⟨_, List.getElem?_eq_getElem (by rw [HN.out]; exact hlt)⟩
        obtain ⟨b1, o1, rfl, hc1⟩ := HR.out.at_ (HBE.out ▸ HB.out) hx
        obtain ⟨p0, p1, p2⟩ := sgC_at hc1
        have hin := HI.out x (List.mem_of_getElem? hx)
        have hok1 := HOK.out (coreG x) (List.mem_map_of_mem (List.mem_of_getElem? hx))
        have HM := Lib.hid (encB_more hx)
        obtain ⟨xs, xa, xc, xp, xr⟩ := x
        have hzr : B ≤ wr.heap.size := by rw [← HBE.out]; exact (HBE.out ▸ HB.out).size
        have hfew := HFW.out k
        have CL := Lib.hid (layG_at B w (wr.alloc (.cells #[.string xs, .slice xa xp.length xc, .int .u8 xr] 37)) w1.heap.size xs xa xc xp.length xp xr _ HBE.out.symm (HW.out.alloc _) (HB.out.alloc hzr _) hin.row rfl hok1 (by rw [List.length_append, encSmall_length]; omega))
        have HZ := Lib.hid (HB.out.alloc hzr (.cells #[.string xs, .slice xa xp.length xc, .int .u8 xr] 37))
        generalize xp.length = xn at *
        clear hc1 hx hin hok1 hfew
        go_wp2_with fail
        refine CL.out.mono ?_
        rintro e w4 ⟨rfl, hW4, hK4⟩
        have HW4 := Lib.hid hW4
        have HB4 := Lib.hid (HZ.out.trans hK4.bel)
        clear hW4 hK4
        go_wp2_with fail
        go_roundw
        case rel => exact ⟨k + 1, by omega, by go_num, Lib.hid (by rw [HM.out, ← List.append_assoc]; exact HW4.out), HB4⟩
        case measure => simp [intOf]; omega
      · obtain rfl : k = n := by omega
        have HE : Hid (encSmall k ++ encB ((l.take k).map coreG) = encL (l.map coreG)) := Lib.hid (by
          rw [List.take_of_length_le (Nat.le_of_eq HN.out)]
          unfold encL
          rw [List.length_map, HN.out])
        have CB := Lib.hid (Cod.bytes_some wr B w1.heap.size _ HW.out (by rw [HE.out]; have := HLN.out; omega))
        rw [HE.out] at CB
        go_wp2_with fail
        refine CB.out.mono ?_
        rintro e w5 ⟨A5, c5, rfl, ho5, hb5⟩
        have HO := Lib.hid ho5
        have HBF := Lib.hid hb5
        clear ho5 hb5
        go_wp2_with fail
        go_ret2
        have hzr : w.heap.size ≤ wr.heap.size := (HBE.out ▸ HB.out).size
        exact Encd.of HV.out.1 HV.out.2 HO.out.byts HLN.out ((HBE.out ▸ HB.out : Below w.heap.size w wr).trans (HBF.out.mono hzr))
  · have HV : Hid (encV (l.map coreG) = [] ∧ encN (l.map coreG) = 1) := Lib.hid ⟨by unfold encV; rw [ht]; rfl, by unfold encN; rw [ht]; rfl⟩
    rw [ht] at CR
    clear ht hr hi hn
    go_enter Try.func7, Try.ntmps7
    go_wp2_with (go_at_call 13; refine CR.out.mono ?_; rintro e w1 ⟨rfl, hb1⟩; have HB1 := Lib.hid hb1; clear hb1)
    go_ret2
    exact Encd.of HV.out.1 HV.out.2 Byts.none_ (by simp) HB1.out
end Go.Proofs.Ytofadlenblobnaa.Exp
