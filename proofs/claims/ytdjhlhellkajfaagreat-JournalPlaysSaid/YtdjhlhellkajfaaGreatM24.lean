/-
  Texts JGroup, JGrp, JTold, JItems, JAdd, JSeq, JOpen, in one file. What each proves, and its conditions, stand at its head below.
-/
import Derived.Test.YtdjhlhellkajfaaGreatM23
import Derived.RangeFuncNested
import Derived.RangeFuncBound
import Derived.RangeFuncCalls
import Derived.RangeFuncLeaves
import Derived.Shelf.Abstract
import Derived.Shelf.RegionOpen
import Derived.OwnWalkIn
import Derived.TacticsInMore
import Derived.LoopNIn
import Derived.LoopIn
/-
  What read and group of a half tell: the sectors from a place on; the group that stands there. Conditions: the disk is known, its power is on.
-/
namespace Go.Proofs.YtdjhlhellkajfaaGreat.Jou
open Go.RowKit Codec FrameM Cod JourM
open Disk (Turn Dk Dsk ptr Now)
open Frm (Sct Pk)
set_option maxRecDepth 100000
def ReadRows (w : World) (ls : List (List UInt8)) (e : Ending) (w' : World) : Prop :=
  ∃ A c, e = .returned (.slice A ls.length c) ∧ Frm.Rows w' w'.heap.size A ls.length ls ∧ Below w.heap.size w w'
theorem run_make34K (w : World) (K : Nat) (hK : K ≤ 1000000) : (Instr.makeSlice 40 (.int .i64 K) (.int .i64 K)).run Tryz.prog w = .ok (.slice (some ⟨w.heap.size, 0, none⟩) K K) (w.alloc (.cells (Frm.room K) 39)) := by
  obtain ⟨i0, hi, hz0, hz1, hz2⟩ := info_parts Frm.info24
  have := run_make (P := Tryz.prog) w 40 39 i0 _ Tryz.underlying40 hi hz0 .i64 .i64 K K (by omega) (by omega) (by rw [hz2]; omega) (by omega)
  rw [hz1] at this
  simpa [Frm.room] using this
theorem room_size (K : Nat) : (Frm.room K).size = K := by simp [Frm.room, madeCells, Value.cells]
/-- What the loop of read has laid: the first k slices. -/
structure RR (w' : World) (b K k : Nat) (x : Nat → List UInt8) (C : Array Value) : Prop where
  row : w'.heap[b]? = some (.cells C 39 (0, 0))
  size : C.size = K
  at_ : ∀ j, j < k → ∃ Aj cj, C[j]? = some (.slice Aj (x j).length cj) ∧ Bts w' [b] Aj (x j).length (x j) ∧ (x j).length ≤ cj ∧ cj ≤ maxLen
theorem RR.below {w1 w' : World} {b K k : Nat} {x : Nat → List UInt8} {C : Array Value} (h : RR w1 b K k x C) (hb : Below w1.heap.size w1 w') : RR w' b K k x C :=
  ⟨(hb.block _ (lt_of_heap h.row)).trans h.row, h.size, fun j hj => by
    obtain ⟨Aj, cj, h1, h2, h3⟩ := h.at_ j hj
    exact ⟨Aj, cj, h1, h2.below hb, h3⟩⟩
theorem RR.drew {w1 : World} {b K k : Nat} {x : Nat → List UInt8} {C : Array Value} (h : RR w1 b K k x C) : RR w1.drew b K k x C :=
  ⟨h.row, h.size, fun j hj => by
    obtain ⟨Aj, cj, h1, h2, h3⟩ := h.at_ j hj
    exact ⟨Aj, cj, h1, h2.turn (Turn.drew (Turn.refl [] w1)) (by simp), h3⟩⟩
theorem RR.set {w1 : World} {b K k : Nat} {x : Nat → List UInt8} {C : Array Value} (h : RR w1 b K k x C) (hk : k < K) {A : Option Addr} {c : Nat} (hb : Bts w1 [b] A (x k).length (x k)) (hc : (x k).length ≤ c) (hm : c ≤ maxLen) :
    RR (w1.setCell ⟨b, k, none⟩ (.slice A (x k).length c)) b K (k + 1) x (C.setIfInBounds k (.slice A (x k).length c)) := by
  have ht : Turn [b] w1 (w1.setCell ⟨b, k, none⟩ (.slice A (x k).length c)) := (Turn.refl [b] w1).setCell (.inl (by simp)) _
  refine ⟨set_at h.row k _, by simp [h.size], fun j hj => ?_⟩
  by_cases he : j = k
  · subst he
    exact ⟨A, c, by simp [h.size, hk], hb.turn ht (by simp), hc, hm⟩
  · obtain ⟨Aj, cj, h1, h2, h3⟩ := h.at_ j (by omega)
    exact ⟨Aj, cj, by rw [Array.getElem?_setIfInBounds_ne (by omega)]; exact h1, h2.turn ht (by simp), h3⟩
theorem RR.rows {w1 : World} {b K : Nat} {x : Nat → List UInt8} {C : Array Value} (h : RR w1 b K K x C) : Frm.Rows w1 w1.heap.size (some ⟨b, 0, none⟩) K ((List.range K).map x) := by
  refine ⟨by simp, fun hK => ⟨b, 0, rfl, lt_of_heap h.row, fun j hj => ?_⟩⟩
  obtain ⟨Aj, cj, h1, h2, h3, h4⟩ := h.at_ j hj
  have e : ((List.range K).map x).getD j [] = x j := by simp [List.getD_eq_getElem?_getD, hj]
  rw [e]
  exact ⟨Aj, cj, by rw [cell_at h.row, Nat.zero_add]; exact h1, h2.byts, h3, h4⟩
set_option maxHeartbeats 4000000 in
theorem readh_any (w : World) (g gs gm : Nat) (d : Dsk) (gen pos K : Nat) (h : Dk w g gs gm d) (ho : d.off = false) (h2 : 2 ≤ d.n) (hg : gen < 9223372036854775808) (hp : pos + K ≤ 100000) (hK : K ≤ 65536) :
    Calls Tryz.prog 136 #[hv g gen, .int .i64 pos, .int .i64 K] w (ReadRows w ((List.range K).map fun i => rd d (secAt d.n gen (pos + i)))) := by
  have HLO := Lib.hid (Dk.lows h)
  have HB0 := Lib.hid (HB.start gen h)
  have HRD := Lib.hid (fun u hu i => read_any u g gs gm d hu ho i)
  have HSE := Lib.hid (fun u hu k (hk : k < K) => sector_any u g gs gm d gen (pos + k) hu h2 hg (by omega))
  have hmk : ∀ v : World, (Instr.makeSlice 40 (.int .i64 K) (.int .i64 K)).run Tryz.prog v = .ok (.slice (some ⟨v.heap.size, 0, none⟩) K K) (v.alloc (.cells (Frm.room K) 39)) := fun v => run_make34K v K (by omega)
  have hK1 : (K : Int) ≤ 65536 := by omega
  have hP1 : (pos : Int) + K ≤ 100000 := by omega
  obtain ⟨x, hx⟩ : ∃ x : Nat → List UInt8, (fun i => rd d (secAt d.n gen (pos + i))) = x := ⟨_, rfl⟩
  have HX : Hid (∀ i, rd d (secAt d.n gen (pos + i)) = x i) := Lib.hid (fun i => by rw [← hx])
  have HXX : Hid (((List.range K).map fun i => rd d (secAt d.n gen (pos + i))) = (List.range K).map x) := Lib.hid (by rw [← hx])
  rw [HXX.out]
  unfold hv at *
  unfold hbox at *
  unfold ptr at *
  clear h ho h2 hg hx HXX
  go_enter Tryz.func136, Tryz.ntmps136
  go_wp2_with fail
  have HB1 := Lib.hid (HB0.out.alloc (.cells (Frm.room K) 39))
  have HR1 : Hid (RR ((w.alloc (.cells #[.pointer (some ⟨g, 0, none⟩), .int .i64 gen] 105)).alloc (.cells (Frm.room K) 39)) (w.heap.size + 1) K 0 x (Frm.room K)) := Lib.hid ⟨by have := heap_alloc_new (w.alloc (.cells #[.pointer (some ⟨g, 0, none⟩), .int .i64 gen] 105)) (.cells (Frm.room K) 39); rwa [World.size_alloc] at this, room_size K, fun j hj => absurd hj (by omega)⟩
  clear hmk HB0
  generalize (w.alloc (.cells #[.pointer (some ⟨g, 0, none⟩), .int .i64 gen] 105)).alloc (.cells (Frm.room K) 39) = W at *
  go_loopw [13] (fun i' wr => ∃ k : Nat, k ≤ K ∧ i' = .int .i64 k ∧ HB w wr w.heap.size g gs gm gen d ∧ ∃ C, RR wr (w.heap.size + 1) K k x C) (fun i' _ => K - (Go.RowKit.intOf i').toNat)
  case atStart => exact ⟨0, by omega, rfl, HB1.out, _, HR1.out⟩
  case round =>
    obtain ⟨k, hk, rfl, hb, C, hr⟩ := hrel
    have HS := Lib.hid hb
    have HR := Lib.hid hr
    clear hb hr
    have hk2 : (k : Int) ≤ K := by omega
    by_cases hlt : k < K
    · have hlt2 : (k : Int) < K := by omega
      have hidx : ∀ v : World, (Instr.indexAt 40 (.slice (some ⟨w.heap.size + 1, 0, none⟩) K K) (.int .i64 k)).run Tryz.prog v = .ok (.pointer (some ⟨w.heap.size + 1, k, none⟩)) v := fun v => by
        simp [Instr.indexAt, asIntOf, run_underlying Tryz.underlying40, Result.andThen, plain_add]
        intro h1
        omega
      have HSQ := Lib.hid (fun u hu => HSE.out u hu k hlt)
      have HXK := Lib.hid (HX.out k)
      generalize secAt d.n gen (pos + k) = sk at *
      go_wp2_with fail
      have HS := Lib.hid HS.out.drew
      have HR := Lib.hid HR.out.drew
      refine Frm.wh_start (fun w' => w'.heap[w.heap.size]? = some (.cells #[.pointer (some ⟨g, 0, none⟩), .int .i64 gen] 105 (0, 0))) (by kernel_rfl) ?_
      generalize wr.drew = u at *
      refine Frm.wh_take 0 17 (.slice (some ⟨w.heap.size + 1, 0, none⟩) K K) rfl rfl (by kernel_rfl) (fun _ _ _ h => h) rfl (HS.out.bx) (fun w' hw' => ?_) ?_
      · exact rfl
      go_frame
      refine Frm.wh_take 1 18 (.int .i64 k) rfl rfl (by kernel_rfl) (fun _ _ _ h => h) rfl (HS.out.bx) (fun w' hw' => ?_) ?_
      · exact rfl
      go_frame
      refine Frm.wh_take 2 19 (.pointer (some ⟨w.heap.size, 0, none⟩)) rfl rfl (by kernel_rfl) (fun _ _ _ h => h) rfl (HS.out.bx) (fun w' hw' => ?_) ?_
      · go_simp
      go_frame
      refine Frm.wh_take 3 20 (.pointer (some ⟨g, 0, none⟩)) rfl rfl (by kernel_rfl) (fun _ _ _ h => h) rfl (HS.out.bx) (fun w' hw' => ?_) ?_
      · have h0 := box0 hw'
        have h1 := box1 hw'
        go_simp
      go_frame
      refine Frm.wh_take 4 21 (.agg #[.pointer (some ⟨g, 0, none⟩), .int .i64 gen]) rfl rfl (by kernel_rfl) (fun _ _ _ h => h) rfl (HS.out.bx) (fun w' hw' => ?_) ?_
      · have h0 := box0 hw'
        have h1 := box1 hw'
        go_simp
      go_frame
      refine Frm.wh_take 5 22 (.int .i64 pos) rfl rfl (by kernel_rfl) (fun _ _ _ h => h) rfl (HS.out.bx) (fun w' hw' => ?_) ?_
      · exact rfl
      go_frame
      refine Frm.wh_take 6 23 (.int .i64 k) rfl rfl (by kernel_rfl) (fun _ _ _ h => h) rfl (HS.out.bx) (fun w' hw' => ?_) ?_
      · exact rfl
      go_frame
      have hw1 : IntKind.i64.wrap ((pos : Int) + (k : Int)) = (pos : Int) + (k : Int) := IntWalk.i64_in _ (by omega)
      refine Frm.wh_take 7 24 (.int .i64 ((pos : Int) + (k : Int))) rfl rfl (by kernel_rfl) (fun _ _ _ h => h) rfl (HS.out.bx) (fun w' hw' => ?_) ?_
      · go_simp
      go_frame
      have hsq := HSQ.out u HS.out.dk
      push_cast at hsq
      have HC := Lib.hid hsq
      clear hsq hw1
      refine Frm.wh_call 8 25 99 #[.agg #[.pointer (some ⟨g, 0, none⟩), .int .i64 gen], .int .i64 ((pos : Int) + (k : Int))] rfl rfl (by kernel_rfl) rfl ?_ ?_
      · go_simp
      refine (HC.out).mono ?_
      rintro e w2 ⟨rfl, hb2⟩
      have HS := Lib.hid (HS.out.call hb2)
      have HR := Lib.hid (HR.out.below hb2)
      clear hb2 HC
      refine ⟨_, rfl, HS.out.bx, ?_⟩
      go_frame
      have hrd := HRD.out w2 HS.out.dk sk
      rw [HXK.out] at hrd
      have HC := Lib.hid hrd
      clear hrd
      refine Frm.wh_call 9 26 76 #[.pointer (some ⟨g, 0, none⟩), .int .i64 sk] rfl rfl (by kernel_rfl) rfl ?_ ?_
      · go_simp
      refine (HC.out).mono ?_
      rintro e w3 ⟨A3, c3, z3, rfl, hy3, hb3, hc3, hm3, ha3⟩
      have hlt3 := lt_of_heap HR.out.row
      have HBT := Lib.hid (Bts.above (S := [w.heap.size + 1]) hy3 ha3 (by simpa using hlt3))
      have HS := Lib.hid (HS.out.call hb3)
      have HR := Lib.hid (HR.out.below hb3)
      have HCC := Lib.hid (And.intro hc3 hm3)
      clear hb3 HC hlt3 hy3 ha3 hc3 hm3
      refine ⟨_, rfl, HS.out.bx, ?_⟩
      go_frame
      refine Frm.wh_take 10 16 (.tuple #[.slice A3 (x k).length c3, .int .i64 z3]) rfl rfl (by kernel_rfl) (fun _ _ _ h => h) rfl (HS.out.bx) (fun w' hw' => ?_) ?_
      · exact rfl
      go_frame
      refine Frm.wh_take 11 27 (.slice A3 (x k).length c3) rfl rfl (by kernel_rfl) (fun _ _ _ h => h) rfl (HS.out.bx) (fun w' hw' => ?_) ?_
      · go_simp
      go_frame
      refine Frm.wh_take 12 28 (.int .i64 z3) rfl rfl (by kernel_rfl) (fun _ _ _ h => h) rfl (HS.out.bx) (fun w' hw' => ?_) ?_
      · go_simp
      go_frame
      refine Frm.wh_take 13 29 (.pointer (some ⟨w.heap.size + 1, k, none⟩)) rfl rfl (by kernel_rfl) (fun _ _ _ h => h) rfl (HS.out.bx) (fun w' hw' => ?_) ?_
      · go_simp
      go_frame
      clear hidx
      have hcell : ∃ v, w3.cell? ⟨w.heap.size + 1, k, none⟩ = some v := by
        rw [cell_at HR.out.row]
        exact ⟨C[k]'(by rw [HR.out.size]; exact hlt), by simp [HR.out.size, hlt]⟩
      obtain ⟨v0, hv0⟩ := hcell
      have hf0 : w3.frozen? ⟨w.heap.size + 1, k, none⟩ = false := free_at HR.out.row k
      have HBX : Hid ((w3.setCell ⟨w.heap.size + 1, k, none⟩ (.slice A3 (x k).length c3)).heap[w.heap.size]? = some (.cells #[.pointer (some ⟨g, 0, none⟩), .int .i64 gen] 105 (0, 0))) := Lib.hid ((Below.heap_setCell w3 ⟨w.heap.size + 1, k, none⟩ (.slice A3 (x k).length c3) w.heap.size (by simp)).trans HS.out.bx)
      have HR4 := Lib.hid (HR.out.set hlt HBT.out HCC.out.1 HCC.out.2)
      have HT4 : Hid (Turn [w.heap.size + 1] w3 (w3.setCell ⟨w.heap.size + 1, k, none⟩ (.slice A3 (x k).length c3))) := Lib.hid ((Turn.refl [w.heap.size + 1] w3).setCell (.inl (by simp)) _)
      have HDK : Hid (Dk (w3.setCell ⟨w.heap.size + 1, k, none⟩ (.slice A3 (x k).length c3)) g gs gm d) := Lib.hid (by
        have e1 := HLO.out g (by simp)
        have e2 := HLO.out gs (by simp)
        have e3 := HLO.out gm (by simp)
        exact HS.out.dk.turn HT4.out (by simp; omega) (by simp; omega) (by simp; omega))
      have HLW : Hid (Below w.heap.size w (w3.setCell ⟨w.heap.size + 1, k, none⟩ (.slice A3 (x k).length c3))) := Lib.hid (HS.out.low.setCell (p := ⟨w.heap.size + 1, k, none⟩) (by simp) _)
      refine Frm.wh_store 14 (w3.setCell ⟨w.heap.size + 1, k, none⟩ (.slice A3 (x k).length c3)) rfl rfl (by kernel_rfl) rfl ?_ HBX.out ?_
      · go_simp
      refine wpAnyH_done (by kernel_rfl) ?_ _
      clear hv0 hf0
      go_wp2_with fail
      go_roundw
      case rel => exact ⟨k + 1, by omega, by go_num, ⟨HBX.out, HDK.out, HLW.out, HS.out.lo⟩, _, HR4.out⟩
      case measure => simp [Go.RowKit.intOf]; omega
    · obtain rfl : k = K := by omega
      go_wp2_with fail
      go_ret
      have e : ((List.range k).map x).length = k := by simp
      exact ⟨some ⟨w.heap.size + 1, 0, none⟩, k, by rw [e]; rfl, by rw [e]; exact HR.out.rows, HS.out.low⟩
end Go.Proofs.YtdjhlhellkajfaaGreat.Jou
/-
  What group of a half tells: the group that stands at a place, if a whole one does that is right. Conditions: the disk is known, its power is on.
-/
namespace Go.Proofs.YtdjhlhellkajfaaGreat.Jou
open Go.RowKit Codec FrameM Cod JourM
open Disk (Turn Dk Dsk ptr Now)
open Frm (Sct Pk)
set_option maxRecDepth 100000
/-- A group's bytes, and whether there is one. -/
def GroupP (w : World) (xs : List UInt8) (b : Bool) (e : Ending) (w' : World) : Prop :=
  ∃ A m c, e = .returned (.tuple #[.slice A m c, .bool b]) ∧ Below w.heap.size w w' ∧ (b = true → Byts w' w'.heap.size A m xs ∧ m ≤ c ∧ c ≤ maxLen ∧ Frm.Above w.heap.size A ∧ Frm.U8 w' A)
theorem group_no {w w' : World} {xs : List UInt8} (h : Below w.heap.size w w') : GroupP w xs false (.returned (.tuple #[.slice none 0 0, .bool false])) w' := ⟨none, 0, 0, rfl, h, fun e => by cases e⟩
theorem unpack_len {ls : List (List UInt8)} {n : Nat} (h : unpackB ls n = true) : n ≤ 1048576 ∧ (unpack ls n).length = n := by
  have h0 := h
  simp only [unpackB, Bool.and_eq_true, decide_eq_true_eq, List.all_eq_true] at h
  obtain ⟨⟨h1, h2, h3⟩, h4, h5⟩ := h
  refine ⟨by omega, ?_⟩
  rw [unpack_yes h0]
  have hl := flatten_length _ h4
  rw [needI_nat] at h3
  rw [List.length_take, Int.toNat_natCast, hl]
  unfold need at h3
  omega
set_option maxHeartbeats 8000000 in
theorem group_any (w : World) (g gs gm : Nat) (d : Dsk) (gen pos seq : Nat) (h : Dk w g gs gm d) (ho : d.off = false) (h2 : 2 ≤ d.n) (hg : gen < 9223372036854775808) (hp : pos ≤ room d.n) :
    Calls Tryz.prog 104 #[hv g gen, .int .i64 pos, .int .i64 seq] w (GroupP w (gX (rd d) d.n gen pos) (gB (rd d) d.n gen pos seq)) := by
  have hn2 := h.ok.2.1
  have HB0 := Lib.hid (HB.start gen h)
  have HRD := Lib.hid (fun u hu => read_any u g gs gm d hu ho (secAt d.n gen pos))
  have HSE := Lib.hid (fun u hu => sector_any u g gs gm d gen pos hu h2 hg (by unfold room at hp; omega))
  have HRM := Lib.hid (fun u hu => room_any u g gs gm d gen hu h2)
  have HRR : Hid (room d.n ≤ 65536) := Lib.hid (by unfold room; omega)
  have HGT := Lib.hid (fun u B m c A hx hB hc hm => Frm.fget_any u B m c A (rd d (secAt d.n gen pos)) hx hB hc hm)
  have hmp := getM_pos (rd d (secAt d.n gen pos))
  have HGB : Hid (gB (rd d) d.n gen pos seq = (gFit (rd d) d.n gen pos && (gUn (rd d) d.n gen pos && gMk (rd d) d.n gen pos seq))) := Lib.hid rfl
  have HGF : Hid (gFit (rd d) d.n gen pos = (getB (rd d (secAt d.n gen pos)) && decide (need (gLen (rd d) d.n gen pos) + pos < room d.n))) := Lib.hid rfl
  have HGU : Hid (gUn (rd d) d.n gen pos = unpackB (gSecs (rd d) d.n gen pos) (gLen (rd d) d.n gen pos)) := Lib.hid rfl
  have HGX : Hid (gX (rd d) d.n gen pos = unpack (gSecs (rd d) d.n gen pos) (gLen (rd d) d.n gen pos)) := Lib.hid rfl
  have HGM : Hid (gMk (rd d) d.n gen pos seq = (getM (rd d (secAt d.n gen pos))).eq (markM gen seq (gX (rd d) d.n gen pos))) := Lib.hid rfl
  have HRH := Lib.hid (fun u hu (hL : need (gLen (rd d) d.n gen pos) + pos < room d.n) => readh_any u g gs gm d gen (pos + 1) (need (gLen (rd d) d.n gen pos)) hu ho h2 hg (by unfold room at hL; omega) (by unfold room at hL; omega))
  have HRS : Hid (((List.range (need (gLen (rd d) d.n gen pos))).map fun i => rd d (secAt d.n gen (pos + 1 + i))) = gSecs (rd d) d.n gen pos) := Lib.hid rfl
  have HRL : Hid ((gSecs (rd d) d.n gen pos).length = need (gLen (rd d) d.n gen pos)) := Lib.hid (by simp [gSecs, gRows])
  have hL : (getM (rd d (secAt d.n gen pos))).n / 4294967296 = ((gLen (rd d) d.n gen pos : Nat) : Int) := by unfold gLen; omega
  have hLb : (gLen (rd d) d.n gen pos : Int) ≤ 2147483648 := by omega
  rw [HRS.out] at HRH
  generalize gB (rd d) d.n gen pos seq = RB at *
  generalize gFit (rd d) d.n gen pos = RF at *
  generalize gUn (rd d) d.n gen pos = RU at *
  generalize gMk (rd d) d.n gen pos seq = RM at *
  generalize gX (rd d) d.n gen pos = RX at *
  generalize gSecs (rd d) d.n gen pos = LS at *
  generalize gLen (rd d) d.n gen pos = L at *
  generalize getB (rd d (secAt d.n gen pos)) = ok at *
  generalize getM (rd d (secAt d.n gen pos)) = M at *
  generalize rd d (secAt d.n gen pos) = xs at *
  generalize secAt d.n gen pos = s0 at *
  generalize room d.n = R at *
  have HND := Lib.hid (fun u => Frm.need_any (L : Int) u (by unfold in64; omega))
  rw [needI_nat] at HND
  have HUN := Lib.hid (fun u c A hR => Frm.unpack_any u (need L) c A LS (L : Int) (by unfold in64; omega) hR)
  have HMK := Lib.hid (fun u B n c A hb hB hn => mark_any u g gen seq B n c A RX hb hB hn)
  have hec := eq_cases M (markM gen seq RX)
  have HMM : Hid (Frm.mkV (markM gen seq RX) = .agg #[.int .i64 2, .int .i64 gen, .int .i64 seq, .int .i64 (markM gen seq RX).n]) := Lib.hid rfl
  rw [HMM.out] at HMK
  have HME : Hid ((markM gen seq RX).kind = 2 ∧ (markM gen seq RX).gen = gen ∧ (markM gen seq RX).seq = seq) := Lib.hid ⟨rfl, rfl, rfl⟩
  rw [HME.out.1, HME.out.2.1, HME.out.2.2] at hec
  generalize hmm : markM gen seq RX = MM at *
  generalize MM.n = mn at *
  obtain ⟨m0, m1, m2, m3⟩ := M
  dsimp only at hL hmp hec
  unfold Frm.tupV Frm.mkV at HGT
  dsimp only at HGT
  have hnd : (need L : Int) ≤ 33554433 := by unfold need; omega
  have HHL := Lib.hid hL
  have HNE : Hid ((Mk.eq ⟨m0, m1, m2, m3⟩ MM = true ∧ m0 = 2 ∧ m1 = gen ∧ m2 = seq ∧ m3 = mn) ∨ (Mk.eq ⟨m0, m1, m2, m3⟩ MM = false ∧ ¬ (m0 = 2 ∧ m1 = gen ∧ m2 = seq ∧ m3 = mn))) := Lib.hid (by
    rcases hec with ⟨e, e0, e1, e2, e3⟩ | ⟨e, hne⟩
    · exact .inl ⟨e, by simpa using e0, by simpa using e1, by simpa using e2, by simpa using e3⟩
    · refine .inr ⟨e, ?_⟩
      rintro ⟨rfl, rfl, rfl, rfl⟩
      simp at hne)
  have h30 := hmp.2.2.1
  have h31 := hmp.2.2.2
  unfold hv at *
  unfold hbox at *
  unfold ptr at *
  clear h ho h2 hn2 hg hec hmm HMM HME HRS hL hmp
  go_enter Tryz.func104, Tryz.ntmps104
  go_wp2_with fail
  generalize w.alloc (.cells #[.pointer (some ⟨g, 0, none⟩), .int .i64 gen] 105) = W at *
  have HS := Lib.hid HB0.out.drew
  refine Frm.wh_start (fun w' => w'.heap[w.heap.size]? = some (.cells #[.pointer (some ⟨g, 0, none⟩), .int .i64 gen] 105 (0, 0))) (by kernel_rfl) ?_
  generalize W.drew = u at *
  refine Frm.wh_take 0 15 (.pointer (some ⟨w.heap.size, 0, none⟩)) rfl rfl (by kernel_rfl) (fun _ _ _ h => h) rfl (HS.out.bx) (fun w' hw' => ?_) ?_
  · go_simp
  go_frame
  refine Frm.wh_take 1 16 (.pointer (some ⟨g, 0, none⟩)) rfl rfl (by kernel_rfl) (fun _ _ _ h => h) rfl (HS.out.bx) (fun w' hw' => ?_) ?_
  · have h0 := box0 hw'
    have h1 := box1 hw'
    go_simp
  go_frame
  refine Frm.wh_take 2 17 (.agg #[.pointer (some ⟨g, 0, none⟩), .int .i64 gen]) rfl rfl (by kernel_rfl) (fun _ _ _ h => h) rfl (HS.out.bx) (fun w' hw' => ?_) ?_
  · have h0 := box0 hw'
    have h1 := box1 hw'
    go_simp
  go_frame
  refine Frm.wh_take 3 18 (.int .i64 pos) rfl rfl (by kernel_rfl) (fun _ _ _ h => h) rfl (HS.out.bx) (fun w' hw' => ?_) ?_
  · exact rfl
  go_frame
  refine Frm.wh_call 4 19 99 #[.agg #[.pointer (some ⟨g, 0, none⟩), .int .i64 gen], .int .i64 pos] rfl rfl (by kernel_rfl) rfl ?_ ?_
  · go_simp
  refine (HSE.out u HS.out.dk).mono ?_
  rintro e w1 ⟨rfl, hb1⟩
  have HS := Lib.hid (HS.out.call hb1)
  clear hb1
  refine ⟨_, rfl, HS.out.bx, ?_⟩
  go_frame
  refine Frm.wh_call 5 20 76 #[.pointer (some ⟨g, 0, none⟩), .int .i64 s0] rfl rfl (by kernel_rfl) rfl ?_ ?_
  · go_simp
  refine (HRD.out w1 HS.out.dk).mono ?_
  rintro e w2 ⟨A2, c2, z2, rfl, hy2, hb2, hc2, hm2, _⟩
  have HS := Lib.hid (HS.out.call hb2)
  have HY := Lib.hid hy2
  clear hb2 hy2
  refine ⟨_, rfl, HS.out.bx, ?_⟩
  go_frame
  refine Frm.wh_take 6 14 (.tuple #[.slice A2 xs.length c2, .int .i64 z2]) rfl rfl (by kernel_rfl) (fun _ _ _ h => h) rfl (HS.out.bx) (fun w' hw' => ?_) ?_
  · exact rfl
  go_frame
  refine Frm.wh_take 7 21 (.slice A2 xs.length c2) rfl rfl (by kernel_rfl) (fun _ _ _ h => h) rfl (HS.out.bx) (fun w' hw' => ?_) ?_
  · go_simp
  go_frame
  refine Frm.wh_take 8 22 (.int .i64 z2) rfl rfl (by kernel_rfl) (fun _ _ _ h => h) rfl (HS.out.bx) (fun w' hw' => ?_) ?_
  · go_simp
  go_frame
  refine Frm.wh_take 9 8 (.slice A2 xs.length c2) rfl rfl (by kernel_rfl) (fun _ _ _ h => h) rfl (HS.out.bx) (fun w' hw' => ?_) ?_
  · exact rfl
  go_frame
  refine Frm.wh_take 10 9 (.int .i64 z2) rfl rfl (by kernel_rfl) (fun _ _ _ h => h) rfl (HS.out.bx) (fun w' hw' => ?_) ?_
  · exact rfl
  go_frame
  refine wpAnyH_done (by kernel_rfl) ?_ _
  go_wp2_with fail
  refine (HGT.out w2 w2.heap.size xs.length c2 A2 HY.out (Nat.le_refl _) hc2 hm2).mono ?_
  rintro e w3 ⟨rfl, hb3⟩
  have HS := Lib.hid (HS.out.call hb3)
  clear hb3 HY hc2 hm2 HGT HRD HSE
  go_upto_region 4 with fail
  have HT : Hid (Two (w3.alloc (.cells #[.int .i64 m0, .int .i64 m1, .int .i64 m2, .int .i64 m3] 158)) w.heap.size w3.heap.size g gen m0 m1 m2 m3) := Lib.hid ⟨(Below.heap_alloc w3 _ _ (lt_of_heap HS.out.bx)).trans HS.out.bx, heap_alloc_new w3 _⟩
  have HS := Lib.hid (HS.out.alloc (.cells #[.int .i64 m0, .int .i64 m1, .int .i64 m2, .int .i64 m3] 158))
  generalize w3.alloc (.cells #[.int .i64 m0, .int .i64 m1, .int .i64 m2, .int .i64 m3] 158) = w4 at *
  generalize w3.heap.size = kb at *
  try rw [HHL.out]
  have HT : Hid (Two w4.drew w.heap.size kb g gen m0 m1 m2 m3) := Lib.hid ⟨HT.out.bx, HT.out.mb⟩
  have HS := Lib.hid HS.out.drew
  refine Frm.wh_start (fun w' => Two w' w.heap.size kb g gen m0 m1 m2 m3) (by kernel_rfl) ?_
  generalize w4.drew = w5 at *
  rcases Bool.eq_false_or_eq_true ok with hok | hok
  · have HOK := Lib.hid hok
    rw [hok]
    clear hok
    refine Frm.wh_take 0 31 (.bool true) rfl rfl (by kernel_rfl) (fun _ _ _ h => h) rfl (HT.out) (fun w' hw' => ?_) ?_
    · exact rfl
    go_frame
    refine Frm.wh_take 1 32 (.bool false) rfl rfl (by kernel_rfl) (fun _ _ _ h => h) rfl (HT.out) (fun w' hw' => ?_) ?_
    · go_simp
    go_frame
    refine Frm.wh_take 2 33 (.bool false) rfl rfl (by kernel_rfl) (fun _ _ _ h => h) rfl (HT.out) (fun w' hw' => ?_) ?_
    · exact rfl
    go_frame
    refine Frm.wh_take 3 34 (.int .i64 L) rfl rfl (by kernel_rfl) (fun _ _ _ h => h) rfl (HT.out) (fun w' hw' => ?_) ?_
    · exact rfl
    go_frame
    refine Frm.wh_take 5 36 (.agg #[.pointer (some ⟨g, 0, none⟩), .int .i64 gen]) rfl rfl (by kernel_rfl) (fun _ _ _ h => h) rfl (HT.out) (fun w' hw' => ?_) ?_
    · have h0 := box0 hw'.bx
      have h1 := box1 hw'.bx
      go_simp
    go_frame
    refine Frm.wh_take 7 38 (.int .i64 pos) rfl rfl (by kernel_rfl) (fun _ _ _ h => h) rfl (HT.out) (fun w' hw' => ?_) ?_
    · exact rfl
    go_frame
    refine Frm.wh_call 4 35 94 #[.int .i64 L] rfl rfl (by kernel_rfl) rfl ?_ ?_
    · go_simp
    refine (HND.out w5).mono ?_
    rintro e w6 ⟨rfl, rfl⟩
    refine ⟨_, rfl, HT.out, ?_⟩
    go_frame
    refine Frm.wh_call 6 37 75 #[.agg #[.pointer (some ⟨g, 0, none⟩), .int .i64 gen]] rfl rfl (by kernel_rfl) rfl ?_ ?_
    · go_simp
    refine (HRM.out w5 HS.out.dk).mono ?_
    rintro e w6 ⟨rfl, hb6⟩
    have HS := Lib.hid (HS.out.call hb6)
    have HT := Lib.hid (HT.out.below hb6)
    clear hb6
    refine ⟨_, rfl, HT.out, ?_⟩
    go_frame
    have hrr : (R : Int) ≤ 65536 := by have := HRR.out; omega
    have hpp : (pos : Int) ≤ R := by omega
    have hw1 : IntKind.i64.wrap ((R : Int) - (pos : Int)) = (R : Int) - (pos : Int) := IntWalk.i64_in _ (by omega)
    refine Frm.wh_take 8 39 (.int .i64 ((R : Int) - (pos : Int))) rfl rfl (by kernel_rfl) (fun _ _ _ h => h) rfl (HT.out) (fun w' hw' => ?_) ?_
    · go_simp
    go_frame
    by_cases hf : need L + pos < R
    · have HFY := Lib.hid hf
      have HFF : Hid ((need L : Int) < (R : Int) - pos) := Lib.hid (by omega)
      clear hf
      refine Frm.wh_take 9 40 (.bool false) rfl rfl (by kernel_rfl) (fun _ _ _ h => h) rfl (HT.out) (fun w' hw' => ?_) ?_
      · have hff := HFF.out
        go_simp
        all_goals omega
      go_frame
      refine Frm.wh_take 10 41 (.bool false) rfl rfl (by kernel_rfl) (fun _ _ _ h => h) rfl (HT.out) (fun w' hw' => ?_) ?_
      · go_simp
      go_frame
      refine wpAnyH_done (by kernel_rfl) ?_ _
      clear hw1
      go_wp2_with fail
      have HT : Hid (Two w6.drew w.heap.size kb g gen m0 m1 m2 m3) := Lib.hid ⟨HT.out.bx, HT.out.mb⟩
      have HS := Lib.hid HS.out.drew
      refine Frm.wh_start (fun w' => Two w' w.heap.size kb g gen m0 m1 m2 m3) (by kernel_rfl) ?_
      generalize w6.drew = w7 at *
      refine Frm.wh_take 0 43 (.agg #[.pointer (some ⟨g, 0, none⟩), .int .i64 gen]) rfl rfl (by kernel_rfl) (fun _ _ _ h => h) rfl (HT.out) (fun w' hw' => ?_) ?_
      · have h0 := box0 hw'.bx
        have h1 := box1 hw'.bx
        go_simp
      go_frame
      refine Frm.wh_take 1 44 (.int .i64 pos) rfl rfl (by kernel_rfl) (fun _ _ _ h => h) rfl (HT.out) (fun w' hw' => ?_) ?_
      · exact rfl
      go_frame
      have hw1 : IntKind.i64.wrap ((pos : Int) + 1) = (pos : Int) + 1 := IntWalk.i64_in _ (by omega)
      refine Frm.wh_take 2 45 (.int .i64 ((pos : Int) + 1)) rfl rfl (by kernel_rfl) (fun _ _ _ h => h) rfl (HT.out) (fun w' hw' => ?_) ?_
      · go_simp
      go_frame
      refine Frm.wh_take 3 46 (.int .i64 L) rfl rfl (by kernel_rfl) (fun _ _ _ h => h) rfl (HT.out) (fun w' hw' => ?_) ?_
      · exact rfl
      go_frame
      refine Frm.wh_take 6 49 (.int .i64 L) rfl rfl (by kernel_rfl) (fun _ _ _ h => h) rfl (HT.out) (fun w' hw' => ?_) ?_
      · exact rfl
      go_frame
      refine Frm.wh_call 4 47 94 #[.int .i64 L] rfl rfl (by kernel_rfl) rfl ?_ ?_
      · go_simp
      refine (HND.out w7).mono ?_
      rintro e w8 ⟨rfl, rfl⟩
      refine ⟨_, rfl, HT.out, ?_⟩
      go_frame
      have hrh := HRH.out w7 HS.out.dk HFY.out
      push_cast at hrh
      have HC := Lib.hid hrh
      clear hrh hw1
      refine Frm.wh_call 5 48 136 #[.agg #[.pointer (some ⟨g, 0, none⟩), .int .i64 gen], .int .i64 ((pos : Int) + 1), .int .i64 (need L)] rfl rfl (by kernel_rfl) rfl ?_ ?_
      · go_simp
      refine (HC.out).mono ?_
      rintro e w8 ⟨A8, c8, rfl, hr8, hb8⟩
      rw [HRL.out] at hr8 ⊢
      have HS := Lib.hid (HS.out.call hb8)
      have HT := Lib.hid (HT.out.below hb8)
      have HR8 := Lib.hid hr8
      clear hb8 hr8 HC
      refine ⟨_, rfl, HT.out, ?_⟩
      go_frame
      refine Frm.wh_call 7 50 135 #[.slice A8 (need L) c8, .int .i64 L] rfl rfl (by kernel_rfl) rfl ?_ ?_
      · go_simp
      refine (HUN.out w8 c8 A8 HR8.out).mono ?_
      rintro e w9 ⟨A9, m9, c9, rfl, hy9, hb9, hc9, hm9, ha9, hu9⟩
      rw [← HGX.out] at hy9
      rw [← HGU.out]
      have ha9 := ha9.mono HS.out.low.size
      have HS := Lib.hid (HS.out.call hb9)
      have HT := Lib.hid (HT.out.below hb9)
      have HY := Lib.hid (And.intro hy9 (And.intro hc9 (And.intro hm9 (And.intro ha9 hu9))))
      clear hb9 hy9 hc9 hm9 ha9 hu9
      refine ⟨_, rfl, HT.out, ?_⟩
      go_frame
      refine Frm.wh_take 8 42 (.tuple #[.slice A9 m9 c9, .bool RU]) rfl rfl (by kernel_rfl) (fun _ _ _ h => h) rfl (HT.out) (fun w' hw' => ?_) ?_
      · exact rfl
      go_frame
      refine Frm.wh_take 9 51 (.slice A9 m9 c9) rfl rfl (by kernel_rfl) (fun _ _ _ h => h) rfl (HT.out) (fun w' hw' => ?_) ?_
      · go_simp
      go_frame
      refine Frm.wh_take 10 52 (.bool RU) rfl rfl (by kernel_rfl) (fun _ _ _ h => h) rfl (HT.out) (fun w' hw' => ?_) ?_
      · go_simp
      go_frame
      refine Frm.wh_take 11 13 (.slice A9 m9 c9) rfl rfl (by kernel_rfl) (fun _ _ _ h => h) rfl (HT.out) (fun w' hw' => ?_) ?_
      · exact rfl
      go_frame
      refine Frm.wh_take 12 11 (.bool RU) rfl rfl (by kernel_rfl) (fun _ _ _ h => h) rfl (HT.out) (fun w' hw' => ?_) ?_
      · exact rfl
      go_frame
      refine wpAnyH_done (by kernel_rfl) ?_ _
      go_wp2_with fail
      have HT : Hid (Two w9.drew w.heap.size kb g gen m0 m1 m2 m3) := Lib.hid ⟨HT.out.bx, HT.out.mb⟩
      have HS := Lib.hid HS.out.drew
      have HY : Hid (Byts w9.drew w9.drew.heap.size A9 m9 RX ∧ m9 ≤ c9 ∧ c9 ≤ maxLen ∧ Frm.Above w.heap.size A9 ∧ Frm.U8 w9.drew A9) := Lib.hid ⟨HY.out.1.drewN 1, HY.out.2⟩
      refine Frm.wh_start (fun w' => Two w' w.heap.size kb g gen m0 m1 m2 m3) (by kernel_rfl) ?_
      generalize w9.drew = w10 at *
      rcases Bool.eq_false_or_eq_true RU with hu | hu
      · have HUU := Lib.hid hu
        have HUL : Hid (m9 ≤ 1048576) := Lib.hid (by have h1 := HGU.out; rw [hu] at h1; have h2 := unpack_len h1.symm; have h3 := HY.out.1.len; rw [HGX.out] at h3; omega)
        rw [hu]
        clear hu
        refine Frm.wh_take 0 53 (.bool true) rfl rfl (by kernel_rfl) (fun _ _ _ h => h) rfl (HT.out) (fun w' hw' => ?_) ?_
        · exact rfl
        go_frame
        refine Frm.wh_take 1 54 (.bool false) rfl rfl (by kernel_rfl) (fun _ _ _ h => h) rfl (HT.out) (fun w' hw' => ?_) ?_
        · go_simp
        go_frame
        refine Frm.wh_take 2 55 (.bool false) rfl rfl (by kernel_rfl) (fun _ _ _ h => h) rfl (HT.out) (fun w' hw' => ?_) ?_
        · exact rfl
        go_frame
        refine Frm.wh_take 3 56 (.agg #[.int .i64 m0, .int .i64 m1, .int .i64 m2, .int .i64 m3]) rfl rfl (by kernel_rfl) (fun _ _ _ h => h) rfl (HT.out) (fun w' hw' => ?_) ?_
        · obtain ⟨q0, q1, q2, q3⟩ := hw'.c
          go_simp
        go_frame
        refine Frm.wh_take 4 57 (.agg #[.pointer (some ⟨g, 0, none⟩), .int .i64 gen]) rfl rfl (by kernel_rfl) (fun _ _ _ h => h) rfl (HT.out) (fun w' hw' => ?_) ?_
        · have h0 := box0 hw'.bx
          have h1 := box1 hw'.bx
          go_simp
        go_frame
        refine Frm.wh_take 5 58 (.int .i64 seq) rfl rfl (by kernel_rfl) (fun _ _ _ h => h) rfl (HT.out) (fun w' hw' => ?_) ?_
        · exact rfl
        go_frame
        refine Frm.wh_take 6 59 (.slice A9 m9 c9) rfl rfl (by kernel_rfl) (fun _ _ _ h => h) rfl (HT.out) (fun w' hw' => ?_) ?_
        · exact rfl
        go_frame
        refine Frm.wh_call 7 60 128 #[.agg #[.pointer (some ⟨g, 0, none⟩), .int .i64 gen], .int .i64 seq, .slice A9 m9 c9] rfl rfl (by kernel_rfl) rfl ?_ ?_
        · go_simp
        refine (HMK.out w10 w10.heap.size m9 c9 A9 HY.out.1 (Nat.le_refl _) HUL.out).mono ?_
        rintro e w11 ⟨rfl, hb11⟩
        have HS := Lib.hid (HS.out.call hb11)
        have HT := Lib.hid (HT.out.below hb11)
        have HY := Lib.hid (And.intro ((HY.out.1.below hb11).more hb11.size) (And.intro HY.out.2.1 (And.intro HY.out.2.2.1 (And.intro HY.out.2.2.2.1 (HY.out.2.2.2.2.below hb11)))))
        clear hb11
        refine ⟨_, rfl, HT.out, ?_⟩
        go_frame
        rcases HNE.out with ⟨he, hq⟩ | ⟨he, hq⟩
        · have HGR : Hid (RB = true) := Lib.hid (by rw [HGB.out, HGF.out, HOK.out, HUU.out, HGM.out, he]; simp [HFY.out])
          have HQ : Hid ((m0 == 2) = true ∧ (m1 == (gen : Int)) = true ∧ (m2 == (seq : Int)) = true ∧ (m3 == mn) = true) := Lib.hid (by obtain ⟨rfl, rfl, rfl, rfl⟩ := hq; simp)
          clear he hq
          refine Frm.wh_take 8 61 (.bool false) rfl rfl (by kernel_rfl) (fun _ _ _ h => h) rfl (HT.out) (fun w' hw' => ?_) ?_
          · obtain ⟨e0, e1, e2, e3⟩ := HQ.out
            go_simp
          go_frame
          refine Frm.wh_take 9 62 (.bool false) rfl rfl (by kernel_rfl) (fun _ _ _ h => h) rfl (HT.out) (fun w' hw' => ?_) ?_
          · go_simp
          go_frame
          refine wpAnyH_done (by kernel_rfl) ?_ _
          go_wp2_with fail
          go_ret2
          rw [HGR.out]
          exact ⟨A9, m9, c9, rfl, HS.out.low, fun _ => HY.out⟩
        · have HGR : Hid (RB = false) := Lib.hid (by rw [HGB.out, HGM.out, he]; simp)
          have HQ := Lib.hid hq
          clear he hq
          refine Frm.wh_take 8 61 (.bool true) rfl rfl (by kernel_rfl) (fun _ _ _ h => h) rfl (HT.out) (fun w' hw' => ?_) ?_
          · have hq := HQ.out
            go_simp
            all_goals (intros; omega)
          go_frame
          refine Frm.wh_take 9 62 (.bool true) rfl rfl (by kernel_rfl) (fun _ _ _ h => h) rfl (HT.out) (fun w' hw' => ?_) ?_
          · go_simp
          go_frame
          refine wpAnyH_done (by kernel_rfl) ?_ _
          go_wp2_with fail
          go_ret2
          rw [HGR.out]
          exact group_no HS.out.low
      · have HGR : Hid (RB = false) := Lib.hid (by rw [HGB.out, hu]; simp)
        rw [hu]
        clear hu
        refine Frm.wh_take 0 53 (.bool false) rfl rfl (by kernel_rfl) (fun _ _ _ h => h) rfl (HT.out) (fun w' hw' => ?_) ?_
        · exact rfl
        go_frame
        refine Frm.wh_take 1 54 (.bool true) rfl rfl (by kernel_rfl) (fun _ _ _ h => h) rfl (HT.out) (fun w' hw' => ?_) ?_
        · go_simp
        go_frame
        refine Frm.wh_take 2 55 (.bool true) rfl rfl (by kernel_rfl) (fun _ _ _ h => h) rfl (HT.out) (fun w' hw' => ?_) ?_
        · exact rfl
        go_frame
        refine Frm.wh_pass 3 56 rfl rfl (by kernel_rfl) (fun _ _ _ h => h) rfl (HT.out) ?_
        go_frame
        refine Frm.wh_pass 4 57 rfl rfl (by kernel_rfl) (fun _ _ _ h => h) rfl (HT.out) ?_
        go_frame
        refine Frm.wh_pass 5 58 rfl rfl (by kernel_rfl) (fun _ _ _ h => h) rfl (HT.out) ?_
        go_frame
        refine Frm.wh_pass 6 59 rfl rfl (by kernel_rfl) (fun _ _ _ h => h) rfl (HT.out) ?_
        go_frame
        refine Frm.wh_pass 7 60 rfl rfl (by kernel_rfl) (fun _ _ _ h => h) rfl (HT.out) ?_
        go_frame
        refine Frm.wh_pass 8 61 rfl rfl (by kernel_rfl) (fun _ _ _ h => h) rfl (HT.out) ?_
        go_frame
        refine Frm.wh_take 9 62 (.bool true) rfl rfl (by kernel_rfl) (fun _ _ _ h => h) rfl (HT.out) (fun w' hw' => ?_) ?_
        · go_simp
        go_frame
        refine wpAnyH_done (by kernel_rfl) ?_ _
        go_wp2_with fail
        go_ret2
        rw [HGR.out]
        exact group_no HS.out.low
    · have HGR : Hid (RB = false) := Lib.hid (by rw [HGB.out, HGF.out]; simp [hf])
      have HFF : Hid ((R : Int) - pos ≤ need L) := Lib.hid (by omega)
      refine Frm.wh_take 9 40 (.bool true) rfl rfl (by kernel_rfl) (fun _ _ _ h => h) rfl (HT.out) (fun w' hw' => ?_) ?_
      · have hff := HFF.out
        go_simp
      go_frame
      refine Frm.wh_take 10 41 (.bool true) rfl rfl (by kernel_rfl) (fun _ _ _ h => h) rfl (HT.out) (fun w' hw' => ?_) ?_
      · go_simp
      go_frame
      refine wpAnyH_done (by kernel_rfl) ?_ _
      go_wp2_with fail
      go_ret2
      rw [HGR.out]
      exact group_no HS.out.low
  · have HGR : Hid (RB = false) := Lib.hid (by rw [HGB.out, HGF.out, hok]; rfl)
    rw [hok]
    clear hok
    refine Frm.wh_take 0 31 (.bool false) rfl rfl (by kernel_rfl) (fun _ _ _ h => h) rfl (HT.out) (fun w' hw' => ?_) ?_
    · exact rfl
    go_frame
    refine Frm.wh_take 1 32 (.bool true) rfl rfl (by kernel_rfl) (fun _ _ _ h => h) rfl (HT.out) (fun w' hw' => ?_) ?_
    · go_simp
    go_frame
    refine Frm.wh_take 2 33 (.bool true) rfl rfl (by kernel_rfl) (fun _ _ _ h => h) rfl (HT.out) (fun w' hw' => ?_) ?_
    · exact rfl
    go_frame
    refine Frm.wh_pass 3 34 rfl rfl (by kernel_rfl) (fun _ _ _ h => h) rfl (HT.out) ?_
    go_frame
    refine Frm.wh_pass 4 35 rfl rfl (by kernel_rfl) (fun _ _ _ h => h) rfl (HT.out) ?_
    go_frame
    refine Frm.wh_pass 5 36 rfl rfl (by kernel_rfl) (fun _ _ _ h => h) rfl (HT.out) ?_
    go_frame
    refine Frm.wh_pass 6 37 rfl rfl (by kernel_rfl) (fun _ _ _ h => h) rfl (HT.out) ?_
    go_frame
    refine Frm.wh_pass 7 38 rfl rfl (by kernel_rfl) (fun _ _ _ h => h) rfl (HT.out) ?_
    go_frame
    refine Frm.wh_pass 8 39 rfl rfl (by kernel_rfl) (fun _ _ _ h => h) rfl (HT.out) ?_
    go_frame
    refine Frm.wh_pass 9 40 rfl rfl (by kernel_rfl) (fun _ _ _ h => h) rfl (HT.out) ?_
    go_frame
    refine Frm.wh_take 10 41 (.bool true) rfl rfl (by kernel_rfl) (fun _ _ _ h => h) rfl (HT.out) (fun w' hw' => ?_) ?_
    · go_simp
    go_frame
    refine wpAnyH_done (by kernel_rfl) ?_ _
    go_wp2_with fail
    go_ret2
    rw [HGR.out]
    exact group_no HS.out.low
end Go.Proofs.YtdjhlhellkajfaaGreat.Jou
/-
  A range over a function whose body is told, of what it is handed, what the iterator knows of it in memory. A law of no program.
-/
namespace Go.Proofs.YtdjhlhellkajfaaGreat.Jou
open Go.RowKit Go.Shelf
set_option maxRecDepth 100000
section
variable {α : Type} {P : Program}
/-- What an iterator owes whose every round goes on: it calls yield with what is F in the world at hand. -/
def Tells (n : Nat) (P : Program) (gf : Nat) (lb : Array Value) (encs : α → Array Value) (F : List α → α → World → Prop) (Kp : World → World → Prop) (S : List α → Prop) (w : World) : Prop :=
  ∀ (l : Nat) (J : List α → World → Prop) (W : World), Below w.heap.size w W → (∀ s A B, J s A → A.grownBy B none → J s B) →
    (∀ pre x U, J pre U → F pre x U → YieldAt Fence.wide (n - 1) P l (encs x) U fun e U' => e = .returned (.bool true) ∧ J (pre ++ [x]) U' ∧ Kp U U') →
    J [] W → CallsIn Fence.wide n P gf (#[.func (.yield l) #[] #[]] ++ lb) W fun e U => (∃ v, e = .returned v) ∧ ∃ xs, S xs ∧ J xs U
/-- How a round is left. -/
def toldPost (B : Nat) (Kp : World → World → Prop) (I : List α → World → Prop) (xs : List α) (W : World) : Exit → Act → World → Prop
  | .normal, _, U => KeepsFrom B W U ∧ Kp W U ∧ I xs U
  | _, _, _ => False
theorem wpIn_range_told {g : Operand} {ps : Array Tmp} {assign body : Code} {Q : Exit → Act → World → Prop} {a : Act} {w : World} {n gf : Nat} {lb : Array Value} (hg : a.eval g = .func (.func gf) #[] lb) (eg : ∀ args w, (callFunc gf args).run P w = .ok (.enter gf args) w)
    (encs : α → Array Value) (F : List α → α → World → Prop) (Kp : World → World → Prop) (S : List α → Prop) (hseq : Tells (n - 1) P gf lb encs F Kp S w) (hps : ∀ x, (encs x).size = ps.size)
    (hKt : ∀ {A B C : World}, Kp A B → Kp B C → Kp A C) (hKb : ∀ (W : World) (l : Nat) (o o' : Obj), w.heap.size ≤ l → W.heap[l]? = some o → o.isCells = false → Kp W (W.putObj l o'))
    (hF : ∀ pre x W l o o', F pre x W → W.heap[l]? = some o → o.isCells = false → F pre x (W.putObj l o'))
    (I : List α → World → Prop) (hI : OwnFrom w.heap.size I) (h0 : I [] w) (a₁ : α → Act)
    (hassign : ∀ (l : Nat) (x : α) (W : World) (K : Act → World → Prop), K (a₁ x) W →
      assign.wpIn (Fence.wide.inRound l) (n - 1 - 1) P (Exit.then K (fun _ _ _ => False)) { tmps := (ps.zip (encs x)).foldl (fun t (p, v) => t.setIfInBounds p v) a.tmps, defers := [] } W)
    (hbody : ∀ (l : Nat) (pre : List α) (x : α) (W : World), I pre W → F pre x W → body.wpIn (Fence.wide.inRound l) (n - 1 - 1) P (toldPost w.heap.size Kp I (pre ++ [x]) W) (a₁ x) W)
    (hdone : ∀ (D : Nat) (xs : List α) (W : World), w.heap.size ≤ D → S xs → I xs W → W.heap[D]? = some (.deferred (some [])) → Q .normal { a with defers := { target := .collected D, args := #[] } :: a.defers } W) :
    (Code.rangeFunc g ps assign body).wpIn Fence.wide n P Q a w := by
  refine wpIn_rangeFunc fun fn hfn => ?_
  let rc : LoopState → Loop := fun st => { state := st, pending := none, fn, tmps := a.tmps, params := ps, assign, body, defers := w.heap.size }
  obtain ⟨V, hV⟩ : ∃ V, (w.alloc (.deferred (some []))).alloc (.loop (rc .ready)) = V := ⟨_, rfl⟩
  have hl0 : V.heap[w.heap.size + 1]? = some (.loop (rc .ready)) := by
    rw [← hV]
    have := World.alloc_heap_new (w.alloc (.deferred (some []))) (.loop (rc .ready))
    rwa [World.size_alloc] at this
  have hd0 : V.heap[w.heap.size]? = some (.deferred (some [])) := by
    rw [← hV]
    exact (Below.heap_alloc _ _ _ (by simp)).trans (World.alloc_heap_new w _)
  have hb0 : Below w.heap.size w V := by
    rw [← hV]
    exact ((Below.refl _ w).alloc (Nat.le_refl _) _).alloc (by simp) _
  have hi0 : I [] V := by
    rw [← hV]
    exact hI.alloc _ (hI.alloc _ h0)
  refine ⟨w.heap.size + 1, [{ target := .collected w.heap.size, args := #[] }], V, { target := .fn (.func gf) lb, args := #[.func (.yield (w.heap.size + 1)) #[] #[]] }, V, gf,
    #[.func (.yield (w.heap.size + 1)) #[] #[]] ++ lb, V, ?_, ?_, fun _ _ => trivial, ?_, (fun h => by cases h), ?_⟩
  · rw [← hV]
    exact run_enterLoop_outer _ _ _ _ _
  · simp only [resolve, hg]
    simp [go_sem]
  · simp [invoke, go_sem, eg]
  · have same : ∀ {A B : World} {k : Nat} {o : Obj}, A.grownBy B none → A.heap[k]? = some o → B.heap[k]? = some o := fun hgr hk => (hgr.block _ (Array.getElem?_eq_some_iff.1 hk).1 (by simp)).trans hk
    refine (hseq (w.heap.size + 1) (fun pre W => I pre W ∧ W.heap[w.heap.size + 1]? = some (.loop (rc .ready)) ∧ W.heap[w.heap.size]? = some (.deferred (some []))) V hb0
      (fun s A B ⟨k1, k2, k3⟩ hgr => ⟨hI s A B none k1 hgr (fun r e => by cases e), same hgr k2, same hgr k3⟩) ?_ ⟨hi0, hl0, hd0⟩).mono ?_
    · rintro pre x W ⟨hi, hl, hd⟩ hx
      have hlt : w.heap.size + 1 < W.heap.size := (Array.getElem?_eq_some_iff.1 hl).1
      refine ⟨fn, _, assign, body, run_yield (P := P) (args := encs x) hl (hps x), roundIn_of_wpIn hfn (hassign _ x W _ ⟨_, run_beginRound hl rfl, ?_⟩)⟩
      have hl2 : (W.putObj (w.heap.size + 1) (.loop (rc .busy))).heap[w.heap.size + 1]? = some (.loop (rc .busy)) := World.putObj_heap_same hlt
      have hd2 : (W.putObj (w.heap.size + 1) (.loop (rc .busy))).heap[w.heap.size]? = some (.deferred (some [])) := (World.putObj_heap_other (by omega)).trans hd
      refine wpIn_mono (hbody _ pre x _ (hI.putObj _ hi (by omega) hl rfl) (hF pre x _ _ _ _ hx hl rfl)) ?_
      rintro e a3 U hp
      cases e with
      | normal =>
        obtain ⟨p1, p2, p3⟩ := hp
        have hl3 : U.heap[w.heap.size + 1]? = some (.loop (rc .busy)) := p1.same _ _ (by omega) hl2 rfl
        have hd3 := p1.same _ _ (Nat.le_refl _) hd2 rfl
        refine ⟨_, _, run_endRound (P := P) none hl3, rfl, ⟨hI.putObj _ p3 (by omega) hl3 rfl, World.putObj_heap_same (Array.getElem?_eq_some_iff.1 hl3).1, (World.putObj_heap_other (by omega)).trans hd3⟩, ?_⟩
        exact hKt (hKt (hKb _ _ _ _ (by omega) hl rfl) p2) (hKb _ _ _ _ (by omega) hl3 rfl)
      | _ => exact hp.elim
    · rintro e W2 ⟨⟨v, rfl⟩, xs, hS, hi, hl, hd⟩
      exact ⟨none, _, run_endLoop (P := P) hl (by simp [rc]), hdone _ xs _ (Nat.le_refl _) hS (hI.putObj _ hi (by omega) hl rfl) ((World.putObj_heap_other (by omega)).trans hd)⟩
end
end Go.Proofs.YtdjhlhellkajfaaGreat.Jou
/-
  A journal in memory; what groups take; why groups are refused; the small questions. Conditions: the journal is known.
-/
namespace Go.Proofs.YtdjhlhellkajfaaGreat.Jou
open Go.RowKit Codec FrameM Cod JourM
open Disk (Turn Dk Dsk ptr Now)
open Frm (Above U8)
set_option maxRecDepth 100000
/-- A slice of bytes that a journal keeps. -/
structure It where
  A : Option Addr
  m : Nat
  c : Nat
  xs : List UInt8
def It.val (x : It) : Value := .slice x.A x.m x.c
structure It.ok (w : World) (lo : Nat) (x : It) : Prop where
  byts : Byts w w.heap.size x.A x.m x.xs
  mc : x.m ≤ x.c
  cm : x.c ≤ maxLen
  ab : Above lo x.A
  u8 : U8 w x.A
/-- A block that is turned holds no bytes of a journal's. -/
def Fine (w : World) (lo : Nat) (S : List Nat) : Prop := ∀ k ∈ S, k < lo ∨ w.heap.size ≤ k ∨ ∃ (cs : Array Value) (T : TypeId), w.heap[k]? = some (.cells cs T (0, 0)) ∧ T ≠ 5
theorem It.ok.turn {w w' : World} {lo : Nat} {S : List Nat} {x : It} (h : x.ok w lo) (ht : Turn S w w') (hS : Fine w lo S) : x.ok w' lo := by
  have hb : ∀ p : Addr, x.A = some p → w'.heap[p.block]? = w.heap[p.block]? := fun p hp => by
    obtain ⟨cs, hc⟩ := h.u8 p hp
    refine ht.block _ (lt_of_heap hc) fun hm => ?_
    rcases hS _ hm with k | k | ⟨cs', T, k, hT⟩
    · have := h.ab p hp; omega
    · have := lt_of_heap hc; omega
    · rw [hc] at k
      injection k with k
      injection k with _ e
      exact hT e.symm
  refine ⟨⟨h.byts.len, fun hn => ?_⟩, h.mc, h.cm, h.ab, fun p hp => ?_⟩
  · obtain ⟨b, off, e, hl, hc⟩ := h.byts.at_ hn
    have hbb := hb _ e
    exact ⟨b, off, e, Nat.lt_of_lt_of_le hl ht.size, fun j hj => (World.cell?_of_block (w := w) (a := ⟨b, off + j, none⟩) hbb).trans (hc j hj)⟩
  · obtain ⟨cs, hc⟩ := h.u8 p hp
    exact ⟨cs, (hb p hp).trans hc⟩
theorem It.ok.below {w w' : World} {lo : Nat} {x : It} (h : x.ok w lo) (hb : Below w.heap.size w w') : x.ok w' lo := h.turn (S := []) (Turn.ofBelow hb) (by simp [Fine])
theorem own_same {w w' : World} {base size n : Nat} {e : TypeId} {v : Value} {xs : List Value} (h : w.ownsRow base e size v n xs) (hk : ∀ g, v.ownBlock = some g → w'.heap[g]? = w.heap[g]?) : w'.ownsRow base e size v n xs := by
  refine ⟨h.1, ?_⟩
  rcases h.2 with h0 | ⟨g, cap, cur, hv, hg, hh, r⟩
  · exact .inl h0
  · exact .inr ⟨g, cap, cur, hv, hg, by rw [hk g (by rw [hv]; rfl)]; exact hh, r⟩
theorem own_type {w : World} {base size n r : Nat} {e : TypeId} {v : Value} {xs : List Value} (h : w.ownsRow base e size v n xs) (hr : v.ownBlock = some r) : base ≤ r ∧ ∃ cur, w.heap[r]? = some (.cells cur e (0, 0)) := by
  rcases h.2 with ⟨rfl, _⟩ | ⟨g, cap, cur, rfl, hg, hh, _⟩
  · simp [Value.ownBlock] at hr
  · have : g = r := by simpa [Value.ownBlock] using hr
    subst this
    exact ⟨hg, cur, hh⟩
def jobj (g gen : Nat) (v : Value) (u : Nat) (dn : Bool) : Obj := .cells #[ptr g, .int .i64 gen, v, .int .i64 u, .bool dn] 109
/-- A journal, the blocks of its groups from lo on; v: the slice of its groups. -/
structure Jn (w : World) (lo j g gs gm : Nat) (d : Dsk) (jr : Jr) (v : Value) : Prop where
  disk : Dk w g gs gm d
  hd : w.heap[j]? = some (jobj g jr.gen v (takes jr.gs) jr.down)
  own : ∃ its : List It, w.ownsRow lo 39 1 v its.length (its.map It.val) ∧ its.map It.xs = jr.gs ∧ ∀ x ∈ its, x.ok w lo
  lows : ∀ x ∈ [j, g, gs, gm], x < lo
  le : lo ≤ w.heap.size
  n8 : 8 ≤ d.n
  one : 1 ≤ jr.gen
  big : jr.gen < 9223372036854775807
  fit : takes jr.gs ≤ room d.n
section
variable {w w' : World} {lo j g gs gm : Nat} {d d' : Dsk} {jr : Jr} {v : Value}
theorem Jn.apart (h : Jn w lo j g gs gm d jr v) : j ∉ [g, gs, gm] := apart_disk h.disk h.hd (by decide) (by simp [ptr])
theorem Jn.room16 (h : Jn w lo j g gs gm d jr v) : room d.n ≤ 65536 ∧ takes jr.gs ≤ 65536 := by
  have := h.disk.ok.2.1
  have := h.fit
  unfold room at *
  omega
/-- The disk has turned. -/
theorem Jn.disked (h : Jn w lo j g gs gm d jr v) (hd : Dk w' g gs gm d') (ht : Turn [g, gs, gm] w w') (hn : d'.n = d.n) : Jn w' lo j g gs gm d' jr v := by
  have hlow : ∀ k ∈ [g, gs, gm], k < lo := fun k hk => h.lows k (List.mem_cons_of_mem _ hk)
  obtain ⟨its, o1, o2, o3⟩ := h.own
  refine ⟨hd, (ht.block j (lt_of_heap h.hd) h.apart).trans h.hd, ⟨its, own_same o1 fun r hr => ?_, o2, fun x hx => (o3 x hx).turn ht fun k hk => .inl (hlow k hk)⟩, h.lows, Nat.le_trans h.le ht.size, by rw [hn]; exact h.n8, h.one, h.big, by rw [hn]; exact h.fit⟩
  obtain ⟨hlo, cur, hc⟩ := own_type o1 hr
  exact ht.block r (lt_of_heap hc) fun hm => by have := hlow r hm; omega
theorem Jn.below (h : Jn w lo j g gs gm d jr v) (hb : Below w.heap.size w w') : Jn w' lo j g gs gm d jr v := by
  obtain ⟨its, o1, o2, o3⟩ := h.own
  refine ⟨Dk.below h.disk hb, (hb.block j (lt_of_heap h.hd)).trans h.hd, ⟨its, own_same o1 fun r hr => ?_, o2, fun x hx => (o3 x hx).below hb⟩, h.lows, Nat.le_trans h.le hb.size, h.n8, h.one, h.big, h.fit⟩
  obtain ⟨_, cur, hc⟩ := own_type o1 hr
  exact hb.block r (lt_of_heap hc)
theorem Jn.drew (h : Jn w lo j g gs gm d jr v) : Jn w.drew lo j g gs gm d jr v := h.below ⟨rfl, rfl, rfl, Nat.le_refl _, fun _ _ => rfl⟩
theorem Jn.c (h : Jn w lo j g gs gm d jr v) : w.cell? ⟨j, 0, none⟩ = some (.pointer (some ⟨g, 0, none⟩)) ∧ w.cell? ⟨j, 1, none⟩ = some (.int .i64 jr.gen) ∧ w.cell? ⟨j, 2, none⟩ = some v ∧ w.cell? ⟨j, 3, none⟩ = some (.int .i64 (takes jr.gs)) ∧ w.cell? ⟨j, 4, none⟩ = some (.bool jr.down) :=
  ⟨cell_at h.hd 0, cell_at h.hd 1, cell_at h.hd 2, cell_at h.hd 3, cell_at h.hd 4⟩
theorem Jn.len (h : Jn w lo j g gs gm d jr v) : ∃ A c, v = .slice A jr.gs.length c ∧ jr.gs.length ≤ c := by
  obtain ⟨its, o1, o2, _⟩ := h.own
  have hl : its.length = jr.gs.length := by rw [← o2, List.length_map]
  rw [hl] at o1
  rcases o1.2 with ⟨rfl, h0⟩ | ⟨r, cap, cur, rfl, _, _, h1, _⟩
  · exact ⟨none, 0, by rw [h0], by omega⟩
  · exact ⟨_, cap, rfl, h1⟩
end

/-! ### What groups take -/
/-- A slice of slices, of which the lengths are known. -/
structure RowL (w : World) (A : Option Addr) (n : Nat) (ls : List (List UInt8)) : Prop where
  len : ls.length = n
  at_ : 0 < n → ∃ b off, A = some ⟨b, off, none⟩ ∧ ∀ j, j < n → ∃ Aj cj, w.cell? ⟨b, off + j, none⟩ = some (.slice Aj (ls.getD j []).length cj)
theorem RowsB.rowl {w : World} {S : List Nat} {A : Option Addr} {n : Nat} {ls : List (List UInt8)} (h : RowsB w S A n ls) : RowL w A n ls :=
  ⟨h.len, fun hn => by
    obtain ⟨b, off, e, _, _, hc⟩ := h.at_ hn
    exact ⟨b, off, e, fun j hj => by obtain ⟨Aj, cj, h1, _⟩ := hc j hj; exact ⟨Aj, cj, h1⟩⟩⟩
theorem RowL.at {w : World} {A : Option Addr} {n : Nat} {ls : List (List UInt8)} (h : RowL w A n ls) {k : Nat} (hk : k < n) : ∃ b o Aj cj, (∀ c (w' : World), (Instr.indexAt 40 (.slice A n c) (.int .i64 k)).run Tryz.prog w' = .ok (.pointer (some ⟨b, o, none⟩)) w') ∧ w.cell? ⟨b, o, none⟩ = some (.slice Aj (ls.getD k []).length cj) := by
  obtain ⟨b, off, rfl, hc⟩ := h.at_ (by omega)
  obtain ⟨Aj, cj, h1⟩ := hc k hk
  refine ⟨b, off + k, Aj, cj, fun c w' => ?_, h1⟩
  simp [Instr.indexAt, asIntOf, run_underlying Tryz.underlying40, Result.andThen, Addr.add_mid]
  intro h1
  omega
theorem rowl_one (w : World) (A : Option Addr) (c : Nat) (xs : List UInt8) (m : Nat) (hm : xs.length = m) : RowL (w.alloc (.cells #[.slice A m c] 39)) (some ⟨w.heap.size, 0, none⟩) 1 [xs] :=
  ⟨rfl, fun _ => ⟨w.heap.size, 0, rfl, fun k hk => by
    obtain rfl : k = 0 := by omega
    exact ⟨A, c, by rw [cell_at (heap_alloc_new w _)]; simp [hm]⟩⟩⟩
set_option maxHeartbeats 1000000 in
theorem takes_any (w : World) (n c : Nat) (A : Option Addr) (ls : List (List UInt8)) (hr : RowL w A n ls) (ht : takes ls ≤ 1000000000000) : Calls Tryz.prog 51 #[.slice A n c] w (Disk.Ends (.int .i64 (takes ls)) w) := by
  have HR := Lib.hid hr
  have HLEN := Lib.hid hr.len
  have HT := Lib.hid ht
  have hn12 : (n : Int) ≤ 1000000000000 := by have := takes_length ls; have := hr.len; omega
  have HND := Lib.hid (fun (k : Nat) (hk : k ≤ 1000000000000000) => Frm.need_any (k : Int) w (by unfold in64; omega))
  clear hr ht
  go_enter Tryz.func51, Tryz.ntmps51
  go_wp2
  go_loop [3, 8] (fun s i => ∃ k : Nat, k ≤ n ∧ i = .int .i64 k ∧ s = .int .i64 (takes (ls.take k))) (fun _ i => n - (Go.RowKit.intOf i).toNat)
  case atStart => exact ⟨0, by omega, rfl, by simp [takes]⟩
  case round =>
    obtain ⟨k, hk, rfl, rfl⟩ := hrel
    by_cases hlt : k < n
    · obtain ⟨b, o, Aj, cj, hat, hcell⟩ := HR.out.at hlt
      have hkl : k < ls.length := by rw [HLEN.out]; exact hlt
      have hs := takes_snoc_take ls k hkl
      have HTT : Hid (takes (ls.take (k + 1)) = takes (ls.take k) + takes1 (ls.getD k [])) := Lib.hid hs
      have hle := takes_take ls (k + 1)
      have hb1 : (takes (ls.take k) : Int) + (1 + need (ls.getD k []).length) ≤ 1000000000000 := by have := HT.out; unfold takes1 at hs; omega
      have hlx : (ls.getD k []).length ≤ 1000000000000000 := by unfold need at hb1; omega
      have HC := Lib.hid (HND.out _ hlx)
      rw [needI_nat] at HC
      have HT1 : Hid (takes1 (ls.getD k []) = 1 + need (ls.getD k []).length) := Lib.hid rfl
      have hidx := hat c
      clear hat
      have hn0 : (0 : Int) ≤ need (ls.getD k []).length := by omega
      clear hs hle hkl hlx
      generalize need (ls.getD k []).length = nd at *
      generalize (ls.getD k []).length = lx at *
      generalize takes (ls.take k) = tk at *
      go_wp2_with fail
      refine HC.out.mono ?_
      rintro e w1 ⟨rfl, rfl⟩
      go_wp2
      go_round
      case rel => exact ⟨k + 1, by omega, by go_num, by rw [HTT.out, HT1.out]; push_cast; rfl⟩
      case measure => simp [Go.RowKit.intOf]; omega
    · obtain rfl : k = n := by omega
      go_wp2
      go_ret
      refine ⟨?_, rfl⟩
      rw [List.take_of_length_le (by rw [HLEN.out]; exact Nat.le_refl _)]
      rfl

/-! ### A live journal's small questions -/
def JNobody (w : World) (p : Value) : Prop := p = .pointer none ∨ ∃ j, p = ptr j ∧ w.heap[j]? = some (.cells #[.pointer none, .int .i64 0, .slice none 0 0, .int .i64 0, .bool false] 109 (0, 0))
section
variable {w : World} {lo j g gs gm : Nat} {d : Dsk} {jr : Jr} {v : Value}
theorem jmade_any (h : Jn w lo j g gs gm d jr v) : Calls Tryz.prog 74 #[ptr j] w (Disk.Ends (.bool true) w) := by
  have h0 := h.c.1
  clear h
  unfold ptr
  go_enter Tryz.func74, Tryz.ntmps74
  go_wp2
  go_ret
  exact ⟨rfl, rfl⟩
theorem jmade_none {p : Value} (h : JNobody w p) : Calls Tryz.prog 74 #[p] w (Disk.Ends (.bool false) w) := by
  rcases h with rfl | ⟨j, rfl, hz⟩
  · go_enter Tryz.func74, Tryz.ntmps74
    go_wp2
    go_ret
    exact ⟨rfl, rfl⟩
  · have c0 : w.cell? ⟨j, 0, none⟩ = some (.pointer none) := cell_at hz 0
    clear hz
    unfold ptr
    go_enter Tryz.func74, Tryz.ntmps74
    go_wp2
    go_ret
    exact ⟨rfl, rfl⟩
theorem jdown_any (h : Jn w lo j g gs gm d jr v) : Calls Tryz.prog 26 #[ptr j] w (Disk.Ends (.bool jr.down) w) := by
  have HM := Lib.hid (jmade_any h)
  have h4 := h.c.2.2.2.2
  clear h
  unfold ptr at HM ⊢
  generalize jr.down = dn at *
  go_enter Tryz.func26, Tryz.ntmps26
  go_wp2_with fail
  refine HM.out.mono ?_
  rintro e w1 ⟨rfl, rfl⟩
  go_wp2
  go_ret
  exact ⟨rfl, rfl⟩
theorem jdown_none {p : Value} (h : JNobody w p) : Calls Tryz.prog 26 #[p] w (Disk.Ends (.bool true) w) := by
  have HM := Lib.hid (jmade_none h)
  clear h
  go_enter Tryz.func26, Tryz.ntmps26
  go_wp2_with fail
  refine HM.out.mono ?_
  rintro e w1 ⟨rfl, rfl⟩
  go_wp2
  go_ret
  exact ⟨rfl, rfl⟩
theorem jroom_any (h : Jn w lo j g gs gm d jr v) : Calls Tryz.prog 29 #[ptr j] w (EndsBelow (.int .i64 (room d.n)) w) := by
  have HM := Lib.hid (jmade_any h)
  have HR := Lib.hid (room_any w g gs gm d jr.gen h.disk (by have := h.n8; omega))
  obtain ⟨h0, h1, _⟩ := h.c
  clear h
  unfold hv at HR
  unfold ptr at HM HR ⊢
  go_enter Tryz.func29, Tryz.ntmps29
  go_wp2_with fail
  refine HM.out.mono ?_
  rintro e w1 ⟨rfl, rfl⟩
  go_wp2_with fail
  refine HR.out.mono ?_
  rintro e w2 ⟨rfl, hb⟩
  have HB := Lib.hid hb
  clear hb
  go_wp2_with fail
  go_ret
  exact ⟨rfl, HB.out⟩
end
end Go.Proofs.YtdjhlhellkajfaaGreat.Jou
/-
  What add of a journal does: one group more. Condition: the journal is known, the group lies in a block of its own.
-/
namespace Go.Proofs.YtdjhlhellkajfaaGreat.Jou
open Go.RowKit Codec FrameM Cod JourM
open Disk (Turn Dk Dsk ptr Now)
open Frm (Above U8)
set_option maxRecDepth 100000
/-- One value more in a row of slices of the call's own. -/
theorem run_app_it (w : World) (ty : TypeId) (lo : Nat) (v : Value) (its : List It) (h : w.ownsRow lo 39 1 v its.length (its.map It.val)) (x : It) (ad : Addr) (c : Nat) (hc : w.cell? ad = some x.val) (hn : its.length ≤ 1000000) (hlo : lo ≤ w.heap.size) :
    ∃ A' c' w', (Builtin.append_ #[40, 40] ty #[v, .slice (some ad) 1 c]).run Tryz.prog w = .ok (.slice A' (its.length + 1) c') w' ∧ w'.ownsRow lo 39 1 (.slice A' (its.length + 1) c') (its ++ [x]).length ((its ++ [x]).map It.val) ∧ w.grownBy w' v.ownBlock ∧
      ((Value.slice A' (its.length + 1) c').ownBlock = v.ownBlock ∨ (Value.slice A' (its.length + 1) c').ownBlock = some w.heap.size) := by
  obtain ⟨i0, hi0, hz0, hz1, hz2⟩ := info_parts Frm.info24
  have hadd : ad.add 0 = ad := by unfold Addr.add; split <;> simp_all
  obtain ⟨v', w', hrun, r1, r2, _, r5⟩ := run_append_own_at (P := Tryz.prog) w lo 40 ty 39 i0 (.slice none 0 0) 1 24 Tryz.underlying40 hi0 hz0 hz1 hz2 rfl (by decide) v its.length (its.map It.val) h ad 1 c [x.val] rfl (fun j y hy => by
    match j, hy with
    | 0, hy =>
      simp at hy
      subst hy
      rw [hadd]
      exact hc) (by simp [Value.oneCell', It.val]) (by unfold maxLen; omega) (by omega) hlo
  have hform : ∃ A' c', v' = .slice A' (its.length + 1) c' := by
    rcases r1.2 with ⟨_, h0⟩ | ⟨g, cap, cur, rfl, _⟩
    · omega
    · exact ⟨_, _, rfl⟩
  obtain ⟨A', c', rfl⟩ := hform
  exact ⟨A', c', w', hrun, by simpa using r1, r2, r5⟩
theorem wpList_app_it (w : World) {ops : Array Oper} {rest : List Oper} {o : Oper} {a : Act} {Q : Exit → Act → World → Prop} (hgd : o.guard = none) (s y : Operand)
    (ho : o.op = .call { callee := .builtin .append, args := #[s, y], argTypes := #[40, 40] })
    (lo : Nat) (v : Value) (its : List It) (hs : a.eval s = v) (h : w.ownsRow lo 39 1 v its.length (its.map It.val)) (x : It) (ad : Addr) (c : Nat) (hy : a.eval y = .slice (some ad) 1 c) (hc : w.cell? ad = some x.val) (hn : its.length ≤ 1000000) (hlo : lo ≤ w.heap.size)
    (hK : ∀ A' c' w', w'.ownsRow lo 39 1 (.slice A' (its.length + 1) c') (its ++ [x]).length ((its ++ [x]).map It.val) → w.grownBy w' v.ownBlock →
      ((Value.slice A' (its.length + 1) c').ownBlock = v.ownBlock ∨ (Value.slice A' (its.length + 1) c').ownBlock = some w.heap.size) → wpList Tryz.prog ops Q rest (a.put o.dst (.slice A' (its.length + 1) c')) w') : wpList Tryz.prog ops Q (o :: rest) a w := by
  obtain ⟨A', c', w', hrun, k2, k3, k4⟩ := run_app_it w o.type lo v its h x ad c hc hn hlo
  refine wpList_plain hgd fun _ hK' => ?_
  unfold Oper.wp execOp
  simp only [ho, resolve, invoke, builtin, Sem.run_bind, Sem.run_pure, Result.andThen_ok, List.map_toArray, List.map_cons, List.map_nil, hs, hy, hrun]
  exact hK' _ _ (hK A' c' w' k2 k3 k4)
section
variable {P : Program} {ops : Array Oper} {Q : Exit → Act → World → Prop} {md : Region.Mode} {S : World → Prop} {n fuel : Nat} {listed : Array Bool} {a : Act} {w : World}
/-- The laws of a region whose last operation waits for all others, with the slot told. -/
theorem as_take (i d : Nat) (v : Value) {oi : Oper} (hi : ops[i]? = some oi) (hd : oi.dst = some d) (hB : (Region.noSelect ops && Region.free md ops listed i && (Region.ready md ops listed).contains i && decide (i < n) && decide (n < ops.size)) = true)
    (hQ : ∀ c a w, Q (.panic c) (a.put oi.dst v) w → Q (.panic c) a w) (hw : Region.wanted oi (yielded ops a.tmps) = true) (hS : S w) (hy : ∀ w, S w → (execOp a.eval oi).run P w = .ok (.value v) w)
    (h : Disk.AtS P md ops Q S n fuel (listed.setIfInBounds i true) (a.put (some d) v) w) : Disk.AtS P md ops Q S n (fuel + 1) listed a w := by
  simp only [Bool.and_eq_true, decide_eq_true_eq] at hB
  obtain ⟨⟨⟨⟨b1, b2⟩, b3⟩, b4⟩, b5⟩ := hB
  exact Disk.AtS.take hi b1 b2 b3 b4 b5 hQ hw hy hS (by rw [hd]; exact h)
theorem as_call (i d f : Nat) (args : Array Value) {oi : Oper} (hi : ops[i]? = some oi) (hd : oi.dst = some d) (hr : Region.ready md ops listed = [i] ∧ i < n) (hw : Region.wanted oi (yielded ops a.tmps) = true)
    (hrun : (execOp a.eval oi).run P w = .ok (.enter f args) w) (hc : Calls P f args w fun e w' => ∃ v, e = .returned v ∧ S w' ∧ Disk.AtS P md ops Q S n fuel (listed.setIfInBounds i true) (a.put (some d) v) w') :
    Disk.AtS P md ops Q S n (fuel + 1) listed a w :=
  Disk.AtS.call hi hr.1 hr.2 hw hrun (hc.mono fun e w' ⟨v, e1, e2, e3⟩ => ⟨v, e1, e2, by rw [hd]; exact e3⟩)
theorem as_run (i d : Nat) (v : Value) (w' : World) {oi : Oper} (hi : ops[i]? = some oi) (hd : oi.dst = some d) (hr : Region.ready md ops listed = [i] ∧ i < n) (hw : Region.wanted oi (yielded ops a.tmps) = true)
    (hrun : (execOp a.eval oi).run P w = .ok (.value v) w') (hS : S w') (h : Disk.AtS P md ops Q S n fuel (listed.setIfInBounds i true) (a.put (some d) v) w') : Disk.AtS P md ops Q S n (fuel + 1) listed a w := fun hs hcb inv => by
  obtain ⟨hr, hin⟩ := hr
  refine ⟨fun h0 => (by rw [h0] at hr; cases hr), fun k hk => ?_⟩
  rw [hr] at hk
  obtain rfl : k = i := by simpa using hk
  unfold wpOp
  simp only [hi, hw, if_true]
  refine .inl ?_
  unfold Oper.wp
  rw [hrun]
  simp only [Oper.upon]
  rw [hd]
  exact ⟨fun _ => hS, h hs hcb (inv.set (by rw [hr]; simp) hin)⟩
end
/-- A turn of one block, from another block. -/
theorem turn_grown {w w' : World} {v : Value} (h : w.grownBy w' v.ownBlock) : Turn v.ownBlock.toList w w' := ⟨h.os, h.tape, h.output, h.size, fun k hk hn => h.block k hk (fun e => hn (by rw [← e]; simp))⟩
/-- What add leaves. -/
def Added (w : World) (lo j g gs gm : Nat) (d : Dsk) (jr : Jr) (v : Value) (b : List UInt8) (e : Ending) (w' : World) : Prop :=
  e = .returned (.tuple #[]) ∧ ∃ v', Jn w' lo j g gs gm d { jr with gs := jr.gs ++ [b] } v' ∧ Turn (j :: v.ownBlock.toList) w w' ∧ (v'.ownBlock = v.ownBlock ∨ ∃ r, v'.ownBlock = some r ∧ w.heap.size ≤ r)
theorem fine_row {w : World} {lo : Nat} {v : Value} {n : Nat} {xs : List Value} (h : w.ownsRow lo 39 1 v n xs) : Fine w lo v.ownBlock.toList := by
  intro k hk
  cases hv : v.ownBlock with
  | none => rw [hv] at hk; simp at hk
  | some r =>
    rw [hv] at hk
    simp at hk
    subst hk
    obtain ⟨_, cur, hc⟩ := own_type h hv
    exact .inr (.inr ⟨cur, _, hc, by decide⟩)
set_option maxHeartbeats 4000000 in
theorem add_any (w : World) (lo j g gs gm : Nat) (d : Dsk) (jr : Jr) (v : Value) (x : It) (h : Jn w lo j g gs gm d jr v) (hx : x.ok w lo) (hft : takes jr.gs + takes1 x.xs ≤ room d.n) :
    Calls Tryz.prog 56 #[ptr j, x.val] w (Added w lo j g gs gm d jr v x.xs) := by
  obtain ⟨gen, gl, dn⟩ := jr
  dsimp only at *
  have HJ := Lib.hid h
  obtain ⟨its, ho, hi, hok⟩ := h.own
  dsimp only at hi
  have hli : its.length ≤ 65536 := by have h1 := h.room16.2; have h2 := takes_length gl; rw [← hi, List.length_map] at h2; dsimp only at h1; rw [← hi] at h1; omega
  have HO := Lib.hid ho
  have HI := Lib.hid hi
  have HOK := Lib.hid hok
  have HX := Lib.hid hx
  have hc := h.c
  dsimp only at hc
  obtain ⟨c0, c1, c2, c3, c4⟩ := hc
  have HD : Hid (w.heap[j]? = some (.cells #[.pointer (some ⟨g, 0, none⟩), .int .i64 gen, v, .int .i64 (takes gl), .bool dn] 109 (0, 0))) := Lib.hid h.hd
  have f2 : w.frozen? ⟨j, 2, none⟩ = false := free_at h.hd 2
  have hjl : j < lo := h.lows j (by simp)
  have HJL := Lib.hid (And.intro hjl h.le)
  have HFT := Lib.hid hft
  have hu := h.room16.2
  dsimp only at hu
  have HTK : Hid (takes (gl ++ [x.xs]) = takes gl + takes1 x.xs) := Lib.hid (takes_snoc gl x.xs)
  have HTO := Lib.hid (takes_one x.xs)
  have hu2 : (takes gl : Int) ≤ 65536 := by omega
  have hr16 : room d.n ≤ 65536 := h.room16.1
  have ht2 : (takes1 x.xs : Int) ≤ 65536 := by omega
  have HT2 : Hid (takes1 x.xs ≤ 65536) := Lib.hid (by omega)
  obtain ⟨Av, cv, hv, _⟩ := h.len
  dsimp only at hv
  have hgl : gl.length = its.length := by rw [← hi, List.length_map]
  rw [hgl] at hv
  subst hv
  generalize htg : takes gl = u0 at *
  generalize htx : takes1 x.xs = u1 at *
  have HTG := Lib.hid htg
  have HTX := Lib.hid htx
  clear h ho hi hok hx hft hu htg htx hgl hr16 c1 c4
  have HXV : Hid (x.val = .slice x.A x.m x.c) := Lib.hid rfl
  unfold ptr at *
  rw [HXV.out]
  go_enter Tryz.func56, Tryz.ntmps56
  have HW1 := Lib.hid (Frm.alloc_below w (.cells #[.slice x.A x.m x.c] 39))
  have HO1 := Lib.hid (HO.out.alloc (.cells #[.slice x.A x.m x.c] 39))
  have HC1 : Hid ((w.alloc (.cells #[.slice x.A x.m x.c] 39)).cell? ⟨w.heap.size, 0, none⟩ = some x.val) := Lib.hid (cell_at (heap_alloc_new w _) 0)
  have HD1 := Lib.hid ((HW1.out.block j (lt_of_heap HD.out)).trans HD.out)
  go_wp2_with (at_builtin; go_loud (refine wpList_app_it _ rfl (.tmp 8) (.tmp 10) rfl lo (.slice Av its.length cv) its rfl HO1.out x ⟨w.heap.size, 0, none⟩ 1 rfl HC1.out (by omega) (by have := HJL.out.2; simp; omega) ?_); intro A' c' w2 ho2 hg2 hb2; have HO2 := Lib.hid ho2; have HG2 := Lib.hid hg2; have HB2 := Lib.hid hb2; have HD2 := Lib.hid ((hg2.block j (by have := lt_of_heap HD1.out; exact this) (fun e => by have h9 := own_type HO1.out e.symm; have := HJL.out.1; omega)).trans HD1.out); have k2 : w2.cell? ⟨j, 2, none⟩ = some (.slice Av its.length cv) := cell_at HD2.out 2; have k2f : w2.frozen? ⟨j, 2, none⟩ = false := free_at HD2.out 2; clear ho2 hg2 hb2)
  have HD3 : Hid ((w2.setCell ⟨j, 2, none⟩ (.slice A' (its.length + 1) c')).heap[j]? = some (.cells #[.pointer (some ⟨g, 0, none⟩), .int .i64 gen, .slice A' (its.length + 1) c', .int .i64 u0, .bool dn] 109 (0, 0))) := Lib.hid (set_at HD2.out 2 _)
  have HT3 : Hid (Turn [j] w2 (w2.setCell ⟨j, 2, none⟩ (.slice A' (its.length + 1) c'))) := Lib.hid ((Turn.refl [j] w2).setCell (.inl (by simp)) _)
  generalize w2.setCell ⟨j, 2, none⟩ (.slice A' (its.length + 1) c') = w3 at *
  clear k2 k2f c0 c2 c3 f2
  have HD3 : Hid (w3.drew.heap[j]? = some (.cells #[.pointer (some ⟨g, 0, none⟩), .int .i64 gen, .slice A' (its.length + 1) c', .int .i64 u0, .bool dn] 109 (0, 0))) := Lib.hid HD3.out
  have HT3 : Hid (Turn [j] w2 w3.drew) := Lib.hid HT3.out.drew
  refine Disk.AtS.start (by kernel_rfl) 10 (fun w' => w'.heap[j]? = some (.cells #[.pointer (some ⟨g, 0, none⟩), .int .i64 gen, .slice A' (its.length + 1) c', .int .i64 u0, .bool dn] 109 (0, 0))) (by kernel_rfl) (by kernel_rfl) ?_
  generalize w3.drew = w4 at *
  refine as_take 0 14 (.pointer (some ⟨j, 0, none⟩)) rfl rfl (by kernel_rfl) (fun _ _ _ h => h) rfl (HD3.out) (fun w' hw' => ?_) ?_
  · exact rfl
  go_frame
  refine as_take 1 15 (.pointer (some ⟨j, 0, none⟩)) rfl rfl (by kernel_rfl) (fun _ _ _ h => h) rfl (HD3.out) (fun w' hw' => ?_) ?_
  · go_simp
  go_frame
  refine as_take 2 16 (.pointer (some ⟨j, 3, none⟩)) rfl rfl (by kernel_rfl) (fun _ _ _ h => h) rfl (HD3.out) (fun w' hw' => ?_) ?_
  · go_simp
  go_frame
  refine as_take 3 17 (.int .i64 u0) rfl rfl (by kernel_rfl) (fun _ _ _ h => h) rfl (HD3.out) (fun w' hw' => ?_) ?_
  · have q3 : w'.cell? ⟨j, 3, none⟩ = some (.int .i64 u0) := cell_at hw' 3
    go_simp
  go_frame
  refine as_take 4 18 (.slice x.A x.m x.c) rfl rfl (by kernel_rfl) (fun _ _ _ h => h) rfl (HD3.out) (fun w' hw' => ?_) ?_
  · exact rfl
  go_frame
  have HW5 := Lib.hid (Frm.alloc_below w4 (.cells #[.slice x.A x.m x.c] 39))
  have HD5 := Lib.hid ((HW5.out.block j (lt_of_heap HD3.out)).trans HD3.out)
  have HRW := Lib.hid (rowl_one w4 x.A x.c x.xs x.m HX.out.byts.len)
  have HCT := Lib.hid (takes_any _ 1 1 _ [x.xs] HRW.out (by rw [HTO.out]; have := HT2.out; omega))
  rw [HTO.out] at HCT
  refine as_run 5 19 (.slice (some ⟨w4.heap.size, 0, none⟩) 1 1) (w4.alloc (.cells #[.slice x.A x.m x.c] 39)) rfl rfl ⟨by kernel_rfl, by decide⟩ rfl ?_ HD5.out ?_
  · go_simp
  go_frame
  have HT5 : Hid (Turn [j] w2 (w4.alloc (.cells #[.slice x.A x.m x.c] 39))) := Lib.hid (HT3.out.alloc _)
  generalize w4.alloc (.cells #[.slice x.A x.m x.c] 39) = w5 at *
  refine as_call 6 20 51 #[.slice (some ⟨w4.heap.size, 0, none⟩) 1 1] rfl rfl ⟨by kernel_rfl, by decide⟩ rfl ?_ ?_
  · go_simp
  refine (HCT.out).mono ?_
  rintro e w6 ⟨rfl, rfl⟩
  refine ⟨_, rfl, HD5.out, ?_⟩
  go_frame
  have hw1 : IntKind.i64.wrap ((u0 : Int) + (u1 : Int)) = (u0 : Int) + (u1 : Int) := IntWalk.i64_in _ (by omega)
  refine as_take 7 21 (.int .i64 ((u0 : Int) + (u1 : Int))) rfl rfl (by kernel_rfl) (fun _ _ _ h => h) rfl (HD5.out) (fun w' hw' => ?_) ?_
  · go_simp
  go_frame
  refine as_take 8 22 (.pointer (some ⟨j, 0, none⟩)) rfl rfl (by kernel_rfl) (fun _ _ _ h => h) rfl (HD5.out) (fun w' hw' => ?_) ?_
  · go_simp
  go_frame
  refine as_take 9 23 (.pointer (some ⟨j, 3, none⟩)) rfl rfl (by kernel_rfl) (fun _ _ _ h => h) rfl (HD5.out) (fun w' hw' => ?_) ?_
  · go_simp
  go_frame
  have q3 : w5.cell? ⟨j, 3, none⟩ = some (.int .i64 u0) := cell_at HD5.out 3
  have q3f : w5.frozen? ⟨j, 3, none⟩ = false := free_at HD5.out 3
  have HD6 := Lib.hid (set_at HD5.out 3 (.int .i64 ((u0 : Int) + (u1 : Int))))
  have HT6 : Hid (Turn [j] w2 (w5.setCell ⟨j, 3, none⟩ (.int .i64 ((u0 : Int) + (u1 : Int))))) := Lib.hid (HT5.out.setCell (.inl (by simp)) _)
  refine Disk.AtS.last (i := 10) (w' := w5.setCell ⟨j, 3, none⟩ (.int .i64 ((u0 : Int) + (u1 : Int)))) rfl (by kernel_rfl) (by kernel_rfl) (by decide) rfl ?_ ?_
  · go_simp
  simp only [Act.put]
  generalize w5.setCell ⟨j, 3, none⟩ (.int .i64 ((u0 : Int) + (u1 : Int))) = w7 at *
  clear q3 q3f hw1
  go_wp2_with fail
  go_end0
  have hT : Turn (j :: (Value.slice Av its.length cv).ownBlock.toList) w w7 := ((Turn.ofBelow (S := j :: (Value.slice Av its.length cv).ownBlock.toList) HW1.out).trans ((turn_grown HG2.out).more (fun k hk => List.mem_cons_of_mem _ hk))).trans (HT6.out.more (fun k hk => by simp at hk; simp [hk]))
  have hF : Fine w lo (j :: (Value.slice Av its.length cv).ownBlock.toList) := fun k hk => by
    rcases List.mem_cons.1 hk with rfl | hk
    · exact .inl HJL.out.1
    · exact fine_row HO.out k hk
  have hjd := HJ.out.apart
  refine ⟨rfl, .slice A' (its.length + 1) c', ⟨?_, ?_, ⟨its ++ [x], ?_, ?_, ?_⟩, HJ.out.lows, Nat.le_trans HJ.out.le hT.size, HJ.out.n8, HJ.out.one, HJ.out.big, ?_⟩, hT, ?_⟩
  · refine HJ.out.disk.turn hT ?_ ?_ ?_ <;>
      · intro hm
        rcases List.mem_cons.1 hm with e | hm
        · exact hjd (by simp [← e])
        · obtain ⟨h1, _⟩ := own_type HO.out (by simpa using hm)
          have h3 := HJ.out.lows g (by simp)
          have h4 := HJ.out.lows gs (by simp)
          have h5 := HJ.out.lows gm (by simp)
          omega
  · show w7.heap[j]? = some (jobj g gen (.slice A' (its.length + 1) c') (takes (gl ++ [x.xs])) dn)
    rw [HTK.out]
    have := HD6.out
    unfold jobj ptr
    rw [this]
    simp
  · refine own_same HO2.out fun r hr => ?_
    obtain ⟨h1, cur, h2⟩ := own_type HO2.out hr
    exact HT6.out.block r (lt_of_heap h2) (by simp; have := HJL.out.1; omega)
  · simp [HI.out]
  · intro y hy
    rcases List.mem_append.1 hy with hy | hy
    · exact (HOK.out y hy).turn hT hF
    · rw [List.mem_singleton.1 hy]
      exact HX.out.turn hT hF
  · show takes (gl ++ [x.xs]) ≤ room d.n
    rw [HTK.out]
    exact HFT.out
  · rcases HB2.out with e | e
    · exact .inl e
    · exact .inr ⟨_, e, by have := HW1.out.size; omega⟩
end Go.Proofs.YtdjhlhellkajfaaGreat.Jou
/-
  The sequence of a half's groups: it yields those that are there, in their order. Conditions: the disk is known, its power is on.
-/
namespace Go.Proofs.YtdjhlhellkajfaaGreat.Jou
open Go.RowKit Codec FrameM Cod JourM Go.Shelf
open Disk (Turn Dk Dsk ptr Now)
open Frm (Above U8)
set_option maxRecDepth 100000
attribute [local go_sem] Oper.semAt_some
theorem groups_fn (w : World) (g gen : Nat) : Calls Tryz.prog 55 #[hv g gen] w fun e w' => e = .returned (.func (.func 103) #[] #[.pointer (some ⟨w.heap.size, 0, none⟩)]) ∧ w' = w.alloc (hbox g gen) := by
  unfold hv hbox ptr
  go_enter Tryz.func55, Tryz.ntmps55
  go_wp2
  go_ret
  exact ⟨rfl, rfl⟩
/-- What is known of a group that is yielded. -/
def Fg (lo R : Nat) (pre : List It) (x : It) (U : World) : Prop := x.ok U lo ∧ takes (pre.map It.xs) + takes1 x.xs ≤ R
/-- What a round leaves as it is. -/
def Kg (kb g gs gm : Nat) (U U' : World) : Prop := (∀ k ∈ [kb, g, gs, gm], U'.heap[k]? = U.heap[k]?) ∧ U.heap.size ≤ U'.heap.size
theorem groupsF_step (f : Nat → List UInt8) (n gen pos seq : Nat) : groupsF f n gen (room n + 1) pos seq = if gB f n gen pos seq then gX f n gen pos :: groupsF f n gen (room n + 1) (pos + takes1 (gX f n gen pos)) (seq + 1) else [] := by
  have e : groupsF f n gen (room n + 1) pos seq = if gB f n gen pos seq then gX f n gen pos :: groupsF f n gen (room n) (pos + takes1 (gX f n gen pos)) (seq + 1) else [] := rfl
  rw [e]
  cases hb : gB f n gen pos seq with
  | false => rfl
  | true =>
    have h1 := gB_room hb
    have h2 : 1 ≤ takes1 (gX f n gen pos) := by unfold takes1; omega
    rw [if_pos rfl, if_pos rfl, groupsF_fuel f n gen (room n) (room n + 1) _ _ (by omega) (by omega) h1]
set_option maxHeartbeats 4000000 in
theorem groups_tells (m kb g gs gm gen : Nat) (d : Dsk) (w : World) (hbx : w.heap[kb]? = some (hbox g gen)) (hd : Dk w g gs gm d) (ho : d.off = false) (h2 : 2 ≤ d.n) (hg : gen < 9223372036854775808) (lo : Nat) (hlo : lo ≤ w.heap.size) :
    Tells m Tryz.prog 103 #[.pointer (some ⟨kb, 0, none⟩)] (fun x : It => #[x.val]) (Fg lo (room d.n)) (Kg kb g gs gm) (fun xs => xs.map It.xs = groups (rd d) d.n gen) w := by
  intro l J W hW hJ hY h0
  have hr16 : (room d.n : Int) ≤ 65536 := by have := hd.ok.2.1; unfold room; omega
  have HGR := Lib.hid (fun u hu pos seq hp => group_any u g gs gm d gen pos seq hu ho h2 hg hp)
  have HST := Lib.hid (groupsF_step (rd d) d.n gen)
  have HGB := Lib.hid (fun pos seq hh => gB_room (f := rd d) (n := d.n) (gen := gen) (pos := pos) (seq := seq) hh)
  have HGS : Hid (groups (rd d) d.n gen = groupsF (rd d) d.n gen (room d.n + 1) 0 0) := Lib.hid rfl
  have HJ := Lib.hid hJ
  have HY := Lib.hid hY
  have hbW : W.heap[kb]? = some (hbox g gen) := (hW.block kb (lt_of_heap hbx)).trans hbx
  have hdW : Dk W g gs gm d := Dk.below hd hW
  have hsz : lo ≤ W.heap.size := Nat.le_trans hlo hW.size
  have HX : Hid (∀ pos seq, gB (rd d) d.n gen pos seq = true → (gX (rd d) d.n gen pos).length ≤ 1048576) := Lib.hid (fun pos seq hh => by
    simp only [gB, gUn, Bool.and_eq_true] at hh
    have := unpack_len hh.2.1
    unfold gX
    omega)
  generalize groups (rd d) d.n gen = GG at *
  generalize rd d = f at *
  unfold hv at HGR
  unfold hbox ptr at *
  clear hbx hd hW hJ hY h2 hg ho hlo
  refine callsIn_of_wp Tryz.func103 rfl trivial ?_ rfl
  simp only [Tryz.ntmps103, List.size_toArray, List.length_cons, List.length_nil, Nat.reduceAdd, Nat.reduceSub, Array.replicate_succ, Array.replicate_zero, List.push_toArray, List.append_toArray, List.nil_append, List.cons_append]
  gi_wp2
  gi_loopw [3, 4] (fun p q wr => ∃ (pos : Nat) (pre : List It), p = .int .i64 pos ∧ q = .int .i64 pre.length ∧ pos ≤ room d.n ∧ takes (pre.map It.xs) = pos ∧ pre.map It.xs ++ groupsF f d.n gen (room d.n + 1) pos pre.length = GG ∧ J pre wr ∧
      wr.heap[kb]? = some (.cells #[.pointer (some ⟨g, 0, none⟩), .int .i64 gen] 105) ∧ Dk wr g gs gm d ∧ lo ≤ wr.heap.size) (fun p _ _ => room d.n + 1 - (Go.RowKit.intOf p).toNat)
  case atStart => exact ⟨0, [], rfl, rfl, by omega, rfl, by rw [HGS.out]; rfl, h0, hbW, hdW, hsz⟩
  case round =>
    obtain ⟨pos, pre, rfl, rfl, hp, ht, hgg, hJ0, hb0, hd0, hl0⟩ := hrel
    have HC := Lib.hid (HGR.out wr hd0 pos pre.length hp)
    have HS := Lib.hid (And.intro hb0 (And.intro hd0 hl0))
    have HJ0 := Lib.hid hJ0
    have HT := Lib.hid ht
    have hs := HST.out pos pre.length
    have hp2 : (pos : Int) ≤ 65536 := by omega
    have hpl : (pre.length : Int) ≤ 65536 := by have := takes_length (pre.map It.xs); rw [List.length_map] at this; omega
    have hc0 := box0 hb0
    have hc1 := box1 hb0
    clear hb0 hd0 hl0 hJ0 ht
    rcases Bool.eq_false_or_eq_true (gB f d.n gen pos pre.length) with hb | hb
    · rw [hb, if_pos rfl] at hs
      rw [hs] at hgg
      have HGG := Lib.hid hgg
      have hrm := HGB.out pos pre.length hb
      have hlen := HX.out pos pre.length hb
      have HRM := Lib.hid hrm
      have hrm2 : (pos : Int) + takes1 (gX f d.n gen pos) ≤ 65536 := by omega
      rw [hb] at HC
      clear hb hs hgg
      have HT1 : Hid (1 ≤ takes1 (gX f d.n gen pos)) := Lib.hid (by unfold takes1; omega)
      have HTO := Lib.hid (takes_one (gX f d.n gen pos))
      generalize gX f d.n gen pos = xs at *
      gi_wp2
      refine ⟨trivial, (fun h => by cases h), (callsIn_wide.2 HC.out).mono ?_⟩
      rintro e w1 ⟨A1, m1, c1, rfl, hb1, hh⟩
      obtain ⟨hy1, hmc, hcm, hab, hu8⟩ := hh rfl
      have hJ1 : J pre w1 := HJ.out pre wr w1 HJ0.out ⟨hb1.os, hb1.tape, hb1.output, hb1.size, fun k hk _ => hb1.block k hk⟩
      have hF : Fg lo (room d.n) pre ⟨A1, m1, c1, xs⟩ w1 := ⟨⟨hy1, hmc, hcm, hab.mono HS.out.2.2, hu8⟩, by have := HT.out; have := HRM.out; show takes (pre.map It.xs) + takes1 xs ≤ _; omega⟩
      have HM1 : Hid (xs.length = m1) := Lib.hid hy1.len
      obtain ⟨fn, tmps, assign, body, hy, hR⟩ := HY.out pre ⟨A1, m1, c1, xs⟩ w1 hJ1 hF
      have HB1 := Lib.hid hb1
      dsimp only [It.val] at hy
      clear hc0 hc1 hb1 hh hy1 hmc hcm hab hu8 hJ1 hF
      gi_wp2
      refine ⟨(fun h => by cases h), ?_⟩
      refine hR.mono ?_
      rintro e W3 ⟨rfl, hJ3, hk3⟩
      have HJ3 := Lib.hid hJ3
      have HK3 := Lib.hid hk3
      clear hJ3 hk3
      have HTK := Lib.hid (takes_any _ 1 1 _ [xs] (rowl_one W3 A1 c1 xs m1 HM1.out) (by rw [HTO.out]; omega))
      rw [HTO.out] at HTK
      generalize takes1 xs = tx at *
      gi_wp2
      refine ⟨trivial, (fun h => by cases h), (callsIn_wide.2 HTK.out).mono ?_⟩
      rintro e w4 ⟨rfl, rfl⟩
      gi_wp2
      go_roundw
      case rel =>
        have hba := Frm.alloc_below W3 (.cells #[.slice A1 m1 c1] 39)
        have hbb := HB1.out
        have e1 := lt_of_heap HS.out.1
        have e2 := Dk.lows HS.out.2.1
        have k0 := HK3.out.1
        have z1 := hbb.size
        have z3 := HK3.out.2
        have hb3 : W3.heap[kb]? = some (.cells #[.pointer (some ⟨g, 0, none⟩), .int .i64 gen] 105) := (k0 kb (by simp)).trans ((hbb.block kb e1).trans HS.out.1)
        have hd3 : Dk W3 g gs gm d := (Dk.below HS.out.2.1 hbb).keep (k0 g (by simp)) (k0 gs (by simp)) (k0 gm (by simp)) z3
        refine ⟨pos + tx, pre ++ [⟨A1, m1, c1, xs⟩], by go_num, by rw [List.length_append]; go_num, by have := HRM.out; omega, ?_, ?_, ?_, ?_, ?_, ?_⟩
        · rw [List.map_append, List.map_cons, List.map_nil, takes_app, HT.out, HTO.out]
        · rw [List.map_append, List.length_append, List.append_assoc]
          exact HGG.out
        · exact HJ.out _ W3 _ HJ3.out (World.grownBy_alloc W3 _ none)
        · exact (hba.block kb (by omega)).trans hb3
        · exact Dk.below hd3 hba
        · have := HS.out.2.2
          have := hba.size
          omega
      case measure =>
        have := HT1.out
        have := HRM.out
        simp [Go.RowKit.intOf]
        omega
    · rw [hb] at hs
      rw [hs] at hgg
      have HGG := Lib.hid hgg
      rw [hb] at HC
      clear hb hs hgg
      gi_wp2
      refine ⟨trivial, (fun h => by cases h), (callsIn_wide.2 HC.out).mono ?_⟩
      rintro e w1 ⟨A1, m1, c1, rfl, hb1, hh⟩
      have HB1 := Lib.hid hb1
      clear hc0 hc1 hb1 hh
      gi_wp2
      refine ⟨fun _ h => (by cases h), ?_⟩
      gi_wp2
      refine bodyPost_ret (results_none rfl _ _ _) rfl ?_
      refine ⟨⟨_, rfl⟩, pre, ?_, HJ.out pre wr w1 HJ0.out ⟨HB1.out.os, HB1.out.tape, HB1.out.output, HB1.out.size, fun k hk _ => HB1.out.block k hk⟩⟩
      have := HGG.out
      simpa using this
end Go.Proofs.YtdjhlhellkajfaaGreat.Jou
/-
  What Open of a journal tells. Conditions: the disk is known.
-/
namespace Go.Proofs.YtdjhlhellkajfaaGreat.Jou
open Go.RowKit Codec FrameM Cod JourM Go.Shelf
open Disk (Turn Dk Dsk ptr Now)
open Frm (Above U8)
set_option maxRecDepth 100000
attribute [local go_sem] Oper.semAt_some
theorem keepB_on {d : Dsk} {i : Nat} {l : List (List UInt8)} (h : keepB d i l = true) : (keepD d i l).off = false := by
  simp only [keepB, Bool.and_eq_true] at h
  unfold keepD
  rw [h.1, if_pos rfl, sy_go h.2]
  exact deed_go h.2
theorem beginB_on {d : Dsk} {gen : Nat} {l : List (List UInt8)} (h : beginB d gen l = true) : (beginD d gen l).off = false := by
  simp only [beginB, Bool.and_eq_true] at h
  unfold beginD
  rw [if_pos h.1]
  exact keepB_on h.2
theorem openB_on {d : Dsk} (h : openB d = true) (ho : d.off = false) : (openD d).off = false := by
  unfold openB at h
  unfold openD
  split at h
  · rename_i h0
    rw [if_pos h0]
    exact beginB_on h
  · rename_i h0
    rw [if_neg h0]
    exact ho
section
variable {w w' : World} {lo j g gs gm : Nat} {d : Dsk} {jr : Jr} {v : Value}
/-- What turns no cells, from lo on. -/
theorem Jn.quiet {row : Option Nat} (h : Jn w lo j g gs gm d jr v) (hg : w.grownBy w' row) (hr : ∀ r, row = some r → lo ≤ r ∧ ∃ o : Obj, w.heap[r]? = some o ∧ o.isCells = false) : Jn w' lo j g gs gm d jr v := by
  have ne : ∀ {k : Nat} {cs : Array Value} {T : TypeId} {fr : Nat × Nat}, w.heap[k]? = some (.cells cs T fr) → some k ≠ row := fun hk e => by
    obtain ⟨_, o, ho, hc⟩ := hr _ e.symm
    rw [hk] at ho
    cases ho
    cases hc
  have low : ∀ {k : Nat}, k < lo → some k ≠ row := fun hk e => by
    have := (hr _ e.symm).1
    omega
  obtain ⟨its, o1, o2, o3⟩ := h.own
  refine ⟨h.disk.keep (hg.block g h.disk.lt (low (h.lows g (by simp)))) (hg.block gs h.disk.sf.1 (low (h.lows gs (by simp)))) (hg.block gm h.disk.ltm (low (h.lows gm (by simp)))) hg.size, (hg.block j (lt_of_heap h.hd) (ne h.hd)).trans h.hd,
    ⟨its, own_same o1 fun r hr => ?_, o2, fun x hx => ?_⟩, h.lows, Nat.le_trans h.le hg.size, h.n8, h.one, h.big, h.fit⟩
  · obtain ⟨_, cur, hc⟩ := own_type o1 hr
    exact hg.block r (lt_of_heap hc) (ne hc)
  · have hx := o3 x hx
    have hb : ∀ p : Addr, x.A = some p → w'.heap[p.block]? = w.heap[p.block]? := fun p hp => by
      obtain ⟨cs, hc⟩ := hx.u8 p hp
      exact hg.block _ (lt_of_heap hc) (ne hc)
    refine ⟨⟨hx.byts.len, fun hn => ?_⟩, hx.mc, hx.cm, hx.ab, fun p hp => ?_⟩
    · obtain ⟨b, off, e, hl, hc⟩ := hx.byts.at_ hn
      have hbb := hb _ e
      exact ⟨b, off, e, Nat.lt_of_lt_of_le hl hg.size, fun i hi => (World.cell?_of_block (w := w) (a := ⟨b, off + i, none⟩) hbb).trans (hc i hi)⟩
    · obtain ⟨cs, hc⟩ := hx.u8 p hp
      exact ⟨cs, (hb p hp).trans hc⟩
end
theorem open_small (w : World) (g gs gm : Nat) (d : Dsk) (h : Dk w g gs gm d) (h8 : d.n < 8) : Calls Tryz.prog 13 #[ptr g] w (Disk.Ends (.tuple #[.pointer none, .int .i64 1]) w) := by
  have HS := Lib.hid (Disk.sectors_disk w g gs gm d h)
  have h8i : (d.n : Int) < 8 := by omega
  clear h
  unfold ptr at *
  refine (callsIn_wide (n := 5)).1 ?_
  refine callsIn_of_wp_marks Tryz.func13 rfl trivial ?_ rfl
  simp only [Tryz.ntmps13, List.size_toArray, List.length_cons, List.length_nil, Nat.reduceAdd, Nat.reduceSub, Array.replicate_succ, Array.replicate_zero, List.push_toArray, List.append_toArray, List.nil_append, List.cons_append]
  gi_wp2
  refine ⟨trivial, (callsIn_wide.2 HS.out).mono ?_⟩
  rintro e w1 ⟨rfl, rfl⟩
  gi_wp2
  exact ⟨_, results_tmp2 rfl _ _ _, rfl, rfl⟩
theorem open_none (w : World) : Calls Tryz.prog 13 #[.pointer none] w (Disk.Ends (.tuple #[.pointer none, .int .i64 1]) w) := by
  have HS := Lib.hid (Disk.sectors_none w (.pointer none) (.inl rfl))
  refine (callsIn_wide (n := 5)).1 ?_
  refine callsIn_of_wp_marks Tryz.func13 rfl trivial ?_ rfl
  simp only [Tryz.ntmps13, List.size_toArray, List.length_cons, List.length_nil, Nat.reduceAdd, Nat.reduceSub, Array.replicate_succ, Array.replicate_zero, List.push_toArray, List.append_toArray, List.nil_append, List.cons_append]
  gi_wp2
  refine ⟨trivial, (callsIn_wide.2 HS.out).mono ?_⟩
  rintro e w1 ⟨rfl, rfl⟩
  gi_wp2
  exact ⟨_, results_tmp2 rfl _ _ _, rfl, rfl⟩
theorem open_off (w : World) (g gs gm : Nat) (d : Dsk) (h : Dk w g gs gm d) (h8 : 8 ≤ d.n) (ho : d.off = true) : Calls Tryz.prog 13 #[ptr g] w (Disk.Ends (.tuple #[.pointer none, .int .i64 3]) w) := by
  have HS := Lib.hid (Disk.sectors_disk w g gs gm d h)
  have HD := Lib.hid (Disk.down_disk w g gs gm d h)
  rw [ho] at HD
  have h8i : 8 ≤ (d.n : Int) := by omega
  clear h ho
  unfold ptr at *
  refine (callsIn_wide (n := 5)).1 ?_
  refine callsIn_of_wp_marks Tryz.func13 rfl trivial ?_ rfl
  simp only [Tryz.ntmps13, List.size_toArray, List.length_cons, List.length_nil, Nat.reduceAdd, Nat.reduceSub, Array.replicate_succ, Array.replicate_zero, List.push_toArray, List.append_toArray, List.nil_append, List.cons_append]
  gi_wp2
  refine ⟨trivial, (callsIn_wide.2 HS.out).mono ?_⟩
  rintro e w1 ⟨rfl, rfl⟩
  gi_wp2
  refine ⟨trivial, (callsIn_wide.2 HD.out).mono ?_⟩
  rintro e w1 ⟨rfl, rfl⟩
  gi_wp2
  exact ⟨_, results_tmp2 rfl _ _ _, rfl, rfl⟩
/-- What the loop over the groups keeps. -/
structure OI (w V U : World) (lo j k6 g gs gm G : Nat) (d : Dsk) (pre : List It) (v : Value) : Prop where
  jn : Jn U lo j g gs gm d ⟨G, pre.map It.xs, false⟩ v
  b6 : U.heap[k6]? = some (.cells #[.pointer (some ⟨j, 0, none⟩)] 33)
  fr : Turn [g, gs, gm] w U
theorem OI.c6 {w V U : World} {lo j k6 g gs gm G : Nat} {d : Dsk} {pre : List It} {v : Value} (h : OI w V U lo j k6 g gs gm G d pre v) : U.cell? ⟨k6, 0, none⟩ = some (.pointer (some ⟨j, 0, none⟩)) := cell_at h.b6 0
theorem OI.own {w V : World} {lo j k6 g gs gm G : Nat} {d : Dsk} (hw : w.heap.size ≤ lo) : OwnFrom lo (fun (pre : List It) U => ∃ v, OI w V U lo j k6 g gs gm G d pre v) := by
  rintro pre U U' row ⟨v, h⟩ hg hr
  refine ⟨v, h.jn.quiet hg hr, ?_, ?_⟩
  · refine (hg.block k6 (lt_of_heap h.b6) fun e => ?_).trans h.b6
    obtain ⟨_, o, ho, hc⟩ := hr _ e.symm
    rw [h.b6] at ho
    cases ho
    cases hc
  · exact h.fr.grown hg fun k hk => .inr (by have := (hr k hk).1; omega)
/-- What an Open that is answered OK leaves. -/
def Opened (w : World) (g gs gm : Nat) (d : Dsk) (jr : Jr) (e : Ending) (w' : World) : Prop :=
  ∃ lo j v, e = .returned (.tuple #[ptr j, .int .i64 0]) ∧ Jn w' lo j g gs gm d jr v ∧ Turn [g, gs, gm] w w' ∧ w.heap.size ≤ j
theorem It.ok.put {w : World} {lo l : Nat} {x : It} {o o' : Obj} (h : x.ok w lo) (ho : w.heap[l]? = some o) (hc : o.isCells = false) : x.ok (w.putObj l o') lo := by
  have hb : ∀ p : Addr, x.A = some p → (w.putObj l o').heap[p.block]? = w.heap[p.block]? := fun p hp => by
    obtain ⟨cs, hcs⟩ := h.u8 p hp
    refine World.putObj_heap_other fun e => ?_
    rw [e, ho] at hcs
    cases hcs
    cases hc
  refine ⟨⟨h.byts.len, fun hn => ?_⟩, h.mc, h.cm, h.ab, fun p hp => ?_⟩
  · obtain ⟨b, off, e, hl, hcc⟩ := h.byts.at_ hn
    have hbb := hb _ e
    exact ⟨b, off, e, by simp [World.putObj]; exact hl, fun i hi => (World.cell?_of_block (w := w) (a := ⟨b, off + i, none⟩) hbb).trans (hcc i hi)⟩
  · obtain ⟨cs, hcs⟩ := h.u8 p hp
    exact ⟨cs, (hb p hp).trans hcs⟩
theorem own_row {w : World} {lo j g gs gm : Nat} {d : Dsk} {jr : Jr} {v : Value} (h : Jn w lo j g gs gm d jr v) {k : Nat} (hk : k ∈ j :: v.ownBlock.toList) : (k = j ∨ lo ≤ k) ∧ ∃ (cs : Array Value) (T : TypeId), w.heap[k]? = some (.cells cs T (0, 0)) := by
  obtain ⟨its, o1, _⟩ := h.own
  rcases List.mem_cons.1 hk with rfl | hk
  · exact ⟨.inl rfl, _, _, h.hd⟩
  · obtain ⟨h1, cur, h2⟩ := own_type o1 (by simpa using hk)
    exact ⟨.inr h1, cur, _, h2⟩
theorem round_open {w V U W3 : World} {lo j k6 kb g gs gm G : Nat} {d : Dsk} {pre : List It} {x : It} {v v' : Value} (h : OI w V U lo j k6 g gs gm G d pre v) (hjn : Jn W3 lo j g gs gm d { (⟨G, pre.map It.xs, false⟩ : Jr) with gs := pre.map It.xs ++ [x.xs] } v') (ht : Turn (j :: v.ownBlock.toList) U W3)
    (hkb : kb < lo ∧ kb ≠ j) (hk6 : k6 < lo ∧ k6 ≠ j) (hw : w.heap.size ≤ j ∧ w.heap.size ≤ lo) : KeepsFrom lo U W3 ∧ Kg kb g gs gm U W3 ∧ ∃ v, OI w V W3 lo j k6 g gs gm G d (pre ++ [x]) v := by
  have hap := h.jn.apart
  simp only [List.mem_cons, List.not_mem_nil, or_false, not_or] at hap
  have out : ∀ {k : Nat}, k < lo → k ≠ j → k ∉ j :: v.ownBlock.toList := fun h1 h2 hm => by
    rcases (own_row h.jn hm).1 with e | e <;> omega
  refine ⟨⟨ht.size, fun k o hB hk ho => (ht.block k (Array.getElem?_eq_some_iff.1 hk).1 fun hm => ?_).trans hk⟩, ⟨fun k hk => ?_, ht.size⟩, v', ⟨?_, (ht.block k6 (lt_of_heap h.b6) (out hk6.1 hk6.2)).trans h.b6, h.fr.then_ ht fun k hk => .inr ?_⟩⟩
  · obtain ⟨_, cs, T, hc⟩ := own_row h.jn hm
    rw [hk] at hc
    cases hc
    cases ho
  · simp only [List.mem_cons, List.not_mem_nil, or_false] at hk
    have l1 := h.jn.lows g (by simp)
    have l2 := h.jn.lows gs (by simp)
    have l3 := h.jn.lows gm (by simp)
    have := h.jn.le
    rcases hk with rfl | rfl | rfl | rfl
    · exact ht.block _ (by omega) (out hkb.1 hkb.2)
    · exact ht.block _ (by omega) (out l1 (by omega))
    · exact ht.block _ (by omega) (out l2 (by omega))
    · exact ht.block _ (by omega) (out l3 (by omega))
  · have e : (pre ++ [x]).map It.xs = pre.map It.xs ++ [x.xs] := by simp
    rw [e]
    exact hjn
  · rcases (own_row h.jn hk).1 with e | e <;> omega
theorem OI.fin {w V U : World} {lo j k6 g gs gm G D : Nat} {d : Dsk} {pre : List It} {v : Value} (h : OI w V U lo j k6 g gs gm G d pre v) (hD : lo ≤ D) (hK : U.heap[D]? = some (.deferred (some []))) (hw : w.heap.size ≤ lo) :
    Jn (U.putObj D (.deferred none)) lo j g gs gm d ⟨G, pre.map It.xs, false⟩ v ∧ Turn [g, gs, gm] w (U.putObj D (.deferred none)) := by
  refine ⟨h.jn.quiet (grownBy_putObj' U D _) (fun r e => by cases e; exact ⟨hD, _, hK, rfl⟩), h.fr.grown (grownBy_putObj' U D _) fun k e => .inr (by cases e; omega)⟩
theorem jn_new {V : World} {j g gs gm G : Nat} {d : Dsk} (hd : Dk V g gs gm d) (hj : V.heap[j]? = some (.cells #[.pointer (some ⟨g, 0, none⟩), .int .i64 G, .slice none 0 0, .int .i64 0, .bool false] 109)) (h8 : 8 ≤ d.n) (h1 : 1 ≤ G) (hb : G < 9223372036854775807) : Jn V V.heap.size j g gs gm d ⟨G, [], false⟩ (.slice none 0 0) := by
  refine ⟨hd, hj, ⟨[], World.ownsRow_nil V V.heap.size 39 1, rfl, by simp⟩, fun x hx => ?_, Nat.le_refl _, h8, h1, hb, Nat.zero_le _⟩
  have := Dk.lows hd
  rcases List.mem_cons.1 hx with rfl | hx
  · exact lt_of_heap hj
  · exact this x hx
/-- Four new blocks. -/
theorem four_new (w : World) (a b c e : Obj) : Below w.heap.size w ((((w.alloc a).alloc b).alloc c).alloc e) ∧ ((((w.alloc a).alloc b).alloc c).alloc e).heap[w.heap.size]? = some a ∧ ((((w.alloc a).alloc b).alloc c).alloc e).heap[w.heap.size + 1]? = some b ∧
    ((((w.alloc a).alloc b).alloc c).alloc e).heap[w.heap.size + 1 + 1]? = some c ∧ ((((w.alloc a).alloc b).alloc c).alloc e).heap[w.heap.size + 1 + 1 + 1]? = some e := by
  have h1 := heap_alloc_new w a
  have h2 := heap_alloc_new (w.alloc a) b
  have h3 := heap_alloc_new ((w.alloc a).alloc b) c
  have h4 := heap_alloc_new (((w.alloc a).alloc b).alloc c) e
  simp only [World.size_alloc] at h2 h3 h4
  have k : ∀ (u : World) (o : Obj) (i : Nat), i < u.heap.size → (u.alloc o).heap[i]? = u.heap[i]? := fun u o i hi => Below.heap_alloc u o i hi
  refine ⟨(((Below.refl _ w).alloc (Nat.le_refl _) _).alloc (by simp) _ |>.alloc (by simp <;> omega) _).alloc (by simp <;> omega) _, ?_, ?_, ?_, h4⟩
  · rw [k _ _ _ (by simp <;> omega), k _ _ _ (by simp <;> omega), k _ _ _ (by simp)]
    exact h1
  · rw [k _ _ _ (by simp <;> omega), k _ _ _ (by simp)]
    exact h2
  · rw [k _ _ _ (by simp)]
    exact h3
set_option maxHeartbeats 4000000 in
theorem open_old (w : World) (g gs gm : Nat) (d : Dsk) (h : Dk w g gs gm d) (h8 : 8 ≤ d.n) (ho : d.off = false) (hn : newest (rd d) ≠ 0) (hb : newest (rd d) < 9223372036854775807) : Calls Tryz.prog 13 #[ptr g] w (Opened w g gs gm (openD d) (openJ d)) := by
  have hmp0 := getM_pos (rd d 0)
  have HS := Lib.hid (Disk.sectors_disk w g gs gm d h)
  have HD := Lib.hid (Disk.down_disk w g gs gm d h)
  have HN := Lib.hid (newest_any w g gs gm d h ho)
  have HGF := Lib.hid (fun u G => groups_fn u g G)
  have h8i : 8 ≤ (d.n : Int) := by omega
  have hnb : newB (rd d) = true := by unfold newB; simp; omega
  have HDK : Hid (openD d = d) := Lib.hid (by unfold openD; rw [if_neg hn])
  have HGG : Hid ((⟨newest (rd d), groups (rd d) d.n (newest (rd d)), false⟩ : Jr) = openJ d) := Lib.hid (by unfold openJ; rw [HDK.out]; unfold openG; rw [if_neg hn])
  have HDW := Lib.hid h
  have HOF := Lib.hid ho
  have hG1 : 1 ≤ newest (rd d) := by omega
  rw [hnb] at HN
  rw [ho] at HD
  generalize newest (rd d) = G at *
  have HG1 := Lib.hid (And.intro hG1 hb)
  unfold hv at HGF
  unfold hbox ptr at *
  refine (callsIn_wide (n := 5)).1 ?_
  refine callsIn_of_wp_marks Tryz.func13 rfl trivial ?_ rfl
  simp only [Tryz.ntmps13, List.size_toArray, List.length_cons, List.length_nil, Nat.reduceAdd, Nat.reduceSub, Array.replicate_succ, Array.replicate_zero, List.push_toArray, List.append_toArray, List.nil_append, List.cons_append]
  clear h hn hnb ho hG1 hb hmp0
  gi_wp2
  refine ⟨trivial, (callsIn_wide.2 HS.out).mono ?_⟩
  rintro e w1 ⟨rfl, rfl⟩
  gi_wp2
  refine ⟨trivial, (callsIn_wide.2 HD.out).mono ?_⟩
  rintro e w1 ⟨rfl, rfl⟩
  gi_wp2
  refine ⟨trivial, (callsIn_wide.2 HN.out).mono ?_⟩
  rintro e w1 ⟨rfl, hb1⟩
  have HB1 := Lib.hid hb1
  clear hb1
  gi_wp2
  refine ⟨trivial, (callsIn_wide.2 (HGF.out _ G)).mono ?_⟩
  rintro e w2 ⟨rfl, rfl⟩
  gi_wp2
  have HV := Lib.hid (four_new w1 (.cells #[.pointer (some ⟨g, 0, none⟩), .int .i64 G] 105) (.cells #[.pointer (some ⟨g, 0, none⟩), .int .i64 G, .slice none 0 0, .int .i64 0, .bool false] 109) (.cells #[.pointer (some ⟨w1.heap.size + 1, 0, none⟩)] 33) (.cells #[.pointer (some ⟨g, 0, none⟩), .int .i64 G] 105))
  generalize hV : (((w1.alloc (.cells #[.pointer (some ⟨g, 0, none⟩), .int .i64 G] 105)).alloc (.cells #[.pointer (some ⟨g, 0, none⟩), .int .i64 G, .slice none 0 0, .int .i64 0, .bool false] 109)).alloc (.cells #[.pointer (some ⟨w1.heap.size + 1, 0, none⟩)] 33)).alloc (.cells #[.pointer (some ⟨g, 0, none⟩), .int .i64 G] 105) = V at *
  clear hV
  obtain ⟨v0, v1, v2, v3, v4⟩ := HV.out
  have HJW : Hid (w.heap.size ≤ w1.heap.size + 1) := Lib.hid (by have := HB1.out.size; omega)
  have HVW : Hid (w.heap.size ≤ V.heap.size) := Lib.hid (by have := HB1.out.size; have := v0.size; omega)
  have HOI : Hid (OI w V V V.heap.size (w1.heap.size + 1) (w1.heap.size + 1 + 1) g gs gm G d [] (.slice none 0 0)) := Lib.hid ⟨jn_new (Dk.below (Dk.below HDW.out HB1.out) v0) v2 (by omega) HG1.out.1 HG1.out.2, v3, (Turn.ofBelow HB1.out).trans (Turn.ofBelow v0)⟩
  have HBK := Lib.hid v4
  have HLS : Hid (∀ x ∈ [w1.heap.size + 1 + 1 + 1, g, gs, gm], x < V.heap.size) := Lib.hid (fun x hx => by
    rcases List.mem_cons.1 hx with rfl | hx
    · exact lt_of_heap HBK.out
    · exact Dk.lows HOI.out.jn.disk x hx)
  have HKK : Hid (w1.heap.size + 1 + 1 < V.heap.size) := Lib.hid (lt_of_heap v3)
  clear v0 v1 v2 v3 v4
  refine wpIn_range_told (gf := 103) (lb := #[.pointer (some ⟨w1.heap.size + 1 + 1 + 1, 0, none⟩)]) rfl (enters_of Tryz.func103 (by kernel_rfl) rfl) (fun x : It => #[x.val]) (Fg V.heap.size (room d.n)) (Kg (w1.heap.size + 1 + 1 + 1) g gs gm) (fun xs => xs.map It.xs = groups (rd d) d.n G)
    (groups_tells 4 _ g gs gm _ _ V HBK.out HOI.out.jn.disk HOF.out (by have := HOI.out.jn.n8; omega) (by have := HG1.out.2; omega) V.heap.size (Nat.le_refl _)) (fun _ => rfl)
    (fun h k => ⟨fun x hx => (k.1 x hx).trans (h.1 x hx), Nat.le_trans h.2 k.2⟩)
    (fun U l o o' hl ho _ => ⟨fun x hx => World.putObj_heap_other (by have := HLS.out x hx; omega), by simp [World.putObj]⟩)
    (fun pre x U l o o' hx ho hc => ⟨hx.1.put ho hc, hx.2⟩)
    (fun pre U => ∃ v, OI w V U V.heap.size (w1.heap.size + 1) (w1.heap.size + 1 + 1) g gs gm G d pre v) (OI.own HVW.out) ⟨_, HOI.out⟩
    (fun x => { tmps := #[.pointer (some ⟨g, 0, none⟩), undef, .pointer none, .int .i64 0, .pointer (some ⟨w1.heap.size, 0, none⟩), .bool true, .pointer (some ⟨w1.heap.size + 1 + 1, 0, none⟩), x.val, .pointer (some ⟨g, 0, none⟩), .int .i64 d.n, .bool (decide ((d.n : Int) < 8)), .pointer (some ⟨g, 0, none⟩), .bool false, .tuple #[.agg #[.pointer (some ⟨g, 0, none⟩), .int .i64 G], .bool true], .pointer (some ⟨g, 0, none⟩), .tuple #[.agg #[.pointer (some ⟨g, 0, none⟩), .int .i64 G], .bool true], .agg #[.pointer (some ⟨g, 0, none⟩), .int .i64 G], .bool true, .bool true, .bool false, undef, undef, undef, undef, undef, .agg #[.pointer (some ⟨g, 0, none⟩), .int .i64 G], .agg #[.pointer (some ⟨g, 0, none⟩), .int .i64 G, .slice none 0 0, .int .i64 0, .bool false], .pointer (some ⟨w1.heap.size + 1, 0, none⟩), .agg #[.pointer (some ⟨g, 0, none⟩), .int .i64 G], .func (.func 103) #[] #[.pointer (some ⟨w1.heap.size + 1 + 1 + 1, 0, none⟩)], x.val, undef, undef, undef, undef], defers := [] }) ?assign ?body ?done
  case assign =>
    intro l x U K hK'
    gi_wp2
    exact hK'
  case body =>
    rintro l pre x U ⟨v, hoi⟩ hx
    have h6 := hoi.c6
    have HO := Lib.hid hoi
    have HX := Lib.hid hx
    have HA := Lib.hid (add_any U V.heap.size (w1.heap.size + 1) g gs gm d ⟨G, pre.map It.xs, false⟩ v x hoi.jn hx.1 hx.2)
    unfold ptr at HA
    clear hoi hx
    generalize x.val = xv at *
    gi_wp2
    refine ⟨trivial, (CallsIn.inRound l (callsIn_wide.2 HA.out)).mono ?_⟩
    rintro e W3 ⟨rfl, v', hjn, ht, hv⟩
    have HR := Lib.hid (And.intro hjn (And.intro ht hv))
    clear hjn ht hv h6
    gi_wp2
    exact round_open HO.out HR.out.1 HR.out.2.1 ⟨HLS.out _ (by simp), by omega⟩ ⟨HKK.out, by omega⟩ ⟨HJW.out, HVW.out⟩
  case done =>
    rintro D ys U hD hS ⟨v, hoi⟩ hK'
    have h6 := hoi.c6
    have HO := Lib.hid hoi
    have HS9 := Lib.hid hS
    clear hoi hS
    gi_wp2
    refine ⟨by simp, .inl ⟨_, _, rfl, run_takeDeferred hK', ?_⟩⟩
    refine ⟨_, results_tmp2 rfl _ _ _, ?_⟩
    have hfin := HO.out.fin hD hK' HVW.out
    rw [HS9.out, HGG.out] at hfin
    rw [HDK.out]
    exact ⟨_, _, v, rfl, hfin.1, hfin.2, HJW.out⟩
theorem three_new (w : World) (a b c : Obj) : Below w.heap.size w (((w.alloc a).alloc b).alloc c) ∧ (((w.alloc a).alloc b).alloc c).heap[w.heap.size]? = some a ∧ (((w.alloc a).alloc b).alloc c).heap[w.heap.size + 1]? = some b ∧ (((w.alloc a).alloc b).alloc c).heap[w.heap.size + 1 + 1]? = some c := by
  have h1 := heap_alloc_new w a
  have h2 := heap_alloc_new (w.alloc a) b
  have h3 := heap_alloc_new ((w.alloc a).alloc b) c
  simp only [World.size_alloc] at h2 h3
  have k : ∀ (u : World) (o : Obj) (i : Nat), i < u.heap.size → (u.alloc o).heap[i]? = u.heap[i]? := fun u o i hi => Below.heap_alloc u o i hi
  refine ⟨((Below.refl _ w).alloc (Nat.le_refl _) _).alloc (by simp) _ |>.alloc (by simp <;> omega) _, ?_, ?_, h3⟩
  · rw [k _ _ _ (by simp <;> omega), k _ _ _ (by simp)]
    exact h1
  · rw [k _ _ _ (by simp)]
    exact h2
/-- What an Open that is not leaves. -/
def Unopened (w : World) (g gs gm : Nat) (d : Dsk) (e : Ending) (w' : World) : Prop := e = .returned (.tuple #[.pointer none, .int .i64 3]) ∧ Dk w' g gs gm d ∧ Turn [g, gs, gm] w w'
set_option maxHeartbeats 4000000 in
theorem open_new (w : World) (g gs gm : Nat) (d : Dsk) (h : Dk w g gs gm d) (h8 : 8 ≤ d.n) (ho : d.off = false) (hn : newest (rd d) = 0) :
    Calls Tryz.prog 13 #[ptr g] w (fun e w' => (openB d = true ∧ Opened w g gs gm (openD d) (openJ d) e w') ∨ (openB d = false ∧ Unopened w g gs gm (openD d) e w')) := by
  have HS := Lib.hid (Disk.sectors_disk w g gs gm d h)
  have HD := Lib.hid (Disk.down_disk w g gs gm d h)
  have HN := Lib.hid (newest_any w g gs gm d h ho)
  have HGF := Lib.hid (fun u G => groups_fn u g G)
  have HBG := Lib.hid (fun u hu => begin_any u g gs gm d 1 0 0 none [] hu (by omega) (by omega) Frm.Rows.none_ (by simp) (by simp [takes]))
  have h8i : 8 ≤ (d.n : Int) := by omega
  have hnb : newB (rd d) = false := by unfold newB; simp; omega
  have HDN : Hid (openD d = beginD d 1 []) := Lib.hid (by unfold openD; rw [if_pos hn])
  have HBB : Hid (openB d = beginB d 1 []) := Lib.hid (by unfold openB; rw [if_pos hn])
  have HGG : Hid ((⟨1, groups (rd (beginD d 1 [])) (beginD d 1 []).n 1, false⟩ : Jr) = openJ d) := Lib.hid (by unfold openJ; rw [HDN.out, beginD_n]; unfold openG; rw [if_pos hn])
  have HOF : Hid (beginB d 1 [] = true → (beginD d 1 []).off = false) := Lib.hid (fun hb => beginB_on hb)
  have HDL : Hid ((beginD d 1 []).n = d.n) := Lib.hid (beginD_n d 1 [])
  have HDW := Lib.hid h
  have hz : ((0 : Nat) : Int) = 0 := rfl
  have hz1 : ((1 : Nat) : Int) = 1 := rfl
  have hL := Dk.lows h
  have HLW := Lib.hid hL
  rw [hn, hz, hnb] at HN
  rw [ho] at HD
  generalize beginB d 1 [] = kb at *
  generalize beginD d 1 [] = d1 at *
  unfold hv at HGF HBG
  rw [hz1] at HBG
  unfold hbox ptr at *
  refine (callsIn_wide (n := 5)).1 ?_
  refine callsIn_of_wp_marks Tryz.func13 rfl trivial ?_ rfl
  simp only [Tryz.ntmps13, List.size_toArray, List.length_cons, List.length_nil, Nat.reduceAdd, Nat.reduceSub, Array.replicate_succ, Array.replicate_zero, List.push_toArray, List.append_toArray, List.nil_append, List.cons_append]
  clear h hn hnb ho hz hz1 hL
  gi_wp2
  refine ⟨trivial, (callsIn_wide.2 HS.out).mono ?_⟩
  rintro e w1 ⟨rfl, rfl⟩
  gi_wp2
  refine ⟨trivial, (callsIn_wide.2 HD.out).mono ?_⟩
  rintro e w1 ⟨rfl, rfl⟩
  gi_wp2
  refine ⟨trivial, (callsIn_wide.2 HN.out).mono ?_⟩
  rintro e w1 ⟨rfl, hb1⟩
  have HB1 := Lib.hid hb1
  clear hb1
  gi_wp2
  have hk4 := heap_alloc_new w1 (.cells #[.pointer (some ⟨g, 0, none⟩), .int .i64 1] 105)
  have hba := Frm.alloc_below w1 (.cells #[.pointer (some ⟨g, 0, none⟩), .int .i64 1] 105)
  have HW2 := Lib.hid (HB1.out.trans (hba.mono HB1.out.size))
  have hdw := Dk.below (Dk.below HDW.out HB1.out) hba
  have HAP := Lib.hid (apart_disk hdw hk4 (by decide) (by simp))
  have HK4 := Lib.hid hk4
  have HDD := Lib.hid hdw
  clear hk4 hba hdw
  refine ⟨trivial, (callsIn_wide.2 (HBG.out _ HDD.out)).mono ?_⟩
  rintro e w2 ⟨rfl, hdk, ht⟩
  have HDK := Lib.hid hdk
  have HTT := Lib.hid ht
  have HB4 := Lib.hid ((ht.block _ (lt_of_heap HK4.out) HAP.out).trans HK4.out)
  clear hdk ht HBG
  generalize w1.alloc (.cells #[.pointer (some ⟨g, 0, none⟩), .int .i64 1] 105) = W1 at *
  rcases Bool.eq_false_or_eq_true kb with hkb | hkb
  · have HKB := Lib.hid hkb
    rw [hkb]
    clear hkb
    have he : err true = 0 := rfl
    rw [he]
    clear he
    have hlt4 : w1.heap.size < w2.heap.size := lt_of_heap HB4.out
    have b0 := box0 HB4.out
    have b1 : w2.cell? ⟨w1.heap.size, 1, none⟩ = some (.int .i64 1) := cell_at HB4.out 1
    have HGF1 : Hid (∀ u, Calls Tryz.prog 55 #[.agg #[.pointer (some ⟨g, 0, none⟩), .int .i64 1]] u fun e w' => e = .returned (.func (.func 103) #[] #[.pointer (some ⟨u.heap.size, 0, none⟩)]) ∧ w' = u.alloc (.cells #[.pointer (some ⟨g, 0, none⟩), .int .i64 1] 105)) := Lib.hid (fun u => HGF.out u 1)
    gi_wp2
    refine ⟨trivial, (callsIn_wide.2 (HGF1.out _)).mono ?_⟩
    rintro e w3 ⟨rfl, rfl⟩
    gi_wp2
    have HV := Lib.hid (three_new w2 (.cells #[.pointer (some ⟨g, 0, none⟩), .int .i64 1, .slice none 0 0, .int .i64 0, .bool false] 109) (.cells #[.pointer (some ⟨w2.heap.size, 0, none⟩)] 33) (.cells #[.pointer (some ⟨g, 0, none⟩), .int .i64 1] 105))
    generalize hV : ((w2.alloc (.cells #[.pointer (some ⟨g, 0, none⟩), .int .i64 1, .slice none 0 0, .int .i64 0, .bool false] 109)).alloc (.cells #[.pointer (some ⟨w2.heap.size, 0, none⟩)] 33)).alloc (.cells #[.pointer (some ⟨g, 0, none⟩), .int .i64 1] 105) = V at *
    clear hV
    obtain ⟨v0, v2, v3, v4⟩ := HV.out
    have HJW : Hid (w.heap.size ≤ w2.heap.size) := Lib.hid (by have := HW2.out.size; have := HTT.out.size; omega)
    have HVW : Hid (w.heap.size ≤ V.heap.size) := Lib.hid (by have := HJW.out; have := v0.size; omega)
    have HOI : Hid (OI w V V V.heap.size (w2.heap.size) (w2.heap.size + 1) g gs gm 1 d1 [] (.slice none 0 0)) := Lib.hid ⟨jn_new (Dk.below HDK.out v0) v2 (by rw [HDL.out]; exact h8) (by omega) (by omega), v3, ((Turn.ofBelow (S := [g, gs, gm]) HW2.out).trans HTT.out).trans (Turn.ofBelow v0)⟩
    have HBK : Hid (V.heap[w2.heap.size + 1 + 1]? = some (hbox g 1)) := Lib.hid v4
    have HOFF := Lib.hid (HOF.out HKB.out)
    have HLS : Hid (∀ x ∈ [w2.heap.size + 1 + 1, g, gs, gm], x < V.heap.size) := Lib.hid (fun x hx => by
      rcases List.mem_cons.1 hx with rfl | hx
      · exact lt_of_heap HBK.out
      · exact Dk.lows HOI.out.jn.disk x hx)
    have HKK : Hid (w2.heap.size + 1 < V.heap.size) := Lib.hid (lt_of_heap v3)
    clear v0 v2 v3 v4
    refine wpIn_range_told (gf := 103) (lb := #[.pointer (some ⟨w2.heap.size + 1 + 1, 0, none⟩)]) rfl (enters_of Tryz.func103 (by kernel_rfl) rfl) (fun x : It => #[x.val]) (Fg V.heap.size (room d1.n)) (Kg (w2.heap.size + 1 + 1) g gs gm) (fun xs => xs.map It.xs = groups (rd d1) d1.n 1)
      (groups_tells 4 _ g gs gm _ _ V HBK.out HOI.out.jn.disk HOFF.out (by have := HOI.out.jn.n8; omega) (by omega) V.heap.size (Nat.le_refl _)) (fun _ => rfl)
      (fun h k => ⟨fun x hx => (k.1 x hx).trans (h.1 x hx), Nat.le_trans h.2 k.2⟩)
      (fun U l o o' hl ho _ => ⟨fun x hx => World.putObj_heap_other (by have := HLS.out x hx; omega), by simp [World.putObj]⟩)
      (fun pre x U l o o' hx ho hc => ⟨hx.1.put ho hc, hx.2⟩)
      (fun pre U => ∃ v, OI w V U V.heap.size (w2.heap.size) (w2.heap.size + 1) g gs gm 1 d1 pre v) (OI.own HVW.out) ⟨_, HOI.out⟩
      (fun x => { tmps := #[.pointer (some ⟨g, 0, none⟩), undef, .pointer none, .int .i64 0, .pointer (some ⟨w1.heap.size, 0, none⟩), .bool false, .pointer (some ⟨w2.heap.size + 1, 0, none⟩), x.val, .pointer (some ⟨g, 0, none⟩), .int .i64 d.n, .bool (decide ((d.n : Int) < 8)), .pointer (some ⟨g, 0, none⟩), .bool false, .tuple #[.agg #[.pointer (some ⟨g, 0, none⟩), .int .i64 0], .bool false], .pointer (some ⟨g, 0, none⟩), .tuple #[.agg #[.pointer (some ⟨g, 0, none⟩), .int .i64 0], .bool false], .agg #[.pointer (some ⟨g, 0, none⟩), .int .i64 0], .bool false, .bool false, .bool true, .pointer (some ⟨g, 0, none⟩), .agg #[.pointer (some ⟨g, 0, none⟩), .int .i64 1], .agg #[.pointer (some ⟨g, 0, none⟩), .int .i64 1], .int .i64 0, .bool false, .agg #[.pointer (some ⟨g, 0, none⟩), .int .i64 1], .agg #[.pointer (some ⟨g, 0, none⟩), .int .i64 1, .slice none 0 0, .int .i64 0, .bool false], .pointer (some ⟨w2.heap.size, 0, none⟩), .agg #[.pointer (some ⟨g, 0, none⟩), .int .i64 1], .func (.func 103) #[] #[.pointer (some ⟨w2.heap.size + 1 + 1, 0, none⟩)], x.val, undef, undef, undef, undef], defers := [] }) ?assign ?body ?done
    case assign =>
      intro l x U K hK'
      gi_wp2
      exact hK'
    case body =>
      rintro l pre x U ⟨v, hoi⟩ hx
      have h6 := hoi.c6
      have HO := Lib.hid hoi
      have HX := Lib.hid hx
      have HA := Lib.hid (add_any U V.heap.size (w2.heap.size) g gs gm d1 ⟨1, pre.map It.xs, false⟩ v x hoi.jn hx.1 hx.2)
      unfold ptr at HA
      clear hoi hx
      generalize x.val = xv at *
      gi_wp2
      refine ⟨trivial, (CallsIn.inRound l (callsIn_wide.2 HA.out)).mono ?_⟩
      rintro e W3 ⟨rfl, v', hjn, ht, hv⟩
      have HR := Lib.hid (And.intro hjn (And.intro ht hv))
      clear hjn ht hv h6
      gi_wp2
      exact round_open HO.out HR.out.1 HR.out.2.1 ⟨HLS.out _ (by simp), by omega⟩ ⟨HKK.out, by omega⟩ ⟨HJW.out, HVW.out⟩
    case done =>
      rintro D ys U hD hS ⟨v, hoi⟩ hK'
      have h6 := hoi.c6
      have HO := Lib.hid hoi
      have HS9 := Lib.hid hS
      clear hoi hS
      gi_wp2
      refine ⟨by simp, .inl ⟨_, _, rfl, run_takeDeferred hK', ?_⟩⟩
      refine ⟨_, results_tmp2 rfl _ _ _, ?_⟩
      have hfin := HO.out.fin hD hK' HVW.out
      rw [HS9.out, HGG.out] at hfin
      rw [HDN.out, HBB.out]
      exact .inl ⟨HKB.out, _, _, v, rfl, hfin.1, hfin.2, HJW.out⟩
  · have HKB := Lib.hid hkb
    rw [hkb]
    clear hkb
    have he : err false = 3 := rfl
    rw [he]
    clear he
    gi_wp2
    refine ⟨_, results_tmp2 rfl _ _ _, ?_⟩
    rw [HDN.out, HBB.out]
    exact .inr ⟨HKB.out, rfl, HDK.out, (Turn.ofBelow (S := [g, gs, gm]) HW2.out).trans HTT.out⟩
end Go.Proofs.YtdjhlhellkajfaaGreat.Jou
