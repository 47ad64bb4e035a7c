/-
  The library's Chunk over a slice of bytes, 64 at a time: what its sequence gives. Conditions: at most 1048576 bytes.
-/
import Derived.RangeFuncNested
import Derived.RangeFuncBound
import Derived.RangeFuncBox
import Derived.RangeFuncCalls
import Derived.RangeFuncLeaves
import Derived.Shelf.Abstract
import Derived.Shelf.RegionOpen
import Derived.WalkKit
import Derived.OwnWalkIn
import Derived.TacticsInMore
import Derived.LoopNIn
import Derived.LoopIn
import Derived.Test.YtpbojepliddflaaFRPack
import Derived.Test.YtpbojepliddflaaFRGet
namespace Go.Proofs.Ytpbojepliddflaa.Frm
open Go.RowKit Codec FrameM Cod Go.Shelf
set_option maxRecDepth 100000
attribute [local go_sem] Oper.semAt_some
set_option maxHeartbeats 1000000 in
theorem chunk_in (F : Fence) (m : Nat) (h27 : F.fn 27) (hro : F.round = none) (A : Option Addr) (n c : Nat) (w : World) :
    CallsIn F m Try.prog 27 #[.slice A n c, .int .i64 64] w fun e w' => e = .returned (.func (.func 39) #[] #[.pointer (some ⟨w.heap.size, 0, none⟩), .pointer (some ⟨w.heap.size + 1, 0, none⟩)]) ∧
      w' = (w.alloc (.cells #[.slice A n c] 24)).alloc (.cells #[.int .i64 64] 3) := by
  refine callsIn_of_wp Try.func27 rfl h27 ?_ hro
  simp only [Try.ntmps27, List.size_toArray, List.length_cons, List.length_nil, Nat.reduceAdd, Nat.reduceSub, Array.replicate_succ, Array.replicate_zero, List.push_toArray, List.append_toArray, List.nil_append, List.cons_append]
  gi_wp2
  go_ret
  exact ⟨rfl, rfl⟩
/-- How many bytes the i-th piece has. -/
def wide (n i : Nat) : Nat := min 64 (n - 64 * i)
/-- The i-th piece, as a value. -/
def chunkV (A : Option Addr) (n i : Nat) : Value := .slice (cutAt A (64 * i) (64 * i + wide n i)) (wide n i) (wide n i)
/-- The two boxes lie as they lay. -/
def Boxes (bs bn : Nat) (W W' : World) : Prop := W'.heap[bs]? = W.heap[bs]? ∧ W'.heap[bn]? = W.heap[bn]?
theorem Boxes.t {bs bn : Nat} {A B C : World} (h : Boxes bs bn A B) (k : Boxes bs bn B C) : Boxes bs bn A C := ⟨k.1.trans h.1, k.2.trans h.2⟩
theorem fin_next (N k : Nat) (h : k < N) : (List.finRange N).take k ++ [(⟨k, h⟩ : Fin N)] = (List.finRange N).take (k + 1) := by
  rw [List.take_succ_eq_append_getElem (by simpa using h)]
  simp
set_option maxHeartbeats 4000000 in
theorem chunk1_in (m : Nat) (l bs bn n c : Nat) (A : Option Addr) (hn : n ≤ 1048576) (hc : n ≤ c) (J Jx : List (Fin (need n)) → World → Prop)
    (hY : ∀ pre x W, J pre W → pre.length < need n → YieldAt Fence.wide (m - 1) Try.prog l #[chunkV A n x.1] W fun e W' =>
      (e = .returned (.bool true) ∧ J (pre ++ [x]) W' ∧ Boxes bs bn W W') ∨ (e = .returned (.bool false) ∧ Jx (pre ++ [x]) W'))
    (W : World) (hJ : AbidesFrom W.heap.size J) (hbs : W.heap[bs]? = some (.cells #[.slice A n c] 24 (0, 0))) (hbn : W.heap[bn]? = some (.cells #[.int .i64 64] 3 (0, 0))) (h0 : J [] W) :
    CallsIn Fence.wide m Try.prog 39 #[.func (.yield l) #[] #[], .pointer (some ⟨bs, 0, none⟩), .pointer (some ⟨bn, 0, none⟩)] W fun e W' => (∃ v, e = .returned v) ∧
      ((∃ ys, ys = List.finRange (need n) ∧ J ys W') ∨ (∃ pre, True ∧ Jx pre W')) := by
  refine callsIn_of_wp Try.func39 rfl trivial ?_ rfl
  simp only [Try.ntmps39, List.size_toArray, List.length_cons, List.length_nil, Nat.reduceAdd, Nat.reduceSub, Array.replicate_succ, Array.replicate_zero, List.push_toArray, List.append_toArray, List.nil_append, List.cons_append]
  gi_wp2
  gi_loopw [4] (fun i wr => ∃ k : Nat, k ≤ need n ∧ i = .int .i64 (64 * k : Nat) ∧ J ((List.finRange (need n)).take k) wr ∧ Boxes bs bn W wr) (fun i _ => n + 64 - (intOf i).toNat)
  case atStart => exact ⟨0, Nat.zero_le _, rfl, by simpa using h0, ⟨rfl, rfl⟩⟩
  case round =>
    obtain ⟨k, hk, rfl, hJs, hbx⟩ := hrel
    have b0 : wr.cell? ⟨bs, 0, none⟩ = some (.slice A n c) := cell_at (hbx.1.trans hbs) 0
    have b1 : wr.cell? ⟨bn, 0, none⟩ = some (.int .i64 64) := cell_at (hbx.2.trans hbn) 0
    by_cases hlt : k < need n
    · have hkn : 64 * k < n := by unfold need at hlt; omega
      obtain ⟨fn, tmps, assign, body, hy, hR⟩ := hY _ ⟨k, hlt⟩ wr.drew (hJ _ wr wr.drew none hJs ⟨rfl, rfl, rfl, Nat.le_refl _, fun _ _ _ => rfl⟩ (fun r e => by cases e)) (by simp; omega)
      rw [fin_next (need n) k hlt] at hR
      have hwd : (n - 64 * k ≤ 64 ∧ wide n k = n - 64 * k) ∨ (64 < n - 64 * k ∧ wide n k = 64) := by unfold wide; omega
      have hs1 : ∀ v, (Instr.slice 24 (.slice A n c) (some (.int .i64 ((64 * k : Nat) : Int))) none none).run Try.prog v = .ok (.slice (cutAt A (64 * k) c) (n - 64 * k) (c - 64 * k)) v := fun v => cut_l v A n c (64 * k) (by omega)
      have hs2 : ∀ v (e : Nat), e ≤ n - 64 * k → (Instr.slice 24 (.slice A n c) (some (.int .i64 ((64 * k : Nat) : Int))) (some (.int .i64 (((64 * k : Nat) : Int) + e))) (some (.int .i64 (((64 * k : Nat) : Int) + e)))).run Try.prog v = .ok (.slice (cutAt A (64 * k) (64 * k + e)) e e) v := fun v e he => by
        have := cut_lhm v A n c (64 * k) (64 * k + e) (64 * k + e) (by omega) (Nat.le_refl _) (by omega)
        rw [show ((64 * k + e : Nat) : Int) = ((64 * k : Nat) : Int) + e by omega, show 64 * k + e - 64 * k = e by omega] at this
        exact this
      unfold chunkV at hy
      dsimp only at hy
      have hkN : Hid (k < need n) := Lib.hid hlt
      have hp0 : (((64 * (k + 1) : Nat)) : Int) = ((64 * k : Nat) : Int) + 64 := by omega
      have HP0 := Lib.hid hp0
      have hmeas : 64 * (k + 1) = 64 * k + 64 := by omega
      have HME := Lib.hid hmeas
      clear hp0 hmeas hlt
      generalize cutAt A (64 * k) c = A9 at *
      generalize 64 * k = p at *
      obtain ⟨R, hR'⟩ : ∃ R, n - p = R := ⟨_, rfl⟩
      rw [hR'] at hs1 hs2 hwd
      have HNP := Lib.hid hR'
      have hpn : (p : Int) < n := by omega
      have hRn : R ≤ n := by omega
      clear hR'
      rcases hwd with ⟨h64, hw⟩ | ⟨h64, hw⟩
      · rw [hw] at hy
        have hs3 := fun v => hs2 v R (Nat.le_refl _)
        clear hs2
        gi_wp2
        have HS : Hid (wr.drew.cell? ⟨bs, 0, none⟩ = some (.slice A n c) ∧ wr.drew.cell? ⟨bn, 0, none⟩ = some (.int .i64 64)) := Lib.hid ⟨(cell_drew _ _).trans b0, (cell_drew _ _).trans b1⟩
        clear b0 b1
        refine wpIn_wide.2 ?_
        refine wh_start (fun w' => w'.cell? ⟨bs, 0, none⟩ = some (.slice A n c) ∧ w'.cell? ⟨bn, 0, none⟩ = some (.int .i64 64)) (by kernel_rfl) ?_
        refine wh_take 0 13 (.int .i64 64) rfl rfl (by kernel_rfl) (fun _ _ _ h => h) rfl HS.out (fun w' hw' => ?_) ?_
        · obtain ⟨h0, h1⟩ := hw'
          go_simp
        go_frame
        refine wh_take 1 14 (.slice A n c) rfl rfl (by kernel_rfl) (fun _ _ _ h => h) rfl HS.out (fun w' hw' => ?_) ?_
        · obtain ⟨h0, h1⟩ := hw'
          go_simp
        go_frame
        refine wh_take 2 15 (.int .i64 p) rfl rfl (by kernel_rfl) (fun _ _ _ h => h) rfl HS.out (fun w' hw' => ?_) ?_
        · exact rfl
        go_frame
        refine wh_take 3 16 (.slice A9 R (c - p)) rfl rfl (by kernel_rfl) (fun _ _ _ h => h) rfl HS.out (fun w' hw' => ?_) ?_
        · go_simp
        go_frame
        refine wh_take 4 17 (.int .i64 R) rfl rfl (by kernel_rfl) (fun _ _ _ h => h) rfl HS.out (fun w' hw' => ?_) ?_
        · go_simp
        go_frame
        refine wh_take 5 18 (.int .i64 R) rfl rfl (by kernel_rfl) (fun _ _ _ h => h) rfl HS.out (fun w' hw' => ?_) ?_
        · go_simp
          intro h9
          omega
        go_frame
        refine wh_take 6 5 (.int .i64 R) rfl rfl (by kernel_rfl) (fun _ _ _ h => h) rfl HS.out (fun w' hw' => ?_) ?_
        · exact rfl
        go_frame
        refine wpAnyH_done (by kernel_rfl) ?_ _
        have b0 := HS.out.1
        have b1 := HS.out.2
        gi_wp2
        refine ⟨(fun h => by cases h), ?_⟩
        refine hR.mono ?_
        rintro e W3 (⟨rfl, hJ3, hk3⟩ | ⟨rfl, hJx3⟩)
        · have hbx3 : Boxes bs bn W W3 := hbx.t hk3
          have b2 : W3.cell? ⟨bs, 0, none⟩ = some (.slice A n c) := cell_at (hbx3.1.trans hbs) 0
          have b3 : W3.cell? ⟨bn, 0, none⟩ = some (.int .i64 64) := cell_at (hbx3.2.trans hbn) 0
          gi_wp2
          go_roundw
          case rel => exact ⟨k + 1, hkN.out, by rw [HP0.out], hJ3, hbx3⟩
          case measure =>
            have h9 := HME.out
            simp [intOf]
            omega
        · gi_wp2
          refine bodyPost_ret (results_none rfl _ _ _) rfl ?_
          exact ⟨⟨_, rfl⟩, .inr ⟨_, trivial, hJx3⟩⟩
      · rw [hw] at hy
        have hs3 : ∀ v, (Instr.slice 24 (.slice A n c) (some (.int .i64 (p : Int))) (some (.int .i64 ((p : Int) + 64))) (some (.int .i64 ((p : Int) + 64)))).run Try.prog v = .ok (.slice (cutAt A p (p + 64)) 64 64) v := fun v => hs2 v 64 (by omega)
        clear hs2
        gi_wp2
        have HS : Hid (wr.drew.cell? ⟨bs, 0, none⟩ = some (.slice A n c) ∧ wr.drew.cell? ⟨bn, 0, none⟩ = some (.int .i64 64)) := Lib.hid ⟨(cell_drew _ _).trans b0, (cell_drew _ _).trans b1⟩
        clear b0 b1
        refine wpIn_wide.2 ?_
        refine wh_start (fun w' => w'.cell? ⟨bs, 0, none⟩ = some (.slice A n c) ∧ w'.cell? ⟨bn, 0, none⟩ = some (.int .i64 64)) (by kernel_rfl) ?_
        refine wh_take 0 13 (.int .i64 64) rfl rfl (by kernel_rfl) (fun _ _ _ h => h) rfl HS.out (fun w' hw' => ?_) ?_
        · obtain ⟨h0, h1⟩ := hw'
          go_simp
        go_frame
        refine wh_take 1 14 (.slice A n c) rfl rfl (by kernel_rfl) (fun _ _ _ h => h) rfl HS.out (fun w' hw' => ?_) ?_
        · obtain ⟨h0, h1⟩ := hw'
          go_simp
        go_frame
        refine wh_take 2 15 (.int .i64 p) rfl rfl (by kernel_rfl) (fun _ _ _ h => h) rfl HS.out (fun w' hw' => ?_) ?_
        · exact rfl
        go_frame
        refine wh_take 3 16 (.slice A9 R (c - p)) rfl rfl (by kernel_rfl) (fun _ _ _ h => h) rfl HS.out (fun w' hw' => ?_) ?_
        · go_simp
        go_frame
        refine wh_take 4 17 (.int .i64 R) rfl rfl (by kernel_rfl) (fun _ _ _ h => h) rfl HS.out (fun w' hw' => ?_) ?_
        · go_simp
        go_frame
        refine wh_take 5 18 (.int .i64 64) rfl rfl (by kernel_rfl) (fun _ _ _ h => h) rfl HS.out (fun w' hw' => ?_) ?_
        · go_simp
          intro h9
          omega
        go_frame
        refine wh_take 6 5 (.int .i64 64) rfl rfl (by kernel_rfl) (fun _ _ _ h => h) rfl HS.out (fun w' hw' => ?_) ?_
        · exact rfl
        go_frame
        refine wpAnyH_done (by kernel_rfl) ?_ _
        have b0 := HS.out.1
        have b1 := HS.out.2
        gi_wp2
        refine ⟨(fun h => by cases h), ?_⟩
        refine hR.mono ?_
        rintro e W3 (⟨rfl, hJ3, hk3⟩ | ⟨rfl, hJx3⟩)
        · have hbx3 : Boxes bs bn W W3 := hbx.t hk3
          have b2 : W3.cell? ⟨bs, 0, none⟩ = some (.slice A n c) := cell_at (hbx3.1.trans hbs) 0
          have b3 : W3.cell? ⟨bn, 0, none⟩ = some (.int .i64 64) := cell_at (hbx3.2.trans hbn) 0
          gi_wp2
          go_roundw
          case rel => exact ⟨k + 1, hkN.out, by rw [HP0.out], hJ3, hbx3⟩
          case measure =>
            have h9 := HME.out
            simp [intOf]
            omega
        · gi_wp2
          refine bodyPost_ret (results_none rfl _ _ _) rfl ?_
          exact ⟨⟨_, rfl⟩, .inr ⟨_, trivial, hJx3⟩⟩
    · obtain rfl : k = need n := by omega
      have hkn : n ≤ 64 * need n := by unfold need; omega
      generalize 64 * need n = p at *
      gi_wp2
      go_end0
      refine ⟨⟨_, rfl⟩, .inl ⟨_, rfl, ?_⟩⟩
      rwa [List.take_of_length_le (by simp)] at hJs
/-- What the sequence gives: the pieces, in their order. -/
theorem chunk_stops (m bs bn n c : Nat) (A : Option Addr) (hn : n ≤ 1048576) (hc : n ≤ c) (w : World) (hbs : w.heap[bs]? = some (.cells #[.slice A n c] 24 (0, 0))) (hbn : w.heap[bn]? = some (.cells #[.int .i64 64] 3 (0, 0))) :
    SeqStopsK Fence.wide m Try.prog 39 #[.pointer (some ⟨bs, 0, none⟩), .pointer (some ⟨bn, 0, none⟩)] (fun x : Fin (need n) => #[chunkV A n x.1]) (Boxes bs bn) (fun ys => ys = List.finRange (need n)) (fun _ => True) (need n) w :=
  fun l J Jx W hW hJ _ hY h0 => chunk1_in m l bs bn n c A hn hc J Jx hY W hJ ((hW.block bs (lt_of_heap hbs)).trans hbs) ((hW.block bn (lt_of_heap hbn)).trans hbn) h0
end Go.Proofs.Ytpbojepliddflaa.Frm
