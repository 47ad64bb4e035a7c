/-
  Words: all words of a text, or why not. Conditions: the table of signs lies as the program's text lays it; the text's size.
-/
import Derived.Test.YtjgkfdhfffbccaaDoorLNext
namespace Go.Proofs.YtjgkfdhfffbccaaDoor.Lex
open Go.RowKit
open Num (EndsW)
set_option maxRecDepth 100000
/-- What Words leaves. -/
def WordsR (t : List UInt8) (w : World) (e : Ending) (w' : World) : Prop :=
  ∃ v, e = .returned (.tuple #[v, .int .i64 (words t).2]) ∧ OwnW w' w.heap.size v (words t).1 ∧ Below w.heap.size w w'
def leftN (w : World) (g : Nat) : Nat := match w.heap[g]? with | some (Obj.cells cs _ _) => (match cs[0]? with | some (Value.string s) => s.size | _ => 0) | _ => 0
theorem left_rd {w : World} {lo g : Nat} {l : List UInt8} {ws : List Wd} {v : Value} (h : Rd w lo g l ws v) : leftN w g = l.length := by
  unfold leftN; rw [h.at_]; rfl
theorem run_nil (k : Nat) (ws : List Wd) : run k [] ws = (0, ws) := by cases k <;> simp [run]
theorem run_go {k : Nat} {l : List UInt8} {ws : List Wd} (hl : l ≠ []) (he : (step l ws).e = 0) : run (k + 1) l ws = run k (step l ws).l (step l ws).ws := by simp [run, hl, he]
theorem run_stop {k : Nat} {l : List UInt8} {ws : List Wd} (hl : l ≠ []) (he : (step l ws).e ≠ 0) : run (k + 1) l ws = ((step l ws).e, []) := by simp [run, hl, he]
theorem words_long {t : List UInt8} (h : 4096 < t.length) : words t = ([], 11) := by unfold words; rw [if_pos h]
theorem words_bad {t : List UInt8} {e : Int} (h : ¬ 4096 < t.length) (he : e ≠ 0) (hr : run t.length t [] = (e, [])) : words t = ([], e) := by unfold words; rw [if_neg h, hr]; simp [he]
theorem words_many {t : List UInt8} {ws : List Wd} (h : ¬ 4096 < t.length) (hr : run t.length t [] = (0, ws)) (hm : 2048 < (endLn ws).length) : words t = ([], 11) := by unfold words; rw [if_neg h, hr]; simp [hm]
theorem words_ok {t : List UInt8} {ws : List Wd} (h : ¬ 4096 < t.length) (hr : run t.length t [] = (0, ws)) (hm : ¬ 2048 < (endLn ws).length) : words t = (endLn ws, 0) := by unfold words; rw [if_neg h, hr]; simp [hm]
theorem words_mk {t : List UInt8} {w w' : World} {v : Value} {ws : List Wd} {e : Int} (h : words t = (ws, e)) (hv : OwnW w' w.heap.size v ws) (hb : Below w.heap.size w w') : WordsR t w (.returned (.tuple #[v, .int .i64 e])) w' := ⟨v, by rw [h], by rw [h]; exact hv, hb⟩
/-- What stands at the loop's head. -/
def Head (w wr : World) (t l : List UInt8) (ws : List Wd) (v : Value) (k : Nat) : Prop :=
  Rd wr w.heap.size w.heap.size l ws v ∧ Below w.heap.size w wr ∧ run t.length t [] = run k l ws ∧ l.length ≤ k ∧ ws.length + l.length ≤ 4096
theorem Signs.pos {w : World} (h : Signs w) : 0 < w.heap.size := by
  have h0 := h 0 (by omega)
  by_cases hz : 0 < w.heap.size
  · exact hz
  · have : w.heap[0]? = none := Array.getElem?_eq_none (by omega)
    simp [World.cell?, this] at h0
set_option maxHeartbeats 4000000 in
theorem words_any (t : List UInt8) (w : World) (hS : Signs w) : Calls Tryd.prog 14 #[.string (bs t)] w (WordsR t w) := by
  by_cases hl : 4096 < t.length
  · have hd : decide ((4096 : Int) < ((bs t).size : Int)) = true := by rw [bs_size]; simp; omega
    have HW := Lib.hid (words_long hl)
    clear hl hS
    go_enter Tryd.func14, Tryd.ntmps14
    go_wp2_with fail
    go_ret2
    exact words_mk HW.out (OwnW.nil _ _) (Below.refl _ _)
  have hd : decide ((4096 : Int) < ((bs t).size : Int)) = false := by rw [bs_size]; simp; omega
  have HS := Lib.hid hS
  have HL := Lib.hid hl
  clear hS hl
  go_enter Tryd.func14, Tryd.ntmps14
  go_wp2_with fail
  go_loopw [5] (fun _ wr => ∃ l ws v k, Head w wr t l ws v k) (fun _ wr => leftN wr w.heap.size)
  case atStart =>
    refine ⟨t, [], .slice none 0 0, t.length, ⟨heap_alloc_new _ _, Nat.le_refl _, OwnW.nil _ _, by simp [Value.ownBlock]⟩, (Below.refl _ w).alloc (Nat.le_refl _) _, rfl, Nat.le_refl _, by have := HL.out; simp; omega⟩
  case round =>
    obtain ⟨l, ws, v, k, hh⟩ := hrel
    have c0 := cell_at hh.1.at_ 0
    have c1 := cell_at hh.1.at_ 1
    have HH := Lib.hid hh
    have HS1 := Lib.hid (HS.out.below HS.out.pos hh.2.1)
    have HSZ := Lib.hid hh.2.1.size
    clear hh
    by_cases hne : l = []
    · subst hne
      clear c0
      have y0 : wr.cell? ⟨w.heap.size, 0, none⟩ = some (.string ⟨#[]⟩) := cell_at HH.out.1.at_ 0
      have HE : Hid (run t.length t [] = (0, ws)) := Lib.hid (by rw [HH.out.2.2.1, run_nil])
      have CE := Lib.hid (end_any wr w.heap.size w.heap.size [] ws v HH.out.1 (by have := HH.out.2.2.2.2; omega) HSZ.out)
      have HWL : Hid ((endLn ws).length ≤ 5000) := Lib.hid (by have := (endLn_len ws).2; have := HH.out.2.2.2.2; omega)
      clear c1
      go_wp2_with fail
      refine CE.out.mono ?_
      intro e w2 hs
      obtain ⟨rfl, v2, hr2, ht2, _⟩ := hs
      have HR2 := Lib.hid hr2
      have HB2 : Hid (Below w.heap.size w w2) := Lib.hid (HH.out.2.1.trans (ht2.low (fun q hq => (HH.out.1.lt q hq).1) HSZ.out))
      obtain ⟨A2, c2, rfl⟩ := hr2.own.form
      have z1 := cell_at hr2.at_ 1
      clear hr2 ht2 y0 CE
      by_cases hm : 2048 < (endLn ws).length
      · have HW := Lib.hid (words_many HL.out HE.out hm)
        generalize (endLn ws).length = m at *
        go_wp2_with fail
        go_ret2
        exact words_mk HW.out (OwnW.nil _ _) HB2.out
      · have HW := Lib.hid (words_ok HL.out HE.out hm)
        have HO := Lib.hid HR2.out.own
        clear HR2
        generalize (endLn ws).length = m at *
        go_wp2_with fail
        go_ret2
        exact words_mk HW.out HO.out HB2.out
    · have e1 := not_empty (bs l) (by rw [bs_size]; cases l with | nil => exact absurd rfl hne | cons c r => simp)
      have CN := Lib.hid (next_any wr w.heap.size w.heap.size l ws v HH.out.1 hne HS1.out HS.out.pos (by have := HH.out.2.2.2.2; omega) (by have := HH.out.2.2.2.2; omega) HSZ.out)
      have HK : Hid (∃ k', k = k' + 1) := Lib.hid ⟨k - 1, by have := HH.out.2.2.2.1; cases l with | nil => exact absurd rfl hne | cons c r => simp at this; omega⟩
      obtain ⟨k', hk⟩ := HK.out
      subst hk
      have HML := Lib.hid (left_rd HH.out.1)
      clear HK c1
      by_cases he : (step l ws).e = 0
      · have HG : Hid (run t.length t [] = run k' (step l ws).l (step l ws).ws) := Lib.hid (HH.out.2.2.1.trans (run_go hne he))
        have HLT := Lib.hid (step_less l ws hne he)
        have HWS := Lib.hid (step_ws l ws)
        unfold Told at CN
        rw [he] at CN
        clear he
        generalize step l ws = s at *
        go_wp2_with fail
        refine CN.out.mono ?_
        intro e w2 hs
        obtain ⟨rfl, v2, hr2, ht2, _⟩ := hs
        have HR2 := Lib.hid hr2
        have HB2 : Hid (Below w.heap.size w w2) := Lib.hid (HH.out.2.1.trans (ht2.low (fun q hq => (HH.out.1.lt q hq).1) HSZ.out))
        clear hr2 ht2 c0 CN
        go_wp2_with fail
        go_roundw
        case rel => exact ⟨s.l, s.ws, v2, k', HR2.out, HB2.out, HG.out, by have := HLT.out; have := HH.out.2.2.2.1; omega, by have := HLT.out; have := HWS.out; have := HH.out.2.2.2.2; omega⟩
        case measure => rw [left_rd HR2.out, HML.out]; exact HLT.out
      · have HG : Hid (run t.length t [] = ((step l ws).e, [])) := Lib.hid (HH.out.2.2.1.trans (run_stop hne he))
        have HW := Lib.hid (words_bad HL.out he HG.out)
        have b1 : ((step l ws).e == 0) = false := by simpa using he
        have b2 : ((step l ws).e != 0) = true := by simpa using he
        unfold Told at CN
        clear he
        generalize step l ws = s at *
        obtain ⟨se, sl, sw⟩ := s
        dsimp only at *
        go_wp2_with fail
        refine CN.out.mono ?_
        intro e w2 hs
        obtain ⟨rfl, v2, hr2, ht2, _⟩ := hs
        have HB2 : Hid (Below w.heap.size w w2) := Lib.hid (HH.out.2.1.trans (ht2.low (fun q hq => (HH.out.1.lt q hq).1) HSZ.out))
        clear hr2 ht2 c0 CN
        go_wp2_with fail
        go_ret2
        exact words_mk HW.out (OwnW.nil _ _) HB2.out
end Go.Proofs.YtjgkfdhfffbccaaDoor.Lex
