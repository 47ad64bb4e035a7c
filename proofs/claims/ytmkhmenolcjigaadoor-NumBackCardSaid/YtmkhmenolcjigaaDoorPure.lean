/-
  What the calls Pure of the program and of the document answer: the same.
-/
import Derived.Test.YtmkhmenolcjigaaDoorReckon
namespace Go.Proofs.YtmkhmenolcjigaaDoor
open Go.RowKit

/-- The ops that always make a number. -/
def pures : List Int := [1, 2, 3, 4, 5, 8, 9, 10, 11, 12, 13, 18]
def pg (k : Nat) : Int := pures.getD k 0
def pure (op : Int) : Bool := pures.contains op
def pureObj : Obj := .cells #[.int .i64 1, .int .i64 2, .int .i64 3, .int .i64 4, .int .i64 5, .int .i64 8, .int .i64 9, .int .i64 10, .int .i64 11, .int .i64 12, .int .i64 13, .int .i64 18] 3
theorem pure_cell (w : World) (k : Nat) (hk : k < 12) : (w.alloc pureObj).cell? ⟨w.heap.size, k, none⟩ = some (.int .i64 (pg k)) := by
  match k, hk with
  | 0, _ | 1, _ | 2, _ | 3, _ | 4, _ | 5, _ | 6, _ | 7, _ | 8, _ | 9, _ | 10, _ | 11, _ => simp [pureObj, pg, pures, go_sem]
theorem pure_yes (op : Int) (k : Nat) (hk : k < 12) (h : pg k = op) : pure op = true := by
  unfold pure
  rw [List.contains_iff_mem, ← h]
  unfold pg
  rw [List.getD_eq_getElem?_getD, List.getElem?_eq_getElem (show k < pures.length by simpa [pures] using hk)]
  exact List.getElem_mem _
theorem pure_no (op : Int) (h : ∀ k, k < 12 → pg k ≠ op) : pure op = false := by
  unfold pure
  rw [← Bool.not_eq_true, List.contains_iff_mem]
  intro hm
  obtain ⟨i, hi, he⟩ := List.getElem_of_mem hm
  exact h i (by simpa [pures] using hi) (by unfold pg; rw [List.getD_eq_getElem?_getD, List.getElem?_eq_getElem hi]; exact he)
def EndsBelow (v : Value) (w : World) (e : Ending) (w' : World) : Prop := e = .returned v ∧ Below w.heap.size w w'

set_option maxHeartbeats 400000 in
theorem rpure_any (op : Int) (w : World) : Calls Tryd.prog 11 #[.int .i64 op] w (EndsBelow (.bool (pure op)) w) := by
  have H := Lib.hid (pure_cell w)
  have hb : Below w.heap.size w (w.alloc pureObj) := (Below.refl _ _).alloc (Nat.le_refl _) _
  go_enter Tryd.func11, Tryd.ntmps11
  go_wp2
  go_loop [4] (fun i => ∃ k : Nat, k ≤ 12 ∧ i = .int .i64 k ∧ ∀ j, j < k → pg j ≠ op) (fun i => 12 - (intOf i).toNat)
  case atStart => exact ⟨0, by omega, rfl, fun j hj => absurd hj (by omega)⟩
  case round =>
    obtain ⟨k, hk, rfl, hno⟩ := hrel
    have HN := Lib.hid hno
    clear hno
    by_cases hlt : k < 12
    · have g := H.out k hlt
      by_cases he : pg k = op
      · have hp := Lib.hid (pure_yes op k hlt he)
        have he' : (pg k == op) = true := by simpa using he
        clear he
        unfold pureObj at g
        go_wp2
        go_ret
        exact ⟨by rw [hp.out]; rfl, hb⟩
      · have hs : Hid (∀ j, j < k + 1 → pg j ≠ op) := fun j hj => by
          by_cases e : j = k
          · subst e; exact he
          · exact HN.out j (by omega)
        have he' : (pg k == op) = false := by simpa using he
        clear he
        unfold pureObj at g
        go_wp2
        go_round
        case rel => exact ⟨k + 1, by omega, by go_num, hs.out⟩
        case measure => simp [intOf]; omega
    · obtain rfl : k = 12 := by omega
      have hp := Lib.hid (pure_no op HN.out)
      go_wp2
      go_ret
      exact ⟨by rw [hp.out]; rfl, hb⟩
end Go.Proofs.YtmkhmenolcjigaaDoor
