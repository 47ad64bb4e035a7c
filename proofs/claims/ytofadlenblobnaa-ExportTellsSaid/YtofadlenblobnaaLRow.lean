/-
  The call row: how many bytes at a text's beginning are of a kind, letter by letter. No condition but the text's size.
-/
import Derived.Test.YtofadlenblobnaaLSmall
import Derived.Laws.RangeAny
import Derived.LoopTactic
namespace Go.Proofs.Ytofadlenblobnaa.Lex
open Go.RowKit
open Num (EndsW)
set_option maxRecDepth 100000
def EndsB (v : Value) (w : World) (e : Ending) (w' : World) : Prop := e = .returned v ∧ Below w.heap.size w w'
theorem get_eq (s : ByteArray) (k : Nat) (h : k < s.size) : s.get! k = s[k]'h := by
  simp [ByteArray.get!, getElem!_pos, h]; rfl
theorem len_bytes (s : ByteArray) : s.data.toList.length = s.size := by rw [Array.length_toList]; rfl
theorem list_get (s : ByteArray) (k : Nat) (h : k < s.size) : s.data.toList[k]'(by rw [len_bytes]; exact h) = s[k]'h := rfl
/-- What a letter of more than one byte is made of. -/
theorem decode_bytes (s : ByteArray) (pos : Nat) (h : pos < s.size) (ha : 128 ≤ (s[pos]'h).toNat) :
    pos + (Utf8.decode s pos).2 ≤ s.size ∧ ∀ k (hk : k < s.size), pos ≤ k → k < pos + (Utf8.decode s pos).2 → 128 ≤ (s[k]'hk).toNat := by
  have hn : ¬ (s[pos]'h).toNat < 128 := by omega
  have c1 : ∀ k, (decide (pos + k < s.size) && (s.get! (pos + k)).toNat / 64 == 2) = true → pos + k < s.size ∧ 128 ≤ (s.get! (pos + k)).toNat := fun k hk => by
    simp only [Bool.and_eq_true, decide_eq_true_eq, beq_iff_eq] at hk
    exact ⟨hk.1, by omega⟩
  have fin : ∀ n, (∀ k, k < n → pos + k < s.size ∧ 128 ≤ (s.get! (pos + k)).toNat) → 1 ≤ n → pos + n ≤ s.size ∧ ∀ k (hk : k < s.size), pos ≤ k → k < pos + n → 128 ≤ (s[k]'hk).toNat := fun n hA hn1 => by
    refine ⟨by have := (hA (n - 1) (by omega)).1; omega, fun k hk h1 h2 => ?_⟩
    have h3 := (hA (k - pos) (by omega)).2
    rw [show pos + (k - pos) = k by omega, get_eq s k hk] at h3
    exact h3
  have z0 : pos + 0 < s.size ∧ 128 ≤ (s.get! (pos + 0)).toNat := ⟨by omega, by rw [get_at s pos h]; omega⟩
  have one : pos + 1 ≤ s.size ∧ ∀ k (hk : k < s.size), pos ≤ k → k < pos + 1 → 128 ≤ (s[k]'hk).toNat := fin 1 (fun k hk => (by rw [show k = 0 by omega]; exact z0)) (by omega)
  simp only [Utf8.decode, get_at s pos h, hn, if_false]
  split
  · rename_i g
    simp only [Bool.and_eq_true] at g
    have g1 := c1 1 (by simpa using g.2)
    split
    · exact fin 2 (fun k hk => by rcases (show k = 0 ∨ k = 1 by omega) with rfl | rfl <;> assumption) (by omega)
    · exact one
  split
  · rename_i g
    simp only [Bool.and_eq_true] at g
    have g1 := c1 1 (by simpa using g.1.2)
    have g2 := c1 2 (by simpa using g.2)
    split
    · exact fin 3 (fun k hk => by rcases (show k = 0 ∨ k = 1 ∨ k = 2 by omega) with rfl | rfl | rfl <;> assumption) (by omega)
    · exact one
  split
  · rename_i g
    simp only [Bool.and_eq_true] at g
    have g1 := c1 1 (by simpa using g.1.1.2)
    have g2 := c1 2 (by simpa using g.1.2)
    have g3 := c1 3 (by simpa using g.2)
    split
    · exact fin 4 (fun k hk => by rcases (show k = 0 ∨ k = 1 ∨ k = 2 ∨ k = 3 by omega) with rfl | rfl | rfl | rfl <;> assumption) (by omega)
    · exact one
  · exact one
/-- The first pos bytes are of the kind. -/
def Upto (p : UInt8 → Bool) (s : ByteArray) (pos : Nat) : Prop := ∀ k (hk : k < s.size), k < pos → p (s[k]'hk) = true
theorem rowN_app (p : UInt8 → Bool) : ∀ (l : List UInt8) (n : Nat), n ≤ l.length → (∀ k (hk : k < l.length), k < n → p l[k] = true) → rowN p l = n + rowN p (l.drop n)
  | l, 0, _, _ => by simp
  | [], n + 1, h, _ => by simp at h
  | c :: r, n + 1, h, hp => by
    have h0 : p c = true := hp 0 (by simp) (by omega)
    have ih := rowN_app p r n (by simpa using h) (fun k hk hkn => hp (k + 1) (by simpa using hk) (by omega))
    have e : rowN p (c :: r) = rowN p r + 1 := by unfold rowN; rw [List.takeWhile_cons, if_pos h0]; simp
    rw [e, ih, List.drop_succ_cons]; omega
theorem Upto.stop {p : UInt8 → Bool} {s : ByteArray} {pos : Nat} (h : Upto p s pos) (hp : pos < s.size) (hf : p (s[pos]'hp) = false) : rowN p s.data.toList = pos := by
  have hl := len_bytes s
  rw [rowN_app p s.data.toList pos (by omega) (fun k hk hkp => h k (by omega) hkp), List.drop_eq_getElem_cons (by omega)]
  have : s.data.toList[pos]'(by omega) = s[pos]'hp := rfl
  rw [this]
  unfold rowN
  rw [List.takeWhile_cons, if_neg (by rw [hf]; simp)]
  simp
theorem Upto.all {p : UInt8 → Bool} {s : ByteArray} {pos : Nat} (h : Upto p s pos) (hp : s.size ≤ pos) : rowN p s.data.toList = s.size := by
  have hl := len_bytes s
  rw [rowN_app p s.data.toList s.size (by omega) (fun k hk hkp => h k hkp (by omega)), List.drop_of_length_le (by omega)]
  rfl
theorem Upto.one {p : UInt8 → Bool} {s : ByteArray} {pos : Nat} (h : Upto p s pos) (hp : pos < s.size) (ht : p (s[pos]'hp) = true) : Upto p s (pos + 1) := fun k hk hkp => by
  by_cases e : k = pos
  · subst e; exact ht
  · exact h k hk (by omega)
theorem Upto.many {p : UInt8 → Bool} {s : ByteArray} {pos : Nat} (h : Upto p s pos) (hp : pos < s.size) (ha : 128 ≤ (s[pos]'hp).toNat) (hh : ∀ c : UInt8, 128 ≤ c.toNat → p c = true) : Upto p s (pos + (Utf8.decode s pos).2) := fun k hk hkp => by
  by_cases e : k < pos
  · exact h k hk e
  · exact hh _ ((decode_bytes s pos hp ha).2 k hk (by omega) hkp)
theorem ends_int {a b : Int} {w w' : World} (h : a = b) (hb : Below w.heap.size w w') : EndsB (.int .i64 b) w (.returned (.int .i64 a)) w' := by subst h; exact ⟨rfl, hb⟩
theorem iter_below (w : World) (s : ByteArray) (pos : Nat) : Below w.heap.size w (w.iter s pos) := (Below.refl _ _).alloc (Nat.le_refl _) _
set_option maxHeartbeats 2000000 in
theorem row_dig (s : ByteArray) (w : World) (hs : s.size ≤ maxLen) : Calls Try.prog 51 #[.string s, .func (.func 50) #[] #[]] w (EndsB (.int .i64 (rowN dig s.data.toList : Nat)) w) := by
  unfold maxLen at hs
  have CK := fun c w' => Lib.hid (digit_any c w')
  go_enter Try.func51, Try.ntmps51
  go_wp2
  go_loopw [5] (fun _ w' => ∃ pos : Nat, w' = w.iter s pos ∧ pos ≤ s.size ∧ Upto dig s pos) (fun _ w' => s.size - w'.iterPos w.heap.size)
  case atStart => exact ⟨0, rfl, by omega, fun k hk h => absurd h (by omega)⟩
  case round =>
    obtain ⟨pos, rfl, hle, hup⟩ := hrel
    have HUP := Lib.hid hup
    clear hup
    by_cases hp : pos < s.size
    · by_cases ha : (s[pos]'hp).toNat < 128
      · have hnx : ∀ ty, (Instr.next (.pointer (some ⟨w.heap.size, 0, none⟩)) true ty).run Try.prog (w.iter s pos) = _ := fun ty => run_next_ascii w s pos ty hp ha
        rcases Bool.eq_false_or_eq_true (dig (s[pos]'hp)) with hc | hc
        · have HC := Lib.hid hc
          have CC := Lib.hid (fun w' => show Calls Try.prog 50 #[.int .i32 ((s[pos]'hp).toNat : Int)] w' (EndsW (.bool true) w') by have := (CK ((s[pos]'hp).toNat : Int) w').out; rwa [digI_nat, hc] at this)
          clear hc
          go_wp2_with (go_at_call 50; refine (CC.out _).mono ?_; rintro e w' ⟨rfl, rfl⟩)
          go_roundw
          case rel => exact ⟨pos + 1, rfl, by omega, HUP.out.one hp HC.out⟩
          case measure => simp; omega
        · have HC := Lib.hid (HUP.out.stop hp hc)
          have CC := Lib.hid (fun w' => show Calls Try.prog 50 #[.int .i32 ((s[pos]'hp).toNat : Int)] w' (EndsW (.bool false) w') by have := (CK ((s[pos]'hp).toNat : Int) w').out; rwa [digI_nat, hc] at this)
          clear hc
          go_wp2_with (go_at_call 50; refine (CC.out _).mono ?_; rintro e w' ⟨rfl, rfl⟩)
          go_ret
          exact ends_int (by rw [HC.out]) (iter_below _ _ _)
      · have HD := Lib.hid (decode_high s pos hp (by omega))
        have hnx : ∀ ty, (Instr.next (.pointer (some ⟨w.heap.size, 0, none⟩)) true ty).run Try.prog (w.iter s pos) = _ := fun ty => run_next_any w s pos ty hp
        have CC := Lib.hid (fun w' => show Calls Try.prog 50 #[.int .i32 ((Utf8.decode s pos).1 : Int)] w' (EndsW (.bool false) w') by have := (CK ((Utf8.decode s pos).1 : Int) w').out; rwa [digI_high _ (by have := HD.out.1; omega)] at this)
        have HC := Lib.hid (HUP.out.stop hp (dig_high _ (by omega)))
        go_wp2_with (go_at_call 50; refine (CC.out _).mono ?_; rintro e w' ⟨rfl, rfl⟩)
        go_ret
        exact ends_int (by rw [HC.out]) (iter_below _ _ _)
    · have hnx : ∀ ty, (Instr.next (.pointer (some ⟨w.heap.size, 0, none⟩)) true ty).run Try.prog (w.iter s pos) = _ := fun ty => run_next_end w s pos ty hp
      have HC := Lib.hid (HUP.out.all (by omega))
      go_wp2
      go_ret
      exact ends_int (by rw [HC.out]) (iter_below _ _ _)
set_option maxHeartbeats 2000000 in
theorem row_name (s : ByteArray) (w : World) (hs : s.size ≤ maxLen) : Calls Try.prog 51 #[.string s, .func (.func 52) #[] #[]] w (EndsB (.int .i64 (rowN nameB s.data.toList : Nat)) w) := by
  unfold maxLen at hs
  have CK := fun c w' => Lib.hid (inName_any c w')
  go_enter Try.func51, Try.ntmps51
  go_wp2
  go_loopw [5] (fun _ w' => ∃ pos : Nat, w' = w.iter s pos ∧ pos ≤ s.size ∧ Upto nameB s pos) (fun _ w' => s.size - w'.iterPos w.heap.size)
  case atStart => exact ⟨0, rfl, by omega, fun k hk h => absurd h (by omega)⟩
  case round =>
    obtain ⟨pos, rfl, hle, hup⟩ := hrel
    have HUP := Lib.hid hup
    clear hup
    by_cases hp : pos < s.size
    · by_cases ha : (s[pos]'hp).toNat < 128
      · have hnx : ∀ ty, (Instr.next (.pointer (some ⟨w.heap.size, 0, none⟩)) true ty).run Try.prog (w.iter s pos) = _ := fun ty => run_next_ascii w s pos ty hp ha
        rcases Bool.eq_false_or_eq_true (nameB (s[pos]'hp)) with hc | hc
        · have HC := Lib.hid hc
          have CC := Lib.hid (fun w' => show Calls Try.prog 52 #[.int .i32 ((s[pos]'hp).toNat : Int)] w' (EndsW (.bool true) w') by have := (CK ((s[pos]'hp).toNat : Int) w').out; rwa [nameI_nat, hc] at this)
          clear hc
          go_wp2_with (go_at_call 52; refine (CC.out _).mono ?_; rintro e w' ⟨rfl, rfl⟩)
          go_roundw
          case rel => exact ⟨pos + 1, rfl, by omega, HUP.out.one hp HC.out⟩
          case measure => simp; omega
        · have HC := Lib.hid (HUP.out.stop hp hc)
          have CC := Lib.hid (fun w' => show Calls Try.prog 52 #[.int .i32 ((s[pos]'hp).toNat : Int)] w' (EndsW (.bool false) w') by have := (CK ((s[pos]'hp).toNat : Int) w').out; rwa [nameI_nat, hc] at this)
          clear hc
          go_wp2_with (go_at_call 52; refine (CC.out _).mono ?_; rintro e w' ⟨rfl, rfl⟩)
          go_ret
          exact ends_int (by rw [HC.out]) (iter_below _ _ _)
      · have HD := Lib.hid (decode_high s pos hp (by omega))
        have hnx : ∀ ty, (Instr.next (.pointer (some ⟨w.heap.size, 0, none⟩)) true ty).run Try.prog (w.iter s pos) = _ := fun ty => run_next_any w s pos ty hp
        have CC := Lib.hid (fun w' => show Calls Try.prog 52 #[.int .i32 ((Utf8.decode s pos).1 : Int)] w' (EndsW (.bool false) w') by have := (CK ((Utf8.decode s pos).1 : Int) w').out; rwa [nameI_high _ (by have := HD.out.1; omega)] at this)
        have HC := Lib.hid (HUP.out.stop hp (nameB_high _ (by omega)))
        go_wp2_with (go_at_call 52; refine (CC.out _).mono ?_; rintro e w' ⟨rfl, rfl⟩)
        go_ret
        exact ends_int (by rw [HC.out]) (iter_below _ _ _)
    · have hnx : ∀ ty, (Instr.next (.pointer (some ⟨w.heap.size, 0, none⟩)) true ty).run Try.prog (w.iter s pos) = _ := fun ty => run_next_end w s pos ty hp
      have HC := Lib.hid (HUP.out.all (by omega))
      go_wp2
      go_ret
      exact ends_int (by rw [HC.out]) (iter_below _ _ _)
end Go.Proofs.Ytofadlenblobnaa.Lex
