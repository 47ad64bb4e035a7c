/-
  What the small calls of lex answer: digit, great, inName, what is no line feed, for every number of a letter. No condition.
-/
import Derived.Test.YtlhbhpdpjidpgaaGreatDoorZ01
import Derived.Laws.RangeAny
import Derived.LoopTactic
namespace Go.Proofs.YtlhbhpdpjidpgaaGreatDoor.Lex
open Go.RowKit
open Num (EndsW)
set_option maxRecDepth 100000
def digI (c : Int) : Bool := decide (48 ≤ c ∧ c ≤ 57)
def greatI (c : Int) : Bool := decide (65 ≤ c ∧ c ≤ 90)
def nameI (c : Int) : Bool := decide (97 ≤ c ∧ c ≤ 122) || greatI c || digI c || decide (c = 95)
def nlI (c : Int) : Bool := decide (c ≠ 10)
theorem ends_bool {a b : Bool} {w : World} (h : a = b) : EndsW (.bool b) w (.returned (.bool a)) w := by subst h; exact ⟨rfl, rfl⟩
theorem digit_any (c : Int) (w : World) : Calls Tryz.prog 101 #[.int .i32 c] w (EndsW (.bool (digI c)) w) := by
  by_cases h1 : 48 ≤ c
  · by_cases h2 : c ≤ 57
    · have H := Lib.hid (show digI c = true by unfold digI; simp; omega)
      go_enter Tryz.func101, Tryz.ntmps101
      go_wp2
      go_ret
      exact ends_bool H.out.symm
    · have H := Lib.hid (show digI c = false by unfold digI; simp; omega)
      go_enter Tryz.func101, Tryz.ntmps101
      go_wp2
      go_ret
      exact ends_bool H.out.symm
  · have H := Lib.hid (show digI c = false by unfold digI; simp; omega)
    go_enter Tryz.func101, Tryz.ntmps101
    go_wp2
    go_ret
    exact ends_bool H.out.symm
theorem great_any (c : Int) (w : World) : Calls Tryz.prog 129 #[.int .i32 c] w (EndsW (.bool (greatI c)) w) := by
  by_cases h1 : 65 ≤ c
  · by_cases h2 : c ≤ 90
    · have H := Lib.hid (show greatI c = true by unfold greatI; simp; omega)
      go_enter Tryz.func129, Tryz.ntmps129
      go_wp2
      go_ret
      exact ends_bool H.out.symm
    · have H := Lib.hid (show greatI c = false by unfold greatI; simp; omega)
      go_enter Tryz.func129, Tryz.ntmps129
      go_wp2
      go_ret
      exact ends_bool H.out.symm
  · have H := Lib.hid (show greatI c = false by unfold greatI; simp; omega)
    go_enter Tryz.func129, Tryz.ntmps129
    go_wp2
    go_ret
    exact ends_bool H.out.symm
theorem great_yes (c : Int) (w : World) (h : 65 ≤ c ∧ c ≤ 90) : Calls Tryz.prog 129 #[.int .i32 c] w (EndsW (.bool true) w) := by
  have e : greatI c = true := by unfold greatI; simp; omega
  have := great_any c w
  rwa [e] at this
theorem great_no (c : Int) (w : World) (h : c < 65 ∨ 90 < c) : Calls Tryz.prog 129 #[.int .i32 c] w (EndsW (.bool false) w) := by
  have e : greatI c = false := by unfold greatI; simp; omega
  have := great_any c w
  rwa [e] at this
theorem digit_yes (c : Int) (w : World) (h : 48 ≤ c ∧ c ≤ 57) : Calls Tryz.prog 101 #[.int .i32 c] w (EndsW (.bool true) w) := by
  have e : digI c = true := by unfold digI; simp; omega
  have := digit_any c w
  rwa [e] at this
theorem digit_no (c : Int) (w : World) (h : c < 48 ∨ 57 < c) : Calls Tryz.prog 101 #[.int .i32 c] w (EndsW (.bool false) w) := by
  have e : digI c = false := by unfold digI; simp; omega
  have := digit_any c w
  rwa [e] at this
set_option maxHeartbeats 1000000 in
theorem inName_lo (c : Int) (w : World) (h1 : c < 97) (h2 : c < 65 ∨ 90 < c) (h3 : c < 48 ∨ 57 < c) (h4 : c ≠ 95) : Calls Tryz.prog 103 #[.int .i32 c] w (EndsW (.bool (nameI c)) w) := by
  have H := Lib.hid (show nameI c = false by unfold nameI greatI digI; simp; omega)
  have C := Lib.hid (great_no c w h2)
  have D := Lib.hid (digit_no c w h3)
  have h5 : (c == 95) = false := by simpa using h4
  clear h2 h3 h4
  go_enter Tryz.func103, Tryz.ntmps103
  go_wp2_with (first | (go_at_call 129; refine C.out.mono ?_; rintro e w' ⟨rfl, rfl⟩) | (go_at_call 101; refine D.out.mono ?_; rintro e w' ⟨rfl, rfl⟩))
  go_ret
  exact ends_bool H.out.symm
set_option maxHeartbeats 1000000 in
theorem inName_hi (c : Int) (w : World) (h1 : 122 < c) : Calls Tryz.prog 103 #[.int .i32 c] w (EndsW (.bool (nameI c)) w) := by
  have H := Lib.hid (show nameI c = false by unfold nameI greatI digI; simp; omega)
  have C := Lib.hid (great_no c w (by omega))
  have D := Lib.hid (digit_no c w (by omega))
  have h5 : (c == 95) = false := by simp; omega
  have h6 : decide (c ≤ 122) = false := by simp; omega
  have h7 : decide (97 ≤ c) = true := by simp; omega
  go_enter Tryz.func103, Tryz.ntmps103
  go_wp2_with (first | (go_at_call 129; refine C.out.mono ?_; rintro e w' ⟨rfl, rfl⟩) | (go_at_call 101; refine D.out.mono ?_; rintro e w' ⟨rfl, rfl⟩))
  go_ret
  exact ends_bool H.out.symm
set_option maxHeartbeats 1000000 in
theorem inName_any (c : Int) (w : World) : Calls Tryz.prog 103 #[.int .i32 c] w (EndsW (.bool (nameI c)) w) := by
  rcases (show (97 ≤ c ∧ c ≤ 122) ∨ (65 ≤ c ∧ c ≤ 90) ∨ (48 ≤ c ∧ c ≤ 57) ∨ c = 95 ∨ c < 48 ∨ (58 ≤ c ∧ c ≤ 64) ∨ (91 ≤ c ∧ c ≤ 94) ∨ c = 96 ∨ 122 < c by omega) with h | h | h | h | h | h | h | h | h
  · have H := Lib.hid (show nameI c = true by unfold nameI greatI digI; simp; omega)
    obtain ⟨h1, h2⟩ := h
    go_enter Tryz.func103, Tryz.ntmps103
    go_wp2_with fail
    go_ret
    exact ends_bool H.out.symm
  · have H := Lib.hid (show nameI c = true by unfold nameI greatI digI; simp; omega)
    have C := Lib.hid (great_yes c w h)
    obtain ⟨h1, h2⟩ := h
    have h3 : c < 97 := by omega
    go_enter Tryz.func103, Tryz.ntmps103
    go_wp2_with (go_at_call 129; refine C.out.mono ?_; rintro e w' ⟨rfl, rfl⟩)
    go_ret
    exact ends_bool H.out.symm
  · have H := Lib.hid (show nameI c = true by unfold nameI greatI digI; simp; omega)
    have C := Lib.hid (great_no c w (by omega))
    have D := Lib.hid (digit_yes c w h)
    obtain ⟨h1, h2⟩ := h
    have h3 : c < 97 := by omega
    go_enter Tryz.func103, Tryz.ntmps103
    go_wp2_with (first | (go_at_call 129; refine C.out.mono ?_; rintro e w' ⟨rfl, rfl⟩) | (go_at_call 101; refine D.out.mono ?_; rintro e w' ⟨rfl, rfl⟩))
    go_ret
    exact ends_bool H.out.symm
  · subst h
    have C := Lib.hid (great_no 95 w (by omega))
    have D := Lib.hid (digit_no 95 w (by omega))
    go_enter Tryz.func103, Tryz.ntmps103
    go_wp2_with (first | (go_at_call 129; refine C.out.mono ?_; rintro e w' ⟨rfl, rfl⟩) | (go_at_call 101; refine D.out.mono ?_; rintro e w' ⟨rfl, rfl⟩))
    go_ret
    exact ends_bool (by decide)
  · exact inName_lo c w (by omega) (by omega) (by omega) (by omega)
  · exact inName_lo c w (by omega) (by omega) (by omega) (by omega)
  · exact inName_lo c w (by omega) (by omega) (by omega) (by omega)
  · exact inName_lo c w (by omega) (by omega) (by omega) (by omega)
  · exact inName_hi c w h
theorem nl_any (c : Int) (w : World) : Calls Tryz.prog 110 #[.int .i32 c] w (EndsW (.bool (nlI c)) w) := by
  by_cases h : c = 10
  · subst h
    go_enter Tryz.func110, Tryz.ntmps110
    go_wp2
    go_ret
    exact ends_bool (by decide)
  · have H := Lib.hid (show nlI c = true by unfold nlI; simpa using h)
    have h1 : (c != 10) = true := by simpa using h
    clear h
    go_enter Tryz.func110, Tryz.ntmps110
    go_wp2
    go_ret
    exact ends_bool H.out.symm
theorem digI_nat (c : UInt8) : digI (c.toNat : Int) = dig c := by
  unfold digI dig Num.isDig; rw [decide_eq_decide]; omega
theorem greatI_nat (c : UInt8) : greatI (c.toNat : Int) = great c := by
  unfold greatI great; rw [decide_eq_decide]; omega
theorem nameI_nat (c : UInt8) : nameI (c.toNat : Int) = nameB c := by
  unfold nameI nameB small; rw [digI_nat, greatI_nat]
  have e1 : decide (97 ≤ (c.toNat : Int) ∧ (c.toNat : Int) ≤ 122) = decide (97 ≤ c.toNat ∧ c.toNat ≤ 122) := by rw [decide_eq_decide]; omega
  have e2 : decide ((c.toNat : Int) = 95) = decide (c.toNat = 95) := by rw [decide_eq_decide]; omega
  rw [e1, e2]
theorem nlI_nat (c : UInt8) : nlI (c.toNat : Int) = notNL c := by
  unfold nlI notNL; rw [decide_eq_decide]; omega
theorem dig_high (c : UInt8) (h : 128 ≤ c.toNat) : dig c = false := by unfold dig Num.isDig; simp; omega
theorem nameB_high (c : UInt8) (h : 128 ≤ c.toNat) : nameB c = false := by unfold nameB small great; rw [dig_high c h]; simp; omega
theorem notNL_high (c : UInt8) (h : 128 ≤ c.toNat) : notNL c = true := by unfold notNL; simp; omega
theorem digI_high (n : Int) (h : 128 ≤ n) : digI n = false := by unfold digI; simp; omega
theorem nameI_high (n : Int) (h : 128 ≤ n) : nameI n = false := by unfold nameI greatI digI; simp; omega
theorem nlI_high (n : Int) (h : 128 ≤ n) : nlI n = true := by unfold nlI; simp; omega
end Go.Proofs.YtlhbhpdpjidpgaaGreatDoor.Lex
/- The call row: how many bytes at a text's beginning are of a kind, letter by letter. No condition but the text's size. -/
namespace Go.Proofs.YtlhbhpdpjidpgaaGreatDoor.Lex
open Go.RowKit
open Num (EndsW)
set_option maxRecDepth 100000
def EndsB (v : Value) (w : World) (e : Ending) (w' : World) : Prop := e = .returned v ∧ Below w.heap.size w w'
theorem get_eq (s : ByteArray) (k : Nat) (h : k < s.size) : s.get! k = s[k]'h := by
  simp [ByteArray.get!, getElem!_pos, h]; rfl
theorem len_bytes (s : ByteArray) : s.data.toList.length = s.size := by rw [Array.length_toList]; rfl
theorem list_get (s : ByteArray) (k : Nat) (h : k < s.size) : s.data.toList[k]'(by rw [len_bytes]; exact h) = s[k]'h := rfl
/-- What a letter of more than one byte is made of. -/
theorem decode_bytes (s : ByteArray) (pos : Nat) (h : pos < s.size) (ha : 128 ≤ (s[pos]'h).toNat) :
    pos + (Utf8.decode s pos).2 ≤ s.size ∧ ∀ k (hk : k < s.size), pos ≤ k → k < pos + (Utf8.decode s pos).2 → 128 ≤ (s[k]'hk).toNat := by
  have hn : ¬ (s[pos]'h).toNat < 128 := by omega
  have c1 : ∀ k, (decide (pos + k < s.size) && (s.get! (pos + k)).toNat / 64 == 2) = true → pos + k < s.size ∧ 128 ≤ (s.get! (pos + k)).toNat := fun k hk => by
    simp only [Bool.and_eq_true, decide_eq_true_eq, beq_iff_eq] at hk
    exact ⟨hk.1, by omega⟩
  have fin : ∀ n, (∀ k, k < n → pos + k < s.size ∧ 128 ≤ (s.get! (pos + k)).toNat) → 1 ≤ n → pos + n ≤ s.size ∧ ∀ k (hk : k < s.size), pos ≤ k → k < pos + n → 128 ≤ (s[k]'hk).toNat := fun n hA hn1 => by
    refine ⟨by have := (hA (n - 1) (by omega)).1; omega, fun k hk h1 h2 => ?_⟩
    have h3 := (hA (k - pos) (by omega)).2
    rw [show pos + (k - pos) = k by omega, get_eq s k hk] at h3
    exact h3
  have z0 : pos + 0 < s.size ∧ 128 ≤ (s.get! (pos + 0)).toNat := ⟨by omega, by rw [get_at s pos h]; omega⟩
  have one : pos + 1 ≤ s.size ∧ ∀ k (hk : k < s.size), pos ≤ k → k < pos + 1 → 128 ≤ (s[k]'hk).toNat := fin 1 (fun k hk => (by rw [show k = 0 by omega]; exact z0)) (by omega)
  simp only [Utf8.decode, get_at s pos h, hn, if_false]
  split
  · rename_i g
    simp only [Bool.and_eq_true] at g
    have g1 := c1 1 (by simpa using g.2)
    split
    · exact fin 2 (fun k hk => by rcases (show k = 0 ∨ k = 1 by omega) with rfl | rfl <;> assumption) (by omega)
    · exact one
  split
  · rename_i g
    simp only [Bool.and_eq_true] at g
    have g1 := c1 1 (by simpa using g.1.2)
    have g2 := c1 2 (by simpa using g.2)
    split
    · exact fin 3 (fun k hk => by rcases (show k = 0 ∨ k = 1 ∨ k = 2 by omega) with rfl | rfl | rfl <;> assumption) (by omega)
    · exact one
  split
  · rename_i g
    simp only [Bool.and_eq_true] at g
    have g1 := c1 1 (by simpa using g.1.1.2)
    have g2 := c1 2 (by simpa using g.1.2)
    have g3 := c1 3 (by simpa using g.2)
    split
    · exact fin 4 (fun k hk => by rcases (show k = 0 ∨ k = 1 ∨ k = 2 ∨ k = 3 by omega) with rfl | rfl | rfl | rfl <;> assumption) (by omega)
    · exact one
  · exact one
/-- The first pos bytes are of the kind. -/
def Upto (p : UInt8 → Bool) (s : ByteArray) (pos : Nat) : Prop := ∀ k (hk : k < s.size), k < pos → p (s[k]'hk) = true
theorem rowN_app (p : UInt8 → Bool) : ∀ (l : List UInt8) (n : Nat), n ≤ l.length → (∀ k (hk : k < l.length), k < n → p l[k] = true) → rowN p l = n + rowN p (l.drop n)
  | l, 0, _, _ => by simp
  | [], n + 1, h, _ => by simp at h
  | c :: r, n + 1, h, hp => by
    have h0 : p c = true := hp 0 (by simp) (by omega)
    have ih := rowN_app p r n (by simpa using h) (fun k hk hkn => hp (k + 1) (by simpa using hk) (by omega))
    have e : rowN p (c :: r) = rowN p r + 1 := by unfold rowN; rw [List.takeWhile_cons, if_pos h0]; simp
    rw [e, ih, List.drop_succ_cons]; omega
theorem Upto.stop {p : UInt8 → Bool} {s : ByteArray} {pos : Nat} (h : Upto p s pos) (hp : pos < s.size) (hf : p (s[pos]'hp) = false) : rowN p s.data.toList = pos := by
  have hl := len_bytes s
  rw [rowN_app p s.data.toList pos (by omega) (fun k hk hkp => h k (by omega) hkp), List.drop_eq_getElem_cons (by omega)]
  have : s.data.toList[pos]'(by omega) = s[pos]'hp := rfl
  rw [this]
  unfold rowN
  rw [List.takeWhile_cons, if_neg (by rw [hf]; simp)]
  simp
theorem Upto.all {p : UInt8 → Bool} {s : ByteArray} {pos : Nat} (h : Upto p s pos) (hp : s.size ≤ pos) : rowN p s.data.toList = s.size := by
  have hl := len_bytes s
  rw [rowN_app p s.data.toList s.size (by omega) (fun k hk hkp => h k hkp (by omega)), List.drop_of_length_le (by omega)]
  rfl
theorem Upto.one {p : UInt8 → Bool} {s : ByteArray} {pos : Nat} (h : Upto p s pos) (hp : pos < s.size) (ht : p (s[pos]'hp) = true) : Upto p s (pos + 1) := fun k hk hkp => by
  by_cases e : k = pos
  · subst e; exact ht
  · exact h k hk (by omega)
theorem Upto.many {p : UInt8 → Bool} {s : ByteArray} {pos : Nat} (h : Upto p s pos) (hp : pos < s.size) (ha : 128 ≤ (s[pos]'hp).toNat) (hh : ∀ c : UInt8, 128 ≤ c.toNat → p c = true) : Upto p s (pos + (Utf8.decode s pos).2) := fun k hk hkp => by
  by_cases e : k < pos
  · exact h k hk e
  · exact hh _ ((decode_bytes s pos hp ha).2 k hk (by omega) hkp)
theorem ends_int {a b : Int} {w w' : World} (h : a = b) (hb : Below w.heap.size w w') : EndsB (.int .i64 b) w (.returned (.int .i64 a)) w' := by subst h; exact ⟨rfl, hb⟩
theorem iter_below (w : World) (s : ByteArray) (pos : Nat) : Below w.heap.size w (w.iter s pos) := (Below.refl _ _).alloc (Nat.le_refl _) _
set_option maxHeartbeats 2000000 in
theorem row_dig (s : ByteArray) (w : World) (hs : s.size ≤ maxLen) : Calls Tryz.prog 102 #[.string s, .func (.func 101) #[] #[]] w (EndsB (.int .i64 (rowN dig s.data.toList : Nat)) w) := by
  unfold maxLen at hs
  have CK := fun c w' => Lib.hid (digit_any c w')
  go_enter Tryz.func102, Tryz.ntmps102
  go_wp2
  go_loopw [5] (fun _ w' => ∃ pos : Nat, w' = w.iter s pos ∧ pos ≤ s.size ∧ Upto dig s pos) (fun _ w' => s.size - w'.iterPos w.heap.size)
  case atStart => exact ⟨0, rfl, by omega, fun k hk h => absurd h (by omega)⟩
  case round =>
    obtain ⟨pos, rfl, hle, hup⟩ := hrel
    have HUP := Lib.hid hup
    clear hup
    by_cases hp : pos < s.size
    · by_cases ha : (s[pos]'hp).toNat < 128
      · have hnx : ∀ ty, (Instr.next (.pointer (some ⟨w.heap.size, 0, none⟩)) true ty).run Tryz.prog (w.iter s pos) = _ := fun ty => run_next_ascii w s pos ty hp ha
        rcases Bool.eq_false_or_eq_true (dig (s[pos]'hp)) with hc | hc
        · have HC := Lib.hid hc
          have CC := Lib.hid (fun w' => show Calls Tryz.prog 101 #[.int .i32 ((s[pos]'hp).toNat : Int)] w' (EndsW (.bool true) w') by have := (CK ((s[pos]'hp).toNat : Int) w').out; rwa [digI_nat, hc] at this)
          clear hc
          go_wp2_with (go_at_call 101; refine (CC.out _).mono ?_; rintro e w' ⟨rfl, rfl⟩)
          go_roundw
          case rel => exact ⟨pos + 1, rfl, by omega, HUP.out.one hp HC.out⟩
          case measure => simp; omega
        · have HC := Lib.hid (HUP.out.stop hp hc)
          have CC := Lib.hid (fun w' => show Calls Tryz.prog 101 #[.int .i32 ((s[pos]'hp).toNat : Int)] w' (EndsW (.bool false) w') by have := (CK ((s[pos]'hp).toNat : Int) w').out; rwa [digI_nat, hc] at this)
          clear hc
          go_wp2_with (go_at_call 101; refine (CC.out _).mono ?_; rintro e w' ⟨rfl, rfl⟩)
          go_ret
          exact ends_int (by rw [HC.out]) (iter_below _ _ _)
      · have HD := Lib.hid (decode_high s pos hp (by omega))
        have hnx : ∀ ty, (Instr.next (.pointer (some ⟨w.heap.size, 0, none⟩)) true ty).run Tryz.prog (w.iter s pos) = _ := fun ty => run_next_any w s pos ty hp
        have CC := Lib.hid (fun w' => show Calls Tryz.prog 101 #[.int .i32 ((Utf8.decode s pos).1 : Int)] w' (EndsW (.bool false) w') by have := (CK ((Utf8.decode s pos).1 : Int) w').out; rwa [digI_high _ (by have := HD.out.1; omega)] at this)
        have HC := Lib.hid (HUP.out.stop hp (dig_high _ (by omega)))
        go_wp2_with (go_at_call 101; refine (CC.out _).mono ?_; rintro e w' ⟨rfl, rfl⟩)
        go_ret
        exact ends_int (by rw [HC.out]) (iter_below _ _ _)
    · have hnx : ∀ ty, (Instr.next (.pointer (some ⟨w.heap.size, 0, none⟩)) true ty).run Tryz.prog (w.iter s pos) = _ := fun ty => run_next_end w s pos ty hp
      have HC := Lib.hid (HUP.out.all (by omega))
      go_wp2
      go_ret
      exact ends_int (by rw [HC.out]) (iter_below _ _ _)
set_option maxHeartbeats 2000000 in
theorem row_name (s : ByteArray) (w : World) (hs : s.size ≤ maxLen) : Calls Tryz.prog 102 #[.string s, .func (.func 103) #[] #[]] w (EndsB (.int .i64 (rowN nameB s.data.toList : Nat)) w) := by
  unfold maxLen at hs
  have CK := fun c w' => Lib.hid (inName_any c w')
  go_enter Tryz.func102, Tryz.ntmps102
  go_wp2
  go_loopw [5] (fun _ w' => ∃ pos : Nat, w' = w.iter s pos ∧ pos ≤ s.size ∧ Upto nameB s pos) (fun _ w' => s.size - w'.iterPos w.heap.size)
  case atStart => exact ⟨0, rfl, by omega, fun k hk h => absurd h (by omega)⟩
  case round =>
    obtain ⟨pos, rfl, hle, hup⟩ := hrel
    have HUP := Lib.hid hup
    clear hup
    by_cases hp : pos < s.size
    · by_cases ha : (s[pos]'hp).toNat < 128
      · have hnx : ∀ ty, (Instr.next (.pointer (some ⟨w.heap.size, 0, none⟩)) true ty).run Tryz.prog (w.iter s pos) = _ := fun ty => run_next_ascii w s pos ty hp ha
        rcases Bool.eq_false_or_eq_true (nameB (s[pos]'hp)) with hc | hc
        · have HC := Lib.hid hc
          have CC := Lib.hid (fun w' => show Calls Tryz.prog 103 #[.int .i32 ((s[pos]'hp).toNat : Int)] w' (EndsW (.bool true) w') by have := (CK ((s[pos]'hp).toNat : Int) w').out; rwa [nameI_nat, hc] at this)
          clear hc
          go_wp2_with (go_at_call 103; refine (CC.out _).mono ?_; rintro e w' ⟨rfl, rfl⟩)
          go_roundw
          case rel => exact ⟨pos + 1, rfl, by omega, HUP.out.one hp HC.out⟩
          case measure => simp; omega
        · have HC := Lib.hid (HUP.out.stop hp hc)
          have CC := Lib.hid (fun w' => show Calls Tryz.prog 103 #[.int .i32 ((s[pos]'hp).toNat : Int)] w' (EndsW (.bool false) w') by have := (CK ((s[pos]'hp).toNat : Int) w').out; rwa [nameI_nat, hc] at this)
          clear hc
          go_wp2_with (go_at_call 103; refine (CC.out _).mono ?_; rintro e w' ⟨rfl, rfl⟩)
          go_ret
          exact ends_int (by rw [HC.out]) (iter_below _ _ _)
      · have HD := Lib.hid (decode_high s pos hp (by omega))
        have hnx : ∀ ty, (Instr.next (.pointer (some ⟨w.heap.size, 0, none⟩)) true ty).run Tryz.prog (w.iter s pos) = _ := fun ty => run_next_any w s pos ty hp
        have CC := Lib.hid (fun w' => show Calls Tryz.prog 103 #[.int .i32 ((Utf8.decode s pos).1 : Int)] w' (EndsW (.bool false) w') by have := (CK ((Utf8.decode s pos).1 : Int) w').out; rwa [nameI_high _ (by have := HD.out.1; omega)] at this)
        have HC := Lib.hid (HUP.out.stop hp (nameB_high _ (by omega)))
        go_wp2_with (go_at_call 103; refine (CC.out _).mono ?_; rintro e w' ⟨rfl, rfl⟩)
        go_ret
        exact ends_int (by rw [HC.out]) (iter_below _ _ _)
    · have hnx : ∀ ty, (Instr.next (.pointer (some ⟨w.heap.size, 0, none⟩)) true ty).run Tryz.prog (w.iter s pos) = _ := fun ty => run_next_end w s pos ty hp
      have HC := Lib.hid (HUP.out.all (by omega))
      go_wp2
      go_ret
      exact ends_int (by rw [HC.out]) (iter_below _ _ _)
set_option maxHeartbeats 2000000 in
theorem row_nl (s : ByteArray) (w : World) (hs : s.size ≤ maxLen) : Calls Tryz.prog 102 #[.string s, .func (.func 110) #[] #[]] w (EndsB (.int .i64 (rowN notNL s.data.toList : Nat)) w) := by
  unfold maxLen at hs
  have CK := fun c w' => Lib.hid (nl_any c w')
  go_enter Tryz.func102, Tryz.ntmps102
  go_wp2
  go_loopw [5] (fun _ w' => ∃ pos : Nat, w' = w.iter s pos ∧ pos ≤ s.size ∧ Upto notNL s pos) (fun _ w' => s.size - w'.iterPos w.heap.size)
  case atStart => exact ⟨0, rfl, by omega, fun k hk h => absurd h (by omega)⟩
  case round =>
    obtain ⟨pos, rfl, hle, hup⟩ := hrel
    have HUP := Lib.hid hup
    clear hup
    by_cases hp : pos < s.size
    · by_cases ha : (s[pos]'hp).toNat < 128
      · have hnx : ∀ ty, (Instr.next (.pointer (some ⟨w.heap.size, 0, none⟩)) true ty).run Tryz.prog (w.iter s pos) = _ := fun ty => run_next_ascii w s pos ty hp ha
        rcases Bool.eq_false_or_eq_true (notNL (s[pos]'hp)) with hc | hc
        · have HC := Lib.hid hc
          have CC := Lib.hid (fun w' => show Calls Tryz.prog 110 #[.int .i32 ((s[pos]'hp).toNat : Int)] w' (EndsW (.bool true) w') by have := (CK ((s[pos]'hp).toNat : Int) w').out; rwa [nlI_nat, hc] at this)
          clear hc
          go_wp2_with (go_at_call 110; refine (CC.out _).mono ?_; rintro e w' ⟨rfl, rfl⟩)
          go_roundw
          case rel => exact ⟨pos + 1, rfl, by omega, HUP.out.one hp HC.out⟩
          case measure => simp; omega
        · have HC := Lib.hid (HUP.out.stop hp hc)
          have CC := Lib.hid (fun w' => show Calls Tryz.prog 110 #[.int .i32 ((s[pos]'hp).toNat : Int)] w' (EndsW (.bool false) w') by have := (CK ((s[pos]'hp).toNat : Int) w').out; rwa [nlI_nat, hc] at this)
          clear hc
          go_wp2_with (go_at_call 110; refine (CC.out _).mono ?_; rintro e w' ⟨rfl, rfl⟩)
          go_ret
          exact ends_int (by rw [HC.out]) (iter_below _ _ _)
      · have HD := Lib.hid (decode_high s pos hp (by omega))
        have hnx : ∀ ty, (Instr.next (.pointer (some ⟨w.heap.size, 0, none⟩)) true ty).run Tryz.prog (w.iter s pos) = _ := fun ty => run_next_any w s pos ty hp
        have CC := Lib.hid (fun w' => show Calls Tryz.prog 110 #[.int .i32 ((Utf8.decode s pos).1 : Int)] w' (EndsW (.bool true) w') by have := (CK ((Utf8.decode s pos).1 : Int) w').out; rwa [nlI_high _ (by have := HD.out.1; omega)] at this)
        have HX := Lib.hid (decode_bytes s pos hp (by omega)).1
        have HU := Lib.hid (HUP.out.many hp (by omega) notNL_high)
        go_wp2_with (go_at_call 110; refine (CC.out _).mono ?_; rintro e w' ⟨rfl, rfl⟩)
        go_roundw
        case rel => exact ⟨pos + (Utf8.decode s pos).2, rfl, HX.out, HU.out⟩
        case measure => have := HD.out.2; simp; omega
    · have hnx : ∀ ty, (Instr.next (.pointer (some ⟨w.heap.size, 0, none⟩)) true ty).run Tryz.prog (w.iter s pos) = _ := fun ty => run_next_end w s pos ty hp
      have HC := Lib.hid (HUP.out.all (by omega))
      go_wp2
      go_ret
      exact ends_int (by rw [HC.out]) (iter_below _ _ _)
end Go.Proofs.YtlhbhpdpjidpgaaGreatDoor.Lex
