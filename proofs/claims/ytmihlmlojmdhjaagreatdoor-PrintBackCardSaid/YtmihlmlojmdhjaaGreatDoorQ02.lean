/-
  The call row: how many bytes at a text's beginning are of a kind, letter by letter. No condition but the text's size.
-/
import Derived.Test.YtmihlmlojmdhjaaGreatDoorQ01
import Derived.Laws.RangeAny
import Derived.LoopTactic
import Derived.OrdersHeld
import Derived.StillTail
import Derived.Below
import Derived.OwnWalk
import Derived.Laws.OwnMore
import Derived.Maps.AppendAt
import Derived.Deep.AppendLies
namespace Go.Proofs.YtmihlmlojmdhjaaGreatDoor.Lex
open Go.RowKit
open Num (EndsW)
set_option maxRecDepth 100000
def EndsB (v : Value) (w : World) (e : Ending) (w' : World) : Prop := e = .returned v ∧ Below w.heap.size w w'
theorem get_eq (s : ByteArray) (k : Nat) (h : k < s.size) : s.get! k = s[k]'h := by
  simp [ByteArray.get!, getElem!_pos, h]; rfl
theorem len_bytes (s : ByteArray) : s.data.toList.length = s.size := by rw [Array.length_toList]; rfl
theorem list_get (s : ByteArray) (k : Nat) (h : k < s.size) : s.data.toList[k]'(by rw [len_bytes]; exact h) = s[k]'h := rfl
/-- What a letter of more than one byte is made of. -/
theorem decode_bytes (s : ByteArray) (pos : Nat) (h : pos < s.size) (ha : 128 ≤ (s[pos]'h).toNat) :
    pos + (Utf8.decode s pos).2 ≤ s.size ∧ ∀ k (hk : k < s.size), pos ≤ k → k < pos + (Utf8.decode s pos).2 → 128 ≤ (s[k]'hk).toNat := by
  have hn : ¬ (s[pos]'h).toNat < 128 := by omega
  have c1 : ∀ k, (decide (pos + k < s.size) && (s.get! (pos + k)).toNat / 64 == 2) = true → pos + k < s.size ∧ 128 ≤ (s.get! (pos + k)).toNat := fun k hk => by
    simp only [Bool.and_eq_true, decide_eq_true_eq, beq_iff_eq] at hk
    exact ⟨hk.1, by omega⟩
  have fin : ∀ n, (∀ k, k < n → pos + k < s.size ∧ 128 ≤ (s.get! (pos + k)).toNat) → 1 ≤ n → pos + n ≤ s.size ∧ ∀ k (hk : k < s.size), pos ≤ k → k < pos + n → 128 ≤ (s[k]'hk).toNat := fun n hA hn1 => by
    refine ⟨by have := (hA (n - 1) (by omega)).1; omega, fun k hk h1 h2 => ?_⟩
    have h3 := (hA (k - pos) (by omega)).2
    rw [show pos + (k - pos) = k by omega, get_eq s k hk] at h3
    exact h3
  have z0 : pos + 0 < s.size ∧ 128 ≤ (s.get! (pos + 0)).toNat := ⟨by omega, by rw [get_at s pos h]; omega⟩
  have one : pos + 1 ≤ s.size ∧ ∀ k (hk : k < s.size), pos ≤ k → k < pos + 1 → 128 ≤ (s[k]'hk).toNat := fin 1 (fun k hk => (by rw [show k = 0 by omega]; exact z0)) (by omega)
  simp only [Utf8.decode, get_at s pos h, hn, if_false]
  split
  · rename_i g
    simp only [Bool.and_eq_true] at g
    have g1 := c1 1 (by simpa using g.2)
    split
    · exact fin 2 (fun k hk => by rcases (show k = 0 ∨ k = 1 by omega) with rfl | rfl <;> assumption) (by omega)
    · exact one
  split
  · rename_i g
    simp only [Bool.and_eq_true] at g
    have g1 := c1 1 (by simpa using g.1.2)
    have g2 := c1 2 (by simpa using g.2)
    split
    · exact fin 3 (fun k hk => by rcases (show k = 0 ∨ k = 1 ∨ k = 2 by omega) with rfl | rfl | rfl <;> assumption) (by omega)
    · exact one
  split
  · rename_i g
    simp only [Bool.and_eq_true] at g
    have g1 := c1 1 (by simpa using g.1.1.2)
    have g2 := c1 2 (by simpa using g.1.2)
    have g3 := c1 3 (by simpa using g.2)
    split
    · exact fin 4 (fun k hk => by rcases (show k = 0 ∨ k = 1 ∨ k = 2 ∨ k = 3 by omega) with rfl | rfl | rfl | rfl <;> assumption) (by omega)
    · exact one
  · exact one
/-- The first pos bytes are of the kind. -/
def Upto (p : UInt8 → Bool) (s : ByteArray) (pos : Nat) : Prop := ∀ k (hk : k < s.size), k < pos → p (s[k]'hk) = true
theorem rowN_app (p : UInt8 → Bool) : ∀ (l : List UInt8) (n : Nat), n ≤ l.length → (∀ k (hk : k < l.length), k < n → p l[k] = true) → rowN p l = n + rowN p (l.drop n)
  | l, 0, _, _ => by simp
  | [], n + 1, h, _ => by simp at h
  | c :: r, n + 1, h, hp => by
    have h0 : p c = true := hp 0 (by simp) (by omega)
    have ih := rowN_app p r n (by simpa using h) (fun k hk hkn => hp (k + 1) (by simpa using hk) (by omega))
    have e : rowN p (c :: r) = rowN p r + 1 := by unfold rowN; rw [List.takeWhile_cons, if_pos h0]; simp
    rw [e, ih, List.drop_succ_cons]; omega
theorem Upto.stop {p : UInt8 → Bool} {s : ByteArray} {pos : Nat} (h : Upto p s pos) (hp : pos < s.size) (hf : p (s[pos]'hp) = false) : rowN p s.data.toList = pos := by
  have hl := len_bytes s
  rw [rowN_app p s.data.toList pos (by omega) (fun k hk hkp => h k (by omega) hkp), List.drop_eq_getElem_cons (by omega)]
  have : s.data.toList[pos]'(by omega) = s[pos]'hp := rfl
  rw [this]
  unfold rowN
  rw [List.takeWhile_cons, if_neg (by rw [hf]; simp)]
  simp
theorem Upto.all {p : UInt8 → Bool} {s : ByteArray} {pos : Nat} (h : Upto p s pos) (hp : s.size ≤ pos) : rowN p s.data.toList = s.size := by
  have hl := len_bytes s
  rw [rowN_app p s.data.toList s.size (by omega) (fun k hk hkp => h k hkp (by omega)), List.drop_of_length_le (by omega)]
  rfl
theorem Upto.one {p : UInt8 → Bool} {s : ByteArray} {pos : Nat} (h : Upto p s pos) (hp : pos < s.size) (ht : p (s[pos]'hp) = true) : Upto p s (pos + 1) := fun k hk hkp => by
  by_cases e : k = pos
  · subst e; exact ht
  · exact h k hk (by omega)
theorem Upto.many {p : UInt8 → Bool} {s : ByteArray} {pos : Nat} (h : Upto p s pos) (hp : pos < s.size) (ha : 128 ≤ (s[pos]'hp).toNat) (hh : ∀ c : UInt8, 128 ≤ c.toNat → p c = true) : Upto p s (pos + (Utf8.decode s pos).2) := fun k hk hkp => by
  by_cases e : k < pos
  · exact h k hk e
  · exact hh _ ((decode_bytes s pos hp ha).2 k hk (by omega) hkp)
theorem ends_int {a b : Int} {w w' : World} (h : a = b) (hb : Below w.heap.size w w') : EndsB (.int .i64 b) w (.returned (.int .i64 a)) w' := by subst h; exact ⟨rfl, hb⟩
theorem iter_below (w : World) (s : ByteArray) (pos : Nat) : Below w.heap.size w (w.iter s pos) := (Below.refl _ _).alloc (Nat.le_refl _) _
set_option maxHeartbeats 2000000 in
theorem row_dig (s : ByteArray) (w : World) (hs : s.size ≤ maxLen) : Calls Tryz.prog 66 #[.string s, .func (.func 68) #[] #[]] w (EndsB (.int .i64 (rowN dig s.data.toList : Nat)) w) := by
  unfold maxLen at hs
  have CK := fun c w' => Lib.hid (digit_any c w')
  go_enter Tryz.func66, Tryz.ntmps66
  go_wp2
  go_loopw [5] (fun _ w' => ∃ pos : Nat, w' = w.iter s pos ∧ pos ≤ s.size ∧ Upto dig s pos) (fun _ w' => s.size - w'.iterPos w.heap.size)
  case atStart => exact ⟨0, rfl, by omega, fun k hk h => absurd h (by omega)⟩
  case round =>
    obtain ⟨pos, rfl, hle, hup⟩ := hrel
    have HUP := Lib.hid hup
    clear hup
    by_cases hp : pos < s.size
    · by_cases ha : (s[pos]'hp).toNat < 128
      · have hnx : ∀ ty, (Instr.next (.pointer (some ⟨w.heap.size, 0, none⟩)) true ty).run Tryz.prog (w.iter s pos) = _ := fun ty => run_next_ascii w s pos ty hp ha
        rcases Bool.eq_false_or_eq_true (dig (s[pos]'hp)) with hc | hc
        · have HC := Lib.hid hc
          have CC := Lib.hid (fun w' => show Calls Tryz.prog 68 #[.int .i32 ((s[pos]'hp).toNat : Int)] w' (EndsW (.bool true) w') by have := (CK ((s[pos]'hp).toNat : Int) w').out; rwa [digI_nat, hc] at this)
          clear hc
          go_wp2_with (go_at_call 68; refine (CC.out _).mono ?_; rintro e w' ⟨rfl, rfl⟩)
          go_roundw
          case rel => exact ⟨pos + 1, rfl, by omega, HUP.out.one hp HC.out⟩
          case measure => simp; omega
        · have HC := Lib.hid (HUP.out.stop hp hc)
          have CC := Lib.hid (fun w' => show Calls Tryz.prog 68 #[.int .i32 ((s[pos]'hp).toNat : Int)] w' (EndsW (.bool false) w') by have := (CK ((s[pos]'hp).toNat : Int) w').out; rwa [digI_nat, hc] at this)
          clear hc
          go_wp2_with (go_at_call 68; refine (CC.out _).mono ?_; rintro e w' ⟨rfl, rfl⟩)
          go_ret
          exact ends_int (by rw [HC.out]) (iter_below _ _ _)
      · have HD := Lib.hid (decode_high s pos hp (by omega))
        have hnx : ∀ ty, (Instr.next (.pointer (some ⟨w.heap.size, 0, none⟩)) true ty).run Tryz.prog (w.iter s pos) = _ := fun ty => run_next_any w s pos ty hp
        have CC := Lib.hid (fun w' => show Calls Tryz.prog 68 #[.int .i32 ((Utf8.decode s pos).1 : Int)] w' (EndsW (.bool false) w') by have := (CK ((Utf8.decode s pos).1 : Int) w').out; rwa [digI_high _ (by have := HD.out.1; omega)] at this)
        have HC := Lib.hid (HUP.out.stop hp (dig_high _ (by omega)))
        go_wp2_with (go_at_call 68; refine (CC.out _).mono ?_; rintro e w' ⟨rfl, rfl⟩)
        go_ret
        exact ends_int (by rw [HC.out]) (iter_below _ _ _)
    · have hnx : ∀ ty, (Instr.next (.pointer (some ⟨w.heap.size, 0, none⟩)) true ty).run Tryz.prog (w.iter s pos) = _ := fun ty => run_next_end w s pos ty hp
      have HC := Lib.hid (HUP.out.all (by omega))
      go_wp2
      go_ret
      exact ends_int (by rw [HC.out]) (iter_below _ _ _)
set_option maxHeartbeats 2000000 in
theorem row_name (s : ByteArray) (w : World) (hs : s.size ≤ maxLen) : Calls Tryz.prog 66 #[.string s, .func (.func 70) #[] #[]] w (EndsB (.int .i64 (rowN nameB s.data.toList : Nat)) w) := by
  unfold maxLen at hs
  have CK := fun c w' => Lib.hid (inName_any c w')
  go_enter Tryz.func66, Tryz.ntmps66
  go_wp2
  go_loopw [5] (fun _ w' => ∃ pos : Nat, w' = w.iter s pos ∧ pos ≤ s.size ∧ Upto nameB s pos) (fun _ w' => s.size - w'.iterPos w.heap.size)
  case atStart => exact ⟨0, rfl, by omega, fun k hk h => absurd h (by omega)⟩
  case round =>
    obtain ⟨pos, rfl, hle, hup⟩ := hrel
    have HUP := Lib.hid hup
    clear hup
    by_cases hp : pos < s.size
    · by_cases ha : (s[pos]'hp).toNat < 128
      · have hnx : ∀ ty, (Instr.next (.pointer (some ⟨w.heap.size, 0, none⟩)) true ty).run Tryz.prog (w.iter s pos) = _ := fun ty => run_next_ascii w s pos ty hp ha
        rcases Bool.eq_false_or_eq_true (nameB (s[pos]'hp)) with hc | hc
        · have HC := Lib.hid hc
          have CC := Lib.hid (fun w' => show Calls Tryz.prog 70 #[.int .i32 ((s[pos]'hp).toNat : Int)] w' (EndsW (.bool true) w') by have := (CK ((s[pos]'hp).toNat : Int) w').out; rwa [nameI_nat, hc] at this)
          clear hc
          go_wp2_with (go_at_call 70; refine (CC.out _).mono ?_; rintro e w' ⟨rfl, rfl⟩)
          go_roundw
          case rel => exact ⟨pos + 1, rfl, by omega, HUP.out.one hp HC.out⟩
          case measure => simp; omega
        · have HC := Lib.hid (HUP.out.stop hp hc)
          have CC := Lib.hid (fun w' => show Calls Tryz.prog 70 #[.int .i32 ((s[pos]'hp).toNat : Int)] w' (EndsW (.bool false) w') by have := (CK ((s[pos]'hp).toNat : Int) w').out; rwa [nameI_nat, hc] at this)
          clear hc
          go_wp2_with (go_at_call 70; refine (CC.out _).mono ?_; rintro e w' ⟨rfl, rfl⟩)
          go_ret
          exact ends_int (by rw [HC.out]) (iter_below _ _ _)
      · have HD := Lib.hid (decode_high s pos hp (by omega))
        have hnx : ∀ ty, (Instr.next (.pointer (some ⟨w.heap.size, 0, none⟩)) true ty).run Tryz.prog (w.iter s pos) = _ := fun ty => run_next_any w s pos ty hp
        have CC := Lib.hid (fun w' => show Calls Tryz.prog 70 #[.int .i32 ((Utf8.decode s pos).1 : Int)] w' (EndsW (.bool false) w') by have := (CK ((Utf8.decode s pos).1 : Int) w').out; rwa [nameI_high _ (by have := HD.out.1; omega)] at this)
        have HC := Lib.hid (HUP.out.stop hp (nameB_high _ (by omega)))
        go_wp2_with (go_at_call 70; refine (CC.out _).mono ?_; rintro e w' ⟨rfl, rfl⟩)
        go_ret
        exact ends_int (by rw [HC.out]) (iter_below _ _ _)
    · have hnx : ∀ ty, (Instr.next (.pointer (some ⟨w.heap.size, 0, none⟩)) true ty).run Tryz.prog (w.iter s pos) = _ := fun ty => run_next_end w s pos ty hp
      have HC := Lib.hid (HUP.out.all (by omega))
      go_wp2
      go_ret
      exact ends_int (by rw [HC.out]) (iter_below _ _ _)
set_option maxHeartbeats 2000000 in
theorem row_nl (s : ByteArray) (w : World) (hs : s.size ≤ maxLen) : Calls Tryz.prog 66 #[.string s, .func (.func 67) #[] #[]] w (EndsB (.int .i64 (rowN notNL s.data.toList : Nat)) w) := by
  unfold maxLen at hs
  have CK := fun c w' => Lib.hid (nl_any c w')
  go_enter Tryz.func66, Tryz.ntmps66
  go_wp2
  go_loopw [5] (fun _ w' => ∃ pos : Nat, w' = w.iter s pos ∧ pos ≤ s.size ∧ Upto notNL s pos) (fun _ w' => s.size - w'.iterPos w.heap.size)
  case atStart => exact ⟨0, rfl, by omega, fun k hk h => absurd h (by omega)⟩
  case round =>
    obtain ⟨pos, rfl, hle, hup⟩ := hrel
    have HUP := Lib.hid hup
    clear hup
    by_cases hp : pos < s.size
    · by_cases ha : (s[pos]'hp).toNat < 128
      · have hnx : ∀ ty, (Instr.next (.pointer (some ⟨w.heap.size, 0, none⟩)) true ty).run Tryz.prog (w.iter s pos) = _ := fun ty => run_next_ascii w s pos ty hp ha
        rcases Bool.eq_false_or_eq_true (notNL (s[pos]'hp)) with hc | hc
        · have HC := Lib.hid hc
          have CC := Lib.hid (fun w' => show Calls Tryz.prog 67 #[.int .i32 ((s[pos]'hp).toNat : Int)] w' (EndsW (.bool true) w') by have := (CK ((s[pos]'hp).toNat : Int) w').out; rwa [nlI_nat, hc] at this)
          clear hc
          go_wp2_with (go_at_call 67; refine (CC.out _).mono ?_; rintro e w' ⟨rfl, rfl⟩)
          go_roundw
          case rel => exact ⟨pos + 1, rfl, by omega, HUP.out.one hp HC.out⟩
          case measure => simp; omega
        · have HC := Lib.hid (HUP.out.stop hp hc)
          have CC := Lib.hid (fun w' => show Calls Tryz.prog 67 #[.int .i32 ((s[pos]'hp).toNat : Int)] w' (EndsW (.bool false) w') by have := (CK ((s[pos]'hp).toNat : Int) w').out; rwa [nlI_nat, hc] at this)
          clear hc
          go_wp2_with (go_at_call 67; refine (CC.out _).mono ?_; rintro e w' ⟨rfl, rfl⟩)
          go_ret
          exact ends_int (by rw [HC.out]) (iter_below _ _ _)
      · have HD := Lib.hid (decode_high s pos hp (by omega))
        have hnx : ∀ ty, (Instr.next (.pointer (some ⟨w.heap.size, 0, none⟩)) true ty).run Tryz.prog (w.iter s pos) = _ := fun ty => run_next_any w s pos ty hp
        have CC := Lib.hid (fun w' => show Calls Tryz.prog 67 #[.int .i32 ((Utf8.decode s pos).1 : Int)] w' (EndsW (.bool true) w') by have := (CK ((Utf8.decode s pos).1 : Int) w').out; rwa [nlI_high _ (by have := HD.out.1; omega)] at this)
        have HX := Lib.hid (decode_bytes s pos hp (by omega)).1
        have HU := Lib.hid (HUP.out.many hp (by omega) notNL_high)
        go_wp2_with (go_at_call 67; refine (CC.out _).mono ?_; rintro e w' ⟨rfl, rfl⟩)
        go_roundw
        case rel => exact ⟨pos + (Utf8.decode s pos).2, rfl, HX.out, HU.out⟩
        case measure => have := HD.out.2; simp; omega
    · have hnx : ∀ ty, (Instr.next (.pointer (some ⟨w.heap.size, 0, none⟩)) true ty).run Tryz.prog (w.iter s pos) = _ := fun ty => run_next_end w s pos ty hp
      have HC := Lib.hid (HUP.out.all (by omega))
      go_wp2
      go_ret
      exact ends_int (by rw [HC.out]) (iter_below _ _ _)
end Go.Proofs.YtmihlmlojmdhjaaGreatDoor.Lex
/- A region that draws its order, whose last operation waits for all others: what yields in every world that meets S may be taken first; S is shown anew behind all operations but the last one. -/
namespace Go.Proofs.YtmihlmlojmdhjaaGreatDoor.Lex
set_option maxRecDepth 100000
section
variable {P : Program} {ops : Array Oper} {Q : Exit → Act → World → Prop} {md : Region.Mode} {S : World → Prop} {n : Nat}
def anyS (P : Program) (md : Region.Mode) (ops : Array Oper) (Q : Exit → Act → World → Prop) (S : World → Prop) (n : Nat) : Nat → Array Bool → Act → World → Prop
  | 0, listed, a, w => Region.ready md ops listed = [] ∧ Q .normal a w
  | fuel + 1, listed, a, w =>
    (Region.ready md ops listed = [] → Q .normal a w) ∧
    ∀ i ∈ Region.ready md ops listed, wpOp P ops Q i (fun a' w' => (i < n → S w') ∧ anyS P md ops Q S n fuel (listed.setIfInBounds i true) a' w') a w
theorem any_of_S : ∀ (fuel : Nat) (listed : Array Bool) (a : Act) (w : World), anyS P md ops Q S n fuel listed a w → wpAny P md ops Q fuel listed a w
  | 0, _, _, _, h => h
  | fuel + 1, _, _, _, h => ⟨h.1, fun i hi => wpOp_mono (fun a' w' h' => any_of_S fuel _ a' w' h'.2) (h.2 i hi)⟩
theorem anyS_first {i : Nat} {oi : Oper} {v : Value} (hi : ops[i]? = some oi) (hsel : ∀ (j : Nat) (o : Oper) cs b, ops[j]? = some o → o.op ≠ .select cs b)
    (hQ : ∀ c a w, Q (.panic c) (a.put oi.dst v) w → Q (.panic c) a w) (hs : Region.sinkB md ops n = true) (hc : Region.chainB md ops n = true) (hn : n < ops.size) (hin : i < n) :
    ∀ (fuel : Nat) (listed : Array Bool) (a : Act) (w : World), HeadInv md ops n listed →
      (∀ j oj, ops[j]? = some oj → j ≠ i → listed.getD j true = false → (∀ e ∈ oj.after, Region.binds md e = true → e.on ≠ i) → oi.apart ops oj = true) →
      i ∈ Region.ready md ops listed → YieldsIf P ops S oi v a → S w →
      anyS P md ops Q S n fuel (listed.setIfInBounds i true) (a.put oi.dst v) w → anyS P md ops Q S n (fuel + 1) listed a w := by
  intro fuel
  induction fuel with
  | zero =>
    intro listed a w _ _ hr hy hS H
    refine ⟨fun h => (by rw [h] at hr; cases hr), fun j hj => ?_⟩
    by_cases hji : j = i
    · subst hji; exact hy.wpOp hi hS ⟨fun _ => hS, H⟩
    · have := ready_mono hj hji
      rw [H.1] at this
      cases this
  | succ fuel ih =>
    intro listed a w inv hfree hr hy hS H
    have hun := (mem_ready.1 hr).1
    refine ⟨fun h => (by rw [h] at hr; cases hr), fun j hj => ?_⟩
    by_cases hji : j = i
    · subst hji; exact hy.wpOp hi hS ⟨fun _ => hS, H⟩
    · have hjn : j < n := by
        rcases Nat.lt_or_ge j n with h | h
        · exact h
        · exact absurd hj (tail_waits hs hc hn inv _ i rfl hin hun j h)
      have h1 := H.2 j (ready_mono hj hji)
      obtain ⟨hjun, oj, hoj, hall⟩ := mem_ready.1 hj
      have hnot : ∀ e ∈ oj.after, Region.binds md e = true → e.on ≠ i := fun e he hb heq => by
        have h1 := hall e he hb
        rw [heq, getD_both hun] at h1
        cases h1
      have h2 := wpOp_putIf hoj (hfree j oj hoj hji hjun hnot) (fun cs b => hsel i oi cs b hi) (fun cs b => hsel j oj cs b hoj) hQ hy h1
      have hfree' : ∀ k ok, ops[k]? = some ok → k ≠ i → (listed.setIfInBounds j true).getD k true = false →
          (∀ e ∈ ok.after, Region.binds md e = true → e.on ≠ i) → oi.apart ops ok = true := fun k ok hk hki hun2 hno => by
        refine hfree k ok hk hki ?_ hno
        by_cases hjk : j = k
        · subst hjk; exact hjun
        · rw [getD_set_ne true hjk] at hun2; exact hun2
      refine wpOp_mono (fun a' w' h3 => ⟨fun _ => h3.2.1 hjn, ih (listed.setIfInBounds j true) a' w' (inv.set hj hjn) hfree' (ready_mono hr (Ne.symm hji)) h3.1 (h3.2.1 hjn) ?_⟩) h2
      rw [Array.setIfInBounds_comm _ _ hji]
      exact h3.2.2
/-- The walk's goal. -/
def AtS (P : Program) (md : Region.Mode) (ops : Array Oper) (Q : Exit → Act → World → Prop) (S : World → Prop) (n fuel : Nat) (listed : Array Bool) (a : Act) (w : World) : Prop :=
  Region.sinkB md ops n = true → Region.chainB md ops n = true → HeadInv md ops n listed → anyS P md ops Q S n fuel listed a w
theorem AtS.start {id : Nat} {a : Act} {w : World} (hm : P.follows .mixedOrders = true) (n : Nat) (S : World → Prop) (hs : Region.sinkB .any ops n = true) (hc : Region.chainB .any ops n = true)
    (h : AtS P .any ops Q S n ops.size (Array.replicate ops.size false) a w.drew) : (Code.region id ops true).wp P Q a w :=
  wp_region_any hm (any_of_S _ _ _ _ (h hs hc ⟨by simp, fun j oj _ hl => (by rw [getD_replicate_false] at hl; cases hl), fun t _ ht => getD_in (by simpa using ht) (getD_replicate_false _ _)⟩))
theorem AtS.take {a : Act} {w : World} {i fuel : Nat} {oi : Oper} {v : Value} {listed : Array Bool} (hi : ops[i]? = some oi) (hsel : Region.noSelect ops = true) (hf : Region.free md ops listed i = true) (hr : (Region.ready md ops listed).contains i = true)
    (hin : i < n) (hn : n < ops.size) (hQ : ∀ c a w, Q (.panic c) (a.put oi.dst v) w → Q (.panic c) a w) (hw : Region.wanted oi (yielded ops a.tmps) = true) (hy : ∀ w, S w → (execOp a.eval oi).run P w = .ok (.value v) w) (hS : S w)
    (h : AtS P md ops Q S n fuel (listed.setIfInBounds i true) (a.put oi.dst v) w) : AtS P md ops Q S n (fuel + 1) listed a w := fun hs hc inv => by
  have hr' : i ∈ Region.ready md ops listed := by simpa using hr
  exact anyS_first hi (Region.noSelect_spec hsel) hQ hs hc hn hin fuel listed a w inv (Region.free_spec hi hf) hr' (.inl ⟨hw, hy⟩) hS (h hs hc (inv.set hr' hin))
theorem AtS.call {a : Act} {w : World} {i fuel f : Nat} {args : Array Value} {oi : Oper} {listed : Array Bool} (hi : ops[i]? = some oi) (hr : Region.ready md ops listed = [i]) (hin : i < n) (hw : Region.wanted oi (yielded ops a.tmps) = true)
    (hrun : (execOp a.eval oi).run P w = .ok (.enter f args) w) (hc : Calls P f args w fun e w' => ∃ v, e = .returned v ∧ S w' ∧ AtS P md ops Q S n fuel (listed.setIfInBounds i true) (a.put oi.dst v) w') :
    AtS P md ops Q S n (fuel + 1) listed a w := fun hs hcb inv => by
  refine ⟨fun h0 => (by rw [h0] at hr; cases hr), fun j hj => ?_⟩
  rw [hr] at hj
  obtain rfl : j = i := by simpa using hj
  unfold wpOp
  simp only [hi, hw, if_true]
  refine .inl ?_
  unfold Oper.wp
  rw [hrun]
  simp only [Oper.upon]
  refine Calls.mono hc ?_
  rintro e w' ⟨v, rfl, hS, h⟩
  exact ⟨fun _ => hS, h hs hcb (inv.set (by rw [hr]; simp) hin)⟩
theorem AtS.last {a : Act} {w w' : World} {i fuel : Nat} {oi : Oper} {listed : Array Bool} (hi : ops[i]? = some oi) (hr : Region.ready md ops listed = [i]) (hr2 : Region.ready md ops (listed.setIfInBounds i true) = []) (hni : n ≤ i) (hw : Region.wanted oi (yielded ops a.tmps) = true)
    (hrun : (execOp a.eval oi).run P w = .ok .skip w') (h : Q .normal (a.put oi.dst undef) w') : AtS P md ops Q S n (fuel + 1) listed a w := fun _ _ _ => by
  refine ⟨fun h0 => (by rw [h0] at hr; cases hr), fun j hj => ?_⟩
  rw [hr] at hj
  obtain rfl : j = i := by simpa using hj
  unfold wpOp
  simp only [hi, hw, if_true]
  refine .inl ?_
  unfold Oper.wp
  rw [hrun]
  simp only [Oper.upon]
  refine ⟨fun h => by omega, ?_⟩
  cases fuel with
  | zero => exact ⟨hr2, h⟩
  | succ fuel => exact ⟨fun _ => h, by rw [hr2]; simp⟩
/-- The first operations, in the text's order: each yields its value in every world that meets S. -/
def heldL (P : Program) (S : World → Prop) (K : Act → Prop) : List Oper → Act → Prop
  | [], a => K a
  | o :: rest, a => o.guard = none ∧ ∃ v, (∀ w, S w → (execOp a.eval o).run P w = .ok (.value v) w) ∧ heldL P S K rest (a.put o.dst v)
theorem heldL.step {K : Act → Prop} {o : Oper} {rest : List Oper} {a : Act} (v : Value) (hg : o.guard = none) (hv : ∀ w, S w → (execOp a.eval o).run P w = .ok (.value v) w) (h : heldL P S K rest (a.put o.dst v)) : heldL P S K (o :: rest) a := ⟨hg, v, hv, h⟩
def marks : Nat → Nat → Array Bool → Array Bool
  | 0, _, L => L
  | f + 1, k, L => marks f (k + 1) (L.setIfInBounds k true)
def lexH (md : Region.Mode) (ops : Array Oper) : Nat → Nat → Array Bool → Bool
  | 0, _, _ => true
  | f + 1, k, L => (Region.ready md ops L).contains k && Region.free md ops L k && lexH md ops f (k + 1) (L.setIfInBounds k true)
end
section
variable {P : Program} {ops : Array Oper} {Q : Exit → Act → World → Prop} {md : Region.Mode} {S : World → Prop} {nn n fuel : Nat} {listed : Array Bool} {a : Act} {w : World} {oi : Oper}
/-- An operation that makes memory, once nothing else may come up. -/
theorem AtS.run {a : Act} {w w' : World} {i fuel : Nat} {v : Value} {oi : Oper} {listed : Array Bool} (hi : ops[i]? = some oi) (hr : Region.ready md ops listed = [i]) (hin : i < n) (hw : Region.wanted oi (yielded ops a.tmps) = true)
    (hrun : (execOp a.eval oi).run P w = .ok (.value v) w') (hS : S w') (h : AtS P md ops Q S n fuel (listed.setIfInBounds i true) (a.put oi.dst v) w') :
    AtS P md ops Q S n (fuel + 1) listed a w := fun hs hcb inv => by
  refine ⟨fun h0 => (by rw [h0] at hr; cases hr), fun j hj => ?_⟩
  rw [hr] at hj
  obtain rfl : j = i := by simpa using hj
  unfold wpOp
  simp only [hi, hw, if_true]
  refine .inl ?_
  unfold Oper.wp
  rw [hrun]
  simp only [Oper.upon]
  exact ⟨fun _ => hS, h hs hcb (inv.set (by rw [hr]; simp) hin)⟩
theorem at_take (i d : Nat) (v : Value) (hi : ops[i]? = some oi) (hd : oi.dst = some d) (hB : (Region.noSelect ops && Region.free md ops listed i && (Region.ready md ops listed).contains i) = true) (hin : i < nn) (hn : nn < ops.size)
    (hQ : ∀ c a w, Q (.panic c) (a.put oi.dst v) w → Q (.panic c) a w) (hw : Region.wanted oi (yielded ops a.tmps) = true) (hS : S w) (hy : ∀ w, S w → (execOp a.eval oi).run P w = .ok (.value v) w)
    (h : AtS P md ops Q S nn fuel (listed.setIfInBounds i true) (a.put (some d) v) w) : AtS P md ops Q S nn (fuel + 1) listed a w := by
  simp only [Bool.and_eq_true] at hB
  exact AtS.take hi hB.1.1 hB.1.2 hB.2 hin hn hQ hw hy hS (by rw [hd]; exact h)
theorem at_run (i d : Nat) (v : Value) (w' : World) (hi : ops[i]? = some oi) (hd : oi.dst = some d) (hr : Region.ready md ops listed = [i]) (hin : i < nn) (hw : Region.wanted oi (yielded ops a.tmps) = true)
    (hrun : (execOp a.eval oi).run P w = .ok (.value v) w') (hS : S w') (h : AtS P md ops Q S nn fuel (listed.setIfInBounds i true) (a.put (some d) v) w') : AtS P md ops Q S nn (fuel + 1) listed a w :=
  AtS.run hi hr hin hw hrun hS (by rw [hd]; exact h)
end
end Go.Proofs.YtmihlmlojmdhjaaGreatDoor.Lex
/- Memory, in the words of this layer: what a call may turn; a row of words of the call's own; the reader. Appending a word. No condition beyond the sizes that each law names. -/
namespace Go.Proofs.YtmihlmlojmdhjaaGreatDoor.Lex
open Go.RowKit
open Num (EndsW)
set_option maxRecDepth 100000
/-- Only these blocks turned; what is new is new. -/
structure Turn (S : List Nat) (w w' : World) : Prop where
  os : w'.os = w.os
  tape : w'.tape = w.tape
  output : w'.output = w.output
  size : w.heap.size ≤ w'.heap.size
  block : ∀ k, k < w.heap.size → k ∉ S → w'.heap[k]? = w.heap[k]?
theorem Turn.refl (S : List Nat) (w : World) : Turn S w w := ⟨rfl, rfl, rfl, Nat.le_refl _, fun _ _ _ => rfl⟩
section
variable {S S' : List Nat} {w w1 w2 : World}
theorem Turn.then_ (h : Turn S w w1) (h2 : Turn S' w1 w2) (hS : ∀ k ∈ S', k ∈ S ∨ w.heap.size ≤ k) : Turn S w w2 :=
  ⟨h2.os.trans h.os, h2.tape.trans h.tape, h2.output.trans h.output, Nat.le_trans h.size h2.size, fun k hk hn =>
    (h2.block k (Nat.lt_of_lt_of_le hk h.size) (fun hm => by rcases hS k hm with h | h; exact hn h; omega)).trans (h.block k hk hn)⟩
theorem Turn.trans (h : Turn S w w1) (h2 : Turn S w1 w2) : Turn S w w2 := h.then_ h2 fun _ hk => .inl hk
theorem Turn.more (h : Turn S w w1) (hS : ∀ k ∈ S, k ∈ S') : Turn S' w w1 := ⟨h.os, h.tape, h.output, h.size, fun k hk hn => h.block k hk fun hm => hn (hS k hm)⟩
theorem Turn.grown (h : Turn S w w1) {row : Option Nat} (hg : w1.grownBy w2 row) (hr : ∀ k, row = some k → k ∈ S ∨ w.heap.size ≤ k) : Turn S w w2 :=
  ⟨hg.os.trans h.os, hg.tape.trans h.tape, hg.output.trans h.output, Nat.le_trans h.size hg.size, fun k hk hn =>
    (hg.block k (Nat.lt_of_lt_of_le hk h.size) (fun he => by rcases hr k he.symm with h | h; exact hn h; omega)).trans (h.block k hk hn)⟩
theorem Turn.below (h : Turn S w w1) (hb : Below w1.heap.size w1 w2) : Turn S w w2 :=
  ⟨hb.os.trans h.os, hb.tape.trans h.tape, hb.output.trans h.output, Nat.le_trans h.size hb.size, fun k hk hn => (hb.block k (Nat.lt_of_lt_of_le hk h.size)).trans (h.block k hk hn)⟩
theorem Turn.alloc (h : Turn S w w1) (o : Obj) : Turn S w (w1.alloc o) := h.grown (World.grownBy_alloc w1 o none) (by simp)
theorem Turn.drew (h : Turn S w w1) : Turn S w w1.drew := ⟨h.os, h.tape, h.output, h.size, h.block⟩
theorem Turn.drewN (h : Turn S w w1) (m : Nat) : Turn S w (w1.drewN m) := ⟨h.os, h.tape, h.output, h.size, h.block⟩
theorem Turn.setCell (h : Turn S w w1) {p : Addr} (hp : p.block ∈ S ∨ w.heap.size ≤ p.block) (u : Value) : Turn S w (w1.setCell p u) :=
  ⟨h.os, h.tape, h.output, by simp [World.setCell]; exact h.size, fun k hk hn => (Below.heap_setCell w1 p u k (by rintro rfl; rcases hp with h | h; exact hn h; omega)).trans (h.block k hk hn)⟩
theorem heap_setCells {b k : Nat} (hk : k ≠ b) : ∀ (vs : List Value) (o : Nat) (w : World), (w.setCells b o vs).heap[k]? = w.heap[k]?
  | [], _, _ => rfl
  | v :: r, o, w => (heap_setCells hk r (o + 1) (w.setCell ⟨b, o, none⟩ v)).trans (Below.heap_setCell w _ v k hk)
theorem size_setCells {b : Nat} : ∀ (vs : List Value) (o : Nat) (w : World), (w.setCells b o vs).heap.size = w.heap.size
  | [], _, _ => rfl
  | v :: r, o, w => (size_setCells r (o + 1) (w.setCell ⟨b, o, none⟩ v)).trans (by simp [World.setCell])
theorem os_setCells {b : Nat} : ∀ (vs : List Value) (o : Nat) (w : World), (w.setCells b o vs).os = w.os ∧ (w.setCells b o vs).tape = w.tape ∧ (w.setCells b o vs).output = w.output
  | [], _, _ => ⟨rfl, rfl, rfl⟩
  | v :: r, o, w => os_setCells r (o + 1) (w.setCell ⟨b, o, none⟩ v)
theorem Turn.setCells (h : Turn S w w1) {b : Nat} (hb : b ∈ S ∨ w.heap.size ≤ b) (o : Nat) (vs : List Value) : Turn S w (w1.setCells b o vs) := by
  obtain ⟨e1, e2, e3⟩ := os_setCells (b := b) vs o w1
  exact ⟨e1.trans h.os, e2.trans h.tape, e3.trans h.output, by rw [size_setCells]; exact h.size,
    fun k hk hn => (heap_setCells (by rintro rfl; rcases hb with h | h; exact hn h; omega) vs o w1).trans (h.block k hk hn)⟩
theorem Turn.low (h : Turn S w w1) {base : Nat} (hS : ∀ k ∈ S, base ≤ k) (hb : base ≤ w.heap.size) : Below base w w1 :=
  ⟨h.os, h.tape, h.output, h.size, fun k hk => h.block k (by omega) (fun hm => by have := hS k hm; omega)⟩
theorem Turn.ofBelow (h : Below w.heap.size w w1) : Turn S w w1 := (Turn.refl S w).below h
end

theorem plain_add (b off j : Nat) : (⟨b, off, none⟩ : Addr).add j = ⟨b, off + j, none⟩ := by unfold Addr.add; split <;> simp_all
theorem lt_of_heap {w : World} {g : Nat} {o : Obj} (h : w.heap[g]? = some o) : g < w.heap.size := (Array.getElem?_eq_some_iff.1 h).1

theorem grown_set (w : World) (g i : Nat) (u : Value) : w.grownBy (w.setCell ⟨g, i, none⟩ u) (some g) :=
  ⟨rfl, rfl, rfl, by simp [World.setCell], fun k _ hne => Below.heap_setCell w _ u k (by rintro rfl; exact hne rfl)⟩
theorem cell_at {w : World} {g : Nat} {cs : Array Value} {T : TypeId} (h : w.heap[g]? = some (.cells cs T (0, 0))) (i : Nat) : w.cell? ⟨g, i, none⟩ = cs[i]? := by simp [World.cell?, h]
theorem free_at {w : World} {g : Nat} {cs : Array Value} {T : TypeId} (h : w.heap[g]? = some (.cells cs T (0, 0))) (i : Nat) : w.frozen? ⟨g, i, none⟩ = false := by simp [World.frozen?, h]
theorem set_at {w : World} {g : Nat} {cs : Array Value} {T : TypeId} (h : w.heap[g]? = some (.cells cs T (0, 0))) (i : Nat) (u : Value) :
    (w.setCell ⟨g, i, none⟩ u).heap[g]? = some (.cells (cs.setIfInBounds i u) T (0, 0)) := by simp [World.setCell, Array.getElem?_modify, h]

def bs (l : List UInt8) : ByteArray := ⟨l.toArray⟩
def str (l : List UInt8) : Value := .string (bs l)
theorem bs_data (l : List UInt8) : (bs l).data.toList = l := rfl
theorem bs_of (s : ByteArray) : bs s.data.toList = s := by cases s; rfl
theorem bs_size (l : List UInt8) : (bs l).size = l.length := rfl
/-- A word as cells; as a value. -/
def wdC (x : Wd) : List Value := [.int .i64 x.k, .string (bs x.s), .int .i64 x.n]
def wdV (x : Wd) : Value := .agg #[.int .i64 x.k, .string (bs x.s), .int .i64 x.n]
def rowC (l : List Wd) : List Value := l.flatMap wdC
theorem rowC_app (l m : List Wd) : rowC (l ++ m) = rowC l ++ rowC m := by simp [rowC]
theorem rowC_one (x : Wd) : rowC [x] = wdC x := by simp [rowC]
theorem rowC_cons (x : Wd) (l : List Wd) : rowC (x :: l) = wdC x ++ rowC l := by simp [rowC]
theorem rowC_length (l : List Wd) : (rowC l).length = l.length * 3 := by
  induction l with
  | nil => rfl
  | cons x l ih => rw [rowC_cons, List.length_append, ih]; simp [wdC]; omega
theorem rowC_get : ∀ (l : List Wd) (p r : Nat), r < 3 → (rowC l)[p * 3 + r]? = (l[p]?).bind fun x => (wdC x)[r]?
  | [], p, r, _ => by simp [rowC]
  | x :: l, 0, r, hr => by
    rw [rowC_cons, List.getElem?_append_left (by simp [wdC]; omega)]
    simp
  | x :: l, p + 1, r, hr => by
    have hl : (wdC x).length = 3 := rfl
    rw [rowC_cons, List.getElem?_append_right (by omega), hl, show (p + 1) * 3 + r - 3 = p * 3 + r by omega, rowC_get l p r hr]
    simp
/-- A row of words of the call's own, from block lo on. -/
def OwnW (w : World) (lo : Nat) (v : Value) (l : List Wd) : Prop := w.ownsRow lo 82 3 v l.length (rowC l)
theorem OwnW.nil (w : World) (lo : Nat) : OwnW w lo (.slice none 0 0) [] := World.ownsRow_nil _ _ _ _
/-- What a slice of words reads as. -/
def Wds (w : World) (A : Option Addr) (l : List Wd) : Prop := 0 < l.length → ∃ b o, A = some ⟨b, o, none⟩ ∧ b < w.heap.size ∧ ∀ j x, l[j]? = some x →
  w.cell? ⟨b, o + j * 3, none⟩ = some (.int .i64 x.k) ∧ w.cell? ⟨b, o + (j * 3 + 1), none⟩ = some (.string (bs x.s)) ∧ w.cell? ⟨b, o + (j * 3 + 2), none⟩ = some (.int .i64 x.n)
theorem OwnW.form {w : World} {lo : Nat} {v : Value} {l : List Wd} (h : OwnW w lo v l) : ∃ A c, v = .slice A l.length c := by
  rcases h.2 with ⟨e1, e2⟩ | ⟨g, cap, cur, e, _⟩
  · exact ⟨none, 0, by rw [e1, e2]⟩
  · exact ⟨_, cap, e⟩
theorem OwnW.wds {w : World} {lo : Nat} {A : Option Addr} {n c : Nat} {l : List Wd} (h : OwnW w lo (.slice A n c) l) : Wds w A l := fun h0 => by
  obtain ⟨g, cap, hv, _, hlt⟩ := World.ownsRow.form h h0
  injection hv with e1 e2 e3
  subst e1
  have hc := World.ownsRow.cells h (g := g) rfl
  refine ⟨g, 0, rfl, hlt, fun j x hx => ?_⟩
  have get : ∀ r, r < 3 → (rowC l)[j * 3 + r]? = (wdC x)[r]? := fun r hr => by rw [rowC_get l j r hr, hx]; rfl
  have e : ∀ r u, r < 3 → (wdC x)[r]? = some u → w.cell? ⟨g, 0 + (j * 3 + r), none⟩ = some u := fun r u hr hu => by
    have := hc (j * 3 + r) u ((get r hr).trans hu)
    rwa [plain_add] at this
  exact ⟨e 0 _ (by omega) rfl, e 1 _ (by omega) rfl, e 2 _ (by omega) rfl⟩
theorem Wds.keep {w w' : World} {A : Option Addr} {l : List Wd} (h : Wds w A l) (hs : w.heap.size ≤ w'.heap.size) (hk : ∀ b o, A = some ⟨b, o, none⟩ → w'.heap[b]? = w.heap[b]?) : Wds w' A l := fun h0 => by
  obtain ⟨b, o, e, hb, hc⟩ := h h0
  have hh := hk b o e
  exact ⟨b, o, e, by omega, fun j x hx => ⟨(World.cell?_of_block (w := w) hh).trans (hc j x hx).1, (World.cell?_of_block (w := w) hh).trans (hc j x hx).2.1, (World.cell?_of_block (w := w) hh).trans (hc j x hx).2.2⟩⟩
theorem Wds.below {w w' : World} {A : Option Addr} {l : List Wd} (h : Wds w A l) (hb : Below w.heap.size w w') : Wds w' A l := fun h0 => by
  obtain ⟨b, o, e, hlt, hc⟩ := h h0
  have hh := hb.block b hlt
  exact ⟨b, o, e, Nat.lt_of_lt_of_le hlt hb.size, fun j x hx => ⟨(World.cell?_of_block (w := w) hh).trans (hc j x hx).1, (World.cell?_of_block (w := w) hh).trans (hc j x hx).2.1, (World.cell?_of_block (w := w) hh).trans (hc j x hx).2.2⟩⟩
theorem OwnW.keep {w w' : World} {lo : Nat} {v : Value} {l : List Wd} (h : OwnW w lo v l) (hb : ∀ g, v.ownBlock = some g → w'.heap[g]? = w.heap[g]?) : OwnW w' lo v l := by
  refine ⟨h.1, ?_⟩
  rcases h.2 with h2 | ⟨g, cap, cur, e, hlo, hh, r⟩
  · exact .inl h2
  · exact .inr ⟨g, cap, cur, e, hlo, (hb g (by rw [e]; rfl)).trans hh, r⟩
theorem OwnW.lt {w : World} {lo : Nat} {v : Value} {l : List Wd} (h : OwnW w lo v l) : ∀ k, v.ownBlock = some k → lo ≤ k ∧ k < w.heap.size := World.ownsRow.lt h
theorem infoW : (Tryz.prog.info? 82).map (fun i => (i.zero, i.size, i.bytes)) = some (some (.agg #[.int .i64 0, .string ⟨#[]⟩, .int .i64 0]), 3, 32) := by kernel_rfl
theorem info_of {o : Option TypeInfo} {z : Option Value} {n b : Nat} (h : o.map (fun i => (i.zero, i.size, i.bytes)) = some (z, n, b)) : ∃ i, o = some i ∧ i.zero = z ∧ i.size = n ∧ i.bytes = b := by
  obtain ⟨i, hi, he⟩ := Option.map_eq_some_iff.1 h
  simp only [Prod.mk.injEq] at he
  exact ⟨i, hi, he.1, he.2.1, he.2.2⟩
/-- One word more behind a row. -/
theorem app_word (w : World) (lo : Nat) (v : Value) (l : List Wd) (x : Wd) (eb : Nat) (h : OwnW w lo v l) (he : w.heap[eb]? = some (.cells #[.int .i64 x.k, .string (bs x.s), .int .i64 x.n] 82 (0, 0))) (hl : l.length ≤ 1000000) (hlo : lo ≤ w.heap.size) :
    ∃ v2 w2, (∀ ty, (Builtin.append_ #[49, 49] ty #[v, .slice (some ⟨eb, 0, none⟩) 1 1]).run Tryz.prog w = .ok v2 w2) ∧ OwnW w2 lo v2 (l ++ [x]) ∧ w.grownBy w2 v.ownBlock ∧ (v2.ownBlock = v.ownBlock ∨ v2.ownBlock = some w.heap.size) := by
  obtain ⟨i0, hi0, hz0, hz1, hz2⟩ := info_of infoW
  obtain ⟨v2, w2, hrun, r1, r2, _, r4⟩ := run_append_own_at (P := Tryz.prog) w lo 49 0 82 i0 _ 3 32 Tryz.underlying49 hi0 hz0 hz1 hz2 rfl (by decide) v l.length (rowC l) h ⟨eb, 0, none⟩ 1 1 (wdC x) rfl (fun j u hu => by
    rw [plain_add, Nat.zero_add, cell_at he]
    have hj : j < 3 := (List.getElem?_eq_some_iff.1 hu).1
    rcases (show j = 0 ∨ j = 1 ∨ j = 2 by omega) with rfl | rfl | rfl <;> simpa [wdC] using hu) (fun u hu => by
    simp only [wdC, List.mem_cons, List.not_mem_nil, or_false] at hu
    rcases hu with rfl | rfl | rfl <;> rfl) (by unfold maxLen; omega) (by omega) hlo
  exact ⟨v2, w2, fun _ => hrun, by unfold OwnW; rw [rowC_app, rowC_one, List.length_append]; exact r1, r2, r4⟩
/-- The reader in block g: what is left, the words. -/
structure Rd (w : World) (lo g : Nat) (l : List UInt8) (ws : List Wd) (v : Value) : Prop where
  at_ : w.heap[g]? = some (.cells #[.string (bs l), v] 79 (0, 0))
  low : lo ≤ g
  own : OwnW w lo v ws
  ne : v.ownBlock ≠ some g
def mine (g : Nat) (v : Value) : List Nat := g :: v.ownBlock.toList
theorem Rd.keep {w w' : World} {lo g : Nat} {l : List UInt8} {ws : List Wd} {v : Value} (h : Rd w lo g l ws v) (hk : ∀ k, k ∈ mine g v → w'.heap[k]? = w.heap[k]?) : Rd w' lo g l ws v :=
  ⟨(hk g (by simp [mine])).trans h.at_, h.low, h.own.keep fun k hk' => hk k (by simp [mine, hk']), h.ne⟩
theorem Rd.lt {w : World} {lo g : Nat} {l : List UInt8} {ws : List Wd} {v : Value} (h : Rd w lo g l ws v) : ∀ k ∈ mine g v, lo ≤ k ∧ k < w.heap.size := fun k hk => by
  rcases List.mem_cons.1 hk with rfl | hk
  · exact ⟨h.low, lt_of_heap h.at_⟩
  · exact h.own.lt k (by simpa using hk)
theorem Rd.below {w w' : World} {lo g : Nat} {l : List UInt8} {ws : List Wd} {v : Value} (h : Rd w lo g l ws v) (hb : Below w.heap.size w w') : Rd w' lo g l ws v :=
  h.keep fun k hk => hb.block k (h.lt k hk).2
/-- What a call on the reader leaves: the answer, the reader, and nothing else turned. -/
def Step (w : World) (lo g : Nat) (v : Value) (r : Value) (l : List UInt8) (ws : List Wd) (e : Ending) (w' : World) : Prop :=
  e = .returned r ∧ ∃ v', Rd w' lo g l ws v' ∧ Turn (mine g v) w w' ∧ ∀ k ∈ mine g v', k ∈ mine g v ∨ w.heap.size ≤ k
theorem Step.then_ {w w1 w2 : World} {lo g : Nat} {v v1 r : Value} {l : List UInt8} {ws : List Wd} {e : Ending} (ht : Turn (mine g v) w w1) (hm : ∀ k ∈ mine g v1, k ∈ mine g v ∨ w.heap.size ≤ k) (h : Step w1 lo g v1 r l ws e w2) : Step w lo g v r l ws e w2 := by
  obtain ⟨he, v2, hr, ht2, hm2⟩ := h
  exact ⟨he, v2, hr, ht.then_ ht2 hm, fun k hk => by
    rcases hm2 k hk with h | h
    · exact hm k h
    · exact .inr (Nat.le_trans ht.size h)⟩
end Go.Proofs.YtmihlmlojmdhjaaGreatDoor.Lex
