/-
  What the program's Writer does with several numbers at once; what it leaves aside: blocks that are neither the Writer's nor bytes. Conditions: the Writer's block is known; the sizes are named.
-/
import Derived.Test.YtpbojepliddflaaCText
namespace Go.Proofs.Ytpbojepliddflaa.Cod
open Go.RowKit Codec
set_option maxRecDepth 100000
/-- Blocks of other cells than bytes, but for g, are as they were. -/
def Aside (g : Nat) (w w' : World) : Prop := ∀ (k : Nat) (cs : Array Value) (T : TypeId), T ≠ 5 → k ≠ g → w.heap[k]? = some (.cells cs T (0, 0)) → w'.heap[k]? = some (.cells cs T (0, 0))
theorem Aside.refl (g : Nat) (w : World) : Aside g w w := fun _ _ _ _ _ h => h
theorem Aside.trans {g : Nat} {a b c : World} (h : Aside g a b) (k : Aside g b c) : Aside g a c := fun i cs T hT hi e => k i cs T hT hi (h i cs T hT hi e)
theorem Aside.alloc {g : Nat} {a b : World} (h : Aside g a b) (o : Obj) : Aside g a (b.alloc o) := fun i cs T hT hi e => by
  have h1 := h i cs T hT hi e
  exact (Below.heap_alloc b o i (lt_of_heap h1)).trans h1
def LaidA (w : World) (base g : Nat) (xs : List UInt8) (e : Ending) (w' : World) : Prop := e = .returned (.tuple #[]) ∧ Wr w' base g xs ∧ Below base w w' ∧ Aside g w w'
theorem aside_stored {w w1 : World} {base g n : Nat} {v u : Value} {xs : List UInt8} (hown : Owns w base v n xs) (hw : w.grownBy w1 v.ownBlock) : Aside g w (w1.setCell ⟨g, 0, none⟩ u) := fun k _ _ hT hk e =>
  (Below.heap_setCell w1 ⟨g, 0, none⟩ u k hk).trans ((hw.block k (lt_of_heap e) (fun he => hown.far e hT he.symm)).trans e)
set_option maxHeartbeats 400000 in
theorem lay_aside (w : World) (base g B m c : Nat) (A : Option Addr) (xs ys : List UInt8) (hw : Wr w base g xs) (hr : Byts w B A m ys) (hn : xs.length + m ≤ 1000000000) (hB : base ≤ w.heap.size) :
    Calls Try.prog 45 #[.pointer (some ⟨g, 0, none⟩), .slice A m c] w (LaidA w base g (xs ++ ys)) := by
  obtain ⟨A0, n, c0, hg, hown, hb⟩ := hw
  have hc := cell_at hg 0
  have HG := Lib.hid hg
  have HO := Lib.hid hown
  have HR := Lib.hid hr
  have hn2 : n + m ≤ 1000000000 := by have := hown.len; omega
  clear hg hown hr hn
  go_enter Try.func45, Try.ntmps45
  go_wp2_with (at_builtin; (refine wpList_app _ rfl (.tmp 10) (.tmp 11) rfl base _ n xs rfl HO.out B A m c ys rfl HR.out hn2 hB ?_); intro A1 c1 w1 hown1 hg1; have hst := Wr.stored HG.out HO.out hb hB hown1 hg1; have HS := Lib.hid hst; have HA : Hid (Aside g w (w1.setCell ⟨g, 0, none⟩ (.slice A1 (n + m) c1))) := aside_stored HO.out hg1; have hc1 := cell_at hst.1 0; have hf1 := free_at hst.1 0; clear hst hown1 hg1)
  go_end0
  exact ⟨rfl, HS.out.2.1, HS.out.2.2, HA.out⟩
theorem number_lay_a (w : World) (base g N k : Nat) (xs : List UInt8) (hw : Wr w base g (xs ++ le k N)) (hn : xs.length + k ≤ 900000008) (hB : base ≤ w.heap.size) :
    Calls Try.prog 45 #[.pointer (some ⟨g, 0, none⟩), .slice (some ⟨w.heap.size, 0, none⟩) 1 1] (w.alloc (.cells #[.int .u8 ((N : Int) / 2 ^ (8 * k) % 256)] 5))
      (LaidA (w.alloc (.cells #[.int .u8 ((N : Int) / 2 ^ (8 * k) % 256)] 5)) base g (xs ++ le (k + 1) N)) := by
  rw [byte_of, le_snoc, ← List.append_assoc]
  exact lay_aside _ base g (w.heap.size + 1) 1 1 _ _ _ (hw.alloc _) (byt_new w (UInt8.ofNat (N / 256 ^ k % 256)) (0, 0)) (by rw [List.length_append, le_length]; omega) (by simp; omega)
set_option maxHeartbeats 400000 in
theorem number_aside (w : World) (base g N wide : Nat) (xs : List UInt8) (hw : Wr w base g xs) (hn : xs.length ≤ 900000000) (hB : base ≤ w.heap.size) (hwide : wide ≤ 8) :
    Calls Try.prog 42 #[.pointer (some ⟨g, 0, none⟩), .int .u64 N, .int .i64 wide] w (LaidA w base g (xs ++ le wide N)) := by
  go_enter Try.func42, Try.ntmps42
  go_wp2
  go_loopw [8] (fun i wr => ∃ k : Nat, k ≤ wide ∧ i = .int .i64 k ∧ Wr wr base g (xs ++ le k N) ∧ Below base w wr ∧ Aside g w wr) (fun i _ => wide - (intOf i).toNat)
  case atStart => exact ⟨0, Nat.zero_le _, rfl, by simpa [le] using hw, Below.refl _ _, Aside.refl _ _⟩
  case round =>
    obtain ⟨k, hk, rfl, hW, hbel, has⟩ := hrel
    have HW := Lib.hid hW
    have HA := Lib.hid has
    clear hW has
    by_cases hlt : k < wide
    · have HL := Lib.hid (number_lay_a wr base g N k xs HW.out (by omega) (by have := hbel.size; omega))
      go_wp2_with fail
      refine HL.out.mono ?_
      rintro e w1 ⟨rfl, hW1, hb1, ha1⟩
      go_wp2_with fail
      go_roundw
      case rel => exact ⟨k + 1, by omega, by go_num, hW1, (hbel.alloc (by have := hbel.size; omega) _).trans hb1, (HA.out.alloc _).trans ha1⟩
      case measure => simp [intOf]; omega
    · obtain rfl : k = wide := by omega
      go_wp2
      go_end0
      exact ⟨rfl, HW.out, hbel, HA.out⟩
theorem number_int_a (w : World) (base g : Nat) (n : Int) (xs : List UInt8) (hw : Wr w base g xs) (hn : xs.length ≤ 900000000) (hB : base ≤ w.heap.size) :
    Calls Try.prog 42 #[.pointer (some ⟨g, 0, none⟩), .int .u64 (n % 18446744073709551616), .int .i64 8] w (LaidA w base g (xs ++ encNum n)) := by
  have h := number_aside w base g (n % 18446744073709551616).toNat 8 xs hw hn hB (Nat.le_refl _)
  rw [show (((n % 18446744073709551616).toNat : Nat) : Int) = n % 18446744073709551616 by omega] at h
  exact h
theorem number_small_a (w : World) (base g : Nat) (n x : Int) (xs : List UInt8) (hw : Wr w base g xs) (hn : xs.length ≤ 900000000) (hB : base ≤ w.heap.size) (hx : (clip n : Int) = x) :
    Calls Try.prog 42 #[.pointer (some ⟨g, 0, none⟩), .int .u64 x, .int .i64 2] w (LaidA w base g (xs ++ encSmall n)) := by
  subst hx
  exact number_aside w base g (clip n) 2 xs hw hn hB (by decide)
/-- Several numbers, laid. -/
def encAll (f : Int → List UInt8) (l : List Int) : List UInt8 := l.flatMap f
theorem encAll_step (f : Int → List UInt8) (xs : List UInt8) (l : List Int) (k : Nat) (h : k < l.length) : xs ++ encAll f (l.take (k + 1)) = xs ++ encAll f (l.take k) ++ f (l.getD k 0) := by
  rw [List.take_succ_eq_append_getElem h, encAll, List.flatMap_append]
  simp [encAll, List.getD_eq_getElem?_getD, h]
theorem encAll_length (f : Int → List UInt8) (hf : ∀ n, (f n).length ≤ 8) : ∀ l, (encAll f l).length ≤ 8 * l.length
  | [] => by simp [encAll]
  | a :: r => by
    have h1 := hf a
    have h2 := encAll_length f hf r
    simp only [encAll, List.flatMap_cons, List.length_append, List.length_cons] at *
    omega
/-- A block of ints. -/
def ints (l : List Int) : Array Value := (l.map (Value.int .i64)).toArray
theorem ints_get (l : List Int) (k : Nat) (h : k < l.length) : (ints l)[k]? = some (.int .i64 (l.getD k 0)) := by simp [ints, List.getD_eq_getElem?_getD, h]
set_option maxHeartbeats 1000000 in
theorem num_many (w : World) (base g b : Nat) (l : List Int) (xs : List UInt8) (hw : Wr w base g xs) (hn : xs.length ≤ 800000000) (hl : l.length ≤ 1000000) (hB : base ≤ w.heap.size) (hgb : b ≠ g) (hc : w.heap[b]? = some (.cells (ints l) 2 (0, 0))) (n : Nat) (hln : l.length = n) :
    Calls Try.prog 33 #[.pointer (some ⟨g, 0, none⟩), .slice (some ⟨b, 0, none⟩) n n] w (LaidA w base g (xs ++ encAll encNum l)) := by
  have HC := Lib.hid hc
  have HW0 := Lib.hid hw
  have HLN := Lib.hid hln
  clear hc hw hln
  have hn0 : n ≤ 1000000 := by have := HLN.out; omega
  go_enter Try.func33, Try.ntmps33
  go_wp2
  go_loopw [8] (fun i wr => ∃ k : Nat, k ≤ n ∧ i = .int .i64 k ∧ Wr wr base g (xs ++ encAll encNum (l.take k)) ∧ Below base w wr ∧ Aside g w wr) (fun i _ => n - (intOf i).toNat)
  case atStart => exact ⟨0, Nat.zero_le _, rfl, by simpa [encAll] using HW0.out, Below.refl _ _, Aside.refl _ _⟩
  case round =>
    obtain ⟨k, hk, rfl, hW, hbel, has⟩ := hrel
    have HW := Lib.hid hW
    have HA := Lib.hid has
    clear hW has
    by_cases hlt : k < n
    · have hcb := HA.out b _ 2 (by decide) hgb HC.out
      have hcell : wr.cell? ⟨b, k, none⟩ = some (.int .i64 (l.getD k 0)) := (cell_at hcb k).trans (ints_get l k (by have := HLN.out; omega))
      have HN := Lib.hid (number_int_a wr base g (l.getD k 0) (xs ++ encAll encNum (l.take k)) HW.out (by have := encAll_length encNum (fun n => by rw [encNum_length]; exact Nat.le_refl _) (l.take k); rw [List.length_append]; rw [List.length_take] at this; omega) (by have := hbel.size; omega))
      have HX := Lib.hid (encAll_step encNum xs l k (by have := HLN.out; omega))
      clear hcb
      generalize l.getD k 0 = x at *
      go_wp2_with fail
      refine HN.out.mono ?_
      rintro e w1 ⟨rfl, hW1, hb1, ha1⟩
      go_wp2_with fail
      go_roundw
      case rel => exact ⟨k + 1, by omega, by go_num, by rw [HX.out]; exact hW1, hbel.trans hb1, HA.out.trans ha1⟩
      case measure => simp [intOf]; omega
    · obtain rfl : k = n := by omega
      go_wp2
      go_end0
      refine ⟨rfl, ?_, hbel, HA.out⟩
      have h := HW.out
      rwa [List.take_of_length_le (by have := HLN.out; omega)] at h
set_option maxHeartbeats 1000000 in
theorem small_many (w : World) (base g b : Nat) (l : List Int) (xs : List UInt8) (hw : Wr w base g xs) (hn : xs.length ≤ 800000000) (hl : l.length ≤ 1000000) (hB : base ≤ w.heap.size) (hgb : b ≠ g) (hc : w.heap[b]? = some (.cells (ints l) 3 (0, 0))) (n : Nat) (hln : l.length = n) :
    Calls Try.prog 32 #[.pointer (some ⟨g, 0, none⟩), .slice (some ⟨b, 0, none⟩) n n] w (LaidA w base g (xs ++ encAll encSmall l)) := by
  have HC := Lib.hid hc
  have HW0 := Lib.hid hw
  have HLN := Lib.hid hln
  clear hc hw hln
  have hn0 : n ≤ 1000000 := by have := HLN.out; omega
  go_enter Try.func32, Try.ntmps32
  go_wp2
  go_loopw [8] (fun i wr => ∃ k : Nat, k ≤ n ∧ i = .int .i64 k ∧ Wr wr base g (xs ++ encAll encSmall (l.take k)) ∧ Below base w wr ∧ Aside g w wr) (fun i _ => n - (intOf i).toNat)
  case atStart => exact ⟨0, Nat.zero_le _, rfl, by simpa [encAll] using HW0.out, Below.refl _ _, Aside.refl _ _⟩
  case round =>
    obtain ⟨k, hk, rfl, hW, hbel, has⟩ := hrel
    have HW := Lib.hid hW
    have HA := Lib.hid has
    clear hW has
    by_cases hlt : k < n
    · have hcb := HA.out b _ 3 (by decide) hgb HC.out
      have hcell : wr.cell? ⟨b, k, none⟩ = some (.int .i64 (l.getD k 0)) := (cell_at hcb k).trans (ints_get l k (by have := HLN.out; omega))
      have HX := Lib.hid (encAll_step encSmall xs l k (by have := HLN.out; omega))
      have hxl : (xs ++ encAll encSmall (l.take k)).length ≤ 900000000 := by have := encAll_length encSmall (fun n => by rw [encSmall_length]; omega) (l.take k); rw [List.length_append]; rw [List.length_take] at this; omega
      have hbs : base ≤ wr.heap.size := by have := hbel.size; omega
      clear hcb
      generalize l.getD k 0 = x at *
      have HXL := Lib.hid hxl
      clear hxl
      rcases (show x < 0 ∨ (0 ≤ x ∧ x ≤ 65535) ∨ 65535 < x by omega) with h | ⟨h, h2⟩ | h
      all_goals
        first
          | (have HN := Lib.hid (number_small_a wr base g x 0 _ HW.out HXL.out hbs (by unfold clip; omega)))
          | (have HN := Lib.hid (number_small_a wr base g x x _ HW.out HXL.out hbs (by unfold clip; omega)))
          | (have HN := Lib.hid (number_small_a wr base g x 65535 _ HW.out HXL.out hbs (by unfold clip; omega)))
        go_wp2_with fail
        refine HN.out.mono ?_
        rintro e w1 ⟨rfl, hW1, hb1, ha1⟩
        go_wp2_with fail
        go_roundw
        case rel => exact ⟨k + 1, by omega, by go_num, by rw [HX.out]; exact hW1, hbel.trans hb1, HA.out.trans ha1⟩
        case measure => simp [intOf]; omega
    · obtain rfl : k = n := by omega
      go_wp2
      go_end0
      refine ⟨rfl, ?_, hbel, HA.out⟩
      have h := HW.out
      rwa [List.take_of_length_le (by have := HLN.out; omega)] at h
end Go.Proofs.Ytpbojepliddflaa.Cod
