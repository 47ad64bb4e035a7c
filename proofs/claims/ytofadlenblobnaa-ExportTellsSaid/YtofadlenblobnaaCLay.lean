/-
  What the program's Writer does: lay, number. Conditions: the Writer's block is known; the sizes are named.
-/
import Derived.Test.YtofadlenblobnaaCMem
namespace Go.Proofs.Ytofadlenblobnaa.Cod
open Go.RowKit Codec
set_option maxRecDepth 100000
def Laid (w : World) (base g : Nat) (xs : List UInt8) (e : Ending) (w' : World) : Prop := e = .returned (.tuple #[]) ∧ Wr w' base g xs ∧ Below base w w'
def EndsBelow (v : Value) (w : World) (e : Ending) (w' : World) : Prop := e = .returned v ∧ Below w.heap.size w w'
set_option maxHeartbeats 400000 in
theorem lay_some (w : World) (base g B m c : Nat) (A : Option Addr) (xs ys : List UInt8) (hw : Wr w base g xs) (hr : Byts w B A m ys) (hn : xs.length + m ≤ 1000000000) (hB : base ≤ w.heap.size) :
    Calls Try.prog 46 #[.pointer (some ⟨g, 0, none⟩), .slice A m c] w (Laid w base g (xs ++ ys)) := by
  obtain ⟨A0, n, c0, hg, hown, hb⟩ := hw
  have hc := cell_at hg 0
  have hlen := Lib.hid hown.len
  have HG := Lib.hid hg
  have HO := Lib.hid hown
  have HR := Lib.hid hr
  have hn2 : n + m ≤ 1000000000 := by have := hown.len; omega
  clear hg hown hr hn
  go_enter Try.func46, Try.ntmps46
  go_wp2_with (at_builtin; (refine wpList_app _ rfl (.tmp 10) (.tmp 11) rfl base _ n xs rfl HO.out B A m c ys rfl HR.out hn2 hB ?_); intro A1 c1 w1 hown1 hg1; have hst := Wr.stored HG.out HO.out hb hB hown1 hg1; have HS := Lib.hid hst; have hc1 := cell_at hst.1 0; have hf1 := free_at hst.1 0; clear hst hown1 hg1)
  go_end0
  exact ⟨rfl, HS.out.2.1, HS.out.2.2⟩
set_option maxHeartbeats 400000 in
theorem lay_none (w : World) (v : Value) : Calls Try.prog 46 #[.pointer none, v] w fun e w' => e = .returned (.tuple #[]) ∧ w = w' := by
  go_enter Try.func46, Try.ntmps46
  go_wp2
  go_end0
  exact ⟨rfl, rfl⟩
theorem Below.weaken {B B' : Nat} {w w' : World} (h : Below B w w') (hB : B' ≤ B) : Below B' w w' := h.mono hB
theorem Wr.alloc {w : World} {base g : Nat} {xs : List UInt8} (h : Wr w base g xs) (o : Obj) : Wr (w.alloc o) base g xs := by
  obtain ⟨A, n, c, hg, hown, hb⟩ := h
  exact ⟨A, n, c, (Below.heap_alloc w o g (lt_of_heap hg)).trans hg, hown.alloc o, hb⟩
theorem byt_new (w : World) (x : UInt8) (fr : Nat × Nat) : Byts (w.alloc (.cells #[byt x] 5 fr)) (w.heap.size + 1) (some ⟨w.heap.size, 0, none⟩) 1 [x] :=
  ⟨rfl, fun _ => ⟨w.heap.size, 0, rfl, by omega, fun j hj => by
    obtain rfl : j = 0 := by omega
    rw [World.cell?_alloc_mark]
    rfl⟩⟩
theorem byte_of (N k : Nat) : (N : Int) / 2 ^ (8 * k) % 256 = ((UInt8.ofNat (N / 256 ^ k % 256)).toNat : Int) := by
  have h : (256 : Nat) ^ k = 2 ^ (8 * k) := by rw [show (256 : Nat) = 2 ^ 8 from rfl, ← Nat.pow_mul]
  rw [h]
  generalize hq : N / 2 ^ (8 * k) = q
  have h2 : (N : Int) / 2 ^ (8 * k) = (q : Int) := by rw [← hq]; simp
  rw [h2]
  simp
theorem number_lay (w : World) (base g N k : Nat) (xs : List UInt8) (hw : Wr w base g (xs ++ le k N)) (hn : xs.length + k ≤ 900000008) (hB : base ≤ w.heap.size) :
    Calls Try.prog 46 #[.pointer (some ⟨g, 0, none⟩), .slice (some ⟨w.heap.size, 0, none⟩) 1 1] (w.alloc (.cells #[.int .u8 ((N : Int) / 2 ^ (8 * k) % 256)] 5))
      (Laid (w.alloc (.cells #[.int .u8 ((N : Int) / 2 ^ (8 * k) % 256)] 5)) base g (xs ++ le (k + 1) N)) := by
  rw [byte_of, le_snoc, ← List.append_assoc]
  exact lay_some _ base g (w.heap.size + 1) 1 1 _ _ _ (hw.alloc _) (byt_new w (UInt8.ofNat (N / 256 ^ k % 256)) (0, 0)) (by rw [List.length_append, le_length]; omega) (by simp; omega)
set_option maxHeartbeats 400000 in
theorem number_some (w : World) (base g N wide : Nat) (xs : List UInt8) (hw : Wr w base g xs) (hn : xs.length ≤ 900000000) (hB : base ≤ w.heap.size) (hwide : wide ≤ 8) :
    Calls Try.prog 29 #[.pointer (some ⟨g, 0, none⟩), .int .u64 N, .int .i64 wide] w (Laid w base g (xs ++ le wide N)) := by
  go_enter Try.func29, Try.ntmps29
  go_wp2
  go_loopw [8] (fun i wr => ∃ k : Nat, k ≤ wide ∧ i = .int .i64 k ∧ Wr wr base g (xs ++ le k N) ∧ Below base w wr) (fun i _ => wide - (intOf i).toNat)
  case atStart => exact ⟨0, Nat.zero_le _, rfl, by simpa [le] using hw, Below.refl _ _⟩
  case round =>
    obtain ⟨k, hk, rfl, hW, hbel⟩ := hrel
    have HW := Lib.hid hW
    clear hW
    by_cases hlt : k < wide
    · have HL := Lib.hid (number_lay wr base g N k xs HW.out (by omega) (by have := hbel.size; omega))
      go_wp2_with fail
      refine HL.out.mono ?_
      rintro e w1 ⟨rfl, hW1, hb1⟩
      go_wp2_with fail
      go_roundw
      case rel => exact ⟨k + 1, by omega, by go_num, hW1, (hbel.alloc (by have := hbel.size; omega) _).trans hb1⟩
      case measure => simp [intOf]; omega
    · obtain rfl : k = wide := by omega
      go_wp2
      go_end0
      exact ⟨rfl, HW.out, hbel⟩
set_option maxHeartbeats 400000 in
theorem number_none (w : World) (N wide : Nat) (hwide : wide ≤ 8) :
    Calls Try.prog 29 #[.pointer none, .int .u64 N, .int .i64 wide] w (EndsBelow (.tuple #[]) w) := by
  go_enter Try.func29, Try.ntmps29
  go_wp2
  go_loopw [8] (fun i wr => ∃ k : Nat, k ≤ wide ∧ i = .int .i64 k ∧ Below w.heap.size w wr) (fun i _ => wide - (intOf i).toNat)
  case atStart => exact ⟨0, Nat.zero_le _, rfl, Below.refl _ _⟩
  case round =>
    obtain ⟨k, hk, rfl, hbel⟩ := hrel
    by_cases hlt : k < wide
    · go_wp2_with fail
      refine (lay_none _ _).mono ?_
      rintro e w1 ⟨rfl, rfl⟩
      go_wp2_with fail
      go_roundw
      case rel => exact ⟨k + 1, by omega, by go_num, hbel.alloc hbel.size _⟩
      case measure => simp [intOf]; omega
    · obtain rfl : k = wide := by omega
      go_wp2
      go_end0
      exact ⟨rfl, hbel⟩
theorem number_int (w : World) (base g : Nat) (n : Int) (xs : List UInt8) (hw : Wr w base g xs) (hn : xs.length ≤ 900000000) (hB : base ≤ w.heap.size) :
    Calls Try.prog 29 #[.pointer (some ⟨g, 0, none⟩), .int .u64 (n % 18446744073709551616), .int .i64 8] w (Laid w base g (xs ++ encNum n)) := by
  have h := number_some w base g (n % 18446744073709551616).toNat 8 xs hw hn hB (Nat.le_refl _)
  rw [show (((n % 18446744073709551616).toNat : Nat) : Int) = n % 18446744073709551616 by omega] at h
  exact h
theorem number_small (w : World) (base g : Nat) (n x : Int) (xs : List UInt8) (hw : Wr w base g xs) (hn : xs.length ≤ 900000000) (hB : base ≤ w.heap.size) (hx : (clip n : Int) = x) :
    Calls Try.prog 29 #[.pointer (some ⟨g, 0, none⟩), .int .u64 x, .int .i64 2] w (Laid w base g (xs ++ encSmall n)) := by
  subst hx
  exact number_some w base g (clip n) 2 xs hw hn hB (by decide)
set_option maxHeartbeats 1000000 in
theorem small_some (w : World) (base g b : Nat) (n : Int) (xs : List UInt8) (hw : Wr w base g xs) (hn : xs.length ≤ 900000000) (hB : base ≤ w.heap.size) (hc : w.cell? ⟨b, 0, none⟩ = some (.int .i64 n)) :
    Calls Try.prog 15 #[.pointer (some ⟨g, 0, none⟩), .slice (some ⟨b, 0, none⟩) 1 1] w (Laid w base g (xs ++ encSmall n)) := by
  have HW := Lib.hid hw
  clear hw
  rcases (show n < 0 ∨ (0 ≤ n ∧ n ≤ 65535) ∨ 65535 < n by omega) with h | ⟨h, h2⟩ | h
  all_goals
    first
      | (have HN := Lib.hid (number_small w base g n 0 xs HW.out hn hB (by unfold clip; omega)))
      | (have HN := Lib.hid (number_small w base g n n xs HW.out hn hB (by unfold clip; omega)))
      | (have HN := Lib.hid (number_small w base g n 65535 xs HW.out hn hB (by unfold clip; omega)))
    go_enter Try.func15, Try.ntmps15
    go_wp2
    go_loopw [8] (fun i wr => (i = .int .i64 0 ∧ w = wr) ∨ (i = .int .i64 1 ∧ Wr wr base g (xs ++ encSmall n) ∧ Below base w wr)) (fun i _ => 1 - (intOf i).toNat)
    case atStart => exact .inl ⟨rfl, rfl⟩
    case round =>
      rcases hrel with ⟨rfl, rfl⟩ | ⟨rfl, hW, hbel⟩
      · go_wp2_with fail
        refine HN.out.mono ?_
        rintro e w1 ⟨rfl, hW1, hb1⟩
        go_wp2_with fail
        go_roundw
        case rel => exact .inr ⟨rfl, hW1, hb1⟩
        case measure => simp [intOf]
      · go_wp2
        go_end0
        exact ⟨rfl, hW, hbel⟩
end Go.Proofs.Ytofadlenblobnaa.Cod
