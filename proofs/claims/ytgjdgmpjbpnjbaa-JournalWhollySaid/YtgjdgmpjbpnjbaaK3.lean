/-
  Texts CRead, CRef, SBits, SWalks, SRef, FSmall, FRows, FPut, FRef, CGet, CCount, FRead, FGet, FCut, FHeld, in one file. What each proves, and its conditions, stand at its head below.
-/
import Derived.Test.YtgjdgmpjbpnjbaaK2
import Derived.Test.YtgjdgmpjbpnjbaaRows
import Derived.Laws.BitsAll
import Derived.WalkKit
import Derived.WalkSpells
import Derived.WalkLawsBesides
import Derived.Lib.Hide
import Derived.Laws.BytesArg
import Derived.Laws.CopyOwn
import Derived.Deep.RegionHeld3
import Derived.ArgAppend
import Derived.Lib.SlBytesConst
import Derived.Deep.QuietTactic
import Derived.BigQuiet
import Derived.Deep.DeepCutAuto
import Derived.OrdersHeld
import Derived.Laws.StructEq
import Derived.KernelRfl
/-
  What the program's Reader reads and tells: Num, Small, Count, Text, Good, Left, End, Read; nobody's Reader. Conditions: the Reader's block is known.
-/
namespace Go.Proofs.Ytgjdgmpjbpnjbaa.Cod
open Go.RowKit Codec
set_option maxRecDepth 100000
theorem Turned.of {T : TypeId} {w w' : World} {B g : Nat} {u v : Value} {s : St} {e : Ending} (h : Turned T w B g u s e w') (hv : u = v) : Turned T w B g v s e w' := by subst hv; exact h
theorem signed_of (n : Nat) (h : n < 18446744073709551616) : wrap64 (n : Int) = signed n := by
  unfold wrap64 signed
  split <;> omega
theorem num_lt (s : St) : leVal (tk 8 s) < 18446744073709551616 := by
  have h := leVal_lt (tk 8 s)
  have h2 : 256 ^ (tk 8 s).length ≤ 256 ^ 8 := Nat.pow_le_pow_right (by decide) (take_le 8 s)
  omega
set_option maxHeartbeats 400000 in
theorem num_any (w : World) (B g : Nat) (s : St) (hr : Rdr 133 w B g s) :
    Calls Try.prog 78 #[.pointer (some ⟨g, 0, none⟩)] w (Turned 133 w B g (.int .i64 (num s)) (tkS 8 s)) := by
  have HN := Lib.hid (number_any w B g 8 s hr (Nat.le_refl _))
  have HS : Hid (wrap64 (leVal (tk 8 s) : Int) = num s) := signed_of _ (num_lt s)
  clear hr
  generalize leVal (tk 8 s) = x at *
  generalize num s = y at *
  generalize tkS 8 s = s1 at *
  go_enter Try.func78, Try.ntmps78
  go_wp2_with fail
  refine HN.out.mono ?_
  rintro e w1 ⟨rfl, hw, hg⟩
  have HW := Lib.hid hw
  have HG := Lib.hid hg
  clear hw hg
  go_wp2_with fail
  go_ret
  exact ⟨by rw [← HS.out]; rfl, HW.out, HG.out⟩
set_option maxHeartbeats 400000 in
theorem small_any (w : World) (B g : Nat) (s : St) (hr : Rdr 133 w B g s) :
    Calls Try.prog 77 #[.pointer (some ⟨g, 0, none⟩)] w (Turned 133 w B g (.int .i64 (small s)) (tkS 2 s)) := by
  have HN := Lib.hid (number_any w B g 2 s hr (by decide))
  have hx : small s < 65536 := small_lt s
  have e : leVal (tk 2 s) = small s := rfl
  rw [e] at HN
  clear hr e
  generalize small s = x at *
  generalize tkS 2 s = s1 at *
  go_enter Try.func77, Try.ntmps77
  go_wp2_with fail
  refine HN.out.mono ?_
  rintro e w1 ⟨rfl, hw, hg⟩
  have HW := Lib.hid hw
  have HG := Lib.hid hg
  clear hw hg
  go_wp2_with fail
  go_ret
  exact ⟨rfl, HW.out, HG.out⟩
/-- Good, and nothing left. -/
def endB (s : St) : Bool := !s.bad && decide (s.left.length = 0)
/-! ### Nobody's Reader -/
theorem rnumber_none (w : World) (v : Value) : Calls Try.prog 93 #[.pointer none, v] w fun e w' => e = .returned (.int .u64 0) ∧ w = w' := by
  go_enter Try.func93, Try.ntmps93
  go_wp2_with fail
  refine (take_none _ _).mono ?_
  rintro e w1 ⟨rfl, rfl⟩
  go_wp2_with fail
  go_loop [5, 12] (fun r i => i = .int .i64 0 ∧ r = .int .u64 0) (fun _ _ => 0)
  case atStart => exact ⟨rfl, rfl⟩
  case round =>
    obtain ⟨rfl, rfl⟩ := hrel
    go_wp2
    go_ret
    exact ⟨rfl, rfl⟩
theorem rnum_none (w : World) : Calls Try.prog 78 #[.pointer none] w fun e w' => e = .returned (.int .i64 0) ∧ w = w' := by
  go_enter Try.func78, Try.ntmps78
  go_wp2_with fail
  refine (rnumber_none _ _).mono ?_
  rintro e w1 ⟨rfl, rfl⟩
  go_wp2_with fail
  go_ret
  exact ⟨rfl, rfl⟩
theorem rsmall_none (w : World) : Calls Try.prog 77 #[.pointer none] w fun e w' => e = .returned (.int .i64 0) ∧ w = w' := by
  go_enter Try.func77, Try.ntmps77
  go_wp2_with fail
  refine (rnumber_none _ _).mono ?_
  rintro e w1 ⟨rfl, rfl⟩
  go_wp2_with fail
  go_ret
  exact ⟨rfl, rfl⟩
/-! ### A Reader of bytes -/
def Opened (w : World) (xs : List UInt8) (e : Ending) (w' : World) : Prop := ∃ B g, e = .returned (.pointer (some ⟨g, 0, none⟩)) ∧ Rdr 133 w' B g ⟨xs, false⟩ ∧ w.heap.size ≤ B ∧ Below w.heap.size w w'
theorem read_any (w : World) (B m c : Nat) (A : Option Addr) (ys : List UInt8) (hr : Byts w B A m ys) (hB : B ≤ w.heap.size) (hn : m ≤ 1000000000) :
    Calls Try.prog 76 #[.slice A m c] w (Opened w ys) := by
  have HC := Lib.hid (clone_any w B m c A ys hr hB hn)
  clear hr
  go_enter Try.func76, Try.ntmps76
  go_wp2_with fail
  refine HC.out.mono ?_
  rintro e w1 ⟨A1, c1, rfl, ho, hb⟩
  have HO := Lib.hid ho
  have HB := Lib.hid hb
  clear ho hb
  go_wp2_with fail
  go_ret
  obtain ⟨A2, c2, e2, h1, h2⟩ := Owns.form HO.out
  obtain ⟨rfl, rfl⟩ : A1 = A2 ∧ c1 = c2 := by injection e2 with a b c; exact ⟨a, c⟩
  exact ⟨w1.heap.size, w1.heap.size, rfl, ⟨goodOk _, Nat.le_refl _, A1, m, c1, heap_alloc_new w1 _, (HO.out.byts).alloc (Nat.le_refl _) _, h1, h2, hn⟩, HB.out.size, HB.out.alloc HB.out.size _⟩
end Go.Proofs.Ytgjdgmpjbpnjbaa.Cod
/-
  What the document's functions lay: Num, Small, Text behind bytes. Conditions: the bytes are a row of the call's own; the sizes are named.
-/
namespace Go.Proofs.Ytgjdgmpjbpnjbaa.Cod
open Go.RowKit Codec
set_option maxRecDepth 100000
def Grew (w : World) (base : Nat) (xs : List UInt8) (e : Ending) (w' : World) : Prop := ∃ A m c, e = .returned (.slice A m c) ∧ Owns w' base (.slice A m c) m xs ∧ Below base w w'
theorem byte_int (n : Int) (k : Nat) : IntKind.u64.wrap n / 2 ^ (8 * k) % 256 = ((UInt8.ofNat ((n % 18446744073709551616).toNat / 256 ^ k % 256)).toNat : Int) := by
  rw [← byte_of, IntKind.wrap_u64, show (((n % 18446744073709551616).toNat : Nat) : Int) = n % 18446744073709551616 by omega]
theorem num_byte (w : World) (n : Int) (k : Nat) :
    Byts (w.alloc (.cells #[.int .u8 (IntKind.u64.wrap n / 2 ^ (8 * k) % 256)] 5)) (w.heap.size + 1) (some ⟨w.heap.size, 0, none⟩) 1 [UInt8.ofNat ((n % 18446744073709551616).toNat / 256 ^ k % 256)] := by
  rw [byte_int]
  exact byt_new _ _ _
theorem num_next (n : Int) (k : Nat) (xs : List UInt8) : xs ++ le k (n % 18446744073709551616).toNat ++ [UInt8.ofNat ((n % 18446744073709551616).toNat / 256 ^ k % 256)] = xs ++ le (k + 1) (n % 18446744073709551616).toNat := by
  rw [le_snoc, List.append_assoc]
theorem Owns.below_own {w w1 : World} {base n : Nat} {v : Value} {xs : List UInt8} (h : Owns w base v n xs) (hB : base ≤ w.heap.size) (hg : w.grownBy w1 v.ownBlock) : Below base w w1 :=
  (Below.refl base w).grown hg hB (fun k hk => (World.ownsRow.lt h k hk).1)
theorem byts_two (w : World) (x y : UInt8) (fr : Nat × Nat) : Byts (w.alloc (.cells #[byt x, byt y] 5 fr)) (w.heap.size + 1) (some ⟨w.heap.size, 0, none⟩) 2 [x, y] :=
  ⟨rfl, fun _ => ⟨w.heap.size, 0, rfl, by omega, fun j hj => by
    match j, hj with
    | 0, _ => rw [World.cell?_alloc_mark]; rfl
    | 1, _ => rw [World.cell?_alloc_mark]; rfl⟩⟩
theorem le_two (n : Nat) : le 2 n = [UInt8.ofNat (n % 256), UInt8.ofNat (n / 256 % 256)] := rfl
theorem small_bytes (w : World) (n a b : Int) (ha : a = (clip n : Int) % 256) (hb : b = (clip n : Int) / 256) :
    Byts (w.alloc (.cells #[.int .u8 a, .int .u8 b] 5)) (w.heap.size + 1) (some ⟨w.heap.size, 0, none⟩) 2 (encSmall n) := by
  have hc := clip_lt n
  have e1 : a = ((UInt8.ofNat (clip n % 256)).toNat : Int) := by rw [ha]; simp
  have e2 : b = ((UInt8.ofNat (clip n / 256 % 256)).toNat : Int) := by rw [hb]; simp; omega
  rw [e1, e2]
  exact byts_two w _ _ (0, 0)
theorem cel_str (s : ByteArray) : Lib.strCells s = cel (bytesOf s) := rfl
theorem run_app_str (w : World) (ty : TypeId) (base : Nat) (v : Value) (n : Nat) (xs : List UInt8) (hown : Owns w base v n xs) (s : ByteArray) (hn : n + s.size ≤ 1000000000) (hbase : base ≤ w.heap.size) :
    ∃ A' c' w', (Builtin.append_ #[35, 9] ty #[v, .string s]).run Try.prog w = .ok (.slice A' (n + s.size) c') w' ∧ Owns w' base (.slice A' (n + s.size) c') (n + s.size) (xs ++ bytesOf s) ∧ w.grownBy w' v.ownBlock := by
  obtain ⟨i0, hi0, hz0, hz1, hz2⟩ := info_parts info5
  obtain ⟨v', w', h1, h2, h3, _⟩ := Lib.run_append_own_string (P := Try.prog) w base 35 9 ty 5 i0 Try.underlying35 Try.underlying9 hi0 hz0 hz1 hz2 v n (cel xs) hown s (by unfold maxLen; omega) (by omega) hbase
  rw [cel_str, cel_app] at h2
  obtain ⟨A', c', rfl, _, _⟩ := Owns.form h2
  exact ⟨A', c', w', h1, h2, h3⟩
theorem wpList_app_str (w : World) {ops : Array Oper} {rest : List Oper} {o : Oper} {a : Act} {Q : Exit → Act → World → Prop} (hgd : o.guard = none) (sl x : Operand)
    (ho : o.op = .call { callee := .builtin .append, args := #[sl, x], argTypes := #[35, 9] })
    (base : Nat) (v : Value) (n : Nat) (xs : List UInt8) (hs : a.eval sl = v) (hown : Owns w base v n xs) (s : ByteArray) (hx : a.eval x = .string s)
    (hn : n + s.size ≤ 1000000000) (hbase : base ≤ w.heap.size)
    (h : ∀ A' c' w', Owns w' base (.slice A' (n + s.size) c') (n + s.size) (xs ++ bytesOf s) → w.grownBy w' v.ownBlock → wpList Try.prog ops Q rest (a.put o.dst (.slice A' (n + s.size) c')) w') : wpList Try.prog ops Q (o :: rest) a w := by
  obtain ⟨A', c', w', hrun, h2, h3⟩ := run_app_str w o.type base v n xs hown s hn hbase
  refine wpList_plain hgd fun _ hK => ?_
  unfold Oper.wp execOp
  simp only [ho, resolve, invoke, builtin, Sem.run_bind, Sem.run_pure, Result.andThen_ok, List.map_toArray, List.map_cons, List.map_nil, hs, hx, hrun]
  exact hK _ _ (h A' c' w' h2 h3)
theorem encText_of (s : ByteArray) (hs : s.size ≤ 65535) : encText (bytesOf s) = encSmall s.size ++ bytesOf s := by
  unfold encText encSmall clip
  rw [bytesOf_length, Nat.min_eq_left hs, show (min (max (s.size : Int) 0) 65535).toNat = s.size by omega, List.take_of_length_le (by rw [bytesOf_length]; omega)]
end Go.Proofs.Ytgjdgmpjbpnjbaa.Cod
/-
  The program's and the document's steps on bits, as the walk spells them, are the plain ones. Conditions: the numbers fit their kinds.
-/
namespace Go.Proofs.Ytgjdgmpjbpnjbaa.Sum
open Go.RowKit Sums
set_option maxRecDepth 100000

theorem all_ones_xor (s : Nat) (hs : s < 4294967296) : 4294967295 ^^^ s = 4294967295 - s := by
  have h := BitVec.toNat_not (x := BitVec.ofNat 32 s)
  rw [← BitVec.allOnes_xor, BitVec.toNat_xor, BitVec.toNat_ofNat, BitVec.toNat_allOnes, Nat.mod_eq_of_lt (a := s) (by omega)] at h
  exact h
theorem max_xor (s : Nat) (hs : s < 4294967296) : bits .xor .u32 IntKind.u32.max (s : Int) = ((4294967295 - s : Nat) : Int) := by
  rw [show IntKind.u32.max = ((4294967295 : Nat) : Int) from rfl, u32_xor_nat _ _ (by decide) hs, all_ones_xor s hs]
theorem xor_max (s : Nat) (hs : s < 4294967296) : bits .xor .u32 (s : Int) 4294967295 = ((4294967295 - s : Nat) : Int) := by
  rw [show (4294967295 : Int) = ((4294967295 : Nat) : Int) from rfl, u32_xor_nat _ _ hs (by decide), Nat.xor_comm, all_ones_xor s hs]
theorem shr_nat (x j : Nat) : (x : Int) / 2 ^ j = ((x / 2 ^ j : Nat) : Int) := by simp
/-- A byte's bit, as the program asks it. -/
theorem bit_of (x j : Nat) (hx : x ≤ 255) : bits .and .u32 ((x : Int) / 2 ^ j % 4294967296) 1 = ((x / 2 ^ j % 2 : Nat) : Int) := by
  have h : x / 2 ^ j ≤ x := Nat.div_le_self _ _
  rw [shr_nat]
  generalize x / 2 ^ j = y at *
  rw [show (y : Int) % 4294967296 = (y : Int) by omega, show (1 : Int) = ((1 : Nat) : Int) from rfl, u32_and_nat _ _ (by omega) (by decide), nat_mask1]
theorem half (u : Nat) : (u : Int) / 2 = ((u / 2 : Nat) : Int) := by omega
theorem prog_step (r x j : Nat) (hr : r < 4294967296) (hx : x ≤ 255) :
    bits .xor .u32 (bits .xor .u32 (r : Int) (bits .and .u32 ((x : Int) / 2 ^ j % 4294967296) 1) / 2)
      (bits .and .u32 (-bits .and .u32 (bits .xor .u32 (r : Int) (bits .and .u32 ((x : Int) / 2 ^ j % 4294967296) 1)) 1 % 4294967296) 3988292384) =
    ((crcBit r (x / 2 ^ j % 2) : Nat) : Int) := by
  have hb : x / 2 ^ j % 2 < 2 := Nat.mod_lt _ (by decide)
  rw [bit_of x j hx, u32_xor_nat _ _ hr (by omega)]
  have hu := xor_lt hr hb
  unfold crcBit
  generalize r ^^^ x / 2 ^ j % 2 = u at *
  rw [show (1 : Int) = ((1 : Nat) : Int) from rfl, u32_and_nat _ _ hu (by decide), nat_mask1, half]
  by_cases h : u % 2 = 1
  · rw [if_pos h, h, show -((1 : Nat) : Int) % 4294967296 = ((4294967295 : Nat) : Int) from rfl, show (3988292384 : Int) = ((3988292384 : Nat) : Int) from rfl,
      u32_and_nat _ _ (by decide) (by decide), show (4294967295 &&& 3988292384 : Nat) = 3988292384 by decide, u32_xor_nat _ _ (by omega) (by decide)]
  · have h0 : u % 2 = 0 := by omega
    rw [if_neg h, h0, show -((0 : Nat) : Int) % 4294967296 = ((0 : Nat) : Int) from rfl, show (3988292384 : Int) = ((3988292384 : Nat) : Int) from rfl,
      u32_and_nat _ _ (by decide) (by decide), show (0 &&& 3988292384 : Nat) = 0 by decide, u32_xor_nat _ _ (by omega) (by decide), Nat.xor_zero]
theorem ref_bit (x m : Nat) (hx : x ≤ 255) : bits .and .u8 ((x : Int) / 2 ^ m) 1 % 4294967296 = ((x / 2 ^ m % 2 : Nat) : Int) := by
  have h : x / 2 ^ m ≤ x := Nat.div_le_self _ _
  rw [shr_nat]
  generalize x / 2 ^ m = y at *
  rw [show (1 : Int) = ((1 : Nat) : Int) from rfl, u8_and_nat _ _ (by omega) (by decide), nat_mask1]
  omega
theorem ref_test (r x m : Nat) (hr : r < 4294967296) (hx : x ≤ 255) (t : Bool)
    (h : (bits .and .u32 (bits .xor .u32 (r : Int) (bits .and .u8 ((x : Int) / 2 ^ m) 1 % 4294967296)) 1 == 1) = t) : decide ((r ^^^ x / 2 ^ m % 2) % 2 = 1) = t := by
  have hb : x / 2 ^ m % 2 < 2 := Nat.mod_lt _ (by decide)
  rw [ref_bit x m hx, u32_xor_nat _ _ hr (by omega), show (1 : Int) = ((1 : Nat) : Int) from rfl, u32_and_nat _ _ (xor_lt hr hb) (by decide), nat_mask1] at h
  rw [← h, Bool.eq_iff_iff]
  generalize r ^^^ x / 2 ^ m % 2 = u
  simp
  omega
theorem ref_step_yes (r x m : Nat) (hr : r < 4294967296) (hx : x ≤ 255)
    (h : (bits .and .u32 (bits .xor .u32 (r : Int) (bits .and .u8 ((x : Int) / 2 ^ m) 1 % 4294967296)) 1 == 1) = true) :
    bits .xor .u32 (bits .xor .u32 (r : Int) (bits .and .u8 ((x : Int) / 2 ^ m) 1 % 4294967296) / 2) 3988292384 = ((crcBit r (x / 2 ^ m % 2) : Nat) : Int) := by
  have hd := ref_test r x m hr hx _ h
  have hb : x / 2 ^ m % 2 < 2 := Nat.mod_lt _ (by decide)
  have hu := xor_lt hr hb
  rw [decide_eq_true_eq] at hd
  unfold crcBit
  rw [if_pos hd, ref_bit x m hx, u32_xor_nat _ _ hr (by omega), half, show (3988292384 : Int) = ((3988292384 : Nat) : Int) from rfl, u32_xor_nat _ _ (by omega) (by decide)]
theorem ref_step_no (r x m : Nat) (hr : r < 4294967296) (hx : x ≤ 255)
    (h : (bits .and .u32 (bits .xor .u32 (r : Int) (bits .and .u8 ((x : Int) / 2 ^ m) 1 % 4294967296)) 1 == 1) = false) :
    bits .xor .u32 (r : Int) (bits .and .u8 ((x : Int) / 2 ^ m) 1 % 4294967296) / 2 = ((crcBit r (x / 2 ^ m % 2) : Nat) : Int) := by
  have hd := ref_test r x m hr hx _ h
  have hb : x / 2 ^ m % 2 < 2 := Nat.mod_lt _ (by decide)
  rw [decide_eq_false_iff_not] at hd
  unfold crcBit
  rw [if_neg hd, ref_bit x m hx, u32_xor_nat _ _ hr (by omega), half]
theorem fnv_step (h x : Nat) (hh : h < 18446744073709551616) (hx : x ≤ 255) :
    IntKind.u64.wrap (bits .xor .u64 (h : Int) (x : Int) * 1099511628211) = (((h ^^^ x) * 1099511628211 % 18446744073709551616 : Nat) : Int) := by
  rw [u64_xor_nat h x hh (by omega), IntKind.wrap_u64]
  omega
end Go.Proofs.Ytgjdgmpjbpnjbaa.Sum
/-
  What the program's More, Crc and Fnv answer, and the document's Crc and Fnv: the plain sums, for every list of bytes; nothing in memory is touched. Conditions: the slice reads as bytes; it is shorter than a slice can be.
-/
namespace Go.Proofs.Ytgjdgmpjbpnjbaa.Sum
open Go.RowKit Sums
set_option maxRecDepth 100000
def Ends (v : Value) (w : World) (e : Ending) (w' : World) : Prop := e = .returned v ∧ w = w'
/-- A block's cells from a place on are these bytes. -/
structure Row (w : World) (b off n : Nat) (xs : List Nat) : Prop where
  len : xs.length = n
  cell : ∀ i, i < n → w.cell? ⟨b, off + i, none⟩ = some (.int .u8 (xs.getD i 0 : Nat))
  byte : ∀ i, xs.getD i 0 ≤ 255
theorem ret32 {a b : Int} {w : World} (h : a = b) : Ends (.int .u32 b) w (.returned (.int .u32 a)) w := by subst h; exact ⟨rfl, rfl⟩
theorem ret64 {a b : Int} {w : World} (h : a = b) : Ends (.int .u64 b) w (.returned (.int .u64 a)) w := by subst h; exact ⟨rfl, rfl⟩

set_option maxHeartbeats 400000 in
theorem more_some (s b off n c : Nat) (xs : List Nat) (w : World) (hs : s < 4294967296) (hr : Row w b off n xs) (hn : n ≤ 140737488355328) :
    Calls Try.prog 79 #[.int .u32 s, .slice (some ⟨b, off, none⟩) n c] w (Ends (.int .u32 (more s xs)) w) := by
  have HR := Lib.hid hr
  clear hr
  go_enter Try.func79, Try.ntmps79
  go_wp2
  go_loop [5, 14] (fun r i => ∃ k : Nat, k ≤ n ∧ i = .int .i64 k ∧ r = .int .u32 (crcN (4294967295 - s) (bitAt xs) (8 * k) : Nat)) (fun _ i => n - (intOf i).toNat)
  case atStart => exact ⟨0, by omega, rfl, by rw [max_xor s hs]; rfl⟩
  case round =>
    obtain ⟨k, hk, rfl, rfl⟩ := hrel
    by_cases hlt : k < n
    · have hc := HR.out.cell k hlt
      have hb := HR.out.byte k
      have HX : Hid (∀ j, j < 8 → bitAt xs (8 * k + j) = xs.getD k 0 / 2 ^ j % 2) := Lib.hid (fun j hj => by unfold bitAt; rw [show (8 * k + j) / 8 = k by omega, show (8 * k + j) % 8 = j by omega])
      generalize xs.getD k 0 = x at *
      go_wp2
      go_loop [5, 18] (fun r i => ∃ j : Nat, j ≤ 8 ∧ i = .int .i64 j ∧ r = .int .u32 (crcN (4294967295 - s) (bitAt xs) (8 * k + j) : Nat)) (fun _ i => 8 - (intOf i).toNat)
      case atStart => exact ⟨0, by omega, rfl, rfl⟩
      case round =>
        obtain ⟨j, hj, rfl, rfl⟩ := hrel
        by_cases hlj : j < 8
        · go_wp2
          go_round
          case rel =>
            refine ⟨j + 1, by omega, by go_num, ?_⟩
            rw [prog_step _ _ _ (crcN_lt (by omega) (fun i => bitAt_lt xs i) _) hb, ← HX.out j hlj]
            rfl
          case measure => simp [intOf]; omega
        · obtain rfl : j = 8 := by omega
          go_wp2
          go_round
          case rel => exact ⟨k + 1, by omega, by go_num, by rw [Nat.mul_add]⟩
          case measure => simp [intOf]; omega
    · obtain rfl : k = n := by omega
      go_wp2
      go_ret
      exact ret32 (by rw [max_xor _ (crcN_lt (by omega) (fun i => bitAt_lt xs i) _)]; unfold more; rw [HR.out.len])

set_option maxHeartbeats 400000 in
theorem more_none (s c : Nat) (A : Option Addr) (w : World) (hs : s < 4294967296) :
    Calls Try.prog 79 #[.int .u32 s, .slice A 0 c] w (Ends (.int .u32 (more s [])) w) := by
  go_enter Try.func79, Try.ntmps79
  go_wp2
  go_loop [5, 14] (fun r i => i = .int .i64 0 ∧ r = .int .u32 (4294967295 - s : Nat)) (fun _ _ => 0)
  case atStart => exact ⟨rfl, by rw [max_xor s hs]⟩
  case round =>
    obtain ⟨rfl, rfl⟩ := hrel
    go_wp2
    go_ret
    exact ret32 (by rw [max_xor _ (by omega)]; rfl)

set_option maxHeartbeats 400000 in
theorem crc_some (b off n c : Nat) (xs : List Nat) (w : World) (hr : Row w b off n xs) (hn : n ≤ 140737488355328) :
    Calls Try.prog 67 #[.slice (some ⟨b, off, none⟩) n c] w (Ends (.int .u32 (crc xs)) w) := by
  have HC := Lib.hid (more_some 0 b off n c xs w (by decide) hr hn)
  clear hr
  go_enter Try.func67, Try.ntmps67
  go_wp2_with fail
  refine HC.out.mono ?_
  rintro e w1 ⟨rfl, rfl⟩
  go_wp2_with fail
  go_ret
  exact ⟨rfl, rfl⟩
set_option maxHeartbeats 400000 in
theorem crc_none (c : Nat) (A : Option Addr) (w : World) : Calls Try.prog 67 #[.slice A 0 c] w (Ends (.int .u32 (crc [])) w) := by
  have HC := Lib.hid (more_none 0 c A w (by decide))
  go_enter Try.func67, Try.ntmps67
  go_wp2_with fail
  refine HC.out.mono ?_
  rintro e w1 ⟨rfl, rfl⟩
  go_wp2_with fail
  go_ret
  exact ⟨rfl, rfl⟩
end Go.Proofs.Ytgjdgmpjbpnjbaa.Sum
/-
  What the document's Crc and Fnv answer: the plain sums, for every list of bytes; nothing in memory is touched. Conditions: the slice reads as bytes; it is shorter than a slice can be.
-/
namespace Go.Proofs.Ytgjdgmpjbpnjbaa.Sum
open Go.RowKit Sums
set_option maxRecDepth 100000
end Go.Proofs.Ytgjdgmpjbpnjbaa.Sum
/-
  What the program's and the document's small functions of frame answer: Need, right, Equal, a half, a sector filled. Conditions: the sizes are named.
-/
namespace Go.Proofs.Ytgjdgmpjbpnjbaa.Frm
open Go.RowKit Codec FrameM Cod
set_option maxRecDepth 100000
set_option maxRecDepth 100000
/-- A mark as a value. -/
def mkV (m : Mk) : Value := .agg #[.int .i64 m.kind, .int .i64 m.gen, .int .i64 m.seq, .int .i64 m.n]

/-! ### Need -/
theorem need_any (n : Int) (w : World) (h : in64 n) : Calls Try.prog 37 #[.int .i64 n] w fun e w' => e = .returned (.int .i64 (needI n)) ∧ w = w' := by
  obtain ⟨h1, h2⟩ := h
  by_cases hn : n ≤ 0
  · have HN : Hid (needI n = 0) := Lib.hid (by unfold needI; rw [if_pos hn])
    rw [HN.out]
    go_enter Try.func37, Try.ntmps37
    go_wp2
    go_ret
    exact ⟨rfl, rfl⟩
  · have HN : Hid (needI n = (n - 1) / 64 + 1) := Lib.hid (by unfold needI; rw [if_neg hn])
    have hn1 : 0 < n := by omega
    rw [HN.out]
    clear hn HN
    go_enter Try.func37, Try.ntmps37
    go_wp2
    go_ret
    exact ⟨rfl, rfl⟩
/-! ### Is it a mark -/
theorem right_cases (m : Mk) : (m.right = false ∧ (m.kind < 1 ∨ (1 ≤ m.kind ∧ 255 < m.kind) ∨ (1 ≤ m.kind ∧ m.kind ≤ 255 ∧ m.gen < 0) ∨ (1 ≤ m.kind ∧ m.kind ≤ 255 ∧ 0 ≤ m.gen ∧ m.seq < 0) ∨ (1 ≤ m.kind ∧ m.kind ≤ 255 ∧ 0 ≤ m.gen ∧ 0 ≤ m.seq ∧ m.n < 0))) ∨
    (m.right = true ∧ 1 ≤ m.kind ∧ m.kind ≤ 255 ∧ 0 ≤ m.gen ∧ 0 ≤ m.seq ∧ 0 ≤ m.n) := by
  cases h : m.right with
  | true => exact .inr ⟨rfl, right_iff.1 h⟩
  | false =>
    refine .inl ⟨rfl, ?_⟩
    have hno : ¬ (1 ≤ m.kind ∧ m.kind ≤ 255 ∧ 0 ≤ m.gen ∧ 0 ≤ m.seq ∧ 0 ≤ m.n) := fun k => by rw [right_iff.2 k] at h; cases h
    by_cases h1 : 1 ≤ m.kind <;> by_cases h2 : m.kind ≤ 255 <;> by_cases h3 : 0 ≤ m.gen <;> by_cases h4 : 0 ≤ m.seq <;> by_cases h5 : 0 ≤ m.n <;> omega
theorem alloc_below (w : World) (o : Obj) : Below w.heap.size w (w.alloc o) := (Below.refl _ w).alloc (Nat.le_refl _) o
set_option maxHeartbeats 1000000 in
theorem right_any (m : Mk) (w : World) : Calls Try.prog 56 #[mkV m] w (EndsBelow (.bool m.right) w) := by
  have hr := right_cases m
  obtain ⟨k, g, s, n⟩ := m
  dsimp only [mkV] at hr ⊢
  rcases hr with ⟨hb, h | ⟨h, h2⟩ | ⟨h, h2, h3⟩ | ⟨h, h2, h3, h4⟩ | ⟨h, h2, h3, h4, h5⟩⟩ | ⟨hb, h, h2, h3, h4, h5⟩
  all_goals
    rw [hb]
    clear hb
    try (have hd : decide (0 ≤ n) = false := by simpa using h5)
    go_enter Try.func56, Try.ntmps56
    go_wp2
    go_ret
    exact ⟨rfl, alloc_below _ _⟩
/-! ### Equal -/
theorem beq_dec (xs ys : List UInt8) : (xs == ys) = decide (xs = ys) := by
  rw [Bool.eq_iff_iff]
  simp
set_option maxHeartbeats 400000 in
theorem equal_any (w : World) (B B' n n' c c' : Nat) (A A' : Option Addr) (xs ys : List UInt8) (h : Byts w B A n xs) (h' : Byts w B' A' n' ys) :
    Calls Try.prog 66 #[.slice A n c, .slice A' n' c'] w fun e w' => e = .returned (.bool (decide (xs = ys))) ∧ w = w' := by
  have h1 := run_string_of w B n c A xs h
  have h2 := run_string_of w B' n' c' A' ys h'
  clear h h'
  go_enter Try.func66, Try.ntmps66
  go_wp2
  go_ret
  refine ⟨?_, rfl⟩
  simp
  exact beq_dec xs ys
end Go.Proofs.Ytgjdgmpjbpnjbaa.Frm
/-
  A slice of slices of bytes in memory; a sector filled with bytes, one behind the other. Conditions: together they are at most a sector.
-/
namespace Go.Proofs.Ytgjdgmpjbpnjbaa.Frm
open Go.RowKit Codec FrameM Cod
set_option maxRecDepth 100000
set_option maxRecDepth 100000
/-- The slice of n slices at A is ls; all lies below block B. -/
structure Rows (w : World) (B : Nat) (A : Option Addr) (n : Nat) (ls : List (List UInt8)) : Prop where
  len : ls.length = n
  at_ : 0 < n → ∃ b off, A = some ⟨b, off, none⟩ ∧ b < B ∧ ∀ j, j < n → ∃ Aj cj, w.cell? ⟨b, off + j, none⟩ = some (.slice Aj (ls.getD j []).length cj) ∧
    Byts w B Aj (ls.getD j []).length (ls.getD j []) ∧ (ls.getD j []).length ≤ cj ∧ cj ≤ maxLen
theorem Rows.none_ {w : World} {B : Nat} {A : Option Addr} : Rows w B A 0 [] := ⟨rfl, fun h => absurd h (by omega)⟩
section
variable {w w' : World} {B B' n : Nat} {A : Option Addr} {ls : List (List UInt8)}
theorem Rows.keep (h : Rows w B A n ls) (hk : ∀ k, k < B → w'.heap[k]? = w.heap[k]?) : Rows w' B A n ls :=
  ⟨h.len, fun hn => by
    obtain ⟨b, off, e, hb, hc⟩ := h.at_ hn
    refine ⟨b, off, e, hb, fun j hj => ?_⟩
    obtain ⟨Aj, cj, h1, h2, h3, h4⟩ := hc j hj
    exact ⟨Aj, cj, (World.cell?_of_block (w := w) (hk b hb)).trans h1, h2.keep hk, h3, h4⟩⟩
theorem Rows.more (h : Rows w B A n ls) (hB : B ≤ B') : Rows w B' A n ls :=
  ⟨h.len, fun hn => by
    obtain ⟨b, off, e, hb, hc⟩ := h.at_ hn
    refine ⟨b, off, e, by omega, fun j hj => ?_⟩
    obtain ⟨Aj, cj, h1, h2, h3, h4⟩ := hc j hj
    exact ⟨Aj, cj, h1, h2.more hB, h3, h4⟩⟩
theorem Rows.below (h : Rows w B A n ls) (hb : Below B w w') : Rows w' B A n ls := h.keep hb.block
theorem Rows.alloc (h : Rows w B A n ls) (hB : B ≤ w.heap.size) (o : Obj) : Rows (w.alloc o) B A n ls := h.keep fun k hk => Below.heap_alloc w o k (by omega)
end
theorem getD_of {α : Type} {l : List α} {j : Nat} {d : α} (h : j < l.length) : l.getD j d = l[j] := by simp [List.getD_eq_getElem?_getD, h]

theorem info5 : (Try.prog.info? 5).map (fun i => (i.zero, i.size, i.bytes)) = some (some (.int .u8 0), 1, 1) := by kernel_rfl
theorem size5i : (Try.prog.info? 5).map (·.size) = some 1 := by kernel_rfl
theorem made (n : Nat) : madeCells (Value.cells (.int .u8 0)) n = (cel (zeros n)).toArray := by
  apply Array.ext
  · simp [madeCells, cel, zeros]
  · intro i _ _
    simp [madeCells, cel, zeros, Value.cells, byt, Nat.mod_one]
theorem run_make_bytes (w : World) (n : Nat) (hn : n ≤ 1000000000) : (Instr.makeSlice 35 (.int .i64 n) (.int .i64 n)).run Try.prog w = .ok (.slice (some ⟨w.heap.size, 0, none⟩) n n) (w.alloc (.cells (cel (zeros n)).toArray 5)) := by
  obtain ⟨i0, hi, hz0, hz1, hz2⟩ := info_parts info5
  have := run_make (P := Try.prog) w 35 5 i0 _ Try.underlying35 hi hz0 .i64 .i64 n n (by omega) (by omega) (by rw [hz2]; omega) (by omega)
  rw [hz1] at this
  simpa [made] using this
/-- Bytes behind the first ones. -/
theorem splice_cel (xs ys : List UInt8) (off : Nat) : splice (cel xs) off (cel ys) = cel (splice xs off ys) := by
  simp [splice, cel]
section
variable {ops : Array Oper} {rest : List Oper} {o : Oper} {a : Act} {Q : Exit → Act → World → Prop}
/-- copy into a block of bytes, known whole. -/
theorem wpList_copy_to (w : World) (hgd : o.guard = none) (d s : Operand) (ho : o.op = .call { callee := .builtin .copy, args := #[d, s], argTypes := #[35, 35] })
    (g p : Nat) (xs ys : List UInt8) (dp Aj : Option Addr) (len c q c' B : Nat) (hd : a.eval d = .slice dp len c) (hs : a.eval s = .slice Aj q c') (hy : Byts w B Aj q ys) (hq : q ≤ len)
    (hdp : 0 < q → dp = some ⟨g, p, none⟩) (hg : w.heap[g]? = some (.cells (cel xs).toArray 5 (0, 0))) (hfit : p + q ≤ xs.length) (w0 : World) (B1 : Nat) (hb : Below B1 w0 w) (hBg : B1 ≤ g)
    (h : ∀ w', Hid (w'.heap[g]? = some (.cells (cel (splice xs p ys)).toArray 5 (0, 0))) → Hid (Below B1 w0 w') → wpList Try.prog ops Q rest (a.put o.dst (.int .i64 q)) w') : wpList Try.prog ops Q (o :: rest) a w := by
  have hl := hy.len
  refine wpList_copy_splice hgd d s 35 35 ho 5 Try.underlying35 size5i dp Aj len c q c' hd hs g p (cel xs) 5 hg (cel ys) (by rw [cel_length, hl]; exact (Nat.min_eq_left hq).symm) (fun h0 => ?_) (by rw [cel_length, cel_length, hl]; exact hfit) (cel_one ys) B1 w0 hb hBg ?_
  · rw [cel_length, hl] at h0
    obtain ⟨b, off, rfl, _, hc⟩ := hy.at_ h0
    refine ⟨hdp h0, _, rfl, fun j v hv => ?_⟩
    have hj : j < q := by
      have := (List.getElem?_eq_some_iff.1 hv).1
      rwa [cel_length, hl] at this
    rw [plain_add, hc j hj, ← cel_get ys j (by omega)]
    exact hv
  · intro w' h1 h2
    have e : goInt (cel ys).length = .int .i64 q := by rw [cel_length, hl]; rfl
    rw [e]
    rw [splice_cel] at h1
    exact h w' h1 (Lib.hid h2)
end
theorem splice_pad (xs ys : List UInt8) (h : xs.length + ys.length ≤ 64) : splice (pad xs) xs.length ys = pad (xs ++ ys) := by
  unfold splice pad zeros
  rw [List.take_left, List.drop_append, List.drop_eq_nil_of_le (by omega), List.nil_append, List.drop_replicate, List.append_assoc, List.length_append,
    show 64 - xs.length - (xs.length + ys.length - xs.length) = 64 - (xs.length + ys.length) by omega]
theorem flat_step (ls : List (List UInt8)) (j : Nat) (h : j < ls.length) : (ls.take (j + 1)).flatten = (ls.take j).flatten ++ ls.getD j [] := by
  rw [List.take_succ_eq_append_getElem h, getD_of h, List.flatten_append]
  simp only [List.flatten_cons, List.flatten_nil, List.append_nil]
theorem flat_le (ls : List (List UInt8)) (j : Nat) : (ls.take j).flatten.length ≤ ls.flatten.length := by
  have : ls.flatten = (ls.take j).flatten ++ (ls.drop j).flatten := by rw [← List.flatten_append, List.take_append_drop]
  rw [this, List.length_append]
  omega
theorem pad_length (xs : List UInt8) (h : xs.length ≤ 64) : (pad xs).length = 64 := by simp [pad, zeros]; omega
/-- A sector of the call's own: the block made first. -/
def Filled (w : World) (s : List UInt8) (e : Ending) (w' : World) : Prop :=
  e = .returned (.slice (some ⟨w.heap.size, 0, none⟩) 64 64) ∧ w'.heap[w.heap.size]? = some (.cells (cel s).toArray 5 (0, 0)) ∧ Below w.heap.size w w'
set_option maxHeartbeats 1000000 in
theorem filled_any (w : World) (B k c : Nat) (A : Option Addr) (ls : List (List UInt8)) (h : Rows w B A k ls) (hB : B ≤ w.heap.size) (hk : k ≤ 1000000) (ht : ls.flatten.length ≤ 64) :
    Calls Try.prog 58 #[.slice A k c] w (Filled w (pad ls.flatten)) := by
  have hmk : ∀ w : World, (Instr.makeSlice 35 (.int .i64 64) (.int .i64 64)).run Try.prog w = .ok (.slice (some ⟨w.heap.size, 0, none⟩) 64 64) (w.alloc (.cells (cel (zeros 64)).toArray 5)) := fun w => run_make_bytes w 64 (by omega)
  have HR := Lib.hid h
  have HT := Lib.hid ht
  clear h ht
  go_enter Try.func58, Try.ntmps58
  go_wp2
  go_loopw [4, 10] (fun n i wr => ∃ j : Nat, j ≤ k ∧ i = .int .i64 j ∧ n = .int .i64 (ls.take j).flatten.length ∧ wr.heap[w.heap.size]? = some (.cells (cel (pad (ls.take j).flatten)).toArray 5 (0, 0)) ∧ Below w.heap.size w wr) (fun _ i _ => k - (intOf i).toNat)
  case atStart => exact ⟨0, by omega, rfl, rfl, heap_alloc_new w _, alloc_below _ _⟩
  case round =>
    obtain ⟨j, hj, rfl, rfl, hg, hbel⟩ := hrel
    have HG := Lib.hid hg
    have HB := Lib.hid hbel
    clear hg hbel
    by_cases hlt : j < k
    · obtain ⟨b, off, rfl, hb, hc⟩ := HR.out.at_ (by omega)
      obtain ⟨Aj, cj, h1, h2, h3, h4⟩ := hc j hlt
      have hcell : wr.cell? ⟨b, off + j, none⟩ = some (.slice Aj (ls.getD j []).length cj) := (HB.out.cell (p := ⟨b, off + j, none⟩) (by show b < _; omega)).trans h1
      have HY := Lib.hid ((h2.more hB).below HB.out)
      have hjl : j < ls.length := by rw [HR.out.len]; exact hlt
      have HS := Lib.hid (flat_step ls j hjl)
      have hle := flat_le ls (j + 1)
      have HF := Lib.hid HT.out
      have hxy : (ls.take j).flatten.length + (ls.getD j []).length ≤ 64 := by
        rw [HS.out, List.length_append] at hle
        have := HF.out
        omega
      clear hle h1 h2 hc
      have h4' : cj ≤ 9223372036854775807 := h4
      clear h4
      generalize ls.getD j [] = ys at *
      generalize (ls.take j).flatten = xs at *
      have HP := Lib.hid (splice_pad xs ys hxy)
      have HPL := Lib.hid (pad_length xs (by omega))
      have HXL : Hid (((ls.take (j + 1)).flatten.length : Int) = (xs.length : Int) + (ys.length : Int)) := Lib.hid (by rw [HS.out, List.length_append]; simp)
      obtain ⟨p, hp⟩ : ∃ p, xs.length = p := ⟨_, rfl⟩
      obtain ⟨q, hq⟩ : ∃ q, ys.length = q := ⟨_, rfl⟩
      rw [hp] at hxy HP HXL
      rw [hq] at hxy hcell HY h3 HXL
      rw [hp]
      clear hp hq
      have hp64 : p ≤ 64 := by omega
      have hs1 := fun v => run_from v (some ⟨w.heap.size, 0, none⟩) 64 64 p hp64
      have HD : Hid (0 < q → (if 64 = p then some ⟨w.heap.size, 0, none⟩ else (some (⟨w.heap.size, 0, none⟩ : Addr)).map (·.add p)) = some ⟨w.heap.size, p, none⟩) := Lib.hid (fun h0 => by
        rw [if_neg (by omega), Option.map_some, plain_add, Nat.zero_add])
      generalize (if 64 = p then some ⟨w.heap.size, 0, none⟩ else (some (⟨w.heap.size, 0, none⟩ : Addr)).map (·.add p)) = A2 at *
      go_wp2_with (with_reducible refine wpList_copy_to _ rfl (.tmp 17) (.tmp 18) rfl w.heap.size p (pad xs) ys A2 Aj (64 - p) (64 - p) q cj w.heap.size rfl rfl HY.out (by omega) HD.out HG.out (by have := HPL.out; omega) w w.heap.size HB.out (Nat.le_refl _) ?_; intro w1 hg1 hb1)
      go_roundw
      case rel => exact ⟨j + 1, by omega, by go_num, by rw [HXL.out], by rw [HS.out, ← HP.out]; exact hg1.out, hb1.out⟩
      case measure => simp [intOf]; omega
    · obtain rfl : j = k := by omega
      go_wp2
      go_ret
      have h := HG.out
      rw [List.take_of_length_le (by rw [HR.out.len]; omega)] at h
      exact ⟨rfl, h, HB.out⟩
end Go.Proofs.Ytgjdgmpjbpnjbaa.Frm
/-
  What the program's laid and Put answer: a mark's half, and its sector. No condition.
-/
namespace Go.Proofs.Ytgjdgmpjbpnjbaa.Frm
open Go.RowKit Codec FrameM Cod
set_option maxRecDepth 100000
set_option maxRecDepth 100000
/-- Where a slice lies: from block lo on. -/
def Above (lo : Nat) (A : Option Addr) : Prop := ∀ p : Addr, A = some p → lo ≤ p.block
theorem Above.none_ {lo : Nat} : Above lo none := fun p e => by cases e
theorem Above.one {lo b o : Nat} (h : lo ≤ b) : Above lo (some ⟨b, o, none⟩) := fun p e => by cases e; exact h
theorem Above.mono {lo lo' : Nat} {A : Option Addr} (h : Above lo A) (hl : lo' ≤ lo) : Above lo' A := fun p e => Nat.le_trans hl (h p e)
/-- Its block holds bytes. -/
def U8 (w : World) (A : Option Addr) : Prop := ∀ p : Addr, A = some p → ∃ cs : Array Value, w.heap[p.block]? = some (.cells cs 5 (0, 0))
theorem U8.none_ {w : World} : U8 w none := fun p e => by cases e
theorem U8.one {w : World} {b o : Nat} {cs : Array Value} (h : w.heap[b]? = some (.cells cs 5 (0, 0))) : U8 w (some ⟨b, o, none⟩) := fun p e => by cases e; exact ⟨cs, h⟩
theorem U8.below {w w' : World} {A : Option Addr} (h : U8 w A) (hb : Below w.heap.size w w') : U8 w' A := fun p e => by
  obtain ⟨cs, hc⟩ := h p e
  exact ⟨cs, (hb.block _ (lt_of_heap hc)).trans hc⟩
theorem own_u8 {w : World} {base n c : Nat} {A : Option Addr} {xs : List UInt8} (h : Owns w base (.slice A n c) n xs) : U8 w A := by
  intro p e
  rcases h.2 with ⟨e1, _⟩ | ⟨g, cap, cur, e1, _, hh, _⟩
  · injection e1 with e1 _ _
    rw [e1] at e
    cases e
  · injection e1 with e1 _ _
    rw [e1] at e
    cases e
    exact ⟨cur, hh⟩
theorem own_above {w : World} {base n c : Nat} {A : Option Addr} {xs : List UInt8} (h : Owns w base (.slice A n c) n xs) : Above base A := by
  intro p e
  rcases h.2 with ⟨e1, _⟩ | ⟨g, cap, cur, e1, hg, _⟩
  · injection e1 with e1 _ _
    rw [e1] at e
    cases e
  · injection e1 with e1 _ _
    rw [e1] at e
    cases e
    exact hg
/-- A slice that reads as these bytes. -/
def Gives (w : World) (xs : List UInt8) (e : Ending) (w' : World) : Prop :=
  ∃ A c, e = .returned (.slice A xs.length c) ∧ Byts w' w'.heap.size A xs.length xs ∧ Below w.heap.size w w' ∧ xs.length ≤ c ∧ c ≤ maxLen ∧ Above w.heap.size A
theorem Gives.of_own {w w' : World} {base n : Nat} {A : Option Addr} {c : Nat} {xs : List UInt8} (h : Owns w' base (.slice A n c) n xs) (hb : Below w.heap.size w w') (hlo : w.heap.size ≤ base) : Gives w xs (.returned (.slice A n c)) w' := by
  have hl := h.len
  subst hl
  obtain ⟨A', c', e, h1, h2⟩ := h.form
  injection e with e1 _ e3
  subst e1 e3
  exact ⟨A, c, rfl, h.byts, hb, h1, h2, (own_above h).mono hlo⟩
theorem Wr.below {w w' : World} {base g : Nat} {xs : List UInt8} (h : Wr w base g xs) (hb : Below w.heap.size w w') : Wr w' base g xs := by
  obtain ⟨A, n, c, hg, hown, hB⟩ := h
  exact ⟨A, n, c, (hb.block g (lt_of_heap hg)).trans hg, hown.below hb, hB⟩
theorem row_of_byts {w : World} {n b off : Nat} {xs : List UInt8} (hl : xs.length = n) (hc : ∀ j, j < n → w.cell? ⟨b, off + j, none⟩ = some (byt (xs.getD j 0))) : Sum.Row w b off n (nats xs) :=
  ⟨by simp [nats, hl], fun i hi => by
    rw [hc i hi]
    have : i < xs.length := by omega
    simp [nats, byt, List.getD_eq_getElem?_getD, this], fun i => by
    by_cases h : i < xs.length
    · have := (xs[i]).toNat_lt
      simp [nats, List.getD_eq_getElem?_getD, h]
      omega
    · simp [nats, List.getD_eq_getElem?_getD, h]⟩
theorem crc_byts (w : World) (B n c : Nat) (A : Option Addr) (xs : List UInt8) (h : Byts w B A n xs) (hn : n ≤ 1000000000) : Calls Try.prog 67 #[.slice A n c] w (Sum.Ends (.int .u32 (crcOf xs)) w) := by
  rcases Nat.eq_zero_or_pos n with h0 | h0
  · subst h0
    obtain rfl : xs = [] := List.eq_nil_of_length_eq_zero h.len
    exact Sum.crc_none c A w
  · obtain ⟨b, off, rfl, _, hc⟩ := h.at_ h0
    exact Sum.crc_some b off n c (nats xs) w (row_of_byts h.len hc) (by omega)
/-- Two small numbers, and three numbers, as the walk makes the slice of them. -/
theorem small_two (w : World) (base g : Nat) (a b : Int) (xs : List UInt8) (hw : Wr w base g xs) (hn : xs.length ≤ 800000000) (hB : base ≤ w.heap.size) :
    Calls Try.prog 70 #[.pointer (some ⟨g, 0, none⟩), .slice (some ⟨w.heap.size, 0, none⟩) 2 2] (w.alloc (.cells #[.int .i64 a, .int .i64 b] 3)) (LaidA (w.alloc (.cells #[.int .i64 a, .int .i64 b] 3)) base g (xs ++ (encSmall a ++ encSmall b))) := by
  have hg : g < w.heap.size := by
    obtain ⟨A, n, c, h, _⟩ := hw
    exact lt_of_heap h
  have h := small_many (w.alloc (.cells #[.int .i64 a, .int .i64 b] 3)) base g w.heap.size [a, b] xs (hw.alloc _) hn (by simp) (by simp; omega) (by omega) (heap_alloc_new w _) 2 rfl
  simpa [encAll] using h
theorem num_three (w : World) (base g : Nat) (a b c : Int) (xs : List UInt8) (hw : Wr w base g xs) (hn : xs.length ≤ 800000000) (hB : base ≤ w.heap.size) :
    Calls Try.prog 71 #[.pointer (some ⟨g, 0, none⟩), .slice (some ⟨w.heap.size, 0, none⟩) 3 3] (w.alloc (.cells #[.int .i64 a, .int .i64 b, .int .i64 c] 2))
      (LaidA (w.alloc (.cells #[.int .i64 a, .int .i64 b, .int .i64 c] 2)) base g (xs ++ (encNum a ++ (encNum b ++ encNum c)))) := by
  have hg : g < w.heap.size := by
    obtain ⟨A, n, c, h, _⟩ := hw
    exact lt_of_heap h
  have h := num_many (w.alloc (.cells #[.int .i64 a, .int .i64 b, .int .i64 c] 2)) base g w.heap.size [a, b, c] xs (hw.alloc _) hn (by simp) (by simp; omega) (by omega) (heap_alloc_new w _) 3 rfl
  simpa [encAll] using h
theorem wr_new (w : World) (base : Nat) (hB : base ≤ w.heap.size) : Wr (w.alloc (.cells #[.slice none 0 0] 109)) base w.heap.size [] := ⟨none, 0, 0, heap_alloc_new w _, Owns.nil, hB⟩
theorem low_half (s : Nat) (h : s < 4294967296) : bits .and .u32 (s : Int) 65535 = ((s % 65536 : Nat) : Int) := by
  rw [show (65535 : Int) = ((65535 : Nat) : Int) from rfl, u32_and_nat _ _ h (by decide), show (65535 : Nat) = 2 ^ 16 - 1 from rfl, Nat.and_two_pow_sub_one_eq_mod]
theorem box_kept {w w' : World} {m : Mk} (h : Below (w.heap.size + 1) (w.alloc (.cells #[.int .i64 m.kind, .int .i64 m.gen, .int .i64 m.seq, .int .i64 m.n] 79)) w') (i : Nat) :
    w'.cell? ⟨w.heap.size, i, none⟩ = (#[.int .i64 m.kind, .int .i64 m.gen, .int .i64 m.seq, .int .i64 m.n] : Array Value)[i]? := by
  rw [h.cell (p := ⟨w.heap.size, i, none⟩) (by show w.heap.size < _; omega)]
  exact cell_at (heap_alloc_new w _) i
theorem sized {w w' : World} {o : Obj} (h : Below (w.heap.size + 1) (w.alloc o) w') : w.heap.size + 1 ≤ w'.heap.size := by
  have := h.size
  rwa [World.size_alloc] at this
set_option maxHeartbeats 2000000 in
theorem laid_any (m : Mk) (w : World) : Calls Try.prog 57 #[mkV m] w (Gives w (half m)) := by
  have HH : Hid (half m = body m ++ (encSmall (crcOf (body m) % 65536 : Nat) ++ encSmall (crcOf (body m) / 65536 : Nat))) := Lib.hid rfl
  have HBD : Hid (body m = [] ++ (encSmall 19796 ++ encSmall m.kind) ++ (encNum m.gen ++ (encNum m.seq ++ encNum m.n))) := Lib.hid (by simp [body])
  have HS := Lib.hid (low_half (crcOf (body m)) (crcOf_lt _))
  have hsl := crcOf_lt (body m)
  have HL := Lib.hid (body_length m)
  have HB0 : Hid (Below (w.heap.size + 1) (w.alloc (.cells #[.int .i64 m.kind, .int .i64 m.gen, .int .i64 m.seq, .int .i64 m.n] 79)) ((w.alloc (.cells #[.int .i64 m.kind, .int .i64 m.gen, .int .i64 m.seq, .int .i64 m.n] 79)).alloc (.cells #[.slice none 0 0] 109))) :=
    Lib.hid ((Below.refl _ _).alloc (by simp) _)
  have hw := wr_new (w.alloc (.cells #[.int .i64 m.kind, .int .i64 m.gen, .int .i64 m.seq, .int .i64 m.n] 79)) (w.heap.size + 1) (by simp)
  rw [World.size_alloc] at hw
  have hc1 := small_two _ (w.heap.size + 1) (w.heap.size + 1) 19796 m.kind [] hw (by simp) (by simp)
  simp only [World.size_alloc] at hc1
  have HC1 := Lib.hid hc1
  clear hc1 hw
  unfold mkV
  obtain ⟨k, g, s, n⟩ := m
  dsimp only at *
  go_enter Try.func57, Try.ntmps57
  go_wp2_with fail
  refine HC1.out.mono ?_
  rintro e w1 ⟨rfl, hW1, hb1, _⟩
  have HB1 := Lib.hid ((HB0.out.alloc (by simp) _).trans hb1)
  have b1 := box_kept (m := ⟨k, g, s, n⟩) HB1.out 1
  have b2 := box_kept (m := ⟨k, g, s, n⟩) HB1.out 2
  have b3 := box_kept (m := ⟨k, g, s, n⟩) HB1.out 3
  dsimp only at b1 b2 b3
  have hz1 := HB1.out.size
  simp only [World.size_alloc] at hz1
  have HC2 := Lib.hid (num_three w1 _ _ g s n _ hW1 (by simp [encSmall_length]) hz1)
  clear hW1 hb1 HC1
  go_wp2_with fail
  refine HC2.out.mono ?_
  rintro e w2 ⟨rfl, hW2, hb2, _⟩
  rw [← HBD.out] at hW2
  have HB2 := Lib.hid ((HB1.out.alloc hz1 _).trans hb2)
  have HW2 := Lib.hid hW2
  have HC3 := Lib.hid (bytes_some w2 _ _ _ hW2 (by rw [HL.out]; decide))
  clear hW2 hb2 HC2 b1 b2 b3
  generalize body ⟨k, g, s, n⟩ = xs at *
  rw [HL.out] at HC3
  go_wp2_with fail
  refine HC3.out.mono ?_
  rintro e w3 ⟨A3, c3, rfl, ho, hb3⟩
  have HW3 := Lib.hid (Wr.below HW2.out hb3)
  have HB3 := Lib.hid (HB2.out.trans (hb3.mono (sized HB2.out)))
  have HC4 := Lib.hid (crc_byts w3 _ _ c3 A3 _ ho.byts (by decide))
  clear ho hb3 HC3
  go_wp2_with fail
  refine HC4.out.mono ?_
  rintro e w4 ⟨rfl, rfl⟩
  have hz3 := sized HB3.out
  have hc5 := small_two w3 _ _ (crcOf xs % 65536 : Nat) (crcOf xs / 65536 : Nat) _ HW3.out (by rw [HL.out]; decide) hz3
  have HC5 := Lib.hid hc5
  have e1 := HS.out
  clear HC4 hc5
  generalize crcOf xs = S at *
  go_wp2_with fail
  refine HC5.out.mono ?_
  rintro e w5 ⟨rfl, hW5, hb5, _⟩
  rw [← HH.out] at hW5
  have HB5 := Lib.hid ((HB3.out.alloc hz3 _).trans hb5)
  have HC6 := Lib.hid (bytes_some w5 _ _ _ hW5 (by rw [half_length]; decide))
  clear hW5 hb5 HC5 HH
  generalize half ⟨k, g, s, n⟩ = ys at *
  go_wp2_with fail
  refine HC6.out.mono ?_
  rintro e w6 ⟨A6, c6, rfl, ho, hb6⟩
  have HB6 := Lib.hid (HB5.out.trans (hb6.mono (sized HB5.out)))
  have HO := Lib.hid ho
  clear ho hb6 HC6
  go_wp2_with fail
  go_ret
  exact Gives.of_own HO.out ((alloc_below w _).trans (HB6.out.mono (by omega))) (by have h5 := HB5.out.size; simp only [World.size_alloc] at h5; omega)
theorem rows_two (w : World) (B c c' : Nat) (A A' : Option Addr) (xs ys : List UInt8) (h : Byts w B A xs.length xs) (h' : Byts w B A' ys.length ys) (hB : B ≤ w.heap.size) (h1 : xs.length ≤ c) (h2 : c ≤ maxLen) (h1' : ys.length ≤ c') (h2' : c' ≤ maxLen) :
    Rows (w.alloc (.cells #[.slice A xs.length c, .slice A' ys.length c'] 35)) (w.heap.size + 1) (some ⟨w.heap.size, 0, none⟩) 2 [xs, ys] :=
  ⟨rfl, fun _ => ⟨w.heap.size, 0, rfl, by omega, fun j hj => by
    match j, hj with
    | 0, _ => exact ⟨A, c, by rw [World.cell?_alloc_mark]; rfl, (h.alloc hB _).more (by omega), h1, h2⟩
    | 1, _ => exact ⟨A', c', by rw [World.cell?_alloc_mark]; rfl, (h'.alloc hB _).more (by omega), h1', h2'⟩⟩⟩
theorem rows_one (w : World) (B c : Nat) (A : Option Addr) (xs : List UInt8) (h : Byts w B A xs.length xs) (hB : B ≤ w.heap.size) (h1 : xs.length ≤ c) (h2 : c ≤ maxLen) :
    Rows (w.alloc (.cells #[.slice A xs.length c] 35)) (w.heap.size + 1) (some ⟨w.heap.size, 0, none⟩) 1 [xs] :=
  ⟨rfl, fun _ => ⟨w.heap.size, 0, rfl, by omega, fun j hj => by
    match j, hj with
    | 0, _ => exact ⟨A, c, by rw [World.cell?_alloc_mark]; rfl, (h.alloc hB _).more (by omega), h1, h2⟩⟩⟩
theorem filled_byts {w w' : World} {s : List UInt8} {e : Ending} (h : Filled w s e w') (hs : s.length = 64) : Gives w s e w' := by
  obtain ⟨rfl, hg, hb⟩ := h
  refine ⟨_, 64, by rw [hs], ⟨rfl, fun _ => ⟨_, 0, rfl, lt_of_heap hg, fun j hj => ?_⟩⟩, hb, by omega, by unfold maxLen; omega, Above.one (Nat.le_refl _)⟩
  rw [cell_at hg, Nat.zero_add, ← cel_get s j hj]
  simp
theorem pad_two {m : Mk} : pad ([half m, half m] : List (List UInt8)).flatten = half m ++ half m := by
  have : ([half m, half m] : List (List UInt8)).flatten = half m ++ half m := by simp
  rw [this]
  simp [pad, zeros, half_length]
theorem box_of {w w' : World} {m : Mk} (h : Below (w.alloc (.cells #[.int .i64 m.kind, .int .i64 m.gen, .int .i64 m.seq, .int .i64 m.n] 79)).heap.size (w.alloc (.cells #[.int .i64 m.kind, .int .i64 m.gen, .int .i64 m.seq, .int .i64 m.n] 79)) w') (i : Nat) :
    w'.cell? ⟨w.heap.size, i, none⟩ = (#[.int .i64 m.kind, .int .i64 m.gen, .int .i64 m.seq, .int .i64 m.n] : Array Value)[i]? := box_kept (h.mono (by simp)) i
/-- A new sector, these bytes, in a block of its own. -/
def New64 (w : World) (s : List UInt8) (e : Ending) (w' : World) : Prop :=
  ∃ g, e = .returned (.slice (some ⟨g, 0, none⟩) 64 64) ∧ w'.heap[g]? = some (.cells (cel s).toArray 5 (0, 0)) ∧ w.heap.size ≤ g ∧ Below w.heap.size w w'
set_option maxHeartbeats 1000000 in
theorem put_new (m : Mk) (w : World) (hr : m.right = true) : Calls Try.prog 44 #[mkV m] w (New64 w (put m)) := by
  have HC1 := Lib.hid (right_any m (w.alloc (.cells #[.int .i64 m.kind, .int .i64 m.gen, .int .i64 m.seq, .int .i64 m.n] 79)))
  rw [put_right hr]
  rw [hr] at HC1
  clear hr
  have HC2 := Lib.hid (fun w1 => laid_any m w1)
  have HL := Lib.hid (half_length m)
  have HP := Lib.hid (pad_two (m := m))
  unfold mkV at HC1 HC2 ⊢
  obtain ⟨k, g, s, n⟩ := m
  dsimp only at *
  generalize half ⟨k, g, s, n⟩ = xs at *
  go_enter Try.func44, Try.ntmps44
  go_wp2_with fail
  refine HC1.out.mono ?_
  rintro e w1 ⟨rfl, hb1⟩
  have HB1 := Lib.hid hb1
  have b0 := box_of (m := ⟨k, g, s, n⟩) hb1 0
  have b1 := box_of (m := ⟨k, g, s, n⟩) hb1 1
  have b2 := box_of (m := ⟨k, g, s, n⟩) hb1 2
  have b3 := box_of (m := ⟨k, g, s, n⟩) hb1 3
  dsimp only at b0 b1 b2 b3
  clear hb1 HC1
  go_wp2_with fail
  refine (HC2.out w1).mono ?_
  rintro e w2 ⟨A, c, rfl, hbt, hb2, h1, h2, _⟩
  have hz := HB1.out.size
  simp only [World.size_alloc] at hz
  have HB2 := Lib.hid (HB1.out.trans (hb2.mono HB1.out.size))
  have hz2 := HB2.out.size
  simp only [World.size_alloc] at hz2
  have HR := Lib.hid (rows_two w2 _ c c A A xs xs hbt hbt (Nat.le_refl _) h1 h2 h1 h2)
  have HC3 := Lib.hid (filled_any _ _ 2 2 _ [xs, xs] HR.out (by simp) (by decide) (by simp [HL.out]))
  rw [HP.out] at HC3
  clear hbt hb2 HC2 b0 b1 b2 b3 HR
  rw [HL.out] at HC3 h1 ⊢
  go_wp2_with fail
  refine HC3.out.mono ?_
  rintro e w3 ⟨rfl, hg3, hb3⟩
  have HG := Lib.hid (And.intro hg3 hb3)
  clear hg3 hb3
  go_wp2_with fail
  go_ret
  exact ⟨_, rfl, (by have h9 := HG.out.1; rwa [World.size_alloc] at h9), by omega, (alloc_below w _).trans (((HB2.out.mono (by simp)).alloc (by omega) _).trans (HG.out.2.mono (by simp; omega)))⟩
theorem New64.gives {w w' : World} {s : List UInt8} {e : Ending} (h : New64 w s e w') (hs : s.length = 64) : Gives w s e w' := by
  obtain ⟨g, rfl, hg, hlo, hb⟩ := h
  refine ⟨_, 64, by rw [hs], ⟨rfl, fun _ => ⟨_, 0, rfl, lt_of_heap hg, fun j hj => ?_⟩⟩, hb, by omega, by unfold maxLen; omega, Above.one hlo⟩
  rw [cell_at hg, Nat.zero_add, ← cel_get s j hj]
  simp
set_option maxHeartbeats 1000000 in
theorem put_any (m : Mk) (w : World) : Calls Try.prog 44 #[mkV m] w (Gives w (put m)) := by
  have HC1 := Lib.hid (right_any m (w.alloc (.cells #[.int .i64 m.kind, .int .i64 m.gen, .int .i64 m.seq, .int .i64 m.n] 79)))
  cases hr : m.right with
  | false =>
    rw [put_wrong hr]
    rw [hr] at HC1
    clear hr
    unfold mkV at HC1 ⊢
    obtain ⟨k, g, s, n⟩ := m
    dsimp only at *
    go_enter Try.func44, Try.ntmps44
    go_wp2_with fail
    refine HC1.out.mono ?_
    rintro e w1 ⟨rfl, hb1⟩
    go_wp2_with fail
    go_ret
    exact ⟨none, 0, rfl, Byts.none_, (alloc_below w _).trans (hb1.mono (by simp)), Nat.le_refl _, Nat.zero_le _, Above.none_⟩
  | true =>
    clear HC1
    exact (put_new m w hr).mono fun _ _ h => h.gives (put_length hr)
end Go.Proofs.Ytgjdgmpjbpnjbaa.Frm
/-
  What the document's half and Put answer: a mark's half, and its sector. No condition.
-/
namespace Go.Proofs.Ytgjdgmpjbpnjbaa.Frm
open Go.RowKit Codec FrameM Cod
set_option maxRecDepth 100000
set_option maxRecDepth 100000
theorem own_lit (w : World) (base : Nat) (xs : List UInt8) (cs : Array Value) (n : Nat) (hcs : cs.toList = cel xs) (hl : xs.length = n) (hB : base ≤ w.heap.size) (hn : n ≤ 1000000000) :
    Owns (w.alloc (.cells cs 5)) base (.slice (some ⟨w.heap.size, 0, none⟩) n n) n xs := by
  have h := World.ownsRow_lit (base := base) (e := 5) (size := 1) w cs n hB (by unfold maxLen; omega) (by rw [← Array.length_toList, hcs, cel_length, hl, Nat.mul_one])
  rw [hcs] at h
  exact h
/-- append as a step of a region that draws its order. -/
theorem step_app {ops : Array Oper} {o : Oper} {a : Act} {w : World} {K : Act → World → Prop} {Q : Exit → Act → World → Prop} {E : Prop} (hgd : o.guard = none) (s x : Operand)
    (ho : o.op = .call { callee := .builtin .append, args := #[s, x], argTypes := #[35, 35] })
    (base : Nat) (v : Value) (n : Nat) (xs : List UInt8) (hs : a.eval s = v) (hown : Owns w base v n xs) (B : Nat) (A : Option Addr) (m c : Nat) (ys : List UInt8) (hx : a.eval x = .slice A m c) (hr : Byts w B A m ys)
    (hn : n + m ≤ 1000000000) (hbase : base ≤ w.heap.size)
    (h : ∀ A' c' w', Owns w' base (.slice A' (n + m) c') (n + m) (xs ++ ys) → w.grownBy w' v.ownBlock → K (a.put o.dst (.slice A' (n + m) c')) w') :
    if Region.wanted o (yielded ops a.tmps) = true then Oper.wp Try.prog o a w K Q else E := by
  have hw : Region.wanted o (yielded ops a.tmps) = true := by simp [Region.wanted, hgd]
  rw [if_pos hw]
  obtain ⟨A', c', w', hrun, h2, h3⟩ := run_app w o.type base v n xs hown B A m c ys hr hn hbase
  unfold Oper.wp execOp
  simp only [ho, resolve, invoke, builtin, Sem.run_bind, Sem.run_pure, Result.andThen_ok, List.map_toArray, List.map_cons, List.map_nil, hs, hx, hrun]
  exact h A' c' w' h2 h3
theorem le_four (s : Nat) : le 4 s = [UInt8.ofNat (s % 256), UInt8.ofNat (s / 256 % 256), UInt8.ofNat (s / 256 / 256 % 256), UInt8.ofNat (s / 256 / 256 / 256 % 256)] := rfl
theorem four_bytes (w : World) (s : Nat) (a b c d : Int) (ha : a = (s : Int) % 256) (hb : b = (s : Int) / 256 % 256) (hc : c = (s : Int) / 65536 % 256) (hd : d = (s : Int) / 16777216 % 256) :
    Byts (w.alloc (.cells #[.int .u8 a, .int .u8 b, .int .u8 c, .int .u8 d] 5)) (w.heap.size + 1) (some ⟨w.heap.size, 0, none⟩) 4 (le 4 s) := by
  have e : (#[.int .u8 a, .int .u8 b, .int .u8 c, .int .u8 d] : Array Value).toList = cel (le 4 s) := by
    rw [le_four]
    simp [cel, byt]
    omega
  have := (own_lit w w.heap.size (le 4 s) _ 4 e (le_length _ _) (Nat.le_refl _) (by decide)).byts
  rwa [World.size_alloc] at this
theorem half_ref (m : Mk) : half m = body m ++ le 4 (crcOf (body m)) := by
  unfold half
  rw [sum_bytes _ (crcOf_lt _)]
theorem body_ref (m : Mk) : body m = [84, 77] ++ encSmall m.kind ++ encNum m.gen ++ encNum m.seq ++ encNum m.n := by
  unfold body
  rw [letters_bytes]
  simp only [List.append_assoc]
/-- append onto a full slice, whosever it is: a new row. -/
theorem wpList_app_full (w : World) {ops : Array Oper} {rest : List Oper} {o : Oper} {a : Act} {Q : Exit → Act → World → Prop} (hgd : o.guard = none) (s x : Operand)
    (ho : o.op = .call { callee := .builtin .append, args := #[s, x], argTypes := #[35, 35] })
    (b : Addr) (n : Nat) (xs : List UInt8) (hs : a.eval s = .slice (some b) n n) (hl : xs.length = n) (hc : ∀ j, j < n → w.cell? (b.add j) = some (byt (xs.getD j 0))) (B : Nat) (A : Option Addr) (m c : Nat) (ys : List UInt8) (hx : a.eval x = .slice A m c) (hr : Byts w B A m ys)
    (hm : 0 < m) (hn : n + m ≤ 1000000000)
    (h : ∀ A' c' w', Owns w' w.heap.size (.slice A' (n + m) c') (n + m) (xs ++ ys) → w.grownBy w' none → wpList Try.prog ops Q rest (a.put o.dst (.slice A' (n + m) c')) w') : wpList Try.prog ops Q (o :: rest) a w := by
  obtain ⟨i0, hi0, hz0, hz1, hz2⟩ := info_parts info5
  obtain ⟨b', off', rfl, _, hy⟩ := hr.at_ hm
  refine wpList_append_grows w hgd s x 35 ho 5 i0 _ 1 1 Try.underlying35 hi0 hz0 hz1 hz2 rfl (by decide) (some b) n n (cel xs) hs (fun h => by cases h) (by rw [cel_length, hl, Nat.mul_one]) (fun b0 e j u hu => ?_) _ m c (cel ys) hx (by rw [cel_length, hr.len, Nat.mul_one]) (fun j u hu => ?_) (cel_one ys) (by omega) (by unfold maxLen; omega) (by omega) (fun v' w' h1 h2 => ?_)
  · injection e with e
    subst e
    have hj : j < n := by
      have := (List.getElem?_eq_some_iff.1 hu).1
      rwa [cel_length, hl] at this
    rw [hc j hj, ← cel_get xs j (by omega)]
    exact hu
  · have hj : j < m := by
      have := (List.getElem?_eq_some_iff.1 hu).1
      rwa [cel_length, hr.len] at this
    rw [plain_add, hy j hj, ← cel_get ys j (by rw [hr.len]; exact hj)]
    exact hu
  · rw [cel_app] at h1
    obtain ⟨A', c', rfl, _, _⟩ := Owns.form h1
    exact h A' c' w' h1 h2
/-- The letters, as the text makes them: a block with a mark behind its last byte. -/
def tm (w : World) : World := w.alloc (.cells #[.int .u8 84, .int .u8 77] 5 (2, 3))
theorem tm_cell (w : World) (j : Nat) (h : j < 2) : (tm w).cell? ((⟨w.heap.size, 0, none⟩ : Addr).add j) = some (byt (([84, 77] : List UInt8).getD j 0)) := by
  rw [plain_add, tm, World.cell?_alloc_mark]
  match j, h with
  | 0, _ => rfl
  | 1, _ => rfl
end Go.Proofs.Ytgjdgmpjbpnjbaa.Frm
/-
  What the document's Reader reads: get, Num, Count, Text. Conditions: the Reader's block is known.
-/
namespace Go.Proofs.Ytgjdgmpjbpnjbaa.Cod
open Go.RowKit Codec
set_option maxRecDepth 100000
end Go.Proofs.Ytgjdgmpjbpnjbaa.Cod
/-
  What the document's Reader reads: Count, Text. Conditions: the Reader's block is known.
-/
namespace Go.Proofs.Ytgjdgmpjbpnjbaa.Cod
open Go.RowKit Codec
set_option maxRecDepth 100000
theorem two_of (xs : List UInt8) (h : xs.length = 2) : leVal xs = (xs.getD 0 0).toNat + 256 * (xs.getD 1 0).toNat := by
  match xs, h with
  | [x, y], _ => simp [leVal]
theorem grown_drewN {w w' : World} {row : Option Nat} (h : w.grownBy w' row) (m : Nat) : w.grownBy (w'.drewN m) row := ⟨h.os, h.tape, h.output, h.size, h.block⟩
theorem Rdr.drewN {T : TypeId} {w : World} {B g : Nat} {s : St} (h : Rdr T w B g s) (m : Nat) : Rdr T (w.drewN m) B g s := h.keep (fun _ _ => rfl) rfl
end Go.Proofs.Ytgjdgmpjbpnjbaa.Cod
/-
  What the program's read tells of bytes: what stands where a mark would. Conditions: at least 32 bytes.
-/
namespace Go.Proofs.Ytgjdgmpjbpnjbaa.Frm
open Go.RowKit Codec FrameM Cod
set_option maxRecDepth 100000
set_option maxRecDepth 100000
def mkC (a b c d : Int) : Array Value := #[.int .i64 a, .int .i64 b, .int .i64 c, .int .i64 d]
/-- A reader at g, a mark being read at bm, the result's block at r. -/
structure Mid (T M : TypeId) (w0 w : World) (B g bm r : Nat) (s : St) (cs : Array Value) : Prop where
  rdr : Rdr T w B g s
  mark : w.heap[bm]? = some (.cells cs M (0, 0))
  res : w.heap[r]? = some (.cells (mkC 0 0 0 0) M (0, 0))
  g_bm : g ≠ bm
  g_r : g ≠ r
  bm_r : bm ≠ r
  B_bm : B ≤ bm
  lo_bm : w0.heap.size ≤ bm
  lo_g : w0.heap.size ≤ g
  lo_r : w0.heap.size ≤ r
  below : Below w0.heap.size w0 w
section
variable {T M : TypeId} {w0 w w1 : World} {B g bm r : Nat} {s s1 : St} {cs : Array Value}
theorem Mid.mark1 (h : Mid T M w0 w B g bm r s cs) (hg : w.grownBy w1 (some g)) : w1.heap[bm]? = some (.cells cs M (0, 0)) := (hg.block bm (lt_of_heap h.mark) (by simp; exact h.g_bm.symm)).trans h.mark
theorem Mid.step (h : Mid T M w0 w B g bm r s cs) (hr : Rdr T w1 B g s1) (hg : w.grownBy w1 (some g)) (i : Nat) (u : Value) (cs' : Array Value) (hcs : cs.setIfInBounds i u = cs') : Mid T M w0 (w1.setCell ⟨bm, i, none⟩ u) B g bm r s1 cs' := by
  subst hcs
  have hb : Below w0.heap.size w w1 := grown_below hg _ h.lo_g h.below.size
  exact ⟨hr.grown (grown_set w1 bm i u) h.B_bm h.g_bm, set_at (h.mark1 hg) i u, (Below.heap_setCell w1 _ u r h.bm_r.symm).trans ((hg.block r (lt_of_heap h.res) (by simp; exact h.g_r.symm)).trans h.res), h.g_bm, h.g_r, h.bm_r, h.B_bm, h.lo_bm, h.lo_g, h.lo_r,
    (h.below.trans hb).setCell (p := ⟨bm, i, none⟩) h.lo_bm u⟩
theorem Mid.call (h : Mid T M w0 w B g bm r s cs) (hr : Rdr T w1 B g s1) (hg : w.grownBy w1 (some g)) : Mid T M w0 w1 B g bm r s1 cs :=
  ⟨hr, h.mark1 hg, (hg.block r (lt_of_heap h.res) (by simp; exact h.g_r.symm)).trans h.res, h.g_bm, h.g_r, h.bm_r, h.B_bm, h.lo_bm, h.lo_g, h.lo_r, h.below.trans (grown_below hg _ h.lo_g h.below.size)⟩
/-- The beginning: the mark's block is made. -/
theorem Mid.start (hr : Rdr T w B g s) (hres : w.heap[r]? = some (.cells (mkC 0 0 0 0) M (0, 0))) (hgr : g ≠ r) (hB : B ≤ w.heap.size) (hg : w0.heap.size ≤ g) (hr0 : w0.heap.size ≤ r) (hb : Below w0.heap.size w0 w) (cs : Array Value) :
    Mid T M w0 (w.alloc (.cells cs M)) B g w.heap.size r s cs :=
  ⟨hr.below (alloc_below w _), heap_alloc_new w _, (Below.heap_alloc w _ r (lt_of_heap hres)).trans hres, by have := hr.lt; omega, hgr, by have := lt_of_heap hres; omega, hB, hb.size, hg, hr0, hb.alloc hb.size _⟩
end
theorem four_set {W : World} {r : Nat} {T : TypeId} {p q s t : Int} (h : W.heap[r]? = some (.cells (mkC p q s t) T (0, 0))) (a b c d : Int) :
    ((((W.setCell ⟨r, 0, none⟩ (.int .i64 a)).setCell ⟨r, 1, none⟩ (.int .i64 b)).setCell ⟨r, 2, none⟩ (.int .i64 c)).setCell ⟨r, 3, none⟩ (.int .i64 d)).heap[r]? = some (.cells (mkC a b c d) T (0, 0)) :=
  set_at (set_at (set_at (set_at h 0 _) 1 _) 2 _) 3 _
theorem four_below {B : Nat} {w W : World} {r : Nat} (h : Below B w W) (hr : B ≤ r) (a b c d : Int) :
    Below B w ((((W.setCell ⟨r, 0, none⟩ (.int .i64 a)).setCell ⟨r, 1, none⟩ (.int .i64 b)).setCell ⟨r, 2, none⟩ (.int .i64 c)).setCell ⟨r, 3, none⟩ (.int .i64 d)) :=
  (((h.setCell (p := ⟨r, 0, none⟩) hr _).setCell (p := ⟨r, 1, none⟩) hr _).setCell (p := ⟨r, 2, none⟩) hr _).setCell (p := ⟨r, 3, none⟩) hr _
set_option maxHeartbeats 2000000 in
theorem fread_any (w : World) (B n c : Nat) (A : Option Addr) (xs : List UInt8) (h : Byts w B A n xs) (hB : B ≤ w.heap.size) (hn : 32 ≤ n) (hc : n ≤ c) : Calls Try.prog 65 #[.slice A n c] w (EndsBelow (mkV (readM xs)) w) := by
  have hs : ∀ v, (Instr.slice 35 (.slice A n c) none (some (.int .i64 32)) none).run Try.prog v = .ok (.slice A 32 c) v := fun v => run_to v A n c 32 (by omega)
  have HC1 := Lib.hid (Cod.read_any (w.alloc (.cells (mkC 0 0 0 0) 79)) B 32 c A (xs.take 32) ((h.take 32 hn).alloc hB _) (by simp; omega) (by decide))
  have HM : Hid (readM xs = readFrom (tkS 2 ⟨xs.take 32, false⟩)) := Lib.hid rfl
  clear h
  unfold readFrom at HM
  unfold mkC at HC1
  go_enter Try.func65, Try.ntmps65
  go_wp2_with fail
  refine HC1.out.mono ?_
  rintro e w1 ⟨B1, g, rfl, hr, hB1, hb⟩
  have hgl := hr.2.1
  have HB := Lib.hid ((alloc_below w _).trans (hb.mono (by simp)))
  have HR := Lib.hid ((hb.block w.heap.size (by simp)).trans (heap_alloc_new w _))
  have hgr : g ≠ w.heap.size := by simp at hB1; omega
  have hlg : w.heap.size ≤ g := by simp at hB1; omega
  have HC2 := Lib.hid (small_any w1 B1 g _ hr)
  clear hr hb hs HC1 hB1
  go_wp2_with fail
  refine HC2.out.mono ?_
  rintro e w2 ⟨rfl, hr, hg⟩
  have hB2 : B1 ≤ w2.heap.size := by have := hr.lt; omega
  have HMid := Lib.hid (Mid.start (w0 := w) (M := 79) (r := w.heap.size) hr ((hg.block w.heap.size (by have := HB.out.size; have := lt_of_heap HR.out; omega) (by simp; exact hgr.symm)).trans HR.out) hgr hB2 hlg (Nat.le_refl _) (HB.out.trans (grown_below hg _ hlg HB.out.size)) (mkC 0 0 0 0))
  have HC3 := Lib.hid (small_any _ B1 g _ HMid.out.rdr)
  clear hr hg HC2 HR HB
  generalize tkS 2 ⟨xs.take 32, false⟩ = s1 at *
  unfold mkC at HC3
  go_wp2_with fail
  refine HC3.out.mono ?_
  rintro e w3 ⟨rfl, hr, hg⟩
  have hm := HMid.out.mark1 hg
  unfold mkC at hm
  have c0 := cell_at hm 0
  have f0 := free_at hm 0
  have HMid := Lib.hid (HMid.out.step hr hg 0 (.int .i64 (small s1)) (mkC (small s1) 0 0 0) rfl)
  have HC4 := Lib.hid (num_any _ B1 g _ HMid.out.rdr)
  clear hr hg hm HC3
  go_wp2_with fail
  refine HC4.out.mono ?_
  rintro e w4 ⟨rfl, hr, hg⟩
  have hm := HMid.out.mark1 hg
  unfold mkC at hm
  have c1 := cell_at hm 1
  have f1 := free_at hm 1
  have HMid := Lib.hid (HMid.out.step hr hg 1 (.int .i64 (num (tkS 2 s1))) (mkC (small s1) (num (tkS 2 s1)) 0 0) rfl)
  have HC5 := Lib.hid (num_any _ B1 g _ HMid.out.rdr)
  clear hr hg hm HC4 c0 f0
  go_wp2_with fail
  refine HC5.out.mono ?_
  rintro e w5 ⟨rfl, hr, hg⟩
  have hm := HMid.out.mark1 hg
  unfold mkC at hm
  have c2 := cell_at hm 2
  have f2 := free_at hm 2
  have HMid := Lib.hid (HMid.out.step hr hg 2 (.int .i64 (num (tkS 8 (tkS 2 s1)))) (mkC (small s1) (num (tkS 2 s1)) (num (tkS 8 (tkS 2 s1))) 0) rfl)
  have HC6 := Lib.hid (num_any _ B1 g _ HMid.out.rdr)
  clear hr hg hm HC5 c1 f1
  go_wp2_with fail
  refine HC6.out.mono ?_
  rintro e w6 ⟨rfl, hr, hg⟩
  have hm := HMid.out.mark1 hg
  unfold mkC at hm
  have c3 := cell_at hm 3
  have f3 := free_at hm 3
  have HMid := Lib.hid (HMid.out.step hr hg 3 (.int .i64 (num (tkS 8 (tkS 8 (tkS 2 s1))))) (mkC (small s1) (num (tkS 2 s1)) (num (tkS 8 (tkS 2 s1))) (num (tkS 8 (tkS 8 (tkS 2 s1))))) rfl)
  clear hr hg hm HC6 c2 f2
  generalize small s1 = x0 at *
  generalize num (tkS 2 s1) = x1 at *
  generalize num (tkS 8 (tkS 2 s1)) = x2 at *
  generalize num (tkS 8 (tkS 8 (tkS 2 s1))) = x3 at *
  go_upto_region 8 with fail
  clear c3 f3
  generalize w6.setCell ⟨w2.heap.size, 3, none⟩ (.int .i64 x3) = W at *
  have hk := HMid.out.mark
  have hr := HMid.out.res
  unfold mkC at hk hr
  have k0 := cell_at hk 0
  have k1 := cell_at hk 1
  have k2 := cell_at hk 2
  have k3 := cell_at hk 3
  have r0 := cell_at hr 0
  have r1 := cell_at hr 1
  have r2 := cell_at hr 2
  have r3 := cell_at hr 3
  have q0 := free_at hr 0
  have q1 := free_at hr 1
  have q2 := free_at hr 2
  have q3 := free_at hr 3
  have HF := Lib.hid (HMid.out.below)
  have HRR := Lib.hid hr
  clear hk hr
  go_wp2_with fail
  have hw := four_set HRR.out x0 x1 x2 x3
  have hf := four_below HF.out (Nat.le_refl _) x0 x1 x2 x3
  generalize (((W.setCell ⟨w.heap.size, 0, none⟩ (.int .i64 (x0 : Int))).setCell ⟨w.heap.size, 1, none⟩ (.int .i64 x1)).setCell ⟨w.heap.size, 2, none⟩ (.int .i64 x2)).setCell ⟨w.heap.size, 3, none⟩ (.int .i64 x3) = W2 at *
  have z0 := cell_at hw 0
  have z1 := cell_at hw 1
  have z2 := cell_at hw 2
  have z3 := cell_at hw 3
  refine bodyPost_ret (v := mkV ⟨x0, x1, x2, x3⟩) (by simp [results, Try.results65, go_sem, z0, z1, z2, z3, mkC, mkV]) rfl ⟨by rw [HM.out], hf⟩
end Go.Proofs.Ytgjdgmpjbpnjbaa.Frm
/-
  What the program's and the document's Get answer: the mark whose sector the bytes are. Conditions: the slice reads as these bytes.
-/
namespace Go.Proofs.Ytgjdgmpjbpnjbaa.Frm
open Go.RowKit Codec FrameM Cod
set_option maxRecDepth 100000
set_option maxRecDepth 100000
/-- A mark and whether it is one. -/
def tupV (m : Mk) (b : Bool) : Value := .tuple #[mkV m, .bool b]
theorem four_far {W : World} {r k : Nat} (hne : k ≠ r) (a b c d : Value) :
    ((((W.setCell ⟨r, 0, none⟩ a).setCell ⟨r, 1, none⟩ b).setCell ⟨r, 2, none⟩ c).setCell ⟨r, 3, none⟩ d).heap[k]? = W.heap[k]? :=
  (Below.heap_setCell _ _ _ _ hne).trans ((Below.heap_setCell _ _ _ _ hne).trans ((Below.heap_setCell _ _ _ _ hne).trans (Below.heap_setCell _ _ _ _ hne)))
set_option maxHeartbeats 2000000 in
theorem fget_short (w : World) (n c : Nat) (A : Option Addr) (hn : n ≠ 64) (hm : n ≤ maxLen) : Calls Try.prog 51 #[.slice A n c] w (EndsBelow (tupV zeroM false) w) := by
  have hn1 : ((n : Int) != 64) = true := by simp; omega
  have hm2 : n ≤ 9223372036854775807 := hm
  clear hn
  go_enter Try.func51, Try.ntmps51
  go_wp2_with fail
  exact bodyPost_ret (v := tupV zeroM false) (by simp [results, Try.results51, go_sem, mkV, tupV, zeroM]) rfl ⟨rfl, alloc_below w _⟩
set_option maxHeartbeats 2000000 in
theorem fget_long (w : World) (B c : Nat) (A : Option Addr) (xs : List UInt8) (h : Byts w B A 64 xs) (hB : B ≤ w.heap.size) (hc : 64 ≤ c) : Calls Try.prog 51 #[.slice A 64 c] w (EndsBelow (tupV (getM xs) (getB xs)) w) := by
  have HC1 := Lib.hid (fread_any (w.alloc (.cells (mkC 0 0 0 0) 79)) B 64 c A xs (h.alloc hB _) (by simp; omega) (by decide) hc)
  have HX := Lib.hid h
  have HL := Lib.hid h.len
  have HI : Hid (getB xs = decide (put (readM xs) = xs)) := Lib.hid (by simp [getB, isM, h.len])
  clear h
  unfold mkC at HC1
  generalize hm : readM xs = m at *
  have HM := Lib.hid hm
  clear hm
  have HC2 := Lib.hid (fun u => put_any m u)
  unfold mkV at HC1 HC2
  go_enter Try.func51, Try.ntmps51
  go_wp2_with fail
  refine HC1.out.mono ?_
  rintro e w1 ⟨rfl, hb1⟩
  have hr1 := (hb1.block w.heap.size (by simp)).trans (heap_alloc_new w _)
  have hz1 := hb1.size
  simp only [World.size_alloc] at hz1
  have HBM := Lib.hid (heap_alloc_new w1 (.cells (mkC m.kind m.gen m.seq m.n) 79))
  have HR2 := Lib.hid ((Below.heap_alloc w1 (.cells (mkC m.kind m.gen m.seq m.n) 79) _ (by omega)).trans hr1)
  have HB2 := Lib.hid (((alloc_below w _).trans (hb1.mono (by simp))).alloc (by omega) (.cells (mkC m.kind m.gen m.seq m.n) 79))
  clear hb1 hr1 HC1
  unfold mkC at HBM HR2 HB2
  obtain ⟨k, g, s, n⟩ := m
  dsimp only at *
  go_upto_region 4 with fail
  generalize w1.alloc (.cells #[.int .i64 k, .int .i64 g, .int .i64 s, .int .i64 n] 79) = W at *
  have k0 := cell_at HBM.out 0
  have k1 := cell_at HBM.out 1
  have k2 := cell_at HBM.out 2
  have k3 := cell_at HBM.out 3
  go_wp2_with fail
  refine (HC2.out W).mono ?_
  rintro e w2 ⟨A2, c2, rfl, hb, hbl, _, _⟩
  have HC3 := Lib.hid (equal_any w2 _ _ _ _ c2 c A2 A _ xs hb (HX.out.below ((HB2.out.trans (hbl.mono HB2.out.size)).mono hB)))
  have hbm := (hbl.block w1.heap.size (lt_of_heap HBM.out)).trans HBM.out
  have hr := (hbl.block w.heap.size (lt_of_heap HR2.out)).trans HR2.out
  have HB3 := Lib.hid (HB2.out.trans (hbl.mono HB2.out.size))
  clear HC2 HB2 HR2 HBM hb hbl k0 k1 k2 k3
  have HBM := Lib.hid hbm
  have HR := Lib.hid hr
  clear hbm hr
  go_wp2_with fail
  refine HC3.out.mono ?_
  rintro e w3 ⟨rfl, rfl⟩
  rw [← HI.out]
  clear HC3 HI
  cases hg : getB xs with
  | false =>
    have HG := Lib.hid (getM_no hg)
    have HGB := Lib.hid hg
    clear hg
    have HW := Lib.hid (four_set HR.out 0 0 0 0)
    have HF := Lib.hid (four_below HB3.out (Nat.le_refl _) 0 0 0 0)
    have r0 := cell_at HR.out 0
    have r1 := cell_at HR.out 1
    have r2 := cell_at HR.out 2
    have r3 := cell_at HR.out 3
    have q0 := free_at HR.out 0
    have q1 := free_at HR.out 1
    have q2 := free_at HR.out 2
    have q3 := free_at HR.out 3
    go_wp2_with fail
    have hw := HW.out
    generalize (((w2.setCell ⟨w.heap.size, 0, none⟩ (.int .i64 0)).setCell ⟨w.heap.size, 1, none⟩ (.int .i64 0)).setCell ⟨w.heap.size, 2, none⟩ (.int .i64 0)).setCell ⟨w.heap.size, 3, none⟩ (.int .i64 0) = W2 at *
    have z0 := cell_at hw 0
    have z1 := cell_at hw 1
    have z2 := cell_at hw 2
    have z3 := cell_at hw 3
    exact bodyPost_ret (v := tupV zeroM false) (by simp [results, Try.results51, go_sem, z0, z1, z2, z3, mkV, mkC, tupV, zeroM]) rfl ⟨by rw [HG.out, HGB.out], HF.out⟩
  | true =>
    have HG := Lib.hid (getM_yes hg)
    have HGB := Lib.hid hg
    clear hg
    have HW := Lib.hid (four_set HR.out k g s n)
    have HF := Lib.hid (four_below HB3.out (Nat.le_refl _) k g s n)
    have r0 := cell_at HR.out 0
    have r1 := cell_at HR.out 1
    have r2 := cell_at HR.out 2
    have r3 := cell_at HR.out 3
    have q0 := free_at HR.out 0
    have q1 := free_at HR.out 1
    have q2 := free_at HR.out 2
    have q3 := free_at HR.out 3
    have k0 := cell_at HBM.out 0
    have k1 := cell_at HBM.out 1
    have k2 := cell_at HBM.out 2
    have k3 := cell_at HBM.out 3
    go_wp2_with fail
    have hw := HW.out
    generalize (((w2.setCell ⟨w.heap.size, 0, none⟩ (.int .i64 k)).setCell ⟨w.heap.size, 1, none⟩ (.int .i64 g)).setCell ⟨w.heap.size, 2, none⟩ (.int .i64 s)).setCell ⟨w.heap.size, 3, none⟩ (.int .i64 n) = W2 at *
    have z0 := cell_at hw 0
    have z1 := cell_at hw 1
    have z2 := cell_at hw 2
    have z3 := cell_at hw 3
    exact bodyPost_ret (v := tupV ⟨k, g, s, n⟩ true) (by simp [results, Try.results51, go_sem, z0, z1, z2, z3, mkV, mkC, tupV]) rfl ⟨by rw [HG.out, HGB.out, HM.out], HF.out⟩
theorem fget_any (w : World) (B n c : Nat) (A : Option Addr) (xs : List UInt8) (h : Byts w B A n xs) (hB : B ≤ w.heap.size) (hc : n ≤ c) (hm : c ≤ maxLen) : Calls Try.prog 51 #[.slice A n c] w (EndsBelow (tupV (getM xs) (getB xs)) w) := by
  by_cases hn : n = 64
  · subst hn
    exact fget_long w B c A xs h hB hc
  · have hg : getB xs = false := by simp [getB, h.len, hn]
    rw [getM_no hg, hg]
    exact fget_short w n c A hn (by omega)
end Go.Proofs.Ytgjdgmpjbpnjbaa.Frm
/-
  Cuts of a slice of bytes, as values and as what they read as. Conditions: the bounds are in order.
-/
namespace Go.Proofs.Ytgjdgmpjbpnjbaa.Frm
open Go.RowKit Codec FrameM Cod
set_option maxRecDepth 100000
set_option maxRecDepth 100000
def cutAt (A : Option Addr) (l m : Nat) : Option Addr := if m = l then A else A.map (·.add l)
theorem cut_lh (w : World) (A : Option Addr) (n c l h : Nat) (h1 : l ≤ h) (h2 : h ≤ c) :
    (Instr.slice 35 (.slice A n c) (some (.int .i64 l)) (some (.int .i64 h)) none).run Try.prog w = .ok (.slice (cutAt A l c) (h - l) (c - l)) w := by
  rw [run_slice_lh (P := Try.prog) w 35 A n c Try.underlying35 .i64 .i64 l h (by omega) (by omega) (by omega), size5]
  simp [Result.andThen, sliced, cutAt]
theorem cut_lhm (w : World) (A : Option Addr) (n c l h m : Nat) (h1 : l ≤ h) (h2 : h ≤ m) (h3 : m ≤ c) :
    (Instr.slice 35 (.slice A n c) (some (.int .i64 l)) (some (.int .i64 h)) (some (.int .i64 m))).run Try.prog w = .ok (.slice (cutAt A l m) (h - l) (m - l)) w := by
  rw [run_slice_lhm (P := Try.prog) w 35 A n c Try.underlying35 .i64 .i64 .i64 l h m (by omega) (by omega) (by omega) (by omega), size5]
  simp [Result.andThen, sliced, cutAt]
theorem cut_hm (w : World) (A : Option Addr) (n c h m : Nat) (h2 : h ≤ m) (h3 : m ≤ c) :
    (Instr.slice 35 (.slice A n c) none (some (.int .i64 h)) (some (.int .i64 m))).run Try.prog w = .ok (.slice A h m) w := by
  rw [run_slice_hm (P := Try.prog) w 35 A n c Try.underlying35 .i64 .i64 h m (by omega) (by omega) (by omega), size5]
  simp only [Result.andThen, sliced, Int.toNat_natCast, Nat.zero_mul, Nat.sub_zero]
  congr 2
  split
  · rfl
  · cases A <;> simp [Addr.add]
theorem cut_l (w : World) (A : Option Addr) (n c l : Nat) (h1 : l ≤ n) :
    (Instr.slice 35 (.slice A n c) (some (.int .i64 l)) none none).run Try.prog w = .ok (.slice (cutAt A l c) (n - l) (c - l)) w := run_from w A n c l h1
theorem Byts.cut {w : World} {B n : Nat} {A : Option Addr} {xs : List UInt8} (hb : Byts w B A n xs) (l h m : Nat) (h1 : l ≤ h) (h2 : h ≤ n) (h3 : h ≤ m) : Byts w B (cutAt A l m) (h - l) ((xs.drop l).take (h - l)) :=
  ⟨by rw [List.length_take, List.length_drop, hb.len]; omega, fun h0 => by
    obtain ⟨b, off, rfl, hB, hc⟩ := hb.at_ (by omega)
    unfold cutAt
    rw [if_neg (by omega)]
    refine ⟨b, off + l, by rw [Option.map_some, plain_add], hB, fun j hj => ?_⟩
    rw [Nat.add_assoc, hc (l + j) (by omega)]
    simp [List.getD_eq_getElem?_getD, hj]⟩
end Go.Proofs.Ytgjdgmpjbpnjbaa.Frm
/-
  A region that draws its order, walked operation by operation: what yields in every world that meets S may be taken first; a call, or what makes memory, once nothing else may come up. Laws of no program.
-/
namespace Go.Proofs.Ytgjdgmpjbpnjbaa.Frm
set_option maxRecDepth 100000
section
variable {P : Program} {ops : Array Oper} {Q : Exit → Act → World → Prop} {md : Region.Mode} {S S' : World → Prop} {fuel : Nat} {listed : Array Bool} {a : Act} {w : World}
theorem wh_more (h : ∀ w, S' w → S w) : ∀ (fuel : Nat) (listed : Array Bool) (a : Act) (w : World), wpAnyH P md ops Q S' fuel listed a w → wpAnyH P md ops Q S fuel listed a w
  | 0, _, _, _, k => k
  | fuel + 1, _, _, _, k => ⟨k.1, fun i hi => wpOp_mono (fun a' w' k' => ⟨h w' k'.1, wh_more h fuel _ a' w' k'.2⟩) (k.2 i hi)⟩
theorem wh_take (i d : Nat) (v : Value) {oi : Oper} (hi : ops[i]? = some oi) (hd : oi.dst = some d) (hB : (Region.noSelect ops && Region.free md ops listed i && (Region.ready md ops listed).contains i) = true)
    (hQ : ∀ c a w, Q (.panic c) (a.put oi.dst v) w → Q (.panic c) a w) (hw : Region.wanted oi (yielded ops a.tmps) = true) (hS : S w) (hy : ∀ w, S w → (execOp a.eval oi).run P w = .ok (.value v) w)
    (h : wpAnyH P md ops Q S fuel (listed.setIfInBounds i true) (a.put (some d) v) w) : wpAnyH P md ops Q S (fuel + 1) listed a w := by
  simp only [Bool.and_eq_true] at hB
  exact wpAnyH_take hi hB.1.1 hB.1.2 hB.2 hQ (.inl ⟨hw, hy⟩) hS (by rw [hd]; exact h)
/-- An operation whose guard is not met. -/
theorem wh_pass (i d : Nat) {oi : Oper} (hi : ops[i]? = some oi) (hd : oi.dst = some d) (hB : (Region.noSelect ops && Region.free md ops listed i && (Region.ready md ops listed).contains i) = true)
    (hQ : ∀ c a w, Q (.panic c) (a.put oi.dst undef) w → Q (.panic c) a w) (hw : Region.wanted oi (yielded ops a.tmps) = false) (hS : S w)
    (h : wpAnyH P md ops Q S fuel (listed.setIfInBounds i true) (a.put (some d) undef) w) : wpAnyH P md ops Q S (fuel + 1) listed a w := by
  simp only [Bool.and_eq_true] at hB
  exact wpAnyH_take hi hB.1.1 hB.1.2 hB.2 hQ (.inr ⟨hw, rfl⟩) hS (by rw [hd]; exact h)
theorem wh_one {i : Nat} {oi : Oper} (hi : ops[i]? = some oi) (hr : Region.ready md ops listed = [i]) (hw : Region.wanted oi (yielded ops a.tmps) = true)
    (h : oi.wp P a w (fun a' w' => S w' ∧ wpAnyH P md ops Q S fuel (listed.setIfInBounds i true) a' w') Q) : wpAnyH P md ops Q S (fuel + 1) listed a w := by
  refine ⟨fun h0 => (by rw [h0] at hr; cases hr), fun j hj => ?_⟩
  rw [hr] at hj
  obtain rfl : j = i := by simpa using hj
  unfold wpOp
  simp only [hi, hw, if_true]
  exact .inl h
theorem wh_call (i d f : Nat) (args : Array Value) {oi : Oper} (hi : ops[i]? = some oi) (hd : oi.dst = some d) (hr : Region.ready md ops listed = [i]) (hw : Region.wanted oi (yielded ops a.tmps) = true)
    (hrun : (execOp a.eval oi).run P w = .ok (.enter f args) w) (hc : Calls P f args w fun e w' => ∃ v, e = .returned v ∧ S w' ∧ wpAnyH P md ops Q S fuel (listed.setIfInBounds i true) (a.put (some d) v) w') :
    wpAnyH P md ops Q S (fuel + 1) listed a w := by
  refine wh_one hi hr hw ?_
  unfold Oper.wp
  rw [hrun]
  simp only [Oper.upon]
  refine Calls.mono hc ?_
  rintro e w' ⟨v, rfl, hS, h⟩
  rw [hd]
  exact ⟨hS, h⟩
theorem wh_run (i d : Nat) (v : Value) (w' : World) {oi : Oper} (hi : ops[i]? = some oi) (hd : oi.dst = some d) (hr : Region.ready md ops listed = [i]) (hw : Region.wanted oi (yielded ops a.tmps) = true)
    (hrun : (execOp a.eval oi).run P w = .ok (.value v) w') (hS : S w') (h : wpAnyH P md ops Q S fuel (listed.setIfInBounds i true) (a.put (some d) v) w') : wpAnyH P md ops Q S (fuel + 1) listed a w := by
  refine wh_one hi hr hw ?_
  unfold Oper.wp
  rw [hrun]
  simp only [Oper.upon]
  rw [hd]
  exact ⟨hS, h⟩
theorem wh_store (i : Nat) (w' : World) {oi : Oper} (hi : ops[i]? = some oi) (hd : oi.dst = none) (hr : Region.ready md ops listed = [i]) (hw : Region.wanted oi (yielded ops a.tmps) = true)
    (hrun : (execOp a.eval oi).run P w = .ok .skip w') (hS : S w') (h : wpAnyH P md ops Q S fuel (listed.setIfInBounds i true) a w') : wpAnyH P md ops Q S (fuel + 1) listed a w := by
  refine wh_one hi hr hw ?_
  unfold Oper.wp
  rw [hrun]
  simp only [Oper.upon]
  rw [hd]
  exact ⟨hS, h⟩
/-- One may come up; one of two. -/
theorem wh_all1 (i : Nat) (hr : Region.ready md ops listed = [i]) (h : wpOp P ops Q i (fun a' w' => S w' ∧ wpAnyH P md ops Q S fuel (listed.setIfInBounds i true) a' w') a w) : wpAnyH P md ops Q S (fuel + 1) listed a w :=
  wpAnyH_all hr (by simp) (fun j hj => by
    obtain rfl : j = i := by simpa using hj
    exact h)
theorem wh_all2 (i j : Nat) (hr : Region.ready md ops listed = [i, j]) (h : wpOp P ops Q i (fun a' w' => S w' ∧ wpAnyH P md ops Q S fuel (listed.setIfInBounds i true) a' w') a w)
    (k : wpOp P ops Q j (fun a' w' => S w' ∧ wpAnyH P md ops Q S fuel (listed.setIfInBounds j true) a' w') a w) : wpAnyH P md ops Q S (fuel + 1) listed a w :=
  wpAnyH_all hr (by simp) (fun x hx => by
    have : x = i ∨ x = j := by simpa using hx
    rcases this with rfl | rfl
    · exact h
    · exact k)
theorem wo_run {i : Nat} (d : Nat) (v : Value) (w' : World) {oi : Oper} {K : Act → World → Prop} (hi : ops[i]? = some oi) (hd : oi.dst = some d) (hw : Region.wanted oi (yielded ops a.tmps) = true)
    (hrun : (execOp a.eval oi).run P w = .ok (.value v) w') (h : K (a.put (some d) v) w') : wpOp P ops Q i K a w := by
  unfold wpOp
  simp only [hi, hw, if_true]
  refine .inl ?_
  unfold Oper.wp
  rw [hrun]
  simp only [Oper.upon]
  rw [hd]
  exact h
theorem wo_call {i : Nat} (d f : Nat) (args : Array Value) {oi : Oper} {K : Act → World → Prop} (hi : ops[i]? = some oi) (hd : oi.dst = some d) (hw : Region.wanted oi (yielded ops a.tmps) = true)
    (hrun : (execOp a.eval oi).run P w = .ok (.enter f args) w) (hc : Calls P f args w fun e w' => ∃ v, e = .returned v ∧ K (a.put (some d) v) w') : wpOp P ops Q i K a w := by
  unfold wpOp
  simp only [hi, hw, if_true]
  refine .inl ?_
  unfold Oper.wp
  rw [hrun]
  simp only [Oper.upon]
  refine Calls.mono hc ?_
  rintro e w' ⟨v, rfl, h⟩
  rw [hd]
  exact h
theorem wh_start {id : Nat} (S : World → Prop) (hm : P.follows .mixedOrders = true) (h : wpAnyH P .any ops Q S ops.size (Array.replicate ops.size false) a w.drew) : (Code.region id ops true).wp P Q a w := wp_region_held hm h
end
end Go.Proofs.Ytgjdgmpjbpnjbaa.Frm
