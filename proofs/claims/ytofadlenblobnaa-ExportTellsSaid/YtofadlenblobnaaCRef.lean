/-
  What the document's functions lay: Num, Small, Text behind bytes. Conditions: the bytes are a row of the call's own; the sizes are named.
-/
import Derived.Test.YtofadlenblobnaaCRead
namespace Go.Proofs.Ytofadlenblobnaa.Cod
open Go.RowKit Codec
set_option maxRecDepth 100000
def Grew (w : World) (base : Nat) (xs : List UInt8) (e : Ending) (w' : World) : Prop := ∃ A m c, e = .returned (.slice A m c) ∧ Owns w' base (.slice A m c) m xs ∧ Below base w w'
theorem byte_int (n : Int) (k : Nat) : IntKind.u64.wrap n / 2 ^ (8 * k) % 256 = ((UInt8.ofNat ((n % 18446744073709551616).toNat / 256 ^ k % 256)).toNat : Int) := by
  rw [← byte_of, IntKind.wrap_u64, show (((n % 18446744073709551616).toNat : Nat) : Int) = n % 18446744073709551616 by omega]
theorem num_byte (w : World) (n : Int) (k : Nat) :
    Byts (w.alloc (.cells #[.int .u8 (IntKind.u64.wrap n / 2 ^ (8 * k) % 256)] 5)) (w.heap.size + 1) (some ⟨w.heap.size, 0, none⟩) 1 [UInt8.ofNat ((n % 18446744073709551616).toNat / 256 ^ k % 256)] := by
  rw [byte_int]
  exact byt_new _ _ _
theorem num_next (n : Int) (k : Nat) (xs : List UInt8) : xs ++ le k (n % 18446744073709551616).toNat ++ [UInt8.ofNat ((n % 18446744073709551616).toNat / 256 ^ k % 256)] = xs ++ le (k + 1) (n % 18446744073709551616).toNat := by
  rw [le_snoc, List.append_assoc]
theorem Owns.below_own {w w1 : World} {base n : Nat} {v : Value} {xs : List UInt8} (h : Owns w base v n xs) (hB : base ≤ w.heap.size) (hg : w.grownBy w1 v.ownBlock) : Below base w w1 :=
  (Below.refl base w).grown hg hB (fun k hk => (World.ownsRow.lt h k hk).1)
theorem byts_two (w : World) (x y : UInt8) (fr : Nat × Nat) : Byts (w.alloc (.cells #[byt x, byt y] 5 fr)) (w.heap.size + 1) (some ⟨w.heap.size, 0, none⟩) 2 [x, y] :=
  ⟨rfl, fun _ => ⟨w.heap.size, 0, rfl, by omega, fun j hj => by
    match j, hj with
    | 0, _ => rw [World.cell?_alloc_mark]; rfl
    | 1, _ => rw [World.cell?_alloc_mark]; rfl⟩⟩
theorem le_two (n : Nat) : le 2 n = [UInt8.ofNat (n % 256), UInt8.ofNat (n / 256 % 256)] := rfl
theorem small_bytes (w : World) (n a b : Int) (ha : a = (clip n : Int) % 256) (hb : b = (clip n : Int) / 256) :
    Byts (w.alloc (.cells #[.int .u8 a, .int .u8 b] 5)) (w.heap.size + 1) (some ⟨w.heap.size, 0, none⟩) 2 (encSmall n) := by
  have hc := clip_lt n
  have e1 : a = ((UInt8.ofNat (clip n % 256)).toNat : Int) := by rw [ha]; simp
  have e2 : b = ((UInt8.ofNat (clip n / 256 % 256)).toNat : Int) := by rw [hb]; simp; omega
  rw [e1, e2]
  exact byts_two w _ _ (0, 0)
set_option maxHeartbeats 1000000 in
theorem ref_small (w : World) (base m0 c0 : Nat) (A0 : Option Addr) (n : Int) (xs : List UInt8) (hown : Owns w base (.slice A0 m0 c0) m0 xs) (hm : m0 ≤ 900000000) (hB : base ≤ w.heap.size) :
    Calls Try.prog 32 #[.slice A0 m0 c0, .int .i64 n] w (Grew w base (xs ++ encSmall n)) := by
  have HO0 := Lib.hid hown
  clear hown
  rcases (show n < 0 ∨ (0 ≤ n ∧ n ≤ 65535) ∨ 65535 < n by omega) with h | ⟨h, h2⟩ | h
  all_goals
    first
      | (have HX := Lib.hid (small_bytes w n 0 0 (by unfold clip; omega) (by unfold clip; omega)))
      | (have HX := Lib.hid (small_bytes w n (n % 256) (n / 256) (by unfold clip; omega) (by unfold clip; omega)))
      | (have HX := Lib.hid (small_bytes w n 255 255 (by unfold clip; omega) (by unfold clip; omega)))
    go_enter Try.func32, Try.ntmps32
    go_wp2_with (at_builtin; (refine wpList_app _ rfl (.tmp 8) (.tmp 14) rfl base (.slice A0 m0 c0) m0 xs rfl (HO0.out.alloc _) (w.heap.size + 1) (some ⟨w.heap.size, 0, none⟩) 2 2 (encSmall n) rfl HX.out (by omega) (by simp; omega) ?_); intro A1 c1 w1 hown1 hg1; have HO1 := Lib.hid hown1; have HG1 := Lib.hid hg1; clear hown1 hg1)
    go_ret
    exact ⟨A1, m0 + 2, c1, rfl, HO1.out, ((Below.refl base w).alloc hB _).trans ((HO0.out.alloc _).below_own (by simp; omega) HG1.out)⟩
theorem cel_str (s : ByteArray) : Lib.strCells s = cel (bytesOf s) := rfl
theorem run_app_str (w : World) (ty : TypeId) (base : Nat) (v : Value) (n : Nat) (xs : List UInt8) (hown : Owns w base v n xs) (s : ByteArray) (hn : n + s.size ≤ 1000000000) (hbase : base ≤ w.heap.size) :
    ∃ A' c' w', (Builtin.append_ #[23, 9] ty #[v, .string s]).run Try.prog w = .ok (.slice A' (n + s.size) c') w' ∧ Owns w' base (.slice A' (n + s.size) c') (n + s.size) (xs ++ bytesOf s) ∧ w.grownBy w' v.ownBlock := by
  obtain ⟨i0, hi0, hz0, hz1, hz2⟩ := info_parts info5
  obtain ⟨v', w', h1, h2, h3, _⟩ := Lib.run_append_own_string (P := Try.prog) w base 23 9 ty 5 i0 Try.underlying23 Try.underlying9 hi0 hz0 hz1 hz2 v n (cel xs) hown s (by unfold maxLen; omega) (by omega) hbase
  rw [cel_str, cel_app] at h2
  obtain ⟨A', c', rfl, _, _⟩ := Owns.form h2
  exact ⟨A', c', w', h1, h2, h3⟩
theorem wpList_app_str (w : World) {ops : Array Oper} {rest : List Oper} {o : Oper} {a : Act} {Q : Exit → Act → World → Prop} (hgd : o.guard = none) (sl x : Operand)
    (ho : o.op = .call { callee := .builtin .append, args := #[sl, x], argTypes := #[23, 9] })
    (base : Nat) (v : Value) (n : Nat) (xs : List UInt8) (hs : a.eval sl = v) (hown : Owns w base v n xs) (s : ByteArray) (hx : a.eval x = .string s)
    (hn : n + s.size ≤ 1000000000) (hbase : base ≤ w.heap.size)
    (h : ∀ A' c' w', Owns w' base (.slice A' (n + s.size) c') (n + s.size) (xs ++ bytesOf s) → w.grownBy w' v.ownBlock → wpList Try.prog ops Q rest (a.put o.dst (.slice A' (n + s.size) c')) w') : wpList Try.prog ops Q (o :: rest) a w := by
  obtain ⟨A', c', w', hrun, h2, h3⟩ := run_app_str w o.type base v n xs hown s hn hbase
  refine wpList_plain hgd fun _ hK => ?_
  unfold Oper.wp execOp
  simp only [ho, resolve, invoke, builtin, Sem.run_bind, Sem.run_pure, Result.andThen_ok, List.map_toArray, List.map_cons, List.map_nil, hs, hx, hrun]
  exact hK _ _ (h A' c' w' h2 h3)
theorem encText_of (s : ByteArray) (hs : s.size ≤ 65535) : encText (bytesOf s) = encSmall s.size ++ bytesOf s := by
  unfold encText encSmall clip
  rw [bytesOf_length, Nat.min_eq_left hs, show (min (max (s.size : Int) 0) 65535).toNat = s.size by omega, List.take_of_length_le (by rw [bytesOf_length]; omega)]
set_option maxHeartbeats 1000000 in
theorem ref_text (w : World) (base m0 c0 : Nat) (A0 : Option Addr) (s : ByteArray) (xs : List UInt8) (hown : Owns w base (.slice A0 m0 c0) m0 xs) (hm : m0 ≤ 900000000) (hB : base ≤ w.heap.size) (hs : s.size ≤ 65535) :
    Calls Try.prog 33 #[.slice A0 m0 c0, .string s] w (Grew w base (xs ++ encText (bytesOf s))) := by
  have HS := Lib.hid (ref_small w base m0 c0 A0 s.size xs hown hm hB)
  have HE := Lib.hid (encText_of s hs)
  have hx := Lib.hid hown.len
  clear hown
  go_enter Try.func33, Try.ntmps33
  go_wp2_with fail
  refine HS.out.mono ?_
  rintro e w1 ⟨A, m, c, rfl, ho, hb⟩
  have HO := Lib.hid ho
  have HB := Lib.hid hb
  have hz := hb.size
  have hm1 : m ≤ 900000002 := by have h1 := ho.len; have h2 := hx.out; rw [List.length_append, encSmall_length] at h1; omega
  clear ho hb
  go_wp2_with (at_builtin; (refine wpList_app_str _ rfl (.tmp 13) (.tmp 14) rfl base (.slice A m c) m (xs ++ encSmall s.size) rfl HO.out s rfl (by omega) (by omega) ?_); intro A1 c1 w2 hown1 hg1; have HO1 := Lib.hid hown1; have HG1 := Lib.hid hg1; clear hown1 hg1)
  go_ret
  rw [HE.out, ← List.append_assoc]
  exact ⟨A1, m + s.size, c1, rfl, HO1.out, HB.out.trans (HO.out.below_own (by omega) HG1.out)⟩
end Go.Proofs.Ytofadlenblobnaa.Cod
