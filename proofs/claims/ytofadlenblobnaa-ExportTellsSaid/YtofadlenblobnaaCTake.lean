/-
  What the program's Reader does: Refuse, take, number, and what it tells of itself. Conditions: the Reader's block is known.
-/
import Derived.Test.YtofadlenblobnaaCText
import Derived.Laws.BitsAll
namespace Go.Proofs.Ytofadlenblobnaa.Cod
open Go.RowKit Codec
set_option maxRecDepth 100000
def Turned (T : TypeId) (w : World) (B g : Nat) (v : Value) (s : St) (e : Ending) (w' : World) : Prop := e = .returned v ∧ Rdr T w' B g s ∧ w.grownBy w' (some g)
def Took (T : TypeId) (w : World) (B g : Nat) (xs : List UInt8) (s : St) (e : Ending) (w' : World) : Prop :=
  ∃ A m c, e = .returned (.slice A m c) ∧ Byts w' B A m xs ∧ Rdr T w' B g s ∧ w.grownBy w' (some g)
theorem Rdr.bads {T : TypeId} {w : World} {B g : Nat} (hB : B ≤ g) {A : Option Addr} (h : w.heap[g]? = some (.cells #[.slice A 0 0, .bool true] T (0, 0))) : Rdr T w B g ⟨[], true⟩ :=
  ⟨badOk, hB, A, 0, 0, h, Byts.none_, Nat.le_refl _, Nat.zero_le _, Nat.zero_le _⟩
set_option maxHeartbeats 400000 in
theorem refuse_true (w : World) (B g : Nat) (s : St) (hr : Rdr 65 w B g s) : Calls Try.prog 35 #[.pointer (some ⟨g, 0, none⟩), .bool true] w (Turned 65 w B g (.tuple #[]) ⟨[], true⟩) := by
  obtain ⟨_, hB, A, n, c, hg, _⟩ := hr
  have c0 := cell_at hg 0
  have c1 := cell_at hg 1
  have f0 := free_at hg 0
  have f1 := free_at hg 1
  have HG := Lib.hid hg
  clear hg
  go_enter Try.func35, Try.ntmps35
  go_wp2
  go_end0
  refine ⟨rfl, Rdr.bads hB (A := none) ?_, grown_trans (grown_set w g 0 _) (grown_set _ g 1 _)⟩
  rw [set_at (set_at HG.out 0 _) 1 _]
  rfl
set_option maxHeartbeats 400000 in
theorem refuse_false (w : World) (g : Nat) : Calls Try.prog 35 #[.pointer (some ⟨g, 0, none⟩), .bool false] w fun e w' => e = .returned (.tuple #[]) ∧ w = w' := by
  go_enter Try.func35, Try.ntmps35
  go_wp2
  go_end0
  exact ⟨rfl, rfl⟩
set_option maxHeartbeats 400000 in
theorem refuse_none (w : World) (b : Bool) : Calls Try.prog 35 #[.pointer none, .bool b] w fun e w' => e = .returned (.tuple #[]) ∧ w = w' := by
  go_enter Try.func35, Try.ntmps35
  go_wp2
  go_end0
  exact ⟨rfl, rfl⟩
theorem refuse_any (w : World) (B g : Nat) (s : St) (b : Bool) (hr : Rdr 65 w B g s) : Calls Try.prog 35 #[.pointer (some ⟨g, 0, none⟩), .bool b] w (Turned 65 w B g (.tuple #[]) (refuse b s)) := by
  cases b
  · refine (refuse_false w g).mono ?_
    rintro e w1 ⟨rfl, rfl⟩
    exact ⟨rfl, hr, grown_refl _ _⟩
  · exact refuse_true w B g s hr
theorem size5 (w : World) : (sizeOf (Try.prog.elem 23)).run Try.prog w = .ok 1 w := by kernel_rfl
theorem run_to (w : World) (A : Option Addr) (n c k : Nat) (hk : k ≤ c) : (Instr.slice 23 (.slice A n c) none (some (.int .i64 k)) none).run Try.prog w = .ok (.slice A k c) w := by
  rw [run_slice_h (P := Try.prog) w 23 A n c Try.underlying23 .i64 k (by omega) (by omega), size5]
  simp only [Result.andThen, sliced, Int.toNat_natCast, Nat.zero_mul, Nat.sub_zero]
  congr 2
  split
  · rfl
  · cases A <;> simp [Addr.add]
theorem run_from (w : World) (A : Option Addr) (n c k : Nat) (hk : k ≤ n) :
    (Instr.slice 23 (.slice A n c) (some (.int .i64 k)) none none).run Try.prog w = .ok (.slice (if c = k then A else A.map (·.add k)) (n - k) (c - k)) w := by
  rw [run_slice_l (P := Try.prog) w 23 A n c Try.underlying23 .i64 k (by omega) (by omega), size5]
  simp [Result.andThen, sliced]
theorem tk_long {k : Nat} {s : St} (h : s.ok) (hk : k ≤ s.left.length) : tk k s = s.left.take k ∧ tkS k s = ⟨s.left.drop k, s.bad⟩ := by
  obtain ⟨l, b⟩ := s
  cases b
  · have h0 : short k ⟨l, false⟩ = false := by simpa [short] using hk
    simp [tk, tkS, h0]
  · obtain rfl : l = [] := h rfl
    simp [tk, tkS, short]
set_option maxHeartbeats 400000 in
theorem take_few (w : World) (B g k : Nat) (s : St) (hr : Rdr 65 w B g s) (hk : s.left.length < k) :
    Calls Try.prog 48 #[.pointer (some ⟨g, 0, none⟩), .int .i64 k] w (Took 65 w B g (tk k s) (tkS k s)) := by
  have hsh : short k s = true := by simp [short, hk]
  have h1 := Lib.hid (tk_short hsh)
  have h2 := Lib.hid (tkS_short hsh)
  have HR := Lib.hid (refuse_true w B g s hr)
  obtain ⟨_, hB, A, n, c, hg, hb, _⟩ := hr
  have hn : n < k := by have := hb.len; omega
  have c0 := cell_at hg 0
  have f0 := free_at hg 0
  clear hg hsh hb hk
  go_enter Try.func48, Try.ntmps48
  go_wp2_with fail
  refine HR.out.mono ?_
  rintro e w1 ⟨rfl, hw, hgr⟩
  have HW := Lib.hid hw
  have HG := Lib.hid hgr
  clear hw hgr
  go_wp2_with fail
  go_ret
  rw [h1.out, h2.out]
  exact ⟨none, 0, 0, rfl, Byts.none_, HW.out, HG.out⟩
set_option maxHeartbeats 400000 in
theorem take_long (w : World) (B g k : Nat) (s : St) (hr : Rdr 65 w B g s) (hk : k ≤ s.left.length) :
    Calls Try.prog 48 #[.pointer (some ⟨g, 0, none⟩), .int .i64 k] w (Took 65 w B g (tk k s) (tkS k s)) := by
  obtain ⟨hok, hB, A, n, c, hg, hb, hnc, hcm, hnm⟩ := hr
  have h1 := Lib.hid (tk_long hok hk)
  have hl := hb.len
  have hkn : k ≤ n := by omega
  have hkc : k ≤ c := by omega
  have hcm2 : c ≤ 9223372036854775807 := hcm
  have HB := Lib.hid hb
  have HG := Lib.hid hg
  have c0 : w.cell? ⟨g, 0, none⟩ = some (.slice A n c) := cell_at hg 0
  have f0 := free_at hg 0
  have hs1 := fun w => run_to w A n c k hkc
  have hs2 := fun w => run_from w A n c k hkn
  have HA := Lib.hid (HB.out.drop k c hkn hnc)
  generalize (if c = k then A else A.map (·.add k)) = A2 at *
  have hd : decide (n < k) = false := by simpa using hkn
  clear hg hl hb hok hk hcm
  go_enter Try.func48, Try.ntmps48
  go_wp2_with fail
  go_ret
  rw [h1.out.1, h1.out.2]
  refine ⟨A, k, c, rfl, (HB.out.take k hkn).setCell hB _, ⟨?_, hB, A2, n - k, c - k, set_at HG.out 0 _, HA.out.setCell hB _, by omega, ?_, by omega⟩, grown_set w g 0 _⟩
  · rw [← h1.out.2]; exact tkS_ok _ _
  · unfold maxLen; omega
theorem take_any (w : World) (B g k : Nat) (s : St) (hr : Rdr 65 w B g s) :
    Calls Try.prog 48 #[.pointer (some ⟨g, 0, none⟩), .int .i64 k] w (Took 65 w B g (tk k s) (tkS k s)) := by
  by_cases h : s.left.length < k
  · exact take_few w B g k s hr h
  · exact take_long w B g k s hr (by omega)
set_option maxHeartbeats 400000 in
theorem take_none (w : World) (v : Value) : Calls Try.prog 48 #[.pointer none, v] w fun e w' => e = .returned (.slice none 0 0) ∧ w = w' := by
  go_enter Try.func48, Try.ntmps48
  go_wp2_with fail
  refine (refuse_none w true).mono ?_
  rintro e w1 ⟨rfl, rfl⟩
  go_wp2_with fail
  go_ret
  exact ⟨rfl, rfl⟩
theorem number_step (xs : List UInt8) (j : Nat) (h : j < xs.length) : leVal (xs.take (j + 1)) = leVal (xs.take j) + 256 ^ j * (xs.getD j 0).toNat := by
  rw [List.take_succ_eq_append_getElem h, leVal_snoc, List.length_take, Nat.min_eq_left (by omega)]
  simp [List.getD_eq_getElem?_getD, h]
theorem or_step (r x j : Nat) (hr : r < 256 ^ j) (hx : x < 256) (hj : j < 8) :
    bits .or .u64 (r : Int) (IntKind.u64.wrap (IntKind.u64.wrap (x : Int) * 2 ^ (8 * j))) = ((r + 256 ^ j * x : Nat) : Int) := by
  have e : (256 : Nat) ^ j = 2 ^ (8 * j) := by rw [show (256 : Nat) = 2 ^ 8 from rfl, ← Nat.pow_mul]
  have e2 : ((2 : Int) ^ (8 * j)) = ((256 ^ j : Nat) : Int) := by rw [e]; simp
  have h1 : 256 ^ j * x < 18446744073709551616 := by
    have h2 : 256 ^ j ≤ 256 ^ 7 := Nat.pow_le_pow_right (by decide) (by omega)
    have h3 : 256 ^ j * x ≤ 256 ^ 7 * 255 := Nat.mul_le_mul h2 (by omega)
    omega
  have h4 : r < 18446744073709551616 := by
    have h2 : 256 ^ j ≤ 256 ^ 7 := Nat.pow_le_pow_right (by decide) (by omega)
    omega
  have h5 : 256 ^ j * x + r = 256 ^ j * x ||| r := by rw [e] at hr ⊢; exact Nat.two_pow_add_eq_or_of_lt hr x
  rw [e2, IntKind.wrap_u64, IntKind.wrap_u64]
  have h6 : (x : Int) % 18446744073709551616 * ((256 ^ j : Nat) : Int) % 18446744073709551616 = ((256 ^ j * x : Nat) : Int) := by
    rw [show (x : Int) % 18446744073709551616 = (x : Int) by omega, ← Int.natCast_mul, Nat.mul_comm]
    generalize 256 ^ j * x = q at *
    omega
  rw [h6, u64_or_nat _ _ h4 h1, Nat.or_comm, ← h5, Nat.add_comm]
theorem take_le (k : Nat) (s : St) : (tk k s).length ≤ k := by
  unfold tk
  split <;> simp
  omega
set_option maxHeartbeats 400000 in
theorem number_any (w : World) (B g k : Nat) (s : St) (hr : Rdr 65 w B g s) (hk : k ≤ 8) :
    Calls Try.prog 47 #[.pointer (some ⟨g, 0, none⟩), .int .i64 k] w (Turned 65 w B g (.int .u64 (leVal (tk k s))) (tkS k s)) := by
  have HT := Lib.hid (take_any w B g k s hr)
  clear hr
  go_enter Try.func47, Try.ntmps47
  go_wp2_with fail
  refine HT.out.mono ?_
  rintro e w1 ⟨A, m, c, rfl, hb, hw, hgr⟩
  have HB := Lib.hid hb
  have HW := Lib.hid hw
  have HG := Lib.hid hgr
  have hm : m ≤ 8 := by have := take_le k s; have := hb.len; omega
  generalize tk k s = xs at *
  generalize tkS k s = s1 at *
  clear hb hw hgr HT
  go_wp2_with fail
  go_loop [5, 12] (fun r i => ∃ j : Nat, j ≤ m ∧ i = .int .i64 j ∧ r = .int .u64 (leVal (xs.take j))) (fun _ i => m - (intOf i).toNat)
  case atStart => exact ⟨0, Nat.zero_le _, rfl, rfl⟩
  case round =>
    obtain ⟨j, hj, rfl, rfl⟩ := hrel
    by_cases hlt : j < m
    · obtain ⟨b, off, hA, _, hc⟩ := HB.out.at_ (by omega)
      subst hA
      have hcx := hc j hlt
      have HX := Lib.hid (number_step xs j (by rw [HB.out.len]; exact hlt))
      have HR := Lib.hid (leVal_lt (xs.take j))
      have HJ := Lib.hid (show (xs.take j).length = j by rw [List.length_take, HB.out.len]; omega)
      unfold byt at hcx
      clear hc
      generalize leVal (xs.take j) = r at *
      go_wp2
      go_round
      case rel =>
        have hr := HR.out
        rw [HJ.out] at hr
        refine ⟨j + 1, by omega, by go_num, ?_⟩
        rw [HX.out, List.getD_eq_getElem?_getD, or_step r _ j hr (UInt8.toNat_lt _) (by omega)]
      case measure => simp [intOf]; omega
    · obtain rfl : j = m := by omega
      go_wp2
      go_ret
      refine ⟨?_, HW.out, HG.out⟩
      rw [List.take_of_length_le (by rw [HB.out.len]; omega)]
      rfl
end Go.Proofs.Ytofadlenblobnaa.Cod
