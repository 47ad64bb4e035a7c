/-
  What the document's Digits answers: the decimal numeral.
-/
import Derived.Test.YtjgkfdhfffbccaaDoorNDigits
namespace Go.Proofs.YtjgkfdhfffbccaaDoor.Num
open Go.RowKit
set_option maxRecDepth 100000
/-- A text of one byte, made of a slice of one. -/
theorem conv_one (w : World) (x : Int) : (convert 41 9 (.slice (some ⟨w.heap.size, 0, none⟩) 1 1)).run Tryd.prog (w.alloc (.cells #[.int .u8 x] 5)) = .ok (.string (strOfNums [x])) (w.alloc (.cells #[.int .u8 x] 5)) :=
  run_convert_bytes_arg (P := Tryd.prog) (w.alloc (.cells #[.int .u8 x] 5)) 41 5 Tryd.underlying41 Tryd.underlying5 w.heap.size 0 1 1 [x] rfl (fun i hi => by
    obtain rfl : i = 0 := by omega
    simp [go_sem]) 9 Tryd.underlying9
theorem rdigits_out (n : Int) (w : World) (h0 : 0 ≤ n) (h1 : n < 10) : Calls Tryd.prog 26 #[.int .i64 n] w (EndsBelow (str (Lib.itoa n)) w) := by
  have hc := conv_one w (48 + n)
  have he : Lib.itoa n = [UInt8.ofNat (48 + n.toNat)] := by
    unfold Lib.itoa
    rw [if_neg (by omega), decDigits_lt (by omega)]
  have HE := Lib.hid he
  clear he
  go_enter Tryd.func26, Tryd.ntmps26
  go_wp2
  go_ret
  refine ⟨?_, (Below.refl _ _).alloc (Nat.le_refl _) _⟩
  rw [HE.out]
  show Ending.returned (Value.string (strOfNums [48 + n])) = _
  unfold str strOfNums
  rw [show UInt8.ofNat (48 + n.toNat) = UInt8.ofNat (48 + n).toNat by congr 1; omega]
  rfl
theorem cat (a b : List UInt8) : (⟨a.toArray⟩ : ByteArray) ++ ⟨b.toArray⟩ = ⟨(a ++ b).toArray⟩ := by
  apply ByteArray.ext
  simp
theorem rdigits_neg (n : Int) (w : World) (h0 : n < 0) (h1 : -9 ≤ n) : Calls Tryd.prog 26 #[.int .i64 n] w (EndsBelow (str (Lib.itoa n)) w) := by
  have hc := conv_one w (48 - n)
  have he : Lib.itoa n = [45, UInt8.ofNat (48 + n.natAbs)] := by
    unfold Lib.itoa
    rw [if_pos h0, decDigits_lt (by omega)]
  have HE := Lib.hid he
  clear he
  go_enter Tryd.func26, Tryd.ntmps26
  go_wp2
  go_ret
  refine ⟨?_, (Below.refl _ _).alloc (Nat.le_refl _) _⟩
  rw [HE.out]
  show Ending.returned (Value.string (⟨[45].toArray⟩ ++ strOfNums [48 - n])) = _
  unfold str strOfNums
  rw [show UInt8.ofNat (48 + n.natAbs) = UInt8.ofNat (48 - n).toNat by congr 1; omega]
  rw [cat]
  rfl
theorem itoa_split (n : Int) (h : 10 ≤ n) : Lib.itoa (n / 10) ++ Lib.itoa (n % 10) = Lib.itoa n := by
  unfold Lib.itoa
  rw [if_neg (by omega), if_neg (by omega), if_neg (by omega), decDigits_ge (u := n.toNat) (by omega), decDigits_lt (u := (n % 10).toNat) (by omega)]
  rw [show (n / 10).toNat = n.toNat / 10 by omega, show (n % 10).toNat = n.toNat % 10 by omega]
theorem tdiv_neg (n : Int) (h : n < 0) : n.tdiv 10 = -((-n) / 10) := by
  rw [show n = -(-n) by omega, Int.neg_tdiv, Int.tdiv_eq_ediv_of_nonneg (by omega), Int.neg_neg]
theorem tmod_neg (n : Int) (h : n < 0) : n.tmod 10 = -((-n) % 10) := by
  rw [show n = -(-n) by omega, Int.neg_tmod, Int.tmod_eq_emod_of_nonneg (by omega), Int.neg_neg]
theorem itoa_splitn (n : Int) (h : n < -9) : Lib.itoa (n.tdiv 10) ++ Lib.itoa (-n.tmod 10) = Lib.itoa n := by
  rw [tdiv_neg n (by omega), tmod_neg n (by omega), Int.neg_neg]
  unfold Lib.itoa
  rw [if_pos (by omega), if_neg (by omega), if_pos (by omega), decDigits_ge (u := n.natAbs) (by omega), decDigits_lt (u := (-n % 10).toNat) (by omega)]
  rw [show (-(-n / 10)).natAbs = n.natAbs / 10 by omega, show (-n % 10).toNat = n.natAbs % 10 by omega]
  rfl
set_option maxHeartbeats 400000 in
theorem rdigits_rec (n : Int) (w : World) (h0 : 10 ≤ n) (h1 : n ≤ 9223372036854775807)
    (C1 : ∀ w, Calls Tryd.prog 26 #[.int .i64 (n / 10)] w (EndsBelow (str (Lib.itoa (n / 10))) w)) (C2 : ∀ w, Calls Tryd.prog 26 #[.int .i64 (n % 10)] w (EndsBelow (str (Lib.itoa (n % 10))) w)) :
    Calls Tryd.prog 26 #[.int .i64 n] w (EndsBelow (str (Lib.itoa n)) w) := by
  have H1 := Lib.hid C1
  have H2 := Lib.hid C2
  have HS := Lib.hid (itoa_split n h0)
  have l1 := itoa_len (n / 10) (by omega) (by omega)
  have l2 := itoa_len (n % 10) (by omega) (by omega)
  have hlen : ¬ 9223372036854775807 < (Lib.itoa (n / 10)).length + (Lib.itoa (n % 10)).length := by omega
  clear C1 C2 l1 l2
  go_enter Tryd.func26, Tryd.ntmps26
  go_wp2_with fail
  refine (H1.out _).mono ?_
  rintro e w1 ⟨rfl, b1⟩
  unfold str
  go_wp2_with fail
  refine (H2.out _).mono ?_
  rintro e w2 ⟨rfl, b2⟩
  unfold str
  go_wp2_with fail
  go_ret
  refine ⟨?_, b1.trans (b2.mono b1.size)⟩
  rw [← HS.out]
  unfold str
  rw [← cat]
  rfl
set_option maxHeartbeats 400000 in
theorem rdigits_recn (n : Int) (w : World) (h0 : n < -9) (h1 : -9223372036854775808 ≤ n)
    (C1 : ∀ w, Calls Tryd.prog 26 #[.int .i64 (n.tdiv 10)] w (EndsBelow (str (Lib.itoa (n.tdiv 10))) w)) (C2 : ∀ w, Calls Tryd.prog 26 #[.int .i64 (-n.tmod 10)] w (EndsBelow (str (Lib.itoa (-n.tmod 10))) w)) :
    Calls Tryd.prog 26 #[.int .i64 n] w (EndsBelow (str (Lib.itoa n)) w) := by
  have H1 := Lib.hid C1
  have H2 := Lib.hid C2
  have HS := Lib.hid (itoa_splitn n h0)
  have td := tdiv_neg n (by omega)
  have tm := tmod_neg n (by omega)
  have m1 : -9 ≤ n.tmod 10 := by omega
  have m2 : n.tmod 10 ≤ 0 := by omega
  have l1 := itoa_len (n.tdiv 10) (by omega) (by omega)
  have l2 := itoa_len (-n.tmod 10) (by omega) (by omega)
  have hlen : ¬ 9223372036854775807 < (Lib.itoa (n.tdiv 10)).length + (Lib.itoa (-n.tmod 10)).length := by omega
  clear C1 C2 l1 l2 td tm
  go_enter Tryd.func26, Tryd.ntmps26
  go_wp2_with fail
  refine (H1.out _).mono ?_
  rintro e w1 ⟨rfl, b1⟩
  unfold str
  go_wp2_with fail
  refine (H2.out _).mono ?_
  rintro e w2 ⟨rfl, b2⟩
  unfold str
  go_wp2_with fail
  go_ret
  refine ⟨?_, b1.trans (b2.mono b1.size)⟩
  rw [← HS.out]
  unfold str
  rw [← cat]
  rfl
/-- The document's Digits: the numeral of every number. -/
theorem rdigits_any (n : Int) (w : World) (h0 : -9223372036854775808 ≤ n) (h1 : n ≤ 9223372036854775807) : Calls Tryd.prog 26 #[.int .i64 n] w (EndsBelow (str (Lib.itoa n)) w) := by
  suffices H : ∀ k : Nat, ∀ n : Int, n.natAbs ≤ k → -9223372036854775808 ≤ n → n ≤ 9223372036854775807 → ∀ w, Calls Tryd.prog 26 #[.int .i64 n] w (EndsBelow (str (Lib.itoa n)) w) from H _ n (Nat.le_refl _) h0 h1 w
  intro k
  induction k with
  | zero => intro n hk _ _ w; exact rdigits_out n w (by omega) (by omega)
  | succ k ih =>
    intro n hk h0 h1 w
    by_cases a : n < -9
    · have td := tdiv_neg n (by omega)
      have tm := tmod_neg n (by omega)
      exact rdigits_recn n w a h0 (ih _ (by omega) (by omega) (by omega)) (fun w => rdigits_out _ w (by omega) (by omega))
    by_cases b : n < 0
    · exact rdigits_neg n w b (by omega)
    by_cases c : n < 10
    · exact rdigits_out n w (by omega) c
    · exact rdigits_rec n w (by omega) h1 (ih _ (by omega) (by omega) (by omega)) (fun w => rdigits_out _ w (by omega) (by omega))
end Go.Proofs.YtjgkfdhfffbccaaDoor.Num
