/-
  The program's Nest: how deep the words' brackets stand. Condition: the words are known.
-/
import Derived.Test.YtlhbhpdpjidpgaaGreatDoorZ01
import Derived.Test.YtlhbhpdpjidpgaaGreatDoorZ04
import Derived.Test.YtlhbhpdpjidpgaaGreatDoorZ21
import Derived.Test.YtlhbhpdpjidpgaaGreatDoorZ37
import Derived.Lib.AppendIntMem
import Derived.Lib.SmallJoins
namespace Go.Proofs.YtlhbhpdpjidpgaaGreatDoor.Prg
open Go.RowKit Tre Prs
open Lex (Wd wdC wdV bs str Turn)
set_option maxRecDepth 100000
set_option linter.unusedSimpArgs false
variable {lo : Nat}
abbrev isB (x : Wd) (s : List UInt8) : Bool := isK x s
/-- One word more: the depth, the most. -/
def nest2 (p : Nat × Nat) (x : Wd) : Nat × Nat :=
  if isB x [40] || isB x [123] then (p.1 + 1, max p.2 (p.1 + 1)) else if isB x [41] || isB x [125] then (p.1 - 1, p.2) else p
theorem nest2_eq (d m : Nat) (x : Wd) : nest2 (d, m) x = if isB x [40] || isB x [123] then (d + 1, max m (d + 1)) else if isB x [41] || isB x [125] then (d - 1, m) else (d, m) := rfl
def nestG (l : List Wd) : Nat := (l.foldl nest2 (0, 0)).2
theorem nest2_le : ∀ (l : List Wd) (p : Nat × Nat) (b : Nat), p.1 ≤ b → p.2 ≤ b → (l.foldl nest2 p).1 ≤ b + l.length ∧ (l.foldl nest2 p).2 ≤ b + l.length
  | [], p, b, h1, h2 => ⟨h1, h2⟩
  | x :: l, p, b, h1, h2 => by
    have hs : (nest2 p x).1 ≤ b + 1 ∧ (nest2 p x).2 ≤ b + 1 := by
      unfold nest2
      split
      · simp only; omega
      · split
        · simp only; omega
        · omega
    have := nest2_le l (nest2 p x) (b + 1) hs.1 hs.2
    rw [List.foldl_cons, List.length_cons]
    omega
theorem nest2_take {l : List Wd} {k : Nat} {x : Wd} (h : l[k]? = some x) : (l.take (k + 1)).foldl nest2 (0, 0) = nest2 ((l.take k).foldl nest2 (0, 0)) x := by
  rw [List.take_add_one, h, List.foldl_append]
  rfl
theorem isB_any (w : World) (x : Wd) (s : List UInt8) (b : Bool) (h : isB x s = b) : Calls Tryz.prog 33 #[.agg #[.int .i64 x.k, .string (bs x.s), .int .i64 x.n], .string (bs s)] w (EndsB (.bool b) w) := by
  have := is_any w x s
  rw [wdV_eq] at this
  rw [← h]
  exact this
set_option maxHeartbeats 8000000 in
theorem nestg_any (l : List Wd) (A : Option Addr) (c : Nat) (w : World) (h : Row 3 wdC w A l) (hl : l.length ≤ 1000000) : Calls Tryz.prog 15 #[.slice A l.length c] w (EndsB (.int .i64 (nestG l : Nat)) w) := by
  have HH := Lib.hid h
  obtain ⟨n, hn⟩ : ∃ n, l.length = n := ⟨_, rfl⟩
  have HN := Lib.hid hn
  rw [hn] at hl ⊢
  clear h hn
  go_enter Tryz.func15, Tryz.ntmps15
  go_wp2_with fail
  go_loopw [3, 4, 9] (fun d m i wr => ∃ k : Nat, k ≤ n ∧ i = .int .i64 k ∧ d = .int .i64 (((l.take k).foldl nest2 (0, 0)).1 : Nat) ∧ m = .int .i64 (((l.take k).foldl nest2 (0, 0)).2 : Nat) ∧ Below w.heap.size w wr) (fun _ _ i _ => n - (intOf i).toNat)
  case atStart => exact ⟨0, Nat.zero_le _, rfl, rfl, rfl, Below.refl _ _⟩
  case round =>
    obtain ⟨k, hk, rfl, rfl, rfl, hb⟩ := hrel
    have hle := nest2_le (l.take k) (0, 0) 0 (Nat.le_refl _) (Nat.le_refl _)
    have HST := Lib.hid (fun x (hx : l[k]? = some x) => nest2_take hx)
    rw [List.length_take] at hle
    have HSE : Hid (k = n → nestG l = ((l.take k).foldl nest2 (0, 0)).2) := Lib.hid (fun e => by rw [e, ← HN.out, List.take_length]; rfl)
    obtain ⟨p, hp⟩ : ∃ p, (l.take k).foldl nest2 (0, 0) = p := ⟨_, rfl⟩
    rw [hp] at hle HST HSE ⊢
    obtain ⟨d, m⟩ := p
    dsimp only at hle HSE ⊢
    have hd : d ≤ 1000000 := by omega
    have hm : m ≤ 1000000 := by omega
    clear hp hle
    by_cases hlt : k < n
    · obtain ⟨x, hx⟩ : ∃ x, l[k]? = some x := ⟨_, List.getElem?_eq_getElem (by rw [HN.out]; exact hlt)⟩
      have HS1 := Lib.hid (HST.out x hx)
      obtain ⟨b1, o1, rfl, hc1⟩ := HH.out.at_ hb hx
      obtain ⟨x0, x1, x2⟩ := wdC_at hc1
      have HB := Lib.hid (hb.trans ((word_box wr x).mono hb.size))
      have hn0 := new_at wr #[.int .i64 x.k, .string (bs x.s), .int .i64 x.n] 73
      obtain ⟨c0, c1, c2⟩ := three_at hn0
      clear hc1 hx HST HSE hb
      rw [nest2_eq] at HS1
      rcases Bool.eq_false_or_eq_true (isB x [40]) with t40 | t40
      · have HS2 : Hid ((l.take (k + 1)).foldl nest2 (0, 0) = (d + 1, max m (d + 1))) := Lib.hid (by rw [HS1.out]; simp [t40])
        have C40 := Lib.hid (fun w' => isB_any w' x [40] true t40)
        clear HS1 t40
        obtain ⟨xk, xs, xn⟩ := x
        dsimp only at *
        generalize bs xs = X at *
        go_wp2_with fail
        refine (C40.out _).mono ?_
        rintro e w2 ⟨rfl, hb2⟩
        replace HB := Lib.hid (HB.out.trans (hb2.mono HB.out.size))
        replace hn0 := (hb2.block _ (lt_of_heap hn0)).trans hn0
        obtain ⟨c0, c1, c2⟩ := three_at hn0
        clear hb2
        go_wp2_with fail
        go_roundw
        case rel => exact ⟨k + 1, by omega, rfl, by rw [HS2.out] <;> first | rfl | (simp; done) | (simp; omega), by rw [HS2.out] <;> first | rfl | (simp; done) | (simp; omega), HB.out⟩
        case measure => simp [intOf]; omega
      · rcases Bool.eq_false_or_eq_true (isB x [123]) with t123 | t123
        · have HS2 : Hid ((l.take (k + 1)).foldl nest2 (0, 0) = (d + 1, max m (d + 1))) := Lib.hid (by rw [HS1.out]; simp [t40, t123])
          have C40 := Lib.hid (fun w' => isB_any w' x [40] false t40)
          have C123 := Lib.hid (fun w' => isB_any w' x [123] true t123)
          clear HS1 t40 t123
          obtain ⟨xk, xs, xn⟩ := x
          dsimp only at *
          generalize bs xs = X at *
          go_wp2_with fail
          refine (C40.out _).mono ?_
          rintro e w2 ⟨rfl, hb2⟩
          replace HB := Lib.hid (HB.out.trans (hb2.mono HB.out.size))
          replace hn0 := (hb2.block _ (lt_of_heap hn0)).trans hn0
          obtain ⟨c0, c1, c2⟩ := three_at hn0
          clear hb2
          go_wp2_with fail
          refine (C123.out _).mono ?_
          rintro e w3 ⟨rfl, hb3⟩
          replace HB := Lib.hid (HB.out.trans (hb3.mono HB.out.size))
          replace hn0 := (hb3.block _ (lt_of_heap hn0)).trans hn0
          obtain ⟨c0, c1, c2⟩ := three_at hn0
          clear hb3
          go_wp2_with fail
          go_roundw
          case rel => exact ⟨k + 1, by omega, rfl, by rw [HS2.out] <;> first | rfl | (simp; done) | (simp; omega), by rw [HS2.out] <;> first | rfl | (simp; done) | (simp; omega), HB.out⟩
          case measure => simp [intOf]; omega
        · rcases Bool.eq_false_or_eq_true (isB x [41]) with t41 | t41
          · rcases Nat.eq_zero_or_pos d with hd0 | hd0
            · subst hd0
              have HS2 : Hid ((l.take (k + 1)).foldl nest2 (0, 0) = (0 - 1, m)) := Lib.hid (by rw [HS1.out]; simp [t40, t123, t41])
              have C40 := Lib.hid (fun w' => isB_any w' x [40] false t40)
              have C123 := Lib.hid (fun w' => isB_any w' x [123] false t123)
              have C41 := Lib.hid (fun w' => isB_any w' x [41] true t41)
              clear HS1 t40 t123 t41
              obtain ⟨xk, xs, xn⟩ := x
              dsimp only at *
              generalize bs xs = X at *
              go_wp2_with fail
              refine (C40.out _).mono ?_
              rintro e w2 ⟨rfl, hb2⟩
              replace HB := Lib.hid (HB.out.trans (hb2.mono HB.out.size))
              replace hn0 := (hb2.block _ (lt_of_heap hn0)).trans hn0
              obtain ⟨c0, c1, c2⟩ := three_at hn0
              clear hb2
              go_wp2_with fail
              refine (C123.out _).mono ?_
              rintro e w3 ⟨rfl, hb3⟩
              replace HB := Lib.hid (HB.out.trans (hb3.mono HB.out.size))
              replace hn0 := (hb3.block _ (lt_of_heap hn0)).trans hn0
              obtain ⟨c0, c1, c2⟩ := three_at hn0
              clear hb3
              go_wp2_with fail
              refine (C41.out _).mono ?_
              rintro e w4 ⟨rfl, hb4⟩
              replace HB := Lib.hid (HB.out.trans (hb4.mono HB.out.size))
              replace hn0 := (hb4.block _ (lt_of_heap hn0)).trans hn0
              obtain ⟨c0, c1, c2⟩ := three_at hn0
              clear hb4
              go_wp2_with fail
              go_roundw
              case rel => exact ⟨k + 1, by omega, rfl, by rw [HS2.out] <;> first | rfl | (simp; done) | (simp; omega), by rw [HS2.out] <;> first | rfl | (simp; done) | (simp; omega), HB.out⟩
              case measure => simp [intOf]; omega
            · have HS2 : Hid ((l.take (k + 1)).foldl nest2 (0, 0) = (d - 1, m)) := Lib.hid (by rw [HS1.out]; simp [t40, t123, t41])
              have C40 := Lib.hid (fun w' => isB_any w' x [40] false t40)
              have C123 := Lib.hid (fun w' => isB_any w' x [123] false t123)
              have C41 := Lib.hid (fun w' => isB_any w' x [41] true t41)
              clear HS1 t40 t123 t41
              obtain ⟨xk, xs, xn⟩ := x
              dsimp only at *
              generalize bs xs = X at *
              go_wp2_with fail
              refine (C40.out _).mono ?_
              rintro e w2 ⟨rfl, hb2⟩
              replace HB := Lib.hid (HB.out.trans (hb2.mono HB.out.size))
              replace hn0 := (hb2.block _ (lt_of_heap hn0)).trans hn0
              obtain ⟨c0, c1, c2⟩ := three_at hn0
              clear hb2
              go_wp2_with fail
              refine (C123.out _).mono ?_
              rintro e w3 ⟨rfl, hb3⟩
              replace HB := Lib.hid (HB.out.trans (hb3.mono HB.out.size))
              replace hn0 := (hb3.block _ (lt_of_heap hn0)).trans hn0
              obtain ⟨c0, c1, c2⟩ := three_at hn0
              clear hb3
              go_wp2_with fail
              refine (C41.out _).mono ?_
              rintro e w4 ⟨rfl, hb4⟩
              replace HB := Lib.hid (HB.out.trans (hb4.mono HB.out.size))
              replace hn0 := (hb4.block _ (lt_of_heap hn0)).trans hn0
              obtain ⟨c0, c1, c2⟩ := three_at hn0
              clear hb4
              go_wp2_with fail
              go_roundw
              case rel => exact ⟨k + 1, by omega, rfl, by rw [HS2.out] <;> first | rfl | (simp; done) | (simp; omega), by rw [HS2.out] <;> first | rfl | (simp; done) | (simp; omega), HB.out⟩
              case measure => simp [intOf]; omega
          · rcases Bool.eq_false_or_eq_true (isB x [125]) with t125 | t125
            · rcases Nat.eq_zero_or_pos d with hd0 | hd0
              · subst hd0
                have HS2 : Hid ((l.take (k + 1)).foldl nest2 (0, 0) = (0 - 1, m)) := Lib.hid (by rw [HS1.out]; simp [t40, t123, t41, t125])
                have C40 := Lib.hid (fun w' => isB_any w' x [40] false t40)
                have C123 := Lib.hid (fun w' => isB_any w' x [123] false t123)
                have C41 := Lib.hid (fun w' => isB_any w' x [41] false t41)
                have C125 := Lib.hid (fun w' => isB_any w' x [125] true t125)
                clear HS1 t40 t123 t41 t125
                obtain ⟨xk, xs, xn⟩ := x
                dsimp only at *
                generalize bs xs = X at *
                go_wp2_with fail
                refine (C40.out _).mono ?_
                rintro e w2 ⟨rfl, hb2⟩
                replace HB := Lib.hid (HB.out.trans (hb2.mono HB.out.size))
                replace hn0 := (hb2.block _ (lt_of_heap hn0)).trans hn0
                obtain ⟨c0, c1, c2⟩ := three_at hn0
                clear hb2
                go_wp2_with fail
                refine (C123.out _).mono ?_
                rintro e w3 ⟨rfl, hb3⟩
                replace HB := Lib.hid (HB.out.trans (hb3.mono HB.out.size))
                replace hn0 := (hb3.block _ (lt_of_heap hn0)).trans hn0
                obtain ⟨c0, c1, c2⟩ := three_at hn0
                clear hb3
                go_wp2_with fail
                refine (C41.out _).mono ?_
                rintro e w4 ⟨rfl, hb4⟩
                replace HB := Lib.hid (HB.out.trans (hb4.mono HB.out.size))
                replace hn0 := (hb4.block _ (lt_of_heap hn0)).trans hn0
                obtain ⟨c0, c1, c2⟩ := three_at hn0
                clear hb4
                go_wp2_with fail
                refine (C125.out _).mono ?_
                rintro e w5 ⟨rfl, hb5⟩
                replace HB := Lib.hid (HB.out.trans (hb5.mono HB.out.size))
                replace hn0 := (hb5.block _ (lt_of_heap hn0)).trans hn0
                obtain ⟨c0, c1, c2⟩ := three_at hn0
                clear hb5
                go_wp2_with fail
                go_roundw
                case rel => exact ⟨k + 1, by omega, rfl, by rw [HS2.out] <;> first | rfl | (simp; done) | (simp; omega), by rw [HS2.out] <;> first | rfl | (simp; done) | (simp; omega), HB.out⟩
                case measure => simp [intOf]; omega
              · have HS2 : Hid ((l.take (k + 1)).foldl nest2 (0, 0) = (d - 1, m)) := Lib.hid (by rw [HS1.out]; simp [t40, t123, t41, t125])
                have C40 := Lib.hid (fun w' => isB_any w' x [40] false t40)
                have C123 := Lib.hid (fun w' => isB_any w' x [123] false t123)
                have C41 := Lib.hid (fun w' => isB_any w' x [41] false t41)
                have C125 := Lib.hid (fun w' => isB_any w' x [125] true t125)
                clear HS1 t40 t123 t41 t125
                obtain ⟨xk, xs, xn⟩ := x
                dsimp only at *
                generalize bs xs = X at *
                go_wp2_with fail
                refine (C40.out _).mono ?_
                rintro e w2 ⟨rfl, hb2⟩
                replace HB := Lib.hid (HB.out.trans (hb2.mono HB.out.size))
                replace hn0 := (hb2.block _ (lt_of_heap hn0)).trans hn0
                obtain ⟨c0, c1, c2⟩ := three_at hn0
                clear hb2
                go_wp2_with fail
                refine (C123.out _).mono ?_
                rintro e w3 ⟨rfl, hb3⟩
                replace HB := Lib.hid (HB.out.trans (hb3.mono HB.out.size))
                replace hn0 := (hb3.block _ (lt_of_heap hn0)).trans hn0
                obtain ⟨c0, c1, c2⟩ := three_at hn0
                clear hb3
                go_wp2_with fail
                refine (C41.out _).mono ?_
                rintro e w4 ⟨rfl, hb4⟩
                replace HB := Lib.hid (HB.out.trans (hb4.mono HB.out.size))
                replace hn0 := (hb4.block _ (lt_of_heap hn0)).trans hn0
                obtain ⟨c0, c1, c2⟩ := three_at hn0
                clear hb4
                go_wp2_with fail
                refine (C125.out _).mono ?_
                rintro e w5 ⟨rfl, hb5⟩
                replace HB := Lib.hid (HB.out.trans (hb5.mono HB.out.size))
                replace hn0 := (hb5.block _ (lt_of_heap hn0)).trans hn0
                obtain ⟨c0, c1, c2⟩ := three_at hn0
                clear hb5
                go_wp2_with fail
                go_roundw
                case rel => exact ⟨k + 1, by omega, rfl, by rw [HS2.out] <;> first | rfl | (simp; done) | (simp; omega), by rw [HS2.out] <;> first | rfl | (simp; done) | (simp; omega), HB.out⟩
                case measure => simp [intOf]; omega
            · have HS2 : Hid ((l.take (k + 1)).foldl nest2 (0, 0) = (d, m)) := Lib.hid (by rw [HS1.out]; simp [t40, t123, t41, t125])
              have C40 := Lib.hid (fun w' => isB_any w' x [40] false t40)
              have C123 := Lib.hid (fun w' => isB_any w' x [123] false t123)
              have C41 := Lib.hid (fun w' => isB_any w' x [41] false t41)
              have C125 := Lib.hid (fun w' => isB_any w' x [125] false t125)
              clear HS1 t40 t123 t41 t125
              obtain ⟨xk, xs, xn⟩ := x
              dsimp only at *
              generalize bs xs = X at *
              go_wp2_with fail
              refine (C40.out _).mono ?_
              rintro e w2 ⟨rfl, hb2⟩
              replace HB := Lib.hid (HB.out.trans (hb2.mono HB.out.size))
              replace hn0 := (hb2.block _ (lt_of_heap hn0)).trans hn0
              obtain ⟨c0, c1, c2⟩ := three_at hn0
              clear hb2
              go_wp2_with fail
              refine (C123.out _).mono ?_
              rintro e w3 ⟨rfl, hb3⟩
              replace HB := Lib.hid (HB.out.trans (hb3.mono HB.out.size))
              replace hn0 := (hb3.block _ (lt_of_heap hn0)).trans hn0
              obtain ⟨c0, c1, c2⟩ := three_at hn0
              clear hb3
              go_wp2_with fail
              refine (C41.out _).mono ?_
              rintro e w4 ⟨rfl, hb4⟩
              replace HB := Lib.hid (HB.out.trans (hb4.mono HB.out.size))
              replace hn0 := (hb4.block _ (lt_of_heap hn0)).trans hn0
              obtain ⟨c0, c1, c2⟩ := three_at hn0
              clear hb4
              go_wp2_with fail
              refine (C125.out _).mono ?_
              rintro e w5 ⟨rfl, hb5⟩
              replace HB := Lib.hid (HB.out.trans (hb5.mono HB.out.size))
              replace hn0 := (hb5.block _ (lt_of_heap hn0)).trans hn0
              obtain ⟨c0, c1, c2⟩ := three_at hn0
              clear hb5
              go_wp2_with fail
              go_roundw
              case rel => exact ⟨k + 1, by omega, rfl, by rw [HS2.out] <;> first | rfl | (simp; done) | (simp; omega), by rw [HS2.out] <;> first | rfl | (simp; done) | (simp; omega), HB.out⟩
              case measure => simp [intOf]; omega
    · obtain rfl : k = n := by omega
      have HE := Lib.hid (HSE.out rfl)
      have HB := Lib.hid hb
      clear hb
      go_wp2_with fail
      go_ret
      exact ⟨by rw [HE.out]; rfl, HB.out⟩
end Go.Proofs.YtlhbhpdpjidpgaaGreatDoor.Prg
/- What num.Digits answers: the decimal numeral; the library's FormatInt reads a table that the row lists. -/
namespace Go.Proofs.YtlhbhpdpjidpgaaGreatDoor.Num
open Go.RowKit
set_option maxRecDepth 100000
def EndsBelow (v : Value) (w : World) (e : Ending) (w' : World) : Prop := e = .returned v ∧ Below w.heap.size w w'
def str (l : List UInt8) : Value := .string ⟨l.toArray⟩
theorem nDigits_le (k u : Nat) (h : u < 10 ^ (k + 1)) : Lib.nDigits u ≤ k + 1 := by
  induction k generalizing u with
  | zero => rw [Lib.nDigits_small (by simpa using h)]; omega
  | succ k ih =>
    by_cases hs : u < 10
    · rw [Lib.nDigits_small hs]; omega
    · rw [Lib.nDigits_big hs]
      rw [Nat.pow_succ] at h
      have := ih (u / 10) (by omega)
      omega
theorem itoa_len (n : Int) (h0 : -9223372036854775808 ≤ n) (h1 : n ≤ 9223372036854775807) : (Lib.itoa n).length ≤ 20 := by
  unfold Lib.itoa
  split
  · rw [List.length_cons, Lib.decDigits_length]
    have := nDigits_le 18 n.natAbs (by omega)
    omega
  · rw [Lib.decDigits_length]
    have := nDigits_le 18 n.toNat (by omega)
    omega
end Go.Proofs.YtlhbhpdpjidpgaaGreatDoor.Num
