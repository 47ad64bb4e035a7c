/-
  What the program's laid and Put answer: a mark's half, and its sector. No condition.
-/
import Derived.Test.YtpbojepliddflaaFRows
namespace Go.Proofs.Ytpbojepliddflaa.Frm
open Go.RowKit Codec FrameM Cod
set_option maxRecDepth 100000
/-- A slice that reads as these bytes. -/
def Gives (w : World) (xs : List UInt8) (e : Ending) (w' : World) : Prop :=
  ∃ A c, e = .returned (.slice A xs.length c) ∧ Byts w' w'.heap.size A xs.length xs ∧ Below w.heap.size w w' ∧ xs.length ≤ c ∧ c ≤ maxLen
theorem Gives.of_own {w w' : World} {base n : Nat} {A : Option Addr} {c : Nat} {xs : List UInt8} (h : Owns w' base (.slice A n c) n xs) (hb : Below w.heap.size w w') : Gives w xs (.returned (.slice A n c)) w' := by
  have hl := h.len
  subst hl
  obtain ⟨A', c', e, h1, h2⟩ := h.form
  injection e with e1 _ e3
  subst e1 e3
  exact ⟨A, c, rfl, h.byts, hb, h1, h2⟩
theorem Wr.below {w w' : World} {base g : Nat} {xs : List UInt8} (h : Wr w base g xs) (hb : Below w.heap.size w w') : Wr w' base g xs := by
  obtain ⟨A, n, c, hg, hown, hB⟩ := h
  exact ⟨A, n, c, (hb.block g (lt_of_heap hg)).trans hg, hown.below hb, hB⟩
theorem row_of_byts {w : World} {n b off : Nat} {xs : List UInt8} (hl : xs.length = n) (hc : ∀ j, j < n → w.cell? ⟨b, off + j, none⟩ = some (byt (xs.getD j 0))) : Sum.Row w b off n (nats xs) :=
  ⟨by simp [nats, hl], fun i hi => by
    rw [hc i hi]
    have : i < xs.length := by omega
    simp [nats, byt, List.getD_eq_getElem?_getD, this], fun i => by
    by_cases h : i < xs.length
    · have := (xs[i]).toNat_lt
      simp [nats, List.getD_eq_getElem?_getD, h]
      omega
    · simp [nats, List.getD_eq_getElem?_getD, h]⟩
theorem crc_byts (w : World) (B n c : Nat) (A : Option Addr) (xs : List UInt8) (h : Byts w B A n xs) (hn : n ≤ 1000000000) : Calls Try.prog 34 #[.slice A n c] w (Sum.Ends (.int .u32 (crcOf xs)) w) := by
  rcases Nat.eq_zero_or_pos n with h0 | h0
  · subst h0
    obtain rfl : xs = [] := List.eq_nil_of_length_eq_zero h.len
    exact Sum.crc_none c A w
  · obtain ⟨b, off, rfl, _, hc⟩ := h.at_ h0
    exact Sum.crc_some b off n c (nats xs) w (row_of_byts h.len hc) (by omega)
theorem rcrc_byts (w : World) (B n c : Nat) (A : Option Addr) (xs : List UInt8) (h : Byts w B A n xs) (hn : n ≤ 1000000000) : Calls Try.prog 38 #[.slice A n c] w (Sum.Ends (.int .u32 (crcOf xs)) w) := by
  rcases Nat.eq_zero_or_pos n with h0 | h0
  · subst h0
    obtain rfl : xs = [] := List.eq_nil_of_length_eq_zero h.len
    exact Sum.rcrc_none c A w
  · obtain ⟨b, off, rfl, _, hc⟩ := h.at_ h0
    exact Sum.rcrc_some b off n c (nats xs) w (row_of_byts h.len hc) (by omega)
/-- Two small numbers, and three numbers, as the walk makes the slice of them. -/
theorem small_two (w : World) (base g : Nat) (a b : Int) (xs : List UInt8) (hw : Wr w base g xs) (hn : xs.length ≤ 800000000) (hB : base ≤ w.heap.size) :
    Calls Try.prog 32 #[.pointer (some ⟨g, 0, none⟩), .slice (some ⟨w.heap.size, 0, none⟩) 2 2] (w.alloc (.cells #[.int .i64 a, .int .i64 b] 3)) (LaidA (w.alloc (.cells #[.int .i64 a, .int .i64 b] 3)) base g (xs ++ (encSmall a ++ encSmall b))) := by
  have hg : g < w.heap.size := by
    obtain ⟨A, n, c, h, _⟩ := hw
    exact lt_of_heap h
  have h := small_many (w.alloc (.cells #[.int .i64 a, .int .i64 b] 3)) base g w.heap.size [a, b] xs (hw.alloc _) hn (by simp) (by simp; omega) (by omega) (heap_alloc_new w _) 2 rfl
  simpa [encAll] using h
theorem num_three (w : World) (base g : Nat) (a b c : Int) (xs : List UInt8) (hw : Wr w base g xs) (hn : xs.length ≤ 800000000) (hB : base ≤ w.heap.size) :
    Calls Try.prog 33 #[.pointer (some ⟨g, 0, none⟩), .slice (some ⟨w.heap.size, 0, none⟩) 3 3] (w.alloc (.cells #[.int .i64 a, .int .i64 b, .int .i64 c] 2))
      (LaidA (w.alloc (.cells #[.int .i64 a, .int .i64 b, .int .i64 c] 2)) base g (xs ++ (encNum a ++ (encNum b ++ encNum c)))) := by
  have hg : g < w.heap.size := by
    obtain ⟨A, n, c, h, _⟩ := hw
    exact lt_of_heap h
  have h := num_many (w.alloc (.cells #[.int .i64 a, .int .i64 b, .int .i64 c] 2)) base g w.heap.size [a, b, c] xs (hw.alloc _) hn (by simp) (by simp; omega) (by omega) (heap_alloc_new w _) 3 rfl
  simpa [encAll] using h
theorem wr_new (w : World) (base : Nat) (hB : base ≤ w.heap.size) : Wr (w.alloc (.cells #[.slice none 0 0] 60)) base w.heap.size [] := ⟨none, 0, 0, heap_alloc_new w _, Owns.nil, hB⟩
theorem low_half (s : Nat) (h : s < 4294967296) : bits .and .u32 (s : Int) 65535 = ((s % 65536 : Nat) : Int) := by
  rw [show (65535 : Int) = ((65535 : Nat) : Int) from rfl, u32_and_nat _ _ h (by decide), show (65535 : Nat) = 2 ^ 16 - 1 from rfl, Nat.and_two_pow_sub_one_eq_mod]
theorem box_kept {w w' : World} {m : Mk} (h : Below (w.heap.size + 1) (w.alloc (.cells #[.int .i64 m.kind, .int .i64 m.gen, .int .i64 m.seq, .int .i64 m.n] 26)) w') (i : Nat) :
    w'.cell? ⟨w.heap.size, i, none⟩ = (#[.int .i64 m.kind, .int .i64 m.gen, .int .i64 m.seq, .int .i64 m.n] : Array Value)[i]? := by
  rw [h.cell (p := ⟨w.heap.size, i, none⟩) (by show w.heap.size < _; omega)]
  exact cell_at (heap_alloc_new w _) i
theorem sized {w w' : World} {o : Obj} (h : Below (w.heap.size + 1) (w.alloc o) w') : w.heap.size + 1 ≤ w'.heap.size := by
  have := h.size
  rwa [World.size_alloc] at this
set_option maxHeartbeats 2000000 in
theorem laid_any (m : Mk) (w : World) : Calls Try.prog 24 #[mkV m] w (Gives w (half m)) := by
  have HH : Hid (half m = body m ++ (encSmall (crcOf (body m) % 65536 : Nat) ++ encSmall (crcOf (body m) / 65536 : Nat))) := Lib.hid rfl
  have HBD : Hid (body m = [] ++ (encSmall 19796 ++ encSmall m.kind) ++ (encNum m.gen ++ (encNum m.seq ++ encNum m.n))) := Lib.hid (by simp [body])
  have HS := Lib.hid (low_half (crcOf (body m)) (crcOf_lt _))
  have hsl := crcOf_lt (body m)
  have HL := Lib.hid (body_length m)
  have HB0 : Hid (Below (w.heap.size + 1) (w.alloc (.cells #[.int .i64 m.kind, .int .i64 m.gen, .int .i64 m.seq, .int .i64 m.n] 26)) ((w.alloc (.cells #[.int .i64 m.kind, .int .i64 m.gen, .int .i64 m.seq, .int .i64 m.n] 26)).alloc (.cells #[.slice none 0 0] 60))) :=
    Lib.hid ((Below.refl _ _).alloc (by simp) _)
  have hw := wr_new (w.alloc (.cells #[.int .i64 m.kind, .int .i64 m.gen, .int .i64 m.seq, .int .i64 m.n] 26)) (w.heap.size + 1) (by simp)
  rw [World.size_alloc] at hw
  have hc1 := small_two _ (w.heap.size + 1) (w.heap.size + 1) 19796 m.kind [] hw (by simp) (by simp)
  simp only [World.size_alloc] at hc1
  have HC1 := Lib.hid hc1
  clear hc1 hw
  unfold mkV
  obtain ⟨k, g, s, n⟩ := m
  dsimp only at *
  go_enter Try.func24, Try.ntmps24
  go_wp2_with fail
  refine HC1.out.mono ?_
  rintro e w1 ⟨rfl, hW1, hb1, _⟩
  have HB1 := Lib.hid ((HB0.out.alloc (by simp) _).trans hb1)
  have b1 := box_kept (m := ⟨k, g, s, n⟩) HB1.out 1
  have b2 := box_kept (m := ⟨k, g, s, n⟩) HB1.out 2
  have b3 := box_kept (m := ⟨k, g, s, n⟩) HB1.out 3
  dsimp only at b1 b2 b3
  have hz1 := HB1.out.size
  simp only [World.size_alloc] at hz1
  have HC2 := Lib.hid (num_three w1 _ _ g s n _ hW1 (by simp [encSmall_length]) hz1)
  clear hW1 hb1 HC1
  go_wp2_with fail
  refine HC2.out.mono ?_
  rintro e w2 ⟨rfl, hW2, hb2, _⟩
  rw [← HBD.out] at hW2
  have HB2 := Lib.hid ((HB1.out.alloc hz1 _).trans hb2)
  have HW2 := Lib.hid hW2
  have HC3 := Lib.hid (bytes_some w2 _ _ _ hW2 (by rw [HL.out]; decide))
  clear hW2 hb2 HC2 b1 b2 b3
  generalize body ⟨k, g, s, n⟩ = xs at *
  rw [HL.out] at HC3
  go_wp2_with fail
  refine HC3.out.mono ?_
  rintro e w3 ⟨A3, c3, rfl, ho, hb3⟩
  have HW3 := Lib.hid (Wr.below HW2.out hb3)
  have HB3 := Lib.hid (HB2.out.trans (hb3.mono (sized HB2.out)))
  have HC4 := Lib.hid (crc_byts w3 _ _ c3 A3 _ ho.byts (by decide))
  clear ho hb3 HC3
  go_wp2_with fail
  refine HC4.out.mono ?_
  rintro e w4 ⟨rfl, rfl⟩
  have hz3 := sized HB3.out
  have hc5 := small_two w3 _ _ (crcOf xs % 65536 : Nat) (crcOf xs / 65536 : Nat) _ HW3.out (by rw [HL.out]; decide) hz3
  have HC5 := Lib.hid hc5
  have e1 := HS.out
  clear HC4 hc5
  generalize crcOf xs = S at *
  go_wp2_with fail
  refine HC5.out.mono ?_
  rintro e w5 ⟨rfl, hW5, hb5, _⟩
  rw [← HH.out] at hW5
  have HB5 := Lib.hid ((HB3.out.alloc hz3 _).trans hb5)
  have HC6 := Lib.hid (bytes_some w5 _ _ _ hW5 (by rw [half_length]; decide))
  clear hW5 hb5 HC5 HH
  generalize half ⟨k, g, s, n⟩ = ys at *
  go_wp2_with fail
  refine HC6.out.mono ?_
  rintro e w6 ⟨A6, c6, rfl, ho, hb6⟩
  have HB6 := Lib.hid (HB5.out.trans (hb6.mono (sized HB5.out)))
  have HO := Lib.hid ho
  clear ho hb6 HC6
  go_wp2_with fail
  go_ret
  exact Gives.of_own HO.out ((alloc_below w _).trans (HB6.out.mono (by omega)))
theorem rows_two (w : World) (B c c' : Nat) (A A' : Option Addr) (xs ys : List UInt8) (h : Byts w B A xs.length xs) (h' : Byts w B A' ys.length ys) (hB : B ≤ w.heap.size) (h1 : xs.length ≤ c) (h2 : c ≤ maxLen) (h1' : ys.length ≤ c') (h2' : c' ≤ maxLen) :
    Rows (w.alloc (.cells #[.slice A xs.length c, .slice A' ys.length c'] 24)) (w.heap.size + 1) (some ⟨w.heap.size, 0, none⟩) 2 [xs, ys] :=
  ⟨rfl, fun _ => ⟨w.heap.size, 0, rfl, by omega, fun j hj => by
    match j, hj with
    | 0, _ => exact ⟨A, c, by rw [World.cell?_alloc_mark]; rfl, (h.alloc hB _).more (by omega), h1, h2⟩
    | 1, _ => exact ⟨A', c', by rw [World.cell?_alloc_mark]; rfl, (h'.alloc hB _).more (by omega), h1', h2'⟩⟩⟩
theorem rows_one (w : World) (B c : Nat) (A : Option Addr) (xs : List UInt8) (h : Byts w B A xs.length xs) (hB : B ≤ w.heap.size) (h1 : xs.length ≤ c) (h2 : c ≤ maxLen) :
    Rows (w.alloc (.cells #[.slice A xs.length c] 24)) (w.heap.size + 1) (some ⟨w.heap.size, 0, none⟩) 1 [xs] :=
  ⟨rfl, fun _ => ⟨w.heap.size, 0, rfl, by omega, fun j hj => by
    match j, hj with
    | 0, _ => exact ⟨A, c, by rw [World.cell?_alloc_mark]; rfl, (h.alloc hB _).more (by omega), h1, h2⟩⟩⟩
theorem filled_byts {w w' : World} {s : List UInt8} {e : Ending} (h : Filled w s e w') (hs : s.length = 64) : Gives w s e w' := by
  obtain ⟨rfl, hg, hb⟩ := h
  refine ⟨_, 64, by rw [hs], ⟨rfl, fun _ => ⟨_, 0, rfl, lt_of_heap hg, fun j hj => ?_⟩⟩, hb, by omega, by unfold maxLen; omega⟩
  rw [cell_at hg, Nat.zero_add, ← cel_get s j hj]
  simp
theorem pad_two {m : Mk} : pad ([half m, half m] : List (List UInt8)).flatten = half m ++ half m := by
  have : ([half m, half m] : List (List UInt8)).flatten = half m ++ half m := by simp
  rw [this]
  simp [pad, zeros, half_length]
theorem box_of {w w' : World} {m : Mk} (h : Below (w.alloc (.cells #[.int .i64 m.kind, .int .i64 m.gen, .int .i64 m.seq, .int .i64 m.n] 26)).heap.size (w.alloc (.cells #[.int .i64 m.kind, .int .i64 m.gen, .int .i64 m.seq, .int .i64 m.n] 26)) w') (i : Nat) :
    w'.cell? ⟨w.heap.size, i, none⟩ = (#[.int .i64 m.kind, .int .i64 m.gen, .int .i64 m.seq, .int .i64 m.n] : Array Value)[i]? := box_kept (h.mono (by simp)) i
set_option maxHeartbeats 1000000 in
theorem put_any (m : Mk) (w : World) : Calls Try.prog 9 #[mkV m] w (Gives w (put m)) := by
  have HC1 := Lib.hid (right_any m (w.alloc (.cells #[.int .i64 m.kind, .int .i64 m.gen, .int .i64 m.seq, .int .i64 m.n] 26)))
  cases hr : m.right with
  | false =>
    rw [put_wrong hr]
    rw [hr] at HC1
    clear hr
    unfold mkV at HC1 ⊢
    obtain ⟨k, g, s, n⟩ := m
    dsimp only at *
    go_enter Try.func9, Try.ntmps9
    go_wp2_with fail
    refine HC1.out.mono ?_
    rintro e w1 ⟨rfl, hb1⟩
    go_wp2_with fail
    go_ret
    exact ⟨none, 0, rfl, Byts.none_, (alloc_below w _).trans (hb1.mono (by simp)), Nat.le_refl _, Nat.zero_le _⟩
  | true =>
    rw [put_right hr]
    rw [hr] at HC1
    clear hr
    have HC2 := Lib.hid (fun w1 => laid_any m w1)
    have HL := Lib.hid (half_length m)
    have HP := Lib.hid (pad_two (m := m))
    unfold mkV at HC1 HC2 ⊢
    obtain ⟨k, g, s, n⟩ := m
    dsimp only at *
    generalize half ⟨k, g, s, n⟩ = xs at *
    go_enter Try.func9, Try.ntmps9
    go_wp2_with fail
    refine HC1.out.mono ?_
    rintro e w1 ⟨rfl, hb1⟩
    have HB1 := Lib.hid hb1
    have b0 := box_of (m := ⟨k, g, s, n⟩) hb1 0
    have b1 := box_of (m := ⟨k, g, s, n⟩) hb1 1
    have b2 := box_of (m := ⟨k, g, s, n⟩) hb1 2
    have b3 := box_of (m := ⟨k, g, s, n⟩) hb1 3
    dsimp only at b0 b1 b2 b3
    clear hb1 HC1
    go_wp2_with fail
    refine (HC2.out w1).mono ?_
    rintro e w2 ⟨A, c, rfl, hbt, hb2, h1, h2⟩
    have hz := HB1.out.size
    simp only [World.size_alloc] at hz
    have HB2 := Lib.hid (HB1.out.trans (hb2.mono HB1.out.size))
    have hz2 := HB2.out.size
    simp only [World.size_alloc] at hz2
    have HR := Lib.hid (rows_two w2 _ c c A A xs xs hbt hbt (Nat.le_refl _) h1 h2 h1 h2)
    have HC3 := Lib.hid (filled_any _ _ 2 2 _ [xs, xs] HR.out (by simp) (by decide) (by simp [HL.out]))
    rw [HP.out] at HC3
    clear hbt hb2 HC2 b0 b1 b2 b3 HR
    rw [HL.out] at HC3 h1 ⊢
    go_wp2_with fail
    refine HC3.out.mono ?_
    rintro e w3 hf
    have HG := Lib.hid (filled_byts hf (by simp [HL.out]))
    obtain ⟨rfl, _, _⟩ := hf
    go_wp2_with fail
    go_ret
    obtain ⟨A', c', e', g1, g2, g3, g4⟩ := HG.out
    rw [World.size_alloc] at e'
    exact ⟨A', c', e', g1, (alloc_below w _).trans (((HB2.out.mono (by simp)).alloc (by omega) _).trans (g2.mono (by simp; omega))), g3, g4⟩
end Go.Proofs.Ytpbojepliddflaa.Frm
