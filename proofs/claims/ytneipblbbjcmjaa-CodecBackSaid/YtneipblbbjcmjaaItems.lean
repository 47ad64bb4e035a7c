/-
  The statements' items in memory; whether they are few; what is laid of them, by the program and by the document. Conditions: the slice reads as these items.
-/
import Derived.Test.YtneipblbbjcmjaaCount
namespace Go.Proofs.Ytneipblbbjcmjaa
open Go.RowKit Codec
structure It where
  kind : Int
  n : Int
  s : ByteArray
def It.itm (i : It) : Itm := ⟨i.kind, i.n, bytesOf i.s⟩
def noIt : It := ⟨0, 0, ByteArray.empty⟩
def fewB (l : List It) : Bool := decide (l.length ≤ 100) && l.all fun i => decide (i.s.size ≤ 2000)
/-- The slice of n items at A is l; it lies below block B. -/
structure Items (w : World) (B : Nat) (A : Option Addr) (n : Nat) (l : List It) : Prop where
  len : l.length = n
  at_ : 0 < n → ∃ b off, A = some ⟨b, off, none⟩ ∧ b < B ∧ ∀ i, i < n → w.cell? ⟨b, off + i * 3, none⟩ = some (.int .i64 (l.getD i noIt).kind) ∧
    w.cell? ⟨b, off + i * 3 + 1, none⟩ = some (.int .i64 (l.getD i noIt).n) ∧ w.cell? ⟨b, off + i * 3 + 2, none⟩ = some (.string (l.getD i noIt).s)
  fits : ∀ i, -9223372036854775808 ≤ (l.getD i noIt).n ∧ (l.getD i noIt).n ≤ 9223372036854775807
  size : ∀ i, (l.getD i noIt).s.size ≤ 9223372036854775807
theorem Items.keep {w w' : World} {B n : Nat} {A : Option Addr} {l : List It} (h : Items w B A n l) (hk : ∀ k, k < B → w'.heap[k]? = w.heap[k]?) : Items w' B A n l :=
  ⟨h.len, fun hn => by
    obtain ⟨b, off, e, hb, hc⟩ := h.at_ hn
    have hx : ∀ o, w'.cell? ⟨b, o, none⟩ = w.cell? ⟨b, o, none⟩ := fun o => World.cell?_of_block (w := w) (hk b hb)
    exact ⟨b, off, e, hb, fun i hi => by rw [hx, hx, hx]; exact hc i hi⟩, h.fits, h.size⟩
theorem few_no {l : List It} (h : ¬ l.length ≤ 100) : fewB l = false := by simp [fewB, h]
theorem few_not {l : List It} (i : Nat) (hi : i < l.length) (h : 2000 < (l.getD i noIt).s.size) : fewB l = false := by
  have hm : l.getD i noIt ∈ l := by
    rw [List.getD_eq_getElem?_getD, List.getElem?_eq_getElem hi]
    exact List.getElem_mem hi
  unfold fewB
  rw [Bool.and_eq_false_iff]
  right
  rw [List.all_eq_false]
  exact ⟨_, hm, by rw [decide_eq_true_eq]; omega⟩
theorem few_yes {l : List It} (h0 : l.length ≤ 100) (h : ∀ i, i < l.length → (l.getD i noIt).s.size ≤ 2000) : fewB l = true := by
  unfold fewB
  rw [Bool.and_eq_true, List.all_eq_true]
  refine ⟨by simpa using h0, fun x hx => ?_⟩
  obtain ⟨i, hi, rfl⟩ := List.mem_iff_getElem.1 hx
  have := h i hi
  rw [List.getD_eq_getElem?_getD, List.getElem?_eq_getElem hi] at this
  simpa using this
theorem of_few {l : List It} (h : fewB l = true) : l.length ≤ 100 ∧ ∀ i ∈ l, i.s.size ≤ 2000 := by
  unfold fewB at h
  rw [Bool.and_eq_true, List.all_eq_true] at h
  exact ⟨by simpa using h.1, fun i hi => by simpa using h.2 i hi⟩
theorem ret_bool {a b : Bool} {w : World} (h : a = b) : (Ending.returned (.bool a) = .returned (.bool b)) ∧ w = w := by subst h; exact ⟨rfl, rfl⟩
set_option maxRecDepth 100000 in
set_option maxHeartbeats 1000000 in
theorem few_any (w : World) (B n c : Nat) (A : Option Addr) (l : List It) (hl : Items w B A n l) (hn : n ≤ 9223372036854775807) :
    Calls Try.prog 6 #[.slice A n c] w fun e w' => e = .returned (.bool (fewB l)) ∧ w = w' := by
  have HL := Lib.hid hl
  have HN := Lib.hid hl.len
  clear hl
  go_enter Try.func6, Try.ntmps6
  go_wp2
  go_loop [3] (fun i => ∃ k : Nat, k ≤ n ∧ k ≤ 200 ∧ i = .int .i64 k ∧ Hid (∀ j, j < k → (l.getD j noIt).s.size ≤ 2000)) (fun i => n - (intOf i).toNat)
  case atStart => exact ⟨0, by omega, by omega, rfl, Lib.hid (fun j hj => by omega)⟩
  case round =>
    obtain ⟨k, hk, hk2, rfl, hall⟩ := hrel
    by_cases hlt : k < n
    · by_cases hlt2 : k < 200
      · obtain ⟨b, off, hA, _, hc⟩ := HL.out.at_ (by omega)
        subst hA
        have hcx := (hc k hlt).2.2
        have hsz := HL.out.size k
        have HF := Lib.hid (fun h => few_not (l := l) k (by rw [HN.out]; exact hlt) h)
        have HD : Hid ((l.getD k noIt).s.size ≤ 2000 → ∀ j, j < k + 1 → (l.getD j noIt).s.size ≤ 2000) := Lib.hid (fun h j hj => by
          by_cases hjk : j = k
          · subst hjk; exact h
          · exact hall.out j (by omega))
        clear hc hall
        generalize (l.getD k noIt).s = s at *
        by_cases hs : 2000 < s.size
        · go_wp2
          go_ret
          refine ⟨?_, rfl⟩
          rw [HF.out hs]
          rfl
        · go_wp2
          go_round
          case rel => exact ⟨k + 1, by omega, by omega, by go_num, HD.out (by omega)⟩
          case measure => simp [intOf]; omega
      · have HF := Lib.hid (few_no (l := l) (by rw [HN.out]; omega))
        go_wp2
        go_ret
        refine ⟨?_, rfl⟩
        rw [HF.out]
        simp
        omega
    · obtain rfl : k = n := by omega
      by_cases h1 : k ≤ 100
      · have HF := Lib.hid (few_yes (l := l) (by rw [HN.out]; exact h1) (by rw [HN.out]; exact hall.out))
        clear hall
        go_wp2
        go_ret
        refine ⟨?_, rfl⟩
        rw [HF.out]
        simp
        omega
      · have HF := Lib.hid (few_no (l := l) (by rw [HN.out]; exact h1))
        clear hall
        go_wp2
        go_ret
        refine ⟨?_, rfl⟩
        rw [HF.out]
        simp
        omega

/-! ### What is laid of them -/
theorem Wr.below {w w' : World} {base g : Nat} {xs : List UInt8} (h : Wr w base g xs) (hb : Below w.heap.size w w') : Wr w' base g xs := by
  obtain ⟨A, n, c, hg, hown, hb'⟩ := h
  exact ⟨A, n, c, (hb.block g (lt_of_heap hg)).trans hg, hown.below hb, hb'⟩
theorem encs_next (l : List It) (k : Nat) (h : k < l.length) : encs ((l.take (k + 1)).map It.itm) = encs ((l.take k).map It.itm) ++ enc (l.getD k noIt).itm := by
  have h2 : k < (l.map It.itm).length := by simpa using h
  rw [List.map_take, List.map_take, encs_take_succ _ _ h2, List.getElem_map, List.getD_eq_getElem?_getD, List.getElem?_eq_getElem h]
  rfl
theorem encs_size (l : List It) (hf : fewB l = true) (k : Nat) : (encs ((l.take k).map It.itm)).length ≤ 202200 := by
  have h := of_few hf
  have h2 := encs_length ((l.take k).map It.itm) (fun i hi => by
    obtain ⟨j, hj, rfl⟩ := List.mem_map.1 hi
    have := h.2 j (List.mem_of_mem_take hj)
    simpa [It.itm, bytesOf_length] using this)
  rw [List.length_map, List.length_take] at h2
  omega
theorem lay_num (w : World) (base g : Nat) (i : It) (xs : List UInt8) (hk : i.kind = 0) (hw : Wr w base g xs) (hn : xs.length ≤ 800000000) (hB : base ≤ w.heap.size) :
    Calls Try.prog 8 #[.pointer (some ⟨g, 0, none⟩), .slice (some ⟨w.heap.size, 0, none⟩) 1 1] (w.alloc (.cells #[.int .i64 i.n] 2)) (Laid (w.alloc (.cells #[.int .i64 i.n] 2)) base g (xs ++ enc i.itm)) := by
  rw [enc_0 (i := i.itm) hk]
  exact num_some _ base g w.heap.size i.n xs (hw.alloc _) (by omega) (by simp; omega) (by rw [World.cell?_alloc_mark]; rfl)
theorem lay_small (w : World) (base g : Nat) (i : It) (xs : List UInt8) (hk : i.kind = 1) (hw : Wr w base g xs) (hn : xs.length ≤ 800000000) (hB : base ≤ w.heap.size) :
    Calls Try.prog 9 #[.pointer (some ⟨g, 0, none⟩), .slice (some ⟨w.heap.size, 0, none⟩) 1 1] (w.alloc (.cells #[.int .i64 i.n] 3)) (Laid (w.alloc (.cells #[.int .i64 i.n] 3)) base g (xs ++ enc i.itm)) := by
  rw [enc_1 (i := i.itm) hk]
  exact small_some _ base g w.heap.size i.n xs (hw.alloc _) (by omega) (by simp; omega) (by rw [World.cell?_alloc_mark]; rfl)
theorem lay_text (w : World) (base g : Nat) (i : It) (xs : List UInt8) (hk : i.kind = 2) (hs : i.s.size ≤ 2000) (hw : Wr w base g xs) (hn : xs.length ≤ 800000000) (hB : base ≤ w.heap.size) :
    Calls Try.prog 10 #[.pointer (some ⟨g, 0, none⟩), .slice (some ⟨w.heap.size, 0, none⟩) 1 1] (w.alloc (.cells #[.string i.s] 9)) (Laid (w.alloc (.cells #[.string i.s] 9)) base g (xs ++ enc i.itm)) := by
  rw [enc_2 (i := i.itm) hk]
  exact text_some _ base g w.heap.size i.s xs (hw.alloc _) (by omega) (by simp; omega) (by omega) (by rw [World.cell?_alloc_mark]; rfl)
def Written (w : World) (xs : List UInt8) (e : Ending) (w' : World) : Prop := ∃ g, e = .returned (.pointer (some ⟨g, 0, none⟩)) ∧ Wr w' w.heap.size g xs ∧ Below w.heap.size w w'
set_option maxRecDepth 100000 in
set_option maxHeartbeats 2000000 in
theorem lay_items (w : World) (n c : Nat) (A : Option Addr) (l : List It) (hl : Items w w.heap.size A n l) (hf : fewB l = true) :
    Calls Try.prog 11 #[.slice A n c] w (Written w (encs (l.map It.itm))) := by
  have HL := Lib.hid hl
  have HN := Lib.hid hl.len
  have HF := Lib.hid hf
  have hn : n ≤ 100 := by have := (of_few hf).1; rw [hl.len] at this; exact this
  clear hl hf
  go_enter Try.func11, Try.ntmps11
  go_wp2
  go_loopw [4] (fun i wr => ∃ k : Nat, k ≤ n ∧ i = .int .i64 k ∧ Wr wr w.heap.size w.heap.size (encs ((l.take k).map It.itm)) ∧ Below w.heap.size w wr) (fun i _ => n - (intOf i).toNat)
  case atStart => exact ⟨0, by omega, rfl, ⟨none, 0, 0, heap_alloc_new w _, Owns.nil, Nat.le_refl _⟩, (Below.refl _ _).alloc (Nat.le_refl _) _⟩
  case round =>
    obtain ⟨k, hk, rfl, hW, hbel⟩ := hrel
    have hz := hbel.size
    have hsz := encs_size l HF.out k
    by_cases hlt : k < n
    · have HE := Lib.hid (encs_next l k (by rw [HN.out]; exact hlt))
      have HS : Hid ((l.getD k noIt).s.size ≤ 2000) := Lib.hid ((of_few HF.out).2 _ (by
        rw [List.getD_eq_getElem?_getD, List.getElem?_eq_getElem (by rw [HN.out]; exact hlt)]
        exact List.getElem_mem _))
      obtain ⟨b, off, hA, _, hc⟩ := (HL.out.keep hbel.block).at_ (by omega)
      subst hA
      obtain ⟨c0, c1, c2⟩ := hc k hlt
      clear hc
      generalize encs ((l.take k).map It.itm) = xs at *
      obtain ⟨it, hit⟩ : ∃ it, it = l.getD k noIt := ⟨_, rfl⟩
      rw [← hit] at c0 c1 c2 HS HE
      clear hit
      have HW := Lib.hid hW
      clear hW
      rcases (show it.kind = 0 ∨ it.kind = 1 ∨ it.kind = 2 ∨ (it.kind ≠ 0 ∧ it.kind ≠ 1 ∧ it.kind ≠ 2) by omega) with hk0 | hk0 | hk0 | hk0
      · have HC := Lib.hid (lay_num wr w.heap.size w.heap.size it xs hk0 HW.out (by omega) hz)
        rw [hk0] at c0
        clear hk0
        generalize it.n = nn at *
        go_wp2_with fail
        refine HC.out.mono ?_
        rintro e w1 ⟨rfl, hW1, hb1⟩
        rw [← HE.out] at hW1
        have HW1 := Lib.hid hW1
        clear hW1
        go_wp2_with fail
        go_roundw
        case rel => exact ⟨k + 1, by omega, by go_num, HW1.out, (hbel.alloc hz _).trans hb1⟩
        case measure => simp [intOf]; omega
      · have HC := Lib.hid (lay_small wr w.heap.size w.heap.size it xs hk0 HW.out (by omega) hz)
        rw [hk0] at c0
        clear hk0
        generalize it.n = nn at *
        go_wp2_with fail
        refine HC.out.mono ?_
        rintro e w1 ⟨rfl, hW1, hb1⟩
        rw [← HE.out] at hW1
        have HW1 := Lib.hid hW1
        clear hW1
        go_wp2_with fail
        go_roundw
        case rel => exact ⟨k + 1, by omega, by go_num, HW1.out, (hbel.alloc hz _).trans hb1⟩
        case measure => simp [intOf]; omega
      · have HC := Lib.hid (lay_text wr w.heap.size w.heap.size it xs hk0 HS.out HW.out (by omega) hz)
        rw [hk0] at c0
        clear hk0
        generalize it.s = ss at *
        go_wp2_with fail
        refine HC.out.mono ?_
        rintro e w1 ⟨rfl, hW1, hb1⟩
        rw [← HE.out] at hW1
        have HW1 := Lib.hid hW1
        clear hW1
        go_wp2_with fail
        go_roundw
        case rel => exact ⟨k + 1, by omega, by go_num, HW1.out, (hbel.alloc hz _).trans hb1⟩
        case measure => simp [intOf]; omega
      · have HX : Hid (encs ((l.take (k + 1)).map It.itm) = xs) := Lib.hid (by rw [HE.out, enc_no (i := it.itm) hk0, List.append_nil])
        have d0 : (it.kind == 0) = false := by simpa using hk0.1
        have d1 : (it.kind == 1) = false := by simpa using hk0.2.1
        have d2 : (it.kind == 2) = false := by simpa using hk0.2.2
        clear hk0
        generalize it.kind = kk at *
        go_wp2_with fail
        go_roundw
        case rel => exact ⟨k + 1, by omega, by go_num, by rw [HX.out]; exact HW.out, hbel⟩
        case measure => simp [intOf]; omega
    · obtain rfl : k = n := by omega
      rw [List.take_of_length_le (by rw [HN.out]; omega)] at hW
      have HW := Lib.hid hW
      clear hW
      go_wp2
      go_ret
      exact ⟨_, rfl, HW.out, hbel⟩
/-! ### By the document -/
theorem laid_num (w : World) (base m c : Nat) (A : Option Addr) (i : It) (xs : List UInt8) (hk : i.kind = 0) (ho : Owns w base (.slice A m c) m xs) (hn : xs.length ≤ 800000000) (hB : base ≤ w.heap.size) :
    Calls Try.prog 29 #[.slice A m c, .int .i64 i.n] w (Grew w base (xs ++ enc i.itm)) := by
  rw [enc_0 (i := i.itm) hk]
  exact ref_num w base m c A i.n xs ho (by have := ho.len; omega) hB
theorem laid_small (w : World) (base m c : Nat) (A : Option Addr) (i : It) (xs : List UInt8) (hk : i.kind = 1) (ho : Owns w base (.slice A m c) m xs) (hn : xs.length ≤ 800000000) (hB : base ≤ w.heap.size) :
    Calls Try.prog 30 #[.slice A m c, .int .i64 i.n] w (Grew w base (xs ++ enc i.itm)) := by
  rw [enc_1 (i := i.itm) hk]
  exact ref_small w base m c A i.n xs ho (by have := ho.len; omega) hB
theorem laid_text (w : World) (base m c : Nat) (A : Option Addr) (i : It) (xs : List UInt8) (hk : i.kind = 2) (hs : i.s.size ≤ 2000) (ho : Owns w base (.slice A m c) m xs) (hn : xs.length ≤ 800000000) (hB : base ≤ w.heap.size) :
    Calls Try.prog 31 #[.slice A m c, .string i.s] w (Grew w base (xs ++ enc i.itm)) := by
  rw [enc_2 (i := i.itm) hk]
  exact ref_text w base m c A i.s xs ho (by have := ho.len; omega) hB (by omega)
set_option maxRecDepth 100000 in
set_option maxHeartbeats 2000000 in
theorem laid_items (w : World) (n c : Nat) (A : Option Addr) (l : List It) (hl : Items w w.heap.size A n l) (hf : fewB l = true) :
    Calls Try.prog 13 #[.slice A n c] w (Grew w w.heap.size (encs (l.map It.itm))) := by
  have HL := Lib.hid hl
  have HN := Lib.hid hl.len
  have HF := Lib.hid hf
  have hn : n ≤ 100 := by have := (of_few hf).1; rw [hl.len] at this; exact this
  clear hl hf
  go_enter Try.func13, Try.ntmps13
  go_wp2
  go_loopw [3, 4] (fun v i wr => ∃ k : Nat, k ≤ n ∧ i = .int .i64 k ∧ ∃ A m c, v = .slice A m c ∧ Owns wr w.heap.size (.slice A m c) m (encs ((l.take k).map It.itm)) ∧ Below w.heap.size w wr) (fun _ i _ => n - (intOf i).toNat)
  case atStart => exact ⟨0, by omega, rfl, none, 0, 0, rfl, Owns.nil, Below.refl _ _⟩
  case round =>
    obtain ⟨k, hk, rfl, A1, m, c1, rfl, hW, hbel⟩ := hrel
    have hz := hbel.size
    have hsz := encs_size l HF.out k
    by_cases hlt : k < n
    · have HE := Lib.hid (encs_next l k (by rw [HN.out]; exact hlt))
      have HS : Hid ((l.getD k noIt).s.size ≤ 2000) := Lib.hid ((of_few HF.out).2 _ (by
        rw [List.getD_eq_getElem?_getD, List.getElem?_eq_getElem (by rw [HN.out]; exact hlt)]
        exact List.getElem_mem _))
      obtain ⟨b, off, hA, _, hc⟩ := (HL.out.keep hbel.block).at_ (by omega)
      subst hA
      obtain ⟨c0, c1, c2⟩ := hc k hlt
      clear hc
      generalize encs ((l.take k).map It.itm) = xs at *
      obtain ⟨it, hit⟩ : ∃ it, it = l.getD k noIt := ⟨_, rfl⟩
      rw [← hit] at c0 c1 c2 HS HE
      clear hit
      have HW := Lib.hid hW
      clear hW
      rcases (show it.kind = 0 ∨ it.kind = 1 ∨ it.kind = 2 ∨ (it.kind ≠ 0 ∧ it.kind ≠ 1 ∧ it.kind ≠ 2) by omega) with hk0 | hk0 | hk0 | hk0
      · have HC := Lib.hid (laid_num wr w.heap.size m _ A1 it xs hk0 HW.out (by omega) hz)
        rw [hk0] at c0
        clear hk0
        generalize it.n = nn at *
        go_wp2_with fail
        refine HC.out.mono ?_
        rintro e w1 ⟨A2, m2, c2', rfl, hW1, hb1⟩
        rw [← HE.out] at hW1
        have HW1 := Lib.hid hW1
        clear hW1
        go_wp2_with fail
        go_roundw
        case rel => exact ⟨k + 1, by omega, by go_num, A2, m2, c2', rfl, HW1.out, hbel.trans hb1⟩
        case measure => simp [intOf]; omega
      · have HC := Lib.hid (laid_small wr w.heap.size m _ A1 it xs hk0 HW.out (by omega) hz)
        rw [hk0] at c0
        clear hk0
        generalize it.n = nn at *
        go_wp2_with fail
        refine HC.out.mono ?_
        rintro e w1 ⟨A2, m2, c2', rfl, hW1, hb1⟩
        rw [← HE.out] at hW1
        have HW1 := Lib.hid hW1
        clear hW1
        go_wp2_with fail
        go_roundw
        case rel => exact ⟨k + 1, by omega, by go_num, A2, m2, c2', rfl, HW1.out, hbel.trans hb1⟩
        case measure => simp [intOf]; omega
      · have HC := Lib.hid (laid_text wr w.heap.size m _ A1 it xs hk0 HS.out HW.out (by omega) hz)
        rw [hk0] at c0
        clear hk0
        generalize it.s = ss at *
        go_wp2_with fail
        refine HC.out.mono ?_
        rintro e w1 ⟨A2, m2, c2', rfl, hW1, hb1⟩
        rw [← HE.out] at hW1
        have HW1 := Lib.hid hW1
        clear hW1
        go_wp2_with fail
        go_roundw
        case rel => exact ⟨k + 1, by omega, by go_num, A2, m2, c2', rfl, HW1.out, hbel.trans hb1⟩
        case measure => simp [intOf]; omega
      · have HX : Hid (encs ((l.take (k + 1)).map It.itm) = xs) := Lib.hid (by rw [HE.out, enc_no (i := it.itm) hk0, List.append_nil])
        have d0 : (it.kind == 0) = false := by simpa using hk0.1
        have d1 : (it.kind == 1) = false := by simpa using hk0.2.1
        have d2 : (it.kind == 2) = false := by simpa using hk0.2.2
        clear hk0
        generalize it.kind = kk at *
        go_wp2_with fail
        go_roundw
        case rel => exact ⟨k + 1, by omega, by go_num, A1, m, _, rfl, by rw [HX.out]; exact HW.out, hbel⟩
        case measure => simp [intOf]; omega
    · obtain rfl : k = n := by omega
      rw [List.take_of_length_le (by rw [HN.out]; omega)] at hW
      have HW := Lib.hid hW
      clear hW
      go_wp2
      go_ret
      exact ⟨A1, m, _, rfl, HW.out, hbel⟩
end Go.Proofs.Ytneipblbbjcmjaa
