/-
  The walks of the two statements of layer 2: each answers true, for every slice of bytes and every two numbers; what was in memory ahead of the call stays. Conditions: the slice reads as bytes.
-/
import Derived.Test.YtenfldemfipcmaaWalks
import Derived.Below
import Derived.ProofKit
import Derived.ChangeSlices
import Derived.Lib.SlBytesConst
namespace Go.Proofs.Ytenfldemfipcmaa
open Go.ChangeShapes Go.WideShapes Go.ChangeAt Go.RowKit Sums
def EndsBelow (v : Value) (w : World) (e : Ending) (w' : World) : Prop := e = .returned v ∧ Below w.heap.size w w'

theorem cell_lt {w : World} {a : Addr} {v : Value} (h : w.cell? a = some v) : a.block < w.heap.size := by
  rcases Nat.lt_or_ge a.block w.heap.size with h' | h'
  · exact h'
  · simp [World.cell?, Array.getElem?_eq_none h'] at h
theorem Row.below {w w' : World} {b off n : Nat} {xs : List Nat} (h : Row w b off n xs) (hb : Below w.heap.size w w') : Row w' b off n xs :=
  ⟨h.len, fun i hi => (hb.cell (cell_lt (h.cell i hi))).trans (h.cell i hi), h.byte⟩
theorem Row.take {w : World} {b off n : Nat} {xs : List Nat} (h : Row w b off n xs) (k : Nat) (hk : k ≤ n) : Row w b off k (xs.take k) :=
  ⟨by rw [List.length_take, h.len]; omega, fun i hi => by rw [h.cell i (by omega)]; simp [List.getD_eq_getElem?_getD, hi], fun i => by
    have := h.byte i
    by_cases hi : i < k
    · simpa [List.getD_eq_getElem?_getD, List.getElem?_take, hi] using this
    · simp [List.getD_eq_getElem?_getD, List.getElem?_take, hi]⟩
theorem Row.drop {w : World} {b off n : Nat} {xs : List Nat} (h : Row w b off n xs) (k : Nat) (hk : k ≤ n) : Row w b (off + k) (n - k) (xs.drop k) :=
  ⟨by rw [List.length_drop, h.len], fun i hi => by rw [Nat.add_assoc, h.cell (k + i) (by omega)]; simp [List.getD_eq_getElem?_getD], fun i => by
    have := h.byte (k + i)
    simpa [List.getD_eq_getElem?_getD] using this⟩

theorem nine_row (w : World) (m : Nat × Nat) : Row (w.alloc (.cells #[.int .u8 49, .int .u8 50, .int .u8 51, .int .u8 52, .int .u8 53, .int .u8 54, .int .u8 55, .int .u8 56, .int .u8 57] 5 m)) w.heap.size 0 9 [49, 50, 51, 52, 53, 54, 55, 56, 57] := by
  refine ⟨rfl, fun i hi => ?_, fun i => ?_⟩
  · match i, hi with
    | 0, _ | 1, _ | 2, _ | 3, _ | 4, _ | 5, _ | 6, _ | 7, _ | 8, _ => rw [World.cell?_alloc_mark]; rfl
  · match i with
    | 0 | 1 | 2 | 3 | 4 | 5 | 6 | 7 | 8 => simp
    | i + 9 => simp

set_option maxHeartbeats 400000 in
theorem knows_any (w : World) : Calls Try.prog 5 #[] w (EndsBelow (.bool true) w) := by
  have kc := fun (w : World) (C : Array Value) (n c : Nat) => Lib.run_convert_bytes_const (P := Try.prog) w 22 5 C n c Try.underlying22 Try.underlying5
  have H := Lib.hid (fun m => crc_some w.heap.size 0 9 9 _ _ (nine_row w m) (by decide))
  have H2 := Lib.hid (fun w => fnv_none 0 none w)
  rw [crc_nine] at H
  rw [fnv_nil] at H2
  go_enter Try.func5, Try.ntmps5
  go_wp2_with fail
  refine (H.out _).mono ?_
  rintro e w1 ⟨rfl, rfl⟩
  go_wp2_with fail
  refine (H2.out _).mono ?_
  rintro e w1 ⟨rfl, rfl⟩
  go_wp2_with fail
  go_ret
  exact ⟨rfl, (Below.refl _ w).alloc (Nat.le_refl _) _⟩

/-- What a slice of bytes that came in comes to. -/
theorem row_of {w : World} {a : Option Addr} {len cap : Nat} {zs : List Int}
    (h : (a = none ∧ len = 0 ∧ cap = 0 ∧ zs = []) ∨
      ∃ x, a = some x ∧ len ≤ cap ∧ cap ≤ maxLen ∧ zs.length = cap ∧ (∀ i, i < zs.length → w.cell? (x.add i) = some (.int .u8 (zs.getD i 0))) ∧ ∀ n ∈ zs, (Lit.int .u8 n).wf = true) :
    len ≤ maxLen ∧ (len = 0 ∨ ∃ b off xs, a = some ⟨b, off, none⟩ ∧ len ≤ cap ∧ Row w b off len xs) := by
  rcases h with ⟨rfl, rfl, rfl, rfl⟩ | ⟨x, rfl, hl, hm, hz, hc, hw⟩
  · exact ⟨Nat.zero_le _, Or.inl rfl⟩
  · refine ⟨by omega, ?_⟩
    by_cases h0 : len = 0
    · exact Or.inl h0
    · obtain ⟨b, off, spot⟩ := x
      have hspot : spot = none := by simpa [Addr.add] using World.cell?_spot (hc 0 (by omega))
      subst hspot
      have bnd : ∀ z ∈ zs, 0 ≤ z ∧ z ≤ 255 := fun z hz' => by
        have h5 := hw z hz'
        have e1 : IntKind.u8.min = 0 := rfl
        have e2 : IntKind.u8.max = 255 := rfl
        simpa [Lit.wf, e1, e2] using h5
      have at_ : ∀ i, i < len → (((zs.take len).map Int.toNat).getD i 0 : Int) = zs.getD i 0 := fun i hi => by
        have hi2 : i < zs.length := by omega
        have := bnd zs[i] (List.getElem_mem hi2)
        simp [List.getD_eq_getElem?_getD, hi, List.getElem?_eq_getElem hi2]
        omega
      refine Or.inr ⟨b, off, (zs.take len).map Int.toNat, rfl, hl, ⟨by simp; omega, fun i hi => ?_, fun i => ?_⟩⟩
      · rw [at_ i hi, ← add_plain]
        exact hc i (by omega)
      · by_cases hi : i < len
        · have := at_ i hi
          have hi2 : i < zs.length := by omega
          have hb := bnd zs[i] (List.getElem_mem hi2)
          rw [List.getD_eq_getElem?_getD (l := zs), List.getElem?_eq_getElem hi2, Option.getD_some] at this
          omega
        · rw [List.getD_eq_getElem?_getD, List.getElem?_eq_none (by simp; omega)]
          simp

set_option maxHeartbeats 400000 in
theorem tell_any (a : Option Addr) (len cap : Nat) (zs : List Int) (w : World)
    (h : (a = none ∧ len = 0 ∧ cap = 0 ∧ zs = []) ∨
      ∃ x, a = some x ∧ len ≤ cap ∧ cap ≤ maxLen ∧ zs.length = cap ∧ (∀ i, i < zs.length → w.cell? (x.add i) = some (.int .u8 (zs.getD i 0))) ∧ ∀ n ∈ zs, (Lit.int .u8 n).wf = true) :
    Calls Try.prog 3 #[.slice a len cap] w (EndsBelow (.bool true) w) := by
  obtain ⟨hm, h⟩ := row_of h
  unfold maxLen at hm
  by_cases hl : 2000 < len
  · clear h
    go_enter Try.func3, Try.ntmps3
    go_wp2_with fail
    refine (knows_any _).mono ?_
    rintro e w2 ⟨rfl, b2⟩
    go_wp2_with fail
    go_ret
    exact ⟨rfl, b2⟩
  · have hs : ∃ x y : Nat, Calls Try.prog 6 #[.slice a len cap] w (Ends (.int .u32 x) w) ∧ Calls Try.prog 7 #[.slice a len cap] w (Ends (.int .u32 x) w) ∧
        Calls Try.prog 8 #[.slice a len cap] w (Ends (.int .u64 y) w) ∧ Calls Try.prog 9 #[.slice a len cap] w (Ends (.int .u64 y) w) := by
      rcases h with rfl | ⟨b, off, xs, rfl, _, hr⟩
      · exact ⟨_, _, crc_none _ _ _, rcrc_none _ _ _, fnv_none _ _ _, rfnv_none _ _ _⟩
      · exact ⟨_, _, crc_some _ _ _ _ _ _ hr (by omega), rcrc_some _ _ _ _ _ _ hr (by omega), fnv_some _ _ _ _ _ _ hr (by omega), rfnv_some _ _ _ _ _ _ hr (by omega)⟩
    clear h
    obtain ⟨x, y, h1, h2, h3, h4⟩ := hs
    have H1 := Lib.hid h1
    have H2 := Lib.hid h2
    have H3 := Lib.hid h3
    have H4 := Lib.hid h4
    clear h1 h2 h3 h4
    have hl2 : len ≤ 2000 := by omega
    clear hl
    go_enter Try.func3, Try.ntmps3
    go_wp2_with fail
    refine H1.out.mono ?_
    rintro e w1 ⟨rfl, rfl⟩
    go_wp2_with fail
    refine H2.out.mono ?_
    rintro e w1 ⟨rfl, rfl⟩
    go_wp2_with fail
    refine H3.out.mono ?_
    rintro e w1 ⟨rfl, rfl⟩
    go_wp2_with fail
    refine H4.out.mono ?_
    rintro e w1 ⟨rfl, rfl⟩
    go_wp2_with fail
    refine (knows_any _).mono ?_
    rintro e w2 ⟨rfl, b2⟩
    go_wp2_with fail
    go_ret
    exact ⟨rfl, b2⟩
end Go.Proofs.Ytenfldemfipcmaa
