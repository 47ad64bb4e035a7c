/-
  What the program's Writer does with texts; what it tells. Conditions: the Writer's block is known; the sizes are named.
-/
import Derived.Test.YtofadlenblobnaaCLay
import Derived.Laws.BytesArg
namespace Go.Proofs.Ytofadlenblobnaa.Cod
open Go.RowKit Codec
set_option maxRecDepth 100000
def bytesOf (s : ByteArray) : List UInt8 := s.data.toList
theorem bytesOf_length (s : ByteArray) : (bytesOf s).length = s.size := Array.length_toList
theorem byts_string (w : World) (s : ByteArray) (cap : Nat) :
    Byts (w.drew.alloc (.cells (bytesRow s cap) 5 ((bytesRow s cap).size, (bytesRow s cap).size + 1))) (w.heap.size + 1) (some ⟨w.heap.size, 0, none⟩) s.size (bytesOf s) :=
  ⟨bytesOf_length s, fun _ => ⟨w.heap.size, 0, rfl, by omega, fun j hj => by
    rw [show w.heap.size = w.drew.heap.size from rfl, World.cell?_alloc_mark]
    simp [bytesRow, bytesOf, byt, Array.getElem?_append, hj]⟩⟩
theorem Wr.drew {w : World} {base g : Nat} {xs : List UInt8} (h : Wr w base g xs) : Wr w.drew base g xs := h
theorem text_small (w : World) (base g : Nat) (s : ByteArray) (xs : List UInt8) (hw : Wr w base g xs) (hn : xs.length ≤ 800000000) (hB : base ≤ w.heap.size) :
    Calls Try.prog 15 #[.pointer (some ⟨g, 0, none⟩), .slice (some ⟨w.heap.size, 0, none⟩) 1 1] (w.alloc (.cells #[.int .i64 s.size] 3))
      (Laid (w.alloc (.cells #[.int .i64 s.size] 3)) base g (xs ++ encSmall s.size)) :=
  small_some _ base g w.heap.size s.size xs (hw.alloc _) (by omega) (by simp; omega) (by rw [World.cell?_alloc_mark]; rfl)
theorem text_lay (w w1 : World) (base g : Nat) (s : ByteArray) (xs : List UInt8) (hw : Wr w1 base g (xs ++ encSmall s.size)) (hn : xs.length ≤ 800000000) (hs : s.size ≤ 65535) (hB : base ≤ w.heap.size) (hb : Below base w w1) (cap : Nat) :
    Calls Try.prog 46 #[.pointer (some ⟨g, 0, none⟩), .slice (some ⟨w1.heap.size, 0, none⟩) s.size cap] (w1.alloc (.cells (bytesRow s cap) 5 ((bytesRow s cap).size, (bytesRow s cap).size + 1))).drew
      (Laid w base g (xs ++ encText (bytesOf s))) := by
  have hz := hb.size
  have e : encText (bytesOf s) = encSmall s.size ++ bytesOf s := by
    unfold encText encSmall clip
    rw [bytesOf_length, Nat.min_eq_left hs, show (min (max (s.size : Int) 0) 65535).toNat = s.size by omega, List.take_of_length_le (by rw [bytesOf_length]; omega)]
  rw [e, ← List.append_assoc]
  refine (lay_some _ base g (w1.heap.size + 1) s.size cap _ _ _ (hw.drew.alloc _) (byts_string w1 s cap) (by rw [List.length_append, encSmall_length]; omega) (by simp; omega)).mono ?_
  rintro e w2 ⟨he, h1, h2⟩
  exact ⟨he, h1, (hb.drew.alloc (w := w1.drew) (by simp; omega) _).trans h2⟩
set_option maxHeartbeats 1000000 in
theorem text_some (w : World) (base g b : Nat) (s : ByteArray) (xs : List UInt8) (hw : Wr w base g xs) (hn : xs.length ≤ 800000000) (hB : base ≤ w.heap.size) (hs : s.size ≤ 65535) (hc : w.cell? ⟨b, 0, none⟩ = some (.string s)) :
    Calls Try.prog 30 #[.pointer (some ⟨g, 0, none⟩), .slice (some ⟨b, 0, none⟩) 1 1] w (Laid w base g (xs ++ encText (bytesOf s))) := by
  have HW := Lib.hid hw
  clear hw
  have hcv := fun w => run_bytes_of_string (P := Try.prog) w 9 23 5 s Try.underlying9 Try.underlying23 Try.underlying5
  go_enter Try.func30, Try.ntmps30
  go_wp2
  go_loopw [8] (fun i wr => (i = .int .i64 0 ∧ w = wr) ∨ (i = .int .i64 1 ∧ Wr wr base g (xs ++ encText (bytesOf s)) ∧ Below base w wr)) (fun i _ => 1 - (intOf i).toNat)
  case atStart => exact .inl ⟨rfl, rfl⟩
  case round =>
    rcases hrel with ⟨rfl, rfl⟩ | ⟨rfl, hW, hbel⟩
    · have HS := Lib.hid (text_small w base g s xs HW.out hn hB)
      go_wp2_with fail
      refine HS.out.mono ?_
      rintro e w1 ⟨rfl, hW1, hb1⟩
      have HL := Lib.hid (text_lay w w1 base g s xs hW1 hn hs hB (((Below.refl base w).alloc hB _).trans hb1))
      clear hW1 hb1
      go_wp2_with fail
      refine (HL.out _).mono ?_
      rintro e w2 ⟨rfl, hW2, hb2⟩
      go_wp2_with fail
      go_roundw
      case rel => exact .inr ⟨rfl, hW2, hb2⟩
      case measure => simp [intOf]
    · go_wp2
      go_end0
      exact ⟨rfl, hW, hbel⟩
/-! ### Nobody's Writer -/
set_option maxHeartbeats 400000 in
theorem small_none (w : World) (b n : Nat) (hn : n ≤ 65535) (hc : w.cell? ⟨b, 0, none⟩ = some (.int .i64 n)) :
    Calls Try.prog 15 #[.pointer none, .slice (some ⟨b, 0, none⟩) 1 1] w (EndsBelow (.tuple #[]) w) := by
  have HN := Lib.hid (number_none w n 2 (by decide))
  go_enter Try.func15, Try.ntmps15
  go_wp2
  go_loopw [8] (fun i wr => (i = .int .i64 0 ∧ w = wr) ∨ (i = .int .i64 1 ∧ Below w.heap.size w wr)) (fun i _ => 1 - (intOf i).toNat)
  case atStart => exact .inl ⟨rfl, rfl⟩
  case round =>
    rcases hrel with ⟨rfl, rfl⟩ | ⟨rfl, hbel⟩
    · go_wp2_with fail
      refine HN.out.mono ?_
      rintro e w1 ⟨rfl, hb1⟩
      go_wp2_with fail
      go_roundw
      case rel => exact .inr ⟨rfl, hb1⟩
      case measure => simp [intOf]
    · go_wp2
      go_end0
      exact ⟨rfl, hbel⟩
set_option maxHeartbeats 400000 in
theorem text_none (w : World) (b : Nat) (s : ByteArray) (hs : s.size ≤ 65535) (hc : w.cell? ⟨b, 0, none⟩ = some (.string s)) :
    Calls Try.prog 30 #[.pointer none, .slice (some ⟨b, 0, none⟩) 1 1] w (EndsBelow (.tuple #[]) w) := by
  have hcv := fun w => run_bytes_of_string (P := Try.prog) w 9 23 5 s Try.underlying9 Try.underlying23 Try.underlying5
  have HS := Lib.hid (small_none (w.alloc (.cells #[.int .i64 s.size] 3)) w.heap.size s.size hs (by rw [World.cell?_alloc_mark]; rfl))
  go_enter Try.func30, Try.ntmps30
  go_wp2
  go_loopw [8] (fun i wr => (i = .int .i64 0 ∧ w = wr) ∨ (i = .int .i64 1 ∧ Below w.heap.size w wr)) (fun i _ => 1 - (intOf i).toNat)
  case atStart => exact .inl ⟨rfl, rfl⟩
  case round =>
    rcases hrel with ⟨rfl, rfl⟩ | ⟨rfl, hbel⟩
    · go_wp2_with fail
      refine HS.out.mono ?_
      rintro e w1 ⟨rfl, hb1⟩
      go_wp2_with fail
      refine (lay_none _ _).mono ?_
      rintro e w2 ⟨rfl, rfl⟩
      go_wp2_with fail
      go_roundw
      case rel => exact .inr ⟨rfl, ((((Below.refl _ _).alloc (Nat.le_refl _) _).trans (hb1.mono (by simp))).drew.alloc (by have := hb1.size; simp at this ⊢; omega) _)⟩
      case measure => simp [intOf]
    · go_wp2
      go_end0
      exact ⟨rfl, hbel⟩

/-! ### What a Writer tells -/
def Cloned (w : World) (n : Nat) (xs : List UInt8) (e : Ending) (w' : World) : Prop := ∃ A c, e = .returned (.slice A n c) ∧ Owns w' w.heap.size (.slice A n c) n xs ∧ Below w.heap.size w w'
set_option maxHeartbeats 400000 in
theorem clone_any (w : World) (B m c : Nat) (A : Option Addr) (ys : List UInt8) (hr : Byts w B A m ys) (hB : B ≤ w.heap.size) (hn : m ≤ 1000000000) :
    Calls Try.prog 31 #[.slice A m c] w (Cloned w m ys) := by
  have HR := Lib.hid hr
  rcases A with _ | ad
  · have hm : m = 0 := by
      rcases Nat.eq_zero_or_pos m with h0 | h0
      · exact h0
      · obtain ⟨b, off, h, _⟩ := hr.at_ h0
        cases h
    subst hm
    have hy : ys = [] := List.eq_nil_of_length_eq_zero hr.len
    subst hy
    clear hr
    have hq := fun w (l c : Nat) => Lib.run_eql_slice_nil (P := Try.prog) w 23 5 none l c 0 0 Try.underlying23
    go_enter Try.func31, Try.ntmps31
    go_wp2
    go_ret
    exact ⟨none, 0, rfl, Owns.nil, Below.refl _ _⟩
  · clear hr
    have hq := fun w (l c : Nat) => Lib.run_eql_slice_nil (P := Try.prog) w 23 5 (some ad) l c 0 0 Try.underlying23
    go_enter Try.func31, Try.ntmps31
    go_wp2_with (at_builtin; (refine wpList_app _ rfl (.tmp 5) (.tmp 6) rfl w.heap.size (.slice (some ⟨w.heap.size, 0, none⟩) 0 0) 0 [] rfl (World.ownsRow_made w #[] 0 (Nat.le_refl _) (Nat.zero_le _) rfl) B (some ad) m c ys rfl (HR.out.alloc hB _) (by omega) (by simp) ?_); intro A1 c1 w1 hown1 hg1; have HO := Lib.hid hown1; have HG := Lib.hid hg1; clear hown1 hg1)
    go_ret
    have h1 := HO.out
    have hg := HG.out
    rw [Nat.zero_add, List.nil_append] at h1
    exact ⟨A1, c1, rfl, h1, ((Below.refl _ _).alloc (Nat.le_refl _) _).grown hg (by simp) (fun k hk => by simp [Value.ownBlock] at hk; omega)⟩
/-- What a Writer tells: a row of its own. -/
theorem bytes_some (w : World) (base g : Nat) (xs : List UInt8) (hw : Wr w base g xs) (hn : xs.length ≤ 1000000000) :
    Calls Try.prog 17 #[.pointer (some ⟨g, 0, none⟩)] w (Cloned w xs.length xs) := by
  obtain ⟨A, n, c, hg, hown, hb⟩ := hw
  have hc := cell_at hg 0
  have hl := hown.len
  subst hl
  have HN := Lib.hid (fun w' (hb : Below w.heap.size w w') => clone_any w' w.heap.size xs.length c A xs (hown.byts.below hb) hb.size hn)
  have HC := Lib.hid (HN.out w (Below.refl _ _))
  clear hg hown HN
  go_enter Try.func17, Try.ntmps17
  go_wp2_with fail
  refine HC.out.mono ?_
  rintro e w1 ⟨A1, c1, rfl, ho, hbel⟩
  have HO := Lib.hid ho
  have HB := Lib.hid hbel
  clear ho hbel
  go_wp2_with fail
  go_ret
  exact ⟨A1, c1, rfl, HO.out, HB.out⟩
theorem bytes_none (w : World) : Calls Try.prog 17 #[.pointer none] w fun e w' => e = .returned (.slice none 0 0) ∧ w = w' := by
  go_enter Try.func17, Try.ntmps17
  go_wp2
  go_ret
  exact ⟨rfl, rfl⟩
/-- Bytes as a text. -/
theorem run_string_of (w : World) (B n c : Nat) (A : Option Addr) (ys : List UInt8) (hr : Byts w B A n ys) : (convert 23 9 (.slice A n c)).run Try.prog w = .ok (.string ⟨ys.toArray⟩) w := by
  rcases Nat.eq_zero_or_pos n with h0 | h0
  · subst h0
    have hy : ys = [] := List.eq_nil_of_length_eq_zero hr.len
    subst hy
    rcases A with _ | ad
    · exact run_convert_bytes_nil w 23 5 Try.underlying23 Try.underlying5 0 c 9 Try.underlying9
    · exact run_convert_bytes_back w 23 9 5 ad c [] Try.underlying23 Try.underlying5 Try.underlying9 (fun j hj => by simp at hj)
  · obtain ⟨b, off, rfl, _, hc⟩ := hr.at_ h0
    have hl := hr.len
    subst hl
    exact run_convert_bytes_back w 23 9 5 ⟨b, off, none⟩ c ys Try.underlying23 Try.underlying5 Try.underlying9 (fun j hj => by
      rw [plain_add, hc j hj]
      simp [byt, List.getD_eq_getElem?_getD, hj])
end Go.Proofs.Ytofadlenblobnaa.Cod
