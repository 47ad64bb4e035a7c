/-
  What the program's Writer does, and what it leaves alone: blocks of other things than bytes and Writers. Conditions: the Writer's block is known; the sizes are named.
-/
import Derived.Test.YtofadlenblobnaaCText
namespace Go.Proofs.Ytofadlenblobnaa.Exp
open Go.RowKit Codec
open Cod (Wr Byts Owns bytesOf byt_new byte_of byts_string cell_at free_at set_at grown_set lt_of_heap bytesOf_length)
set_option maxRecDepth 100000
/-- A block of other things than bytes and Writers. -/
def Other (o : Obj) : Prop := ∀ cs T fr, o = .cells cs T fr → T ≠ 5 ∧ T ≠ 39
def KeptO (w w' : World) : Prop := ∀ (b : Nat) (o : Obj), w.heap[b]? = some o → Other o → w'.heap[b]? = some o
structure BelowK (B : Nat) (w w' : World) : Prop where
  bel : Below B w w'
  kept : KeptO w w'
theorem BelowK.refl (B : Nat) (w : World) : BelowK B w w := ⟨Below.refl _ _, fun _ _ h _ => h⟩
theorem BelowK.size {B : Nat} {w w' : World} (h : BelowK B w w') : w.heap.size ≤ w'.heap.size := h.bel.size
theorem BelowK.trans {B : Nat} {a b c : World} (h : BelowK B a b) (k : BelowK B b c) : BelowK B a c := ⟨h.bel.trans k.bel, fun i o hi ho => k.kept i o (h.kept i o hi ho) ho⟩
theorem BelowK.alloc {B : Nat} {w0 w : World} (h : BelowK B w0 w) (hB : B ≤ w.heap.size) (o : Obj) : BelowK B w0 (w.alloc o) :=
  ⟨h.bel.alloc hB o, fun i u hi hu => by
    have h1 := h.kept i u hi hu
    exact (Below.heap_alloc w o i (lt_of_heap h1)).trans h1⟩
theorem BelowK.drew {B : Nat} {w w1 : World} (h : BelowK B w w1) : BelowK B w w1.drew := ⟨h.bel.drew, h.kept⟩
def LaidK (w : World) (base g : Nat) (xs : List UInt8) (e : Ending) (w' : World) : Prop := e = .returned (.tuple #[]) ∧ Wr w' base g xs ∧ BelowK base w w'
theorem owns_kept {w w1 : World} {base n c : Nat} {A : Option Addr} {xs : List UInt8} (h : Owns w base (.slice A n c) n xs) (hw : w.grownBy w1 (Value.ownBlock (.slice A n c))) : KeptO w w1 := fun b o hb ho => by
  refine (hw.block b (lt_of_heap hb) fun e => ?_).trans hb
  rcases h.2 with ⟨e2, _⟩ | ⟨k, cap, cur, e2, _, hh, _⟩
  · rw [e2] at e
    simp [Value.ownBlock] at e
  · rw [e2] at e
    simp [Value.ownBlock] at e
    subst e
    rw [hb] at hh
    injection hh with hh
    exact (ho _ _ _ hh).1 rfl
theorem set_kept {w : World} {g : Nat} {cs : Array Value} (hg : w.heap[g]? = some (.cells cs 39 (0, 0))) (i : Nat) (u : Value) : KeptO w (w.setCell ⟨g, i, none⟩ u) := fun b o hb ho => by
  refine (Below.heap_setCell w _ u b ?_).trans hb
  intro e
  have e : b = g := e
  subst e
  rw [hb] at hg
  injection hg with hg
  exact (ho _ _ _ hg).2 rfl
set_option maxHeartbeats 400000 in
theorem lay_some (w : World) (base g B m c : Nat) (A : Option Addr) (xs ys : List UInt8) (hw : Wr w base g xs) (hr : Byts w B A m ys) (hn : xs.length + m ≤ 1000000000) (hB : base ≤ w.heap.size) :
    Calls Try.prog 46 #[.pointer (some ⟨g, 0, none⟩), .slice A m c] w (LaidK w base g (xs ++ ys)) := by
  obtain ⟨A0, n, c0, hg, hown, hb⟩ := hw
  have hc := cell_at hg 0
  have HK := Lib.hid (fun w1 (h : w.grownBy w1 (Value.ownBlock (.slice A0 n c0))) => owns_kept hown h)
  have hlen := Lib.hid hown.len
  have HG := Lib.hid hg
  have HO := Lib.hid hown
  have HR := Lib.hid hr
  have hn2 : n + m ≤ 1000000000 := by have := hown.len; omega
  clear hg hown hr hn
  go_enter Try.func46, Try.ntmps46
  go_wp2_with (at_builtin; (refine Cod.wpList_app _ rfl (.tmp 10) (.tmp 11) rfl base _ n xs rfl HO.out B A m c ys rfl HR.out hn2 hB ?_); intro A1 c1 w1 hown1 hg1; have HK1 := Lib.hid (HK.out _ hg1); have hst := Cod.Wr.stored HG.out HO.out hb hB hown1 hg1; have HS := Lib.hid hst; have hc1 := cell_at hst.1 0; have hf1 := free_at hst.1 0; clear hst hown1 hg1)
  go_end0
  exact ⟨rfl, HS.out.2.1, ⟨HS.out.2.2, fun b o hb ho => set_kept HS.out.1 0 _ b o (HK1.out b o hb ho) ho⟩⟩
theorem number_lay (w : World) (base g N k : Nat) (xs : List UInt8) (hw : Wr w base g (xs ++ le k N)) (hn : xs.length + k ≤ 900000008) (hB : base ≤ w.heap.size) :
    Calls Try.prog 46 #[.pointer (some ⟨g, 0, none⟩), .slice (some ⟨w.heap.size, 0, none⟩) 1 1] (w.alloc (.cells #[.int .u8 ((N : Int) / 2 ^ (8 * k) % 256)] 5))
      (LaidK (w.alloc (.cells #[.int .u8 ((N : Int) / 2 ^ (8 * k) % 256)] 5)) base g (xs ++ le (k + 1) N)) := by
  rw [byte_of, le_snoc, ← List.append_assoc]
  exact lay_some _ base g (w.heap.size + 1) 1 1 _ _ _ (hw.alloc _) (byt_new w (UInt8.ofNat (N / 256 ^ k % 256)) (0, 0)) (by rw [List.length_append, le_length]; omega) (by simp; omega)
set_option maxHeartbeats 400000 in
theorem number_some (w : World) (base g N wide : Nat) (xs : List UInt8) (hw : Wr w base g xs) (hn : xs.length ≤ 900000000) (hB : base ≤ w.heap.size) (hwide : wide ≤ 8) :
    Calls Try.prog 29 #[.pointer (some ⟨g, 0, none⟩), .int .u64 N, .int .i64 wide] w (LaidK w base g (xs ++ le wide N)) := by
  go_enter Try.func29, Try.ntmps29
  go_wp2
  go_loopw [8] (fun i wr => ∃ k : Nat, k ≤ wide ∧ i = .int .i64 k ∧ Wr wr base g (xs ++ le k N) ∧ BelowK base w wr) (fun i _ => wide - (intOf i).toNat)
  case atStart => exact ⟨0, Nat.zero_le _, rfl, by simpa [le] using hw, BelowK.refl _ _⟩
  case round =>
    obtain ⟨k, hk, rfl, hW, hbel⟩ := hrel
    have HW := Lib.hid hW
    clear hW
    by_cases hlt : k < wide
    · have HL := Lib.hid (number_lay wr base g N k xs HW.out (by omega) (by have := hbel.size; omega))
      go_wp2_with fail
      refine HL.out.mono ?_
      rintro e w1 ⟨rfl, hW1, hb1⟩
      go_wp2_with fail
      go_roundw
      case rel => exact ⟨k + 1, by omega, by go_num, hW1, (hbel.alloc (by have := hbel.size; omega) _).trans hb1⟩
      case measure => simp [intOf]; omega
    · obtain rfl : k = wide := by omega
      go_wp2
      go_end0
      exact ⟨rfl, HW.out, hbel⟩
theorem number_small (w : World) (base g : Nat) (n x : Int) (xs : List UInt8) (hw : Wr w base g xs) (hn : xs.length ≤ 900000000) (hB : base ≤ w.heap.size) (hx : (clip n : Int) = x) :
    Calls Try.prog 29 #[.pointer (some ⟨g, 0, none⟩), .int .u64 x, .int .i64 2] w (LaidK w base g (xs ++ encSmall n)) := by
  subst hx
  exact number_some w base g (clip n) 2 xs hw hn hB (by decide)
set_option maxHeartbeats 1000000 in
theorem small_some (w : World) (base g b : Nat) (n : Int) (xs : List UInt8) (hw : Wr w base g xs) (hn : xs.length ≤ 900000000) (hB : base ≤ w.heap.size) (hc : w.cell? ⟨b, 0, none⟩ = some (.int .i64 n)) :
    Calls Try.prog 15 #[.pointer (some ⟨g, 0, none⟩), .slice (some ⟨b, 0, none⟩) 1 1] w (LaidK w base g (xs ++ encSmall n)) := by
  have HW := Lib.hid hw
  clear hw
  rcases (show n < 0 ∨ (0 ≤ n ∧ n ≤ 65535) ∨ 65535 < n by omega) with h | ⟨h, h2⟩ | h
  all_goals
    first
      | (have HN := Lib.hid (number_small w base g n 0 xs HW.out hn hB (by unfold clip; omega)))
      | (have HN := Lib.hid (number_small w base g n n xs HW.out hn hB (by unfold clip; omega)))
      | (have HN := Lib.hid (number_small w base g n 65535 xs HW.out hn hB (by unfold clip; omega)))
    go_enter Try.func15, Try.ntmps15
    go_wp2
    go_loopw [8] (fun i wr => (i = .int .i64 0 ∧ w = wr) ∨ (i = .int .i64 1 ∧ Wr wr base g (xs ++ encSmall n) ∧ BelowK base w wr)) (fun i _ => 1 - (intOf i).toNat)
    case atStart => exact .inl ⟨rfl, rfl⟩
    case round =>
      rcases hrel with ⟨rfl, rfl⟩ | ⟨rfl, hW, hbel⟩
      · go_wp2_with fail
        refine HN.out.mono ?_
        rintro e w1 ⟨rfl, hW1, hb1⟩
        go_wp2_with fail
        go_roundw
        case rel => exact .inr ⟨rfl, hW1, hb1⟩
        case measure => simp [intOf]
      · go_wp2
        go_end0
        exact ⟨rfl, hW, hbel⟩
theorem text_small (w : World) (base g : Nat) (s : ByteArray) (xs : List UInt8) (hw : Wr w base g xs) (hn : xs.length ≤ 800000000) (hB : base ≤ w.heap.size) :
    Calls Try.prog 15 #[.pointer (some ⟨g, 0, none⟩), .slice (some ⟨w.heap.size, 0, none⟩) 1 1] (w.alloc (.cells #[.int .i64 s.size] 3))
      (LaidK (w.alloc (.cells #[.int .i64 s.size] 3)) base g (xs ++ encSmall s.size)) :=
  small_some _ base g w.heap.size s.size xs (hw.alloc _) (by omega) (by simp; omega) (by rw [World.cell?_alloc_mark]; rfl)
theorem text_lay (w w1 : World) (base g : Nat) (s : ByteArray) (xs : List UInt8) (hw : Wr w1 base g (xs ++ encSmall s.size)) (hn : xs.length ≤ 800000000) (hs : s.size ≤ 65535) (hB : base ≤ w.heap.size) (hb : BelowK base w w1) (cap : Nat) :
    Calls Try.prog 46 #[.pointer (some ⟨g, 0, none⟩), .slice (some ⟨w1.heap.size, 0, none⟩) s.size cap] (w1.alloc (.cells (bytesRow s cap) 5 ((bytesRow s cap).size, (bytesRow s cap).size + 1))).drew
      (LaidK w base g (xs ++ encText (bytesOf s))) := by
  have hz := hb.size
  have e : encText (bytesOf s) = encSmall s.size ++ bytesOf s := by
    unfold encText encSmall clip
    rw [bytesOf_length, Nat.min_eq_left hs, show (min (max (s.size : Int) 0) 65535).toNat = s.size by omega, List.take_of_length_le (by rw [bytesOf_length]; omega)]
  rw [e, ← List.append_assoc]
  refine (lay_some _ base g (w1.heap.size + 1) s.size cap _ _ _ (hw.drew.alloc _) (byts_string w1 s cap) (by rw [List.length_append, encSmall_length]; omega) (by simp; omega)).mono ?_
  rintro e w2 ⟨he, h1, h2⟩
  exact ⟨he, h1, (hb.drew.alloc (w := w1.drew) (by simp; omega) _).trans h2⟩
set_option maxHeartbeats 1000000 in
theorem text_some (w : World) (base g b : Nat) (s : ByteArray) (xs : List UInt8) (hw : Wr w base g xs) (hn : xs.length ≤ 800000000) (hB : base ≤ w.heap.size) (hs : s.size ≤ 65535) (hc : w.cell? ⟨b, 0, none⟩ = some (.string s)) :
    Calls Try.prog 30 #[.pointer (some ⟨g, 0, none⟩), .slice (some ⟨b, 0, none⟩) 1 1] w (LaidK w base g (xs ++ encText (bytesOf s))) := by
  have HW := Lib.hid hw
  clear hw
  have hcv := fun w => run_bytes_of_string (P := Try.prog) w 9 23 5 s Try.underlying9 Try.underlying23 Try.underlying5
  go_enter Try.func30, Try.ntmps30
  go_wp2
  go_loopw [8] (fun i wr => (i = .int .i64 0 ∧ w = wr) ∨ (i = .int .i64 1 ∧ Wr wr base g (xs ++ encText (bytesOf s)) ∧ BelowK base w wr)) (fun i _ => 1 - (intOf i).toNat)
  case atStart => exact .inl ⟨rfl, rfl⟩
  case round =>
    rcases hrel with ⟨rfl, rfl⟩ | ⟨rfl, hW, hbel⟩
    · have HS := Lib.hid (text_small w base g s xs HW.out hn hB)
      go_wp2_with fail
      refine HS.out.mono ?_
      rintro e w1 ⟨rfl, hW1, hb1⟩
      have HL := Lib.hid (text_lay w w1 base g s xs hW1 hn hs hB (((BelowK.refl base w).alloc hB _).trans hb1))
      clear hW1 hb1
      go_wp2_with fail
      refine (HL.out _).mono ?_
      rintro e w2 ⟨rfl, hW2, hb2⟩
      go_wp2_with fail
      go_roundw
      case rel => exact .inr ⟨rfl, hW2, hb2⟩
      case measure => simp [intOf]
    · go_wp2
      go_end0
      exact ⟨rfl, hW, hbel⟩
end Go.Proofs.Ytofadlenblobnaa.Exp
