/-
  The program's scopes, from a block of the heap on; the law's knows.
-/
import Derived.Test.YtbhgbgaeaejnhaaZDef
namespace Go.Proofs.Ytbhgbgaeaejnhaa.Typ
open Go.RowKit Tre
open OwnR (OwnG)
set_option maxRecDepth 100000
set_option linter.unusedSimpArgs false
/-- A scope that lies from block base on. -/
structure PB (base : Nat) (w : World) (g : Nat) (LL : List (List Vr)) (N : Int) (m : Nat) : Prop where
  sc : PSc w g (fun b => base ≤ b) LL N m
  wf : Wf LL N
  low : base ≤ w.heap.size
theorem PB.below {base : Nat} {w w' : World} {g : Nat} {LL : List (List Vr)} {N : Int} {m : Nat} (h : PB base w g LL N m) (hb : Below w.heap.size w w') : PB base w' g LL N m := ⟨h.sc.below hb, h.wf, Nat.le_trans h.low hb.size⟩
theorem PB.of {base : Nat} {w w' : World} {g : Nat} {LL LL2 : List (List Vr)} {N N2 : Int} {m m2 : Nat} (h : PB base w g LL N m) (hs : PSc w' g (fun b => base ≤ b ∨ w.heap.size ≤ b) LL2 N2 m2) (ht : TurnS (fun b => base ≤ b) w w') (hw : Wf LL2 N2) : PB base w' g LL2 N2 m2 ∧ Below base w w' := by
  obtain ⟨mv, ov, vs, h1, h2⟩ := hs
  refine ⟨⟨⟨mv, ov, vs, h1, fun b hb => ?_⟩, hw, Nat.le_trans h.low ht.size⟩, ht.low (fun k e => e) h.low⟩
  rcases h2 b hb with e | e
  · exact e
  · exact Nat.le_trans h.low e
theorem PB.mono {base : Nat} {w : World} {g : Nat} {LL : List (List Vr)} {N : Int} {m m2 : Nat} (h : PB base w g LL N m) (hm : m ≤ m2) : PB base w g LL N m2 := by
  obtain ⟨⟨mv, ov, vs, h1, h2⟩, hw, hl⟩ := h
  exact ⟨⟨mv, ov, vs, ⟨h1.box, h1.out, h1.len, h1.row, h1.apart, h1.map.mono hm⟩, h2⟩, hw, hl⟩
theorem PB.zero (w : World) : PB w.heap.size (w.alloc (.cells #[.map none, .slice none 0 0, .int .i64 0] 49)) w.heap.size [] 0 0 :=
  ⟨⟨.map none, .slice none 0 0, [], ⟨new_at w _ _, OwnG.nil _ _, rfl, fun i v L h => by simp at h, fun i j u v b _ h => by simp at h, .inl ⟨rfl, fun s => rfl⟩⟩, fun b hb => by
    rcases hb with e | e | e | ⟨v, hv, e⟩
    · exact Nat.le_of_eq e.symm
    · injection e with e
      cases e
    · cases e
    · simp at hv⟩, Wf.nil, by simp⟩
section
variable {base : Nat} {w : World} {g : Nat} {LL : List (List Vr)} {L : List Vr} {N : Int} {m : Nat}
theorem bopen_any (h : PB base w g LL N m) (hl : LL.length ≤ 100000) : Calls Try.prog 19 #[.pointer (some ⟨g, 0, none⟩)] w (fun e w' => e = .returned (.tuple #[]) ∧ PB base w' g (LL ++ [[]]) N m ∧ Below base w w') := by
  obtain ⟨mv, ov, vs, h1, h2⟩ := h.sc
  refine (popen_any h1 hl h2).mono ?_
  rintro e w' ⟨rfl, hs, ht⟩
  exact ⟨rfl, h.of hs ht h.wf.open_⟩
theorem bclose_any (h : PB base w g (LL ++ [L]) N m) (hl : LL.length ≤ 100000) (hl2 : L.length ≤ 100000) (hm : m ≤ 1000000000) : Calls Try.prog 21 #[.pointer (some ⟨g, 0, none⟩)] w (fun e w' => e = .returned (.bool true) ∧ PB base w' g LL N (m + L.length) ∧ Below base w w') := by
  obtain ⟨mv, ov, vs, h1, h2⟩ := h.sc
  refine (pclose_any h1 h.wf hl hl2 hm h2).mono ?_
  rintro e w' ⟨rfl, hs, ht⟩
  exact ⟨rfl, h.of hs ht h.wf.close⟩
theorem bclose_zero (h : PB base w g [] N m) : Calls Try.prog 21 #[.pointer (some ⟨g, 0, none⟩)] w (fun e w' => e = .returned (.bool false) ∧ w' = w) := by
  obtain ⟨mv, ov, vs, h1, h2⟩ := h.sc
  exact pclose_zero h1
/-- A block behind a Def, the numbers behind it. -/
def defB (LL : List (List Vr)) (L : List Vr) (N : Int) (s : ByteArray) (t : Int) : List Vr := if (fnd L s).isSome then L else L ++ [⟨s, t, N, (LL.length : Int) + 1⟩]
def defN (L : List Vr) (N : Int) (s : ByteArray) : Int := if (fnd L s).isSome then N else N + 1
theorem bdef_any (h : PB base w g (LL ++ [L]) N m) (hl : LL.length ≤ 100000) (hl2 : L.length ≤ 100000) (hN : N ≤ 1000000) (hm : m ≤ 1000000000) (s : ByteArray) (hs : s.size ≤ 281474976710656) (t : Int) :
    Calls Try.prog 23 #[.pointer (some ⟨g, 0, none⟩), .string s, .int .u8 t] w (fun e w' => e = .returned (.bool (!(fnd L s).isSome)) ∧ PB base w' g (LL ++ [defB LL L N s t]) (defN L N s) (m + 1) ∧ Below base w w') := by
  obtain ⟨mv, ov, vs, h1, h2⟩ := h.sc
  refine (pdef_any h1 h.wf hl hl2 hN hm s hs t h2).mono ?_
  unfold defB defN
  rintro e w' (⟨hf, rfl, rfl⟩ | ⟨hf, rfl, hs', ht⟩)
  · rw [hf]
    exact ⟨rfl, h.mono (Nat.le_succ m), Below.refl _ _⟩
  · rw [hf]
    exact ⟨rfl, h.of hs' ht (h.wf.def_ s t (by unfold maxLen; omega))⟩
theorem bfind_any (h : PB base w g LL N m) (s : ByteArray) (hs : s.size ≤ maxLen) : Calls Try.prog 25 #[.pointer (some ⟨g, 0, none⟩), .string s] w (fun e w' => e = .returned (findA LL.flatten s) ∧ PB base w' g LL N m ∧ Below base w w') := by
  obtain ⟨mv, ov, vs, h1, h2⟩ := h.sc
  refine (pfind_any h1 s hs).mono ?_
  rintro e w' ⟨rfl, hb⟩
  exact ⟨rfl, h.below hb, hb.mono h.low⟩
theorem bcount_any (h : PB base w g LL N m) : Calls Try.prog 28 #[.pointer (some ⟨g, 0, none⟩)] w (fun e w' => e = .returned (.int .i64 N) ∧ w' = w) := by
  obtain ⟨mv, ov, vs, h1, h2⟩ := h.sc
  exact pcount_any h1
theorem bdeep_any (h : PB base w g LL N m) : Calls Try.prog 27 #[.pointer (some ⟨g, 0, none⟩)] w (fun e w' => e = .returned (.int .i64 LL.length) ∧ w' = w) := by
  obtain ⟨mv, ov, vs, h1, h2⟩ := h.sc
  exact pdeep_any h1
end
def aS : ByteArray := ⟨#[97]⟩
def aV (t : Int) (n k : Int) : Vr := ⟨aS, t, n, k⟩
theorem def_fresh (LL : List (List Vr)) (N : Int) (t : Int) : defB LL [] N aS t = [aV t N ((LL.length : Int) + 1)] ∧ defN [] N aS = N + 1 ∧ (!(fnd [] aS).isSome) = true := ⟨rfl, rfl, rfl⟩
set_option maxHeartbeats 8000000 in
theorem knows_any (w : World) : Calls Try.prog 7 #[] w (fun e w' => e = .returned (.bool true) ∧ Below w.heap.size w w') := by
  have h0 := PB.zero w
  have C1 := Lib.hid (bopen_any h0 (by simp))
  have b0 := ball_new w #[.map none, .slice none 0 0, .int .i64 0] 49
  have B0 := Lib.hid b0
  clear h0 b0
  go_enter Try.func7, Try.ntmps7
  go_wp2_with fail
  refine C1.out.mono ?_
  rintro e w1 ⟨rfl, h1, b1⟩
  have C2 := Lib.hid (bdef_any (LL := []) (L := []) h1 (by simp) (by simp) (by omega) (by omega) aS (by decide) 1)
  rw [(def_fresh _ _ _).1, (def_fresh [] 0 0).2.1, (def_fresh [] 0 0).2.2] at C2
  have B1 := Lib.hid (B0.out.trans b1)
  clear h1 b1 C1 B0
  go_wp2_with fail
  refine C2.out.mono ?_
  rintro e w2 ⟨rfl, h2, b2⟩
  have C3 := Lib.hid (bopen_any h2 (by simp))
  have B2 := Lib.hid (B1.out.trans b2)
  clear h2 b2 C2 B1
  go_wp2_with fail
  refine C3.out.mono ?_
  rintro e w3 ⟨rfl, h3, b3⟩
  have C4 := Lib.hid (bdef_any (L := []) h3 (by simp) (by simp) (by omega) (by omega) aS (by decide) 2)
  rw [(def_fresh _ _ _).1, (def_fresh [] _ 0).2.1, (def_fresh [] 0 0).2.2] at C4
  have B3 := Lib.hid (B2.out.trans b3)
  clear h3 b3 C3 B2
  go_wp2_with fail
  refine C4.out.mono ?_
  rintro e w4 ⟨rfl, h4, b4⟩
  have C5 := Lib.hid (bclose_any h4 (by simp) (by simp) (by omega))
  have B4 := Lib.hid (B3.out.trans b4)
  clear h4 b4 C4 B3
  go_wp2_with fail
  refine C5.out.mono ?_
  rintro e w5 ⟨rfl, h5, b5⟩
  have C6 := Lib.hid (bfind_any h5 aS (by decide))
  have hf : findA ([] ++ [[aV 1 0 ((([] : List (List Vr)).length : Int) + 1)]]).flatten aS = .tuple #[.int .u8 1, .int .i64 0, .bool true] := findA_some (v := aV 1 0 ((([] : List (List Vr)).length : Int) + 1)) (by
    show fnd ([] ++ [_]) aS = _
    rw [fnd_one]
    exact if_pos rfl)
  rw [hf] at C6
  have B5 := Lib.hid (B4.out.trans b5)
  clear h5 b5 C5 B4 hf
  go_wp2_with fail
  refine C6.out.mono ?_
  rintro e w6 ⟨rfl, h6, b6⟩
  have C7 := Lib.hid (bcount_any h6)
  have B6 := Lib.hid (B5.out.trans b6)
  clear h6 b6 C6 B5
  go_wp2_with fail
  refine C7.out.mono ?_
  rintro e w7 ⟨rfl, hw7⟩
  obtain rfl : w6 = w7 := hw7.symm
  go_wp2_with fail
  go_ret
  exact ⟨rfl, B6.out⟩
end Go.Proofs.Ytbhgbgaeaejnhaa.Typ
