/-
  The calls of the program's scope and of the document's, both in one memory.
-/
import Derived.Test.YtbhgbgaeaejnhaaZScMath
namespace Go.Proofs.Ytbhgbgaeaejnhaa.Typ
open Go.RowKit Tre
set_option maxRecDepth 100000
set_option linter.unusedSimpArgs false
section
variable {w1 wr : World} {gs gr : Nat} {S : Nat → Prop} {A : Option Addr} {c : Nat} {LL K : List (List Vr)} {L : List Vr} {N : Int} {m : Nat} {l : List Vr} {D M : Int}
theorem two_open (H : Two w1 wr gs gr S A c LL N m l D M) (hl : LL.length ≤ 100000) :
    Calls Try.prog 19 #[.pointer (some ⟨gs, 0, none⟩)] wr (fun e w' => e = .returned (.tuple #[]) ∧ ∃ S2, Two w1 w' gs gr S2 A c (LL ++ [[]]) N m l D M) := by
  obtain ⟨mv, ov, vs, h1, h2⟩ := H.ps
  refine (popen_any h1 hl h2).mono ?_
  rintro e w' ⟨rfl, hs, ht⟩
  exact ⟨rfl, H.prog hs ht H.wf.open_⟩
theorem two_close (H : Two w1 wr gs gr S A c (K ++ [L]) N m l D M) (hl : K.length ≤ 100000) (hl2 : L.length ≤ 100000) (hm : m ≤ 1000000000) :
    Calls Try.prog 21 #[.pointer (some ⟨gs, 0, none⟩)] wr (fun e w' => e = .returned (.bool true) ∧ ∃ S2, Two w1 w' gs gr S2 A c K N (m + L.length) l D M) := by
  obtain ⟨mv, ov, vs, h1, h2⟩ := H.ps
  refine (pclose_any h1 H.wf hl hl2 hm h2).mono ?_
  rintro e w' ⟨rfl, hs, ht⟩
  exact ⟨rfl, H.prog hs ht H.wf.close⟩
theorem two_close0 (H : Two w1 wr gs gr S A c [] N m l D M) :
    Calls Try.prog 21 #[.pointer (some ⟨gs, 0, none⟩)] wr (fun e w' => e = .returned (.bool false) ∧ w' = wr) := by
  obtain ⟨mv, ov, vs, h1, h2⟩ := H.ps
  exact pclose_zero h1
theorem two_def (H : Two w1 wr gs gr S A c (K ++ [L]) N m l D M) (hl : K.length ≤ 100000) (hl2 : L.length ≤ 100000) (hN : N ≤ 1000000) (hm : m ≤ 1000000000) (s : ByteArray) (hs : s.size ≤ 281474976710656) (t : Int) :
    Calls Try.prog 23 #[.pointer (some ⟨gs, 0, none⟩), .string s, .int .u8 t] wr (fun e w' => e = .returned (.bool (!(fnd L s).isSome)) ∧ ∃ S2, Two w1 w' gs gr S2 A c (K ++ [defB K L N s t]) (defN L N s) (m + 1) l D M) := by
  obtain ⟨mv, ov, vs, h1, h2⟩ := H.ps
  refine (pdef_any h1 H.wf hl hl2 hN hm s hs t h2).mono ?_
  unfold defB defN
  rintro e w' (⟨hf, rfl, rfl⟩ | ⟨hf, rfl, hs', ht⟩)
  · rw [hf]
    exact ⟨rfl, S, ⟨⟨mv, ov, vs, ⟨h1.box, h1.out, h1.len, h1.row, h1.apart, h1.map.mono (Nat.le_succ m)⟩, h2⟩, H.wf, H.sc, H.nr, H.na, H.lo, H.gl, H.bl⟩⟩
  · rw [hf]
    exact ⟨rfl, H.prog hs' ht (H.wf.def_ s t (by unfold maxLen; omega))⟩
theorem two_def0 (H : Two w1 wr gs gr S A c [] N m l D M) (s : ByteArray) (t : Int) :
    Calls Try.prog 23 #[.pointer (some ⟨gs, 0, none⟩), .string s, .int .u8 t] wr (fun e w' => e = .returned (.bool false) ∧ w' = wr) := by
  obtain ⟨mv, ov, vs, h1, h2⟩ := H.ps
  exact pdef_zero h1 s t
theorem two_find (H : Two w1 wr gs gr S A c LL N m l D M) (s : ByteArray) (hs : s.size ≤ maxLen) :
    Calls Try.prog 25 #[.pointer (some ⟨gs, 0, none⟩), .string s] wr (fun e w' => e = .returned (findA LL.flatten s) ∧ Two w1 w' gs gr S A c LL N m l D M) := by
  obtain ⟨mv, ov, vs, h1, h2⟩ := H.ps
  refine (pfind_any h1 s hs).mono ?_
  rintro e w' ⟨rfl, hb⟩
  exact ⟨rfl, H.below hb⟩
theorem two_deep (H : Two w1 wr gs gr S A c LL N m l D M) : Calls Try.prog 27 #[.pointer (some ⟨gs, 0, none⟩)] wr (fun e w' => e = .returned (.int .i64 LL.length) ∧ wr = w') := by
  obtain ⟨mv, ov, vs, h1, h2⟩ := H.ps
  refine (pdeep_any h1).mono ?_
  rintro e w' ⟨rfl, rfl⟩
  exact ⟨rfl, rfl⟩
theorem two_count (H : Two w1 wr gs gr S A c LL N m l D M) : Calls Try.prog 28 #[.pointer (some ⟨gs, 0, none⟩)] wr (fun e w' => e = .returned (.int .i64 N) ∧ wr = w') := by
  obtain ⟨mv, ov, vs, h1, h2⟩ := H.ps
  refine (pcount_any h1).mono ?_
  rintro e w' ⟨rfl, rfl⟩
  exact ⟨rfl, rfl⟩
theorem doc_open (H : Two w1 wr gs gr S A c LL N m l D M) (hd : 0 ≤ D) (hd2 : D ≤ 1000) :
    Calls Try.prog 20 #[.pointer (some ⟨gr, 0, none⟩)] wr (fun e w' => e = .returned (.tuple #[]) ∧ Two w1 w' gs gr S A c LL N m l (D + 1) M) := by
  refine (open_any H.sc hd hd2).mono ?_
  rintro e w' ⟨rfl, rfl⟩
  exact ⟨rfl, H.doc (H.sc.deep _) ((Chg.refl gr wr).set 1 _) (fun hl b o e => .inl ⟨rfl, hl⟩)⟩
theorem doc_close (H : Two w1 wr gs gr S A c LL N m l D M) (hl : l.length ≤ 1000) (hd : 0 < D) (hd2 : D ≤ 1000) :
    Calls Try.prog 22 #[.pointer (some ⟨gr, 0, none⟩)] wr (fun e w' => e = .returned (.bool true) ∧ Two w1 w' gs gr S A c LL N m (closeL l D) (D - 1) M) := by
  refine (close_any H.sc hl hd hd2).mono ?_
  rintro e w' ⟨rfl, hs, hc⟩
  exact ⟨rfl, H.doc hs hc (fun hl b o e => .inl ⟨rfl, fun e2 => hl (by rw [e2]; rfl)⟩)⟩
theorem doc_close0 (H : Two w1 wr gs gr S A c LL N m l 0 M) :
    Calls Try.prog 22 #[.pointer (some ⟨gr, 0, none⟩)] wr (fun e w' => e = .returned (.bool false) ∧ w' = wr) := close_zero H.sc
theorem doc_def (H : Two w1 wr gs gr S A c LL N m l D M) (hl : l.length ≤ 1000) (hd : 0 < D) (hN : 0 ≤ M) (hN2 : M ≤ 1000) (s : ByteArray) (t : Int) :
    Calls Try.prog 24 #[.pointer (some ⟨gr, 0, none⟩), .string s, .int .u8 t] wr (fun e w' => e = .returned (.bool (!(l.any (isD s D)))) ∧ ∃ A2 c2, Two w1 w' gs gr S A2 c2 LL N m (if l.any (isD s D) then l else l ++ [⟨s, t, M, D⟩]) D (if l.any (isD s D) then M else M + 1)) := by
  refine (def_any H.sc hl hd hN hN2 s t).mono ?_
  rintro e w' (⟨hf, rfl, q, rfl⟩ | ⟨hf, rfl, hc, A2, c2, hs, hn⟩)
  · rw [hf]
    exact ⟨rfl, A, c, H.below (below_drewN wr q)⟩
  · rw [hf]
    exact ⟨rfl, A2, c2, H.doc hs hc (fun hl b o e => .inr (hn b o e))⟩
theorem doc_def0 (H : Two w1 wr gs gr S A c LL N m l 0 M) (s : ByteArray) (t : Int) :
    Calls Try.prog 24 #[.pointer (some ⟨gr, 0, none⟩), .string s, .int .u8 t] wr (fun e w' => e = .returned (.bool false) ∧ w' = wr) := def_zero H.sc s t
theorem doc_find (H : Two w1 wr gs gr S A c LL N m l D M) (hl : l.length ≤ 1000) (s : ByteArray) :
    Calls Try.prog 26 #[.pointer (some ⟨gr, 0, none⟩), .string s] wr (fun e w' => e = .returned (findA l s) ∧ Two w1 w' gs gr S A c LL N m l D M) := by
  refine (find_any H.sc hl s).mono ?_
  rintro e w' ⟨rfl, q, rfl⟩
  exact ⟨rfl, H.below (below_drewN wr q)⟩
end
/-- What the law's loop knows. -/
def ScR (w1 wr : World) (gs gr j : Nat) : Prop := ∃ S A c LL N m l D M, Two w1 wr gs gr S A c LL N m l D M ∧ l = LL.flatten ∧ D = (LL.length : Int) ∧ M = N ∧ LL.length ≤ j ∧ LL.flatten.length ≤ j ∧ N ≤ j ∧ m ≤ 200 * j
theorem ScR.of {w1 wr : World} {gs gr j : Nat} {S : Nat → Prop} {A : Option Addr} {c : Nat} {LL : List (List Vr)} {N : Int} {m : Nat} {l : List Vr} {D M : Int} (H : Two w1 wr gs gr S A c LL N m l D M) (hl : l = LL.flatten) (hD : D = (LL.length : Int)) (hM : M = N) (h1 : LL.length ≤ j) (h2 : LL.flatten.length ≤ j) (h3 : N ≤ j) (h4 : m ≤ 200 * j) : ScR w1 wr gs gr j := ⟨S, A, c, LL, N, m, l, D, M, H, hl, hD, hM, h1, h2, h3, h4⟩
theorem ScR.mono {w1 wr : World} {gs gr i j : Nat} (h : ScR w1 wr gs gr i) (hij : i ≤ j) : ScR w1 wr gs gr j := by
  obtain ⟨S, A, c, LL, N, m, l, D, M, H, h0, h1, h2, h3, h4, h5, h6⟩ := h
  exact ⟨S, A, c, LL, N, m, l, D, M, H, h0, h1, h2, by omega, by omega, by omega, by omega⟩
/-- Both scopes are new. -/
theorem two_zero (w : World) : Two w ((w.alloc (.cells #[.map none, .slice none 0 0, .int .i64 0] 49)).alloc (.cells #[.slice none 0 0, .int .i64 0, .int .i64 0] 53)) w.heap.size (w.heap.size + 1) (fun b => b = w.heap.size) none 0 [] 0 0 [] 0 0 := by
  have h1 := PB.zero w
  obtain ⟨⟨mv, ov, vs, h2, h3⟩, _, _⟩ := h1
  have hb1 := ball_new w #[.map none, .slice none 0 0, .int .i64 0] 49
  have hz : (w.alloc (.cells #[.map none, .slice none 0 0, .int .i64 0] 49)).heap.size = w.heap.size + 1 := World.size_alloc _ _
  have hb2 := ball_new (w.alloc (.cells #[.map none, .slice none 0 0, .int .i64 0] 49)) #[.slice none 0 0, .int .i64 0, .int .i64 0] 53
  have hn := new_at (w.alloc (.cells #[.map none, .slice none 0 0, .int .i64 0] 49)) #[.slice none 0 0, .int .i64 0, .int .i64 0] 53
  rw [hz] at hn
  refine ⟨⟨mv, ov, vs, h2.below hb2, fun b hb => ?_⟩, Wf.nil, ⟨hn, Row.nil _ _ _ _, Nat.zero_le _, fun b o e => (by cases e), .inl ⟨rfl, rfl⟩⟩, by omega, fun h => absurd rfl h, fun b e => ⟨by omega, ?_⟩, by omega, hb1.trans (hb2.mono hb1.size)⟩
  · have e1 := h3 b hb
    have e2 := h2.lt hb
    omega
  · have := hb2.size
    omega
end Go.Proofs.Ytbhgbgaeaejnhaa.Typ
