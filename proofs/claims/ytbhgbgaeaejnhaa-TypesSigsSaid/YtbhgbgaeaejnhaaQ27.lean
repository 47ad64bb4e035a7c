/-
  The program's scopes, from a block of the heap on; the law's knows.
-/
import Derived.Test.YtbhgbgaeaejnhaaQ17
import Derived.Test.YtbhgbgaeaejnhaaQ21
import Derived.Test.YtbhgbgaeaejnhaaQ25
import Derived.Test.YtbhgbgaeaejnhaaQ26
namespace Go.Proofs.Ytbhgbgaeaejnhaa.Typ
open Go.RowKit Tre
open OwnR (OwnG)
set_option maxRecDepth 100000
set_option linter.unusedSimpArgs false
/-- A scope that lies from block base on. -/
structure PB (base : Nat) (w : World) (g : Nat) (LL : List (List Vr)) (N : Int) (m : Nat) : Prop where
  sc : PSc w g (fun b => base ≤ b) LL N m
  wf : Wf LL N
  low : base ≤ w.heap.size
theorem PB.below {base : Nat} {w w' : World} {g : Nat} {LL : List (List Vr)} {N : Int} {m : Nat} (h : PB base w g LL N m) (hb : Below w.heap.size w w') : PB base w' g LL N m := ⟨h.sc.below hb, h.wf, Nat.le_trans h.low hb.size⟩
theorem PB.of {base : Nat} {w w' : World} {g : Nat} {LL LL2 : List (List Vr)} {N N2 : Int} {m m2 : Nat} (h : PB base w g LL N m) (hs : PSc w' g (fun b => base ≤ b ∨ w.heap.size ≤ b) LL2 N2 m2) (ht : TurnS (fun b => base ≤ b) w w') (hw : Wf LL2 N2) : PB base w' g LL2 N2 m2 ∧ Below base w w' := by
  obtain ⟨mv, ov, vs, h1, h2⟩ := hs
  refine ⟨⟨⟨mv, ov, vs, h1, fun b hb => ?_⟩, hw, Nat.le_trans h.low ht.size⟩, ht.low (fun k e => e) h.low⟩
  rcases h2 b hb with e | e
  · exact e
  · exact Nat.le_trans h.low e
theorem PB.mono {base : Nat} {w : World} {g : Nat} {LL : List (List Vr)} {N : Int} {m m2 : Nat} (h : PB base w g LL N m) (hm : m ≤ m2) : PB base w g LL N m2 := by
  obtain ⟨⟨mv, ov, vs, h1, h2⟩, hw, hl⟩ := h
  exact ⟨⟨mv, ov, vs, ⟨h1.box, h1.out, h1.len, h1.row, h1.apart, h1.map.mono hm⟩, h2⟩, hw, hl⟩
theorem PB.zero (w : World) : PB w.heap.size (w.alloc (.cells #[.map none, .slice none 0 0, .int .i64 0] 49)) w.heap.size [] 0 0 :=
  ⟨⟨.map none, .slice none 0 0, [], ⟨new_at w _ _, OwnG.nil _ _, rfl, fun i v L h => by simp at h, fun i j u v b _ h => by simp at h, .inl ⟨rfl, fun s => rfl⟩⟩, fun b hb => by
    rcases hb with e | e | e | ⟨v, hv, e⟩
    · exact Nat.le_of_eq e.symm
    · injection e with e
      cases e
    · cases e
    · simp at hv⟩, Wf.nil, by simp⟩
section
variable {base : Nat} {w : World} {g : Nat} {LL : List (List Vr)} {L : List Vr} {N : Int} {m : Nat}
theorem bopen_any (h : PB base w g LL N m) (hl : LL.length ≤ 100000) : Calls Try.prog 19 #[.pointer (some ⟨g, 0, none⟩)] w (fun e w' => e = .returned (.tuple #[]) ∧ PB base w' g (LL ++ [[]]) N m ∧ Below base w w') := by
  obtain ⟨mv, ov, vs, h1, h2⟩ := h.sc
  refine (popen_any h1 hl h2).mono ?_
  rintro e w' ⟨rfl, hs, ht⟩
  exact ⟨rfl, h.of hs ht h.wf.open_⟩
theorem bclose_any (h : PB base w g (LL ++ [L]) N m) (hl : LL.length ≤ 100000) (hl2 : L.length ≤ 100000) (hm : m ≤ 1000000000) : Calls Try.prog 21 #[.pointer (some ⟨g, 0, none⟩)] w (fun e w' => e = .returned (.bool true) ∧ PB base w' g LL N (m + L.length) ∧ Below base w w') := by
  obtain ⟨mv, ov, vs, h1, h2⟩ := h.sc
  refine (pclose_any h1 h.wf hl hl2 hm h2).mono ?_
  rintro e w' ⟨rfl, hs, ht⟩
  exact ⟨rfl, h.of hs ht h.wf.close⟩
theorem bclose_zero (h : PB base w g [] N m) : Calls Try.prog 21 #[.pointer (some ⟨g, 0, none⟩)] w (fun e w' => e = .returned (.bool false) ∧ w' = w) := by
  obtain ⟨mv, ov, vs, h1, h2⟩ := h.sc
  exact pclose_zero h1
/-- A block behind a Def, the numbers behind it. -/
def defB (LL : List (List Vr)) (L : List Vr) (N : Int) (s : ByteArray) (t : Int) : List Vr := if (fnd L s).isSome then L else L ++ [⟨s, t, N, (LL.length : Int) + 1⟩]
def defN (L : List Vr) (N : Int) (s : ByteArray) : Int := if (fnd L s).isSome then N else N + 1
theorem bdef_any (h : PB base w g (LL ++ [L]) N m) (hl : LL.length ≤ 100000) (hl2 : L.length ≤ 100000) (hN : N ≤ 1000000) (hm : m ≤ 1000000000) (s : ByteArray) (hs : s.size ≤ 281474976710656) (t : Int) :
    Calls Try.prog 23 #[.pointer (some ⟨g, 0, none⟩), .string s, .int .u8 t] w (fun e w' => e = .returned (.bool (!(fnd L s).isSome)) ∧ PB base w' g (LL ++ [defB LL L N s t]) (defN L N s) (m + 1) ∧ Below base w w') := by
  obtain ⟨mv, ov, vs, h1, h2⟩ := h.sc
  refine (pdef_any h1 h.wf hl hl2 hN hm s hs t h2).mono ?_
  unfold defB defN
  rintro e w' (⟨hf, rfl, rfl⟩ | ⟨hf, rfl, hs', ht⟩)
  · rw [hf]
    exact ⟨rfl, h.mono (Nat.le_succ m), Below.refl _ _⟩
  · rw [hf]
    exact ⟨rfl, h.of hs' ht (h.wf.def_ s t (by unfold maxLen; omega))⟩
theorem bfind_any (h : PB base w g LL N m) (s : ByteArray) (hs : s.size ≤ maxLen) : Calls Try.prog 25 #[.pointer (some ⟨g, 0, none⟩), .string s] w (fun e w' => e = .returned (findA LL.flatten s) ∧ PB base w' g LL N m ∧ Below base w w') := by
  obtain ⟨mv, ov, vs, h1, h2⟩ := h.sc
  refine (pfind_any h1 s hs).mono ?_
  rintro e w' ⟨rfl, hb⟩
  exact ⟨rfl, h.below hb, hb.mono h.low⟩
theorem bcount_any (h : PB base w g LL N m) : Calls Try.prog 28 #[.pointer (some ⟨g, 0, none⟩)] w (fun e w' => e = .returned (.int .i64 N) ∧ w' = w) := by
  obtain ⟨mv, ov, vs, h1, h2⟩ := h.sc
  exact pcount_any h1
theorem bdeep_any (h : PB base w g LL N m) : Calls Try.prog 27 #[.pointer (some ⟨g, 0, none⟩)] w (fun e w' => e = .returned (.int .i64 LL.length) ∧ w' = w) := by
  obtain ⟨mv, ov, vs, h1, h2⟩ := h.sc
  exact pdeep_any h1
end
def aS : ByteArray := ⟨#[97]⟩
def aV (t : Int) (n k : Int) : Vr := ⟨aS, t, n, k⟩
theorem def_fresh (LL : List (List Vr)) (N : Int) (t : Int) : defB LL [] N aS t = [aV t N ((LL.length : Int) + 1)] ∧ defN [] N aS = N + 1 ∧ (!(fnd [] aS).isSome) = true := ⟨rfl, rfl, rfl⟩
set_option maxHeartbeats 8000000 in
theorem knows_any (w : World) : Calls Try.prog 7 #[] w (fun e w' => e = .returned (.bool true) ∧ Below w.heap.size w w') := by
  have h0 := PB.zero w
  have C1 := Lib.hid (bopen_any h0 (by simp))
  have b0 := ball_new w #[.map none, .slice none 0 0, .int .i64 0] 49
  have B0 := Lib.hid b0
  clear h0 b0
  go_enter Try.func7, Try.ntmps7
  go_wp2_with fail
  refine C1.out.mono ?_
  rintro e w1 ⟨rfl, h1, b1⟩
  have C2 := Lib.hid (bdef_any (LL := []) (L := []) h1 (by simp) (by simp) (by omega) (by omega) aS (by decide) 1)
  rw [(def_fresh _ _ _).1, (def_fresh [] 0 0).2.1, (def_fresh [] 0 0).2.2] at C2
  have B1 := Lib.hid (B0.out.trans b1)
  clear h1 b1 C1 B0
  go_wp2_with fail
  refine C2.out.mono ?_
  rintro e w2 ⟨rfl, h2, b2⟩
  have C3 := Lib.hid (bopen_any h2 (by simp))
  have B2 := Lib.hid (B1.out.trans b2)
  clear h2 b2 C2 B1
  go_wp2_with fail
  refine C3.out.mono ?_
  rintro e w3 ⟨rfl, h3, b3⟩
  have C4 := Lib.hid (bdef_any (L := []) h3 (by simp) (by simp) (by omega) (by omega) aS (by decide) 2)
  rw [(def_fresh _ _ _).1, (def_fresh [] _ 0).2.1, (def_fresh [] 0 0).2.2] at C4
  have B3 := Lib.hid (B2.out.trans b3)
  clear h3 b3 C3 B2
  go_wp2_with fail
  refine C4.out.mono ?_
  rintro e w4 ⟨rfl, h4, b4⟩
  have C5 := Lib.hid (bclose_any h4 (by simp) (by simp) (by omega))
  have B4 := Lib.hid (B3.out.trans b4)
  clear h4 b4 C4 B3
  go_wp2_with fail
  refine C5.out.mono ?_
  rintro e w5 ⟨rfl, h5, b5⟩
  have C6 := Lib.hid (bfind_any h5 aS (by decide))
  have hf : findA ([] ++ [[aV 1 0 ((([] : List (List Vr)).length : Int) + 1)]]).flatten aS = .tuple #[.int .u8 1, .int .i64 0, .bool true] := findA_some (v := aV 1 0 ((([] : List (List Vr)).length : Int) + 1)) (by
    show fnd ([] ++ [_]) aS = _
    rw [fnd_one]
    exact if_pos rfl)
  rw [hf] at C6
  have B5 := Lib.hid (B4.out.trans b5)
  clear h5 b5 C5 B4 hf
  go_wp2_with fail
  refine C6.out.mono ?_
  rintro e w6 ⟨rfl, h6, b6⟩
  have C7 := Lib.hid (bcount_any h6)
  have B6 := Lib.hid (B5.out.trans b6)
  clear h6 b6 C6 B5
  go_wp2_with fail
  refine C7.out.mono ?_
  rintro e w7 ⟨rfl, hw7⟩
  obtain rfl : w6 = w7 := hw7.symm
  go_wp2_with fail
  go_ret
  exact ⟨rfl, B6.out⟩
end Go.Proofs.Ytbhgbgaeaejnhaa.Typ
/- What the law of signatures calls, in the form that its walk wants. Conditions: as they stand. -/
namespace Go.Proofs.Ytbhgbgaeaejnhaa.Typ
open Go.RowKit Tre Go.Sort Go.Shelf
set_option maxRecDepth 100000
set_option linter.unusedSimpArgs false
/-- A row of signatures in memory. -/
structure Rw (w : World) (A : Option Addr) (gs : List Sg) : Prop where
  row : Row 3 sgC w A gs
  sin : ∀ g ∈ gs, SgIn w g
theorem Rw.below {w w' : World} {A : Option Addr} {gs : List Sg} (h : Rw w A gs) (hb : Below w.heap.size w w') : Rw w' A gs := ⟨h.row.below hb, fun g hg => (h.sin g hg).below hb⟩
/-- A file in memory that is light. -/
structure Ff (w : World) (f : Fl) : Prop where
  fin : FlIn w f
  lt : Lt.LightOk f
theorem Ff.below {w w' : World} {f : Fl} (h : Ff w f) (hb : Below w.heap.size w w') : Ff w' f := ⟨h.fin.below hb, h.lt⟩
theorem Ff.pl {w : World} {f : Fl} (h : Ff w f) : ∀ g ∈ f.f, g.p.length ≤ 100 := fun g hg => (h.lt.2.2 g hg).1
theorem Ff.sz {w : World} {f : Fl} (h : Ff w f) : ∀ g ∈ f.f, g.s.size ≤ 281474976710656 := fun g hg => by have := (h.lt.2.2 g hg).2; omega
/-- All's answer. -/
def AllQ (f : Fl) (w : World) (e : Ending) (w' : World) : Prop := ∃ A c gs, e = .returned (.slice A gs.length c) ∧ gs.map coreG = f.f.map sigF ∧ Rw w' A gs ∧ Below w.heap.size w w'
theorem all_c {f : Fl} {w : World} (h : Ff w f) : Calls Try.prog 12 #[flV f] w (AllQ f w) :=
  (all_any f w h.fin h.lt.1 h.pl).mono fun _ _ ⟨A, c, gs, h1, h2, h3, h4, h5⟩ => ⟨A, c, gs, h1, h2, ⟨h3, h4⟩, h5⟩
theorem pall_c {f : Fl} {w : World} (h : Ff w f) : Calls Try.prog 8 #[flV f] w (AllQ f w) :=
  (pall_any f w h.fin h.lt.1 h.pl h.sz).mono fun _ _ ⟨A, c, gs, h1, h2, h3, h4, h5⟩ => ⟨A, c, gs, h1, h2, ⟨h3, h4⟩, h5⟩
/-- Exports' answer. -/
def ExpQ (f : Fl) (w : World) (e : Ending) (w' : World) : Prop := ∃ A c gs, e = .returned (.slice A gs.length c) ∧ (∃ t, ExpT f.f f.f.length t ∧ gs = t.map (·.1)) ∧ gs.length ≤ most ∧ Rw w' A gs ∧ Below w.heap.size w w'
theorem exp_len {l : List Tre.Fn} {k : Nat} {t : List El} (h : ExpT l k t) : t.length ≤ k := by
  have := h.ix.length_eq
  rw [List.length_map] at this
  rw [this]
  exact ups_len l k
theorem exp_to {f : Fl} {w : World} (h : Ff w f) : ∀ e w', ExQ f.f w e w' → ExpQ f w e w' := fun e w' ⟨A, c, t, h1, h2, h3, h4, h5⟩ =>
  ⟨A, c, t.map (·.1), by rw [List.length_map]; exact h1, ⟨t, h2, rfl⟩, by
    have h6 := exp_len h2
    have h7 := h.fin.flen
    rw [List.length_map]
    omega, ⟨h3, fun g hg => by
      obtain ⟨x, hx, rfl⟩ := List.mem_map.1 hg
      exact h4 x hx⟩, h5⟩
theorem exp_c {f : Fl} {w : World} (h : Ff w f) : Calls Try.prog 14 #[flV f] w (ExpQ f w) := (rexp_any f w h.fin h.lt.1 h.pl).mono (exp_to h)
theorem pexp_c {f : Fl} {w : World} (h : Ff w f) : Calls Try.prog 9 #[flV f] w (ExpQ f w) := (pexp_any f w h.fin h.lt.1 h.pl h.sz).mono (exp_to h)
theorem exp_core {f : Fl} {g1 g2 : List Sg} (h1 : ∃ t, ExpT f.f f.f.length t ∧ g1 = t.map (·.1)) (h2 : ∃ t, ExpT f.f f.f.length t ∧ g2 = t.map (·.1)) : g1.map coreG = g2.map coreG := by
  obtain ⟨t1, e1, rfl⟩ := h1
  obtain ⟨t2, e2, rfl⟩ := h2
  have := exp_eq e1 e2
  simpa [List.map_map, Function.comp_def] using this
/-- Same speaks of what is told. -/
theorem sameG_core {a b a2 b2 : Sg} (h1 : coreG a = coreG a2) (h2 : coreG b = coreG b2) : sameG a b = sameG a2 b2 := by
  have e1 := congrArg Sp.s h1
  have e2 := congrArg Sp.p h1
  have e3 := congrArg Sp.r h1
  have e4 := congrArg Sp.s h2
  have e5 := congrArg Sp.p h2
  have e6 := congrArg Sp.r h2
  simp only [coreG] at e1 e2 e3 e4 e5 e6
  unfold sameG
  rw [Up.toList_data, Up.toList_data, Up.toList_data, Up.toList_data, e1, e2, e3, e4, e5, e6]
theorem sameL_core : ∀ {a a2 b b2 : List Sg}, a.map coreG = a2.map coreG → b.map coreG = b2.map coreG → sameL a b = sameL a2 b2
  | [], [], [], [], _, _ => rfl
  | [], [], _ :: _, _ :: _, _, _ => rfl
  | _ :: _, _ :: _, [], [], _, _ => rfl
  | x :: a, x2 :: a2, y :: b, y2 :: b2, h1, h2 => by
    simp only [List.map_cons, List.cons.injEq] at h1 h2
    have := sameL_core h1.2 h2.2
    unfold sameL at this ⊢
    unfold allTwo
    rw [sameG_core h1.1 h2.1, this]
  | [], _ :: _, _, _, h, _ => by simp at h
  | _ :: _, [], _, _, h, _ => by simp at h
  | _, _, [], _ :: _, _, h => by simp at h
  | _, _, _ :: _, [], _, h => by simp at h
theorem sameP_self (l : List Int) : sameP l l = true := allTwo_yes rfl (fun k x y h1 h2 => by
  rw [h1] at h2
  injection h2 with h2
  subst h2
  simp [sameI])
theorem sameG_self (g : Sg) : sameG g g = true := by
  unfold sameG
  rw [sameP_self]
  simp
theorem sameL_self (l : List Sg) : sameL l l = true := allTwo_yes rfl (fun k x y h1 h2 => by
  rw [h1] at h2
  injection h2 with h2
  subst h2
  exact sameG_self x)
theorem sameL_yes {a b : List Sg} (h : a.map coreG = b.map coreG) : sameL a b = true := by
  rw [sameL_core (a2 := b) (b2 := b) h rfl]
  exact sameL_self b
/-- Look's answer. -/
def Lk (x : List Sg) (s : ByteArray) (g : Sg) (b : Bool) : Prop := match x.find? (isG s) with
  | some h => coreG g = coreG h ∧ b = true
  | none => g = nilG ∧ b = false
theorem isG_core {s : ByteArray} {g h : Sg} (e : coreG g = coreG h) : isG s g = isG s h := by
  have e1 := congrArg Sp.s e
  simp only [coreG] at e1
  unfold isG
  rw [Up.toList_data, Up.toList_data h.s, e1]
theorem find_core {s : ByteArray} : ∀ {a b : List Sg}, a.map coreG = b.map coreG → (a.find? (isG s)).map coreG = (b.find? (isG s)).map coreG
  | [], [], _ => rfl
  | [], _ :: _, h => by simp at h
  | _ :: _, [], h => by simp at h
  | x :: a, y :: b, h => by
    simp only [List.map_cons, List.cons.injEq] at h
    rw [List.find?_cons, List.find?_cons, isG_core h.1]
    cases isG s y with
    | true => simp [h.1]
    | false => exact find_core h.2
theorem Lk.same {a b : List Sg} {s : ByteArray} {g h : Sg} {p q : Bool} (e : a.map coreG = b.map coreG) (h1 : Lk a s g p) (h2 : Lk b s h q) : coreG g = coreG h ∧ p = q := by
  have h3 := find_core (s := s) e
  unfold Lk at h1 h2
  cases ha : a.find? (isG s) with
  | none =>
    cases hb : b.find? (isG s) with
    | none =>
      rw [ha] at h1
      rw [hb] at h2
      obtain ⟨rfl, rfl⟩ := h1
      obtain ⟨rfl, rfl⟩ := h2
      exact ⟨rfl, rfl⟩
    | some y => rw [ha, hb] at h3; cases h3
  | some x =>
    cases hb : b.find? (isG s) with
    | none => rw [ha, hb] at h3; cases h3
    | some y =>
      rw [ha] at h1
      rw [hb] at h2
      rw [ha, hb] at h3
      injection h3 with h3
      obtain ⟨e1, rfl⟩ := h1
      obtain ⟨e2, rfl⟩ := h2
      exact ⟨e1.trans (h3.trans e2.symm), rfl⟩
theorem nilG_in (w : World) : SgIn w nilG := ⟨fun h => by simp [nilG] at h, by simp [nilG], by simp [nilG, ByteArray.size]⟩
def LookQ (x : List Sg) (s : ByteArray) (w : World) (e : Ending) (w' : World) : Prop := ∃ g b, e = .returned (.tuple #[sgV g, .bool b]) ∧ Lk x s g b ∧ SgIn w' g ∧ Below w.heap.size w w'
theorem look_c {x : List Sg} {A : Option Addr} {c : Nat} {s : ByteArray} {w : World} (h : Rw w A x) (hl : x.length ≤ most) : Calls Try.prog 11 #[.slice A x.length c, .string s] w (LookQ x s w) := by
  refine (look_any x A c s w h.row hl).mono ?_
  rintro e w' ⟨rfl, hb⟩
  unfold LookQ lookA Lk
  cases hf : x.find? (isG s) with
  | none => exact ⟨nilG, false, rfl, ⟨rfl, rfl⟩, nilG_in _, hb⟩
  | some g => exact ⟨g, true, rfl, ⟨rfl, rfl⟩, (h.sin g (List.mem_of_find?_eq_some hf)).below hb, hb⟩
theorem plook_c {x : List Sg} {A : Option Addr} {c : Nat} {s : ByteArray} {w : World} {f : Fl} (h : Rw w A x) (hl : x.length ≤ most) (hf : Lt.LightOk f) (hc : x.map coreG = f.f.map sigF) : Calls Try.prog 10 #[.slice A x.length c, .string s] w (LookQ x s w) := by
  refine (plook_any x A c s w h.row hl (fun g hg => ?_)).mono ?_
  · have h1 : coreG g ∈ f.f.map sigF := by rw [← hc]; exact List.mem_map_of_mem hg
    obtain ⟨y, hy, e⟩ := List.mem_map.1 h1
    have h2 := hf.2.2 y hy
    have e1 := congrArg (fun p => p.s.length) e
    have e2 := congrArg (fun p => p.p.length) e
    simp only [sigF, coreG, List.length_map, Up.len_bytes] at e1 e2
    exact ⟨h.sin g hg, by omega, by omega⟩
  · rintro e w' ⟨hb, h⟩
    unfold LookQ Lk
    rcases h with ⟨g, g2, hf, rfl, hc, hi⟩ | ⟨hf, rfl⟩
    · rw [hf]
      exact ⟨g2, true, rfl, ⟨hc, rfl⟩, hi, hb⟩
    · rw [hf]
      exact ⟨nilG, false, rfl, ⟨rfl, rfl⟩, nilG_in _, hb⟩
theorem same_c {x y : List Sg} {A B : Option Addr} {c d : Nat} {w : World} (hx : Rw w A x) (hy : Rw w B y) (hl : x.length ≤ most) : Calls Try.prog 13 #[.slice A x.length c, .slice B y.length d] w (EndsB (.bool (sameL x y)) w) :=
  (sameSigs_any x y A B c d w hx.row hy.row hl hx.sin hy.sin).mono fun _ _ ⟨h1, m, h2⟩ => ⟨h1, by rw [h2]; exact Tre.below_drewN w m⟩
theorem psame_c {x y : List Sg} {A B : Option Addr} {c d : Nat} {w : World} (hx : Rw w A x) (hy : Rw w B y) (hl : x.length ≤ most) : Calls Try.prog 18 #[.slice A x.length c, .slice B y.length d] w (EndsB (.bool (sameL x y)) w) :=
  psame_any x y A B c d w hx.row hy.row hl hx.sin hy.sin
/-- A row of one. -/
theorem Rw.one {w : World} {b p : Nat} {g : Sg} (hp : g.p.length = p) (h : w.heap[b]? = some (.cells #[.string g.s, .slice g.a p g.c, .int .u8 g.r] 33 (0, 0))) (hi : SgIn w g) : Rw w (some ⟨b, 0, none⟩) [g] := by
  subst hp
  refine ⟨fun _ => ⟨b, 0, rfl, lt_of_heap h, fun j x hx r u hu => ?_⟩, fun x hx => by rw [List.mem_singleton.1 hx]; exact hi⟩
  cases j with
  | succ j => simp at hx
  | zero =>
    simp only [List.getElem?_cons_zero] at hx
    injection hx with hx
    subst hx
    have hr : r < 3 := (List.getElem?_eq_some_iff.1 hu).1
    rw [Nat.zero_mul, Nat.zero_add, cell_at h]
    match r, hr with
    | 0, _ => exact hu
    | 1, _ => exact hu
    | 2, _ => exact hu
theorem two_rows {w : World} {p q : Nat} {g h : Sg} (hg : SgIn w g) (hh : SgIn w h) (hp : g.p.length = p) (hq : h.p.length = q) :
    Rw ((w.alloc (.cells #[.string g.s, .slice g.a p g.c, .int .u8 g.r] 33)).alloc (.cells #[.string h.s, .slice h.a q h.c, .int .u8 h.r] 33)) (some ⟨w.heap.size, 0, none⟩) [g] ∧
    Rw ((w.alloc (.cells #[.string g.s, .slice g.a p g.c, .int .u8 g.r] 33)).alloc (.cells #[.string h.s, .slice h.a q h.c, .int .u8 h.r] 33)) (some ⟨w.heap.size + 1, 0, none⟩) [h] ∧
    Below w.heap.size w ((w.alloc (.cells #[.string g.s, .slice g.a p g.c, .int .u8 g.r] 33)).alloc (.cells #[.string h.s, .slice h.a q h.c, .int .u8 h.r] 33)) := by
  have n1 := new_at w #[.string g.s, .slice g.a p g.c, .int .u8 g.r] 33
  have b1 := ball_new w #[.string g.s, .slice g.a p g.c, .int .u8 g.r] 33
  have z1 : (w.alloc (.cells #[.string g.s, .slice g.a p g.c, .int .u8 g.r] 33)).heap.size = w.heap.size + 1 := World.size_alloc _ _
  generalize w.alloc (.cells #[.string g.s, .slice g.a p g.c, .int .u8 g.r] 33) = X at *
  have n2 := new_at X #[.string h.s, .slice h.a q h.c, .int .u8 h.r] 33
  have b2 := ball_new X #[.string h.s, .slice h.a q h.c, .int .u8 h.r] 33
  rw [z1] at n2
  have hb := b1.trans (b2.mono b1.size)
  exact ⟨Rw.one hp ((b2.block _ (lt_of_heap n1)).trans n1) (hg.below hb), Rw.one hq n2 (hh.below hb), hb⟩
/-- What the law holds in memory. -/
structure LS (f o : Fl) (w wr : World) : Prop where
  low : Below w.heap.size w wr
  b1 : wr.heap[w.heap.size]? = some (.cells #[.string f.s, .slice f.ia f.i.length f.ic, .slice f.fa f.f.length f.fc] 25 (0, 0))
  b2 : wr.heap[w.heap.size + 1]? = some (.cells #[.string o.s, .slice o.ia o.i.length o.ic, .slice o.fa o.f.length o.fc] 25 (0, 0))
theorem LS.below {f o : Fl} {w wr w' : World} (h : LS f o w wr) (hb : Below wr.heap.size wr w') : LS f o w w' :=
  ⟨h.low.trans (hb.mono h.low.size), (hb.block _ (lt_of_heap h.b1)).trans h.b1, (hb.block _ (lt_of_heap h.b2)).trans h.b2⟩
theorem LS.cells {f o : Fl} {w wr : World} (h : LS f o w wr) : wr.cell? ⟨w.heap.size, 0, none⟩ = some (.string f.s) ∧ wr.cell? ⟨w.heap.size, 1, none⟩ = some (.slice f.ia f.i.length f.ic) ∧ wr.cell? ⟨w.heap.size, 2, none⟩ = some (.slice f.fa f.f.length f.fc) ∧ wr.cell? ⟨w.heap.size + 1, 0, none⟩ = some (.string o.s) ∧ wr.cell? ⟨w.heap.size + 1, 1, none⟩ = some (.slice o.ia o.i.length o.ic) ∧ wr.cell? ⟨w.heap.size + 1, 2, none⟩ = some (.slice o.fa o.f.length o.fc) :=
  ⟨cell_at h.b1 0, cell_at h.b1 1, cell_at h.b1 2, cell_at h.b2 0, cell_at h.b2 1, cell_at h.b2 2⟩
theorem LS.start (f o : Fl) (w : World) : LS f o w ((w.alloc (.cells #[.string f.s, .slice f.ia f.i.length f.ic, .slice f.fa f.f.length f.fc] 25)).alloc (.cells #[.string o.s, .slice o.ia o.i.length o.ic, .slice o.fa o.f.length o.fc] 25)) := by
  have n1 := new_at w #[.string f.s, .slice f.ia f.i.length f.ic, .slice f.fa f.f.length f.fc] 25
  have b1 := ball_new w #[.string f.s, .slice f.ia f.i.length f.ic, .slice f.fa f.f.length f.fc] 25
  have z1 : (w.alloc (.cells #[.string f.s, .slice f.ia f.i.length f.ic, .slice f.fa f.f.length f.fc] 25)).heap.size = w.heap.size + 1 := World.size_alloc _ _
  generalize w.alloc (.cells #[.string f.s, .slice f.ia f.i.length f.ic, .slice f.fa f.f.length f.fc] 25) = X at *
  have n2 := new_at X #[.string o.s, .slice o.ia o.i.length o.ic, .slice o.fa o.f.length o.fc] 25
  have b2 := ball_new X #[.string o.s, .slice o.ia o.i.length o.ic, .slice o.fa o.f.length o.fc] 25
  rw [z1] at n2
  exact ⟨b1.trans (b2.mono b1.size), (b2.block _ (lt_of_heap n1)).trans n1, n2⟩
end Go.Proofs.Ytbhgbgaeaejnhaa.Typ
