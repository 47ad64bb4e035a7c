/-
  The document's Close.
-/
import Derived.Test.YtbhgbgaeaejnhaaQ05
import Derived.Test.YtbhgbgaeaejnhaaQ12
namespace Go.Proofs.Ytbhgbgaeaejnhaa.Typ
open Go.RowKit Tre
open Lex (AtS at_take at_run)
set_option maxRecDepth 100000
set_option linter.unusedSimpArgs false
/-- What stays of a list when its last block is left. -/
def closeL (l : List Vr) (D : Int) : List Vr := (l.reverse.dropWhile fun v => v.k == D).reverse
theorem dropWhile_all {α : Type} {p : α → Bool} : ∀ (l m : List α), (∀ a ∈ l, p a = true) → (l ++ m).dropWhile p = m.dropWhile p
  | [], _, _ => rfl
  | a :: l, m, h => by
    rw [List.cons_append, List.dropWhile_cons, h a (List.mem_cons_self ..)]
    simpa using dropWhile_all l m fun b hb => h b (List.mem_cons_of_mem _ hb)
theorem closeL_eq {l : List Vr} {D : Int} {k : Nat} (hk : k ≤ l.length) (ho : ∀ (j : Nat) (a : Vr), k ≤ j → l[j]? = some a → (a.k == D) = true) (hs : ∀ a, 0 < k → l[k - 1]? = some a → (a.k == D) = false) : closeL l D = l.take k := by
  unfold closeL
  have e : l.reverse = (l.drop k).reverse ++ (l.take k).reverse := by rw [← List.reverse_append, List.take_append_drop]
  rw [e, dropWhile_all _ _ (fun a ha => by
    rw [List.mem_reverse] at ha
    obtain ⟨j, hj, e⟩ := List.getElem_of_mem ha
    rw [List.length_drop] at hj
    exact ho (k + j) a (by omega) (by rw [← e, List.getElem_drop, List.getElem?_eq_getElem]))]
  rcases Nat.eq_zero_or_pos k with rfl | h0
  · simp
  · obtain ⟨m, rfl⟩ : ∃ m, k = m + 1 := ⟨k - 1, by omega⟩
    have hm : m < l.length := by omega
    have := hs l[m] (by omega) (by simp [hm])
    rw [List.take_add_one, List.getElem?_eq_getElem hm]
    simp only [Option.toList_some, List.reverse_append, List.reverse_cons, List.reverse_nil, List.nil_append, List.cons_append, List.dropWhile_cons, this]
    simp
theorem row_take {α : Type} {n : Nat} {C : α → List Value} {w : World} {A : Option Addr} {l : List α} (h : Row n C w A l) (k : Nat) : Row n C w A (l.take k) := fun h0 => by
  obtain ⟨b, o, e, hlt, hc⟩ := h (by rw [List.length_take] at h0; omega)
  refine ⟨b, o, e, hlt, fun j x hx r u hu => hc j x ?_ r u hu⟩
  have hj := (List.getElem?_eq_some_iff.1 hx).1
  rw [List.length_take] at hj
  rw [List.getElem?_take_of_lt (by omega)] at hx
  exact hx
/-- The row is cut, the depth written. -/
theorem ScIn.cut {w : World} {g : Nat} {A : Option Addr} {c : Nat} {l : List Vr} {D N : Int} (h : ScIn w g A c l D N) {k : Nat} (hk : k ≤ l.length) (D' : Int) :
    ScIn ((w.setCell ⟨g, 0, none⟩ (.slice A k c)).setCell ⟨g, 1, none⟩ (.int .i64 D')) g A c (l.take k) D' N :=
  ⟨(setc_at (setc_at h.box _) _).trans (by rw [List.length_take, Nat.min_eq_left hk]; rfl), row_apart (row_apart (row_take h.row k) h.apart _ _) h.apart _ _, by rw [List.length_take]; have := h.cap; omega, h.apart, h.form⟩
theorem ScIn.drewN {w : World} {g : Nat} {A : Option Addr} {c : Nat} {l : List Vr} {D N : Int} (h : ScIn w g A c l D N) (m : Nat) : ScIn (w.drewN m) g A c l D N := h.below (below_drewN w m)
theorem ScIn.drew {w : World} {g : Nat} {A : Option Addr} {c : Nat} {l : List Vr} {D N : Int} (h : ScIn w g A c l D N) : ScIn w.drew g A c l D N := h.below (Below.refl _ w).drew
/-- Only block g is other than it was. -/
structure Chg (g : Nat) (w w' : World) : Prop where
  os : w'.os = w.os
  tape : w'.tape = w.tape
  output : w'.output = w.output
  size : w.heap.size ≤ w'.heap.size
  block : ∀ k, k < w.heap.size → k ≠ g → w'.heap[k]? = w.heap[k]?
theorem Chg.refl (g : Nat) (w : World) : Chg g w w := ⟨rfl, rfl, rfl, Nat.le_refl _, fun _ _ _ => rfl⟩
theorem Chg.below {g : Nat} {w w1 w2 : World} (h : Chg g w w1) (hb : Below w1.heap.size w1 w2) : Chg g w w2 :=
  ⟨hb.os.trans h.os, hb.tape.trans h.tape, hb.output.trans h.output, Nat.le_trans h.size hb.size, fun k hk hn => (hb.block k (Nat.lt_of_lt_of_le hk h.size)).trans (h.block k hk hn)⟩
theorem Chg.set {g : Nat} {w w1 : World} (h : Chg g w w1) (i : Nat) (u : Value) : Chg g w (w1.setCell ⟨g, i, none⟩ u) := by
  have hb : Below g w1 (w1.setCell ⟨g, i, none⟩ u) := (Below.refl g w1).setCell (p := ⟨g, i, none⟩) (Nat.le_refl _) u
  exact ⟨hb.os.trans h.os, hb.tape.trans h.tape, hb.output.trans h.output, Nat.le_trans h.size hb.size, fun k hk hn => (Below.heap_setCell w1 ⟨g, i, none⟩ u k hn).trans (h.block k hk hn)⟩
/-- What Close leaves. -/
def CloseQ (w : World) (g : Nat) (A : Option Addr) (c : Nat) (l : List Vr) (D N : Int) (e : Ending) (w' : World) : Prop := e = .returned (.bool true) ∧ ScIn w' g A c (closeL l D) (D - 1) N ∧ Chg g w w'
set_option maxHeartbeats 4000000 in
theorem close_zero {w : World} {g : Nat} {A : Option Addr} {c : Nat} {l : List Vr} {N : Int} (h : ScIn w g A c l 0 N) :
    Calls Try.prog 22 #[.pointer (some ⟨g, 0, none⟩)] w (fun e w' => e = .returned (.bool false) ∧ w' = w) := by
  have z1 : w.cell? ⟨g, 1, none⟩ = some (.int .i64 0) := cell_at h.box 1
  clear h
  go_enter Try.func22, Try.ntmps22
  go_wp2_with fail
  go_ret
  exact ⟨rfl, rfl⟩
set_option maxHeartbeats 8000000 in
theorem close_nil {w : World} {g : Nat} {l : List Vr} {D N : Int} (h : ScIn w g none 0 l D N) (hl : l.length ≤ 1000) (hd : 0 < D) (hd2 : D ≤ 1000) :
    Calls Try.prog 22 #[.pointer (some ⟨g, 0, none⟩)] w (CloseQ w g none 0 l D N) := by
  have HI := Lib.hid h
  obtain ⟨n, hn⟩ : ∃ n, l.length = n := ⟨_, rfl⟩
  have z0 : w.cell? ⟨g, 0, none⟩ = some (.slice none l.length 0) := cell_at h.box 0
  have z1 : w.cell? ⟨g, 1, none⟩ = some (.int .i64 D) := cell_at h.box 1
  have f1 : ∀ i, w.frozen? ⟨g, i, none⟩ = false := fun i => by simp [World.frozen?, h.box]
  have hcap := h.cap
  rw [hn] at hl z0 hcap
  have HN := Lib.hid hn
  have hd0 : (D == 0) = false := by rw [beq_eq_false_iff_ne]; omega
  clear h hn
  obtain rfl : n = 0 := by omega
  go_enter Try.func22, Try.ntmps22
  go_wp2_with fail
  go_loopw [3] (fun i wr => ∃ k : Nat, k ≤ 0 ∧ i = .int .i64 k ∧ Hid (∃ m, wr = w.drewN m) ∧ Hid (∀ (j : Nat) (a : Vr), k ≤ j → l[j]? = some a → (a.k == D) = true)) (fun i _ => (intOf i).toNat)
  case atStart => exact ⟨0, Nat.le_refl _, rfl, Lib.hid ⟨0, rfl⟩, Lib.hid (fun j a h e => by have := (List.getElem?_eq_some_iff.1 e).1; have := HN.out; omega)⟩
  case round =>
    obtain ⟨k, hk, rfl, HM, HS⟩ := hrel
    obtain ⟨mw, rfl⟩ := HM.out
    obtain rfl : k = 0 := by omega
    have HEND : Hid (closeL l D = l.take 0) := Lib.hid (closeL_eq (Nat.zero_le _) HS.out (fun b h _ => by omega))
    go_wp2_with fail
    go_quiet (fail)
    go_wp2_with fail
    go_ret
    refine ⟨rfl, ?_, ?_⟩
    · rw [HEND.out]
      first
      | exact (HI.out.drewN _).cut (by rw [HN.out]; omega) _
      | exact ((HI.out.drewN _).drewN _).cut (by rw [HN.out]; omega) _
    · first
      | exact (((Chg.refl g w).below (below_drewN w _)).set 0 _).set 1 _
      | exact ((((Chg.refl g w).below (below_drewN w _)).below (below_drewN _ _)).set 0 _).set 1 _
set_option maxHeartbeats 8000000 in
theorem close_some {w : World} {g : Nat} {b0 o0 c : Nat} {l : List Vr} {D N : Int} (h : ScIn w g (some ⟨b0, o0, none⟩) c l D N) (hl : l.length ≤ 1000) (hd : 0 < D) (hd2 : D ≤ 1000) :
    Calls Try.prog 22 #[.pointer (some ⟨g, 0, none⟩)] w (CloseQ w g (some ⟨b0, o0, none⟩) c l D N) := by
  have HI := Lib.hid h
  obtain ⟨n, hn⟩ : ∃ n, l.length = n := ⟨_, rfl⟩
  have z0 : w.cell? ⟨g, 0, none⟩ = some (.slice (some ⟨b0, o0, none⟩) l.length c) := cell_at h.box 0
  have z1 : w.cell? ⟨g, 1, none⟩ = some (.int .i64 D) := cell_at h.box 1
  have f1 : ∀ i, w.frozen? ⟨g, i, none⟩ = false := fun i => by simp [World.frozen?, h.box]
  have hcap := h.cap
  rw [hn] at hl z0 hcap
  have HN := Lib.hid hn
  have hd0 : (D == 0) = false := by rw [beq_eq_false_iff_ne]; omega
  clear h hn
  go_enter Try.func22, Try.ntmps22
  go_wp2_with fail
  go_loopw [3] (fun i wr => ∃ k : Nat, k ≤ n ∧ i = .int .i64 k ∧ Hid (∃ m, wr = w.drewN m) ∧ Hid (∀ (j : Nat) (a : Vr), k ≤ j → l[j]? = some a → (a.k == D) = true)) (fun i _ => (intOf i).toNat)
  case atStart => exact ⟨n, Nat.le_refl _, rfl, Lib.hid ⟨0, rfl⟩, Lib.hid (fun j a h e => by have := (List.getElem?_eq_some_iff.1 e).1; have := HN.out; omega)⟩
  case round =>
    obtain ⟨k, hk, rfl, HM, HS⟩ := hrel
    obtain ⟨mw, rfl⟩ := HM.out
    by_cases hlt : 0 < k
    · obtain ⟨m, rfl⟩ : ∃ m, k = m + 1 := ⟨k - 1, by omega⟩
      obtain ⟨a, ha⟩ : ∃ a, l[m]? = some a := ⟨_, List.getElem?_eq_getElem (by rw [HN.out]; omega)⟩
      obtain ⟨b1, o1, hA, hc1⟩ := HI.out.row.at_ (Below.refl _ _) ha
      injection hA with hA
      injection hA with hA1 hA2
      subst hA1 hA2
      obtain ⟨p0, p1, p2, p3⟩ := vrC_at hc1
      have HA := Lib.hid ha
      clear hc1 ha
      obtain ⟨t1, ht1⟩ : ∃ t, (a.k == D) = t := ⟨_, rfl⟩
      have HG := Lib.hid ht1
      cases t1 with
      | true =>
        go_wp2_with fail
        go_quiet (fail)
        go_wp2_with fail
        go_roundw
        case rel => exact ⟨m, by omega, by go_num, Lib.hid ⟨_, rfl⟩, Lib.hid (fun j b hj e => by
          rcases Nat.lt_or_ge m j with h | h
          · exact HS.out j b h e
          · obtain rfl : j = m := by omega
            have := HA.out.symm.trans e
            injection this with this
            rw [← this]
            exact HG.out)⟩
        case measure => simp [intOf]
      | false =>
        have HEND : Hid (closeL l D = l.take (m + 1)) := Lib.hid (closeL_eq (by rw [HN.out]; exact hk) HS.out (fun b _ e => by
          have := HA.out.symm.trans e
          injection this with this
          rw [← this]
          exact HG.out))
        go_wp2_with fail
        go_quiet (fail)
        go_wp2_with fail
        go_ret
        refine ⟨rfl, ?_, ?_⟩
        · rw [HEND.out]
          first
          | exact (HI.out.drewN _).cut (by rw [HN.out]; omega) _
          | exact ((HI.out.drewN _).drewN _).cut (by rw [HN.out]; omega) _
        · first
          | exact (((Chg.refl g w).below (below_drewN w _)).set 0 _).set 1 _
          | exact ((((Chg.refl g w).below (below_drewN w _)).below (below_drewN _ _)).set 0 _).set 1 _
    · obtain rfl : k = 0 := by omega
      have HEND : Hid (closeL l D = l.take 0) := Lib.hid (closeL_eq (Nat.zero_le _) HS.out (fun b h _ => by omega))
      go_wp2_with fail
      go_quiet (fail)
      go_wp2_with fail
      go_ret
      refine ⟨rfl, ?_, ?_⟩
      · rw [HEND.out]
        first
        | exact (HI.out.drewN _).cut (by rw [HN.out]; omega) _
        | exact ((HI.out.drewN _).drewN _).cut (by rw [HN.out]; omega) _
      · first
        | exact (((Chg.refl g w).below (below_drewN w _)).set 0 _).set 1 _
        | exact ((((Chg.refl g w).below (below_drewN w _)).below (below_drewN _ _)).set 0 _).set 1 _
theorem close_any {w : World} {g : Nat} {A : Option Addr} {c : Nat} {l : List Vr} {D N : Int} (h : ScIn w g A c l D N) (hl : l.length ≤ 1000) (hd : 0 < D) (hd2 : D ≤ 1000) :
    Calls Try.prog 22 #[.pointer (some ⟨g, 0, none⟩)] w (CloseQ w g A c l D N) := by
  rcases h.form with ⟨rfl, rfl⟩ | ⟨b, o, rfl⟩
  · exact close_nil h hl hd hd2
  · exact close_some h hl hd hd2
end Go.Proofs.Ytbhgbgaeaejnhaa.Typ
/- What names stand for, block by block: plain mathematics. -/
namespace Go.Proofs.Ytbhgbgaeaejnhaa.Typ
set_option linter.unusedSimpArgs false
theorem toList_inj' {a b : ByteArray} (h : a.toList = b.toList) : a = b := by
  rw [ByteArray.toList_eq, ByteArray.toList_eq] at h
  exact ByteArray.ext (Array.toList_inj.1 h)
theorem isV_iff {s : ByteArray} {v : Vr} : isV s v = true ↔ v.s = s := by
  unfold isV
  rw [beq_iff_eq]
  exact ⟨toList_inj', fun h => by rw [h]⟩
/-- What a name stands for. -/
def fnd (l : List Vr) (s : ByteArray) : Option Vr := l.reverse.find? (isV s)
theorem fnd_nil (s : ByteArray) : fnd [] s = none := rfl
theorem fnd_app (l m : List Vr) (s : ByteArray) : fnd (l ++ m) s = (fnd m s).or (fnd l s) := by
  unfold fnd
  rw [List.reverse_append, List.find?_append]
theorem fnd_one (l : List Vr) (v : Vr) (s : ByteArray) : fnd (l ++ [v]) s = if v.s = s then some v else fnd l s := by
  rw [fnd_app]
  unfold fnd
  by_cases h : v.s = s
  · rw [if_pos h]
    have := isV_iff.2 h
    simp [this]
  · rw [if_neg h]
    have : isV s v = false := by
      cases hv : isV s v with
      | false => rfl
      | true => exact absurd (isV_iff.1 hv) h
    simp [this]
theorem fnd_some {l : List Vr} {s : ByteArray} {v : Vr} (h : fnd l s = some v) : v ∈ l ∧ v.s = s := by
  unfold fnd at h
  exact ⟨List.mem_reverse.1 (List.mem_of_find?_eq_some h), isV_iff.1 (List.find?_some h)⟩
theorem fnd_none {l : List Vr} {s : ByteArray} (h : fnd l s = none) : ∀ v ∈ l, v.s ≠ s := fun v hv e => by
  unfold fnd at h
  rw [List.find?_eq_none] at h
  exact h v (List.mem_reverse.2 hv) (isV_iff.2 e)
theorem fnd_is {l : List Vr} {s : ByteArray} (h : ∀ v ∈ l, v.s ≠ s) : fnd l s = none := by
  unfold fnd
  rw [List.find?_eq_none]
  intro v hv e
  exact h v (List.mem_reverse.1 hv) (isV_iff.1 e)
/-- Each block's variables bear its depth; numbers are what they must be. -/
structure Wf (LL : List (List Vr)) (N : Int) : Prop where
  k : ∀ (i : Nat) (L : List Vr), LL[i]? = some L → ∀ v ∈ L, v.k = (i : Int) + 1
  n : ∀ v ∈ LL.flatten, 0 ≤ v.n ∧ v.n < N
  pos : 0 ≤ N
  s : ∀ v ∈ LL.flatten, v.s.size ≤ maxLen
theorem Wf.nil : Wf [] 0 := ⟨fun i L h => by simp at h, fun v h => by simp at h, Int.le_refl _, fun v h => by simp at h⟩
theorem Wf.open_ {LL : List (List Vr)} {N : Int} (h : Wf LL N) : Wf (LL ++ [[]]) N := by
  refine ⟨fun i L hL v hv => ?_, fun v hv => h.n v (by simpa using hv), h.pos, fun v hv => h.s v (by simpa using hv)⟩
  rw [List.getElem?_append] at hL
  split at hL
  · exact h.k i L hL v hv
  · rename_i hi
    obtain ⟨hlt, he⟩ := List.getElem?_eq_some_iff.1 hL
    simp at hlt
    have : i - LL.length = 0 := by omega
    simp [this] at he
    subst he
    simp at hv
theorem Wf.close {LL : List (List Vr)} {L : List Vr} {N : Int} (h : Wf (LL ++ [L]) N) : Wf LL N := by
  refine ⟨fun i M hM v hv => h.k i M ?_ v hv, fun v hv => h.n v (by rw [List.flatten_append]; exact List.mem_append_left _ hv), h.pos, fun v hv => h.s v (by rw [List.flatten_append]; exact List.mem_append_left _ hv)⟩
  rw [List.getElem?_append_left (List.getElem?_eq_some_iff.1 hM).1]
  exact hM
theorem Wf.def_ {LL : List (List Vr)} {L : List Vr} {N : Int} (h : Wf (LL ++ [L]) N) (s : ByteArray) (t : Int) (hs : s.size ≤ maxLen) : Wf (LL ++ [L ++ [⟨s, t, N, (LL.length : Int) + 1⟩]]) (N + 1) := by
  have hp := h.pos
  refine ⟨fun i M hM v hv => ?_, fun v hv => ?_, by omega, fun v hv => ?_⟩
  · rcases Nat.lt_or_ge i LL.length with hi | hi
    · rw [List.getElem?_append_left hi] at hM
      exact h.k i M (by rw [List.getElem?_append_left hi]; exact hM) v hv
    · rw [List.getElem?_append_right hi] at hM
      obtain ⟨hlt, he⟩ := List.getElem?_eq_some_iff.1 hM
      simp at hlt
      obtain rfl : i = LL.length := by omega
      simp at he
      subst he
      rcases List.mem_append.1 hv with hv | hv
      · exact h.k LL.length L (by simp) v hv
      · obtain rfl : v = _ := by simpa using hv
        rfl
  · simp only [List.flatten_append, List.flatten_cons, List.flatten_nil, List.append_nil, List.mem_append, List.mem_singleton] at hv
    rcases hv with hv | hv | hv
    · have := h.n v (by simp [hv])
      omega
    · have := h.n v (by simp [hv])
      omega
    · subst hv
      exact ⟨hp, Int.lt_succ N⟩
  · simp only [List.flatten_append, List.flatten_cons, List.flatten_nil, List.append_nil, List.mem_append, List.mem_singleton] at hv
    rcases hv with hv | hv | hv
    · exact h.s v (by simp [hv])
    · exact h.s v (by simp [hv])
    · subst hv
      exact hs
/-- Has the innermost block the name? -/
def hasD (l : List Vr) (s : ByteArray) (D : Int) : Bool := match fnd l s with
  | some v => v.k == D
  | none => false
theorem Wf.deep {LL : List (List Vr)} {N : Int} (h : Wf LL N) {v : Vr} (hv : v ∈ LL.flatten) : 1 ≤ v.k ∧ v.k ≤ LL.length := by
  rw [List.mem_flatten] at hv
  obtain ⟨L, hL, hv⟩ := hv
  obtain ⟨i, hi, rfl⟩ := List.getElem_of_mem hL
  have := h.k i _ (List.getElem?_eq_getElem hi) v hv
  omega
theorem hasD_last {LL : List (List Vr)} {L : List Vr} {N : Int} (h : Wf (LL ++ [L]) N) (s : ByteArray) : hasD (LL ++ [L]).flatten s ((LL.length : Int) + 1) = (fnd L s).isSome := by
  have e : (LL ++ [L]).flatten = LL.flatten ++ L := by simp
  unfold hasD
  rw [e, fnd_app]
  cases hL : fnd L s with
  | some v =>
    have := h.k LL.length L (by simp) v (fnd_some hL).1
    simp [this]
  | none =>
    cases hK : fnd LL.flatten s with
    | none => simp
    | some v =>
      have := h.close.deep (fnd_some hK).1
      have e : (v.k == (LL.length : Int) + 1) = false := by rw [beq_eq_false_iff_ne]; omega
      simp [e]
/-- A block's names, and what each hides. -/
def nms (K : List Vr) (L : List Vr) : List (ByteArray × Option Vr) := L.map fun v => (v.s, fnd K v.s)
/-- .. with one name turned. -/
def upF (f : ByteArray → Option Vr) (s : ByteArray) (u : Option Vr) : ByteArray → Option Vr := fun x => if x = s then u else f x
theorem fnd_def (l : List Vr) (v : Vr) : fnd (l ++ [v]) = upF (fnd l) v.s (some v) := by
  funext s
  rw [fnd_one]
  unfold upF
  by_cases h : v.s = s
  · rw [if_pos h, if_pos h.symm]
  · rw [if_neg h, if_neg (fun e => h e.symm)]
/-- While a block's names go: the first j have gone. -/
def backF (K L : List Vr) (j : Nat) : ByteArray → Option Vr := fun x => match fnd (L.take j) x with
  | some _ => fnd K x
  | none => fnd (K ++ L) x
theorem backF_zero (K L : List Vr) : backF K L 0 = fnd (K ++ L) := by
  funext x
  simp [backF, fnd_nil]
theorem backF_succ (K L : List Vr) (j : Nat) (v : Vr) (h : L[j]? = some v) : backF K L (j + 1) = upF (backF K L j) v.s (fnd K v.s) := by
  funext x
  unfold backF upF
  have e : L.take (j + 1) = L.take j ++ [v] := by rw [List.take_add_one, h]; rfl
  rw [e, fnd_one]
  by_cases hx : x = v.s
  · subst hx
    simp
  · have : ¬ v.s = x := fun e => hx e.symm
    simp [hx, this]
theorem backF_all (K L : List Vr) (j : Nat) (h : L.length ≤ j) : backF K L j = fnd K := by
  funext x
  unfold backF
  rw [List.take_of_length_le h, fnd_app]
  cases hL : fnd L x with
  | some v => simp
  | none => simp
end Go.Proofs.Ytbhgbgaeaejnhaa.Typ
