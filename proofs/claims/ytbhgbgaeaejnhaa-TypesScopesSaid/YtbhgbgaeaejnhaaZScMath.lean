/-
  The program's scope and the document's stand for the same: plain mathematics, and both in one memory.
-/
import Derived.Test.YtbhgbgaeaejnhaaZBase
import Derived.Test.YtbhgbgaeaejnhaaYDef
namespace Go.Proofs.Ytbhgbgaeaejnhaa.Typ
open Go.RowKit Tre
set_option maxRecDepth 100000
set_option linter.unusedSimpArgs false
theorem close_wf {LL : List (List Vr)} {L : List Vr} {N : Int} (h : Wf (LL ++ [L]) N) : closeL (LL ++ [L]).flatten ((LL.length : Int) + 1) = LL.flatten := by
  have e : (LL ++ [L]).flatten = LL.flatten ++ L := by simp
  rw [e, closeL_eq (k := LL.flatten.length) (by simp)]
  · simp
  · intro j a hj ha
    rw [List.getElem?_append_right hj] at ha
    rw [beq_iff_eq]
    exact h.k LL.length L (by simp) a (List.mem_of_getElem? ha)
  · intro a h0 ha
    rw [List.getElem?_append_left (by omega)] at ha
    have := (h.close.deep (List.mem_of_getElem? ha)).2
    rw [beq_eq_false_iff_ne]
    omega
theorem any_wf {LL : List (List Vr)} {L : List Vr} {N : Int} (h : Wf (LL ++ [L]) N) (s : ByteArray) : (LL ++ [L]).flatten.any (isD s ((LL.length : Int) + 1)) = (fnd L s).isSome := by
  have e : (LL ++ [L]).flatten = LL.flatten ++ L := by simp
  rw [e, List.any_append]
  have h1 : LL.flatten.any (isD s ((LL.length : Int) + 1)) = false := by
    rw [List.any_eq_false]
    intro v hv
    have := (h.close.deep hv).2
    have : (v.k == (LL.length : Int) + 1) = false := by rw [beq_eq_false_iff_ne]; omega
    simp [isD, this]
  rw [h1, Bool.false_or]
  cases hf : fnd L s with
  | some v =>
    have hv := fnd_some hf
    simp only [Option.isSome_some]
    rw [List.any_eq_true]
    refine ⟨v, hv.1, ?_⟩
    have hk := h.k LL.length L (by simp) v hv.1
    unfold isD
    rw [hk, hv.2]
    simp
  | none =>
    simp only [Option.isSome_none]
    rw [List.any_eq_false]
    intro v hv
    have := fnd_none hf v hv
    have : (v.s.toList == s.toList) = false := by
      rw [beq_eq_false_iff_ne]
      exact fun e => this (toList_inj' e)
    simp [isD, this]
/-- The document's scope stays what it is. -/
theorem ScIn.keep {w w' : World} {g : Nat} {A : Option Addr} {c : Nat} {l : List Vr} {D N : Int} (h : ScIn w g A c l D N) (hg : w'.heap[g]? = w.heap[g]?) (hs : w.heap.size ≤ w'.heap.size) (hA : l ≠ [] → ∀ b o, A = some ⟨b, o, none⟩ → w'.heap[b]? = w.heap[b]?) : ScIn w' g A c l D N := by
  refine ⟨hg.trans h.box, fun h0 => ?_, h.cap, h.apart, h.form⟩
  obtain ⟨b, o, e, hlt, hc⟩ := h.row h0
  exact ⟨b, o, e, Nat.lt_of_lt_of_le hlt hs, fun j x hx r u hu => (World.cell?_of_block (hA (by intro e; simp [e] at h0) b o e)).trans (hc j x hx r u hu)⟩
/-- Both scopes in one memory, from w1 on. -/
structure Two (w1 wr : World) (gs gr : Nat) (S : Nat → Prop) (A : Option Addr) (c : Nat) (LL : List (List Vr)) (N : Int) (m : Nat) (l : List Vr) (D M : Int) : Prop where
  ps : PSc wr gs S LL N m
  wf : Wf LL N
  sc : ScIn wr gr A c l D M
  nr : ¬ S gr
  na : l ≠ [] → ∀ b o, A = some ⟨b, o, none⟩ → ¬ S b
  lo : ∀ b, S b → w1.heap.size ≤ b ∧ b < wr.heap.size
  gl : w1.heap.size ≤ gr
  bl : Below w1.heap.size w1 wr
section
variable {w1 wr w' : World} {gs gr : Nat} {S : Nat → Prop} {A A2 : Option Addr} {c c2 : Nat} {LL LL2 : List (List Vr)} {N N2 : Int} {m m2 : Nat} {l l2 : List Vr} {D M D2 M2 : Int}
theorem ScIn.alt {w : World} {g : Nat} {A : Option Addr} {c : Nat} {l : List Vr} {D N : Int} (h : ScIn w g A c l D N) (hl : l ≠ []) {b o : Nat} (e : A = some ⟨b, o, none⟩) : b < w.heap.size := by
  obtain ⟨b', o', e', hlt, _⟩ := h.row (List.length_pos_iff.2 hl)
  rw [e] at e'
  injection e' with e'
  injection e' with e1 _
  omega
/-- The program's scope has turned. -/
theorem Two.prog (H : Two w1 wr gs gr S A c LL N m l D M) (hs : PSc w' gs (fun b => S b ∨ wr.heap.size ≤ b) LL2 N2 m2) (ht : TurnS S wr w') (hw : Wf LL2 N2) : ∃ S2, Two w1 w' gs gr S2 A c LL2 N2 m2 l D M := by
  obtain ⟨mv, ov, vs, h1, h2⟩ := hs
  have hgr := lt_of_heap H.sc.box
  refine ⟨fun b => (S b ∨ wr.heap.size ≤ b) ∧ b < w'.heap.size, ⟨mv, ov, vs, h1, fun b hb => ⟨h2 b hb, h1.lt hb⟩⟩, hw, H.sc.keep (ht.block gr hgr H.nr) ht.size (fun hl b o e => ht.block b (H.sc.alt hl e) (H.na hl b o e)), fun e => ?_, fun hl b o e e2 => ?_, fun b hb => ⟨?_, hb.2⟩, H.gl, H.bl.trans (ht.low (fun k e => (H.lo k e).1) H.bl.size)⟩
  · rcases e.1 with e | e
    · exact H.nr e
    · omega
  · rcases e2.1 with e3 | e3
    · exact H.na hl b o e e3
    · have := H.sc.alt hl e
      omega
  · rcases hb.1 with e | e
    · exact (H.lo b e).1
    · exact Nat.le_trans H.bl.size e
/-- .. nothing but new blocks. -/
theorem Two.below (H : Two w1 wr gs gr S A c LL N m l D M) (hb : Below wr.heap.size wr w') : Two w1 w' gs gr S A c LL N m l D M :=
  ⟨H.ps.below hb, H.wf, H.sc.below hb, H.nr, H.na, fun b e => ⟨(H.lo b e).1, Nat.lt_of_lt_of_le (H.lo b e).2 hb.size⟩, H.gl, H.bl.trans (hb.mono H.bl.size)⟩
/-- The document's scope has turned. -/
theorem Two.doc (H : Two w1 wr gs gr S A c LL N m l D M) (hs : ScIn w' gr A2 c2 l2 D2 M2) (hc : Chg gr wr w') (hA : l2 ≠ [] → ∀ b o, A2 = some ⟨b, o, none⟩ → (A = A2 ∧ l ≠ []) ∨ wr.heap.size ≤ b) : Two w1 w' gs gr S A2 c2 LL N m l2 D2 M2 := by
  obtain ⟨mv, ov, vs, h1, h2⟩ := H.ps
  refine ⟨⟨mv, ov, vs, h1.keep fun b hb => hc.block b (h1.lt hb) fun e => H.nr (e ▸ h2 b hb), h2⟩, H.wf, hs, H.nr, fun hl b o e e2 => ?_, fun b e => ⟨(H.lo b e).1, Nat.lt_of_lt_of_le (H.lo b e).2 hc.size⟩, H.gl, H.bl.trans ⟨hc.os, hc.tape, hc.output, hc.size, fun k hk => hc.block k (Nat.lt_of_lt_of_le hk H.bl.size) fun e => by have := H.gl; omega⟩⟩
  rcases hA hl b o e with ⟨e3, hl2⟩ | e3
  · exact H.na hl2 b o (e3.trans e) e2
  · have := (H.lo b e2).2
    omega
end
end Go.Proofs.Ytbhgbgaeaejnhaa.Typ
