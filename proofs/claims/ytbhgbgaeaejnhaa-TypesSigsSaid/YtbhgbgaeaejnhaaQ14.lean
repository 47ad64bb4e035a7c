/-
  The program's scopes in memory: a map of what names stand for, a row of blocks, each a row of names. Open.
-/
import Derived.Test.YtbhgbgaeaejnhaaQ04
import Derived.Test.YtbhgbgaeaejnhaaQ13
import Derived.Maps.OwnSet
import Derived.Maps.OwnOps
namespace Go.Proofs.Ytbhgbgaeaejnhaa.Typ
open Go.RowKit Tre
open OwnR (OwnG)
set_option maxRecDepth 100000
set_option linter.unusedSimpArgs false
def varL : Option Vr → List Value
  | none => [.int .u8 0, .int .i64 0, .int .i64 0]
  | some v => [.int .u8 v.t, .int .i64 v.n, .int .i64 v.k]
def varV (u : Option Vr) : Value := .agg (varL u).toArray
def nmC (x : ByteArray × Option Vr) : List Value := .string x.1 :: varL x.2
def slC (v : Value) : List Value := [v]
theorem varL_len (u : Option Vr) : (varL u).length = 3 := by cases u <;> rfl
theorem nmC_len (x : ByteArray × Option Vr) : (nmC x).length = 4 := by unfold nmC; rw [List.length_cons, varL_len]
def ksS (s : ByteArray) : Lit := .string s.data.toList
theorem ksS_inj {a b : ByteArray} (h : ksS a = ksS b) : a = b := by
  unfold ksS at h
  injection h with h
  exact ByteArray.ext (Array.toList_inj.1 h)
theorem isKey_ksS (s : ByteArray) : WideAt.IsKeyLit (ksS s) := by first | exact trivial | simp [ksS, WideAt.IsKeyLit]
def R0 : Value → Option (DataW Value × List MemPlace) := fun v => some (.held v, [])
/-- What the map's datum tells. -/
def TM (D : DataW Value) (f : ByteArray → Option Vr) : Prop := ∀ s, (f s = none → Maps.has D (ksS s) = false) ∧ ∀ v, f s = some v → ∀ z, D.atKey (ksS s) z = .held (varV (some v))
theorem TM.empty {f : ByteArray → Option Vr} (h : ∀ s, f s = none) : TM (.map []) f := fun s => ⟨fun _ => by simp [Maps.has], fun v hv => by rw [h s] at hv; cases hv⟩
theorem TM.put {D : DataW Value} {f : ByteArray → Option Vr} (h : TM D f) (hD : Maps.IsMap D) (s : ByteArray) (v : Vr) : TM (D.put (ksS s) (.held (varV (some v)))) (upF f s (some v)) := fun x => by
  unfold upF
  by_cases hx : x = s
  · subst hx
    rw [if_pos rfl]
    refine ⟨fun e => (by cases e), fun u hu z => ?_⟩
    injection hu with hu
    subst hu
    exact Maps.atKey_put_same hD (isKey_ksS x) _ z
  · rw [if_neg hx, Maps.has_put_other (fun e => hx (ksS_inj e))]
    exact ⟨(h x).1, fun u hu z => by rw [Maps.atKey_put_other (fun e => hx (ksS_inj e))]; exact (h x).2 u hu z⟩
theorem TM.del {D : DataW Value} {f : ByteArray → Option Vr} (h : TM D f) (s : ByteArray) : TM (D.del (ksS s)) (upF f s none) := fun x => by
  unfold upF
  by_cases hx : x = s
  · subst hx
    rw [if_pos rfl]
    exact ⟨fun _ => Maps.has_del_same, fun u hu => by cases hu⟩
  · rw [if_neg hx, Maps.has_del_other (fun e => hx (ksS_inj e))]
    exact ⟨(h x).1, fun u hu z => by rw [Maps.atKey_del_other (fun e => hx (ksS_inj e))]; exact (h x).2 u hu z⟩
theorem TM.has {D : DataW Value} {f : ByteArray → Option Vr} (h : TM D f) (s : ByteArray) : Maps.has D (ksS s) = (f s).isSome := by
  cases hf : f s with
  | none => exact (h s).1 hf
  | some v => exact Maps.has_true_of_atKey ((h s).2 v hf)
/-- A map's value reads as this function. -/
def FM (w : World) (mv : Value) (m : Nat) (f : ByteArray → Option Vr) : Prop :=
  (mv = .map none ∧ ∀ s, f s = none) ∨ ∃ gm D, mv = .map (some gm) ∧ w.ownsMap Try.prog 9 R0 gm m D ∧ TM D f
theorem FM.keep {w w' : World} {mv : Value} {m : Nat} {f : ByteArray → Option Vr} (h : FM w mv m f) (hb : ∀ b, mv = .map (some b) → w'.heap[b]? = w.heap[b]?) : FM w' mv m f := by
  rcases h with h | ⟨gm, D, e, ⟨es, c, h1, h2⟩, ht⟩
  · exact .inl h
  · exact .inr ⟨gm, D, e, ⟨es, c, (hb gm e).trans h1, h2⟩, ht⟩
theorem FM.mono {w : World} {mv : Value} {m m' : Nat} {f : ByteArray → Option Vr} (h : FM w mv m f) (hm : m ≤ m') : FM w mv m' f := by
  rcases h with h | ⟨gm, D, e, h1, ht⟩
  · exact .inl h
  · exact .inr ⟨gm, D, e, h1.mono hm, ht⟩
theorem FM.isMap {w : World} {mv : Value} {m : Nat} {f : ByteArray → Option Vr} (h : FM w mv m f) {b : Nat} (hb : mv = .map (some b)) : ∃ es c, w.heap[b]? = some (.map es c) := by
  rcases h with ⟨e, _⟩ | ⟨gm, D, e, ⟨es, c, h1, _⟩, _⟩
  · rw [e] at hb
    injection hb with hb
    cases hb
  · rw [e] at hb
    injection hb with hb
    injection hb with hb
    subst hb
    exact ⟨es, c, h1⟩
theorem OwnG.typ {k : Nat} {α : Type} {C : α → List Value} {T : TypeId} {w : World} {lo : Nat} {v : Value} {l : List α} (h : OwnG k C T w lo v l) {b : Nat} (hb : v.ownBlock = some b) : ∃ cs, w.heap[b]? = some (.cells cs T (0, 0)) := by
  rcases h.2 with ⟨e, _⟩ | ⟨g, cap, cur, e, _, hh, _⟩
  · rw [e] at hb
    cases hb
  · rw [e] at hb
    injection hb with hb
    subst hb
    exact ⟨cur, hh⟩
theorem ne_typ {w : World} {a b : Nat} {x y : Array Value} {S T : TypeId} {p q : Nat × Nat} (ha : w.heap[a]? = some (.cells x S p)) (hb : w.heap[b]? = some (.cells y T q)) (h : (S == T) = false) : a ≠ b := by
  rintro rfl
  rw [ha] at hb
  injection hb with hb
  injection hb with _ hb
  rw [hb] at h
  simp at h
theorem ne_map {w : World} {a b : Nat} {x : Array Value} {S : TypeId} {p : Nat × Nat} {es : Array MapEntry} {c : Nat} (ha : w.heap[a]? = some (.cells x S p)) (hb : w.heap[b]? = some (.map es c)) : a ≠ b := by
  rintro rfl
  rw [ha] at hb
  cases hb
/-- A scope's own blocks. -/
def Owns (g : Nat) (mv ov : Value) (vs : List Value) (b : Nat) : Prop := b = g ∨ mv = .map (some b) ∨ ov.ownBlock = some b ∨ ∃ v ∈ vs, v.ownBlock = some b
/-- A scope at block g. -/
structure PS (w : World) (g : Nat) (mv ov : Value) (vs : List Value) (LL : List (List Vr)) (N : Int) (m : Nat) : Prop where
  box : w.heap[g]? = some (.cells #[mv, ov, .int .i64 N] 49 (0, 0))
  out : OwnG 1 slC 77 w 0 ov vs
  len : vs.length = LL.length
  row : ∀ (i : Nat) (v : Value) (L : List Vr), vs[i]? = some v → LL[i]? = some L → OwnG 4 nmC 81 w 0 v (nms (LL.take i).flatten L)
  apart : ∀ (i j : Nat) (u v : Value) (b : Nat), i ≠ j → vs[i]? = some u → vs[j]? = some v → u.ownBlock = some b → v.ownBlock ≠ some b
  map : FM w mv m (fnd LL.flatten)
section
variable {w w' : World} {g : Nat} {mv ov : Value} {vs : List Value} {LL : List (List Vr)} {N : Int} {m : Nat}
theorem PS.rowAt (h : PS w g mv ov vs LL N m) {v : Value} (hv : v ∈ vs) : ∃ K L, OwnG 4 nmC 81 w 0 v (nms K L) := by
  obtain ⟨i, hi, rfl⟩ := List.getElem_of_mem hv
  exact ⟨_, _, h.row i _ (LL[i]'(h.len ▸ hi)) (List.getElem?_eq_getElem hi) (List.getElem?_eq_getElem (h.len ▸ hi))⟩
theorem PS.lt (h : PS w g mv ov vs LL N m) {b : Nat} (hb : Owns g mv ov vs b) : b < w.heap.size := by
  rcases hb with rfl | hb | hb | ⟨v, hv, hb⟩
  · exact lt_of_heap h.box
  · obtain ⟨es, c, h1⟩ := h.map.isMap hb
    exact lt_of_heap h1
  · exact (h.out.lt b hb).2
  · obtain ⟨K, L, h1⟩ := h.rowAt hv
    exact (h1.lt b hb).2
theorem PS.keep (h : PS w g mv ov vs LL N m) (hb : ∀ b, Owns g mv ov vs b → w'.heap[b]? = w.heap[b]?) : PS w' g mv ov vs LL N m where
  box := (hb g (.inl rfl)).trans h.box
  out := h.out.keep fun b e => hb b (.inr (.inr (.inl e)))
  len := h.len
  row := fun i v L hv hL => (h.row i v L hv hL).keep fun b e => hb b (.inr (.inr (.inr ⟨v, List.mem_of_getElem? hv, e⟩)))
  apart := h.apart
  map := h.map.keep fun b e => hb b (.inr (.inl e))
theorem PS.below (h : PS w g mv ov vs LL N m) (hb : Below w.heap.size w w') : PS w' g mv ov vs LL N m := h.keep fun b e => hb.block b (h.lt e)
/-- The scope's blocks are of four kinds. -/
theorem PS.ne_out (h : PS w g mv ov vs LL N m) {b : Nat} (hb : ov.ownBlock = some b) : b ≠ g ∧ mv ≠ .map (some b) ∧ ∀ v ∈ vs, v.ownBlock ≠ some b := by
  obtain ⟨cs, h1⟩ := OwnG.typ h.out hb
  refine ⟨ne_typ h1 h.box (by decide), fun e => ?_, fun v hv e => ?_⟩
  · obtain ⟨es, c, h2⟩ := h.map.isMap e
    exact ne_map h1 h2 rfl
  · obtain ⟨K, L, h2⟩ := h.rowAt hv
    obtain ⟨cs2, h3⟩ := OwnG.typ h2 e
    exact ne_typ h1 h3 (by decide) rfl
theorem PS.ne_row (h : PS w g mv ov vs LL N m) {v : Value} (hv : v ∈ vs) {b : Nat} (hb : v.ownBlock = some b) : b ≠ g ∧ mv ≠ .map (some b) ∧ ov.ownBlock ≠ some b := by
  obtain ⟨K, L, h0⟩ := h.rowAt hv
  obtain ⟨cs, h1⟩ := OwnG.typ h0 hb
  refine ⟨ne_typ h1 h.box (by decide), fun e => ?_, fun e => (h.ne_out e).2.2 v hv hb⟩
  obtain ⟨es, c, h2⟩ := h.map.isMap e
  exact ne_map h1 h2 rfl
theorem PS.ne_map (h : PS w g mv ov vs LL N m) {b : Nat} (hb : mv = .map (some b)) : b ≠ g ∧ ov.ownBlock ≠ some b ∧ ∀ v ∈ vs, v.ownBlock ≠ some b := by
  obtain ⟨es, c, h1⟩ := h.map.isMap hb
  exact ⟨fun e => Typ.ne_map h.box (e ▸ h1) rfl, fun e => (h.ne_out e).2.1 hb, fun v hv e => (h.ne_row hv e).2.1 hb⟩
end
/-- Only blocks of S are other than they were. -/
structure TurnS (S : Nat → Prop) (w w' : World) : Prop where
  os : w'.os = w.os
  tape : w'.tape = w.tape
  output : w'.output = w.output
  size : w.heap.size ≤ w'.heap.size
  block : ∀ k, k < w.heap.size → ¬ S k → w'.heap[k]? = w.heap[k]?
theorem TurnS.refl (S : Nat → Prop) (w : World) : TurnS S w w := ⟨rfl, rfl, rfl, Nat.le_refl _, fun _ _ _ => rfl⟩
theorem TurnS.then_ {S S' : Nat → Prop} {w w1 w2 : World} (h : TurnS S w w1) (h2 : TurnS S' w1 w2) (hS : ∀ k, S' k → S k ∨ w.heap.size ≤ k) : TurnS S w w2 :=
  ⟨h2.os.trans h.os, h2.tape.trans h.tape, h2.output.trans h.output, Nat.le_trans h.size h2.size, fun k hk hn => (h2.block k (Nat.lt_of_lt_of_le hk h.size) fun e => by
    rcases hS k e with e | e
    · exact hn e
    · omega).trans (h.block k hk hn)⟩
theorem TurnS.below {S : Nat → Prop} {w w1 w2 : World} (h : TurnS S w w1) (hb : Below w1.heap.size w1 w2) : TurnS S w w2 :=
  ⟨hb.os.trans h.os, hb.tape.trans h.tape, hb.output.trans h.output, Nat.le_trans h.size hb.size, fun k hk hn => (hb.block k (Nat.lt_of_lt_of_le hk h.size)).trans (h.block k hk hn)⟩
theorem TurnS.grown {S : Nat → Prop} {w w1 w2 : World} {row : Option Nat} (h : TurnS S w w1) (hg : w1.grownBy w2 row) (hr : ∀ k, row = some k → S k ∨ w.heap.size ≤ k) : TurnS S w w2 :=
  h.then_ (S' := fun k => row = some k) ⟨hg.os, hg.tape, hg.output, hg.size, fun k hk hn => hg.block k hk fun e => hn e.symm⟩ hr
theorem TurnS.set {S : Nat → Prop} {w w1 : World} (h : TurnS S w w1) {b : Nat} (hb : S b ∨ w.heap.size ≤ b) (i : Nat) (u : Value) : TurnS S w (w1.setCell ⟨b, i, none⟩ u) := by
  have hl : Below b w1 (w1.setCell ⟨b, i, none⟩ u) := (Below.refl b w1).setCell (p := ⟨b, i, none⟩) (Nat.le_refl _) u
  refine h.then_ (S' := fun k => k = b) ⟨hl.os, hl.tape, hl.output, hl.size, fun k hk hn => Below.heap_setCell w1 ⟨b, i, none⟩ u k hn⟩ (fun k e => ?_)
  subst e
  exact hb
theorem TurnS.low {S : Nat → Prop} {w w1 : World} (h : TurnS S w w1) {base : Nat} (hS : ∀ k, S k → base ≤ k) (hb : base ≤ w.heap.size) : Below base w w1 :=
  ⟨h.os, h.tape, h.output, h.size, fun k hk => h.block k (by omega) fun e => by have := hS k e; omega⟩
/-- A scope whose blocks are of S. -/
def PSc (w : World) (g : Nat) (S : Nat → Prop) (LL : List (List Vr)) (N : Int) (m : Nat) : Prop := ∃ mv ov vs, PS w g mv ov vs LL N m ∧ ∀ b, Owns g mv ov vs b → S b
theorem PSc.below {w w' : World} {g : Nat} {S : Nat → Prop} {LL : List (List Vr)} {N : Int} {m : Nat} (h : PSc w g S LL N m) (hb : Below w.heap.size w w') : PSc w' g S LL N m := by
  obtain ⟨mv, ov, vs, h1, h2⟩ := h
  exact ⟨mv, ov, vs, h1.below hb, h2⟩
/-- What a call leaves. -/
def PQ (w : World) (g : Nat) (S : Nat → Prop) (LL : List (List Vr)) (N : Int) (m : Nat) (v : Value) (e : Ending) (w' : World) : Prop :=
  e = .returned v ∧ PSc w' g (fun b => S b ∨ w.heap.size ≤ b) LL N m ∧ TurnS S w w'
end Go.Proofs.Ytbhgbgaeaejnhaa.Typ
