/-
  Trees as plain mathematics: expressions, statements, functions, files; what a tree is made of, one behind the other; whether two are the same. No condition.
-/
import GoSem.Claim
import Derived.Test.YtbhgbgaeaejnhaaChecked
import Derived.Below
import Derived.Lib.Hide
import Derived.WalkKit
import Derived.RangeFuncRecord
import Derived.LoopTactic
import Derived.Laws.StructEq
import Derived.Deep.QuietTactic
import Derived.BigQuiet
import Derived.Lib.Strings
namespace Go.Proofs.Ytbhgbgaeaejnhaa.Tre
set_option maxRecDepth 100000
/-- An expression; a and c: where its parts lie, and how many could lie there. -/
inductive Ex where
  | mk (op n : Int) (s q : ByteArray) (a : Option Addr) (c : Nat) (x : List Ex)
/-- A statement. -/
inductive St where
  | mk (op : Int) (s : ByteArray) (e : Ex) (a : Option Addr) (c : Nat) (b : List St) (a2 : Option Addr) (c2 : Nat) (b2 : List St)
structure Par where
  s : ByteArray
  t : Int
structure Fn where
  s : ByteArray
  pa : Option Addr
  pc : Nat
  p : List Par
  r : Int
  ba : Option Addr
  bc : Nat
  b : List St
structure Fl where
  s : ByteArray
  ia : Option Addr
  ic : Nat
  i : List ByteArray
  fa : Option Addr
  fc : Nat
  f : List Fn
namespace Ex
def op : Ex → Int | mk o _ _ _ _ _ _ => o
def n : Ex → Int | mk _ n _ _ _ _ _ => n
def s : Ex → ByteArray | mk _ _ s _ _ _ _ => s
def q : Ex → ByteArray | mk _ _ _ q _ _ _ => q
def a : Ex → Option Addr | mk _ _ _ _ a _ _ => a
def c : Ex → Nat | mk _ _ _ _ _ c _ => c
def x : Ex → List Ex | mk _ _ _ _ _ _ x => x
end Ex
namespace St
def op : St → Int | mk o _ _ _ _ _ _ _ _ => o
def s : St → ByteArray | mk _ s _ _ _ _ _ _ _ => s
def e : St → Ex | mk _ _ e _ _ _ _ _ _ => e
def a : St → Option Addr | mk _ _ _ a _ _ _ _ _ => a
def c : St → Nat | mk _ _ _ _ c _ _ _ _ => c
def a2 : St → Option Addr | mk _ _ _ _ _ _ a2 _ _ => a2
def c2 : St → Nat | mk _ _ _ _ _ _ _ c2 _ => c2
def b : St → List St | mk _ _ _ _ _ b _ _ _ => b
def b2 : St → List St | mk _ _ _ _ _ _ _ _ b2 => b2
end St
theorem part_lt {e : Ex} : ∀ y ∈ e.x, SizeOf.sizeOf y < SizeOf.sizeOf e := fun y h => by
  cases e with
  | mk o n s q a c x =>
    have := List.sizeOf_lt_of_mem (show y ∈ x from h)
    simp
    omega
theorem partS_lt {e : St} : ∀ y, y ∈ e.b ∨ y ∈ e.b2 → SizeOf.sizeOf y < SizeOf.sizeOf e := fun y h => by
  cases e with
  | mk o s e a c b a2 c2 b2 =>
    rcases h with h | h
    · have := List.sizeOf_lt_of_mem (show y ∈ b from h)
      simp
      omega
    · have := List.sizeOf_lt_of_mem (show y ∈ b2 from h)
      simp
      omega
/-- An expression and all that it is made of, each ahead of its parts. -/
def flat (e : Ex) : List Ex := e :: e.x.attach.flatMap (fun ⟨y, _⟩ => flat y)
termination_by SizeOf.sizeOf e
decreasing_by exact part_lt _ (by assumption)
def flatL (l : List Ex) : List Ex := l.flatMap flat
def flatS (s : St) : List St := s :: (s.b.attach.flatMap (fun ⟨y, _⟩ => flatS y) ++ s.b2.attach.flatMap (fun ⟨y, _⟩ => flatS y))
termination_by SizeOf.sizeOf s
decreasing_by
  · exact partS_lt _ (.inl (by assumption))
  · exact partS_lt _ (.inr (by assumption))
def flatB (l : List St) : List St := l.flatMap flatS
theorem flat_eq (e : Ex) : flat e = e :: flatL e.x := by rw [flat]; congr 1; unfold flatL; exact List.flatMap_subtype (fun _ _ => rfl)|>.trans (by simp)
theorem flatS_eq (s : St) : flatS s = s :: (flatB s.b ++ flatB s.b2) := by
  rw [flatS]; congr 1; unfold flatB; congr 1
  · exact List.flatMap_subtype (fun _ _ => rfl)|>.trans (by simp)
  · exact List.flatMap_subtype (fun _ _ => rfl)|>.trans (by simp)
theorem flatL_app (l m : List Ex) : flatL (l ++ m) = flatL l ++ flatL m := by simp [flatL]
theorem flatB_app (l m : List St) : flatB (l ++ m) = flatB l ++ flatB m := by simp [flatB]
theorem flatL_cons (e : Ex) (l : List Ex) : flatL (e :: l) = flat e ++ flatL l := by simp [flatL]
theorem flatB_cons (e : St) (l : List St) : flatB (e :: l) = flatS e ++ flatB l := by simp [flatB]
theorem mem_flat (e : Ex) : e ∈ flat e := by rw [flat_eq]; simp
theorem mem_flatS (e : St) : e ∈ flatS e := by rw [flatS_eq]; simp
theorem flatL_of_mem {l : List Ex} {e y : Ex} (he : e ∈ l) (hy : y ∈ flat e) : y ∈ flatL l := List.mem_flatMap.2 ⟨e, he, hy⟩
theorem flatB_of_mem {l : List St} {e y : St} (he : e ∈ l) (hy : y ∈ flatS e) : y ∈ flatB l := List.mem_flatMap.2 ⟨e, he, hy⟩
theorem flat_sub {e x y : Ex} (hx : x ∈ e.x) (hy : y ∈ flat x) : y ∈ flat e := by rw [flat_eq]; exact List.mem_cons_of_mem _ (flatL_of_mem hx hy)
theorem flatS_sub {e x y : St} (hx : x ∈ e.b ∨ x ∈ e.b2) (hy : y ∈ flatS x) : y ∈ flatS e := by
  rw [flatS_eq]
  refine List.mem_cons_of_mem _ (List.mem_append.2 ?_)
  rcases hx with hx | hx
  · exact .inl (flatB_of_mem hx hy)
  · exact .inr (flatB_of_mem hx hy)
/-- How many expressions. -/
def size (e : Ex) : Nat := (flat e).length
def sizeL (l : List Ex) : Nat := (flatL l).length
def sizeS (s : St) : Nat := (flatS s).length
def sizeB (l : List St) : Nat := (flatB l).length
theorem size_eq (e : Ex) : size e = 1 + sizeL e.x := by unfold size sizeL; rw [flat_eq]; simp; omega
theorem sizeS_eq (s : St) : sizeS s = 1 + (sizeB s.b + sizeB s.b2) := by unfold sizeS sizeB; rw [flatS_eq]; simp; omega
theorem sizeL_cons (e : Ex) (l : List Ex) : sizeL (e :: l) = size e + sizeL l := by simp [sizeL, size, flatL_cons]
theorem sizeB_cons (e : St) (l : List St) : sizeB (e :: l) = sizeS e + sizeB l := by simp [sizeB, sizeS, flatB_cons]
theorem size_mem {l : List Ex} {e : Ex} (h : e ∈ l) : size e ≤ sizeL l := by
  induction l with
  | nil => cases h
  | cons x l ih =>
    rw [sizeL_cons]
    rcases List.mem_cons.1 h with rfl | h
    · omega
    · have := ih h; omega
theorem sizeS_mem {l : List St} {e : St} (h : e ∈ l) : sizeS e ≤ sizeB l := by
  induction l with
  | nil => cases h
  | cons x l ih =>
    rw [sizeB_cons]
    rcases List.mem_cons.1 h with rfl | h
    · omega
    · have := ih h; omega
theorem size_part {e x : Ex} (h : x ∈ e.x) : size x < size e := by have := size_mem h; rw [size_eq e]; omega
theorem sizeS_part {s x : St} (h : x ∈ s.b ∨ x ∈ s.b2) : sizeS x < sizeS s := by
  rw [sizeS_eq s]
  rcases h with h | h <;> · have := sizeS_mem h; omega
/-- Two lists, element by element. -/
def allTwo {α : Type} {β : Type} (p : α → β → Bool) : List α → List β → Bool
  | [], [] => true
  | a :: r, b :: t => p a b && allTwo p r t
  | _, _ => false
theorem allTwo_attach {α : Type} (p : α → α → Bool) : ∀ (l : List α) (P : α → Prop) (H : ∀ a ∈ l, P a) (m : List α), allTwo (fun (z : {a // P a}) y => p z.1 y) (l.attachWith P H) m = allTwo p l m
  | [], _, _, [] => rfl
  | [], _, _, _ :: _ => rfl
  | _ :: _, _, _, [] => rfl
  | a :: r, P, H, b :: t => by
    have := allTwo_attach p r P (fun a h => H a (List.mem_cons_of_mem _ h)) t
    simp [List.attachWith, allTwo] at this ⊢
    rw [this]
/-- Are two the same? Where they lie is nothing to them. -/
def sameX (a b : Ex) : Bool := a.op == b.op && a.n == b.n && a.s.toList == b.s.toList && a.q.toList == b.q.toList && allTwo (fun (z : {y // y ∈ a.x}) y => sameX z.1 y) a.x.attach b.x
termination_by SizeOf.sizeOf a
decreasing_by exact part_lt _ z.2
def sameXL (a b : List Ex) : Bool := allTwo sameX a b
def sameS (a b : St) : Bool := a.op == b.op && a.s.toList == b.s.toList && sameX a.e b.e && allTwo (fun (z : {y // y ∈ a.b}) y => sameS z.1 y) a.b.attach b.b && allTwo (fun (z : {y // y ∈ a.b2}) y => sameS z.1 y) a.b2.attach b.b2
termination_by SizeOf.sizeOf a
decreasing_by
  · exact partS_lt _ (.inl z.2)
  · exact partS_lt _ (.inr z.2)
def sameB (a b : List St) : Bool := allTwo sameS a b
theorem sameX_eq (a b : Ex) : sameX a b = (a.op == b.op && a.n == b.n && a.s.toList == b.s.toList && a.q.toList == b.q.toList && sameXL a.x b.x) := by
  rw [sameX]; congr 1; exact allTwo_attach sameX a.x _ _ b.x
theorem sameS_eq (a b : St) : sameS a b = (a.op == b.op && a.s.toList == b.s.toList && sameX a.e b.e && sameB a.b b.b && sameB a.b2 b.b2) := by
  rw [sameS]; congr 1
  · congr 1; exact allTwo_attach sameS a.b _ _ b.b
  · exact allTwo_attach sameS a.b2 _ _ b.b2
theorem sameXL_all (a b : List Ex) : sameXL a b = allTwo sameX a b := rfl
theorem sameB_all (a b : List St) : sameB a b = allTwo sameS a b := rfl
theorem allTwo_len {α : Type} {p : α → α → Bool} : ∀ {a b : List α}, a.length ≠ b.length → allTwo p a b = false
  | [], [], h => absurd rfl h
  | [], _ :: _, _ => rfl
  | _ :: _, [], _ => rfl
  | a :: r, b :: t, h => by
    have := allTwo_len (p := p) (a := r) (b := t) (by simpa using h)
    simp [allTwo, this]
theorem allTwo_no {α : Type} {p : α → α → Bool} : ∀ {a b : List α} (k : Nat) (x y : α), a[k]? = some x → b[k]? = some y → p x y = false → allTwo p a b = false
  | [], [], k, x, y, h, _, _ => by simp at h
  | [], _ :: _, _, _, _, _, _, _ => rfl
  | _ :: _, [], _, _, _, _, _, _ => rfl
  | a :: r, b :: t, 0, x, y, h, h2, hp => by
    obtain rfl : a = x := by simpa using h
    obtain rfl : b = y := by simpa using h2
    simp [allTwo, hp]
  | a :: r, b :: t, k + 1, x, y, h, h2, hp => by
    have := allTwo_no (p := p) (a := r) (b := t) k x y (by simpa using h) (by simpa using h2) hp
    simp [allTwo, this]
theorem allTwo_yes {α : Type} {p : α → α → Bool} : ∀ {a b : List α}, a.length = b.length → (∀ (k : Nat) (x y : α), a[k]? = some x → b[k]? = some y → p x y = true) → allTwo p a b = true
  | [], [], _, _ => rfl
  | [], _ :: _, h, _ => by simp at h
  | _ :: _, [], h, _ => by simp at h
  | a :: r, b :: t, h, hp => by
    have h0 := hp 0 a b rfl rfl
    have := allTwo_yes (p := p) (a := r) (b := t) (by simpa using h) (fun k x y h1 h2 => hp (k + 1) x y (by simpa using h1) (by simpa using h2))
    simp [allTwo, h0, this]
def sameT (a b : ByteArray) : Bool := a.toList == b.toList
def samePar (a b : Par) : Bool := a.s.toList == b.s.toList && a.t == b.t
def sameF (a b : Fn) : Bool := a.s.toList == b.s.toList && allTwo samePar a.p b.p && a.r == b.r && sameB a.b b.b
def sameFl (a b : Fl) : Bool := a.s.toList == b.s.toList && allTwo sameT a.i b.i && allTwo sameF a.f b.f
/-- The zero expression. -/
def zeroX (e : Ex) : Bool := e.op == 0 && e.n == 0 && e.s.toList == [] && e.q.toList == [] && e.x.length == 0
def nilX : Ex := .mk 0 0 ⟨#[]⟩ ⟨#[]⟩ none 0 []
/-- All nodes of a statement: itself (as the zero expression), its expression, if it has one. -/
def nodesS (has : St → Bool) (s : St) : List Ex := nilX :: (if has s then flat s.e else [])
def nodesF (has : St → Bool) (f : Fn) : List Ex := nilX :: (flatB f.b).flatMap (nodesS has)
def nodes (has : St → Bool) (l : List Fn) : List Ex := l.flatMap (nodesF has)
def givenB (s : St) : Bool := !zeroX s.e
def countsB (s : St) : Bool := if s.op == 5 then givenB s else if s.op == 8 then false else if s.op == 9 then false else true
end Go.Proofs.Ytbhgbgaeaejnhaa.Tre
/- Trees in memory: what a tree is as a value, which cells lie behind it; all of it lies on where only new blocks came. No condition. -/
namespace Go.Proofs.Ytbhgbgaeaejnhaa.Tre
open Go.RowKit
set_option maxRecDepth 100000
/-- What a call leaves: an answer, the world as it was. -/
def EndsW (v : Value) (w : World) (e : Ending) (w' : World) : Prop := e = .returned v ∧ w' = w
/-- What a call leaves: an answer, and new blocks. -/
def EndsB (v : Value) (w : World) (e : Ending) (w' : World) : Prop := e = .returned v ∧ Below w.heap.size w w'
theorem EndsB.of {v u : Value} {w w' : World} (h : u = v) (hb : Below w.heap.size w w') : EndsB v w (.returned u) w' := ⟨by rw [h], hb⟩
theorem ends_bool {a b : Bool} {w w' : World} (h : a = b) (hb : Below w.heap.size w w') : EndsB (.bool b) w (.returned (.bool a)) w' := ⟨by rw [h], hb⟩
theorem lt_of_heap {w : World} {g : Nat} {o : Obj} (h : w.heap[g]? = some o) : g < w.heap.size := (Array.getElem?_eq_some_iff.1 h).1
theorem cell_at {w : World} {g : Nat} {cs : Array Value} {T : TypeId} (h : w.heap[g]? = some (.cells cs T (0, 0))) (i : Nat) : w.cell? ⟨g, i, none⟩ = cs[i]? := by simp [World.cell?, h]
theorem new_at (w : World) (cs : Array Value) (T : TypeId) : (w.alloc (.cells cs T)).heap[w.heap.size]? = some (.cells cs T (0, 0)) := World.alloc_heap_new w _
/-- A tree as cells; as a value. -/
def exC : Ex → List Value | .mk o n s q a c x => [.int .i64 o, .int .i64 n, .string s, .string q, .slice a x.length c]
def exV : Ex → Value | .mk o n s q a c x => .agg #[.int .i64 o, .int .i64 n, .string s, .string q, .slice a x.length c]
def stC : St → List Value | .mk o s (.mk eo en es eq ea ec ex) a c b a2 c2 b2 => [.int .i64 o, .string s, .int .i64 eo, .int .i64 en, .string es, .string eq, .slice ea ex.length ec, .slice a b.length c, .slice a2 b2.length c2]
def stV : St → Value | .mk o s (.mk eo en es eq ea ec ex) a c b a2 c2 b2 => .agg #[.int .i64 o, .string s, .int .i64 eo, .int .i64 en, .string es, .string eq, .slice ea ex.length ec, .slice a b.length c, .slice a2 b2.length c2]
def parC (p : Par) : List Value := [.string p.s, .int .u8 p.t]
def parV (p : Par) : Value := .agg #[.string p.s, .int .u8 p.t]
def fnC (f : Fn) : List Value := [.string f.s, .slice f.pa f.p.length f.pc, .int .u8 f.r, .slice f.ba f.b.length f.bc]
def fnV (f : Fn) : Value := .agg #[.string f.s, .slice f.pa f.p.length f.pc, .int .u8 f.r, .slice f.ba f.b.length f.bc]
def flV (f : Fl) : Value := .agg #[.string f.s, .slice f.ia f.i.length f.ic, .slice f.fa f.f.length f.fc]
def txC (s : ByteArray) : List Value := [.string s]
/-- A row of elements of k cells each. -/
def Row {α : Type} (k : Nat) (C : α → List Value) (w : World) (A : Option Addr) (l : List α) : Prop :=
  0 < l.length → ∃ b o, A = some ⟨b, o, none⟩ ∧ b < w.heap.size ∧ ∀ (j : Nat) (x : α), l[j]? = some x → ∀ (r : Nat) (u : Value), (C x)[r]? = some u → w.cell? ⟨b, o + j * k + r, none⟩ = some u
theorem Row.below {α : Type} {k : Nat} {C : α → List Value} {w w' : World} {A : Option Addr} {l : List α} (h : Row k C w A l) (hb : Below w.heap.size w w') : Row k C w' A l := fun h0 => by
  obtain ⟨b, o, e, hlt, hc⟩ := h h0
  exact ⟨b, o, e, Nat.lt_of_lt_of_le hlt hb.size, fun j x hx r u hu => (World.cell?_of_block (w := w) (hb.block b hlt)).trans (hc j x hx r u hu)⟩
theorem Row.nil {α : Type} (k : Nat) (C : α → List Value) (w : World) (A : Option Addr) : Row k C w A [] := fun h => by simp at h
/-- How long a row may be. -/
def most : Nat := 9223372036854775807
structure NdX (w : World) (e : Ex) : Prop where
  row : Row 5 exC w e.a e.x
  len : e.x.length ≤ most
  cap : e.x.length ≤ e.c
  s : e.s.size ≤ maxLen
  q : e.q.size ≤ maxLen
def ExIn (w : World) (e : Ex) : Prop := ∀ y ∈ flat e, NdX w y
structure NdS (w : World) (s : St) : Prop where
  e : ExIn w s.e
  row : Row 9 stC w s.a s.b
  row2 : Row 9 stC w s.a2 s.b2
  len : s.b.length ≤ most
  len2 : s.b2.length ≤ most
  s : s.s.size ≤ maxLen
def StIn (w : World) (s : St) : Prop := ∀ y ∈ flatS s, NdS w y
structure FnIn (w : World) (f : Fn) : Prop where
  p : Row 2 parC w f.pa f.p
  b : Row 9 stC w f.ba f.b
  sts : ∀ s ∈ f.b, StIn w s
  plen : f.p.length ≤ most
  blen : f.b.length ≤ most
  s : f.s.size ≤ maxLen
  ps : ∀ p ∈ f.p, p.s.size ≤ maxLen
structure FlIn (w : World) (f : Fl) : Prop where
  irow : Row 1 txC w f.ia f.i
  frow : Row 4 fnC w f.fa f.f
  fns : ∀ g ∈ f.f, FnIn w g
  ilen : f.i.length ≤ most
  flen : f.f.length ≤ most
  s : f.s.size ≤ maxLen
  is : ∀ s ∈ f.i, s.size ≤ maxLen
section
variable {w w' : World}
theorem NdX.below {e : Ex} (h : NdX w e) (hb : Below w.heap.size w w') : NdX w' e := ⟨h.row.below hb, h.len, h.cap, h.s, h.q⟩
theorem ExIn.below {e : Ex} (h : ExIn w e) (hb : Below w.heap.size w w') : ExIn w' e := fun y hy => (h y hy).below hb
theorem ExIn.nd {e : Ex} (h : ExIn w e) : NdX w e := h e (mem_flat e)
theorem ExIn.part {e x : Ex} (h : ExIn w e) (hx : x ∈ e.x) : ExIn w x := fun y hy => h y (flat_sub hx hy)
theorem ExIn.mk {e : Ex} (h : NdX w e) (hx : ∀ x ∈ e.x, ExIn w x) : ExIn w e := fun y hy => by
  rw [flat_eq] at hy
  rcases List.mem_cons.1 hy with rfl | hy
  · exact h
  · obtain ⟨x, hx1, hx2⟩ := List.mem_flatMap.1 hy
    exact hx x hx1 y hx2
theorem NdS.below {s : St} (h : NdS w s) (hb : Below w.heap.size w w') : NdS w' s := by
  exact ⟨h.e.below hb, h.row.below hb, h.row2.below hb, h.len, h.len2, h.s⟩
theorem StIn.below {s : St} (h : StIn w s) (hb : Below w.heap.size w w') : StIn w' s := fun y hy => (h y hy).below hb
theorem StIn.nd {s : St} (h : StIn w s) : NdS w s := h s (mem_flatS s)
theorem StIn.part {s x : St} (h : StIn w s) (hx : x ∈ s.b ∨ x ∈ s.b2) : StIn w x := fun y hy => h y (flatS_sub hx hy)
theorem StIn.mk {s : St} (h : NdS w s) (hx : ∀ x, x ∈ s.b ∨ x ∈ s.b2 → StIn w x) : StIn w s := fun y hy => by
  rw [flatS_eq] at hy
  rcases List.mem_cons.1 hy with rfl | hy
  · exact h
  · rcases List.mem_append.1 hy with hy | hy <;> obtain ⟨x, hx1, hx2⟩ := List.mem_flatMap.1 hy
    · exact hx x (.inl hx1) y hx2
    · exact hx x (.inr hx1) y hx2
theorem FnIn.below {f : Fn} (h : FnIn w f) (hb : Below w.heap.size w w') : FnIn w' f := ⟨h.p.below hb, h.b.below hb, fun s hs => (h.sts s hs).below hb, h.plen, h.blen, h.s, h.ps⟩
theorem FlIn.below {f : Fl} (h : FlIn w f) (hb : Below w.heap.size w w') : FlIn w' f := ⟨h.irow.below hb, h.frow.below hb, fun s hs => (h.fns s hs).below hb, h.ilen, h.flen, h.s, h.is⟩
end
end Go.Proofs.Ytbhgbgaeaejnhaa.Tre
/- Are two expressions the same (the package's own): what sameExpr and the library's EqualFunc over it answer. Conditions: both trees lie in memory. -/
namespace Go.Proofs.Ytbhgbgaeaejnhaa.Tre
open Go.RowKit
set_option maxRecDepth 100000
theorem bytes_eq {s t : ByteArray} (h : s.toList = t.toList) : s = t := by
  rw [ByteArray.toList_eq, ByteArray.toList_eq] at h
  cases s; cases t
  congr 1
  exact Array.toList_inj.1 h
theorem ball_new (w : World) (cs : Array Value) (T : TypeId) : Below w.heap.size w (w.alloc (.cells cs T)) := (Below.refl _ w).alloc (Nat.le_refl _) _
theorem two_new (w : World) (cs ds : Array Value) (T : TypeId) : Below w.heap.size w ((w.alloc (.cells cs T)).alloc (.cells ds T)) := (ball_new w cs T).trans ((ball_new _ ds T).mono (by simp))
end Go.Proofs.Ytbhgbgaeaejnhaa.Tre
/- The library's EqualFunc over lists of expressions, with the package's own sameExpr; so sameExpr of any two expressions. Conditions: both trees lie in memory. -/
namespace Go.Proofs.Ytbhgbgaeaejnhaa.Tre
open Go.RowKit
set_option maxRecDepth 100000
theorem Row.at_ {α : Type} {k : Nat} {C : α → List Value} {w w' : World} {A : Option Addr} {l : List α} (h : Row k C w A l) (hb : Below w.heap.size w w') {j : Nat} {x : α} (hx : l[j]? = some x) :
    ∃ b o, A = some ⟨b, o, none⟩ ∧ ∀ (r : Nat) (u : Value), (C x)[r]? = some u → w'.cell? ⟨b, o + j * k + r, none⟩ = some u := by
  obtain ⟨b, o, e, _, hc⟩ := h.below hb (by have := (List.getElem?_eq_some_iff.1 hx).1; omega)
  exact ⟨b, o, e, fun r u hu => hc j x hx r u hu⟩
theorem exC_at {e : Ex} {w : World} {b o : Nat} (h : ∀ (r : Nat) (u : Value), (exC e)[r]? = some u → w.cell? ⟨b, o + r, none⟩ = some u) :
    w.cell? ⟨b, o, none⟩ = some (.int .i64 e.op) ∧ w.cell? ⟨b, o + 1, none⟩ = some (.int .i64 e.n) ∧ w.cell? ⟨b, o + 2, none⟩ = some (.string e.s) ∧ w.cell? ⟨b, o + 3, none⟩ = some (.string e.q) ∧ w.cell? ⟨b, o + 4, none⟩ = some (.slice e.a e.x.length e.c) := by
  cases e
  exact ⟨h 0 _ rfl, h 1 _ rfl, h 2 _ rfl, h 3 _ rfl, h 4 _ rfl⟩
theorem exV_eq (e : Ex) : exV e = .agg #[.int .i64 e.op, .int .i64 e.n, .string e.s, .string e.q, .slice e.a e.x.length e.c] := by cases e; rfl
theorem two_more {α : Type} {p : α → α → Bool} {x y : List α} {k : Nat} (h : ∀ (j : Nat) (a b : α), j < k → x[j]? = some a → y[j]? = some b → p a b = true) {a b : α} (ha : x[k]? = some a) (hb : y[k]? = some b) (hp : p a b = true) : ∀ (j : Nat) (a b : α), j < k + 1 → x[j]? = some a → y[j]? = some b → p a b = true := fun j a' b' hj h1 h2 => by
  by_cases e : j = k
  · subst e
    obtain rfl : a = a' := Option.some.inj (ha.symm.trans h1)
    obtain rfl : b = b' := Option.some.inj (hb.symm.trans h2)
    exact hp
  · exact h j a' b' (by omega) h1 h2
theorem all_two {α : Type} {p : α → α → Bool} {x y : List α} {n : Nat} (hl : x.length = y.length) (hn : x.length = n) (h : ∀ (j : Nat) (a b : α), j < n → x[j]? = some a → y[j]? = some b → p a b = true) : allTwo p x y = true :=
  allTwo_yes hl fun k a b h1 h2 => h k a b (by have := (List.getElem?_eq_some_iff.1 h1).1; omega) h1 h2
end Go.Proofs.Ytbhgbgaeaejnhaa.Tre
/- The library's EqualFunc over lists of statements, and over lists of functions, with the package's own sameStmt, sameFunc. Conditions: the trees lie in memory. -/
namespace Go.Proofs.Ytbhgbgaeaejnhaa.Tre
open Go.RowKit
set_option maxRecDepth 100000
theorem stC_at {e : St} {w : World} {b o : Nat} (h : ∀ (r : Nat) (u : Value), (stC e)[r]? = some u → w.cell? ⟨b, o + r, none⟩ = some u) :
    w.cell? ⟨b, o, none⟩ = some (.int .i64 e.op) ∧ w.cell? ⟨b, o + 1, none⟩ = some (.string e.s) ∧ w.cell? ⟨b, o + 2, none⟩ = some (.int .i64 e.e.op) ∧ w.cell? ⟨b, o + 3, none⟩ = some (.int .i64 e.e.n) ∧ w.cell? ⟨b, o + 4, none⟩ = some (.string e.e.s) ∧ w.cell? ⟨b, o + 5, none⟩ = some (.string e.e.q) ∧ w.cell? ⟨b, o + 6, none⟩ = some (.slice e.e.a e.e.x.length e.e.c) ∧ w.cell? ⟨b, o + 7, none⟩ = some (.slice e.a e.b.length e.c) ∧ w.cell? ⟨b, o + 8, none⟩ = some (.slice e.a2 e.b2.length e.c2) := by
  obtain ⟨o, s, ⟨eo, en, es, eq, ea, ec, ex⟩, a, c, b, a2, c2, b2⟩ := e
  exact ⟨h 0 _ rfl, h 1 _ rfl, h 2 _ rfl, h 3 _ rfl, h 4 _ rfl, h 5 _ rfl, h 6 _ rfl, h 7 _ rfl, h 8 _ rfl⟩
theorem fnC_at {e : Fn} {w : World} {b o : Nat} (h : ∀ (r : Nat) (u : Value), (fnC e)[r]? = some u → w.cell? ⟨b, o + r, none⟩ = some u) :
    w.cell? ⟨b, o, none⟩ = some (.string e.s) ∧ w.cell? ⟨b, o + 1, none⟩ = some (.slice e.pa e.p.length e.pc) ∧ w.cell? ⟨b, o + 2, none⟩ = some (.int .u8 e.r) ∧ w.cell? ⟨b, o + 3, none⟩ = some (.slice e.ba e.b.length e.bc) := by
  cases e
  exact ⟨h 0 _ rfl, h 1 _ rfl, h 2 _ rfl, h 3 _ rfl⟩
theorem stV_eq (e : St) : stV e = .agg #[.int .i64 e.op, .string e.s, .int .i64 e.e.op, .int .i64 e.e.n, .string e.e.s, .string e.e.q, .slice e.e.a e.e.x.length e.e.c, .slice e.a e.b.length e.c, .slice e.a2 e.b2.length e.c2] := by
  obtain ⟨o, s, ⟨eo, en, es, eq, ea, ec, ex⟩, a, c, b, a2, c2, b2⟩ := e
  rfl
theorem fnV_eq (e : Fn) : fnV e = .agg #[.string e.s, .slice e.pa e.p.length e.pc, .int .u8 e.r, .slice e.ba e.b.length e.bc] := rfl
end Go.Proofs.Ytbhgbgaeaejnhaa.Tre
