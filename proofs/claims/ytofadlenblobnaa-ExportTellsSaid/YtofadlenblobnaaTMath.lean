/-
  Trees as plain mathematics: expressions, statements, functions, files; what a tree is made of, one behind the other; whether two are the same. No condition.
-/
import GoSem.Claim
namespace Go.Proofs.Ytofadlenblobnaa.Tre
set_option maxRecDepth 100000
/-- An expression; a and c: where its parts lie, and how many could lie there. -/
inductive Ex where
  | mk (op n : Int) (s q : ByteArray) (a : Option Addr) (c : Nat) (x : List Ex)
/-- A statement. -/
inductive St where
  | mk (op : Int) (s : ByteArray) (e : Ex) (a : Option Addr) (c : Nat) (b : List St) (a2 : Option Addr) (c2 : Nat) (b2 : List St)
structure Par where
  s : ByteArray
  t : Int
structure Fn where
  s : ByteArray
  pa : Option Addr
  pc : Nat
  p : List Par
  r : Int
  ba : Option Addr
  bc : Nat
  b : List St
structure Fl where
  s : ByteArray
  ia : Option Addr
  ic : Nat
  i : List ByteArray
  fa : Option Addr
  fc : Nat
  f : List Fn
namespace Ex
def op : Ex → Int | mk o _ _ _ _ _ _ => o
def n : Ex → Int | mk _ n _ _ _ _ _ => n
def s : Ex → ByteArray | mk _ _ s _ _ _ _ => s
def q : Ex → ByteArray | mk _ _ _ q _ _ _ => q
def a : Ex → Option Addr | mk _ _ _ _ a _ _ => a
def c : Ex → Nat | mk _ _ _ _ _ c _ => c
def x : Ex → List Ex | mk _ _ _ _ _ _ x => x
end Ex
namespace St
def op : St → Int | mk o _ _ _ _ _ _ _ _ => o
def s : St → ByteArray | mk _ s _ _ _ _ _ _ _ => s
def e : St → Ex | mk _ _ e _ _ _ _ _ _ => e
def a : St → Option Addr | mk _ _ _ a _ _ _ _ _ => a
def c : St → Nat | mk _ _ _ _ c _ _ _ _ => c
def a2 : St → Option Addr | mk _ _ _ _ _ _ a2 _ _ => a2
def c2 : St → Nat | mk _ _ _ _ _ _ _ c2 _ => c2
def b : St → List St | mk _ _ _ _ _ b _ _ _ => b
def b2 : St → List St | mk _ _ _ _ _ _ _ _ b2 => b2
end St
theorem part_lt {e : Ex} : ∀ y ∈ e.x, SizeOf.sizeOf y < SizeOf.sizeOf e := fun y h => by
  cases e with
  | mk o n s q a c x =>
    have := List.sizeOf_lt_of_mem (show y ∈ x from h)
    simp
    omega
theorem partS_lt {e : St} : ∀ y, y ∈ e.b ∨ y ∈ e.b2 → SizeOf.sizeOf y < SizeOf.sizeOf e := fun y h => by
  cases e with
  | mk o s e a c b a2 c2 b2 =>
    rcases h with h | h
    · have := List.sizeOf_lt_of_mem (show y ∈ b from h)
      simp
      omega
    · have := List.sizeOf_lt_of_mem (show y ∈ b2 from h)
      simp
      omega
/-- An expression and all that it is made of, each ahead of its parts. -/
def flat (e : Ex) : List Ex := e :: e.x.attach.flatMap (fun ⟨y, _⟩ => flat y)
termination_by SizeOf.sizeOf e
decreasing_by exact part_lt _ (by assumption)
def flatL (l : List Ex) : List Ex := l.flatMap flat
def flatS (s : St) : List St := s :: (s.b.attach.flatMap (fun ⟨y, _⟩ => flatS y) ++ s.b2.attach.flatMap (fun ⟨y, _⟩ => flatS y))
termination_by SizeOf.sizeOf s
decreasing_by
  · exact partS_lt _ (.inl (by assumption))
  · exact partS_lt _ (.inr (by assumption))
def flatB (l : List St) : List St := l.flatMap flatS
theorem flat_eq (e : Ex) : flat e = e :: flatL e.x := by rw [flat]; congr 1; unfold flatL; exact List.flatMap_subtype (fun _ _ => rfl)|>.trans (by simp)
theorem flatS_eq (s : St) : flatS s = s :: (flatB s.b ++ flatB s.b2) := by
  rw [flatS]; congr 1; unfold flatB; congr 1
  · exact List.flatMap_subtype (fun _ _ => rfl)|>.trans (by simp)
  · exact List.flatMap_subtype (fun _ _ => rfl)|>.trans (by simp)
theorem flatL_app (l m : List Ex) : flatL (l ++ m) = flatL l ++ flatL m := by simp [flatL]
theorem flatB_app (l m : List St) : flatB (l ++ m) = flatB l ++ flatB m := by simp [flatB]
theorem flatL_cons (e : Ex) (l : List Ex) : flatL (e :: l) = flat e ++ flatL l := by simp [flatL]
theorem flatB_cons (e : St) (l : List St) : flatB (e :: l) = flatS e ++ flatB l := by simp [flatB]
theorem mem_flat (e : Ex) : e ∈ flat e := by rw [flat_eq]; simp
theorem mem_flatS (e : St) : e ∈ flatS e := by rw [flatS_eq]; simp
theorem flatL_of_mem {l : List Ex} {e y : Ex} (he : e ∈ l) (hy : y ∈ flat e) : y ∈ flatL l := List.mem_flatMap.2 ⟨e, he, hy⟩
theorem flatB_of_mem {l : List St} {e y : St} (he : e ∈ l) (hy : y ∈ flatS e) : y ∈ flatB l := List.mem_flatMap.2 ⟨e, he, hy⟩
theorem flat_sub {e x y : Ex} (hx : x ∈ e.x) (hy : y ∈ flat x) : y ∈ flat e := by rw [flat_eq]; exact List.mem_cons_of_mem _ (flatL_of_mem hx hy)
theorem flatS_sub {e x y : St} (hx : x ∈ e.b ∨ x ∈ e.b2) (hy : y ∈ flatS x) : y ∈ flatS e := by
  rw [flatS_eq]
  refine List.mem_cons_of_mem _ (List.mem_append.2 ?_)
  rcases hx with hx | hx
  · exact .inl (flatB_of_mem hx hy)
  · exact .inr (flatB_of_mem hx hy)
/-- How many expressions. -/
def size (e : Ex) : Nat := (flat e).length
def sizeL (l : List Ex) : Nat := (flatL l).length
def sizeS (s : St) : Nat := (flatS s).length
def sizeB (l : List St) : Nat := (flatB l).length
theorem size_eq (e : Ex) : size e = 1 + sizeL e.x := by unfold size sizeL; rw [flat_eq]; simp; omega
theorem sizeS_eq (s : St) : sizeS s = 1 + (sizeB s.b + sizeB s.b2) := by unfold sizeS sizeB; rw [flatS_eq]; simp; omega
theorem sizeL_cons (e : Ex) (l : List Ex) : sizeL (e :: l) = size e + sizeL l := by simp [sizeL, size, flatL_cons]
theorem sizeB_cons (e : St) (l : List St) : sizeB (e :: l) = sizeS e + sizeB l := by simp [sizeB, sizeS, flatB_cons]
theorem size_mem {l : List Ex} {e : Ex} (h : e ∈ l) : size e ≤ sizeL l := by
  induction l with
  | nil => cases h
  | cons x l ih =>
    rw [sizeL_cons]
    rcases List.mem_cons.1 h with rfl | h
    · omega
    · have := ih h; omega
theorem sizeS_mem {l : List St} {e : St} (h : e ∈ l) : sizeS e ≤ sizeB l := by
  induction l with
  | nil => cases h
  | cons x l ih =>
    rw [sizeB_cons]
    rcases List.mem_cons.1 h with rfl | h
    · omega
    · have := ih h; omega
theorem size_part {e x : Ex} (h : x ∈ e.x) : size x < size e := by have := size_mem h; rw [size_eq e]; omega
theorem sizeS_part {s x : St} (h : x ∈ s.b ∨ x ∈ s.b2) : sizeS x < sizeS s := by
  rw [sizeS_eq s]
  rcases h with h | h <;> · have := sizeS_mem h; omega
/-- Two lists, element by element. -/
def allTwo {α : Type} {β : Type} (p : α → β → Bool) : List α → List β → Bool
  | [], [] => true
  | a :: r, b :: t => p a b && allTwo p r t
  | _, _ => false
theorem allTwo_attach {α : Type} (p : α → α → Bool) : ∀ (l : List α) (P : α → Prop) (H : ∀ a ∈ l, P a) (m : List α), allTwo (fun (z : {a // P a}) y => p z.1 y) (l.attachWith P H) m = allTwo p l m
  | [], _, _, [] => rfl
  | [], _, _, _ :: _ => rfl
  | _ :: _, _, _, [] => rfl
  | a :: r, P, H, b :: t => by
    have := allTwo_attach p r P (fun a h => H a (List.mem_cons_of_mem _ h)) t
    simp [List.attachWith, allTwo] at this ⊢
    rw [this]
/-- Are two the same? Where they lie is nothing to them. -/
def sameX (a b : Ex) : Bool := a.op == b.op && a.n == b.n && a.s.toList == b.s.toList && a.q.toList == b.q.toList && allTwo (fun (z : {y // y ∈ a.x}) y => sameX z.1 y) a.x.attach b.x
termination_by SizeOf.sizeOf a
decreasing_by exact part_lt _ z.2
def sameXL (a b : List Ex) : Bool := allTwo sameX a b
def sameS (a b : St) : Bool := a.op == b.op && a.s.toList == b.s.toList && sameX a.e b.e && allTwo (fun (z : {y // y ∈ a.b}) y => sameS z.1 y) a.b.attach b.b && allTwo (fun (z : {y // y ∈ a.b2}) y => sameS z.1 y) a.b2.attach b.b2
termination_by SizeOf.sizeOf a
decreasing_by
  · exact partS_lt _ (.inl z.2)
  · exact partS_lt _ (.inr z.2)
def sameB (a b : List St) : Bool := allTwo sameS a b
theorem sameX_eq (a b : Ex) : sameX a b = (a.op == b.op && a.n == b.n && a.s.toList == b.s.toList && a.q.toList == b.q.toList && sameXL a.x b.x) := by
  rw [sameX]; congr 1; exact allTwo_attach sameX a.x _ _ b.x
theorem sameS_eq (a b : St) : sameS a b = (a.op == b.op && a.s.toList == b.s.toList && sameX a.e b.e && sameB a.b b.b && sameB a.b2 b.b2) := by
  rw [sameS]; congr 1
  · congr 1; exact allTwo_attach sameS a.b _ _ b.b
  · exact allTwo_attach sameS a.b2 _ _ b.b2
theorem sameXL_all (a b : List Ex) : sameXL a b = allTwo sameX a b := rfl
theorem sameB_all (a b : List St) : sameB a b = allTwo sameS a b := rfl
theorem allTwo_len {α : Type} {p : α → α → Bool} : ∀ {a b : List α}, a.length ≠ b.length → allTwo p a b = false
  | [], [], h => absurd rfl h
  | [], _ :: _, _ => rfl
  | _ :: _, [], _ => rfl
  | a :: r, b :: t, h => by
    have := allTwo_len (p := p) (a := r) (b := t) (by simpa using h)
    simp [allTwo, this]
theorem allTwo_no {α : Type} {p : α → α → Bool} : ∀ {a b : List α} (k : Nat) (x y : α), a[k]? = some x → b[k]? = some y → p x y = false → allTwo p a b = false
  | [], [], k, x, y, h, _, _ => by simp at h
  | [], _ :: _, _, _, _, _, _, _ => rfl
  | _ :: _, [], _, _, _, _, _, _ => rfl
  | a :: r, b :: t, 0, x, y, h, h2, hp => by
    obtain rfl : a = x := by simpa using h
    obtain rfl : b = y := by simpa using h2
    simp [allTwo, hp]
  | a :: r, b :: t, k + 1, x, y, h, h2, hp => by
    have := allTwo_no (p := p) (a := r) (b := t) k x y (by simpa using h) (by simpa using h2) hp
    simp [allTwo, this]
theorem allTwo_yes {α : Type} {p : α → α → Bool} : ∀ {a b : List α}, a.length = b.length → (∀ (k : Nat) (x y : α), a[k]? = some x → b[k]? = some y → p x y = true) → allTwo p a b = true
  | [], [], _, _ => rfl
  | [], _ :: _, h, _ => by simp at h
  | _ :: _, [], h, _ => by simp at h
  | a :: r, b :: t, h, hp => by
    have h0 := hp 0 a b rfl rfl
    have := allTwo_yes (p := p) (a := r) (b := t) (by simpa using h) (fun k x y h1 h2 => hp (k + 1) x y (by simpa using h1) (by simpa using h2))
    simp [allTwo, h0, this]
def sameT (a b : ByteArray) : Bool := a.toList == b.toList
def samePar (a b : Par) : Bool := a.s.toList == b.s.toList && a.t == b.t
def sameF (a b : Fn) : Bool := a.s.toList == b.s.toList && allTwo samePar a.p b.p && a.r == b.r && sameB a.b b.b
def sameFl (a b : Fl) : Bool := a.s.toList == b.s.toList && allTwo sameT a.i b.i && allTwo sameF a.f b.f
/-- The zero expression. -/
def zeroX (e : Ex) : Bool := e.op == 0 && e.n == 0 && e.s.toList == [] && e.q.toList == [] && e.x.length == 0
def nilX : Ex := .mk 0 0 ⟨#[]⟩ ⟨#[]⟩ none 0 []
/-- All nodes of a statement: itself (as the zero expression), its expression, if it has one. -/
def nodesS (has : St → Bool) (s : St) : List Ex := nilX :: (if has s then flat s.e else [])
def nodesF (has : St → Bool) (f : Fn) : List Ex := nilX :: (flatB f.b).flatMap (nodesS has)
def nodes (has : St → Bool) (l : List Fn) : List Ex := l.flatMap (nodesF has)
def givenB (s : St) : Bool := !zeroX s.e
def countsB (s : St) : Bool := if s.op == 5 then givenB s else if s.op == 8 then false else if s.op == 9 then false else true
end Go.Proofs.Ytofadlenblobnaa.Tre
