/-
  Trees as plain mathematics: expressions, statements, functions, files; what a tree is made of, one behind the other; whether two are the same. No condition.
-/
import Derived.Test.YtlhbhpdpjidpgaaGreatDoorX01
import GoSem.Claim
namespace Go.Proofs.YtlhbhpdpjidpgaaGreatDoor.Tre
set_option maxRecDepth 100000
/-- An expression; a and c: where its parts lie, and how many could lie there. -/
inductive Ex where
  | mk (op n : Int) (s q : ByteArray) (a : Option Addr) (c : Nat) (x : List Ex)
/-- A statement. -/
inductive St where
  | mk (op : Int) (s : ByteArray) (e : Ex) (a : Option Addr) (c : Nat) (b : List St) (a2 : Option Addr) (c2 : Nat) (b2 : List St)
structure Par where
  s : ByteArray
  t : Int
structure Fn where
  s : ByteArray
  pa : Option Addr
  pc : Nat
  p : List Par
  r : Int
  ba : Option Addr
  bc : Nat
  b : List St
structure Fl where
  s : ByteArray
  ia : Option Addr
  ic : Nat
  i : List ByteArray
  fa : Option Addr
  fc : Nat
  f : List Fn
namespace Ex
def op : Ex → Int | mk o _ _ _ _ _ _ => o
def n : Ex → Int | mk _ n _ _ _ _ _ => n
def s : Ex → ByteArray | mk _ _ s _ _ _ _ => s
def q : Ex → ByteArray | mk _ _ _ q _ _ _ => q
def a : Ex → Option Addr | mk _ _ _ _ a _ _ => a
def c : Ex → Nat | mk _ _ _ _ _ c _ => c
def x : Ex → List Ex | mk _ _ _ _ _ _ x => x
end Ex
namespace St
def op : St → Int | mk o _ _ _ _ _ _ _ _ => o
def s : St → ByteArray | mk _ s _ _ _ _ _ _ _ => s
def e : St → Ex | mk _ _ e _ _ _ _ _ _ => e
def a : St → Option Addr | mk _ _ _ a _ _ _ _ _ => a
def c : St → Nat | mk _ _ _ _ c _ _ _ _ => c
def a2 : St → Option Addr | mk _ _ _ _ _ _ a2 _ _ => a2
def c2 : St → Nat | mk _ _ _ _ _ _ _ c2 _ => c2
def b : St → List St | mk _ _ _ _ _ b _ _ _ => b
def b2 : St → List St | mk _ _ _ _ _ _ _ _ b2 => b2
end St
theorem part_lt {e : Ex} : ∀ y ∈ e.x, SizeOf.sizeOf y < SizeOf.sizeOf e := fun y h => by
  cases e with
  | mk o n s q a c x =>
    have := List.sizeOf_lt_of_mem (show y ∈ x from h)
    simp
    omega
theorem partS_lt {e : St} : ∀ y, y ∈ e.b ∨ y ∈ e.b2 → SizeOf.sizeOf y < SizeOf.sizeOf e := fun y h => by
  cases e with
  | mk o s e a c b a2 c2 b2 =>
    rcases h with h | h
    · have := List.sizeOf_lt_of_mem (show y ∈ b from h)
      simp
      omega
    · have := List.sizeOf_lt_of_mem (show y ∈ b2 from h)
      simp
      omega
/-- An expression and all that it is made of, each ahead of its parts. -/
def flat (e : Ex) : List Ex := e :: e.x.attach.flatMap (fun ⟨y, _⟩ => flat y)
termination_by SizeOf.sizeOf e
decreasing_by exact part_lt _ (by assumption)
def flatL (l : List Ex) : List Ex := l.flatMap flat
def flatS (s : St) : List St := s :: (s.b.attach.flatMap (fun ⟨y, _⟩ => flatS y) ++ s.b2.attach.flatMap (fun ⟨y, _⟩ => flatS y))
termination_by SizeOf.sizeOf s
decreasing_by
  · exact partS_lt _ (.inl (by assumption))
  · exact partS_lt _ (.inr (by assumption))
def flatB (l : List St) : List St := l.flatMap flatS
theorem flat_eq (e : Ex) : flat e = e :: flatL e.x := by rw [flat]; congr 1; unfold flatL; exact List.flatMap_subtype (fun _ _ => rfl)|>.trans (by simp)
theorem flatS_eq (s : St) : flatS s = s :: (flatB s.b ++ flatB s.b2) := by
  rw [flatS]; congr 1; unfold flatB; congr 1
  · exact List.flatMap_subtype (fun _ _ => rfl)|>.trans (by simp)
  · exact List.flatMap_subtype (fun _ _ => rfl)|>.trans (by simp)
theorem flatL_app (l m : List Ex) : flatL (l ++ m) = flatL l ++ flatL m := by simp [flatL]
theorem flatB_app (l m : List St) : flatB (l ++ m) = flatB l ++ flatB m := by simp [flatB]
theorem flatL_cons (e : Ex) (l : List Ex) : flatL (e :: l) = flat e ++ flatL l := by simp [flatL]
theorem flatB_cons (e : St) (l : List St) : flatB (e :: l) = flatS e ++ flatB l := by simp [flatB]
theorem mem_flat (e : Ex) : e ∈ flat e := by rw [flat_eq]; simp
theorem mem_flatS (e : St) : e ∈ flatS e := by rw [flatS_eq]; simp
theorem flatL_of_mem {l : List Ex} {e y : Ex} (he : e ∈ l) (hy : y ∈ flat e) : y ∈ flatL l := List.mem_flatMap.2 ⟨e, he, hy⟩
theorem flatB_of_mem {l : List St} {e y : St} (he : e ∈ l) (hy : y ∈ flatS e) : y ∈ flatB l := List.mem_flatMap.2 ⟨e, he, hy⟩
theorem flat_sub {e x y : Ex} (hx : x ∈ e.x) (hy : y ∈ flat x) : y ∈ flat e := by rw [flat_eq]; exact List.mem_cons_of_mem _ (flatL_of_mem hx hy)
theorem flatS_sub {e x y : St} (hx : x ∈ e.b ∨ x ∈ e.b2) (hy : y ∈ flatS x) : y ∈ flatS e := by
  rw [flatS_eq]
  refine List.mem_cons_of_mem _ (List.mem_append.2 ?_)
  rcases hx with hx | hx
  · exact .inl (flatB_of_mem hx hy)
  · exact .inr (flatB_of_mem hx hy)
/-- How many expressions. -/
def size (e : Ex) : Nat := (flat e).length
def sizeL (l : List Ex) : Nat := (flatL l).length
def sizeS (s : St) : Nat := (flatS s).length
def sizeB (l : List St) : Nat := (flatB l).length
theorem size_eq (e : Ex) : size e = 1 + sizeL e.x := by unfold size sizeL; rw [flat_eq]; simp; omega
theorem sizeS_eq (s : St) : sizeS s = 1 + (sizeB s.b + sizeB s.b2) := by unfold sizeS sizeB; rw [flatS_eq]; simp; omega
theorem sizeL_cons (e : Ex) (l : List Ex) : sizeL (e :: l) = size e + sizeL l := by simp [sizeL, size, flatL_cons]
theorem sizeB_cons (e : St) (l : List St) : sizeB (e :: l) = sizeS e + sizeB l := by simp [sizeB, sizeS, flatB_cons]
theorem size_mem {l : List Ex} {e : Ex} (h : e ∈ l) : size e ≤ sizeL l := by
  induction l with
  | nil => cases h
  | cons x l ih =>
    rw [sizeL_cons]
    rcases List.mem_cons.1 h with rfl | h
    · omega
    · have := ih h; omega
theorem sizeS_mem {l : List St} {e : St} (h : e ∈ l) : sizeS e ≤ sizeB l := by
  induction l with
  | nil => cases h
  | cons x l ih =>
    rw [sizeB_cons]
    rcases List.mem_cons.1 h with rfl | h
    · omega
    · have := ih h; omega
theorem size_part {e x : Ex} (h : x ∈ e.x) : size x < size e := by have := size_mem h; rw [size_eq e]; omega
theorem sizeS_part {s x : St} (h : x ∈ s.b ∨ x ∈ s.b2) : sizeS x < sizeS s := by
  rw [sizeS_eq s]
  rcases h with h | h <;> · have := sizeS_mem h; omega
/-- Two lists, element by element. -/
def allTwo {α : Type} {β : Type} (p : α → β → Bool) : List α → List β → Bool
  | [], [] => true
  | a :: r, b :: t => p a b && allTwo p r t
  | _, _ => false
theorem allTwo_attach {α : Type} (p : α → α → Bool) : ∀ (l : List α) (P : α → Prop) (H : ∀ a ∈ l, P a) (m : List α), allTwo (fun (z : {a // P a}) y => p z.1 y) (l.attachWith P H) m = allTwo p l m
  | [], _, _, [] => rfl
  | [], _, _, _ :: _ => rfl
  | _ :: _, _, _, [] => rfl
  | a :: r, P, H, b :: t => by
    have := allTwo_attach p r P (fun a h => H a (List.mem_cons_of_mem _ h)) t
    simp [List.attachWith, allTwo] at this ⊢
    rw [this]
/-- Are two the same? Where they lie is nothing to them. -/
def sameX (a b : Ex) : Bool := a.op == b.op && a.n == b.n && a.s.toList == b.s.toList && a.q.toList == b.q.toList && allTwo (fun (z : {y // y ∈ a.x}) y => sameX z.1 y) a.x.attach b.x
termination_by SizeOf.sizeOf a
decreasing_by exact part_lt _ z.2
def sameXL (a b : List Ex) : Bool := allTwo sameX a b
def sameS (a b : St) : Bool := a.op == b.op && a.s.toList == b.s.toList && sameX a.e b.e && allTwo (fun (z : {y // y ∈ a.b}) y => sameS z.1 y) a.b.attach b.b && allTwo (fun (z : {y // y ∈ a.b2}) y => sameS z.1 y) a.b2.attach b.b2
termination_by SizeOf.sizeOf a
decreasing_by
  · exact partS_lt _ (.inl z.2)
  · exact partS_lt _ (.inr z.2)
def sameB (a b : List St) : Bool := allTwo sameS a b
theorem sameX_eq (a b : Ex) : sameX a b = (a.op == b.op && a.n == b.n && a.s.toList == b.s.toList && a.q.toList == b.q.toList && sameXL a.x b.x) := by
  rw [sameX]; congr 1; exact allTwo_attach sameX a.x _ _ b.x
theorem sameS_eq (a b : St) : sameS a b = (a.op == b.op && a.s.toList == b.s.toList && sameX a.e b.e && sameB a.b b.b && sameB a.b2 b.b2) := by
  rw [sameS]; congr 1
  · congr 1; exact allTwo_attach sameS a.b _ _ b.b
  · exact allTwo_attach sameS a.b2 _ _ b.b2
theorem sameXL_all (a b : List Ex) : sameXL a b = allTwo sameX a b := rfl
theorem sameB_all (a b : List St) : sameB a b = allTwo sameS a b := rfl
theorem allTwo_len {α : Type} {p : α → α → Bool} : ∀ {a b : List α}, a.length ≠ b.length → allTwo p a b = false
  | [], [], h => absurd rfl h
  | [], _ :: _, _ => rfl
  | _ :: _, [], _ => rfl
  | a :: r, b :: t, h => by
    have := allTwo_len (p := p) (a := r) (b := t) (by simpa using h)
    simp [allTwo, this]
theorem allTwo_no {α : Type} {p : α → α → Bool} : ∀ {a b : List α} (k : Nat) (x y : α), a[k]? = some x → b[k]? = some y → p x y = false → allTwo p a b = false
  | [], [], k, x, y, h, _, _ => by simp at h
  | [], _ :: _, _, _, _, _, _, _ => rfl
  | _ :: _, [], _, _, _, _, _, _ => rfl
  | a :: r, b :: t, 0, x, y, h, h2, hp => by
    obtain rfl : a = x := by simpa using h
    obtain rfl : b = y := by simpa using h2
    simp [allTwo, hp]
  | a :: r, b :: t, k + 1, x, y, h, h2, hp => by
    have := allTwo_no (p := p) (a := r) (b := t) k x y (by simpa using h) (by simpa using h2) hp
    simp [allTwo, this]
theorem allTwo_yes {α : Type} {p : α → α → Bool} : ∀ {a b : List α}, a.length = b.length → (∀ (k : Nat) (x y : α), a[k]? = some x → b[k]? = some y → p x y = true) → allTwo p a b = true
  | [], [], _, _ => rfl
  | [], _ :: _, h, _ => by simp at h
  | _ :: _, [], h, _ => by simp at h
  | a :: r, b :: t, h, hp => by
    have h0 := hp 0 a b rfl rfl
    have := allTwo_yes (p := p) (a := r) (b := t) (by simpa using h) (fun k x y h1 h2 => hp (k + 1) x y (by simpa using h1) (by simpa using h2))
    simp [allTwo, h0, this]
def sameT (a b : ByteArray) : Bool := a.toList == b.toList
def samePar (a b : Par) : Bool := a.s.toList == b.s.toList && a.t == b.t
def sameF (a b : Fn) : Bool := a.s.toList == b.s.toList && allTwo samePar a.p b.p && a.r == b.r && sameB a.b b.b
def sameFl (a b : Fl) : Bool := a.s.toList == b.s.toList && allTwo sameT a.i b.i && allTwo sameF a.f b.f
/-- The zero expression. -/
def zeroX (e : Ex) : Bool := e.op == 0 && e.n == 0 && e.s.toList == [] && e.q.toList == [] && e.x.length == 0
def nilX : Ex := .mk 0 0 ⟨#[]⟩ ⟨#[]⟩ none 0 []
/-- All nodes of a statement: itself (as the zero expression), its expression, if it has one. -/
def nodesS (has : St → Bool) (s : St) : List Ex := nilX :: (if has s then flat s.e else [])
def nodesF (has : St → Bool) (f : Fn) : List Ex := nilX :: (flatB f.b).flatMap (nodesS has)
def nodes (has : St → Bool) (l : List Fn) : List Ex := l.flatMap (nodesF has)
def givenB (s : St) : Bool := !zeroX s.e
def countsB (s : St) : Bool := if s.op == 5 then givenB s else if s.op == 8 then false else if s.op == 9 then false else true
end Go.Proofs.YtlhbhpdpjidpgaaGreatDoor.Tre
/- What makes a tree right, as plain mathematics. No condition. -/
namespace Go.Proofs.YtlhbhpdpjidpgaaGreatDoor.Tre
set_option maxRecDepth 100000
def nameB (s : ByteArray) : Bool := Lex.nameOk s.data.toList
def wordB (s : ByteArray) : Bool := nameB s || Lex.keyB s.data.toList
def partsI (op : Int) : Int := if op == 1 || op == 2 || op == 3 then 0 else if op == 5 || op == 6 then 1 else if decide (7 ≤ op) && decide (op ≤ 19) then 2 else -1
def numOk (e : Ex) : Bool := if e.op == 1 then decide (0 ≤ e.n) else if e.op == 2 then e.n == 0 || e.n == 1 else e.n == 0
def namesOk (e : Ex) : Bool := if e.op == 3 then nameB e.s && e.q.toList == [] else if e.op == 4 then nameB e.s && (e.q.toList == [] || nameB e.q) else e.s.toList == [] && e.q.toList == []
def partsOk (e : Ex) : Bool := if e.op == 4 then decide (e.x.length ≤ 255) else (e.x.length : Int) == partsI e.op
def rX (e : Ex) : Bool := numOk e && namesOk e && partsOk e
def rExpr (e : Ex) : Bool := (flat e).all rX
def targetOk (s : St) : Bool := if s.op == 1 || s.op == 2 then nameB s.s else s.s.toList == []
def blocksOk (s : St) : Bool := if s.op == 3 then true else if s.op == 4 then s.b2.length == 0 else s.b.length == 0 && s.b2.length == 0
def askedOk (s : St) : Bool :=
  if s.op == 1 || s.op == 2 || s.op == 3 || s.op == 4 || s.op == 6 then rExpr s.e else if s.op == 5 then zeroX s.e || rExpr s.e else if s.op == 7 then s.e.op == 4 && rExpr s.e else if s.op == 8 || s.op == 9 then zeroX s.e else false
def rStmt (s : St) : Bool := targetOk s && blocksOk s && askedOk s
def valB (t : Int) : Bool := t == 1 || t == 2
def wPar (p : Par) : Bool := !nameB p.s || !valB p.t
def wFn (f : Fn) : Bool := !nameB f.s || decide (4 < f.p.length) || f.p.any wPar || (!(f.r == 0) && !valB f.r) || !(flatB f.b).all rStmt
def rHead (f : Fl) : Bool := wordB f.s && decide (f.i.length ≤ 8) && decide (f.f.length ≤ 32) && !f.i.any (fun s => !wordB s)
def rFile (f : Fl) : Bool := rHead f && !f.f.any wFn
end Go.Proofs.YtlhbhpdpjidpgaaGreatDoor.Tre
/- Trees without where they lie; the same trees have the same core. No condition. -/
namespace Go.Proofs.YtlhbhpdpjidpgaaGreatDoor.Tre
set_option maxRecDepth 100000
inductive Tx where
  | mk (op n : Int) (s q : List UInt8) (x : List Tx)
inductive Ts where
  | mk (op : Int) (s : List UInt8) (e : Tx) (b b2 : List Ts)
structure Tp where
  s : List UInt8
  t : Int
structure Tf where
  s : List UInt8
  p : List Tp
  r : Int
  b : List Ts
structure Tl where
  s : List UInt8
  i : List (List UInt8)
  f : List Tf
def core (e : Ex) : Tx := .mk e.op e.n e.s.data.toList e.q.data.toList (e.x.attach.map (fun ⟨y, _⟩ => core y))
termination_by SizeOf.sizeOf e
decreasing_by exact part_lt _ (by assumption)
def coreS (s : St) : Ts := .mk s.op s.s.data.toList (core s.e) (s.b.attach.map (fun ⟨y, _⟩ => coreS y)) (s.b2.attach.map (fun ⟨y, _⟩ => coreS y))
termination_by SizeOf.sizeOf s
decreasing_by
  · exact partS_lt _ (.inl (by assumption))
  · exact partS_lt _ (.inr (by assumption))
def coreP (p : Par) : Tp := ⟨p.s.data.toList, p.t⟩
def coreF (f : Fn) : Tf := ⟨f.s.data.toList, f.p.map coreP, f.r, f.b.map coreS⟩
def coreL (f : Fl) : Tl := ⟨f.s.data.toList, f.i.map (·.data.toList), f.f.map coreF⟩
theorem core_eq (e : Ex) : core e = .mk e.op e.n e.s.data.toList e.q.data.toList (e.x.map core) := by
  rw [core]
  congr 1
  exact List.map_subtype (fun _ _ => rfl) |>.trans (by simp)
theorem coreS_eq (s : St) : coreS s = .mk s.op s.s.data.toList (core s.e) (s.b.map coreS) (s.b2.map coreS) := by
  rw [coreS]
  congr 1
  · exact List.map_subtype (fun _ _ => rfl) |>.trans (by simp)
  · exact List.map_subtype (fun _ _ => rfl) |>.trans (by simp)
theorem text_beq {s t : ByteArray} (h : s.data.toList = t.data.toList) : (s.toList == t.toList) = true := by
  rw [ByteArray.toList_eq, ByteArray.toList_eq, h]
  exact beq_self_eq_true _
theorem allTwo_map {α β : Type} {p : α → α → Bool} {c : α → β} : ∀ {a b : List α}, a.map c = b.map c → (∀ x ∈ a, ∀ y ∈ b, c x = c y → p x y = true) → allTwo p a b = true
  | [], [], _, _ => rfl
  | [], _ :: _, h, _ => by simp at h
  | _ :: _, [], h, _ => by simp at h
  | a :: r, b :: t, h, hp => by
    simp only [List.map_cons, List.cons.injEq] at h
    have h1 := hp a (by simp) b (by simp) h.1
    have h2 := allTwo_map (p := p) h.2 (fun x hx y hy => hp x (by simp [hx]) y (by simp [hy]))
    simp [allTwo, h1, h2]
theorem same_core_upto : ∀ (m : Nat) (a b : Ex), size a ≤ m → core a = core b → sameX a b = true
  | 0, a, b, h, _ => by rw [size_eq] at h; omega
  | m + 1, a, b, h, he => by
    rw [core_eq, core_eq] at he
    injection he with h1 h2 h3 h4 h5
    rw [sameX_eq, h1, h2, text_beq h3, text_beq h4, sameXL_all, allTwo_map h5 (fun x hx y _ hc => same_core_upto m x y (by have := size_part hx; omega) hc)]
    simp
theorem same_core {a b : Ex} (h : core a = core b) : sameX a b = true := same_core_upto _ a b (Nat.le_refl _) h
theorem sameS_core_upto : ∀ (m : Nat) (a b : St), sizeS a ≤ m → coreS a = coreS b → sameS a b = true
  | 0, a, b, h, _ => by rw [sizeS_eq] at h; omega
  | m + 1, a, b, h, he => by
    rw [coreS_eq, coreS_eq] at he
    injection he with h1 h2 h3 h4 h5
    rw [sameS_eq, h1, text_beq h2, same_core h3, sameB_all, sameB_all, allTwo_map h4 (fun x hx y _ hc => sameS_core_upto m x y (by have := sizeS_part (s := a) (x := x) (.inl hx); omega) hc), allTwo_map h5 (fun x hx y _ hc => sameS_core_upto m x y (by have := sizeS_part (s := a) (x := x) (.inr hx); omega) hc)]
    simp
theorem sameS_core {a b : St} (h : coreS a = coreS b) : sameS a b = true := sameS_core_upto _ a b (Nat.le_refl _) h
theorem sameF_core {a b : Fn} (h : coreF a = coreF b) : sameF a b = true := by
  unfold coreF at h
  injection h with h1 h2 h3 h4
  unfold sameF
  rw [text_beq h1, h3, sameB_all, allTwo_map h4 (fun x _ y _ hc => sameS_core hc), allTwo_map h2 (fun x _ y _ hc => by unfold coreP at hc; injection hc with g1 g2; unfold samePar; rw [text_beq g1, g2]; simp)]
  simp
/-- Files of one core are the same. -/
theorem sameFl_core {a b : Fl} (h : coreL a = coreL b) : sameFl a b = true := by
  unfold coreL at h
  injection h with h1 h2 h3
  unfold sameFl
  rw [text_beq h1, allTwo_map h3 (fun x _ y _ hc => sameF_core hc), allTwo_map h2 (fun x _ y _ hc => by unfold sameT; exact text_beq hc)]
  simp
end Go.Proofs.YtlhbhpdpjidpgaaGreatDoor.Tre
/- The grammar of expressions as plain mathematics: a reader of words; what the document's own parser tells, step by step. No condition. -/
namespace Go.Proofs.YtlhbhpdpjidpgaaGreatDoor.Prs
open Tre
set_option maxRecDepth 100000
/-- A reader: the words that are left; whether one was not as it must be; whether something is too many. -/
structure PS where
  l : List Lex.Wd
  bad : Bool
  big : Bool
def zeroW : Lex.Wd := ⟨0, [], 0⟩
def peek (r : PS) : Lex.Wd := if r.l.length == 0 || r.bad then zeroW else r.l.headD zeroW
def isW (r : PS) (s : List UInt8) : Bool := ((peek r).k == 5 || (peek r).k == 4) && (peek r).s == s
def tl (r : PS) : PS := ⟨r.l.tail, r.bad, r.big⟩
def badR (r : PS) : PS := ⟨r.l, true, r.big⟩
def skipW (r : PS) (s : List UInt8) : PS := if isW r s then tl r else r
def mustW (r : PS) (s : List UInt8) : PS := if isW r s then tl r else badR r
def wordNo (r : PS) (k : Int) (key : Bool) : Bool := (peek r).k != k && !(key && (peek r).k == 4)
def wordS (r : PS) (k : Int) (key : Bool) : List UInt8 := if wordNo r k key then [] else (peek r).s
def wordR (r : PS) (k : Int) (key : Bool) : PS := if wordNo r k key then badR r else tl r
/-- The signs of a row of ops, and their ops. -/
def level (k : Nat) : List (List UInt8 × Int) :=
  if k == 0 then [([124, 124], 19)] else if k == 1 then [([38, 38], 18)]
  else if k == 2 then [([61, 61], 12), ([33, 61], 13), ([60], 14), ([60, 61], 15), ([62], 16), ([62, 61], 17)]
  else if k == 3 then [([43], 10), ([45], 11)] else [([42], 7), ([47], 8), ([37], 9)]
inductive Job where
  | row (k : Nat)
  | rest (k : Nat) (x : Tx)
  | unary
  | call (s : List UInt8)
  | args (q s : List UInt8) (x : List Tx)
def nilT : Tx := .mk 0 0 [] [] []
/-- A call that is through. -/
def callEnd (q s : List UInt8) (x : List Tx) (r : PS) : Tx × PS := (.mk 4 0 s q x, ⟨(mustW r [41]).l, (mustW r [41]).bad, (mustW r [41]).big || decide (255 < x.length)⟩)
/-- What the parser tells: the expression, and the reader behind it; n: how many steps it may go. -/
def run : Nat → Job → PS → Tx × PS
  | 0, _, r => (nilT, r)
  | n + 1, .row k, r => if 4 < k then run n .unary r else run n (.rest k (run n (.row (k + 1)) r).1) (run n (.row (k + 1)) r).2
  | n + 1, .rest k x, r =>
    if r.bad then (x, r) else
    match (level k).find? (fun p => isW r p.1) with
    | none => (x, r)
    | some p => run n (.rest k (.mk p.2 0 [] [] [x, (run n (.row (k + 1)) (tl r)).1])) (run n (.row (k + 1)) (tl r)).2
  | n + 1, .unary, r =>
    if isW r [45] then (.mk 5 0 [] [] [(run n .unary (tl r)).1], (run n .unary (tl r)).2)
    else if isW r [33] then (.mk 6 0 [] [] [(run n .unary (tl r)).1], (run n .unary (tl r)).2)
    else if isW r [116, 114, 117, 101] then (.mk 2 1 [] [] [], tl r)
    else if isW r [102, 97, 108, 115, 101] then (.mk 2 0 [] [] [], tl r)
    else if isW r [40] then ((run n (.row 0) (tl r)).1, mustW (run n (.row 0) (tl r)).2 [41])
    else if (peek r).k == 2 then (.mk 1 (peek r).n [] [] [], tl r)
    else if isW (wordR r 1 false) [40] || isW (wordR r 1 false) [46] then run n (.call (wordS r 1 false)) (wordR r 1 false)
    else (.mk 3 0 (wordS r 1 false) [] [], wordR r 1 false)
  | n + 1, .call s, r =>
    if isW r [46] then run n (.args s (wordS (tl r) 1 false) []) (mustW (wordR (tl r) 1 false) [40])
    else run n (.args [] s []) (mustW r [40])
  | n + 1, .args q s x, r =>
    if r.bad || isW r [41] then callEnd q s x r
    else if isW (run n (.row 0) r).2 [44] then
      (if isW (tl (run n (.row 0) r).2) [41] then callEnd q s (x ++ [(run n (.row 0) r).1]) (badR (tl (run n (.row 0) r).2))
       else run n (.args q s (x ++ [(run n (.row 0) r).1])) (tl (run n (.row 0) r).2))
    else callEnd q s (x ++ [(run n (.row 0) r).1]) (run n (.row 0) r).2
theorem isW_pos {r : PS} {s : List UInt8} (h : isW r s = true) : 0 < r.l.length ∧ r.bad = false := by
  unfold isW peek at h
  by_cases hc : (r.l.length == 0 || r.bad) = true
  · rw [if_pos hc] at h
    simp [zeroW] at h
  · have h1 : ¬ r.l.length = 0 ∧ r.bad = false := by simpa using hc
    exact ⟨by omega, h1.2⟩
theorem tl_len (r : PS) : (tl r).l.length = r.l.length - 1 := by simp [tl]
theorem mustW_len (r : PS) (s : List UInt8) : (mustW r s).l.length ≤ r.l.length := by
  unfold mustW
  split
  · rw [tl_len]; omega
  · exact Nat.le_refl _
theorem wordR_len (r : PS) (k : Int) (key : Bool) : (wordR r k key).l.length ≤ r.l.length := by
  unfold wordR
  split
  · exact Nat.le_refl _
  · rw [tl_len]; omega
theorem callEnd_len (q s : List UInt8) (x : List Tx) (r : PS) : (callEnd q s x r).2.l.length ≤ r.l.length := mustW_len r [41]
/-- How many steps are enough. -/
def need : Job → Nat → Nat
  | .row k, m => 16 * m + 2 * (6 - k) + 2
  | .rest _ _, m => 16 * m + 1
  | .unary, m => 16 * m + 1
  | .call _, m => 16 * m + 2
  | .args _ _ _, m => 16 * m + 15
end Go.Proofs.YtlhbhpdpjidpgaaGreatDoor.Prs
/- The grammar of expressions, without a count of steps: what the parser tells of a job. No condition. -/
namespace Go.Proofs.YtlhbhpdpjidpgaaGreatDoor.Prs
open Tre
set_option maxRecDepth 100000
/-- The words that count: a reader that fell has none. -/
def lenR (r : PS) : Nat := if r.bad then 0 else r.l.length
theorem lenR_bad {r : PS} (h : r.bad = true) : lenR r = 0 := by simp [lenR, h]
theorem lenR_tl (r : PS) : lenR (tl r) = lenR r - 1 := by
  unfold lenR
  have : (tl r).bad = r.bad := rfl
  rw [this, tl_len]
  split <;> rfl
theorem lenR_badR (r : PS) : lenR (badR r) = 0 := rfl
theorem lenR_mustW (r : PS) (s : List UInt8) : lenR (mustW r s) ≤ lenR r := by
  unfold mustW
  split
  · rw [lenR_tl]; omega
  · rw [lenR_badR]; omega
theorem lenR_wordR (r : PS) (k : Int) (key : Bool) : lenR (wordR r k key) ≤ lenR r := by
  unfold wordR
  split
  · rw [lenR_badR]; omega
  · rw [lenR_tl]; omega
theorem lenR_pos {r : PS} {s : List UInt8} (h : isW r s = true) : 0 < lenR r := by
  obtain ⟨h1, h2⟩ := isW_pos h
  simp [lenR, h1, h2]
theorem callEnd_lenR (q s : List UInt8) (x : List Tx) (r : PS) : lenR (callEnd q s x r).2 ≤ lenR r := lenR_mustW r [41]
theorem run_lenR : ∀ (n : Nat) (j : Job) (r : PS), lenR (run n j r).2 ≤ lenR r
  | 0, _, _ => Nat.le_refl _
  | n + 1, .row k, r => by
    unfold run
    split
    · exact run_lenR n _ _
    · exact Nat.le_trans (run_lenR n _ _) (run_lenR n _ _)
  | n + 1, .rest k x, r => by
    unfold run
    split
    · exact Nat.le_refl _
    · split
      · exact Nat.le_refl _
      · have h1 := run_lenR n (.row (k + 1)) (tl r)
        rw [lenR_tl] at h1
        exact Nat.le_trans (run_lenR n _ _) (by omega)
  | n + 1, .unary, r => by
    have ht := lenR_tl r
    have hw := lenR_wordR r 1 false
    unfold run
    split
    · have := run_lenR n .unary (tl r); show lenR (run n .unary (tl r)).2 ≤ _; omega
    split
    · have := run_lenR n .unary (tl r); show lenR (run n .unary (tl r)).2 ≤ _; omega
    split
    · show lenR (tl r) ≤ _; omega
    split
    · show lenR (tl r) ≤ _; omega
    split
    · have h1 := run_lenR n (.row 0) (tl r)
      have h2 := lenR_mustW (run n (.row 0) (tl r)).2 [41]
      show lenR (mustW (run n (.row 0) (tl r)).2 [41]) ≤ _
      omega
    split
    · show lenR (tl r) ≤ _; omega
    split
    · exact Nat.le_trans (run_lenR n _ _) hw
    · exact hw
  | n + 1, .call s, r => by
    unfold run
    split
    · have h1 := lenR_tl r
      have h2 := lenR_wordR (tl r) 1 false
      have h3 := lenR_mustW (wordR (tl r) 1 false) [40]
      have h4 := run_lenR n (.args s (wordS (tl r) 1 false) []) (mustW (wordR (tl r) 1 false) [40])
      omega
    · exact Nat.le_trans (run_lenR n _ _) (lenR_mustW _ _)
  | n + 1, .args q s x, r => by
    have h1 := run_lenR n (.row 0) r
    have h2 := lenR_tl (run n (.row 0) r).2
    unfold run
    split
    · exact callEnd_lenR _ _ _ _
    split
    · split
      · have h3 := callEnd_lenR q s (x ++ [(run n (.row 0) r).1]) (badR (tl (run n (.row 0) r).2))
        rw [lenR_badR] at h3
        omega
      · have := run_lenR n (.args q s (x ++ [(run n (.row 0) r).1])) (tl (run n (.row 0) r).2)
        omega
    · exact Nat.le_trans (callEnd_lenR _ _ _ _) h1
/-- The steps that are enough. -/
def enough (j : Job) (r : PS) : Nat := match j with
  | .args _ _ _ => if r.bad then 1 else need j (lenR r)
  | _ => need j (lenR r)
theorem enough_args (q s : List UInt8) (x : List Tx) (r : PS) : enough (.args q s x) r ≤ 16 * lenR r + 15 := by
  unfold enough need
  dsimp only
  split <;> omega
theorem word_pos {r : PS} (h : isW (wordR r 1 false) [40] = true ∨ isW (wordR r 1 false) [46] = true) : lenR (wordR r 1 false) + 1 ≤ lenR r := by
  have hb : (wordR r 1 false).bad = false := by rcases h with h | h <;> exact (isW_pos h).2
  unfold wordR at hb ⊢
  by_cases hw : wordNo r 1 false = true
  · rw [if_pos hw] at hb
    simp [badR] at hb
  · rw [if_neg hw] at hb ⊢
    have hk : (peek r).k = 1 := by simpa [wordNo] using hw
    have hr : r.bad = false := hb
    have hl : 0 < r.l.length := by
      rcases Nat.eq_zero_or_pos r.l.length with h0 | h0
      · have : (peek r).k = 0 := by simp [peek, h0, zeroW]
        omega
      · exact h0
    rw [lenR_tl]
    have : lenR r = r.l.length := by simp [lenR, hr]
    omega
theorem run_same : ∀ (n n' : Nat) (j : Job) (r : PS), enough j r ≤ n → enough j r ≤ n' → run n j r = run n' j r
  | 0, n', j, r, h, _ => by
    exfalso
    cases j <;> simp only [enough, need] at h
    case args => split at h <;> omega
    all_goals omega
  | n + 1, 0, j, r, _, h => by
    exfalso
    cases j <;> simp only [enough, need] at h
    case args => split at h <;> omega
    all_goals omega
  | n + 1, n' + 1, .row k, r, h, h' => by
    simp only [enough, need] at h h'
    unfold run
    split
    · exact run_same n n' .unary r (by simp only [enough, need]; omega) (by simp only [enough, need]; omega)
    · rw [run_same n n' (.row (k + 1)) r (by simp only [enough, need]; omega) (by simp only [enough, need]; omega)]
      have hl := run_lenR n' (.row (k + 1)) r
      exact run_same n n' _ _ (by simp only [enough, need]; omega) (by simp only [enough, need]; omega)
  | n + 1, n' + 1, .rest k x, r, h, h' => by
    simp only [enough, need] at h h'
    unfold run
    split
    · rfl
    · split
      · rfl
      · next p hp =>
        have h1 := lenR_tl r
        have h2 := lenR_pos (s := p.1) (by have := List.find?_some hp; simpa using this)
        rw [run_same n n' (.row (k + 1)) (tl r) (by simp only [enough, need]; omega) (by simp only [enough, need]; omega)]
        have hl := run_lenR n' (.row (k + 1)) (tl r)
        exact run_same n n' _ _ (by simp only [enough, need]; omega) (by simp only [enough, need]; omega)
  | n + 1, n' + 1, .unary, r, h, h' => by
    simp only [enough, need] at h h'
    have h1 := lenR_tl r
    unfold run
    split
    · next hi =>
      have h2 := lenR_pos hi
      rw [run_same n n' .unary (tl r) (by simp only [enough, need]; omega) (by simp only [enough, need]; omega)]
    split
    · next hi =>
      have h2 := lenR_pos hi
      rw [run_same n n' .unary (tl r) (by simp only [enough, need]; omega) (by simp only [enough, need]; omega)]
    split
    · rfl
    split
    · rfl
    split
    · next hi =>
      have h2 := lenR_pos hi
      rw [run_same n n' (.row 0) (tl r) (by simp only [enough, need]; omega) (by simp only [enough, need]; omega)]
    split
    · rfl
    split
    · next hi =>
      have h2 := word_pos (r := r) (by simpa using hi)
      exact run_same n n' _ _ (by simp only [enough, need]; omega) (by simp only [enough, need]; omega)
    · rfl
  | n + 1, n' + 1, .call s, r, h, h' => by
    simp only [enough, need] at h h'
    unfold run
    split
    · next hi =>
      have h2 := lenR_pos hi
      have h1 := lenR_tl r
      have h3 := lenR_wordR (tl r) 1 false
      have h4 := lenR_mustW (wordR (tl r) 1 false) [40]
      have h5 := enough_args s (wordS (tl r) 1 false) [] (mustW (wordR (tl r) 1 false) [40])
      exact run_same n n' _ _ (by omega) (by omega)
    · by_cases hi : isW r [40] = true
      · have h2 := lenR_pos hi
        have h1 := lenR_tl r
        have e : mustW r [40] = tl r := by simp [mustW, hi]
        have h5 := enough_args [] s [] (mustW r [40])
        rw [e] at h5 ⊢
        exact run_same n n' _ _ (by omega) (by omega)
      · have e : mustW r [40] = badR r := by simp [mustW, hi]
        have h5 : enough (.args [] s []) (badR r) = 1 := by simp [enough, badR]
        rw [e]
        exact run_same n n' _ _ (by omega) (by omega)
  | n + 1, n' + 1, .args q s x, r, h, h' => by
    unfold run
    split
    · rfl
    · next hi =>
      have hb : r.bad = false := by
        have : ¬ (r.bad || isW r [41]) = true := hi
        simp only [Bool.or_eq_true, not_or] at this
        simpa using this.1
      simp only [enough, hb, need, Bool.false_eq_true, if_false] at h h'
      rw [run_same n n' (.row 0) r (by simp only [enough, need]; omega) (by simp only [enough, need]; omega)]
      have hl := run_lenR n' (.row 0) r
      split
      · next hc =>
        split
        · rfl
        · have h2 := lenR_pos hc
          have h1 := lenR_tl (run n' (.row 0) r).2
          have h5 := enough_args q s (x ++ [(run n' (.row 0) r).1]) (tl (run n' (.row 0) r).2)
          exact run_same n n' _ _ (by omega) (by omega)
      · rfl
/-- What the parser tells. -/
def tell (j : Job) (r : PS) : Tx × PS := run (enough j r) j r
theorem tell_lenR (j : Job) (r : PS) : lenR (tell j r).2 ≤ lenR r := run_lenR _ j r
theorem tell_run {n : Nat} {j : Job} {r : PS} (h : enough j r ≤ n) : run n j r = tell j r := run_same _ _ j r h (Nat.le_refl _)
theorem tell_top {k : Nat} {r : PS} (h : 4 < k) : tell (.row k) r = tell .unary r := by
  obtain ⟨n, hn⟩ : ∃ n, enough (.row k) r = n + 1 := ⟨16 * lenR r + 2 * (6 - k) + 1, by simp only [enough, need]⟩
  unfold tell
  rw [hn]
  unfold run
  rw [if_pos h]
  exact tell_run (by simp only [enough, need] at hn ⊢; omega)
theorem tell_row {k : Nat} {r : PS} (h : k ≤ 4) : tell (.row k) r = tell (.rest k (tell (.row (k + 1)) r).1) (tell (.row (k + 1)) r).2 := by
  obtain ⟨n, hn⟩ : ∃ n, enough (.row k) r = n + 1 := ⟨16 * lenR r + 2 * (6 - k) + 1, by simp only [enough, need]⟩
  have e1 : tell (.row k) r = run (n + 1) (.row k) r := by unfold tell; rw [hn]
  rw [e1]
  unfold run
  rw [if_neg (by omega), tell_run (n := n) (j := .row (k + 1)) (by simp only [enough, need] at hn ⊢; omega)]
  have hl := tell_lenR (.row (k + 1)) r
  exact tell_run (by simp only [enough, need] at hn ⊢; omega)
theorem tell_rest (k : Nat) (x : Tx) (r : PS) : tell (.rest k x) r = if r.bad then (x, r) else
    match (level k).find? (fun p => isW r p.1) with
    | none => (x, r)
    | some p => tell (.rest k (.mk p.2 0 [] [] [x, (tell (.row (k + 1)) (tl r)).1])) (tell (.row (k + 1)) (tl r)).2 := by
  obtain ⟨n, hn⟩ : ∃ n, enough (.rest k x) r = n + 1 := ⟨16 * lenR r, by simp only [enough, need]⟩
  have e1 : tell (.rest k x) r = run (n + 1) (.rest k x) r := by unfold tell; rw [hn]
  rw [e1]
  unfold run
  split
  · rfl
  · split
    · next hp => first | (rw [hp]; done) | rfl
    · next p hp =>
      try rw [hp]
      try dsimp only
      have h1 := lenR_tl r
      have h2 := lenR_pos (s := p.1) (by have := List.find?_some hp; simpa using this)
      rw [tell_run (n := n) (j := .row (k + 1)) (by simp only [enough, need] at hn ⊢; omega)]
      have hl := tell_lenR (.row (k + 1)) (tl r)
      exact tell_run (by simp only [enough, need] at hn ⊢; omega)
theorem tell_unary (r : PS) : tell .unary r =
    if isW r [45] then (.mk 5 0 [] [] [(tell .unary (tl r)).1], (tell .unary (tl r)).2)
    else if isW r [33] then (.mk 6 0 [] [] [(tell .unary (tl r)).1], (tell .unary (tl r)).2)
    else if isW r [116, 114, 117, 101] then (.mk 2 1 [] [] [], tl r)
    else if isW r [102, 97, 108, 115, 101] then (.mk 2 0 [] [] [], tl r)
    else if isW r [40] then ((tell (.row 0) (tl r)).1, mustW (tell (.row 0) (tl r)).2 [41])
    else if (peek r).k == 2 then (.mk 1 (peek r).n [] [] [], tl r)
    else if isW (wordR r 1 false) [40] || isW (wordR r 1 false) [46] then tell (.call (wordS r 1 false)) (wordR r 1 false)
    else (.mk 3 0 (wordS r 1 false) [] [], wordR r 1 false) := by
  obtain ⟨n, hn⟩ : ∃ n, enough .unary r = n + 1 := ⟨16 * lenR r, by simp only [enough, need]⟩
  have e1 : tell .unary r = run (n + 1) .unary r := by unfold tell; rw [hn]
  rw [e1]
  simp only [enough, need] at hn
  have h1 := lenR_tl r
  unfold run
  split
  · next hi =>
    have h2 := lenR_pos hi
    rw [tell_run (n := n) (j := .unary) (by simp only [enough, need]; omega)]
  split
  · next hi =>
    have h2 := lenR_pos hi
    rw [tell_run (n := n) (j := .unary) (by simp only [enough, need]; omega)]
  split
  · rfl
  split
  · rfl
  split
  · next hi =>
    have h2 := lenR_pos hi
    rw [tell_run (n := n) (j := .row 0) (by simp only [enough, need]; omega)]
  split
  · rfl
  split
  · next hi =>
    have h2 := word_pos (r := r) (by simpa using hi)
    exact tell_run (by simp only [enough, need]; omega)
  · rfl
theorem tell_call (s : List UInt8) (r : PS) : tell (.call s) r =
    if isW r [46] then tell (.args s (wordS (tl r) 1 false) []) (mustW (wordR (tl r) 1 false) [40])
    else tell (.args [] s []) (mustW r [40]) := by
  obtain ⟨n, hn⟩ : ∃ n, enough (.call s) r = n + 1 := ⟨16 * lenR r + 1, by simp only [enough, need]⟩
  have e1 : tell (.call s) r = run (n + 1) (.call s) r := by unfold tell; rw [hn]
  rw [e1]
  simp only [enough, need] at hn
  unfold run
  split
  · next hi =>
    have h2 := lenR_pos hi
    have h1 := lenR_tl r
    have h3 := lenR_wordR (tl r) 1 false
    have h4 := lenR_mustW (wordR (tl r) 1 false) [40]
    have h5 := enough_args s (wordS (tl r) 1 false) [] (mustW (wordR (tl r) 1 false) [40])
    exact tell_run (by omega)
  · by_cases hi : isW r [40] = true
    · have h2 := lenR_pos hi
      have h1 := lenR_tl r
      have e : mustW r [40] = tl r := by simp [mustW, hi]
      have h5 := enough_args [] s [] (mustW r [40])
      rw [e] at h5 ⊢
      exact tell_run (by omega)
    · have e : mustW r [40] = badR r := by simp [mustW, hi]
      have h5 : enough (.args [] s []) (badR r) = 1 := by simp [enough, badR]
      rw [e]
      exact tell_run (by omega)
theorem tell_args (q s : List UInt8) (x : List Tx) (r : PS) : tell (.args q s x) r =
    if r.bad || isW r [41] then callEnd q s x r
    else if isW (tell (.row 0) r).2 [44] then
      (if isW (tl (tell (.row 0) r).2) [41] then callEnd q s (x ++ [(tell (.row 0) r).1]) (badR (tl (tell (.row 0) r).2))
       else tell (.args q s (x ++ [(tell (.row 0) r).1])) (tl (tell (.row 0) r).2))
    else callEnd q s (x ++ [(tell (.row 0) r).1]) (tell (.row 0) r).2 := by
  obtain ⟨n, hn⟩ : ∃ n, enough (.args q s x) r = n + 1 := by
    unfold enough need
    dsimp only
    split
    · exact ⟨0, rfl⟩
    · exact ⟨16 * lenR r + 14, rfl⟩
  have e1 : tell (.args q s x) r = run (n + 1) (.args q s x) r := by unfold tell; rw [hn]
  rw [e1]
  unfold run
  split
  · rfl
  · next hi =>
    have hb : r.bad = false := by
      have : ¬ (r.bad || isW r [41]) = true := hi
      simp only [Bool.or_eq_true, not_or] at this
      simpa using this.1
    simp only [enough, hb, need, Bool.false_eq_true, if_false] at hn
    rw [tell_run (n := n) (j := .row 0) (by simp only [enough, need]; omega)]
    have hl := tell_lenR (.row 0) r
    split
    · next hc =>
      split
      · rfl
      · have h2 := lenR_pos hc
        have h1 := lenR_tl (tell (.row 0) r).2
        have h5 := enough_args q s (x ++ [(tell (.row 0) r).1]) (tl (tell (.row 0) r).2)
        exact tell_run (by omega)
    · rfl
end Go.Proofs.YtlhbhpdpjidpgaaGreatDoor.Prs
