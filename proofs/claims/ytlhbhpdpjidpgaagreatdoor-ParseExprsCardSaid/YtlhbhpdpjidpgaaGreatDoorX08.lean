/-
  yieldParts: an expression and all that it is made of, one behind the other, each handed to a round. Conditions: the tree lies in memory below lo; a round keeps what lies below lo, and all cells from hi on.
-/
import Derived.Test.YtlhbhpdpjidpgaaGreatDoorX07
namespace Go.Proofs.YtlhbhpdpjidpgaaGreatDoor.Tre
open Go.RowKit
set_option maxRecDepth 100000
theorem sizeL_take (x : List Ex) (j : Nat) (a : Ex) (h : x[j]? = some a) : sizeL (x.take (j + 1)) = sizeL (x.take j) + size a := by
  rw [List.take_add_one, h]
  simp [sizeL, size, flatL]
theorem flatL_at : ∀ (x : List Ex) (j i : Nat) (a y : Ex), x[j]? = some a → (flat a)[i]? = some y → (flatL x)[sizeL (x.take j) + i]? = some y
  | [], j, i, a, y, h, _ => by simp at h
  | b :: r, 0, i, a, y, h, hy => by
    obtain rfl : b = a := by simpa using h
    rw [flatL_cons, List.getElem?_append_left (by have := (List.getElem?_eq_some_iff.1 hy).1; simp [sizeL, flatL]; omega)]
    simpa [sizeL, flatL] using hy
  | b :: r, j + 1, i, a, y, h, hy => by
    have ih := flatL_at r j i a y (by simpa using h) hy
    have e : sizeL (List.take (j + 1) (b :: r)) = size b + sizeL (r.take j) := by rw [List.take_succ_cons, sizeL_cons]
    rw [flatL_cons, e, List.getElem?_append_right (by unfold size; omega), show size b + sizeL (r.take j) + i - (flat b).length = sizeL (r.take j) + i by unfold size; omega]
    exact ih
/-- What a list of nodes holds from place k on. -/
def From (L : List Ex) (k : Nat) (e : Ex) : Prop := ∀ i y, (flat e)[i]? = some y → L[k + i]? = some y
theorem From.self {L : List Ex} {k : Nat} {e : Ex} (h : From L k e) : L[k]? = some e := h 0 e (by rw [flat_eq]; rfl)
theorem From.part {L : List Ex} {k : Nat} {e : Ex} (h : From L k e) {j : Nat} {x : Ex} (hx : e.x[j]? = some x) : From L (k + 1 + sizeL (e.x.take j)) x := fun i y hy => by
  have := h (1 + (sizeL (e.x.take j) + i)) y (by rw [flat_eq, Nat.add_comm 1, List.getElem?_cons_succ]; exact flatL_at e.x j i x y hx hy)
  rwa [show k + (1 + (sizeL (e.x.take j) + i)) = k + 1 + sizeL (e.x.take j) + i by omega] at this
end Go.Proofs.YtlhbhpdpjidpgaaGreatDoor.Tre
/- yieldStatements: statements and all that stand in them, one behind the other, each handed to a round. Conditions: the trees lie in memory below lo; a round keeps what lies below lo, and all cells from hi on. -/
namespace Go.Proofs.YtlhbhpdpjidpgaaGreatDoor.Tre
open Go.RowKit
set_option maxRecDepth 100000
theorem sizeB_take (x : List St) (j : Nat) (a : St) (h : x[j]? = some a) : sizeB (x.take (j + 1)) = sizeB (x.take j) + sizeS a := by
  rw [List.take_add_one, h]
  simp [sizeB, sizeS, flatB]
theorem flatB_at : ∀ (x : List St) (j i : Nat) (a y : St), x[j]? = some a → (flatS a)[i]? = some y → (flatB x)[sizeB (x.take j) + i]? = some y
  | [], j, i, a, y, h, _ => by simp at h
  | b :: r, 0, i, a, y, h, hy => by
    obtain rfl : b = a := by simpa using h
    rw [flatB_cons, List.getElem?_append_left (by have := (List.getElem?_eq_some_iff.1 hy).1; simp [sizeB, flatB]; omega)]
    simpa [sizeB, flatB] using hy
  | b :: r, j + 1, i, a, y, h, hy => by
    have ih := flatB_at r j i a y (by simpa using h) hy
    have e : sizeB (List.take (j + 1) (b :: r)) = sizeS b + sizeB (r.take j) := by rw [List.take_succ_cons, sizeB_cons]
    rw [flatB_cons, e, List.getElem?_append_right (by unfold sizeS; omega), show sizeS b + sizeB (r.take j) + i - (flatS b).length = sizeB (r.take j) + i by unfold sizeS; omega]
    exact ih
/-- What a list of nodes holds from place k on. -/
def FromB (L : List St) (k : Nat) (x : List St) : Prop := ∀ i y, (flatB x)[i]? = some y → L[k + i]? = some y
section
variable {L : List St} {k : Nat} {x : List St} {j : Nat} {s : St}
theorem FromB.at_ (h : FromB L k x) (hs : x[j]? = some s) : L[k + sizeB (x.take j)]? = some s := by
  have := h (sizeB (x.take j) + 0) s (flatB_at x j 0 s s hs (by rw [flatS_eq]; rfl))
  rwa [Nat.add_zero] at this
theorem FromB.body (h : FromB L k x) (hs : x[j]? = some s) : FromB L (k + sizeB (x.take j) + 1) s.b := fun i y hy => by
  have := h (sizeB (x.take j) + (i + 1)) y (flatB_at x j (i + 1) s y hs (by rw [flatS_eq, List.getElem?_cons_succ, List.getElem?_append_left (List.getElem?_eq_some_iff.1 hy).1]; exact hy))
  rwa [show k + (sizeB (x.take j) + (i + 1)) = k + sizeB (x.take j) + 1 + i by omega] at this
theorem FromB.other (h : FromB L k x) (hs : x[j]? = some s) : FromB L (k + sizeB (x.take j) + 1 + sizeB s.b) s.b2 := fun i y hy => by
  have := h (sizeB (x.take j) + (sizeB s.b + i + 1)) y (flatB_at x j _ s y hs (by rw [flatS_eq, List.getElem?_cons_succ, List.getElem?_append_right (by unfold sizeB; omega), show sizeB s.b + i - (flatB s.b).length = i by unfold sizeB; omega]; exact hy))
  rwa [show k + (sizeB (x.take j) + (sizeB s.b + i + 1)) = k + sizeB (x.take j) + 1 + sizeB s.b + i by omega] at this
end
end Go.Proofs.YtlhbhpdpjidpgaaGreatDoor.Tre
/- A loop over a sequence whose rounds may themselves hand on to an outer loop: what a sequence gives, one value behind the other, each known by its place; what the loop's body owes. No condition. -/
namespace Go.Proofs.YtlhbhpdpjidpgaaGreatDoor.Tre
open Go.RowKit
set_option maxRecDepth 100000
/-- What a sequence gives, whatever the loop: its values, in their order; what lies below c0, and the blocks caps, must not turn meanwhile. -/
def Gives (c0 : Nat) (caps : List Nat) (g : Nat) (lb : Array Value) (vals : List Value) (w : World) : Prop :=
  ∀ (m l : Nat) (S : Nat → Prop) (hi : Nat) (J : Nat → World → Prop) (Jx : World → Prop) (W : World), Below w.heap.size w W → (∀ b, S b → c0 ≤ b ∧ b < hi) → hi ≤ W.heap.size → (∀ b ∈ caps, ¬ S b) →
    Mine W.heap.size J → Mine W.heap.size (fun (_ : Unit) => Jx) →
    (∀ m k v W1, vals[k]? = some v → J k W1 → YieldAt Fence.wide m Tryz.prog l #[v] W1 (Goes S W.heap.size J Jx (k + 1) W1)) → J 0 W →
    CallsIn Fence.wide m Tryz.prog g (#[.func (.yield l) #[] #[]] ++ lb) W fun e W' => (∃ v, e = .returned v) ∧ (J vals.length W' ∨ Jx W')
theorem Gives.later {c0 : Nat} {caps : List Nat} {g : Nat} {lb : Array Value} {vals : List Value} {w w' : World} (h : Gives c0 caps g lb vals w) (hb : Below w.heap.size w w') : Gives c0 caps g lb vals w' :=
  fun m l S hi J Jx W hW => h m l S hi J Jx W (hb.trans (hW.mono hb.size))
theorem yield_any {m m' l : Nat} {args : Array Value} {W : World} {R : Ending → World → Prop} (h : YieldAt Fence.wide m Tryz.prog l args W R) : YieldAt Fence.wide m' Tryz.prog l args W R := by
  obtain ⟨fn, tmps, assign, body, hy, h1, h2⟩ := h
  exact ⟨fn, tmps, assign, body, hy, h1, fun c cs _ => h2 c cs (room_wide _)⟩
/-- How the body of a round may be left. -/
def Over (S : Nat → Prop) (top : Nat) (I : Nat → World → Prop) (Ix : Code → World → Prop) (k : Nat) (W : World) : Exit → Act → World → Prop
  | .normal, _, W' => Keep S top W W' ∧ I (k + 1) W'
  | .ret, _, W' => Keep S top W W' ∧ Ix .ret W'
  | .exit id, _, W' => Keep S top W W' ∧ Ix (.exit id) W'
  | .goto t, _, W' => Keep S top W W' ∧ Ix (.goto t) W'
  | .panic _, _, _ => False
  | .outgrown, _, _ => False
/-- A loop's record; and the block of its rounds' deferred calls, where it has one of its own. -/
structure Rec (l : Nat) (D : Option Nat) (r : Loop) (W : World) : Prop where
  lp : W.heap[l]? = some (.loop r)
  dfr : ∀ d, D = some d → W.heap[d]? = some (.deferred (some []))
theorem Rec.keep {l top : Nat} {S : Nat → Prop} {D : Option Nat} {r : Loop} {A B : World} (h : Rec l D r A) (hk : Keep S top A B) (h1 : top ≤ l) (h2 : ∀ d, D = some d → top ≤ d) : Rec l D r B := ⟨hk.rest l _ h1 h.lp rfl, fun d hd => hk.rest d _ (h2 d hd) (h.dfr d hd) rfl⟩
theorem Rec.put {l : Nat} {D : Option Nat} {r : Loop} {A : World} (h : Rec l D r A) (hne : ∀ d, D = some d → d ≠ l) (r' : Loop) : Rec l D r' (A.putObj l (.loop r')) := ⟨World.putObj_heap_same (lt_of_heap h.lp), fun d hd => (World.putObj_heap_other (hne d hd)).trans (h.dfr d hd)⟩
theorem Rec.grown {l B : Nat} {D : Option Nat} {r : Loop} {X Y : World} {row : Option Nat} (h : Rec l D r X) (hg : X.grownBy Y row) (hr : ∀ k, row = some k → B ≤ k) (h1 : l < B) (h2 : ∀ d, D = some d → d < B) : Rec l D r Y :=
  ⟨(hg.block l (lt_of_heap h.lp) (fun e => by have := hr l e.symm; omega)).trans h.lp, fun d hd => (hg.block d (lt_of_heap (h.dfr d hd)) (fun e => by have := hr d e.symm; have := h2 d hd; omega)).trans (h.dfr d hd)⟩
def lrec (fn : FuncId) (tmps : Array Value) (ps : Array Tmp) (assign body : Code) (D : Nat) (s : LoopState) (p : Option Code) : Loop := { state := s, pending := p, fn, tmps, params := ps, assign, body, defers := D }
section
variable {S : Nat → Prop} {top l B m D0 : Nat} {D : Option Nat} {I : Nat → World → Prop} {Ix : Code → World → Prop} {A : Nat → Act → World → Prop} {assign body : Code} {fn0 : FuncId} {tm0 : Array Value} {ps0 : Array Tmp}
end
section
variable {g : Operand} {ps : Array Tmp} {assign body : Code} {Q : Exit → Act → World → Prop} {a : Act} {w w0 : World} {n gf c0 hi : Nat} {S : Nat → Prop} {lb : Array Value} {caps : List Nat} {vals : List Value} {I : Nat → World → Prop} {Ix : Code → World → Prop} {A : Nat → Act → World → Prop}
end
end Go.Proofs.YtlhbhpdpjidpgaaGreatDoor.Tre
/- zero, given, counts: is an expression the zero one; does one stand there; does one count. Condition: the expression lies in memory. -/
namespace Go.Proofs.YtlhbhpdpjidpgaaGreatDoor.Tre
open Go.RowKit
set_option maxRecDepth 100000
end Go.Proofs.YtlhbhpdpjidpgaaGreatDoor.Tre
/- parts, statements: the sequences of an expression's parts, of all statements: what they give. Conditions: the trees lie in memory. -/
namespace Go.Proofs.YtlhbhpdpjidpgaaGreatDoor.Tre
open Go.RowKit
set_option maxRecDepth 100000
attribute [local go_sem] Oper.semAt_some
set_option maxHeartbeats 1000000 in
theorem parts_any (F : Fence) (m : Nat) (hF : F.fn 63) (hro : F.round = none) (e : Ex) (w : World) : CallsIn F m Tryz.prog 63 #[exV e] w fun r w' => r = .returned (.func (.func 97) #[] #[.pointer (some ⟨w.heap.size, 0, none⟩)]) ∧ w' = w.alloc (.cells #[.int .i64 e.op, .int .i64 e.n, .string e.s, .string e.q, .slice e.a e.x.length e.c] 36) := by
  rw [exV_eq]
  generalize e.x.length = k at *
  refine callsIn_of_wp Tryz.func63 rfl hF ?_ hro
  simp only [Tryz.ntmps63, List.size_toArray, List.length_cons, List.length_nil, Nat.reduceAdd, Nat.reduceSub, Array.replicate_succ, Array.replicate_zero, List.push_toArray, List.append_toArray, List.nil_append, List.cons_append]
  gi_wp2
  go_ret
  exact ⟨rfl, rfl⟩
set_option maxHeartbeats 1000000 in
theorem statements_any (F : Fence) (m : Nat) (hF : F.fn 62) (hro : F.round = none) (A : Option Addr) (n c : Nat) (w : World) : CallsIn F m Tryz.prog 62 #[.slice A n c] w fun r w' => r = .returned (.func (.func 95) #[] #[.pointer (some ⟨w.heap.size, 0, none⟩)]) ∧ w' = w.alloc (.cells #[.slice A n c] 45) := by
  refine callsIn_of_wp Tryz.func62 rfl hF ?_ hro
  simp only [Tryz.ntmps62, List.size_toArray, List.length_cons, List.length_nil, Nat.reduceAdd, Nat.reduceSub, Array.replicate_succ, Array.replicate_zero, List.push_toArray, List.append_toArray, List.nil_append, List.cons_append]
  gi_wp2
  go_ret
  exact ⟨rfl, rfl⟩
theorem map_at {α : Type} {f : α → Value} {l : List α} {k : Nat} {x : α} (h : l[k]? = some x) : (l.map f)[k]? = some (f x) := by simp [h]
end Go.Proofs.YtlhbhpdpjidpgaaGreatDoor.Tre
