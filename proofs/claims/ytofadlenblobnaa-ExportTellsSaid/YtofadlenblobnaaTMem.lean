/-
  Trees in memory: what a tree is as a value, which cells lie behind it; all of it lies on where only new blocks came. No condition.
-/
import Derived.Test.YtofadlenblobnaaChecked
import Derived.Test.YtofadlenblobnaaTMath
import Derived.Below
import Derived.Lib.Hide
import Derived.WalkKit
import Derived.RangeFuncRecord
namespace Go.Proofs.Ytofadlenblobnaa.Tre
open Go.RowKit
set_option maxRecDepth 100000
/-- What a call leaves: an answer, the world as it was. -/
def EndsW (v : Value) (w : World) (e : Ending) (w' : World) : Prop := e = .returned v ∧ w' = w
/-- What a call leaves: an answer, and new blocks. -/
def EndsB (v : Value) (w : World) (e : Ending) (w' : World) : Prop := e = .returned v ∧ Below w.heap.size w w'
theorem EndsB.of {v u : Value} {w w' : World} (h : u = v) (hb : Below w.heap.size w w') : EndsB v w (.returned u) w' := ⟨by rw [h], hb⟩
theorem ends_bool {a b : Bool} {w w' : World} (h : a = b) (hb : Below w.heap.size w w') : EndsB (.bool b) w (.returned (.bool a)) w' := ⟨by rw [h], hb⟩
theorem lt_of_heap {w : World} {g : Nat} {o : Obj} (h : w.heap[g]? = some o) : g < w.heap.size := (Array.getElem?_eq_some_iff.1 h).1
theorem cell_at {w : World} {g : Nat} {cs : Array Value} {T : TypeId} (h : w.heap[g]? = some (.cells cs T (0, 0))) (i : Nat) : w.cell? ⟨g, i, none⟩ = cs[i]? := by simp [World.cell?, h]
theorem new_at (w : World) (cs : Array Value) (T : TypeId) : (w.alloc (.cells cs T)).heap[w.heap.size]? = some (.cells cs T (0, 0)) := World.alloc_heap_new w _
/-- A tree as cells; as a value. -/
def exC : Ex → List Value | .mk o n s q a c x => [.int .i64 o, .int .i64 n, .string s, .string q, .slice a x.length c]
def exV : Ex → Value | .mk o n s q a c x => .agg #[.int .i64 o, .int .i64 n, .string s, .string q, .slice a x.length c]
def stC : St → List Value | .mk o s (.mk eo en es eq ea ec ex) a c b a2 c2 b2 => [.int .i64 o, .string s, .int .i64 eo, .int .i64 en, .string es, .string eq, .slice ea ex.length ec, .slice a b.length c, .slice a2 b2.length c2]
def stV : St → Value | .mk o s (.mk eo en es eq ea ec ex) a c b a2 c2 b2 => .agg #[.int .i64 o, .string s, .int .i64 eo, .int .i64 en, .string es, .string eq, .slice ea ex.length ec, .slice a b.length c, .slice a2 b2.length c2]
def parC (p : Par) : List Value := [.string p.s, .int .u8 p.t]
def parV (p : Par) : Value := .agg #[.string p.s, .int .u8 p.t]
def fnC (f : Fn) : List Value := [.string f.s, .slice f.pa f.p.length f.pc, .int .u8 f.r, .slice f.ba f.b.length f.bc]
def fnV (f : Fn) : Value := .agg #[.string f.s, .slice f.pa f.p.length f.pc, .int .u8 f.r, .slice f.ba f.b.length f.bc]
def flV (f : Fl) : Value := .agg #[.string f.s, .slice f.ia f.i.length f.ic, .slice f.fa f.f.length f.fc]
def txC (s : ByteArray) : List Value := [.string s]
/-- A row of elements of k cells each. -/
def Row {α : Type} (k : Nat) (C : α → List Value) (w : World) (A : Option Addr) (l : List α) : Prop :=
  0 < l.length → ∃ b o, A = some ⟨b, o, none⟩ ∧ b < w.heap.size ∧ ∀ (j : Nat) (x : α), l[j]? = some x → ∀ (r : Nat) (u : Value), (C x)[r]? = some u → w.cell? ⟨b, o + j * k + r, none⟩ = some u
theorem Row.below {α : Type} {k : Nat} {C : α → List Value} {w w' : World} {A : Option Addr} {l : List α} (h : Row k C w A l) (hb : Below w.heap.size w w') : Row k C w' A l := fun h0 => by
  obtain ⟨b, o, e, hlt, hc⟩ := h h0
  exact ⟨b, o, e, Nat.lt_of_lt_of_le hlt hb.size, fun j x hx r u hu => (World.cell?_of_block (w := w) (hb.block b hlt)).trans (hc j x hx r u hu)⟩
theorem Row.nil {α : Type} (k : Nat) (C : α → List Value) (w : World) (A : Option Addr) : Row k C w A [] := fun h => by simp at h
/-- How long a row may be. -/
def most : Nat := 9223372036854775807
structure NdX (w : World) (e : Ex) : Prop where
  row : Row 5 exC w e.a e.x
  len : e.x.length ≤ most
  cap : e.x.length ≤ e.c
  s : e.s.size ≤ maxLen
  q : e.q.size ≤ maxLen
def ExIn (w : World) (e : Ex) : Prop := ∀ y ∈ flat e, NdX w y
structure NdS (w : World) (s : St) : Prop where
  e : ExIn w s.e
  row : Row 9 stC w s.a s.b
  row2 : Row 9 stC w s.a2 s.b2
  len : s.b.length ≤ most
  len2 : s.b2.length ≤ most
  s : s.s.size ≤ maxLen
def StIn (w : World) (s : St) : Prop := ∀ y ∈ flatS s, NdS w y
structure FnIn (w : World) (f : Fn) : Prop where
  p : Row 2 parC w f.pa f.p
  b : Row 9 stC w f.ba f.b
  sts : ∀ s ∈ f.b, StIn w s
  plen : f.p.length ≤ most
  blen : f.b.length ≤ most
  s : f.s.size ≤ maxLen
  ps : ∀ p ∈ f.p, p.s.size ≤ maxLen
structure FlIn (w : World) (f : Fl) : Prop where
  irow : Row 1 txC w f.ia f.i
  frow : Row 4 fnC w f.fa f.f
  fns : ∀ g ∈ f.f, FnIn w g
  ilen : f.i.length ≤ most
  flen : f.f.length ≤ most
  s : f.s.size ≤ maxLen
  is : ∀ s ∈ f.i, s.size ≤ maxLen
section
variable {w w' : World}
theorem NdX.below {e : Ex} (h : NdX w e) (hb : Below w.heap.size w w') : NdX w' e := ⟨h.row.below hb, h.len, h.cap, h.s, h.q⟩
theorem ExIn.below {e : Ex} (h : ExIn w e) (hb : Below w.heap.size w w') : ExIn w' e := fun y hy => (h y hy).below hb
theorem ExIn.nd {e : Ex} (h : ExIn w e) : NdX w e := h e (mem_flat e)
theorem ExIn.part {e x : Ex} (h : ExIn w e) (hx : x ∈ e.x) : ExIn w x := fun y hy => h y (flat_sub hx hy)
theorem ExIn.mk {e : Ex} (h : NdX w e) (hx : ∀ x ∈ e.x, ExIn w x) : ExIn w e := fun y hy => by
  rw [flat_eq] at hy
  rcases List.mem_cons.1 hy with rfl | hy
  · exact h
  · obtain ⟨x, hx1, hx2⟩ := List.mem_flatMap.1 hy
    exact hx x hx1 y hx2
theorem NdS.below {s : St} (h : NdS w s) (hb : Below w.heap.size w w') : NdS w' s := by
  exact ⟨h.e.below hb, h.row.below hb, h.row2.below hb, h.len, h.len2, h.s⟩
theorem StIn.below {s : St} (h : StIn w s) (hb : Below w.heap.size w w') : StIn w' s := fun y hy => (h y hy).below hb
theorem StIn.nd {s : St} (h : StIn w s) : NdS w s := h s (mem_flatS s)
theorem StIn.part {s x : St} (h : StIn w s) (hx : x ∈ s.b ∨ x ∈ s.b2) : StIn w x := fun y hy => h y (flatS_sub hx hy)
theorem StIn.mk {s : St} (h : NdS w s) (hx : ∀ x, x ∈ s.b ∨ x ∈ s.b2 → StIn w x) : StIn w s := fun y hy => by
  rw [flatS_eq] at hy
  rcases List.mem_cons.1 hy with rfl | hy
  · exact h
  · rcases List.mem_append.1 hy with hy | hy <;> obtain ⟨x, hx1, hx2⟩ := List.mem_flatMap.1 hy
    · exact hx x (.inl hx1) y hx2
    · exact hx x (.inr hx1) y hx2
theorem FnIn.below {f : Fn} (h : FnIn w f) (hb : Below w.heap.size w w') : FnIn w' f := ⟨h.p.below hb, h.b.below hb, fun s hs => (h.sts s hs).below hb, h.plen, h.blen, h.s, h.ps⟩
theorem FlIn.below {f : Fl} (h : FlIn w f) (hb : Below w.heap.size w w') : FlIn w' f := ⟨h.irow.below hb, h.frow.below hb, fun s hs => (h.fns s hs).below hb, h.ilen, h.flen, h.s, h.is⟩
end
end Go.Proofs.Ytofadlenblobnaa.Tre
