/-
  What a file that came in comes to. No condition beyond the form's own.
-/
import Derived.Test.YtofadlenblobnaaTCore
import Derived.Test.YtofadlenblobnaaTEqS
import Derived.Deep.Slices
import Derived.Deep.Fields
import Derived.ChangeSlices
import Derived.ProofKit
import Derived.OpenShut
import Derived.ChangeSame
import Derived.Lib.SmallJoins
namespace Go.Proofs.Ytofadlenblobnaa
open Go.Joins Go.RowKit Go.ChangeShapes Go.WideShapes Go.ChangeAt Go.Deep Tre
set_option maxRecDepth 100000
namespace Tre
/-- Numbers that an int64 holds. -/
inductive NumX : Tx → Prop where
  | mk (op n : Int) (s q : List UInt8) (x : List Tx) (h : n ≤ 9223372036854775807) (hx : ∀ y ∈ x, NumX y) : NumX (.mk op n s q x)
inductive NumS : Ts → Prop where
  | mk (op : Int) (s : List UInt8) (e : Tx) (b b2 : List Ts) (he : NumX e) (hb : ∀ y ∈ b, NumS y) (hb2 : ∀ y ∈ b2, NumS y) : NumS (.mk op s e b b2)
def NumF (f : Tf) : Prop := ∀ y ∈ f.b, NumS y
def NumL (f : Tl) : Prop := ∀ g ∈ f.f, NumF g
theorem plain_at (b off j : Nat) : (⟨b, off, none⟩ : Addr).add j = ⟨b, off + j, none⟩ := by unfold Addr.add; split <;> simp_all
end Tre
theorem cellsI : Try.prog.cellsOf 3 = 1 := by kernel_rfl
theorem cellsI64 : Try.prog.cellsOf 2 = 1 := by kernel_rfl
theorem cellsStr : Try.prog.cellsOf 9 = 1 := by kernel_rfl
theorem cellsTy : Try.prog.cellsOf 35 = 1 := by kernel_rfl
theorem i64_most {a : Int} (h : (Lit.int .i64 a).wf = true) : a ≤ 9223372036854775807 := by
  have : -9223372036854775808 ≤ a ∧ a ≤ 9223372036854775807 := by simpa [Lit.wf, IntKind.min, IntKind.max, IntKind.signed, IntKind.bits] using h
  exact this.2
theorem cell_in {w : World} {a : Addr} {v : Value} (h : w.cell? a = some v) : a.block < w.heap.size := World.block_lt_of_cell? w a h
theorem one_of {cs : List Value} {i : Nat} (h : i < cs.length) : (cs.drop i).take 1 = [cs[i]] := by
  rw [List.drop_eq_getElem_cons h]
  rfl
section
variable {H : Type} {enc : TypeId × Value → H} {w : World} {base : Nat} {spare : Nat → Bool} {held : Bool}
/-- A slice that came in, of elements that read as something. -/
theorem open_row {α : Type} {T e : TypeId} {k : Nat} {C : α → List Value} {Q : α → Prop} (dflt : α) (hT : Try.prog.underlying T = some (.slice e)) (hk : Try.prog.cellsOf e = k) (hk0 : 0 < k) (hC : ∀ x, (C x).length = k) {fuel : Nat} {v : Value} {x : DataW H × List MemPlace} (h : DataW.trod enc Try.prog w base spare held fuel T [v] = some x)
    (HE : ∀ (n : Nat) (cs : List Value) (y : DataW H × List MemPlace), n < fuel → DataW.trod enc Try.prog w base spare held n e cs = some y → ∃ z, cs = C z ∧ Q z) :
    ∃ (a : Option Addr) (c : Nat) (l : List α), v = .slice a l.length c ∧ Row k C w a l ∧ l.length ≤ most ∧ l.length ≤ c ∧ ∀ z ∈ l, Q z := by
  rcases DataW.trod_slice hT h with ⟨e1, _⟩ | ⟨a, len, cap, elems, rest, n, hf, e1, _, _, hlc, hcm, hel, hat, _, _⟩
  · injection e1 with e1
    exact ⟨none, 0, [], e1, Row.nil _ _ _ _, Nat.zero_le _, Nat.zero_le _, fun z hz => by simp at hz⟩
  · injection e1 with e1
    have hx : ∀ i, i < len → ∃ z, (∀ r u, (C z)[r]? = some u → w.cell? ((a.add (i * k)).add r) = some u) ∧ Q z := fun i hi => by
      have h1 := hat i hi
      rw [List.getElem?_eq_getElem (by omega)] at h1
      obtain ⟨cs, h2, h3⟩ := Option.bind_eq_some_iff.1 h1
      obtain ⟨z, hz, hq⟩ := HE n cs _ (by omega) h3
      rw [hk] at h2
      obtain ⟨_, hcl, hcc⟩ := World.cells?_some h2
      refine ⟨z, fun r u hu => ?_, hq⟩
      have hr : r < k := by have := (List.getElem?_eq_some_iff.1 hu).1; rwa [hC] at this
      rw [hcc r hr, hz]
      exact hu
    classical
    let f : Nat → α := fun i => if h : i < len then (hx i h).choose else dflt
    have hf : ∀ i, i < len → (∀ r u, (C (f i))[r]? = some u → w.cell? ((a.add (i * k)).add r) = some u) ∧ Q (f i) := fun i h => by
      show (∀ r u, (C (if h : i < len then (hx i h).choose else dflt))[r]? = some u → _) ∧ Q (if h : i < len then (hx i h).choose else dflt)
      rw [dif_pos h]
      exact (hx i h).choose_spec
    have hm : len ≤ most := by unfold maxLen at hcm; unfold most; omega
    refine ⟨some a, cap, (List.range len).map f, by rw [e1]; simp, fun h0 => ?_, by simpa using hm, by simpa using hlc, fun z hz => ?_⟩
    · have h0' : 0 < len := by simpa using h0
      obtain ⟨b, o, sp⟩ := a
      obtain ⟨u, hu⟩ : ∃ u, (C (f 0))[0]? = some u := ⟨_, List.getElem?_eq_getElem (by rw [hC]; exact hk0)⟩
      have hc := (hf 0 h0').1 0 u hu
      have hsp : sp = none := by simpa [Addr.add] using World.cell?_spot hc
      subst hsp
      refine ⟨b, o, rfl, by simpa [Addr.add] using cell_in hc, fun j x hj r u hu => ?_⟩
      have hjn : j < len := by
        have := (List.getElem?_eq_some_iff.1 hj).1
        simpa using this
      obtain rfl : f j = x := by
        rw [List.getElem?_map, List.getElem?_range hjn] at hj
        simpa using hj
      have := (hf j hjn).1 r u hu
      rwa [plain_at, plain_at] at this
    · obtain ⟨i, hi, rfl⟩ := List.mem_map.1 hz
      exact (hf i (by simpa using hi)).2
theorem exC_len' (e : Ex) : (exC e).length = 5 := by cases e; rfl
theorem stC_len' (e : St) : (stC e).length = 9 := by obtain ⟨o, s, ⟨eo, en, es, eq, ea, ec, ex⟩, a, c, b, a2, c2, b2⟩ := e; rfl
/-- An expression. -/
def InX (w : World) (e : Ex) : Prop := ExIn w e ∧ NumX (core e)
/-- A statement. -/
def InS (w : World) (s : St) : Prop := StIn w s ∧ NumS (coreS s)
def nilS : St := .mk 0 ⟨#[]⟩ nilX none 0 [] none 0 []
/-- A function. -/
def InF (w : World) (f : Tre.Fn) : Prop := FnIn w f ∧ NumF (coreF f)
def nilF : Tre.Fn := ⟨⟨#[]⟩, none, 0, [], 0, none, 0, []⟩
theorem open_tx (fuel : Nat) (cs : List Value) (x : DataW H × List MemPlace) (h : DataW.trod enc Try.prog w base spare held fuel 9 cs = some x) : ∃ s : ByteArray, cs = txC s ∧ s.size ≤ maxLen := by
  obtain ⟨s0, g0, _, l0⟩ := DataW.trod_string Try.underlying9 h
  exact ⟨s0, g0, l0⟩
end
end Go.Proofs.Ytofadlenblobnaa
