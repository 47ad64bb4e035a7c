/-
  What a file that came in comes to. No condition beyond the form's own.
-/
import Derived.Test.YtbhgbgaeaejnhaaQ01
import Derived.Test.YtbhgbgaeaejnhaaQ03
import Derived.Deep.Slices
import Derived.Deep.Fields
import Derived.ChangeSlices
import Derived.ProofKit
import Derived.OpenShut
import Derived.ChangeSame
import Derived.Lib.SmallJoins
import Derived.Maps.AppendAt
import Derived.Deep.AppendLies
namespace Go.Proofs.Ytbhgbgaeaejnhaa
open Go.Joins Go.RowKit Go.ChangeShapes Go.WideShapes Go.ChangeAt Go.Deep Tre
set_option maxRecDepth 100000
namespace Tre
/-- Numbers that an int64 holds. -/
inductive NumX : Tx → Prop where
  | mk (op n : Int) (s q : List UInt8) (x : List Tx) (h : n ≤ 9223372036854775807) (hx : ∀ y ∈ x, NumX y) : NumX (.mk op n s q x)
inductive NumS : Ts → Prop where
  | mk (op : Int) (s : List UInt8) (e : Tx) (b b2 : List Ts) (he : NumX e) (hb : ∀ y ∈ b, NumS y) (hb2 : ∀ y ∈ b2, NumS y) : NumS (.mk op s e b b2)
def NumF (f : Tf) : Prop := ∀ y ∈ f.b, NumS y
def NumL (f : Tl) : Prop := ∀ g ∈ f.f, NumF g
theorem plain_at (b off j : Nat) : (⟨b, off, none⟩ : Addr).add j = ⟨b, off + j, none⟩ := by unfold Addr.add; split <;> simp_all
end Tre
theorem cellsX : Try.prog.cellsOf 90 = 5 := by kernel_rfl
theorem cellsS : Try.prog.cellsOf 92 = 9 := by kernel_rfl
theorem cellsP : Try.prog.cellsOf 64 = 2 := by kernel_rfl
theorem cellsF : Try.prog.cellsOf 42 = 4 := by kernel_rfl
theorem cellsI : Try.prog.cellsOf 3 = 1 := by kernel_rfl
theorem cellsI64 : Try.prog.cellsOf 2 = 1 := by kernel_rfl
theorem cellsStr : Try.prog.cellsOf 9 = 1 := by kernel_rfl
theorem cellsTy : Try.prog.cellsOf 31 = 1 := by kernel_rfl
theorem cellsLX : Try.prog.cellsOf 88 = 1 := by kernel_rfl
theorem cellsLS : Try.prog.cellsOf 40 = 1 := by kernel_rfl
theorem cellsLP : Try.prog.cellsOf 39 = 1 := by kernel_rfl
theorem i64_most {a : Int} (h : (Lit.int .i64 a).wf = true) : a ≤ 9223372036854775807 := by
  have : -9223372036854775808 ≤ a ∧ a ≤ 9223372036854775807 := by simpa [Lit.wf, IntKind.min, IntKind.max, IntKind.signed, IntKind.bits] using h
  exact this.2
theorem cell_in {w : World} {a : Addr} {v : Value} (h : w.cell? a = some v) : a.block < w.heap.size := World.block_lt_of_cell? w a h
theorem one_of {cs : List Value} {i : Nat} (h : i < cs.length) : (cs.drop i).take 1 = [cs[i]] := by
  rw [List.drop_eq_getElem_cons h]
  rfl
section
variable {H : Type} {enc : TypeId × Value → H} {w : World} {base : Nat} {spare : Nat → Bool} {held : Bool}
/-- A slice that came in, of elements that read as something. -/
theorem open_row {α : Type} {T e : TypeId} {k : Nat} {C : α → List Value} {Q : α → Prop} (dflt : α) (hT : Try.prog.underlying T = some (.slice e)) (hk : Try.prog.cellsOf e = k) (hk0 : 0 < k) (hC : ∀ x, (C x).length = k) {fuel : Nat} {v : Value} {x : DataW H × List MemPlace} (h : DataW.trod enc Try.prog w base spare held fuel T [v] = some x)
    (HE : ∀ (n : Nat) (cs : List Value) (y : DataW H × List MemPlace), n < fuel → DataW.trod enc Try.prog w base spare held n e cs = some y → ∃ z, cs = C z ∧ Q z) :
    ∃ (a : Option Addr) (c : Nat) (l : List α), v = .slice a l.length c ∧ Row k C w a l ∧ l.length ≤ most ∧ l.length ≤ c ∧ ∀ z ∈ l, Q z := by
  rcases DataW.trod_slice hT h with ⟨e1, _⟩ | ⟨a, len, cap, elems, rest, n, hf, e1, _, _, hlc, hcm, hel, hat, _, _⟩
  · injection e1 with e1
    exact ⟨none, 0, [], e1, Row.nil _ _ _ _, Nat.zero_le _, Nat.zero_le _, fun z hz => by simp at hz⟩
  · injection e1 with e1
    have hx : ∀ i, i < len → ∃ z, (∀ r u, (C z)[r]? = some u → w.cell? ((a.add (i * k)).add r) = some u) ∧ Q z := fun i hi => by
      have h1 := hat i hi
      rw [List.getElem?_eq_getElem (by omega)] at h1
      obtain ⟨cs, h2, h3⟩ := Option.bind_eq_some_iff.1 h1
      obtain ⟨z, hz, hq⟩ := HE n cs _ (by omega) h3
      rw [hk] at h2
      obtain ⟨_, hcl, hcc⟩ := World.cells?_some h2
      refine ⟨z, fun r u hu => ?_, hq⟩
      have hr : r < k := by have := (List.getElem?_eq_some_iff.1 hu).1; rwa [hC] at this
      rw [hcc r hr, hz]
      exact hu
    classical
    let f : Nat → α := fun i => if h : i < len then (hx i h).choose else dflt
    have hf : ∀ i, i < len → (∀ r u, (C (f i))[r]? = some u → w.cell? ((a.add (i * k)).add r) = some u) ∧ Q (f i) := fun i h => by
      show (∀ r u, (C (if h : i < len then (hx i h).choose else dflt))[r]? = some u → _) ∧ Q (if h : i < len then (hx i h).choose else dflt)
      rw [dif_pos h]
      exact (hx i h).choose_spec
    have hm : len ≤ most := by unfold maxLen at hcm; unfold most; omega
    refine ⟨some a, cap, (List.range len).map f, by rw [e1]; simp, fun h0 => ?_, by simpa using hm, by simpa using hlc, fun z hz => ?_⟩
    · have h0' : 0 < len := by simpa using h0
      obtain ⟨b, o, sp⟩ := a
      obtain ⟨u, hu⟩ : ∃ u, (C (f 0))[0]? = some u := ⟨_, List.getElem?_eq_getElem (by rw [hC]; exact hk0)⟩
      have hc := (hf 0 h0').1 0 u hu
      have hsp : sp = none := by simpa [Addr.add] using World.cell?_spot hc
      subst hsp
      refine ⟨b, o, rfl, by simpa [Addr.add] using cell_in hc, fun j x hj r u hu => ?_⟩
      have hjn : j < len := by
        have := (List.getElem?_eq_some_iff.1 hj).1
        simpa using this
      obtain rfl : f j = x := by
        rw [List.getElem?_map, List.getElem?_range hjn] at hj
        simpa using hj
      have := (hf j hjn).1 r u hu
      rwa [plain_at, plain_at] at this
    · obtain ⟨i, hi, rfl⟩ := List.mem_map.1 hz
      exact (hf i (by simpa using hi)).2
theorem exC_len' (e : Ex) : (exC e).length = 5 := by cases e; rfl
theorem stC_len' (e : St) : (stC e).length = 9 := by obtain ⟨o, s, ⟨eo, en, es, eq, ea, ec, ex⟩, a, c, b, a2, c2, b2⟩ := e; rfl
/-- An expression. -/
def InX (w : World) (e : Ex) : Prop := ExIn w e ∧ NumX (core e)
theorem open_ex : ∀ (fuel : Nat) (cs : List Value) (x : DataW H × List MemPlace), DataW.trod enc Try.prog w base spare held fuel 90 cs = some x → ∃ e : Ex, cs = exC e ∧ InX w e := fun fuel => by
  induction fuel using Nat.strongRecOn with
  | ind fuel ih =>
    intro cs x h
    obtain ⟨ys, n, hfu, _, hcl, hyl, hf⟩ := DataW.trod_struct Try.underlying90 h
    rw [cellsX] at hcl
    have hyl5 : ys.length = 5 := hyl
    have f0 : DataW.trod enc Try.prog w base spare held n 3 ((cs.drop 0).take (Try.prog.cellsOf 3)) = ys[0]? := hf 0 _ rfl
    have f1 : DataW.trod enc Try.prog w base spare held n 2 ((cs.drop 1).take (Try.prog.cellsOf 2)) = ys[1]? := hf 1 _ rfl
    have f2 : DataW.trod enc Try.prog w base spare held n 9 ((cs.drop 2).take (Try.prog.cellsOf 9)) = ys[2]? := hf 2 _ rfl
    have f3 : DataW.trod enc Try.prog w base spare held n 9 ((cs.drop 3).take (Try.prog.cellsOf 9)) = ys[3]? := hf 3 _ rfl
    have f4 : DataW.trod enc Try.prog w base spare held n 88 ((cs.drop 4).take (Try.prog.cellsOf 88)) = ys[4]? := hf 4 _ rfl
    rw [cellsI] at f0
    rw [cellsI64] at f1
    rw [cellsStr] at f2 f3
    rw [cellsLX] at f4
    match cs, hcl with
    | [c0, c1, c2, c3, c4], _ =>
      simp only [List.drop, List.take] at f0 f1 f2 f3 f4
      rw [List.getElem?_eq_getElem (by omega)] at f0 f1 f2 f3 f4
      obtain ⟨n0, g0, _, _⟩ := DataW.trod_int Try.underlying3 f0
      obtain ⟨n1, g1, _, w1⟩ := DataW.trod_int Try.underlying2 f1
      obtain ⟨s2, g2, _, l2⟩ := DataW.trod_string Try.underlying9 f2
      obtain ⟨s3, g3, _, l3⟩ := DataW.trod_string Try.underlying9 f3
      obtain ⟨a, c, l, e4, hrow, hlm, hlc, hq⟩ := open_row nilX Try.underlying88 cellsX (by decide) exC_len' f4 (fun m cs y hm hy => ih m (by omega) cs y hy)
      injection g0 with g0
      injection g1 with g1
      injection g2 with g2
      injection g3 with g3
      subst g0 g1 g2 g3 e4
      refine ⟨.mk n0 n1 s2 s3 a c l, rfl, ExIn.mk ⟨hrow, hlm, hlc, l2, l3⟩ (fun x hx => (hq x hx).1), ?_⟩
      rw [core_eq]
      refine .mk _ _ _ _ _ (i64_most w1) (fun y hy => ?_)
      obtain ⟨x, hx, rfl⟩ := List.mem_map.1 hy
      exact (hq x hx).2
/-- A statement. -/
def InS (w : World) (s : St) : Prop := StIn w s ∧ NumS (coreS s)
def nilS : St := .mk 0 ⟨#[]⟩ nilX none 0 [] none 0 []
theorem open_st : ∀ (fuel : Nat) (cs : List Value) (x : DataW H × List MemPlace), DataW.trod enc Try.prog w base spare held fuel 92 cs = some x → ∃ s : St, cs = stC s ∧ InS w s := fun fuel => by
  induction fuel using Nat.strongRecOn with
  | ind fuel ih =>
    intro cs x h
    obtain ⟨ys, n, hfu, _, hcl, hyl, hf⟩ := DataW.trod_struct Try.underlying92 h
    rw [cellsS] at hcl
    have hyl5 : ys.length = 5 := hyl
    have f0 : DataW.trod enc Try.prog w base spare held n 3 ((cs.drop 0).take (Try.prog.cellsOf 3)) = ys[0]? := hf 0 _ rfl
    have f1 : DataW.trod enc Try.prog w base spare held n 9 ((cs.drop 1).take (Try.prog.cellsOf 9)) = ys[1]? := hf 1 _ rfl
    have f2 : DataW.trod enc Try.prog w base spare held n 90 ((cs.drop 2).take (Try.prog.cellsOf 90)) = ys[2]? := hf 2 _ rfl
    have f3 : DataW.trod enc Try.prog w base spare held n 40 ((cs.drop 7).take (Try.prog.cellsOf 40)) = ys[3]? := hf 3 _ rfl
    have f4 : DataW.trod enc Try.prog w base spare held n 40 ((cs.drop 8).take (Try.prog.cellsOf 40)) = ys[4]? := hf 4 _ rfl
    rw [cellsI] at f0
    rw [cellsStr] at f1
    rw [cellsX] at f2
    rw [cellsLS] at f3 f4
    match cs, hcl with
    | [c0, c1, c2, c3, c4, c5, c6, c7, c8], _ =>
      simp only [List.drop, List.take] at f0 f1 f2 f3 f4
      rw [List.getElem?_eq_getElem (by omega)] at f0 f1 f2 f3 f4
      obtain ⟨n0, g0, _, _⟩ := DataW.trod_int Try.underlying3 f0
      obtain ⟨s1, g1, _, l1⟩ := DataW.trod_string Try.underlying9 f1
      obtain ⟨e, g2, hein, helo⟩ := open_ex n _ _ f2
      obtain ⟨a, c, l, e3, hrow, hlm, _, hq⟩ := open_row nilS Try.underlying40 cellsS (by decide) stC_len' f3 (fun m cs y hm hy => ih m (by omega) cs y hy)
      obtain ⟨a2, d2, l2, e4, hrow2, hlm2, _, hq2⟩ := open_row nilS Try.underlying40 cellsS (by decide) stC_len' f4 (fun m cs y hm hy => ih m (by omega) cs y hy)
      obtain ⟨eo, en, es, eq, ea, ec, ex⟩ := e
      injection g0 with g0
      injection g1 with g1
      simp only [exC, List.cons.injEq, and_true] at g2
      obtain ⟨g2, g3, g4, g5, g6⟩ := g2
      subst g0 g1 g2 g3 g4 g5 g6 e3 e4
      refine ⟨.mk n0 s1 (.mk eo en es eq ea ec ex) a c l a2 d2 l2, rfl, StIn.mk ⟨hein, hrow, hrow2, hlm, hlm2, l1⟩ (fun x hx => ?_), ?_⟩
      · rcases hx with hx | hx
        · exact (hq x hx).1
        · exact (hq2 x hx).1
      · rw [coreS_eq]
        refine .mk _ _ _ _ _ helo (fun y hy => ?_) (fun y hy => ?_)
        · obtain ⟨x, hx, rfl⟩ := List.mem_map.1 hy
          exact (hq x hx).2
        · obtain ⟨x, hx, rfl⟩ := List.mem_map.1 hy
          exact (hq2 x hx).2
theorem open_par (fuel : Nat) (cs : List Value) (x : DataW H × List MemPlace) (h : DataW.trod enc Try.prog w base spare held fuel 64 cs = some x) : ∃ p : Par, cs = parC p ∧ p.s.size ≤ maxLen := by
  obtain ⟨ys, n, hfu, _, hcl, hyl, hf⟩ := DataW.trod_struct Try.underlying64 h
  rw [cellsP] at hcl
  have hyl5 : ys.length = 2 := hyl
  have f0 : DataW.trod enc Try.prog w base spare held n 9 ((cs.drop 0).take (Try.prog.cellsOf 9)) = ys[0]? := hf 0 _ rfl
  have f1 : DataW.trod enc Try.prog w base spare held n 31 ((cs.drop 1).take (Try.prog.cellsOf 31)) = ys[1]? := hf 1 _ rfl
  rw [cellsStr] at f0
  rw [cellsTy] at f1
  match cs, hcl with
  | [c0, c1], _ =>
    simp only [List.drop, List.take] at f0 f1
    rw [List.getElem?_eq_getElem (by omega)] at f0 f1
    obtain ⟨s0, g0, _, l0⟩ := DataW.trod_string Try.underlying9 f0
    obtain ⟨n1, g1, _, _⟩ := DataW.trod_int Try.underlying31 f1
    injection g0 with g0
    injection g1 with g1
    subst g0 g1
    exact ⟨⟨s0, n1⟩, rfl, l0⟩
/-- A function. -/
def InF (w : World) (f : Tre.Fn) : Prop := FnIn w f ∧ NumF (coreF f)
def nilF : Tre.Fn := ⟨⟨#[]⟩, none, 0, [], 0, none, 0, []⟩
theorem open_fn (fuel : Nat) (cs : List Value) (x : DataW H × List MemPlace) (h : DataW.trod enc Try.prog w base spare held fuel 42 cs = some x) : ∃ f : Tre.Fn, cs = fnC f ∧ InF w f := by
  obtain ⟨ys, n, hfu, _, hcl, hyl, hf⟩ := DataW.trod_struct Try.underlying42 h
  rw [cellsF] at hcl
  have hyl5 : ys.length = 4 := hyl
  have f0 : DataW.trod enc Try.prog w base spare held n 9 ((cs.drop 0).take (Try.prog.cellsOf 9)) = ys[0]? := hf 0 _ rfl
  have f1 : DataW.trod enc Try.prog w base spare held n 39 ((cs.drop 1).take (Try.prog.cellsOf 39)) = ys[1]? := hf 1 _ rfl
  have f2 : DataW.trod enc Try.prog w base spare held n 31 ((cs.drop 2).take (Try.prog.cellsOf 31)) = ys[2]? := hf 2 _ rfl
  have f3 : DataW.trod enc Try.prog w base spare held n 40 ((cs.drop 3).take (Try.prog.cellsOf 40)) = ys[3]? := hf 3 _ rfl
  rw [cellsStr] at f0
  rw [cellsLP] at f1
  rw [cellsTy] at f2
  rw [cellsLS] at f3
  match cs, hcl with
  | [c0, c1, c2, c3], _ =>
    simp only [List.drop, List.take] at f0 f1 f2 f3
    rw [List.getElem?_eq_getElem (by omega)] at f0 f1 f2 f3
    obtain ⟨s0, g0, _, l0⟩ := DataW.trod_string Try.underlying9 f0
    obtain ⟨a, c, l, e1, hrow, hlm, _, hq⟩ := open_row (⟨⟨#[]⟩, 0⟩ : Par) Try.underlying39 cellsP (by decide) (fun x => rfl) f1 (fun m cs y _ hy => open_par m cs y hy)
    obtain ⟨n2, g2, _, _⟩ := DataW.trod_int Try.underlying31 f2
    obtain ⟨a2, d2, l2, e3, hrow2, hlm2, _, hq2⟩ := open_row nilS Try.underlying40 cellsS (by decide) stC_len' f3 (fun m cs y _ hy => open_st m cs y hy)
    injection g0 with g0
    injection g2 with g2
    subst g0 e1 g2 e3
    refine ⟨⟨s0, a, c, l, n2, a2, d2, l2⟩, rfl, ⟨hrow, hrow2, fun s hs => (hq2 s hs).1, hlm, hlm2, l0, hq⟩, fun y hy => ?_⟩
    obtain ⟨x, hx, rfl⟩ := List.mem_map.1 hy
    exact (hq2 x hx).2
theorem open_tx (fuel : Nat) (cs : List Value) (x : DataW H × List MemPlace) (h : DataW.trod enc Try.prog w base spare held fuel 9 cs = some x) : ∃ s : ByteArray, cs = txC s ∧ s.size ≤ maxLen := by
  obtain ⟨s0, g0, _, l0⟩ := DataW.trod_string Try.underlying9 h
  exact ⟨s0, g0, l0⟩
/-- A file, by value. -/
theorem open_file {r : Reach} {b0 : Nat} {v : Value} {d : DataW H} {p : List MemPlace} (hv : Value.okWide Try.prog w r b0 25 v) (h : DataW.Trod enc Try.prog w base spare held 25 v d p) :
    ∃ f : Fl, v = flV f ∧ FlIn w f ∧ NumL (coreL f) := by
  obtain ⟨v0, v1, v2, y0, y1, y2, n, rfl, _, _, t0, t1, t2⟩ := open_agg3 Try.underlying25 (by kernel_rfl) (by kernel_rfl) hv h
  obtain ⟨s0, g0, _, l0⟩ := DataW.trod_string Try.underlying9 t0
  obtain ⟨a, c, l, e1, hrow, hlm, _, hq⟩ := open_row (⟨#[]⟩ : ByteArray) Try.underlying22 cellsStr (by decide) (fun x => rfl) t1 (fun m cs y _ hy => open_tx m cs y hy)
  obtain ⟨a2, d2, l2, e3, hrow2, hlm2, _, hq2⟩ := open_row nilF Try.underlying23 cellsF (by decide) (fun x => rfl) t2 (fun m cs y _ hy => open_fn m cs y hy)
  injection g0 with g0
  subst g0 e1 e3
  refine ⟨⟨s0, a, c, l, a2, d2, l2⟩, rfl, ⟨hrow, hrow2, fun g hg => (hq2 g hg).1, hlm, hlm2, l0, hq⟩, fun g hg => ?_⟩
  obtain ⟨x, hx, rfl⟩ := List.mem_map.1 hg
  exact (hq2 x hx).2
end
end Go.Proofs.Ytbhgbgaeaejnhaa
/- Rows of the call's own, of any element: what they read as; one more element behind the others. Conditions: sizes. -/
namespace Go.Proofs.Ytbhgbgaeaejnhaa.OwnR
open Go.RowKit Tre
set_option maxRecDepth 100000
set_option linter.unusedSimpArgs false
variable {lo : Nat} {α : Type} {k : Nat} {C : α → List Value} {T : TypeId}
/-- A row of the call's own, from block lo on. -/
def OwnG (k : Nat) (C : α → List Value) (T : TypeId) (w : World) (lo : Nat) (v : Value) (l : List α) : Prop := w.ownsRow lo T k v l.length (l.flatMap C)
theorem OwnG.nil (w : World) (lo : Nat) : OwnG k C T w lo (.slice none 0 0) [] := World.ownsRow_nil _ _ _ _
theorem OwnG.form {w : World} {v : Value} {l : List α} (h : OwnG k C T w lo v l) : ∃ A c, v = .slice A l.length c ∧ l.length ≤ c ∧ ∀ ad, A = some ad → ∃ b, ad = ⟨b, 0, none⟩ := by
  rcases h.2 with ⟨e1, e2⟩ | ⟨g, cap, cur, e, _, _, hc, _⟩
  · exact ⟨none, 0, by rw [e1, e2], by omega, fun ad e => by cases e⟩
  · exact ⟨_, cap, e, hc, fun ad e => by injection e with e; exact ⟨g, e.symm⟩⟩
theorem flat_get (hC : ∀ x, (C x).length = k) : ∀ (l : List α) (p r : Nat), r < k → (l.flatMap C)[p * k + r]? = (l[p]?).bind fun x => (C x)[r]?
  | [], p, r, _ => by simp
  | x :: l, 0, r, hr => by
    rw [List.flatMap_cons, List.getElem?_append_left (by rw [hC]; omega)]
    simp
  | x :: l, p + 1, r, hr => by
    rw [List.flatMap_cons, List.getElem?_append_right (by rw [hC, Nat.add_mul]; omega), hC, show (p + 1) * k + r - k = p * k + r by rw [Nat.add_mul]; omega, flat_get hC l p r hr]
    simp
theorem OwnG.row (hC : ∀ x, (C x).length = k) {w : World} {A : Option Addr} {n c : Nat} {l : List α} (h : OwnG k C T w lo (.slice A n c) l) : Row k C w A l := fun h0 => by
  obtain ⟨g, cap, hv, _, hlt⟩ := World.ownsRow.form h h0
  injection hv with e1 e2 e3
  subst e1
  have hc := World.ownsRow.cells h (g := g) rfl
  refine ⟨g, 0, rfl, hlt, fun j x hx r u hu => ?_⟩
  have hr : r < k := by have := (List.getElem?_eq_some_iff.1 hu).1; rwa [hC] at this
  have := hc (j * k + r) u (by rw [flat_get hC l j r hr, hx]; exact hu)
  rw [plain_at] at this
  rwa [Nat.add_assoc]
theorem OwnG.keep {w w' : World} {v : Value} {l : List α} (h : OwnG k C T w lo v l) (hb : ∀ g, v.ownBlock = some g → w'.heap[g]? = w.heap[g]?) : OwnG k C T w' lo v l := by
  refine ⟨h.1, ?_⟩
  rcases h.2 with h2 | ⟨g, cap, cur, e, hlo, hh, r⟩
  · exact .inl h2
  · exact .inr ⟨g, cap, cur, e, hlo, (hb g (by rw [e]; rfl)).trans hh, r⟩
theorem OwnG.lt {w : World} {v : Value} {l : List α} (h : OwnG k C T w lo v l) : ∀ b, v.ownBlock = some b → lo ≤ b ∧ b < w.heap.size := World.ownsRow.lt h
/-- One more behind a row. -/
theorem OwnG.app {P : Program} {L : TypeId} {i : TypeInfo} {z : Value} {bytes : Nat} (hL : P.underlying L = some (.slice T)) (hi : P.info? T = some i) (hz : i.zero = some z) (hk : i.size = k) (hby : i.bytes = bytes) (hzs : z.cells.size = k) (h0 : 0 < k)
    (hC : ∀ x, (C x).length = k) (h1 : ∀ x, ∀ u ∈ C x, u.oneCell' = true) (w : World) (v : Value) (l : List α) (x : α) (eb : Nat) (h : OwnG k C T w lo v l) (he : w.heap[eb]? = some (.cells (C x).toArray T (0, 0))) (hl : l.length ≤ 1000000) (hb : bytes ≤ 10000) (hlo : lo ≤ w.heap.size) :
    ∃ v2 w2, (∀ ty, (Builtin.append_ #[L, L] ty #[v, .slice (some ⟨eb, 0, none⟩) 1 1]).run P w = .ok v2 w2) ∧ OwnG k C T w2 lo v2 (l ++ [x]) ∧ w.grownBy w2 v.ownBlock ∧ (v2.ownBlock = v.ownBlock ∨ v2.ownBlock = some w.heap.size) := by
  have hm : (l.length + 1) * bytes ≤ 1000001 * 10000 := Nat.mul_le_mul (by omega) hb
  obtain ⟨v2, w2, hrun, r1, r2, _, r4⟩ := run_append_own_at (P := P) (w := w) lo L T T i z k bytes hL hi hz hk hby hzs h0 v l.length (l.flatMap C) h ⟨eb, 0, none⟩ 1 1 (C x) (by rw [hC]; omega) (fun j u hu => by
    rw [plain_at, Nat.zero_add, cell_at he]
    simpa using hu) (h1 x) (by unfold maxLen; omega) (by omega) hlo
  exact ⟨v2, w2, fun _ => hrun, by unfold OwnG; rw [List.flatMap_append, List.length_append]; simpa using r1, r2, r4⟩
/-- A whole row behind a row. -/
theorem OwnG.apps {P : Program} {L : TypeId} {i : TypeInfo} {z : Value} {bytes : Nat} (hL : P.underlying L = some (.slice T)) (hi : P.info? T = some i) (hz : i.zero = some z) (hk : i.size = k) (hby : i.bytes = bytes) (hzs : z.cells.size = k) (h0 : 0 < k)
    (hC : ∀ x, (C x).length = k) (h1 : ∀ x, ∀ u ∈ C x, u.oneCell' = true) (w : World) (v : Value) (l m : List α) (b o c : Nat) (h : OwnG k C T w lo v l) (he : Row k C w (some ⟨b, o, none⟩) m) (hl : l.length + m.length ≤ 1000000) (hb : bytes ≤ 10000) (hlo : lo ≤ w.heap.size) :
    ∃ v2 w2, (∀ ty, (Builtin.append_ #[L, L] ty #[v, .slice (some ⟨b, o, none⟩) m.length c]).run P w = .ok v2 w2) ∧ OwnG k C T w2 lo v2 (l ++ m) ∧ w.grownBy w2 v.ownBlock ∧ (v2.ownBlock = v.ownBlock ∨ v2.ownBlock = some w.heap.size) := by
  have hm : (l.length + m.length) * bytes ≤ 1000000 * 10000 := Nat.mul_le_mul hl hb
  have hlen : (m.flatMap C).length = m.length * k := by
    clear he hl hm
    induction m with
    | nil => simp
    | cons x m ih => rw [List.flatMap_cons, List.length_append, hC, ih, List.length_cons, Nat.add_mul]; omega
  obtain ⟨v2, w2, hrun, r1, r2, _, r4⟩ := run_append_own_at (P := P) (w := w) lo L T T i z k bytes hL hi hz hk hby hzs h0 v l.length (l.flatMap C) h ⟨b, o, none⟩ m.length c (m.flatMap C) hlen (fun j u hu => by
    have hj : j < m.length * k := by have := (List.getElem?_eq_some_iff.1 hu).1; rwa [hlen] at this
    have hr : j % k < k := Nat.mod_lt _ h0
    have hq : j / k < m.length := (Nat.div_lt_iff_lt_mul h0).2 hj
    obtain ⟨b', o', e, _, hc⟩ := he (Nat.lt_of_le_of_lt (Nat.zero_le _) hq)
    injection e with e
    injection e with e1 e2
    subst e1 e2
    have hd : j / k * k + j % k = j := by rw [Nat.mul_comm]; exact Nat.div_add_mod j k
    rw [← hd, flat_get hC m (j / k) (j % k) hr, List.getElem?_eq_getElem hq] at hu
    have := hc (j / k) _ (List.getElem?_eq_getElem hq) (j % k) u hu
    rw [plain_at]
    rwa [Nat.add_assoc, hd] at this) (fun u hu => by
      rw [List.mem_flatMap] at hu
      obtain ⟨x, _, hx⟩ := hu
      exact h1 x u hx) (by unfold maxLen; omega) (by omega) hlo
  exact ⟨v2, w2, fun _ => hrun, by unfold OwnG; rw [List.flatMap_append, List.length_append]; exact r1, r2, r4⟩
end Go.Proofs.Ytbhgbgaeaejnhaa.OwnR
