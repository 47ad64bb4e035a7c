/-
  What a file that came in comes to. No condition beyond the form's own.
-/
import Derived.Test.YtmihlmlojmdhjaaGreatDoorQ05
import Derived.Test.YtmihlmlojmdhjaaGreatDoorQ08
import Derived.Test.YtmihlmlojmdhjaaGreatDoorQ31
import Derived.Test.YtmihlmlojmdhjaaGreatDoorQ36
import Derived.Test.YtmihlmlojmdhjaaGreatDoorQ39
import Derived.Deep.Slices
import Derived.Deep.Fields
import Derived.ChangeSlices
import Derived.ProofKit
import Derived.OpenShut
import Derived.ChangeSame
import Derived.Lib.SmallJoins
import Derived.Test.YtmihlmlojmdhjaaGreatDoorCards
import Derived.Test.YtmihlmlojmdhjaaGreatDoorTie
import Derived.ChangeOld
import Derived.Below
import Derived.Carry
import Derived.WalkKit
import Derived.Deep.DeepHandedRow
import Derived.Lib.LaidTab
namespace Go.Proofs.YtmihlmlojmdhjaaGreatDoor
open Go.Joins Go.RowKit Go.ChangeShapes Go.WideShapes Go.ChangeAt Go.Deep Tre
open Prg (LoX LoS LoF LoL)
set_option maxRecDepth 100000
theorem cellsX : Tryz.prog.cellsOf 42 = 5 := by kernel_rfl
theorem cellsS : Tryz.prog.cellsOf 47 = 9 := by kernel_rfl
theorem cellsP : Tryz.prog.cellsOf 38 = 2 := by kernel_rfl
theorem cellsF : Tryz.prog.cellsOf 36 = 4 := by kernel_rfl
theorem cellsI : Tryz.prog.cellsOf 3 = 1 := by kernel_rfl
theorem cellsI64 : Tryz.prog.cellsOf 2 = 1 := by kernel_rfl
theorem cellsStr : Tryz.prog.cellsOf 9 = 1 := by kernel_rfl
theorem cellsTy : Tryz.prog.cellsOf 33 = 1 := by kernel_rfl
theorem cellsLX : Tryz.prog.cellsOf 40 = 1 := by kernel_rfl
theorem cellsLS : Tryz.prog.cellsOf 34 = 1 := by kernel_rfl
theorem cellsLP : Tryz.prog.cellsOf 32 = 1 := by kernel_rfl
theorem i64_most {a : Int} (h : (Lit.int .i64 a).wf = true) : a ≤ 9223372036854775807 := by
  have : -9223372036854775808 ≤ a ∧ a ≤ 9223372036854775807 := by simpa [Lit.wf, IntKind.min, IntKind.max, IntKind.signed, IntKind.bits] using h
  exact this.2
theorem cell_in {w : World} {a : Addr} {v : Value} (h : w.cell? a = some v) : a.block < w.heap.size := World.block_lt_of_cell? w a h
theorem one_of {cs : List Value} {i : Nat} (h : i < cs.length) : (cs.drop i).take 1 = [cs[i]] := by
  rw [List.drop_eq_getElem_cons h]
  rfl
section
variable {H : Type} {enc : TypeId × Value → H} {w : World} {base : Nat} {spare : Nat → Bool} {held : Bool}
/-- A slice that came in, of elements that read as something. -/
theorem open_row {α : Type} {T e : TypeId} {k : Nat} {C : α → List Value} {Q : α → Prop} (dflt : α) (hT : Tryz.prog.underlying T = some (.slice e)) (hk : Tryz.prog.cellsOf e = k) (hk0 : 0 < k) (hC : ∀ x, (C x).length = k) {fuel : Nat} {v : Value} {x : DataW H × List MemPlace} (h : DataW.trod enc Tryz.prog w base spare held fuel T [v] = some x)
    (HE : ∀ (n : Nat) (cs : List Value) (y : DataW H × List MemPlace), n < fuel → DataW.trod enc Tryz.prog w base spare held n e cs = some y → ∃ z, cs = C z ∧ Q z) :
    ∃ (a : Option Addr) (c : Nat) (l : List α), v = .slice a l.length c ∧ Row k C w a l ∧ l.length ≤ most ∧ l.length ≤ c ∧ ∀ z ∈ l, Q z := by
  rcases DataW.trod_slice hT h with ⟨e1, _⟩ | ⟨a, len, cap, elems, rest, n, hf, e1, _, _, hlc, hcm, hel, hat, _, _⟩
  · injection e1 with e1
    exact ⟨none, 0, [], e1, Row.nil _ _ _ _, Nat.zero_le _, Nat.zero_le _, fun z hz => by simp at hz⟩
  · injection e1 with e1
    have hx : ∀ i, i < len → ∃ z, (∀ r u, (C z)[r]? = some u → w.cell? ((a.add (i * k)).add r) = some u) ∧ Q z := fun i hi => by
      have h1 := hat i hi
      rw [List.getElem?_eq_getElem (by omega)] at h1
      obtain ⟨cs, h2, h3⟩ := Option.bind_eq_some_iff.1 h1
      obtain ⟨z, hz, hq⟩ := HE n cs _ (by omega) h3
      rw [hk] at h2
      obtain ⟨_, hcl, hcc⟩ := World.cells?_some h2
      refine ⟨z, fun r u hu => ?_, hq⟩
      have hr : r < k := by have := (List.getElem?_eq_some_iff.1 hu).1; rwa [hC] at this
      rw [hcc r hr, hz]
      exact hu
    classical
    let f : Nat → α := fun i => if h : i < len then (hx i h).choose else dflt
    have hf : ∀ i, i < len → (∀ r u, (C (f i))[r]? = some u → w.cell? ((a.add (i * k)).add r) = some u) ∧ Q (f i) := fun i h => by
      show (∀ r u, (C (if h : i < len then (hx i h).choose else dflt))[r]? = some u → _) ∧ Q (if h : i < len then (hx i h).choose else dflt)
      rw [dif_pos h]
      exact (hx i h).choose_spec
    have hm : len ≤ most := by unfold maxLen at hcm; unfold most; omega
    refine ⟨some a, cap, (List.range len).map f, by rw [e1]; simp, fun h0 => ?_, by simpa using hm, by simpa using hlc, fun z hz => ?_⟩
    · have h0' : 0 < len := by simpa using h0
      obtain ⟨b, o, sp⟩ := a
      obtain ⟨u, hu⟩ : ∃ u, (C (f 0))[0]? = some u := ⟨_, List.getElem?_eq_getElem (by rw [hC]; exact hk0)⟩
      have hc := (hf 0 h0').1 0 u hu
      have hsp : sp = none := by simpa [Addr.add] using World.cell?_spot hc
      subst hsp
      refine ⟨b, o, rfl, by simpa [Addr.add] using cell_in hc, fun j x hj r u hu => ?_⟩
      have hjn : j < len := by
        have := (List.getElem?_eq_some_iff.1 hj).1
        simpa using this
      obtain rfl : f j = x := by
        rw [List.getElem?_map, List.getElem?_range hjn] at hj
        simpa using hj
      have := (hf j hjn).1 r u hu
      rwa [Lex.plain_add, Lex.plain_add] at this
    · obtain ⟨i, hi, rfl⟩ := List.mem_map.1 hz
      exact (hf i (by simpa using hi)).2
theorem exC_len' (e : Ex) : (exC e).length = 5 := by cases e; rfl
theorem stC_len' (e : St) : (stC e).length = 9 := by obtain ⟨o, s, ⟨eo, en, es, eq, ea, ec, ex⟩, a, c, b, a2, c2, b2⟩ := e; rfl
/-- An expression. -/
def InX (w : World) (e : Ex) : Prop := ExIn w e ∧ LoX (core e)
theorem open_ex : ∀ (fuel : Nat) (cs : List Value) (x : DataW H × List MemPlace), DataW.trod enc Tryz.prog w base spare held fuel 42 cs = some x → ∃ e : Ex, cs = exC e ∧ InX w e := fun fuel => by
  induction fuel using Nat.strongRecOn with
  | ind fuel ih =>
    intro cs x h
    obtain ⟨ys, n, hfu, _, hcl, hyl, hf⟩ := DataW.trod_struct Tryz.underlying42 h
    rw [cellsX] at hcl
    have hyl5 : ys.length = 5 := hyl
    have f0 : DataW.trod enc Tryz.prog w base spare held n 3 ((cs.drop 0).take (Tryz.prog.cellsOf 3)) = ys[0]? := hf 0 _ rfl
    have f1 : DataW.trod enc Tryz.prog w base spare held n 2 ((cs.drop 1).take (Tryz.prog.cellsOf 2)) = ys[1]? := hf 1 _ rfl
    have f2 : DataW.trod enc Tryz.prog w base spare held n 9 ((cs.drop 2).take (Tryz.prog.cellsOf 9)) = ys[2]? := hf 2 _ rfl
    have f3 : DataW.trod enc Tryz.prog w base spare held n 9 ((cs.drop 3).take (Tryz.prog.cellsOf 9)) = ys[3]? := hf 3 _ rfl
    have f4 : DataW.trod enc Tryz.prog w base spare held n 40 ((cs.drop 4).take (Tryz.prog.cellsOf 40)) = ys[4]? := hf 4 _ rfl
    rw [cellsI] at f0
    rw [cellsI64] at f1
    rw [cellsStr] at f2 f3
    rw [cellsLX] at f4
    match cs, hcl with
    | [c0, c1, c2, c3, c4], _ =>
      simp only [List.drop, List.take] at f0 f1 f2 f3 f4
      rw [List.getElem?_eq_getElem (by omega)] at f0 f1 f2 f3 f4
      obtain ⟨n0, g0, _, _⟩ := DataW.trod_int Tryz.underlying3 f0
      obtain ⟨n1, g1, _, w1⟩ := DataW.trod_int Tryz.underlying2 f1
      obtain ⟨s2, g2, _, l2⟩ := DataW.trod_string Tryz.underlying9 f2
      obtain ⟨s3, g3, _, l3⟩ := DataW.trod_string Tryz.underlying9 f3
      obtain ⟨a, c, l, e4, hrow, hlm, hlc, hq⟩ := open_row nilX Tryz.underlying40 cellsX (by decide) exC_len' f4 (fun m cs y hm hy => ih m (by omega) cs y hy)
      injection g0 with g0
      injection g1 with g1
      injection g2 with g2
      injection g3 with g3
      subst g0 g1 g2 g3 e4
      refine ⟨.mk n0 n1 s2 s3 a c l, rfl, ExIn.mk ⟨hrow, hlm, hlc, l2, l3⟩ (fun x hx => (hq x hx).1), ?_⟩
      rw [core_eq]
      refine .mk _ _ _ _ _ (i64_most w1) (fun y hy => ?_)
      obtain ⟨x, hx, rfl⟩ := List.mem_map.1 hy
      exact (hq x hx).2
/-- A statement. -/
def InS (w : World) (s : St) : Prop := StIn w s ∧ LoS (coreS s)
def nilS : St := .mk 0 ⟨#[]⟩ nilX none 0 [] none 0 []
theorem open_st : ∀ (fuel : Nat) (cs : List Value) (x : DataW H × List MemPlace), DataW.trod enc Tryz.prog w base spare held fuel 47 cs = some x → ∃ s : St, cs = stC s ∧ InS w s := fun fuel => by
  induction fuel using Nat.strongRecOn with
  | ind fuel ih =>
    intro cs x h
    obtain ⟨ys, n, hfu, _, hcl, hyl, hf⟩ := DataW.trod_struct Tryz.underlying47 h
    rw [cellsS] at hcl
    have hyl5 : ys.length = 5 := hyl
    have f0 : DataW.trod enc Tryz.prog w base spare held n 3 ((cs.drop 0).take (Tryz.prog.cellsOf 3)) = ys[0]? := hf 0 _ rfl
    have f1 : DataW.trod enc Tryz.prog w base spare held n 9 ((cs.drop 1).take (Tryz.prog.cellsOf 9)) = ys[1]? := hf 1 _ rfl
    have f2 : DataW.trod enc Tryz.prog w base spare held n 42 ((cs.drop 2).take (Tryz.prog.cellsOf 42)) = ys[2]? := hf 2 _ rfl
    have f3 : DataW.trod enc Tryz.prog w base spare held n 34 ((cs.drop 7).take (Tryz.prog.cellsOf 34)) = ys[3]? := hf 3 _ rfl
    have f4 : DataW.trod enc Tryz.prog w base spare held n 34 ((cs.drop 8).take (Tryz.prog.cellsOf 34)) = ys[4]? := hf 4 _ rfl
    rw [cellsI] at f0
    rw [cellsStr] at f1
    rw [cellsX] at f2
    rw [cellsLS] at f3 f4
    match cs, hcl with
    | [c0, c1, c2, c3, c4, c5, c6, c7, c8], _ =>
      simp only [List.drop, List.take] at f0 f1 f2 f3 f4
      rw [List.getElem?_eq_getElem (by omega)] at f0 f1 f2 f3 f4
      obtain ⟨n0, g0, _, _⟩ := DataW.trod_int Tryz.underlying3 f0
      obtain ⟨s1, g1, _, l1⟩ := DataW.trod_string Tryz.underlying9 f1
      obtain ⟨e, g2, hein, helo⟩ := open_ex n _ _ f2
      obtain ⟨a, c, l, e3, hrow, hlm, _, hq⟩ := open_row nilS Tryz.underlying34 cellsS (by decide) stC_len' f3 (fun m cs y hm hy => ih m (by omega) cs y hy)
      obtain ⟨a2, d2, l2, e4, hrow2, hlm2, _, hq2⟩ := open_row nilS Tryz.underlying34 cellsS (by decide) stC_len' f4 (fun m cs y hm hy => ih m (by omega) cs y hy)
      obtain ⟨eo, en, es, eq, ea, ec, ex⟩ := e
      injection g0 with g0
      injection g1 with g1
      simp only [exC, List.cons.injEq, and_true] at g2
      obtain ⟨g2, g3, g4, g5, g6⟩ := g2
      subst g0 g1 g2 g3 g4 g5 g6 e3 e4
      refine ⟨.mk n0 s1 (.mk eo en es eq ea ec ex) a c l a2 d2 l2, rfl, StIn.mk ⟨hein, hrow, hrow2, hlm, hlm2, l1⟩ (fun x hx => ?_), ?_⟩
      · rcases hx with hx | hx
        · exact (hq x hx).1
        · exact (hq2 x hx).1
      · rw [coreS_eq]
        refine .mk _ _ _ _ _ (fun _ => helo) (fun y hy => ?_) (fun y hy => ?_)
        · obtain ⟨x, hx, rfl⟩ := List.mem_map.1 hy
          exact (hq x hx).2
        · obtain ⟨x, hx, rfl⟩ := List.mem_map.1 hy
          exact (hq2 x hx).2
theorem open_par (fuel : Nat) (cs : List Value) (x : DataW H × List MemPlace) (h : DataW.trod enc Tryz.prog w base spare held fuel 38 cs = some x) : ∃ p : Par, cs = parC p ∧ p.s.size ≤ maxLen := by
  obtain ⟨ys, n, hfu, _, hcl, hyl, hf⟩ := DataW.trod_struct Tryz.underlying38 h
  rw [cellsP] at hcl
  have hyl5 : ys.length = 2 := hyl
  have f0 : DataW.trod enc Tryz.prog w base spare held n 9 ((cs.drop 0).take (Tryz.prog.cellsOf 9)) = ys[0]? := hf 0 _ rfl
  have f1 : DataW.trod enc Tryz.prog w base spare held n 33 ((cs.drop 1).take (Tryz.prog.cellsOf 33)) = ys[1]? := hf 1 _ rfl
  rw [cellsStr] at f0
  rw [cellsTy] at f1
  match cs, hcl with
  | [c0, c1], _ =>
    simp only [List.drop, List.take] at f0 f1
    rw [List.getElem?_eq_getElem (by omega)] at f0 f1
    obtain ⟨s0, g0, _, l0⟩ := DataW.trod_string Tryz.underlying9 f0
    obtain ⟨n1, g1, _, _⟩ := DataW.trod_int Tryz.underlying33 f1
    injection g0 with g0
    injection g1 with g1
    subst g0 g1
    exact ⟨⟨s0, n1⟩, rfl, l0⟩
/-- A function. -/
def InF (w : World) (f : Tre.Fn) : Prop := FnIn w f ∧ LoF (coreF f)
def nilF : Tre.Fn := ⟨⟨#[]⟩, none, 0, [], 0, none, 0, []⟩
theorem open_fn (fuel : Nat) (cs : List Value) (x : DataW H × List MemPlace) (h : DataW.trod enc Tryz.prog w base spare held fuel 36 cs = some x) : ∃ f : Tre.Fn, cs = fnC f ∧ InF w f := by
  obtain ⟨ys, n, hfu, _, hcl, hyl, hf⟩ := DataW.trod_struct Tryz.underlying36 h
  rw [cellsF] at hcl
  have hyl5 : ys.length = 4 := hyl
  have f0 : DataW.trod enc Tryz.prog w base spare held n 9 ((cs.drop 0).take (Tryz.prog.cellsOf 9)) = ys[0]? := hf 0 _ rfl
  have f1 : DataW.trod enc Tryz.prog w base spare held n 32 ((cs.drop 1).take (Tryz.prog.cellsOf 32)) = ys[1]? := hf 1 _ rfl
  have f2 : DataW.trod enc Tryz.prog w base spare held n 33 ((cs.drop 2).take (Tryz.prog.cellsOf 33)) = ys[2]? := hf 2 _ rfl
  have f3 : DataW.trod enc Tryz.prog w base spare held n 34 ((cs.drop 3).take (Tryz.prog.cellsOf 34)) = ys[3]? := hf 3 _ rfl
  rw [cellsStr] at f0
  rw [cellsLP] at f1
  rw [cellsTy] at f2
  rw [cellsLS] at f3
  match cs, hcl with
  | [c0, c1, c2, c3], _ =>
    simp only [List.drop, List.take] at f0 f1 f2 f3
    rw [List.getElem?_eq_getElem (by omega)] at f0 f1 f2 f3
    obtain ⟨s0, g0, _, l0⟩ := DataW.trod_string Tryz.underlying9 f0
    obtain ⟨a, c, l, e1, hrow, hlm, _, hq⟩ := open_row (⟨⟨#[]⟩, 0⟩ : Par) Tryz.underlying32 cellsP (by decide) (fun x => rfl) f1 (fun m cs y _ hy => open_par m cs y hy)
    obtain ⟨n2, g2, _, _⟩ := DataW.trod_int Tryz.underlying33 f2
    obtain ⟨a2, d2, l2, e3, hrow2, hlm2, _, hq2⟩ := open_row nilS Tryz.underlying34 cellsS (by decide) stC_len' f3 (fun m cs y _ hy => open_st m cs y hy)
    injection g0 with g0
    injection g2 with g2
    subst g0 e1 g2 e3
    refine ⟨⟨s0, a, c, l, n2, a2, d2, l2⟩, rfl, ⟨hrow, hrow2, fun s hs => (hq2 s hs).1, hlm, hlm2, l0, hq⟩, fun y hy => ?_⟩
    obtain ⟨x, hx, rfl⟩ := List.mem_map.1 hy
    exact (hq2 x hx).2
theorem open_tx (fuel : Nat) (cs : List Value) (x : DataW H × List MemPlace) (h : DataW.trod enc Tryz.prog w base spare held fuel 9 cs = some x) : ∃ s : ByteArray, cs = txC s ∧ s.size ≤ maxLen := by
  obtain ⟨s0, g0, _, l0⟩ := DataW.trod_string Tryz.underlying9 h
  exact ⟨s0, g0, l0⟩
/-- A file, by value. -/
theorem open_file {r : Reach} {b0 : Nat} {v : Value} {d : DataW H} {p : List MemPlace} (hv : Value.okWide Tryz.prog w r b0 25 v) (h : DataW.Trod enc Tryz.prog w base spare held 25 v d p) :
    ∃ f : Fl, v = flV f ∧ FlIn w f ∧ LoL (coreL f) := by
  obtain ⟨v0, v1, v2, y0, y1, y2, n, rfl, _, _, t0, t1, t2⟩ := open_agg3 Tryz.underlying25 (by kernel_rfl) (by kernel_rfl) hv h
  obtain ⟨s0, g0, _, l0⟩ := DataW.trod_string Tryz.underlying9 t0
  obtain ⟨a, c, l, e1, hrow, hlm, _, hq⟩ := open_row (⟨#[]⟩ : ByteArray) Tryz.underlying22 cellsStr (by decide) (fun x => rfl) t1 (fun m cs y _ hy => open_tx m cs y hy)
  obtain ⟨a2, d2, l2, e3, hrow2, hlm2, _, hq2⟩ := open_row nilF Tryz.underlying23 cellsF (by decide) (fun x => rfl) t2 (fun m cs y _ hy => open_fn m cs y hy)
  injection g0 with g0
  subst g0 e1 e3
  refine ⟨⟨s0, a, c, l, a2, d2, l2⟩, rfl, ⟨hrow, hrow2, fun g hg => (hq2 g hg).1, hlm, hlm2, l0, hq⟩, fun g hg => ?_⟩
  obtain ⟨x, hx, rfl⟩ := List.mem_map.1 hg
  exact (hq2 x hx).2
end
end Go.Proofs.YtmihlmlojmdhjaaGreatDoor
/- PrintBack: a file that is printed is parsed as it was, if its text is not too long, nor too deep; what a text tells is printed, parsed and printed as it is (P1104, of at most 300 nodes; texts of at most 1500 bytes). Conditions: the tables of the library and the three tables of signs hold what their initialisers lay (the card ties that to the program's text). -/
namespace Go.Proofs.YtmihlmlojmdhjaaGreatDoor
open Go.ChangeShapes Go.WideShapes Go.ChangeAt Go.ChangeMaps Go.WideMaps Go.WideElems Go.RowKit
namespace PrintBack
theorem own : ownKnob Tryz.prog.godebug = none := by kernel_rfl
theorem laidOut : laidOutB Tryz.prog = true := by kernel_rfl
set_option maxHeartbeats 2000000 in
set_option maxRecDepth 100000 in
theorem contract (H : Type) (enc : TypeId × Value → H) (W : World) (base : Nat) (args : Array Value) (ds gs : List (DataW H)) (before : List MemPlace)
    (hval : ∀ (j : Nat) t v, Tryz.f3.params[j]? = some t → args[j]? = some v → Value.okWide Tryz.prog W .any base t v)
    (hW : DataW.Whole enc Tryz.prog Tryz.f3.params.toList Rows.printBackSpec.vars false W args.toList ds gs before) (hL : laidMetH Tryz.prog Rows.printBackRow.laid W) :
    Calls Tryz.prog 3 args W fun e W' => ∃ v, e = .returned v ∧ Rows.printBackSpec.post enc Tryz.prog Tryz.f3 false true false false W args v W' := by
  have hW' := hW
  obtain ⟨p, q, hA0, hV, rfl, hfz, hnd⟩ := hW
  have hA : DataW.TrodAll enc Tryz.prog W 0 (fun _ => true) true Tryz.f3.params.toList args.toList ds p := hA0
  rw [Tryz.params3] at hA hval
  obtain ⟨v0, vs0, d0, ds0, p0, q0, hargs, rfl, rfl, h0, r0⟩ := trodAll_cons hA
  obtain ⟨v1, vs1, d1, ds1, p1, q1, rfl, rfl, rfl, h1, r1⟩ := trodAll_cons r0
  obtain ⟨rfl, rfl, rfl⟩ := trodAll_nil r1
  obtain rfl : args = #[v0, v1] := Array.toList_inj.1 hargs
  obtain ⟨rfl, rfl⟩ := trodVars_none hV
  obtain ⟨a1, rfl, rfl, rfl, w1⟩ := open_string Tryz.underlying9 (hval 1 9 v1 rfl rfl) h1
  have k0 := h0
  have lt0 : ∀ x ∈ p0, x.block < W.heap.size := by obtain ⟨m, hm⟩ := k0; exact DataW.trod_lt m _ _ _ hm
  obtain ⟨m0, rfl, o0⟩ := open_file (hval 0 25 v0 rfl rfl) h0
  clear hA0
  refine (Wr.printBack_str m0 a1 W o0.1 (tabs_of rfl hL) o0.2).mono fun e W' ⟨he, hb⟩ => ?_
  subst he
  exact ⟨_, rfl, _, _, _, [], _, [], hW', trodAll_cons_mk (shut_bool Tryz.underlying4 _) trodAll_mk0, (trodAll_cons_mk (Below.trod laidOut (by kernel_rfl) (of_decide_eq_true (by kernel_rfl)) k0 hb lt0) (trodAll_cons_mk (shut_string Tryz.underlying9 w1) trodAll_mk0)), rfl, hb.frame _, fun h => by cases h⟩

theorem laid_met (os : Os) : laidMet Tryz.prog Rows.printBackRow.laid ((laidWorld os).forCall (fun _ _ => 0) ⟨#[], #[.agg #[.string ByteArray.empty, .slice none 0 0, .slice none 0 0], .string ByteArray.empty], []⟩).memory :=
  laidMet_of_run' 8 (by kernel_rfl) (by kernel_rfl)
theorem reads (os : Os) {H : Type} (enc : TypeId × Value → H) : ∃ places, DataW.whole enc Tryz.prog ((laidWorld os).forCall (fun _ _ => 0) ⟨#[], #[.agg #[.string ByteArray.empty, .slice none 0 0, .slice none 0 0], .string ByteArray.empty], []⟩).memory Tryz.f3.params.toList Rows.printBackSpec.vars false (#[.agg #[.string ByteArray.empty, .slice none 0 0, .slice none 0 0], .string ByteArray.empty] : Array Value).toList 8 = some ([.agg [.lit (.string []), .nil, .nil], .lit (.string [])], [], places) :=
  ⟨[], by kernel_rfl⟩
set_option maxRecDepth 100000 in
theorem lifted (os : Os) (started : os.Started) (H : Type) (enc : TypeId × Value → H) (F : Stop.Interp) :
    ReturnsInHanded {} Tryz.checked os 3 .any ((OpenSpec.ofChange Rows.printBackSpec).preRow enc Tryz.prog Tryz.f3 Rows.printBackRow.domain false Rows.printBackRow.laid) (((OpenSpec.ofChange Rows.printBackSpec).at F).post enc Tryz.prog Tryz.f3 false true false false) := by
  obtain ⟨places, hx⟩ := reads os enc
  refine returnsInHanded_of_row (C := Tryz.checked) (s := OpenSpec.ofChange Rows.printBackSpec) own started (by kernel_rfl) Tryz.func3
    (witness_row_at (enc := enc) (C := Tryz.checked) false (laidWorld os) #[.agg #[.string ByteArray.empty, .slice none 0 0, .slice none 0 0], .string ByteArray.empty] rfl (by kernel_rfl) (by kernel_rfl) (by kernel_rfl)
      (OpenSpec.preRow_of_cond 8 hx (by kernel_rfl) (fun k hk => by cases hk) (by kernel_rfl) (laid_met os))) ?_
  intro W base args ds gs before hval hW _ _ _ hL _ _
  exact contract H enc W base args ds gs before hval hW hL
theorem said : Rows.PrintBackSaid :=
  OpenClaim.holds_of_cond 3 Tryz.f3 rfl rfl rfl rfl rfl rfl rfl ⟨rfl, rfl, rfl, rfl, rfl⟩ rfl rfl rfl rfl rfl (by kernel_rfl) Tryz.func3 (by kernel_rfl)
    (of_decide_eq_true (by kernel_rfl)) (by unfold Func.isWrapper; first | (rw [if_pos (by decide +kernel)]; kernel_rfl) | (rw [if_neg (by decide +kernel)]; exact ⟨rfl, rfl⟩))
    (fun os started H enc _ F => by rw [OpenClaim.pre_eq_preRow]; exact lifted os started H enc F)
theorem plain (f : FuncId) (fn : Func) (hf : Tryz.pinned.checked.prog.funcNamed "treadmill/treadmilllaw11.PrintBack" = some f) (hfn : Tryz.pinned.checked.prog.funcs[f]? = some fn) :
    false = Tryz.pinned.checked.prog.looks [] ∧ ∀ (j : Nat) t, fn.params[j]? = some t → Tryz.pinned.checked.prog.wantsStandIn t = false := by
  obtain rfl : f = 3 := Option.some.inj ((show Tryz.prog.funcNamed "treadmill/treadmilllaw11.PrintBack" = some 3 by kernel_rfl).symm.trans hf) |>.symm
  obtain rfl : fn = Tryz.f3 := (Option.some.inj (Tryz.func3.symm.trans hfn)).symm
  refine ⟨by kernel_rfl, fun j t ht => ?_⟩
  rw [Tryz.params3] at ht
  have hm : t ∈ [25, 9] := by simpa using Array.mem_of_getElem? ht
  have hall : ([25, 9].all fun u => !Tryz.prog.wantsStandIn u) = true := by kernel_rfl
  exact (show Tryz.prog.wantsStandIn t = false by simpa using List.all_eq_true.1 hall t hm)
/-- The card. -/
theorem card : Rows.PrintBackCardSaid :=
  Claim7.holds_tied_plain_at .later [] _ _ _ _ said (fun _ h => by cases h) (by kernel_rfl) (fun _ h => by cases h) printBack_row_tie rfl ⟨rfl, rfl⟩ (by kernel_rfl) rfl plain (by kernel_rfl)
end PrintBack
end Go.Proofs.YtmihlmlojmdhjaaGreatDoor
