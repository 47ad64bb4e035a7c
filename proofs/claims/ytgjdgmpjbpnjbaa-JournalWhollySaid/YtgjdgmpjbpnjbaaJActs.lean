/-
  Acts, and ints, that came in: where they lie; what a slice of them comes to. No condition beyond the form's own.
-/
import Derived.Test.YtgjdgmpjbpnjbaaK11
import Derived.Deep.Slices
import Derived.Deep.Fields
import Derived.ChangeSlices
import Derived.ProofKit
import Derived.OpenShut
import Derived.ChangeSame
namespace Go.Proofs.Ytgjdgmpjbpnjbaa.Jou
open Go.RowKit Codec FrameM Cod JourM Go.ChangeShapes Go.WideShapes Go.ChangeAt Go.Deep
open Disk (Turn Dk Dsk ptr Now Made Nums fresh)
set_option maxRecDepth 100000
/-- The slice of n ints at A is zs; it lies below base. -/
def NumsB (w : World) (base : Nat) (A : Option Addr) (n : Nat) (zs : List Int) : Prop :=
  zs.length = n ∧ (0 < n → ∃ b off, A = some ⟨b, off, none⟩ ∧ b < base ∧ ∀ j, j < n → w.cell? ⟨b, off + j, none⟩ = some (.int .i64 (zs.getD j 0)))
theorem NumsB.nums {w w' : World} {base : Nat} {A : Option Addr} {n : Nat} {zs : List Int} (h : NumsB w base A n zs) (hb : Below base w w') (hs : base ≤ w'.heap.size) {S : List Nat} (hS : ∀ k ∈ S, base ≤ k) : Nums w' S A n zs :=
  ⟨h.1, fun hn => by
    obtain ⟨b, off, e, hlt, hc⟩ := h.2 hn
    exact ⟨b, off, e, fun hm => by have := hS b hm; omega, by omega, fun j hj => (World.cell?_of_block (w := w) (hb.block b hlt)).trans (hc j hj)⟩⟩
/-- An act, and where its slices lie. -/
structure ActR where
  kind : Int
  num : Int
  Ab : Option Addr
  cb : Nat
  bs : List UInt8
  Al : Option Addr
  nl : Nat
  cl : Nat
  ls : List (List UInt8)
  Af : Option Addr
  nf : Nat
  cf : Nat
  fs : List Int
structure ActIn (w : World) (base : Nat) (b o : Nat) (x : ActR) : Prop where
  low : b < base
  c0 : w.cell? ⟨b, o, none⟩ = some (.int .i64 x.kind)
  c1 : w.cell? ⟨b, o + 1, none⟩ = some (.int .i64 x.num)
  c2 : w.cell? ⟨b, o + 2, none⟩ = some (.slice x.Ab x.bs.length x.cb)
  c3 : w.cell? ⟨b, o + 3, none⟩ = some (.slice x.Al x.nl x.cl)
  c4 : w.cell? ⟨b, o + 4, none⟩ = some (.slice x.Af x.nf x.cf)
  byts : Byts w base x.Ab x.bs.length x.bs
  bc : x.bs.length ≤ x.cb
  bm : x.cb ≤ maxLen
  rows : Frm.Rows w base x.Al x.nl x.ls
  rm : x.nl ≤ maxLen
  nums : NumsB w base x.Af x.nf x.fs
  fm : x.nf ≤ maxLen
  n1 : -9223372036854775808 ≤ x.num
  n2 : x.num ≤ 9223372036854775807
theorem NumsB.below {w w' : World} {base : Nat} {A : Option Addr} {n : Nat} {zs : List Int} (h : NumsB w base A n zs) (hb : Below base w w') : NumsB w' base A n zs :=
  ⟨h.1, fun hn => by
    obtain ⟨b, off, e, hlt, hc⟩ := h.2 hn
    exact ⟨b, off, e, hlt, fun j hj => (World.cell?_of_block (w := w) (hb.block b hlt)).trans (hc j hj)⟩⟩
theorem ActIn.below {w w' : World} {base b o : Nat} {x : ActR} (h : ActIn w base b o x) (hb : Below base w w') : ActIn w' base b o x := by
  have e : ∀ q, w'.cell? ⟨b, q, none⟩ = w.cell? ⟨b, q, none⟩ := fun q => World.cell?_of_block (w := w) (hb.block b h.low)
  exact ⟨h.low, (e _).trans h.c0, (e _).trans h.c1, (e _).trans h.c2, (e _).trans h.c3, (e _).trans h.c4, h.byts.below hb, h.bc, h.bm, h.rows.below hb, h.rm, h.nums.below hb, h.fm, h.n1, h.n2⟩
def ActAt (w : World) (base : Nat) (A : Option Addr) (n k : Nat) (x : ActR) (b o : Nat) : Prop :=
  (∀ c w', (Instr.indexAt 22 (.slice A n c) (.int .i64 k)).run Try.prog w' = .ok (.pointer (some ⟨b, o, none⟩)) w') ∧ ActIn w base b o x
def Acts (w : World) (base : Nat) (A : Option Addr) (n : Nat) : Prop := ∀ k, k < n → ∃ x b o, ActAt w base A n k x b o
theorem Acts.below {w w' : World} {base n : Nat} {A : Option Addr} (h : Acts w base A n) (hb : Below base w w') : Acts w' base A n := fun k hk => by
  obtain ⟨x, b, o, h1, h2⟩ := h k hk
  exact ⟨x, b, o, h1, h2.below hb⟩
theorem cell_low {w : World} {a : Addr} {v : Value} (h : w.cell? a = some v) : a.block < w.heap.size := by
  rcases Nat.lt_or_ge a.block w.heap.size with h' | h'
  · exact h'
  · simp [World.cell?, Array.getElem?_eq_none h'] at h
theorem one_field {cs : List Value} {i : Nat} (h : i < cs.length) : (cs.drop i).take 1 = [cs[i]] := by
  rw [List.drop_eq_getElem_cons h]
  rfl
section
variable {H : Type} {enc : TypeId × Value → H} {w : World} {base : Nat} {spare : Nat → Bool} {held : Bool}
theorem open_cell {fuel : Nat} {cs : List Value} {x : DataW H × List MemPlace} (h : DataW.trod enc Try.prog w base spare held fuel 35 cs = some x) :
    ∃ A n c bs, cs = [.slice A n c] ∧ n ≤ c ∧ c ≤ maxLen ∧ Byts w w.heap.size A n bs := by
  rcases open_ints Try.underlying35 Try.underlying5 (by kernel_rfl) h with ⟨hcs, _⟩ | ⟨a, len, cap, zs, hcs, _, hl, hm, hz, _, hc, hw⟩
  · exact ⟨none, 0, 0, [], hcs, Nat.le_refl _, Nat.zero_le _, Byts.none_⟩
  · refine ⟨some a, len, cap, (zs.take len).map fun z => UInt8.ofNat z.toNat, hcs, hl, hm, ?_, fun h0 => ?_⟩
    · have : len ≤ zs.length := by rw [hz]; split <;> omega
      simp
      omega
    · obtain ⟨b, off, spot⟩ := a
      have hzl : len ≤ zs.length := by rw [hz]; split <;> omega
      have hspot : spot = none := by simpa [Addr.add] using World.cell?_spot (hc 0 (by omega))
      subst hspot
      refine ⟨b, off, rfl, by simpa [Addr.add] using cell_low (hc 0 (by omega)), fun j hj => ?_⟩
      have h1 := hc j (by omega)
      rw [plain_add] at h1
      rw [h1]
      have hj2 : j < zs.length := by omega
      have hb := hw zs[j] (List.getElem_mem hj2)
      have hb2 : 0 ≤ zs[j] ∧ zs[j] ≤ 255 := by simpa [Lit.wf, show IntKind.u8.min = 0 from rfl, show IntKind.u8.max = 255 from rfl] using hb
      simp [byt, List.getD_eq_getElem?_getD, hj, hj2]
      omega
theorem open_rows {fuel : Nat} {cs : List Value} {x : DataW H × List MemPlace} (h : DataW.trod enc Try.prog w base spare held fuel 34 cs = some x) :
    ∃ A n c ls, cs = [.slice A n c] ∧ n ≤ maxLen ∧ Frm.Rows w w.heap.size A n ls := by
  rcases open_slice Try.underlying34 h with ⟨hcs, _⟩ | ⟨a, n, cap, m, _, D, Pl, hcs, _, hl, hm, hmm, _, hi⟩
  · exact ⟨none, 0, 0, [], hcs, Nat.zero_le _, Frm.Rows.none_⟩
  · have k24 : Try.prog.cellsOf 35 = 1 := by kernel_rfl
    have hx : ∀ i, i < n → ∃ bs : List UInt8, ∃ Aj cj, w.cell? (a.add i) = some (.slice Aj bs.length cj) ∧ Byts w w.heap.size Aj bs.length bs ∧ bs.length ≤ cj ∧ cj ≤ maxLen := fun i hin => by
      have hmn : i < m := by rw [hmm]; split <;> omega
      obtain ⟨cs', h1, h2⟩ := hi i hmn
      rw [k24, Nat.mul_one] at h1
      obtain ⟨Aj, nj, cj, bs, hcs, hle, hcm, hb⟩ := open_cell h2
      obtain ⟨_, _, hat⟩ := World.cells?_some h1
      have h0 := hat 0 (by decide)
      rw [hcs] at h0
      have hl := hb.len
      subst hl
      exact ⟨bs, Aj, cj, by simpa [Addr.add] using h0, hb, hle, hcm⟩
    classical
    let f : Nat → List UInt8 := fun i => if h : i < n then (hx i h).choose else []
    have hf : ∀ i, i < n → ∃ Aj cj, w.cell? (a.add i) = some (.slice Aj (f i).length cj) ∧ Byts w w.heap.size Aj (f i).length (f i) ∧ (f i).length ≤ cj ∧ cj ≤ maxLen := fun i h => by
      have e : f i = (hx i h).choose := dif_pos h
      rw [e]
      exact (hx i h).choose_spec
    have hg : ∀ i, i < n → ((List.range n).map f).getD i [] = f i := fun i h => by simp [List.getD_eq_getElem?_getD, h]
    refine ⟨some a, n, cap, (List.range n).map f, hcs, by omega, by simp, fun h0 => ?_⟩
    obtain ⟨b, off, spot⟩ := a
    obtain ⟨A0, c0, q0, _⟩ := hf 0 h0
    have hspot : spot = none := by simpa [Addr.add] using World.cell?_spot q0
    subst hspot
    refine ⟨b, off, rfl, by simpa [Addr.add] using cell_low q0, fun j hj => ?_⟩
    rw [hg j hj]
    obtain ⟨Aj, cj, q1, q2, q3, q4⟩ := hf j hj
    rw [plain_add] at q1
    exact ⟨Aj, cj, q1, q2, q3, q4⟩
theorem open_numc {fuel : Nat} {cs : List Value} {x : DataW H × List MemPlace} (h : DataW.trod enc Try.prog w base spare held fuel 23 cs = some x) :
    ∃ A n c zs, cs = [.slice A n c] ∧ n ≤ maxLen ∧ NumsB w w.heap.size A n zs ∧ ∀ z ∈ zs, -9223372036854775808 ≤ z ∧ z ≤ 9223372036854775807 := by
  rcases open_ints Try.underlying23 Try.underlying3 (by kernel_rfl) h with ⟨hcs, _⟩ | ⟨a, len, cap, zs, hcs, _, hl, hm, hz, _, hc, hw⟩
  · exact ⟨none, 0, 0, [], hcs, Nat.zero_le _, ⟨rfl, fun h => absurd h (by omega)⟩, by simp⟩
  · have hzl : len ≤ zs.length := by rw [hz]; split <;> omega
    refine ⟨some a, len, cap, zs.take len, hcs, by omega, ⟨by simp; omega, fun h0 => ?_⟩, fun z hz => ?_⟩
    · obtain ⟨b, off, spot⟩ := a
      have hspot : spot = none := by simpa [Addr.add] using World.cell?_spot (hc 0 (by omega))
      subst hspot
      refine ⟨b, off, rfl, by simpa [Addr.add] using cell_low (hc 0 (by omega)), fun j hj => ?_⟩
      have h1 := hc j (by omega)
      rw [plain_add] at h1
      rw [h1]
      simp [List.getD_eq_getElem?_getD, hj]
    · have := hw z (List.mem_of_mem_take hz)
      simpa [Lit.wf, IntKind.min, IntKind.max, IntKind.signed, IntKind.bits] using this
theorem open_nums {fuel : Nat} {A : Option Addr} {n c : Nat} {x : DataW H × List MemPlace} (h : DataW.trod enc Try.prog w base spare held fuel 23 [.slice A n c] = some x) :
    n ≤ maxLen ∧ ∃ zs, NumsB w w.heap.size A n zs ∧ ∀ z ∈ zs, -9223372036854775808 ≤ z ∧ z ≤ 9223372036854775807 := by
  obtain ⟨A', n', c', zs, hcs, h1, h2⟩ := open_numc h
  injection hcs with hcs
  injection hcs with e1 e2 e3
  subst e1 e2 e3
  exact ⟨h1, zs, h2⟩
theorem open_act {fuel : Nat} {a : Addr} {cs : List Value} {x : DataW H × List MemPlace} (hc : w.cells? base a 5 = some cs) (h : DataW.trod enc Try.prog w base spare held fuel 37 cs = some x) : ∃ b o it, a = ⟨b, o, none⟩ ∧ ActIn w w.heap.size b o it := by
  obtain ⟨b, o, sp⟩ := a
  obtain ⟨_, hcl, hat⟩ := World.cells?_some hc
  obtain ⟨ys, n', _, _, _, hyl, hf⟩ := DataW.trod_struct Try.underlying37 h
  have hyl5 : ys.length = 5 := hyl
  have f0 : DataW.trod enc Try.prog w base spare held n' 3 ((cs.drop 0).take (Try.prog.cellsOf 3)) = ys[0]? := hf 0 _ rfl
  have f1 : DataW.trod enc Try.prog w base spare held n' 3 ((cs.drop 1).take (Try.prog.cellsOf 3)) = ys[1]? := hf 1 _ rfl
  have f2 : DataW.trod enc Try.prog w base spare held n' 35 ((cs.drop 2).take (Try.prog.cellsOf 35)) = ys[2]? := hf 2 _ rfl
  have f3 : DataW.trod enc Try.prog w base spare held n' 34 ((cs.drop 3).take (Try.prog.cellsOf 34)) = ys[3]? := hf 3 _ rfl
  have f4 : DataW.trod enc Try.prog w base spare held n' 23 ((cs.drop 4).take (Try.prog.cellsOf 23)) = ys[4]? := hf 4 _ rfl
  have k0 : Try.prog.cellsOf 3 = 1 := by kernel_rfl
  have k2 : Try.prog.cellsOf 35 = 1 := by kernel_rfl
  have k3 : Try.prog.cellsOf 34 = 1 := by kernel_rfl
  have k4 : Try.prog.cellsOf 23 = 1 := by kernel_rfl
  rw [k0] at f0 f1
  rw [k2] at f2
  rw [k3] at f3
  rw [k4] at f4
  rw [one_field (by omega)] at f0 f1 f2 f3 f4
  obtain ⟨y0, e0⟩ : ∃ y, ys[0]? = some y := ⟨ys[0]'(by omega), List.getElem?_eq_getElem _⟩
  obtain ⟨y1, e1⟩ : ∃ y, ys[1]? = some y := ⟨ys[1]'(by omega), List.getElem?_eq_getElem _⟩
  obtain ⟨y2, e2⟩ : ∃ y, ys[2]? = some y := ⟨ys[2]'(by omega), List.getElem?_eq_getElem _⟩
  obtain ⟨y3, e3⟩ : ∃ y, ys[3]? = some y := ⟨ys[3]'(by omega), List.getElem?_eq_getElem _⟩
  obtain ⟨y4, e4⟩ : ∃ y, ys[4]? = some y := ⟨ys[4]'(by omega), List.getElem?_eq_getElem _⟩
  obtain ⟨n0, g0, _, _⟩ := DataW.trod_int Try.underlying3 (f0.trans e0)
  obtain ⟨n1, g1, _, h1⟩ := DataW.trod_int Try.underlying3 (f1.trans e1)
  obtain ⟨Ab, nb, cb, bs, g2, b1, b2, b3⟩ := open_cell (f2.trans e2)
  obtain ⟨Al, nl, cl, ls, g3, l1, l2⟩ := open_rows (f3.trans e3)
  obtain ⟨Af, nf, cf, fs, g4, q1, q2, _⟩ := open_numc (f4.trans e4)
  injection g0 with g0
  injection g1 with g1
  injection g2 with g2
  injection g3 with g3
  injection g4 with g4
  have a0 := hat 0 (by decide)
  have a1 := hat 1 (by decide)
  have a2 := hat 2 (by decide)
  have a3 := hat 3 (by decide)
  have a4 := hat 4 (by decide)
  rw [List.getElem?_eq_getElem (by omega), g0] at a0
  rw [List.getElem?_eq_getElem (by omega), g1] at a1
  rw [List.getElem?_eq_getElem (by omega), g2] at a2
  rw [List.getElem?_eq_getElem (by omega), g3] at a3
  rw [List.getElem?_eq_getElem (by omega), g4] at a4
  have hsp : sp = none := by simpa [Addr.add] using World.cell?_spot a0
  subst hsp
  have hl := b3.len
  subst hl
  rw [plain_add] at a0 a1 a2 a3 a4
  have h1' : -9223372036854775808 ≤ n1 ∧ n1 ≤ 9223372036854775807 := by simpa [Lit.wf, IntKind.min, IntKind.max, IntKind.signed, IntKind.bits] using h1
  exact ⟨b, o, ⟨n0, n1, Ab, cb, bs, Al, nl, cl, ls, Af, nf, cf, fs⟩, rfl, cell_low a0, a0, a1, a2, a3, a4, b3, b1, b2, l2, l1, q2, q1, h1'.1, h1'.2⟩
theorem open_acts {fuel : Nat} {A : Option Addr} {n c : Nat} {x : DataW H × List MemPlace} (h : DataW.trod enc Try.prog w base spare held fuel 22 [.slice A n c] = some x) :
    n ≤ maxLen ∧ Acts w w.heap.size A n := by
  rcases open_slice Try.underlying22 h with ⟨hcs, _⟩ | ⟨a, len, cap, m, _, D, Pl, hcs, _, hl, hm, hmm, _, hi⟩
  · injection hcs with hcs
    injection hcs with h1 h2 h3
    subst h1 h2 h3
    exact ⟨by omega, fun k hk => absurd hk (by omega)⟩
  · injection hcs with hcs
    injection hcs with h1 h2 h3
    subst h1 h2 h3
    refine ⟨by omega, fun k hk => ?_⟩
    have k32 : Try.prog.cellsOf 37 = 5 := by kernel_rfl
    have hmn : k < m := by rw [hmm]; split <;> omega
    obtain ⟨b, off, spot⟩ := a
    obtain ⟨cs', h1, h2⟩ := hi k hmn
    rw [k32] at h1
    have hspot : spot = none := by
      obtain ⟨cs0, z1, z2⟩ := hi 0 (by omega)
      rw [k32, Nat.zero_mul] at z1
      have z1' : w.cells? base ⟨b, off, spot⟩ 5 = some cs0 := by simpa [Addr.add] using z1
      obtain ⟨_, _, _, e, _⟩ := open_act z1' z2
      injection e
    subst hspot
    rw [plain_add] at h1
    obtain ⟨b', o', it, e, hit⟩ := open_act h1 h2
    injection e with e1 e2 _
    subst e1 e2
    refine ⟨it, b, off + k * 5, fun c w' => ?_, hit⟩
    have hs : ∀ W, (Go.sizeOf 37).run Try.prog W = .ok 5 W := fun W => by kernel_rfl
    simp [Instr.indexAt, asIntOf, run_underlying Try.underlying22, Result.andThen, Addr.add_mid]
    intro h1
    omega
end
end Go.Proofs.Ytgjdgmpjbpnjbaa.Jou
