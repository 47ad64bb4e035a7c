/-
  Texts JActs, JLight, JMore, RRow, RGrp, RLrd, in one file. What each proves, and its conditions, stand at its head below.
-/
import Derived.Test.YtdjhlhellkajfaaGreatM24
import Derived.Test.YtdjhlhellkajfaaGreatM25
import Derived.Test.YtdjhlhellkajfaaGreatM30
import Derived.Test.YtdjhlhellkajfaaGreatM34
import Derived.Test.YtdjhlhellkajfaaGreatM36
import Derived.Deep.Slices
import Derived.Deep.Fields
import Derived.ChangeSlices
import Derived.ProofKit
import Derived.OpenShut
import Derived.ChangeSame
import Derived.Deep.DeepCutAuto
/-
  Acts, and ints, that came in: where they lie; what a slice of them comes to. No condition beyond the form's own.
-/
namespace Go.Proofs.YtdjhlhellkajfaaGreat.Jou
open Go.RowKit Codec FrameM Cod JourM Go.ChangeShapes Go.WideShapes Go.ChangeAt Go.Deep
open Disk (Turn Dk Dsk ptr Now Made Nums fresh)
set_option maxRecDepth 100000
/-- The slice of n ints at A is zs; it lies below base. -/
def NumsB (w : World) (base : Nat) (A : Option Addr) (n : Nat) (zs : List Int) : Prop :=
  zs.length = n ∧ (0 < n → ∃ b off, A = some ⟨b, off, none⟩ ∧ b < base ∧ ∀ j, j < n → w.cell? ⟨b, off + j, none⟩ = some (.int .i64 (zs.getD j 0)))
theorem NumsB.nums {w w' : World} {base : Nat} {A : Option Addr} {n : Nat} {zs : List Int} (h : NumsB w base A n zs) (hb : Below base w w') (hs : base ≤ w'.heap.size) {S : List Nat} (hS : ∀ k ∈ S, base ≤ k) : Nums w' S A n zs :=
  ⟨h.1, fun hn => by
    obtain ⟨b, off, e, hlt, hc⟩ := h.2 hn
    exact ⟨b, off, e, fun hm => by have := hS b hm; omega, by omega, fun j hj => (World.cell?_of_block (w := w) (hb.block b hlt)).trans (hc j hj)⟩⟩
/-- An act, and where its slices lie. -/
structure ActR where
  kind : Int
  num : Int
  Ab : Option Addr
  cb : Nat
  bs : List UInt8
  Al : Option Addr
  nl : Nat
  cl : Nat
  ls : List (List UInt8)
  Af : Option Addr
  nf : Nat
  cf : Nat
  fs : List Int
structure ActIn (w : World) (base : Nat) (b o : Nat) (x : ActR) : Prop where
  low : b < base
  c0 : w.cell? ⟨b, o, none⟩ = some (.int .i64 x.kind)
  c1 : w.cell? ⟨b, o + 1, none⟩ = some (.int .i64 x.num)
  c2 : w.cell? ⟨b, o + 2, none⟩ = some (.slice x.Ab x.bs.length x.cb)
  c3 : w.cell? ⟨b, o + 3, none⟩ = some (.slice x.Al x.nl x.cl)
  c4 : w.cell? ⟨b, o + 4, none⟩ = some (.slice x.Af x.nf x.cf)
  byts : Byts w base x.Ab x.bs.length x.bs
  bc : x.bs.length ≤ x.cb
  bm : x.cb ≤ maxLen
  rows : Frm.Rows w base x.Al x.nl x.ls
  rm : x.nl ≤ maxLen
  nums : NumsB w base x.Af x.nf x.fs
  fm : x.nf ≤ maxLen
  n1 : -9223372036854775808 ≤ x.num
  n2 : x.num ≤ 9223372036854775807
theorem NumsB.below {w w' : World} {base : Nat} {A : Option Addr} {n : Nat} {zs : List Int} (h : NumsB w base A n zs) (hb : Below base w w') : NumsB w' base A n zs :=
  ⟨h.1, fun hn => by
    obtain ⟨b, off, e, hlt, hc⟩ := h.2 hn
    exact ⟨b, off, e, hlt, fun j hj => (World.cell?_of_block (w := w) (hb.block b hlt)).trans (hc j hj)⟩⟩
theorem ActIn.below {w w' : World} {base b o : Nat} {x : ActR} (h : ActIn w base b o x) (hb : Below base w w') : ActIn w' base b o x := by
  have e : ∀ q, w'.cell? ⟨b, q, none⟩ = w.cell? ⟨b, q, none⟩ := fun q => World.cell?_of_block (w := w) (hb.block b h.low)
  exact ⟨h.low, (e _).trans h.c0, (e _).trans h.c1, (e _).trans h.c2, (e _).trans h.c3, (e _).trans h.c4, h.byts.below hb, h.bc, h.bm, h.rows.below hb, h.rm, h.nums.below hb, h.fm, h.n1, h.n2⟩
def ActAt (w : World) (base : Nat) (A : Option Addr) (n k : Nat) (x : ActR) (b o : Nat) : Prop :=
  (∀ c w', (Instr.indexAt 22 (.slice A n c) (.int .i64 k)).run Tryz.prog w' = .ok (.pointer (some ⟨b, o, none⟩)) w') ∧ ActIn w base b o x
def Acts (w : World) (base : Nat) (A : Option Addr) (n : Nat) : Prop := ∀ k, k < n → ∃ x b o, ActAt w base A n k x b o
theorem Acts.below {w w' : World} {base n : Nat} {A : Option Addr} (h : Acts w base A n) (hb : Below base w w') : Acts w' base A n := fun k hk => by
  obtain ⟨x, b, o, h1, h2⟩ := h k hk
  exact ⟨x, b, o, h1, h2.below hb⟩
theorem cell_low {w : World} {a : Addr} {v : Value} (h : w.cell? a = some v) : a.block < w.heap.size := by
  rcases Nat.lt_or_ge a.block w.heap.size with h' | h'
  · exact h'
  · simp [World.cell?, Array.getElem?_eq_none h'] at h
theorem one_field {cs : List Value} {i : Nat} (h : i < cs.length) : (cs.drop i).take 1 = [cs[i]] := by
  rw [List.drop_eq_getElem_cons h]
  rfl
section
variable {H : Type} {enc : TypeId × Value → H} {w : World} {base : Nat} {spare : Nat → Bool} {held : Bool}
theorem open_cell {fuel : Nat} {cs : List Value} {x : DataW H × List MemPlace} (h : DataW.trod enc Tryz.prog w base spare held fuel 39 cs = some x) :
    ∃ A n c bs, cs = [.slice A n c] ∧ n ≤ c ∧ c ≤ maxLen ∧ Byts w w.heap.size A n bs := by
  rcases open_ints Tryz.underlying39 Tryz.underlying5 (by kernel_rfl) h with ⟨hcs, _⟩ | ⟨a, len, cap, zs, hcs, _, hl, hm, hz, _, hc, hw⟩
  · exact ⟨none, 0, 0, [], hcs, Nat.le_refl _, Nat.zero_le _, Byts.none_⟩
  · refine ⟨some a, len, cap, (zs.take len).map fun z => UInt8.ofNat z.toNat, hcs, hl, hm, ?_, fun h0 => ?_⟩
    · have : len ≤ zs.length := by rw [hz]; split <;> omega
      simp
      omega
    · obtain ⟨b, off, spot⟩ := a
      have hzl : len ≤ zs.length := by rw [hz]; split <;> omega
      have hspot : spot = none := by simpa [Addr.add] using World.cell?_spot (hc 0 (by omega))
      subst hspot
      refine ⟨b, off, rfl, by simpa [Addr.add] using cell_low (hc 0 (by omega)), fun j hj => ?_⟩
      have h1 := hc j (by omega)
      rw [plain_add] at h1
      rw [h1]
      have hj2 : j < zs.length := by omega
      have hb := hw zs[j] (List.getElem_mem hj2)
      have hb2 : 0 ≤ zs[j] ∧ zs[j] ≤ 255 := by simpa [Lit.wf, show IntKind.u8.min = 0 from rfl, show IntKind.u8.max = 255 from rfl] using hb
      simp [byt, List.getD_eq_getElem?_getD, hj, hj2]
      omega
theorem open_rows {fuel : Nat} {cs : List Value} {x : DataW H × List MemPlace} (h : DataW.trod enc Tryz.prog w base spare held fuel 40 cs = some x) :
    ∃ A n c ls, cs = [.slice A n c] ∧ n ≤ maxLen ∧ Frm.Rows w w.heap.size A n ls := by
  rcases open_slice Tryz.underlying40 h with ⟨hcs, _⟩ | ⟨a, n, cap, m, _, D, Pl, hcs, _, hl, hm, hmm, _, hi⟩
  · exact ⟨none, 0, 0, [], hcs, Nat.zero_le _, Frm.Rows.none_⟩
  · have k24 : Tryz.prog.cellsOf 39 = 1 := by kernel_rfl
    have hx : ∀ i, i < n → ∃ bs : List UInt8, ∃ Aj cj, w.cell? (a.add i) = some (.slice Aj bs.length cj) ∧ Byts w w.heap.size Aj bs.length bs ∧ bs.length ≤ cj ∧ cj ≤ maxLen := fun i hin => by
      have hmn : i < m := by rw [hmm]; split <;> omega
      obtain ⟨cs', h1, h2⟩ := hi i hmn
      rw [k24, Nat.mul_one] at h1
      obtain ⟨Aj, nj, cj, bs, hcs, hle, hcm, hb⟩ := open_cell h2
      obtain ⟨_, _, hat⟩ := World.cells?_some h1
      have h0 := hat 0 (by decide)
      rw [hcs] at h0
      have hl := hb.len
      subst hl
      exact ⟨bs, Aj, cj, by simpa [Addr.add] using h0, hb, hle, hcm⟩
    classical
    let f : Nat → List UInt8 := fun i => if h : i < n then (hx i h).choose else []
    have hf : ∀ i, i < n → ∃ Aj cj, w.cell? (a.add i) = some (.slice Aj (f i).length cj) ∧ Byts w w.heap.size Aj (f i).length (f i) ∧ (f i).length ≤ cj ∧ cj ≤ maxLen := fun i h => by
      have e : f i = (hx i h).choose := dif_pos h
      rw [e]
      exact (hx i h).choose_spec
    have hg : ∀ i, i < n → ((List.range n).map f).getD i [] = f i := fun i h => by simp [List.getD_eq_getElem?_getD, h]
    refine ⟨some a, n, cap, (List.range n).map f, hcs, by omega, by simp, fun h0 => ?_⟩
    obtain ⟨b, off, spot⟩ := a
    obtain ⟨A0, c0, q0, _⟩ := hf 0 h0
    have hspot : spot = none := by simpa [Addr.add] using World.cell?_spot q0
    subst hspot
    refine ⟨b, off, rfl, by simpa [Addr.add] using cell_low q0, fun j hj => ?_⟩
    rw [hg j hj]
    obtain ⟨Aj, cj, q1, q2, q3, q4⟩ := hf j hj
    rw [plain_add] at q1
    exact ⟨Aj, cj, q1, q2, q3, q4⟩
theorem open_numc {fuel : Nat} {cs : List Value} {x : DataW H × List MemPlace} (h : DataW.trod enc Tryz.prog w base spare held fuel 41 cs = some x) :
    ∃ A n c zs, cs = [.slice A n c] ∧ n ≤ maxLen ∧ NumsB w w.heap.size A n zs ∧ ∀ z ∈ zs, -9223372036854775808 ≤ z ∧ z ≤ 9223372036854775807 := by
  rcases open_ints Tryz.underlying41 Tryz.underlying3 (by kernel_rfl) h with ⟨hcs, _⟩ | ⟨a, len, cap, zs, hcs, _, hl, hm, hz, _, hc, hw⟩
  · exact ⟨none, 0, 0, [], hcs, Nat.zero_le _, ⟨rfl, fun h => absurd h (by omega)⟩, by simp⟩
  · have hzl : len ≤ zs.length := by rw [hz]; split <;> omega
    refine ⟨some a, len, cap, zs.take len, hcs, by omega, ⟨by simp; omega, fun h0 => ?_⟩, fun z hz => ?_⟩
    · obtain ⟨b, off, spot⟩ := a
      have hspot : spot = none := by simpa [Addr.add] using World.cell?_spot (hc 0 (by omega))
      subst hspot
      refine ⟨b, off, rfl, by simpa [Addr.add] using cell_low (hc 0 (by omega)), fun j hj => ?_⟩
      have h1 := hc j (by omega)
      rw [plain_add] at h1
      rw [h1]
      simp [List.getD_eq_getElem?_getD, hj]
    · have := hw z (List.mem_of_mem_take hz)
      simpa [Lit.wf, IntKind.min, IntKind.max, IntKind.signed, IntKind.bits] using this
theorem open_nums {fuel : Nat} {A : Option Addr} {n c : Nat} {x : DataW H × List MemPlace} (h : DataW.trod enc Tryz.prog w base spare held fuel 41 [.slice A n c] = some x) :
    n ≤ maxLen ∧ ∃ zs, NumsB w w.heap.size A n zs ∧ ∀ z ∈ zs, -9223372036854775808 ≤ z ∧ z ≤ 9223372036854775807 := by
  obtain ⟨A', n', c', zs, hcs, h1, h2⟩ := open_numc h
  injection hcs with hcs
  injection hcs with e1 e2 e3
  subst e1 e2 e3
  exact ⟨h1, zs, h2⟩
theorem open_act {fuel : Nat} {a : Addr} {cs : List Value} {x : DataW H × List MemPlace} (hc : w.cells? base a 5 = some cs) (h : DataW.trod enc Tryz.prog w base spare held fuel 43 cs = some x) : ∃ b o it, a = ⟨b, o, none⟩ ∧ ActIn w w.heap.size b o it := by
  obtain ⟨b, o, sp⟩ := a
  obtain ⟨_, hcl, hat⟩ := World.cells?_some hc
  obtain ⟨ys, n', _, _, _, hyl, hf⟩ := DataW.trod_struct Tryz.underlying43 h
  have hyl5 : ys.length = 5 := hyl
  have f0 : DataW.trod enc Tryz.prog w base spare held n' 3 ((cs.drop 0).take (Tryz.prog.cellsOf 3)) = ys[0]? := hf 0 _ rfl
  have f1 : DataW.trod enc Tryz.prog w base spare held n' 3 ((cs.drop 1).take (Tryz.prog.cellsOf 3)) = ys[1]? := hf 1 _ rfl
  have f2 : DataW.trod enc Tryz.prog w base spare held n' 39 ((cs.drop 2).take (Tryz.prog.cellsOf 39)) = ys[2]? := hf 2 _ rfl
  have f3 : DataW.trod enc Tryz.prog w base spare held n' 40 ((cs.drop 3).take (Tryz.prog.cellsOf 40)) = ys[3]? := hf 3 _ rfl
  have f4 : DataW.trod enc Tryz.prog w base spare held n' 41 ((cs.drop 4).take (Tryz.prog.cellsOf 41)) = ys[4]? := hf 4 _ rfl
  have k0 : Tryz.prog.cellsOf 3 = 1 := by kernel_rfl
  have k2 : Tryz.prog.cellsOf 39 = 1 := by kernel_rfl
  have k3 : Tryz.prog.cellsOf 40 = 1 := by kernel_rfl
  have k4 : Tryz.prog.cellsOf 41 = 1 := by kernel_rfl
  rw [k0] at f0 f1
  rw [k2] at f2
  rw [k3] at f3
  rw [k4] at f4
  rw [one_field (by omega)] at f0 f1 f2 f3 f4
  obtain ⟨y0, e0⟩ : ∃ y, ys[0]? = some y := ⟨ys[0]'(by omega), List.getElem?_eq_getElem _⟩
  obtain ⟨y1, e1⟩ : ∃ y, ys[1]? = some y := ⟨ys[1]'(by omega), List.getElem?_eq_getElem _⟩
  obtain ⟨y2, e2⟩ : ∃ y, ys[2]? = some y := ⟨ys[2]'(by omega), List.getElem?_eq_getElem _⟩
  obtain ⟨y3, e3⟩ : ∃ y, ys[3]? = some y := ⟨ys[3]'(by omega), List.getElem?_eq_getElem _⟩
  obtain ⟨y4, e4⟩ : ∃ y, ys[4]? = some y := ⟨ys[4]'(by omega), List.getElem?_eq_getElem _⟩
  obtain ⟨n0, g0, _, _⟩ := DataW.trod_int Tryz.underlying3 (f0.trans e0)
  obtain ⟨n1, g1, _, h1⟩ := DataW.trod_int Tryz.underlying3 (f1.trans e1)
  obtain ⟨Ab, nb, cb, bs, g2, b1, b2, b3⟩ := open_cell (f2.trans e2)
  obtain ⟨Al, nl, cl, ls, g3, l1, l2⟩ := open_rows (f3.trans e3)
  obtain ⟨Af, nf, cf, fs, g4, q1, q2, _⟩ := open_numc (f4.trans e4)
  injection g0 with g0
  injection g1 with g1
  injection g2 with g2
  injection g3 with g3
  injection g4 with g4
  have a0 := hat 0 (by decide)
  have a1 := hat 1 (by decide)
  have a2 := hat 2 (by decide)
  have a3 := hat 3 (by decide)
  have a4 := hat 4 (by decide)
  rw [List.getElem?_eq_getElem (by omega), g0] at a0
  rw [List.getElem?_eq_getElem (by omega), g1] at a1
  rw [List.getElem?_eq_getElem (by omega), g2] at a2
  rw [List.getElem?_eq_getElem (by omega), g3] at a3
  rw [List.getElem?_eq_getElem (by omega), g4] at a4
  have hsp : sp = none := by simpa [Addr.add] using World.cell?_spot a0
  subst hsp
  have hl := b3.len
  subst hl
  rw [plain_add] at a0 a1 a2 a3 a4
  have h1' : -9223372036854775808 ≤ n1 ∧ n1 ≤ 9223372036854775807 := by simpa [Lit.wf, IntKind.min, IntKind.max, IntKind.signed, IntKind.bits] using h1
  exact ⟨b, o, ⟨n0, n1, Ab, cb, bs, Al, nl, cl, ls, Af, nf, cf, fs⟩, rfl, cell_low a0, a0, a1, a2, a3, a4, b3, b1, b2, l2, l1, q2, q1, h1'.1, h1'.2⟩
theorem open_acts {fuel : Nat} {A : Option Addr} {n c : Nat} {x : DataW H × List MemPlace} (h : DataW.trod enc Tryz.prog w base spare held fuel 22 [.slice A n c] = some x) :
    n ≤ maxLen ∧ Acts w w.heap.size A n := by
  rcases open_slice Tryz.underlying22 h with ⟨hcs, _⟩ | ⟨a, len, cap, m, _, D, Pl, hcs, _, hl, hm, hmm, _, hi⟩
  · injection hcs with hcs
    injection hcs with h1 h2 h3
    subst h1 h2 h3
    exact ⟨by omega, fun k hk => absurd hk (by omega)⟩
  · injection hcs with hcs
    injection hcs with h1 h2 h3
    subst h1 h2 h3
    refine ⟨by omega, fun k hk => ?_⟩
    have k32 : Tryz.prog.cellsOf 43 = 5 := by kernel_rfl
    have hmn : k < m := by rw [hmm]; split <;> omega
    obtain ⟨b, off, spot⟩ := a
    obtain ⟨cs', h1, h2⟩ := hi k hmn
    rw [k32] at h1
    have hspot : spot = none := by
      obtain ⟨cs0, z1, z2⟩ := hi 0 (by omega)
      rw [k32, Nat.zero_mul] at z1
      have z1' : w.cells? base ⟨b, off, spot⟩ 5 = some cs0 := by simpa [Addr.add] using z1
      obtain ⟨_, _, _, e, _⟩ := open_act z1' z2
      injection e
    subst hspot
    rw [plain_add] at h1
    obtain ⟨b', o', it, e, hit⟩ := open_act h1 h2
    injection e with e1 e2 _
    subst e1 e2
    refine ⟨it, b, off + k * 5, fun c w' => ?_, hit⟩
    have hs : ∀ W, (Go.sizeOf 43).run Tryz.prog W = .ok 5 W := fun W => by kernel_rfl
    simp [Instr.indexAt, asIntOf, run_underlying Tryz.underlying22, Result.andThen, Addr.add_mid]
    intro h1
    omega
end
end Go.Proofs.YtdjhlhellkajfaaGreat.Jou
/-
  What Light and either tell. Conditions: the acts, the slices lie where they came in.
-/
namespace Go.Proofs.YtdjhlhellkajfaaGreat.Jou
open Go.RowKit Codec FrameM Cod JourM
open Disk (Turn Dk Dsk ptr Now Made Nums fresh)
set_option maxRecDepth 100000
theorem Acts.fn {w : World} {base n : Nat} {A : Option Addr} (h : Acts w base A n) : ∃ (X : Nat → ActR) (bb oo : Nat → Nat), ∀ k, k < n → ActAt w base A n k (X k) (bb k) (oo k) := by
  classical
  refine ⟨fun k => if hk : k < n then (h k hk).choose else ⟨0, 0, none, 0, [], none, 0, 0, [], none, 0, 0, []⟩, fun k => if hk : k < n then (h k hk).choose_spec.choose else 0, fun k => if hk : k < n then (h k hk).choose_spec.choose_spec.choose else 0, fun k hk => ?_⟩
  simp only [dif_pos hk]
  exact (h k hk).choose_spec.choose_spec.choose_spec
def LightR (w : World) (n : Nat) (X : Nat → ActR) (e : Ending) (w' : World) : Prop := w' = w ∧ ∃ L, e = .returned (.bool L) ∧ (L = true → n ≤ 60 ∧ ∀ k, k < n → (X k).nl ≤ 10)
set_option maxHeartbeats 4000000 in
theorem light_any (w : World) (base n c : Nat) (A : Option Addr) (X : Nat → ActR) (bb oo : Nat → Nat) (h : ∀ k, k < n → ActAt w base A n k (X k) (bb k) (oo k)) (hn : n ≤ maxLen) (hb : base ≤ w.heap.size) :
    Calls Tryz.prog 8 #[.slice A n c] w (LightR w n X) := by
  have HX := Lib.hid h
  have HN := Lib.hid hn
  have HBS := Lib.hid hb
  clear h hn hb
  by_cases h60 : n ≤ 60
  · have hn60 : (n : Int) ≤ 60 := by omega
    have H60 := Lib.hid h60
    clear h60
    go_enter Tryz.func8, Tryz.ntmps8
    go_wp2
    go_loop [3] (fun i => ∃ k : Nat, k ≤ n ∧ i = .int .i64 k ∧ ∀ q, q < k → (X q).nl ≤ 10) (fun i => n - (Go.RowKit.intOf i).toNat)
    case atStart => exact ⟨0, by omega, rfl, fun q hq => absurd hq (by omega)⟩
    case round =>
      obtain ⟨k, hk, rfl, hq⟩ := hrel
      have HQ := Lib.hid hq
      clear hq
      by_cases hlt : k < n
      · obtain ⟨hidx0, hin⟩ := HX.out k hlt
        have hidx := fun w' => hidx0 c w'
        have HIN := Lib.hid hin
        obtain ⟨_, _, _, c2, c3, c4, _, _, _, hrw, hrm, _, hfm, _, _⟩ := hin
        have HRW := Lib.hid (RowsB.rowl (RowsB.of_rows hrw HBS.out (S := []) (by simp)))
        clear hidx0
        obtain ⟨y, hy⟩ : ∃ y, X k = y := ⟨_, rfl⟩
        rw [hy] at c2 c3 c4 hrw hrm hfm HRW
        have HY := Lib.hid hy
        clear hy hrw
        have hk2 : (k : Int) < 100 := by omega
        by_cases hb1 : (y.bs.length : Int) ≤ 1000
        · by_cases hb2 : (y.nl : Int) ≤ 10
          · by_cases hb3 : (y.nf : Int) ≤ 100
            · go_wp2
              go_loop [4] (fun i => ∃ q : Nat, q ≤ y.nl ∧ i = .int .i64 q) (fun i => y.nl - (Go.RowKit.intOf i).toNat)
              case atStart => exact ⟨0, by omega, rfl⟩
              case round =>
                obtain ⟨q, hq, rfl⟩ := hrel
                by_cases hql : q < y.nl
                · obtain ⟨b, o, Aj, cj, hat, hcell⟩ := HRW.out.at hql
                  have hidx2 := hat y.cl
                  clear hat
                  by_cases hl : ((y.ls.getD q []).length : Int) ≤ 1000
                  · generalize (y.ls.getD q []).length = lx at *
                    go_wp2
                    go_round
                    case rel => exact ⟨q + 1, by omega, by go_num⟩
                    case measure => simp [Go.RowKit.intOf]; omega
                  · have hl2 : (1000 : Int) < ((y.ls.getD q []).length : Int) := by omega
                    clear hl
                    generalize (y.ls.getD q []).length = lx at *
                    go_wp2
                    go_ret
                    exact ⟨rfl, false, rfl, fun h => by cases h⟩
                · obtain rfl : q = y.nl := by omega
                  go_wp2
                  go_round
                  case rel => exact ⟨k + 1, by omega, by go_num, fun p hp => by
                    by_cases e : p = k
                    · subst e
                      rw [HY.out]
                      omega
                    · exact HQ.out p (by omega)⟩
                  case measure => simp [Go.RowKit.intOf]; omega
            · have hbn : (100 : Int) < (y.nf : Int) := by omega
              clear hb3
              go_wp2
              go_ret
              exact ⟨rfl, false, rfl, fun h => by cases h⟩
          · have hbn : (10 : Int) < (y.nl : Int) := by omega
            clear hb2
            go_wp2
            go_ret
            exact ⟨rfl, false, rfl, fun h => by cases h⟩
        · have hbn : (1000 : Int) < (y.bs.length : Int) := by omega
          clear hb1
          go_wp2
          go_ret
          exact ⟨rfl, false, rfl, fun h => by cases h⟩
      · obtain rfl : k = n := by omega
        go_wp2
        go_ret
        exact ⟨rfl, true, rfl, fun _ => ⟨H60.out, HQ.out⟩⟩
  · have hn60 : (60 : Int) < (n : Int) := by omega
    have H60 := Lib.hid h60
    have hnm : (n : Int) ≤ 9223372036854775 * 1024 := by have := HN.out; unfold maxLen at this; omega
    clear h60 hnm
    go_enter Tryz.func8, Tryz.ntmps8
    go_wp2
    go_loop [3] (fun i => ∃ k : Nat, k ≤ n ∧ k ≤ 100 ∧ i = .int .i64 k) (fun i => 100 - (Go.RowKit.intOf i).toNat)
    case atStart => exact ⟨0, by omega, by omega, rfl⟩
    case round =>
      obtain ⟨k, hk, hk1, rfl⟩ := hrel
      by_cases hlt : k < n
      · by_cases hk3 : k < 100
        · obtain ⟨hidx0, hin⟩ := HX.out k hlt
          have hidx := fun w' => hidx0 c w'
          obtain ⟨_, _, _, c2, c3, c4, _, _, _, hrw, hrm, _, hfm, _, _⟩ := hin
          have HRW := Lib.hid (RowsB.rowl (RowsB.of_rows hrw HBS.out (S := []) (by simp)))
          clear hidx0
          obtain ⟨y, hy⟩ : ∃ y, X k = y := ⟨_, rfl⟩
          rw [hy] at c2 c3 c4 hrw hrm hfm HRW
          clear hy hrw
          by_cases hb1 : (y.bs.length : Int) ≤ 1000
          · by_cases hb2 : (y.nl : Int) ≤ 10
            · by_cases hb3 : (y.nf : Int) ≤ 100
              · go_wp2
                go_loop [4] (fun i => ∃ q : Nat, q ≤ y.nl ∧ i = .int .i64 q) (fun i => y.nl - (Go.RowKit.intOf i).toNat)
                case atStart => exact ⟨0, by omega, rfl⟩
                case round =>
                  obtain ⟨q, hq, rfl⟩ := hrel
                  by_cases hql : q < y.nl
                  · obtain ⟨b, o, Aj, cj, hat, hcell⟩ := HRW.out.at hql
                    have hidx2 := hat y.cl
                    clear hat
                    by_cases hl : ((y.ls.getD q []).length : Int) ≤ 1000
                    · generalize (y.ls.getD q []).length = lx at *
                      go_wp2
                      go_round
                      case rel => exact ⟨q + 1, by omega, by go_num⟩
                      case measure => simp [Go.RowKit.intOf]; omega
                    · have hl2 : (1000 : Int) < ((y.ls.getD q []).length : Int) := by omega
                      clear hl
                      generalize (y.ls.getD q []).length = lx at *
                      go_wp2
                      go_ret
                      exact ⟨rfl, false, rfl, fun h => by cases h⟩
                  · obtain rfl : q = y.nl := by omega
                    go_wp2
                    go_round
                    case rel => exact ⟨k + 1, by omega, by omega, by go_num⟩
                    case measure => simp [Go.RowKit.intOf]; omega
              · have hbn : (100 : Int) < (y.nf : Int) := by omega
                clear hb3
                go_wp2
                go_ret
                exact ⟨rfl, false, rfl, fun h => by cases h⟩
            · have hbn : (10 : Int) < (y.nl : Int) := by omega
              clear hb2
              go_wp2
              go_ret
              exact ⟨rfl, false, rfl, fun h => by cases h⟩
          · have hbn : (1000 : Int) < (y.bs.length : Int) := by omega
            clear hb1
            go_wp2
            go_ret
            exact ⟨rfl, false, rfl, fun h => by cases h⟩
        · obtain rfl : k = 100 := by omega
          go_wp2
          go_ret
          have hd : decide ((n : Int) ≤ 60) = false := by simp; omega
          exact ⟨rfl, false, by rw [← hd]; rfl, fun h => by cases h⟩
      · obtain rfl : k = n := by omega
        go_wp2
        go_ret
        have hd : decide ((k : Int) ≤ 60) = false := by simp; omega
        exact ⟨rfl, false, by rw [← hd]; rfl, fun h => by cases h⟩
end Go.Proofs.YtdjhlhellkajfaaGreat.Jou
/-
  A row of slices that the call itself lays, one behind another (append). Conditions: the slices' bytes lay there before.
-/
namespace Go.Proofs.YtdjhlhellkajfaaGreat.Jou
open Go.RowKit Codec FrameM Cod JourM
open Disk (Turn Dk Dsk ptr Now Made Nums fresh)
set_option maxRecDepth 100000
/-- The value is a slice whose bytes lay there at W, in no block of S. -/
def Sl (W : World) (S : List Nat) (u : Value) (x : List UInt8) : Prop := ∃ A c, u = .slice A x.length c ∧ Bts W S A x.length x ∧ x.length ≤ c ∧ c ≤ maxLen
/-- A row of such slices, in blocks from W's end on. -/
def Vr (W w : World) (S : List Nat) (v : Value) (n : Nat) (ls : List (List UInt8)) : Prop :=
  ∃ vs : List Value, w.ownsRow W.heap.size 39 1 v n vs ∧ vs.length = n ∧ ls.length = n ∧ ∀ j, j < n → Sl W S (vs.getD j undef) (ls.getD j [])
theorem run_app_vr (W w : World) (ty : TypeId) (S : List Nat) (v : Value) (n : Nat) (ls : List (List UInt8)) (h : Vr W w S v n ls) (A : Option Addr) (m c : Nat) (ls2 : List (List UInt8)) (hl2 : ls2.length = m)
    (h2 : 0 < m → ∃ b off, A = some ⟨b, off, none⟩ ∧ ∀ j, j < m → ∃ u, w.cell? ⟨b, off + j, none⟩ = some u ∧ Sl W S u (ls2.getD j [])) (hn : n + m ≤ 1000000) (hlo : W.heap.size ≤ w.heap.size) :
    ∃ A' c' w', (Builtin.append_ #[40, 40] ty #[v, .slice A m c]).run Tryz.prog w = .ok (.slice A' (n + m) c') w' ∧ Vr W w' S (.slice A' (n + m) c') (n + m) (ls ++ ls2) ∧ w.grownBy w' v.ownBlock := by
  obtain ⟨i0, hi0, hz0, hz1, hz2⟩ := info_parts Frm.info24
  obtain ⟨vs, ho, h1, hl1, h3⟩ := h
  have key : ∃ v' w' vs', (Builtin.append_ #[40, 40] ty #[v, .slice A m c]).run Tryz.prog w = .ok v' w' ∧ w'.ownsRow W.heap.size 39 1 v' (n + m) (vs ++ vs') ∧ w.grownBy w' v.ownBlock ∧ vs'.length = m ∧ (∀ j, j < m → Sl W S (vs'.getD j undef) (ls2.getD j [])) := by
    by_cases hm : m = 0
    · subst hm
      refine ⟨v, w, [], ?_, by simpa using ho, ⟨rfl, rfl, rfl, Nat.le_refl _, fun _ _ _ => rfl⟩, rfl, fun j hj => absurd hj (by omega)⟩
      rcases ho.2 with ⟨rfl, rfl⟩ | ⟨g, cap, cur, rfl, _, _, hnc, _⟩
      · cases A <;> simp [Builtin.append_, run_underlying Tryz.underlying40, sizeOf, typeInfo, hi0, Builtin.lenOf, Builtin.firstCells, loadCells, loadCellsFrom]
      · cases A <;> simp [Builtin.append_, run_underlying Tryz.underlying40, sizeOf, typeInfo, hi0, Builtin.lenOf, Builtin.firstCells, loadCells, loadCellsFrom, hnc, storeCells]
    · obtain ⟨b, off, rfl, hc⟩ := h2 (by omega)
      have hex : ∃ vs' : List Value, vs'.length = m ∧ ∀ j, j < m → w.cell? ⟨b, off + j, none⟩ = some (vs'.getD j undef) ∧ Sl W S (vs'.getD j undef) (ls2.getD j []) := by
        refine ⟨(List.range m).map fun j => (w.cell? ⟨b, off + j, none⟩).getD undef, by simp, fun j hj => ?_⟩
        obtain ⟨u, hu1, hu2⟩ := hc j hj
        have e : ((List.range m).map fun j => (w.cell? ⟨b, off + j, none⟩).getD undef).getD j undef = u := by simp [List.getD_eq_getElem?_getD, hj, hu1]
        rw [e]
        exact ⟨hu1, hu2⟩
      obtain ⟨vs', hv1, hv2⟩ := hex
      obtain ⟨v', w', hrun, r1, r2, _, _⟩ := run_append_own_at (P := Tryz.prog) w W.heap.size 40 ty 39 i0 (.slice none 0 0) 1 24 Tryz.underlying40 hi0 hz0 hz1 hz2 rfl (by decide) v n vs ho ⟨b, off, none⟩ m c vs' (by omega) (fun j u hu => by
        have hj : j < m := by rw [← hv1]; exact (List.getElem?_eq_some_iff.1 hu).1
        have e := (hv2 j hj).1
        rw [plain_add, e, List.getD_eq_getElem?_getD, hu]
        rfl) (fun u hu => by
        obtain ⟨j, hj, rfl⟩ := List.getElem_of_mem hu
        obtain ⟨A1, c1, hg, _⟩ := (hv2 j (by omega)).2
        have e : vs'.getD j undef = vs'[j] := by simp [List.getD_eq_getElem?_getD, hj]
        rw [e] at hg
        rw [hg]
        rfl) (by unfold maxLen; omega) (by omega) hlo
      exact ⟨v', w', vs', hrun, r1, r2, hv1, fun j hj => (hv2 j hj).2⟩
  obtain ⟨v', w', vs', hrun, r1, r2, r3, r4⟩ := key
  have hform : ∃ A' c', v' = .slice A' (n + m) c' := by
    rcases r1.2 with ⟨rfl, h0⟩ | ⟨g, cap, cur, rfl, _⟩
    · exact ⟨none, 0, by rw [h0]⟩
    · exact ⟨_, cap, rfl⟩
  obtain ⟨A', c', rfl⟩ := hform
  refine ⟨A', c', w', hrun, ⟨vs ++ vs', r1, by simp [h1, r3], by simp [hl1, hl2], fun j hj => ?_⟩, r2⟩
  by_cases hjn : j < n
  · rw [getD_app_left _ _ _ _ (by omega), getD_app_left _ _ _ _ (by omega)]
    exact h3 j hjn
  · rw [getD_app_right _ _ _ _ (by omega), getD_app_right _ _ _ _ (by omega), h1, hl1]
    exact r4 (j - n) (by omega)
theorem Vr.none_ {W w : World} {S : List Nat} : Vr W w S (.slice none 0 0) 0 [] := ⟨[], World.ownsRow_nil _ _ _ _, rfl, rfl, fun j hj => absurd hj (by omega)⟩
theorem Vr.rows {W w : World} {S : List Nat} {A : Option Addr} {n c : Nat} {ls : List (List UInt8)} (h : Vr W w S (.slice A n c) n ls) (hb : Below W.heap.size W w) (hS : ∀ k ∈ S, k < W.heap.size) : RowsB w S A n ls := by
  obtain ⟨vs, ho, h1, h2, h3⟩ := h
  refine ⟨h2, fun hn => ?_⟩
  obtain ⟨g, cap, hv, hlo, hlt⟩ := World.ownsRow.form ho hn
  have hA : A = some ⟨g, 0, none⟩ := by injection hv
  subst hA
  refine ⟨g, 0, rfl, hlt, fun hm => by have := hS g hm; omega, fun j hj => ?_⟩
  obtain ⟨Aj, cj, e, q1, q2, q3⟩ := h3 j hj
  have hc := ho.cells (g := g) rfl j (vs.getD j undef) (by simp [List.getD_eq_getElem?_getD, h1, hj])
  rw [plain_add, e] at hc
  exact ⟨Aj, cj, hc, q1.below hb, q2, q3⟩
/-- A row that was there, as slices. -/
theorem RowsB.sl {W w : World} {S : List Nat} {A : Option Addr} {n : Nat} {ls : List (List UInt8)} (h : RowsB W S A n ls) (hb : Below W.heap.size W w) : 0 < n → ∃ b off, A = some ⟨b, off, none⟩ ∧ ∀ j, j < n → ∃ u, w.cell? ⟨b, off + j, none⟩ = some u ∧ Sl W S u (ls.getD j []) := fun hn => by
  obtain ⟨b, off, e, hl, _, hc⟩ := h.at_ hn
  refine ⟨b, off, e, fun j hj => ?_⟩
  obtain ⟨Aj, cj, h1, h2, h3, h4⟩ := hc j hj
  exact ⟨_, (World.cell?_of_block (w := W) (hb.block b hl)).trans h1, Aj, cj, rfl, h2, h3, h4⟩
end Go.Proofs.YtdjhlhellkajfaaGreat.Jou
/-
  Rows of slices that the document's journal lays by append, value by value. Conditions: the cells lie there.
-/
namespace Go.Proofs.YtdjhlhellkajfaaGreat.Jou
open Go.RowKit Codec FrameM Cod JourM
open Disk (Turn Dk Dsk ptr Now upd)
set_option maxRecDepth 100000
theorem run_app_vals (w : World) (ty : TypeId) (base : Nat) (v : Value) (n : Nat) (vs : List Value) (ho : w.ownsRow base 39 1 v n vs) (A : Option Addr) (m c : Nat) (us : List Value) (hus : us.length = m)
    (h2 : 0 < m → ∃ b off, A = some ⟨b, off, none⟩ ∧ ∀ j, j < m → w.cell? ⟨b, off + j, none⟩ = some (us.getD j undef) ∧ ∃ Aj nj cj, us.getD j undef = .slice Aj nj cj) (hn : n + m ≤ 1000000) (hlo : base ≤ w.heap.size) :
    ∃ A' c' w', (Builtin.append_ #[40, 40] ty #[v, .slice A m c]).run Tryz.prog w = .ok (.slice A' (n + m) c') w' ∧ w'.ownsRow base 39 1 (.slice A' (n + m) c') (n + m) (vs ++ us) ∧ w.grownBy w' v.ownBlock := by
  obtain ⟨i0, hi0, hz0, hz1, hz2⟩ := info_parts Frm.info24
  have key : ∃ v' w', (Builtin.append_ #[40, 40] ty #[v, .slice A m c]).run Tryz.prog w = .ok v' w' ∧ w'.ownsRow base 39 1 v' (n + m) (vs ++ us) ∧ w.grownBy w' v.ownBlock := by
    by_cases hm : m = 0
    · subst hm
      obtain rfl : us = [] := List.length_eq_zero_iff.1 hus
      refine ⟨v, w, ?_, by simpa using ho, ⟨rfl, rfl, rfl, Nat.le_refl _, fun _ _ _ => rfl⟩⟩
      rcases ho.2 with ⟨rfl, rfl⟩ | ⟨g, cap, cur, rfl, _, _, hnc, _⟩
      · cases A <;> simp [Builtin.append_, run_underlying Tryz.underlying40, sizeOf, typeInfo, hi0, Builtin.lenOf, Builtin.firstCells, loadCells, loadCellsFrom]
      · cases A <;> simp [Builtin.append_, run_underlying Tryz.underlying40, sizeOf, typeInfo, hi0, Builtin.lenOf, Builtin.firstCells, loadCells, loadCellsFrom, hnc, storeCells]
    · obtain ⟨b, off, rfl, hc⟩ := h2 (by omega)
      obtain ⟨v', w', hrun, r1, r2, _, _⟩ := run_append_own_at (P := Tryz.prog) w base 40 ty 39 i0 (.slice none 0 0) 1 24 Tryz.underlying40 hi0 hz0 hz1 hz2 rfl (by decide) v n vs ho ⟨b, off, none⟩ m c us (by omega) (fun j u hu => by
        have hj : j < m := by rw [← hus]; exact (List.getElem?_eq_some_iff.1 hu).1
        have e := (hc j hj).1
        rw [plain_add, e, List.getD_eq_getElem?_getD, hu]
        rfl) (fun u hu => by
        obtain ⟨j, hj, rfl⟩ := List.getElem_of_mem hu
        obtain ⟨Aj, nj, cj, hg⟩ := (hc j (by omega)).2
        have e : us.getD j undef = us[j] := by simp [List.getD_eq_getElem?_getD, hj]
        rw [e] at hg
        rw [hg]
        rfl) (by unfold maxLen; omega) (by omega) hlo
      exact ⟨v', w', hrun, r1, r2⟩
  obtain ⟨v', w', hrun, r1, r2⟩ := key
  have hform : ∃ A' c', v' = .slice A' (n + m) c' := by
    rcases r1.2 with ⟨rfl, h0⟩ | ⟨g, cap, cur, rfl, _⟩
    · exact ⟨none, 0, by rw [h0]⟩
    · exact ⟨_, cap, rfl⟩
  obtain ⟨A', c', rfl⟩ := hform
  exact ⟨A', c', w', hrun, r1, r2⟩
theorem wpList_app_vals (w : World) {ops : Array Oper} {rest : List Oper} {o : Oper} {a : Act} {Q : Exit → Act → World → Prop} (hgd : o.guard = none) (s x : Operand)
    (ho : o.op = .call { callee := .builtin .append, args := #[s, x], argTypes := #[40, 40] })
    (base : Nat) (v : Value) (n : Nat) (vs : List Value) (hs : a.eval s = v) (h : w.ownsRow base 39 1 v n vs) (A : Option Addr) (m c : Nat) (us : List Value) (hx : a.eval x = .slice A m c) (hus : us.length = m)
    (h2 : 0 < m → ∃ b off, A = some ⟨b, off, none⟩ ∧ ∀ j, j < m → w.cell? ⟨b, off + j, none⟩ = some (us.getD j undef) ∧ ∃ Aj nj cj, us.getD j undef = .slice Aj nj cj) (k : Nat) (hk : n + m = k) (hn : k ≤ 1000000) (hlo : base ≤ w.heap.size)
    (hK : ∀ A' c' w', w'.ownsRow base 39 1 (.slice A' k c') k (vs ++ us) → w.grownBy w' v.ownBlock → wpList Tryz.prog ops Q rest (a.put o.dst (.slice A' k c')) w') : wpList Tryz.prog ops Q (o :: rest) a w := by
  subst hk
  obtain ⟨A', c', w', hrun, k2, k3⟩ := run_app_vals w o.type base v n vs h A m c us hus h2 hn hlo
  refine wpList_plain hgd fun _ hK' => ?_
  unfold Oper.wp execOp
  simp only [ho, resolve, invoke, builtin, Sem.run_bind, Sem.run_pure, Result.andThen_ok, List.map_toArray, List.map_cons, List.map_nil, hs, hx, hrun]
  exact hK' _ _ (hK A' c' w' k2 k3)
theorem wpList_app_k (w : World) {ops : Array Oper} {rest : List Oper} {o : Oper} {a : Act} {Q : Exit → Act → World → Prop} (hgd : o.guard = none) (s x : Operand)
    (ho : o.op = .call { callee := .builtin .append, args := #[s, x], argTypes := #[39, 39] })
    (base : Nat) (v : Value) (n : Nat) (xs : List UInt8) (hs : a.eval s = v) (hown : Owns w base v n xs) (B : Nat) (A : Option Addr) (m c : Nat) (ys : List UInt8) (hx : a.eval x = .slice A m c) (hr : Byts w B A m ys)
    (k : Nat) (hk : n + m = k) (hn : k ≤ 1000000000) (hbase : base ≤ w.heap.size)
    (h : ∀ A' c' w', Owns w' base (.slice A' k c') k (xs ++ ys) → w.grownBy w' v.ownBlock → wpList Tryz.prog ops Q rest (a.put o.dst (.slice A' k c')) w') : wpList Tryz.prog ops Q (o :: rest) a w := by
  subst hk
  exact wpList_app w hgd s x ho base v n xs hs hown B A m c ys hx hr hn hbase h
/-- The one slice in a block of its own. -/
theorem vals_one {w : World} {bx : Nat} {A : Option Addr} {n c : Nat} (hx : w.heap[bx]? = some (.cells #[.slice A n c] 39 (0, 0))) :
    0 < 1 → ∃ b off, some (⟨bx, 0, none⟩ : Addr) = some ⟨b, off, none⟩ ∧ ∀ j, j < 1 → w.cell? ⟨b, off + j, none⟩ = some ([Value.slice A n c].getD j undef) ∧ ∃ Aj nj cj, [Value.slice A n c].getD j undef = .slice Aj nj cj := fun _ =>
  ⟨bx, 0, rfl, fun j hj => by
    obtain rfl : j = 0 := by omega
    exact ⟨cell_at hx 0, A, n, c, rfl⟩⟩
theorem own_below_v {w w1 : World} {base n : Nat} {v : Value} {vs : List Value} {e : TypeId} (h : w.ownsRow base e 1 v n vs) (hB : base ≤ w.heap.size) (hg : w.grownBy w1 v.ownBlock) : Below base w w1 :=
  (Below.refl base w).grown hg hB (fun k hk => (World.ownsRow.lt h k hk).1)
/-- A row, told by its values. -/
theorem rows_of_vals {w : World} {base n c : Nat} {A : Option Addr} {vs : List Value} {ls : List (List UInt8)} {S : List Nat} (ho : w.ownsRow base 39 1 (.slice A n c) n vs) (h1 : vs.length = n) (h2 : ls.length = n)
    (h3 : ∀ j, j < n → ∃ Aj cj, vs.getD j undef = .slice Aj (ls.getD j []).length cj ∧ Bts w S Aj (ls.getD j []).length (ls.getD j []) ∧ (ls.getD j []).length ≤ cj ∧ cj ≤ maxLen) (hS : ∀ k ∈ S, k < base) : RowsB w S A n ls := by
  refine ⟨h2, fun hn => ?_⟩
  obtain ⟨g, cap, hv, hlo, hlt⟩ := World.ownsRow.form ho hn
  have hA : A = some ⟨g, 0, none⟩ := by injection hv
  subst hA
  refine ⟨g, 0, rfl, hlt, fun hm => by have := hS g hm; omega, fun j hj => ?_⟩
  obtain ⟨Aj, cj, e, q1, q2, q3⟩ := h3 j hj
  have hc := ho.cells (g := g) rfl j (vs.getD j undef) (by simp [List.getD_eq_getElem?_getD, h1, hj])
  rw [plain_add, e] at hc
  exact ⟨Aj, cj, hc, q1, q2, q3⟩
/-- The values of a row that is there. -/
theorem RowsB.vals {w : World} {S : List Nat} {A : Option Addr} {n : Nat} {ls : List (List UInt8)} (h : RowsB w S A n ls) : ∃ us : List Value, us.length = n ∧ (0 < n → ∃ b off, A = some ⟨b, off, none⟩ ∧ b < w.heap.size ∧ b ∉ S ∧ ∀ j, j < n → w.cell? ⟨b, off + j, none⟩ = some (us.getD j undef)) ∧
    ∀ j, j < n → ∃ Aj cj, us.getD j undef = .slice Aj (ls.getD j []).length cj ∧ Bts w S Aj (ls.getD j []).length (ls.getD j []) ∧ (ls.getD j []).length ≤ cj ∧ cj ≤ maxLen := by
  rcases Nat.eq_zero_or_pos n with h0 | h0
  · subst h0
    exact ⟨[], rfl, fun h => absurd h (by omega), fun j hj => absurd hj (by omega)⟩
  · obtain ⟨b, off, rfl, hl, hb, hc⟩ := h.at_ h0
    have e : ∀ j, j < n → ((List.range n).map fun j => (w.cell? ⟨b, off + j, none⟩).getD undef).getD j undef = (w.cell? ⟨b, off + j, none⟩).getD undef := fun j hj => by simp [List.getD_eq_getElem?_getD, hj]
    refine ⟨(List.range n).map fun j => (w.cell? ⟨b, off + j, none⟩).getD undef, by simp, fun _ => ⟨b, off, rfl, hl, hb, fun j hj => ?_⟩, fun j hj => ?_⟩
    · obtain ⟨Aj, cj, h1, _⟩ := hc j hj
      rw [e j hj, h1]
      rfl
    · obtain ⟨Aj, cj, h1, h2⟩ := hc j hj
      rw [e j hj, h1]
      exact ⟨Aj, cj, rfl, h2⟩
end Go.Proofs.YtdjhlhellkajfaaGreat.Jou
/-
  The document's journal: the groups of a half. Conditions: the disk is known whole, its power is on.
-/
namespace Go.Proofs.YtdjhlhellkajfaaGreat.Jou
open Go.RowKit Codec FrameM Cod JourM
open Disk (Turn Dk Dsk ptr Now upd)
set_option maxRecDepth 100000
/-- A slice of bytes in memory of the call's own. -/
def Itm (w : World) (base : Nat) (u : Value) (x : List UInt8) : Prop := ∃ A c, u = .slice A x.length c ∧ (⟨A, x.length, c, x⟩ : It).ok w base
/-- A row of such. -/
def OR (w : World) (base : Nat) (v : Value) (n : Nat) (ls : List (List UInt8)) : Prop := ∃ vs : List Value, w.ownsRow base 39 1 v n vs ∧ vs.length = n ∧ ls.length = n ∧ ∀ j, j < n → Itm w base (vs.getD j undef) (ls.getD j [])
section
variable {w w' : World} {base n : Nat} {v u : Value} {ls : List (List UInt8)} {x : List UInt8}
theorem Itm.below (h : Itm w base u x) (hb : Below w.heap.size w w') : Itm w' base u x := by
  obtain ⟨A, c, e, h⟩ := h
  exact ⟨A, c, e, h.below hb⟩
theorem OR.nil : OR w base (.slice none 0 0) 0 [] := ⟨[], World.ownsRow_nil _ _ _ _, rfl, rfl, fun j hj => absurd hj (by omega)⟩
theorem OR.below (h : OR w base v n ls) (hb : Below w.heap.size w w') : OR w' base v n ls := by
  obtain ⟨vs, ho, h1, h2, h3⟩ := h
  refine ⟨vs, own_same ho fun r hr => ?_, h1, h2, fun j hj => (h3 j hj).below hb⟩
  obtain ⟨_, cur, hc⟩ := own_type ho hr
  exact hb.block r (lt_of_heap hc)
theorem OR.len (h : OR w base v n ls) : ls.length = n := by obtain ⟨_, _, _, h, _⟩ := h; exact h
theorem OR.rows {A : Option Addr} {c : Nat} {S : List Nat} (h : OR w base (.slice A n c) n ls) (hS : ∀ k ∈ S, k < base) : RowsB w S A n ls := by
  obtain ⟨vs, ho, h1, h2, h3⟩ := h
  refine rows_of_vals ho h1 h2 (fun j hj => ?_) hS
  obtain ⟨A, c, e, h⟩ := h3 j hj
  exact ⟨A, c, e, Bts.above h.byts h.ab hS, h.mc, h.cm⟩
theorem itm_of {A : Option Addr} {k c : Nat} (h : Byts w w.heap.size A k x) (h1 : k ≤ c) (h2 : c ≤ maxLen) (ha : Frm.Above base A) (hu : Frm.U8 w A) : Itm w base (.slice A k c) x := by
  have hl := h.len
  subst hl
  exact ⟨A, c, rfl, h, h1, h2, ha, hu⟩
end
theorem or_app {w w' : World} {base n m : Nat} {v v' : Value} {vs us : List Value} {ls l2 : List (List UInt8)} (ho : w'.ownsRow base 39 1 v' (n + m) (vs ++ us)) (h : w.ownsRow base 39 1 v n vs) (hg : w.grownBy w' v.ownBlock) (h1 : vs.length = n) (h2 : ls.length = n) (h3 : ∀ j, j < n → Itm w base (vs.getD j undef) (ls.getD j [])) (h4 : us.length = m) (h5 : l2.length = m) (h6 : ∀ j, j < m → Itm w base (us.getD j undef) (l2.getD j [])) : OR w' base v' (n + m) (ls ++ l2) := by
  have ht : Turn v.ownBlock.toList w w' := (Turn.refl _ w).grown hg (fun q hq => .inl (by rw [hq]; simp))
  have hf : Fine w base v.ownBlock.toList := fun k hk => by
    obtain ⟨_, cur, hc⟩ := own_type h (by simpa using hk)
    exact .inr (.inr ⟨cur, _, hc, by decide⟩)
  have key : ∀ u x, Itm w base u x → Itm w' base u x := fun u x hi => by
    obtain ⟨A, c, e, hi⟩ := hi
    exact ⟨A, c, e, hi.turn ht hf⟩
  refine ⟨vs ++ us, ho, by simp [h1, h4], by simp [h2, h5], fun j hj => ?_⟩
  by_cases hjn : j < n
  · rw [getD_app_left _ _ _ _ (by omega), getD_app_left _ _ _ _ (by omega)]
    exact key _ _ (h3 j hjn)
  · rw [getD_app_right _ _ _ _ (by omega), getD_app_right _ _ _ _ (by omega), h1, h2]
    exact key _ _ (h6 (j - n) (by omega))
/-- append of one slice onto such a row. -/
theorem wpList_app_or (w : World) {ops : Array Oper} {rest : List Oper} {o : Oper} {a : Act} {Q : Exit → Act → World → Prop} (hgd : o.guard = none) (s x : Operand)
    (ho : o.op = .call { callee := .builtin .append, args := #[s, x], argTypes := #[40, 40] })
    (base : Nat) (v : Value) (n : Nat) (ls : List (List UInt8)) (hs : a.eval s = v) (h : OR w base v n ls) (bx : Nat) (A1 : Option Addr) (k1 c1 : Nat) (b : List UInt8) (hx : a.eval x = .slice (some ⟨bx, 0, none⟩) 1 1)
    (hbx : w.heap[bx]? = some (.cells #[.slice A1 k1 c1] 39 (0, 0))) (hi : Itm w base (.slice A1 k1 c1) b) (hn : n + 1 ≤ 1000000) (hlo : base ≤ w.heap.size)
    (hK : ∀ A' c' w', OR w' base (.slice A' (n + 1) c') (n + 1) (ls ++ [b]) → Below base w w' → w.grownBy w' v.ownBlock → wpList Tryz.prog ops Q rest (a.put o.dst (.slice A' (n + 1) c')) w') : wpList Tryz.prog ops Q (o :: rest) a w := by
  obtain ⟨vs, h0, h1, h2, h3⟩ := h
  refine wpList_app_vals w hgd s x ho base v n vs hs h0 (some ⟨bx, 0, none⟩) 1 1 [.slice A1 k1 c1] hx rfl (vals_one hbx) (n + 1) rfl hn hlo fun A' c' w' k1 k2 => ?_
  exact hK A' c' w' (or_app k1 h0 k2 h1 h2 h3 rfl rfl (fun j hj => by obtain rfl : j = 0 := by omega
                                                                      exact hi)) (own_below_v h0 hlo k2) k2
theorem own_above {w : World} {base n c : Nat} {A : Option Addr} {xs : List UInt8} (h : Owns w base (.slice A n c) n xs) : Frm.Above base A := fun p hp => by
  rcases h.2 with ⟨e, _⟩ | ⟨g, cap, cur, e, hg, _⟩
  · injection e with e1
    rw [e1] at hp
    cases hp
  · injection e with e1
    rw [e1] at hp
    cases hp
    exact hg
def RGotU (w : World) (xs : List UInt8) (e : Ending) (w' : World) : Prop := ∃ A c, e = .returned (.tuple #[.slice A 64 c, .int .i64 0]) ∧ NewB w w' A 64 xs ∧ 64 ≤ c ∧ c ≤ maxLen ∧ Below w.heap.size w w' ∧ Frm.Above w.heap.size A ∧ Frm.U8 w' A
theorem rread_it (w : World) (S : List Nat) (r bs bw : Nat) (d : Dsk) (i : Nat) (h : Rk w S r bs bw d) (ho : d.off = false) (hi : i < d.n) : Calls Tryz.prog 57 #[ptr r, .int .i64 i] w (RGotU w (d.read i)) := by
  obtain ⟨cs, cw, left, z, h1, hcs, hcw, _⟩ := h.hd
  obtain ⟨_, c0, c1, c2, c3, c4, f⟩ := hd5 h1
  have hn := h.ok.2.1
  rw [ho] at c4
  obtain ⟨u1, e1, _, q1⟩ := RowOf.cell h.safe hi
  obtain ⟨u2, e2, _, q2⟩ := RowOf.cell h.wait hi
  have x1 := ridx bs d.n cs i hi
  have x2 := ridx bw d.n cw i hi
  have HB0 := Lib.hid (Frm.alloc_below w (.cells #[] 5))
  have hi3 : ¬ d.n ≤ i := by omega
  have hcl : ∀ (b k : Nat) (v : Value), b < w.heap.size → w.cell? ⟨b, k, none⟩ = some v → (w.alloc (.cells #[] 5)).cell? ⟨b, k, none⟩ = some v := fun b k v hb hv => (World.cell?_of_block (w := w) (Below.heap_alloc w _ b hb)).trans hv
  have c0' := hcl r 0 _ (h.lows r (by simp)) c0
  have c1' := hcl r 1 _ (h.lows r (by simp)) c1
  have e1' := hcl bs i _ (h.lows bs (by simp)) e1
  have e2' := hcl bw i _ (h.lows bw (by simp)) e2
  clear hcl
  have HO : Hid (Owns (w.alloc (.cells #[] 5)) w.heap.size (.slice (some ⟨w.heap.size, 0, none⟩) 0 0) 0 []) := Lib.hid (World.ownsRow_made w #[] 0 (Nat.le_refl _) (Nat.zero_le _) rfl)
  have HEND : Hid (∀ (xs : List UInt8) A5 c5 w5, Owns w5 w.heap.size (.slice A5 (0 + 64) c5) (0 + 64) ([] ++ xs) → Below w.heap.size w w5 → RGotU w xs (.returned (.tuple #[.slice A5 64 c5, .int .i64 0])) w5) := Lib.hid (fun xs A5 c5 w5 ho5 hb5 => by
    rw [Nat.zero_add, List.nil_append] at ho5
    obtain ⟨A', c', e, g1, g2⟩ := ho5.form
    injection e with _ _ e3
    subst e3
    exact ⟨A5, c5, rfl, fun S' hS' => bts_own ho5 hS', g1, g2, hb5, own_above ho5, Frm.own_u8 ho5⟩)
  cases hw : d.waits i with
  | none =>
    have hrd : d.read i = d.safe i := by simp [Disk.Dsk.read, hw]
    rw [hrd]
    rw [hw] at q2
    have q2' : u2 = .slice none 0 0 := q2
    subst q2'
    obtain ⟨b, o, c, rfl, q3, q4, q5⟩ := q1
    have HX := Lib.hid q3.byts
    clear h h1 f c2 c3 ho q3 q2 hw hrd
    generalize d.n = n at *
    generalize d.safe i = xs at *
    unfold ptr
    go_enter Tryz.func57, Tryz.ntmps57
    go_wp2_with (at_builtin; (refine wpList_app _ rfl (.tmp 38) (.tmp 45) rfl w.heap.size (.slice (some ⟨w.heap.size, 0, none⟩) 0 0) 0 [] rfl HO.out w.heap.size (some ⟨b, o, none⟩) 64 c xs rfl (HX.out.below HB0.out) (by decide) HB0.out.size ?_); intro A5 c5 w5 ho5 hg5; have HO5 := Lib.hid ho5; have HB5 := Lib.hid (HB0.out.trans (own_below HO.out HB0.out.size hg5)); clear ho5 hg5)
    exact bodyPost_ret (v := .tuple #[.slice A5 64 c5, .int .i64 0]) (by simp [results, Tryz.results57, go_sem]) rfl (HEND.out xs A5 c5 w5 HO5.out HB5.out)
  | some s =>
    have hrd : d.read i = s := by simp [Disk.Dsk.read, hw]
    rw [hrd]
    rw [hw] at q2
    obtain ⟨b, o, c, rfl, q3, q4, q5⟩ := q2
    have HX := Lib.hid q3.byts
    clear h h1 f c2 c3 ho q3 q1 hw hrd
    generalize d.n = n at *
    unfold ptr
    go_enter Tryz.func57, Tryz.ntmps57
    go_wp2_with (at_builtin; (refine wpList_app _ rfl (.tmp 29) (.tmp 36) rfl w.heap.size (.slice (some ⟨w.heap.size, 0, none⟩) 0 0) 0 [] rfl HO.out w.heap.size (some ⟨b, o, none⟩) 64 c s rfl (HX.out.below HB0.out) (by decide) HB0.out.size ?_); intro A5 c5 w5 ho5 hg5; have HO5 := Lib.hid ho5; have HB5 := Lib.hid (HB0.out.trans (own_below HO.out HB0.out.size hg5)); clear ho5 hg5)
    exact bodyPost_ret (v := .tuple #[.slice A5 64 c5, .int .i64 0]) (by simp [results, Tryz.results57, go_sem]) rfl (HEND.out s A5 c5 w5 HO5.out HB5.out)
theorem shr32 (n : Int) : (n >>> 32) = n / 4294967296 := by
  rw [Int.shiftRight_eq_div_pow]
  rfl
theorem groups_step {f : Nat → List UInt8} {n gen pos seq : Nat} (h : gB f n gen pos seq = true) :
    groupsF f n gen (room n + 1) pos seq = gX f n gen pos :: groupsF f n gen (room n + 1) (pos + takes1 (gX f n gen pos)) (seq + 1) := by
  have h1 := gB_room h
  have ht : 1 ≤ takes1 (gX f n gen pos) := by unfold takes1; omega
  rw [groupsF_fuel f n gen (room n + 1) (room n) (pos + takes1 (gX f n gen pos)) (seq + 1) (by omega) (by omega) h1]
  conv => lhs; unfold groupsF
  rw [if_pos h]
theorem groups_stop {f : Nat → List UInt8} {n gen pos seq : Nat} (h : gB f n gen pos seq = false) : groupsF f n gen (room n + 1) pos seq = [] := by
  unfold groupsF
  rw [h]
  rfl
end Go.Proofs.YtdjhlhellkajfaaGreat.Jou
/-
  The law's read: a sector of both disks. Conditions: both disks are known whole, as one plain disk; the sector is one of theirs.
-/
namespace Go.Proofs.YtdjhlhellkajfaaGreat.Jou
open Go.RowKit Codec FrameM Cod JourM
open Disk (Turn Dk Dsk ptr Now)
set_option maxRecDepth 100000
theorem dread_off (w : World) (g gs gm : Nat) (d : Dsk) (h : Dk w g gs gm d) (ho : d.off = true) (i : Int) : Calls Tryz.prog 76 #[ptr g, .int .i64 i] w (Disk.Ends (.tuple #[.slice none 0 0, .int .i64 3]) w) := by
  have HR := Lib.hid (Disk.refuses_disk w g gs gm d i h)
  have hw : d.why i = 3 := by simp [Dsk.why, ho]
  rw [hw] at HR
  clear h ho hw
  unfold ptr at HR ⊢
  go_enter Tryz.func76, Tryz.ntmps76
  go_wp2_with fail
  refine HR.out.mono ?_
  rintro e w1 ⟨rfl, rfl⟩
  go_wp2
  go_ret2
  exact ⟨rfl, rfl⟩
theorem lread_any (w : World) (S : List Nat) (g gs gm r bs bw : Nat) (d : Dsk) (i : Nat) (hd : Dk w g gs gm d) (hr : Rk w S r bs bw d) (hi : i < d.n) : Calls Tryz.prog 31 #[ptr g, ptr r, .int .i64 i] w (EndsBelow (.bool true) w) := by
  rcases Bool.eq_false_or_eq_true d.off with ho | ho
  · have HP := Lib.hid (dread_off w g gs gm d hd ho i)
    have HR := Lib.hid (rread_off w S r bs bw d i hr ho)
    have kc : (convert 39 9 (.slice none 0 0)).run Tryz.prog w = .ok (.string ⟨([] : List UInt8).toArray⟩) w := run_string_of w 0 0 0 none [] Byts.none_
    have HN := Lib.hid (num_any w 3)
    clear hd hr hi ho
    unfold ptr at HP HR ⊢
    go_enter Tryz.func31, Tryz.ntmps31
    go_wp2_with fail
    refine HP.out.mono ?_
    rintro e w1 ⟨rfl, rfl⟩
    go_wp2_with fail
    refine HR.out.mono ?_
    rintro e w1 ⟨rfl, rfl⟩
    go_wp2_with fail
    refine HN.out.mono ?_
    rintro e w1 ⟨rfl, rfl⟩
    go_wp2_with fail
    refine HN.out.mono ?_
    rintro e w1 ⟨rfl, rfl⟩
    go_wp2
    go_ret
    exact ⟨rfl, Below.refl _ _⟩
  · have HP := Lib.hid (Disk.read_disk w g gs gm d hd ho i hi)
    have HL := Lib.hid (Disk.Dsk.read_length hd.ok hi)
    have HR : Hid (∀ w1, Below w.heap.size w w1 → Calls Tryz.prog 57 #[ptr r, .int .i64 i] w1 (RGot w1 (d.read i))) := Lib.hid (fun w1 hb => rread_any w1 S r bs bw d i (hr.below hb) ho hi)
    clear hd hr hi ho
    unfold ptr at HP HR ⊢
    generalize d.read i = xs at *
    go_enter Tryz.func31, Tryz.ntmps31
    go_wp2_with fail
    refine HP.out.mono ?_
    rintro e w1 ⟨k, rfl, h1, h2, h3⟩
    have HB := Lib.hid (byts_block h1)
    have HT := Lib.hid (below_of_turn h3)
    clear h1 h2 h3
    go_wp2_with fail
    refine (HR.out w1 HT.out).mono ?_
    rintro e w2 ⟨A, c, rfl, h4, h5, h6, h7⟩
    have HT2 : Hid (Below w.heap.size w w2) := Lib.hid (HT.out.trans (h7.mono HT.out.size))
    have k1 : (convert 39 9 (.slice (some ⟨k, 0, none⟩) 64 64)).run Tryz.prog w2 = .ok (.string ⟨xs.toArray⟩) w2 := by
      have := HB.out.below h7
      rw [HL.out] at this
      exact run_string_of w2 _ _ 64 _ _ this
    have k2 : (convert 39 9 (.slice A 64 c)).run Tryz.prog w2 = .ok (.string ⟨xs.toArray⟩) w2 := run_string_of w2 _ _ c A _ (h4 [] (by simp)).byts
    have HN := Lib.hid (num_any w2 0)
    clear h4 h5 h6 h7
    go_wp2_with fail
    refine HN.out.mono ?_
    rintro e w3 ⟨rfl, rfl⟩
    go_wp2_with fail
    refine HN.out.mono ?_
    rintro e w3 ⟨rfl, rfl⟩
    go_wp2
    go_ret
    exact ⟨rfl, HT2.out⟩
end Go.Proofs.YtdjhlhellkajfaaGreat.Jou
