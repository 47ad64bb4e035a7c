/-
  The law's Light answers true or false; what is light has short names, too. Conditions: the file lies in memory.
-/
import Derived.Test.YtbhgbgaeaejnhaaQ12
import Derived.Test.YtbhgbgaeaejnhaaQ18
import Derived.Test.YtbhgbgaeaejnhaaQ24
namespace Go.Proofs.Ytbhgbgaeaejnhaa.Lt
open Go.RowKit Tre
set_option maxRecDepth 100000
set_option linter.unusedSimpArgs false
/-- True or false, and new blocks. -/
def SomeB (w : World) (e : Ending) (w' : World) : Prop := ∃ v : Bool, e = .returned (.bool v) ∧ Below w.heap.size w w'
theorem flV_eq (f : Fl) : flV f = .agg #[.string f.s, .slice f.ia f.i.length f.ic, .slice f.fa f.f.length f.fc] := rfl
theorem parC_cells {p : Par} {w : World} {b o : Nat} (h : ∀ (r : Nat) (u : Value), (parC p)[r]? = some u → w.cell? ⟨b, o + r, none⟩ = some u) : w.cell? ⟨b, o, none⟩ = some (.string p.s) := h 0 _ rfl
/-- What a light file is known of. -/
def LightOk (f : Fl) : Prop := f.f.length ≤ 100 ∧ f.i.length ≤ 100 ∧ ∀ g ∈ f.f, g.p.length ≤ 100 ∧ g.s.size ≤ 300
/-- What the loop knows of functions below k. -/
def Pl (f : Fl) (k : Nat) (p : Int) : Prop := ∀ j x, j < k → f.f[j]? = some x → x.p.length ≤ 100 ∧ (x.s.size : Int) ≤ p
theorem Pl.more {f : Fl} {k : Nat} {p q : Int} (h : Pl f k p) (hq : p ≤ q) : Pl f k q := fun j x hj hx => ⟨(h j x hj hx).1, by have := (h j x hj hx).2; omega⟩
/-- True (then the file is light) or false, and new blocks. -/
def LightR (f : Fl) (w : World) (e : Ending) (w' : World) : Prop := ∃ v : Bool, e = .returned (.bool v) ∧ (v = true → LightOk f) ∧ Below w.heap.size w w'
theorem ok_no {f : Fl} : (false = true → LightOk f) := fun h => by cases h
set_option maxHeartbeats 16000000 in
theorem light_full (f : Fl) (w : World) (hf : FlIn w f) : Calls Try.prog 6 #[flV f, .int .i64 300] w (LightR f w) := by
  have HIR := Lib.hid hf.irow
  have HFR := Lib.hid hf.frow
  have HFN := Lib.hid hf.fns
  obtain ⟨W0, hW0⟩ : ∃ W0, w.alloc (.cells #[.string f.s, .slice f.ia f.i.length f.ic, .slice f.fa f.f.length f.fc] 25) = W0 := ⟨_, rfl⟩
  have HB0 : Hid (Below w.heap.size w W0) := Lib.hid (hW0 ▸ (Below.refl _ w).alloc (Nat.le_refl _) _)
  have HN0 : Hid (W0.heap[w.heap.size]? = some (.cells #[.string f.s, .slice f.ia f.i.length f.ic, .slice f.fa f.f.length f.fc] 25 (0, 0))) := Lib.hid (hW0 ▸ new_at w _ _)
  have CN := Lib.hid (count_any f 300 W0 (hf.below HB0.out) (by omega) (by omega))
  rw [flV_eq] at CN ⊢
  generalize min (cntF f.f : Int) (300 + 1) = q at CN
  have hil := hf.ilen
  have hfl := hf.flen
  unfold most at hil hfl
  have HI : Hid (∀ k, k < f.i.length → ∃ x, f.i[k]? = some x) := Lib.hid (fun k hk => ⟨_, List.getElem?_eq_getElem hk⟩)
  have HF : Hid (∀ k, k < f.f.length → ∃ x, f.f[k]? = some x) := Lib.hid (fun k hk => ⟨_, List.getElem?_eq_getElem hk⟩)
  have HALL : Hid (∀ (n : Nat) (p : Int), n = f.f.length → f.f.length ≤ 100 → f.i.length ≤ 100 → p ≤ 300 → Pl f n p → LightOk f) := Lib.hid (fun n p hn h1 h2 hp h3 => ⟨h1, h2, fun g hg => by
    obtain ⟨j, hj, rfl⟩ := List.mem_iff_getElem.1 hg
    have := h3 j _ (by omega) (List.getElem?_eq_getElem hj)
    exact ⟨this.1, by omega⟩⟩)
  generalize f.i.length = ni at *
  generalize f.f.length = nf at *
  have HZ : Hid (∀ u : World, Below W0.heap.size W0 u → u.cell? ⟨w.heap.size, 0, none⟩ = some (.string f.s) ∧ u.cell? ⟨w.heap.size, 1, none⟩ = some (.slice f.ia ni f.ic) ∧ u.cell? ⟨w.heap.size, 2, none⟩ = some (.slice f.fa nf f.fc)) := Lib.hid (fun u hu => by
    have h := (hu.block _ (lt_of_heap HN0.out)).trans HN0.out
    exact ⟨cell_at h 0, cell_at h 1, cell_at h 2⟩)
  obtain ⟨z0, z1, z2⟩ := HZ.out W0 (Below.refl _ _)
  clear hf
  by_cases h1 : 100 < nf
  · go_enter Try.func6, Try.ntmps6
    go_wp2_with fail
    go_ret
    exact ⟨_, rfl, ok_no, HB0.out⟩
  by_cases h2 : 100 < ni
  · go_enter Try.func6, Try.ntmps6
    go_wp2_with fail
    go_ret
    exact ⟨_, rfl, ok_no, HB0.out⟩
  by_cases h3 : 300 < q
  · go_enter Try.func6, Try.ntmps6
    go_wp2_with fail
    refine CN.out.mono ?_
    rintro e1 w1 ⟨rfl, hb⟩
    have HB1 := Lib.hid (HB0.out.trans (hb.mono HB0.out.size))
    clear hb
    go_wp2_with fail
    go_ret
    exact ⟨_, rfl, ok_no, HB1.out⟩
  go_enter Try.func6, Try.ntmps6
  go_wp2_with fail
  refine CN.out.mono ?_
  rintro e1 w1 ⟨rfl, hb⟩
  have HB1 := Lib.hid hb
  obtain ⟨z0, z1, z2⟩ := HZ.out w1 hb
  clear hb
  go_wp2_with fail
  go_loopw [5, 6] (fun v i wr => ∃ (p : Int) (k : Nat), k ≤ ni ∧ v = .int .i64 p ∧ i = .int .i64 k ∧ Hid (Below W0.heap.size W0 wr)) (fun _ i _ => ni - (intOf i).toNat)
  case atStart => exact ⟨_, 0, Nat.zero_le _, rfl, rfl, HB1⟩
  case round =>
    obtain ⟨p, k, hk, rfl, rfl, HB⟩ := hrel
    obtain ⟨z0, z1, z2⟩ := HZ.out wr HB.out
    by_cases hlt : k < ni
    · obtain ⟨x, hx⟩ := HI.out k hlt
      obtain ⟨b1, o1, ha, hc1⟩ := HIR.out.at_ (HB0.out.trans (HB.out.mono HB0.out.size)) hx
      rw [ha] at z1
      clear ha
      have p0 := hc1 0 _ rfl
      simp only [Nat.add_zero, Nat.mul_one] at p0
      clear hc1 hx
      go_wp2_with fail
      all_goals go_roundw
      all_goals first
        | exact ⟨_, k + 1, by omega, rfl, by omega⟩
        | exact ⟨_, k + 1, by omega, rfl, by go_num, HB⟩
        | (simp [intOf]; omega)
    · obtain rfl : k = ni := by omega
      go_wp2_with fail
      go_loopw [5, 7] (fun v i wr => ∃ (p : Int) (k : Nat), k ≤ nf ∧ v = .int .i64 p ∧ i = .int .i64 k ∧ Hid (Pl f k p) ∧ Hid (Below W0.heap.size W0 wr)) (fun _ i _ => nf - (intOf i).toNat)
      case atStart => exact ⟨_, 0, Nat.zero_le _, rfl, rfl, Lib.hid (fun j x hj => by omega), HB⟩
      case round =>
        obtain ⟨p, k2, hk2, rfl, rfl, HPL, HB2⟩ := hrel
        obtain ⟨z0, z1, z2⟩ := HZ.out wr HB2.out
        by_cases hlt2 : k2 < nf
        · obtain ⟨x, hx⟩ := HF.out k2 hlt2
          have hfn := HFN.out x (List.mem_of_getElem? hx)
          have HX := Lib.hid hx
          obtain ⟨b1, o1, ha, hc1⟩ := HFR.out.at_ (HB0.out.trans (HB2.out.mono HB0.out.size)) hx
          rw [ha] at z2
          clear ha
          obtain ⟨p0, p1, p2, p3⟩ := fnC_at hc1
          have hpl := hfn.plen
          unfold most at hpl
          have HPR := Lib.hid hfn.p
          have HP : Hid (∀ k, k < x.p.length → ∃ y, x.p[k]? = some y) := Lib.hid (fun k hk => ⟨_, List.getElem?_eq_getElem hk⟩)
          have CL := Lib.hid (fun (u : World) (hu : Below W0.heap.size W0 u) => long_any x.b x.ba x.bc u (hfn.b.below (HB0.out.trans (hu.mono HB0.out.size))) (fun s hs => (hfn.sts s hs).below (HB0.out.trans (hu.mono HB0.out.size))) hfn.blen)
          have HNX : Hid (∀ (n : Nat) (q : Int), x.p.length = n → n ≤ 100 → p ≤ q → (x.s.size : Int) ≤ q → Pl f (k2 + 1) q) := Lib.hid (fun n q hn h1 h2 h3 j y hj hy => by
            by_cases e : j = k2
            · subst e
              obtain rfl : x = y := Option.some.inj (HX.out.symm.trans hy)
              exact ⟨by omega, h3⟩
            · exact HPL.out.more h2 j y (by omega) hy)
          generalize x.p.length = np at *
          have HNX2 : Hid (∀ q : Int, np ≤ 100 → p ≤ q → (x.s.size : Int) ≤ q → Pl f (k2 + 1) q) := Lib.hid (fun q => HNX.out np q rfl)
          clear HNX
          generalize x.b.length = nb at *
          clear hc1 hx hfn
          go_upto_region 11 with fail
          go_cut [5] (fun v wx => wx = wr ∧ ∃ q : Int, v = .int .i64 q ∧ p ≤ q ∧ (x.s.size : Int) ≤ q)
          case first =>
            go_wp2_with fail
            all_goals (go_meet; exact ⟨rfl, _, rfl, by omega, by omega⟩)
          case rest =>
            obtain ⟨hw, q2, rfl, hq1, hq2⟩ := hcut
            have hw2 := hw.symm
            subst hw2
            by_cases h4 : 100 < np
            · go_wp2_with fail
              go_ret
              exact ⟨_, rfl, ok_no, HB0.out.trans (HB2.out.mono HB0.out.size)⟩
            · obtain ⟨wo, hwo⟩ : ∃ wo : World, wo = wr := ⟨_, rfl⟩
              subst hwo
              go_wp2_with fail
              go_loopw [5, 8] (fun v i wr => ∃ (p : Int) (k : Nat), k ≤ np ∧ v = .int .i64 p ∧ i = .int .i64 k ∧ q2 ≤ p ∧ wr = wo) (fun _ i _ => np - (intOf i).toNat)
              case atStart => exact ⟨_, 0, Nat.zero_le _, rfl, rfl, Int.le_refl _, rfl⟩
              case round =>
                obtain ⟨p4, k4, hk4, rfl, rfl, hp4, hw⟩ := hrel
                have hw2 := hw.symm
                subst hw2
                by_cases hlt4 : k4 < np
                · obtain ⟨y, hy⟩ := HP.out k4 hlt4
                  obtain ⟨b2, o2, ha2, hc2⟩ := HPR.out.at_ (HB0.out.trans (HB2.out.mono HB0.out.size)) hy
                  rw [ha2] at p1
                  clear ha2
                  have y0 := parC_cells hc2
                  clear hc2 hy
                  go_wp2_with fail
                  all_goals go_roundw
                  all_goals first
                    | exact ⟨_, k4 + 1, by omega, rfl, by go_num, by omega, rfl⟩
                    | exact ⟨_, k4 + 1, by omega, rfl, by go_num, by omega, trivial⟩
                    | exact ⟨_, k4 + 1, by omega, rfl, rfl, by omega, trivial⟩
                    | exact ⟨_, k4 + 1, by omega, rfl, by omega, by omega⟩
                    | (simp [intOf]; omega)
                · obtain rfl : k4 = np := by omega
                  have CL1 := Lib.hid (CL.out wo HB2.out)
                  go_wp2_with fail
                  refine CL1.out.mono ?_
                  rintro e1 w5 ⟨v5, rfl, hb5⟩
                  have HB5 := Lib.hid (HB2.out.trans (hb5.mono HB2.out.size))
                  have hnp : k4 ≤ 100 := by omega
                  clear hb5
                  go_wp2_with fail
                  all_goals go_roundw
                  all_goals first
                    | exact ⟨_, k2 + 1, by omega, rfl, by go_num, Lib.hid (HNX2.out _ hnp (by omega) (by omega)), HB5⟩
                    | (simp [intOf]; omega)
        · obtain rfl : k2 = nf := by omega
          go_wp2_with fail
          go_ret
          refine ⟨_, rfl, fun hv => ?_, HB0.out.trans (HB2.out.mono HB0.out.size)⟩
          exact HALL.out _ p rfl (by omega) (by omega) (of_decide_eq_true hv) HPL.out
theorem light_any (f : Fl) (w : World) (hf : FlIn w f) : Calls Try.prog 6 #[flV f, .int .i64 300] w (SomeB w) :=
  (light_full f w hf).mono fun _ _ ⟨v, h1, _, h3⟩ => ⟨v, h1, h3⟩
end Go.Proofs.Ytbhgbgaeaejnhaa.Lt
/- The program's newSig, and Look. Conditions: what is looked through lies in memory; sizes. -/
namespace Go.Proofs.Ytbhgbgaeaejnhaa.Typ
open Go.RowKit Tre
open OwnR (OwnG)
open Lex (AtS at_take at_run at_call)
set_option maxRecDepth 100000
set_option linter.unusedSimpArgs false
/-- A row of types is appended to nothing. -/
theorem app_types {w : World} {A : Option Addr} {c : Nat} {l : List Int} (h : Row 1 tyC w A l) (hl : l.length ≤ 1000000) :
    ∃ A2 c2 w2, (∀ ty, (Builtin.append_ #[26, 26] ty #[.slice none 0 0, .slice A l.length c]).run Try.prog w = .ok (.slice A2 l.length c2) w2) ∧ OwnG 1 tyC 31 w2 w.heap.size (.slice A2 l.length c2) l ∧ Below w.heap.size w w2 := by
  obtain ⟨i, hi, hz, hs, hb⟩ := infoT_of
  cases l with
  | nil =>
    refine ⟨none, 0, w, fun ty => ?_, OwnG.nil _ _, Below.refl _ _⟩
    cases A with
    | none => exact run_append_nothing w _ _ ty _ i und_tl hi none 0 0 (Nat.le_refl _) _ (Src.ofNil w und_tl c)
    | some a => exact run_append_nothing w _ _ ty _ i und_tl hi none 0 0 (Nat.le_refl _) _ (Src.ofSlice w und_tl a 0 c [] (by simp) (fun j u hu => by simp at hu) (by simp))
  | cons x l =>
    obtain ⟨b, o, rfl, hlt, hc⟩ := h (by simp)
    obtain ⟨v2, w2, h1, h2, h3, h4⟩ := OwnG.apps und_tl hi hz hs hb rfl (by decide) (fun _ => rfl) (fun x u hu => by simp [tyC] at hu; subst hu; rfl) w (.slice none 0 0) [] (x :: l) b o c (OwnG.nil w w.heap.size) (fun h0 => ⟨b, o, rfl, hlt, hc⟩) (by simpa using hl) (by decide) (Nat.le_refl _)
    obtain ⟨A2, c2, rfl, _⟩ := h2.form
    refine ⟨A2, c2, w2, h1, h2, ⟨h3.os, h3.tape, h3.output, h3.size, fun k hk => h3.block k hk (by simp [Value.ownBlock])⟩⟩
set_option maxHeartbeats 8000000 in
theorem newSig_any (g : Sg) (w : World) (hg : SgIn w g) (hs : g.s.size ≤ 281474976710656) (hp : g.p.length ≤ 1000000) :
    Calls Try.prog 37 #[sgV g] w (fun e w' => ∃ g2, e = .returned (sgV g2) ∧ coreG g2 = coreG g ∧ SgIn w' g2 ∧ NewG w.heap.size w'.heap.size g2 ∧ Below w.heap.size w w') := by
  have HG := Lib.hid hg
  have CL := Lib.hid (fun w' => clone_any g.s w' hs)
  rw [sgV_eq]
  have H0 : Hid (((w.alloc (.cells #[.string g.s, .slice g.a g.p.length g.c, .int .u8 g.r] 33)).alloc (.cells #[.string ⟨#[]⟩, .slice none 0 0, .int .u8 0] 33)).heap[w.heap.size]? = some (.cells #[.string g.s, .slice g.a g.p.length g.c, .int .u8 g.r] 33 (0, 0)) ∧ ((w.alloc (.cells #[.string g.s, .slice g.a g.p.length g.c, .int .u8 g.r] 33)).alloc (.cells #[.string ⟨#[]⟩, .slice none 0 0, .int .u8 0] 33)).heap[w.heap.size + 1]? = some (.cells #[.string ⟨#[]⟩, .slice none 0 0, .int .u8 0] 33 (0, 0)) ∧ Below w.heap.size w ((w.alloc (.cells #[.string g.s, .slice g.a g.p.length g.c, .int .u8 g.r] 33)).alloc (.cells #[.string ⟨#[]⟩, .slice none 0 0, .int .u8 0] 33)) ∧ ((w.alloc (.cells #[.string g.s, .slice g.a g.p.length g.c, .int .u8 g.r] 33)).alloc (.cells #[.string ⟨#[]⟩, .slice none 0 0, .int .u8 0] 33)).heap.size = w.heap.size + 2) := Lib.hid (by
    have a1 := ball_new w #[.string g.s, .slice g.a g.p.length g.c, .int .u8 g.r] 33
    have n1 := new_at w #[.string g.s, .slice g.a g.p.length g.c, .int .u8 g.r] 33
    have z1 : (w.alloc (.cells #[.string g.s, .slice g.a g.p.length g.c, .int .u8 g.r] 33)).heap.size = w.heap.size + 1 := World.size_alloc _ _
    generalize w.alloc (.cells #[.string g.s, .slice g.a g.p.length g.c, .int .u8 g.r] 33) = X1 at *
    have n2 := new_at X1 #[.string ⟨#[]⟩, .slice none 0 0, .int .u8 0] 33
    rw [z1] at n2
    exact ⟨(Below.heap_alloc X1 _ _ (lt_of_heap n1)).trans n1, n2, a1.trans ((ball_new X1 _ _).mono a1.size), by rw [World.size_alloc, z1]⟩)
  obtain ⟨n, hn⟩ : ∃ n, g.p.length = n := ⟨_, rfl⟩
  rw [hn] at H0 hp ⊢
  have HNN := Lib.hid hn
  clear hg hs hn
  go_enter Try.func37, Try.ntmps37
  go_wp2_with fail
  generalize (w.alloc (.cells #[.string g.s, .slice g.a n g.c, .int .u8 g.r] 33)).alloc (.cells #[.string ⟨#[]⟩, .slice none 0 0, .int .u8 0] 33) = X at *
  refine AtS.start (by kernel_rfl) 9 (fun W => Below X.heap.size X W) (by kernel_rfl) (by kernel_rfl) ?_
  have hS : Below X.heap.size X X.drew := (Below.refl _ X).drew
  have HCL : Hid (∀ W : World, Below X.heap.size X W → W.cell? ⟨w.heap.size, 0, none⟩ = some (.string g.s) ∧ W.cell? ⟨w.heap.size, 1, none⟩ = some (.slice g.a n g.c) ∧ W.cell? ⟨w.heap.size, 2, none⟩ = some (.int .u8 g.r)) := Lib.hid (fun W hW => by
    have h := (hW.block _ (lt_of_heap H0.out.1)).trans H0.out.1
    exact ⟨cell_at h 0, cell_at h 1, cell_at h 2⟩)
  have HRW : Hid (∀ W : World, Below X.heap.size X W → Row 1 tyC W g.a g.p) := Lib.hid (fun W hW => (HG.out.below (H0.out.2.2.1.trans (hW.mono (by have := H0.out.2.2.2; omega)))).row)
  have HFIN : Hid (∀ (W : World) (A2 : Option Addr) (c2 : Nat), Below X.heap.size X W → OwnG 1 tyC 31 W X.heap.size (.slice A2 n c2) g.p → ∀ W4, W4 = ((W.setCell ⟨w.heap.size + 1, 0, none⟩ (.string g.s)).setCell ⟨w.heap.size + 1, 1, none⟩ (.slice A2 n c2)).setCell ⟨w.heap.size + 1, 2, none⟩ (.int .u8 g.r) → W4.heap[w.heap.size + 1]? = some (.cells #[.string g.s, .slice A2 n c2, .int .u8 g.r] 33 (0, 0)) ∧ SgIn W4 ⟨g.s, A2, c2, g.p, g.r⟩ ∧ NewG w.heap.size W4.heap.size ⟨g.s, A2, c2, g.p, g.r⟩ ∧ Below w.heap.size w W4) := Lib.hid (fun W A2 c2 hW ho W4 e => by
    subst e
    have hz := H0.out.2.2.2
    have hr := (hW.block _ (lt_of_heap H0.out.2.1)).trans H0.out.2.1
    refine ⟨(setc_at (setc_at (setc_at hr _) _) _).trans (by rfl), ⟨?_, HG.out.len, HG.out.s⟩, fun b o e => ?_, (((H0.out.2.2.1.trans (hW.mono (by omega))).setCell (p := ⟨w.heap.size + 1, 0, none⟩) (by simp) _).setCell (p := ⟨w.heap.size + 1, 1, none⟩) (by simp) _).setCell (p := ⟨w.heap.size + 1, 2, none⟩) (by simp) _⟩
    rotate_left
    · have := ho.lt b (by show (Value.slice A2 n c2).ownBlock = some b; rw [show A2 = some ⟨b, o, none⟩ from e]; rfl)
      refine ⟨by omega, ?_⟩
      simp only [World.size_setCell]
      exact this.2
    rw [← HNN.out] at ho ⊢
    refine OwnG.row (C := tyC) (k := 1) (fun _ => rfl) (ho.keep fun k hk => ?_)
    have := (ho.lt k hk).1
    have hne : k ≠ w.heap.size + 1 := by omega
    rw [Below.heap_setCell _ _ _ _ hne, Below.heap_setCell _ _ _ _ hne, Below.heap_setCell _ _ _ _ hne])
  refine at_take 0 3 (.pointer (some ⟨w.heap.size, 0, none⟩)) rfl rfl (by kernel_rfl) (by decide) (by decide) (fun _ _ _ h => h) (by kernel_rfl) hS (fun w' hw' => ?_) ?_
  · obtain ⟨q0, q1, q2⟩ := HCL.out w' hw'
    go_simp
  go_frame
  refine at_take 1 4 (.string g.s) rfl rfl (by kernel_rfl) (by decide) (by decide) (fun _ _ _ h => h) (by kernel_rfl) hS (fun w' hw' => ?_) ?_
  · obtain ⟨q0, q1, q2⟩ := HCL.out w' hw'
    go_simp
  go_frame
  refine at_take 3 6 (.pointer (some ⟨w.heap.size, 1, none⟩)) rfl rfl (by kernel_rfl) (by decide) (by decide) (fun _ _ _ h => h) (by kernel_rfl) hS (fun w' hw' => ?_) ?_
  · obtain ⟨q0, q1, q2⟩ := HCL.out w' hw'
    go_simp
  go_frame
  refine at_take 4 7 (.slice g.a n g.c) rfl rfl (by kernel_rfl) (by decide) (by decide) (fun _ _ _ h => h) (by kernel_rfl) hS (fun w' hw' => ?_) ?_
  · obtain ⟨q0, q1, q2⟩ := HCL.out w' hw'
    go_simp
  go_frame
  refine at_take 6 9 (.pointer (some ⟨w.heap.size, 2, none⟩)) rfl rfl (by kernel_rfl) (by decide) (by decide) (fun _ _ _ h => h) (by kernel_rfl) hS (fun w' hw' => ?_) ?_
  · obtain ⟨q0, q1, q2⟩ := HCL.out w' hw'
    go_simp
  go_frame
  refine at_take 7 10 (.int .u8 g.r) rfl rfl (by kernel_rfl) (by decide) (by decide) (fun _ _ _ h => h) (by kernel_rfl) hS (fun w' hw' => ?_) ?_
  · obtain ⟨q0, q1, q2⟩ := HCL.out w' hw'
    go_simp
  go_frame
  refine at_call 2 5 (f := 42) (args := #[.string g.s]) rfl rfl (by kernel_rfl) (by decide) (by kernel_rfl) ?_ ?_
  · go_simp
  refine (CL.out _).mono ?_
  rintro e w3 ⟨rfl, hb3⟩
  have hS3 : Below X.heap.size X w3 := hS.trans (hb3.mono hS.size)
  obtain ⟨A2, c2, w4, hr, ho, hb⟩ := app_types (c := g.c) (HRW.out w3 hS3) (by rw [HNN.out]; exact hp)
  rw [HNN.out] at hr ho
  have hS4 := hS3.trans (hb.mono hS3.size)
  refine ⟨_, rfl, hS3, ?_⟩
  go_frame
  refine at_run 5 8 (.slice A2 n c2) w4 rfl rfl (by kernel_rfl) (by decide) (by kernel_rfl) (run_appz (.const (.slice none 0 0)) (.tmp 7) rfl rfl rfl hr) hS4 ?_
  go_frame
  have ho' : OwnG 1 tyC 31 w4 X.heap.size (.slice A2 n c2) g.p := ⟨ho.1, ho.2.imp id fun ⟨q1, q2, q3, q4, q5, q6⟩ => ⟨q1, q2, q3, q4, Nat.le_trans hS3.size q5, q6⟩⟩
  refine at_take 8 11 (.agg #[.string g.s, .slice A2 n c2, .int .u8 g.r]) rfl rfl (by kernel_rfl) (by decide) (by decide) (fun _ _ _ h => h) (by kernel_rfl) hS4 (fun w' hw' => ?_) ?_
  · go_simp
  go_frame
  have hres := (Below.block hS4 _ (lt_of_heap H0.out.2.1)).trans H0.out.2.1
  have c0 := cell_at hres 0
  have c1 := cell_at hres 1
  have c2' := cell_at hres 2
  have f0 : ∀ i, w4.frozen? ⟨w.heap.size + 1, i, none⟩ = false := fun i => by simp [World.frozen?, hres]
  simp only [List.getElem?_toArray, List.getElem?_cons_zero, List.getElem?_cons_succ] at c0 c1 c2'
  have HE := Lib.hid (HFIN.out w4 A2 c2 hS4 ho' _ rfl)
  refine AtS.last (i := 9) (w' := ((w4.setCell ⟨w.heap.size + 1, 0, none⟩ (.string g.s)).setCell ⟨w.heap.size + 1, 1, none⟩ (.slice A2 n c2)).setCell ⟨w.heap.size + 1, 2, none⟩ (.int .u8 g.r)) rfl (by kernel_rfl) (by kernel_rfl) (by decide) (by kernel_rfl) ?_ ?_
  · go_simp
  go_frame
  clear f0 c0 c1 c2' hres
  generalize ((w4.setCell ⟨w.heap.size + 1, 0, none⟩ (.string g.s)).setCell ⟨w.heap.size + 1, 1, none⟩ (.slice A2 n c2)).setCell ⟨w.heap.size + 1, 2, none⟩ (.int .u8 g.r) = W4 at *
  go_wp2_with fail
  refine bodyPost_ret (results_sig rfl _ _ (w.heap.size + 1) _ _ _ rfl HE.out.1) rfl ⟨⟨g.s, A2, c2, g.p, g.r⟩, ?_, rfl, HE.out.2.1, HE.out.2.2.1, HE.out.2.2.2⟩
  rw [sgV_eq]
  show _ = Ending.returned (.agg #[.string g.s, .slice A2 g.p.length c2, .int .u8 g.r])
  rw [HNN.out]
end Go.Proofs.Ytbhgbgaeaejnhaa.Typ
