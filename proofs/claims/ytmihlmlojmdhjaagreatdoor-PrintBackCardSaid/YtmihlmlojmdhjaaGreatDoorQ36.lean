/-
  The law's back: a file that is printed is parsed as it was. Conditions: the file lies in memory, its numbers are an int64's; the tables lie as the program lays them.
-/
import Derived.Test.YtmihlmlojmdhjaaGreatDoorQ05
import Derived.Test.YtmihlmlojmdhjaaGreatDoorQ11
import Derived.Test.YtmihlmlojmdhjaaGreatDoorQ26
import Derived.Test.YtmihlmlojmdhjaaGreatDoorQ27
import Derived.Test.YtmihlmlojmdhjaaGreatDoorQ32
import Derived.Test.YtmihlmlojmdhjaaGreatDoorQ35
import Derived.Test.YtmihlmlojmdhjaaGreatDoorCards
import Derived.Test.YtmihlmlojmdhjaaGreatDoorTie
import Derived.Deep.Strs
import Derived.LaidMore
import Derived.MakeChecks
import Derived.Stop.LaidErr
import Derived.WalkKit
import Derived.ProofKit
import Derived.OpenShut
import Derived.Deep.DeepHandedRow
import Derived.Lib.LaidTab
import Derived.Laws.MakeOwn
import Derived.Laws.CopyRow
namespace Go.Proofs.YtmihlmlojmdhjaaGreatDoor.Wr
open Go.RowKit Tre
open Lex (bs)
open Prg (textL OkL LoL Tabs TellF nestG nestg_any nestG_all parseFile_any words_file back_file file_back)
open Prs (fileT nestD)
set_option maxRecDepth 100000
structure All (w : World) : Prop where
  g : Gd w
  t : Tabs w
theorem All.below {w w' : World} (h : All w) (hb : Below w.heap.size w w') : All w' := ⟨h.g.below hb, h.t.below hb⟩
theorem num_any (a : Int) (w : World) : Calls Tryz.prog 15 #[.int .i64 a] w fun e w' => e = .returned (.int .i64 a) ∧ w' = w := by
  go_enter Tryz.func15, Tryz.ntmps15
  go_wp2_with fail
  go_ret
  exact ⟨rfl, rfl⟩
set_option maxHeartbeats 8000000 in
theorem lback_no (f : Fl) (w : World) (hf : FlIn w f) (h : (decide ((nodes givenB f.f).length ≤ 100000) && rFile f) = false) : Calls Tryz.prog 6 #[flV f] w (EndsB (.bool true) w) := by
  obtain ⟨W0, hW0⟩ : ∃ W0, w.alloc (.cells #[.string f.s, .slice f.ia f.i.length f.ic, .slice f.fa f.f.length f.fc] 25) = W0 := ⟨_, rfl⟩
  have HB0 : Hid (Below w.heap.size w W0) := Lib.hid (hW0 ▸ (Below.refl _ w).alloc (Nat.le_refl _) _)
  have HN0 : Hid (W0.heap[w.heap.size]? = some (.cells #[.string f.s, .slice f.ia f.i.length f.ic, .slice f.fa f.f.length f.fc] 25 (0, 0))) := Lib.hid (hW0 ▸ new_at w _ _)
  have CP := Lib.hid (printFile_no f W0 (hf.below HB0.out) h)
  have CR := Lib.hid (fun u (hu : Below W0.heap.size W0 u) => right_any f u ((hf.below HB0.out).below hu))
  rw [h] at CR
  rw [flV_eq] at CP CR ⊢
  obtain ⟨z0, z1, z2⟩ := x3 HN0.out
  clear hf h
  go_enter Tryz.func6, Tryz.ntmps6
  go_wp2_with fail
  refine CP.out.mono ?_
  rintro e1 w1 ⟨rfl, hb1⟩
  have HB1 := Lib.hid (HB0.out.trans (hb1.mono HB0.out.size))
  have CR1 := Lib.hid (CR.out w1 hb1)
  obtain ⟨y0, y1, y2⟩ := x3 ((hb1.block _ (lt_of_heap HN0.out)).trans HN0.out)
  clear hb1 CR CP z0 z1 z2
  go_wp2_with fail
  refine CR1.out.mono ?_
  rintro e1 w2 ⟨rfl, hb2⟩
  have HB2 := Lib.hid (HB1.out.trans (hb2.mono HB1.out.size))
  clear hb2
  go_wp2_with fail
  go_ret
  exact EndsB.of rfl HB2.out
set_option maxHeartbeats 16000000 in
theorem lback_yes (f : Fl) (w : World) (hf : FlIn w f) (hA : All w) (hlo : LoL (coreL f)) (hn : (nodes givenB f.f).length ≤ 100000) (hr : rFile f = true) : Calls Tryz.prog 6 #[flV f] w (EndsB (.bool true) w) := by
  obtain ⟨W0, hW0⟩ : ∃ W0, w.alloc (.cells #[.string f.s, .slice f.ia f.i.length f.ic, .slice f.fa f.f.length f.fc] 25) = W0 := ⟨_, rfl⟩
  have HB0 : Hid (Below w.heap.size w W0) := Lib.hid (hW0 ▸ (Below.refl _ w).alloc (Nat.le_refl _) _)
  have HN0 : Hid (W0.heap[w.heap.size]? = some (.cells #[.string f.s, .slice f.ia f.i.length f.ic, .slice f.fa f.f.length f.fc] 25 (0, 0))) := Lib.hid (hW0 ▸ new_at w _ _)
  have hok := file_back hr
  have CP := Lib.hid (printFile_yes f W0 (hf.below HB0.out) (hA.g.below HB0.out) hlo hn hr)
  have CW := Lib.hid (fun u (hu : Below W0.heap.size W0 u) => Lex.words_any (textL (coreL f)) u ((hA.t.below HB0.out).below hu).lex)
  have CF := Lib.hid (fun u (hu : Below W0.heap.size W0 u) => parseFile_any (textL (coreL f)) u ((hA.t.below HB0.out).below hu))
  have CS := Lib.hid (fun u (hu : Below W0.heap.size W0 u) (g : Fl) (hg : FlIn u g) => same_any f g u ((hf.below HB0.out).below hu) hg)
  have CN := fun e w' => Lib.hid (num_any e w')
  have HWF := Lib.hid (words_file hok hlo)
  have HBF := Lib.hid (back_file hok hlo)
  have HCO : Hid (∀ g : Fl, coreL g = coreL f → (decide ((nodes givenB f.f).length ≤ 100000) && sameFl f g) = true) := Lib.hid (fun g hg => by rw [decide_eq_true hn, sameFl_core hg.symm]; rfl)
  have CP' : Hid (Calls Tryz.prog 11 #[flV f] W0 (fun e w' => e = .returned (.tuple #[.string (bs (textL (coreL f))), .bool true]) ∧ Below W0.heap.size W0 w')) := CP
  rw [flV_eq f] at CP' CS ⊢
  generalize textL (coreL f) = t at *
  obtain ⟨z0, z1, z2⟩ := x3 HN0.out
  clear hf hA hlo hn hr hok CP
  rcases HWF.out with hw | hw
  case' inr => have hw2 : (Lex.words t).2 = 11 := by rw [hw]
  case' inl => have hw2 : (Lex.words t).2 = 0 := by rw [hw]
  all_goals
    unfold Lex.WordsR at CW
    rw [hw2] at CW
    generalize bs t = TX at *
  case inr =>
    clear hw hw2 CF CS
    go_enter Tryz.func6, Tryz.ntmps6
    go_wp2_with fail
    refine CP'.out.mono ?_
    rintro e1 w1 ⟨rfl, hb1⟩
    have HB1 := Lib.hid (HB0.out.trans (hb1.mono HB0.out.size))
    have CW1 := Lib.hid (CW.out w1 hb1)
    clear hb1 CW CP'
    go_wp2_with fail
    refine CW1.out.mono ?_
    rintro e1 w2 ⟨v, rfl, _, hb2⟩
    have HB2 := Lib.hid (HB1.out.trans (hb2.mono HB1.out.size))
    clear hb2
    go_wp2_with fail
    refine (CN 11 w2).out.mono ?_
    rintro e1 w3 ⟨rfl, rfl⟩
    go_wp2_with fail
    refine (CN 11 _).out.mono ?_
    rintro e1 w3 ⟨rfl, rfl⟩
    go_wp2_with fail
    refine (CN 11 _).out.mono ?_
    rintro e1 w3 ⟨rfl, rfl⟩
    go_wp2_with fail
    refine (CN 11 _).out.mono ?_
    rintro e1 w3 ⟨rfl, rfl⟩
    go_wp2_with fail
    go_ret
    exact EndsB.of rfl HB2.out
  case inl =>
    have HW2 := Lib.hid hw2
    have hgood := (Prg.words_ok0 hw2).2.2
    have HGL := Lib.hid hgood
    clear hw hw2 hgood
    go_enter Tryz.func6, Tryz.ntmps6
    go_wp2_with fail
    refine CP'.out.mono ?_
    rintro e1 w1 ⟨rfl, hb1⟩
    have HB1 := Lib.hid hb1
    have CW1 := Lib.hid (CW.out w1 hb1)
    clear hb1 CW CP'
    go_wp2_with fail
    refine CW1.out.mono ?_
    rintro e1 w2 ⟨v, rfl, hv, hb2⟩
    have HB2 := Lib.hid (HB1.out.trans (hb2.mono HB1.out.size))
    obtain ⟨A, c, rfl, hc, hAA⟩ := Prg.OwnW.cap hv
    have CNE := Lib.hid (nestg_any (Lex.words t).1 A c w2 (Prg.OwnW.row hv) (by have := HGL.out; omega))
    rw [nestG_all] at CNE
    have HND := Lib.hid HBF.out
    generalize hnd : nestD (Lex.words t).1 = nd at *
    generalize (Lex.words t).1.length = wl at *
    clear hb2 hv hc hAA hnd
    go_wp2_with fail
    refine (CN 0 w2).out.mono ?_
    rintro e1 w3 ⟨rfl, rfl⟩
    go_wp2_with fail
    refine CNE.out.mono ?_
    rintro e1 w4 ⟨rfl, hb4⟩
    have HB4 := Lib.hid (HB2.out.trans (hb4.mono HB2.out.size))
    clear hb4
    by_cases hd : 24 < nd
    · go_wp2_with fail
      refine (CN 0 w4).out.mono ?_
      rintro e1 w5 ⟨rfl, rfl⟩
      go_wp2_with fail
      go_ret
      exact EndsB.of rfl (HB0.out.trans (HB4.out.mono HB0.out.size))
    · have HT := Lib.hid (HND.out HW2.out hd)
      have CF1 := Lib.hid (CF.out w4 HB4.out)
      go_wp2_with fail
      refine CF1.out.mono ?_
      rintro e1 w5 ⟨g, rfl, hg1, hg2, _, hb5⟩
      have HB5 := Lib.hid (HB4.out.trans (hb5.mono HB4.out.size))
      have HG1 := Lib.hid hg1
      have HG2 := Lib.hid hg2
      have hT2 : (fileT t).2 = 0 := by rw [HT.out]
      rw [hT2]
      clear hg1 hg2 hb5 hT2
      rw [flV_eq g]
      have HBA := Lib.hid (ball_new w5 #[.string g.s, .slice g.ia g.i.length g.ic, .slice g.fa g.f.length g.fc] 25)
      have HNA := Lib.hid (new_at w5 #[.string g.s, .slice g.ia g.i.length g.ic, .slice g.fa g.f.length g.fc] 25)
      have HB6 := Lib.hid (HB5.out.trans (HBA.out.mono HB5.out.size))
      have CS1 := CS.out _ HB6.out g (HG2.out.below HBA.out)
      rw [HCO.out g (by rw [HG1.out, HT.out])] at CS1
      rw [flV_eq g] at CS1
      have CS1 := Lib.hid CS1
      obtain ⟨y0, y1, y2⟩ := x3 HNA.out
      obtain ⟨x0, x1, x2⟩ := x3 ((HB6.out.block _ (lt_of_heap HN0.out)).trans HN0.out)
      obtain ⟨W6, hW6⟩ : ∃ W6, w5.alloc (.cells #[.string g.s, .slice g.ia g.i.length g.ic, .slice g.fa g.f.length g.fc] 25) = W6 := ⟨_, rfl⟩
      rw [hW6] at CS1 y0 y1 y2 x0 x1 x2 HB6
      go_wp2_with fail
      refine (CN 0 _).out.mono ?_
      rintro e1 w7 ⟨rfl, hw7⟩
      have hw8 := hw7.symm
      subst hw8
      go_wp2_with fail
      refine CS1.out.mono ?_
      rintro e1 w8 ⟨rfl, hb8⟩
      have HB8 := Lib.hid (HB6.out.trans (hb8.mono HB6.out.size))
      clear hb8
      go_wp2_with fail
      go_ret
      exact EndsB.of rfl (HB0.out.trans (HB8.out.mono HB0.out.size))
theorem lback_any (f : Fl) (w : World) (hf : FlIn w f) (hA : All w) (hlo : LoL (coreL f)) : Calls Tryz.prog 6 #[flV f] w (EndsB (.bool true) w) := by
  by_cases hn : (nodes givenB f.f).length ≤ 100000
  · cases hr : rFile f with
    | true => exact lback_yes f w hf hA hlo hn hr
    | false => exact lback_no f w hf (by rw [hr, Bool.and_false])
  · exact lback_no f w hf (by rw [decide_eq_false hn, Bool.false_and])
end Go.Proofs.YtmihlmlojmdhjaaGreatDoor.Wr
/- The tables, as the rows list them. -/
namespace Go.Proofs.YtmihlmlojmdhjaaGreatDoor
open Go.ChangeShapes Go.WideShapes Go.ChangeAt Go.ChangeMaps Go.WideMaps Go.WideElems Go.RowKit

theorem gTab : Tryz.prog.globalNamed "internal/strconv.uint64pow10" = some 3 := by kernel_rfl
theorem gTabType : (Tryz.prog.globals[3]?).map (·.type) = some 184 := by kernel_rfl
theorem gSigns : Tryz.prog.globalNamed "treadmill/lex.signs" = some 1 := by kernel_rfl
theorem gSignsType : (Tryz.prog.globals[1]?).map (·.type) = some 157 := by kernel_rfl
theorem gPrint : Tryz.prog.globalNamed "treadmill/print.signs" = some 0 := by kernel_rfl
theorem gPrintType : (Tryz.prog.globals[0]?).map (·.type) = some 97 := by kernel_rfl
theorem gSigs : Tryz.prog.globalNamed "treadmill/parse.signs" = some 4 := by kernel_rfl
theorem gSigsType : (Tryz.prog.globals[4]?).map (·.type) = some 193 := by kernel_rfl
theorem cellsU : Tryz.prog.cellsOf 184 = 20 := by kernel_rfl
theorem cells1u : Tryz.prog.cellsOf 156 = 1 := by kernel_rfl
theorem cells64 : Tryz.prog.cellsOf 157 = 23 := by kernel_rfl
theorem cells20 : Tryz.prog.cellsOf 97 = 20 := by kernel_rfl
theorem cells9 : Tryz.prog.cellsOf 9 = 1 := by kernel_rfl
theorem cells3 : Tryz.prog.cellsOf 3 = 1 := by kernel_rfl
theorem cellsSig : Tryz.prog.cellsOf 192 = 3 := by kernel_rfl
theorem cellsSigs : Tryz.prog.cellsOf 193 = 39 := by kernel_rfl
def textData {H : Type} (zs : List (List UInt8)) : DataW H := .agg (zs.map fun z => .lit (.string z))
/-- An array of texts that reads as the table holds the table's texts, cell for cell. -/
theorem cells_of_texts {H : Type} {enc : TypeId × Value → H} {P : Program} {w : World} {base : Nat} {sp : Nat → Bool} {held : Bool} {fuel : Nat} {t e : TypeId} {n : Nat} {cs : List Value} {zs : List (List UInt8)} {p : List MemPlace}
    (ht : P.underlying t = some (.array n e)) (he : P.underlying e = some .string) (hce : P.cellsOf e = 1) (hct : P.cellsOf t = n)
    (h : DataW.trod enc P w base sp held fuel t cs = some (textData zs, p)) : cs = zs.map Lex.str := by
  cases fuel with
  | zero => simp [DataW.trod] at h
  | succ fuel =>
    simp only [DataW.trod, ht, hce, hct, Nat.mul_one] at h
    split at h
    · rename_i hl
      obtain ⟨xs, hm, hx⟩ := Option.map_eq_some_iff.1 h
      have hxs : xs.map (·.1) = zs.map fun z => (DataW.lit (.string z) : DataW H) := by
        have := congrArg Prod.fst hx
        simpa [textData] using this
      have hxl : xs.length = n := by simpa using Lib.mapM_length hm
      have hzl : zs.length = n := by
        have := congrArg List.length hxs
        simp at this
        omega
      apply List.ext_getElem?
      intro i
      by_cases hi : i < n
      · obtain ⟨b, hb, hf⟩ := Lib.mapM_at hm i i (by simp [hi])
        obtain ⟨z, hc, rfl, _⟩ := DataW.trod_string he hf
        have h1 : cs[i]? = some (.string z) := by
          have := congrArg (·[0]?) hc
          simpa [List.getElem?_take, List.getElem?_drop] using this
        have h2 : (xs.map (·.1))[i]? = some (DataW.lit (.string z.data.toList) : DataW H) := by simp [hb]
        rw [hxs] at h2
        simp only [List.getElem?_map, Option.map_eq_some_iff, DataW.lit.injEq, Lit.string.injEq] at h2
        obtain ⟨z', hz', e⟩ := h2
        rw [h1, List.getElem?_map, hz', Option.map_some, e]
        unfold Lex.str
        rw [Lex.bs_of]
      · rw [List.getElem?_eq_none (by omega), List.getElem?_eq_none (by simp; omega)]
    · cases h
theorem signs_of_head {W : World} {rest : List (String × DataW Unit)} (h : laidMet Tryz.prog (("treadmill/lex.signs", textData Lex.signsL) :: rest) W) : Lex.Signs W := by
  obtain ⟨ps, ⟨g', t', cs, fuel, p, q, hg', ht', hvar, hd, _, _⟩, _⟩ := h
  obtain rfl := Option.some.inj (gSigns.symm.trans hg')
  obtain rfl := Option.some.inj (gSignsType.symm.trans ht')
  have hc := cells_of_texts Tryz.underlying157 Tryz.underlying9 cells9 cells64 hd
  intro i hi
  have h2 := World.var?_cell gSigns hvar i
  rw [h2]
  have h3 : Lex.signsL[i]? = some (Lex.signsL.getD i []) := by
    rw [List.getD_eq_getElem?_getD, List.getElem?_eq_getElem (show i < Lex.signsL.length from hi)]; rfl
  have h4 : cs[i]? = some (Lex.str (Lex.signsL.getD i [])) := by
    rw [← Array.getElem?_toList, hc, List.getElem?_map, h3]; rfl
  first | exact (by simpa using h4) | exact h4
theorem print_of_head {W : World} {rest : List (String × DataW Unit)} (h : laidMet Tryz.prog (("treadmill/print.signs", textData Wr.sgnP) :: rest) W) : Wr.PSg W := by
  obtain ⟨ps, ⟨g', t', cs, fuel, p, q, hg', ht', hvar, hd, _, _⟩, _⟩ := h
  obtain rfl := Option.some.inj (gPrint.symm.trans hg')
  obtain rfl := Option.some.inj (gPrintType.symm.trans ht')
  have hc := cells_of_texts Tryz.underlying97 Tryz.underlying9 cells9 cells20 hd
  intro i hi
  have h2 := World.var?_cell gPrint hvar i
  rw [h2]
  have h3 : Wr.sgnP[i]? = some (Wr.sgnP.getD i []) := by
    rw [List.getD_eq_getElem?_getD, List.getElem?_eq_getElem (show i < Wr.sgnP.length from hi)]; rfl
  have h4 : cs[i]? = some (Lex.str (Wr.sgnP.getD i [])) := by
    rw [← Array.getElem?_toList, hc, List.getElem?_map, h3]; rfl
  first | exact (by simpa using h4) | exact h4
set_option maxRecDepth 100000
open Prg (sigsL sigV sig)
def sigData {H : Type} (l : List (List UInt8 × Int × Int)) : DataW H := .agg (l.map fun e => .agg [.lit (.string e.1), .lit (.int .i64 e.2.1), .lit (.int .i64 e.2.2)])
section
variable {H : Type} {enc : TypeId × Value → H} {w : World} {base : Nat} {sp : Nat → Bool} {held : Bool}
/-- A row of the table. -/
theorem row_of_sig {fuel : Nat} {cs : List Value} {e : List UInt8 × Int × Int} {p : List MemPlace} (h : DataW.trod enc Tryz.prog w base sp held fuel 192 cs = some (.agg [.lit (.string e.1), .lit (.int .i64 e.2.1), .lit (.int .i64 e.2.2)], p)) : cs = [.string (Lex.bs e.1), .int .i64 e.2.1, .int .i64 e.2.2] := by
  obtain ⟨y0, y1, y2, n, hx, hl, h0, h1, h2⟩ := Deep.trod_struct3 Tryz.underlying192 h
  rw [cellsSig] at hl
  match cs, hl with
  | [c0, c1, c2], _ =>
    simp only [cells9, cells3, List.drop, List.take] at h0 h1 h2
    obtain ⟨s, e0, g0, _⟩ := DataW.trod_string Tryz.underlying9 h0
    obtain ⟨a, e1, g1, _⟩ := DataW.trod_int Tryz.underlying3 h1
    obtain ⟨b, e2, g2, _⟩ := DataW.trod_int Tryz.underlying3 h2
    subst g0 g1 g2
    simp only [Prod.mk.injEq, DataW.agg.injEq, List.cons.injEq, DataW.lit.injEq, Lit.string.injEq, Lit.int.injEq, true_and, and_true] at hx
    obtain ⟨⟨k0, k1, k2⟩, _⟩ := hx
    injection e0 with e0
    injection e1 with e1
    injection e2 with e2
    subst e0 e1 e2
    rw [k0, k1, k2, Lex.bs_of]
theorem sig_at : ∀ i, i < 13 → ∀ r, r < 3 → sigV[i * 3 + r]? = ([.string (Lex.bs (sig i).1), .int .i64 (sig i).2.1, .int .i64 (sig i).2.2] : List Value)[r]? := by
  intro i hi r hr
  obtain rfl | rfl | rfl | rfl | rfl | rfl | rfl | rfl | rfl | rfl | rfl | rfl | rfl : i = 0 ∨ i = 1 ∨ i = 2 ∨ i = 3 ∨ i = 4 ∨ i = 5 ∨ i = 6 ∨ i = 7 ∨ i = 8 ∨ i = 9 ∨ i = 10 ∨ i = 11 ∨ i = 12 := by omega
  all_goals (obtain rfl | rfl | rfl : r = 0 ∨ r = 1 ∨ r = 2 := by omega)
  all_goals rfl
/-- The table, cell for cell. -/
theorem cells_of_sigs {fuel : Nat} {cs : List Value} {p : List MemPlace} (h : DataW.trod enc Tryz.prog w base sp held fuel 193 cs = some (sigData sigsL, p)) : cs = sigV := by
  cases fuel with
  | zero => simp [DataW.trod] at h
  | succ fuel =>
    simp only [DataW.trod, Tryz.underlying193, cellsSig, cellsSigs] at h
    split at h
    · rename_i hl
      obtain ⟨xs, hm, hx⟩ := Option.map_eq_some_iff.1 h
      have hxs : xs.map (·.1) = sigsL.map fun e => (DataW.agg [.lit (.string e.1), .lit (.int .i64 e.2.1), .lit (.int .i64 e.2.2)] : DataW H) := by
        have := congrArg Prod.fst hx
        simpa [sigData] using this
      apply List.ext_getElem?
      intro j
      by_cases hj : j < 39
      · obtain ⟨i, r, hi, hr, rfl⟩ : ∃ i r, i < 13 ∧ r < 3 ∧ j = i * 3 + r := ⟨j / 3, j % 3, by omega, by omega, by omega⟩
        obtain ⟨b, hb, hf⟩ := Lib.mapM_at hm i i (by simp [hi])
        have h2 : (xs.map (·.1))[i]? = some b.1 := by rw [List.getElem?_map, hb]; rfl
        have h3 : sigsL[i]? = some (sig i) := by
          unfold sig
          rw [List.getD_eq_getElem?_getD, List.getElem?_eq_getElem (show i < sigsL.length from hi)]
          rfl
        rw [hxs, List.getElem?_map, h3] at h2
        have hb1 := Option.some.inj h2
        have h4 := row_of_sig (e := sig i) (p := b.2) (hf.trans (congrArg some (Prod.ext hb1.symm rfl)))
        rw [sig_at i hi r hr, ← h4, List.getElem?_take, if_pos hr, List.getElem?_drop]
      · rw [List.getElem?_eq_none (by omega), List.getElem?_eq_none (by show 39 ≤ j; omega)]
    · cases h
end
theorem sigs_of_head {W : World} {rest : List (String × DataW Unit)} (h : laidMet Tryz.prog (("treadmill/parse.signs", sigData sigsL) :: rest) W) : Prg.Sigs W := by
  obtain ⟨ps, ⟨g', t', cs, fuel, p, q, hg', ht', hvar, hd, _, _⟩, _⟩ := h
  obtain rfl := Option.some.inj (gSigs.symm.trans hg')
  obtain rfl := Option.some.inj (gSigsType.symm.trans ht')
  have hc := cells_of_sigs hd
  intro j v hv
  have h2 := World.var?_cell gSigs hvar j
  rw [Nat.zero_add]
  rw [h2, ← Array.getElem?_toList, hc]
  exact hv
theorem tabs_of {W : World} {l : List (String × DataW Unit)} (hl : l = [("math/bits.deBruijn32tab", Rows.laid_math_bits_deBruijn32tab), ("math/bits.deBruijn64tab", Rows.laid_math_bits_deBruijn64tab), ("internal/strconv.uint64pow10", Rows.laid_internal_strconv_uint64pow10), ("treadmill/lex.signs", Rows.laid_treadmill_lex_signs), ("treadmill/parse.signs", Rows.laid_treadmill_parse_signs), ("treadmill/print.signs", Rows.laid_treadmill_print_signs)]) (h : laidMetH Tryz.prog l W) : Wr.All W := by
  subst hl
  rw [MakeChecks.laidMetH_plain _ _ _ (by kernel_rfl)] at h
  have h2 := h.tail.tail
  have h3 := h2.tail
  have h4 := h3.tail
  have h5 := h4.tail
  exact ⟨⟨print_of_head (rest := []) h5, Lib.tabIs_of_head (rest := [("treadmill/lex.signs", Rows.laid_treadmill_lex_signs), ("treadmill/parse.signs", Rows.laid_treadmill_parse_signs), ("treadmill/print.signs", Rows.laid_treadmill_print_signs)]) gTab gTabType Tryz.underlying184 Tryz.underlying156 cells1u cellsU h2⟩, ⟨signs_of_head (rest := [("treadmill/parse.signs", Rows.laid_treadmill_parse_signs), ("treadmill/print.signs", Rows.laid_treadmill_print_signs)]) h3, sigs_of_head (rest := [("treadmill/print.signs", Rows.laid_treadmill_print_signs)]) h4⟩⟩
theorem fits {a : Int} (h : (Lit.int .i64 a).wf = true) : -9223372036854775808 ≤ a ∧ a ≤ 9223372036854775807 := by
  simpa [Lit.wf, IntKind.min, IntKind.max, IntKind.signed, IntKind.bits] using h
noncomputable def laidWorld (os : Os) : World := World.doorLaid Tryz.prog 600 os
end Go.Proofs.YtmihlmlojmdhjaaGreatDoor
/- The library's slices.Repeat of one expression, none, one, or two times. Condition: the expression is a zero number. -/
namespace Go.Proofs.YtmihlmlojmdhjaaGreatDoor.Wr
open Go.RowKit Tre
open Lex (AtS at_take at_call at_run)
set_option maxRecDepth 100000
/-- copy, of rows of elements of k cells each. -/
theorem run_copyk {P : Program} (k : Nat) (w : World) (dT sT ty elem : TypeId) (g o dLen dCap : Nat) (a : Addr) (sLen sCap : Nat) (cur : Array Value) (t : TypeId) (cs : List Value)
    (hu : P.underlying dT = some (.slice elem)) (hs : (P.info? elem).map (·.size) = some k)
    (hg : w.heap[g]? = some (.cells cur t (0, 0))) (hn : cs.length = Nat.min sLen dLen * k)
    (hsrc : ∀ j v, cs[j]? = some v → w.cell? (a.add j) = some v) (hfit : o + cs.length ≤ cur.size) (h1 : ∀ v ∈ cs, v.oneCell' = true) :
    (Builtin.copy_ #[dT, sT] ty #[.slice (some ⟨g, o, none⟩) dLen dCap, .slice (some a) sLen sCap]).run P w =
      .ok (goInt (Nat.min sLen dLen)) (w.setRow g (cur.toList.take o ++ cs ++ cur.toList.drop (o + cs.length)).toArray) := by
  have hl := run_loadCells_list (P := P) w a cs hsrc
  have hst := run_storeCells_at P g o t cs 0 cur w hg (by simpa using hfit) h1
  cases hq : P.info? elem with
  | none => simp [hq] at hs
  | some i =>
    have hi : i.size = k := by simpa [hq] using hs
    rw [hn] at hl
    simp [Builtin.copy_, run_underlying hu, Builtin.lenOf, Builtin.firstCells, sizeOf, typeInfo, hq, hi, hl, hst]
theorem infoX : (Tryz.prog.info? 42).map (fun i => (i.zero, i.size, i.bytes)) = some (some (.agg #[.int .i64 0, .int .i64 0, .string ⟨#[]⟩, .string ⟨#[]⟩, .slice none 0 0]), 5, 72) := by kernel_rfl
theorem infoX_size : (Tryz.prog.info? 42).map (·.size) = some 5 := by kernel_rfl
theorem und_x : Tryz.prog.underlying 40 = some (.slice 42) := by kernel_rfl
abbrev numL : List Value := [.int .i64 1, .int .i64 0, .string ⟨#[]⟩, .string ⟨#[]⟩, .slice none 0 0]
/-- What Repeat leaves. -/
def Rep (k : Nat) (w : World) (e : Ending) (w' : World) : Prop := ∃ g, e = .returned (.slice (some ⟨g, 0, none⟩) k k) ∧ w'.heap[g]? = some (.cells ((List.replicate k numL).flatten).toArray 42 (0, 0)) ∧ w.heap.size ≤ g ∧ Below w.heap.size w w'
theorem infoX_of : ∃ i, Tryz.prog.info? 42 = some i ∧ i.zero = some (.agg #[.int .i64 0, .int .i64 0, .string ⟨#[]⟩, .string ⟨#[]⟩, .slice none 0 0]) ∧ i.size = 5 ∧ i.bytes = 72 := by
  have h := infoX
  cases hi : Tryz.prog.info? 42 with
  | none => rw [hi] at h; simp at h
  | some i => rw [hi] at h; simp at h; exact ⟨i, rfl, h.1, h.2.1, h.2.2⟩
abbrev zeroL5 : List Value := [.int .i64 0, .int .i64 0, .string ⟨#[]⟩, .string ⟨#[]⟩, .slice none 0 0]
theorem made_x (k : Nat) (hk : k ≤ 2) : madeCells (Value.agg #[.int .i64 0, .int .i64 0, .string ⟨#[]⟩, .string ⟨#[]⟩, .slice none 0 0]).cells (k * 5) = ((List.replicate k zeroL5).flatten).toArray := by
  obtain rfl | rfl | rfl : k = 0 ∨ k = 1 ∨ k = 2 := by omega
  all_goals kernel_rfl
theorem make_x (k : Nat) (hk : k ≤ 2) (u : World) : (Instr.makeSlice 40 (.int .i64 (k : Int)) (.int .i64 (k : Int))).run Tryz.prog u = .ok (.slice (some ⟨u.heap.size, 0, none⟩) k k) (u.alloc (.cells ((List.replicate k zeroL5).flatten).toArray 42)) := by
  obtain ⟨i, hi, hz, h5, h72⟩ := infoX_of
  have := run_make (P := Tryz.prog) u 40 42 i _ und_x hi hz .i64 .i64 k k (by omega) (by omega) (by rw [h72]; omega) (by omega)
  rw [h5, Int.toNat_natCast, made_x k hk] at this
  exact this
/-- The first of k. -/
theorem copy_first (k : Nat) (hk : k = 1 ∨ k = 2) (r g : Nat) (u : World) (hr : u.heap[r]? = some (.cells #[.int .i64 1, .int .i64 0, .string ⟨#[]⟩, .string ⟨#[]⟩, .slice none 0 0] 42 (0, 0))) (hg : u.heap[g]? = some (.cells ((List.replicate k zeroL5).flatten).toArray 42 (0, 0))) {w0 : Nat} (hb : w0 ≤ g) :
    ∃ u', (∀ ty, (Builtin.copy_ #[40, 40] ty #[.slice (some ⟨g, 0, none⟩) k k, .slice (some ⟨r, 0, none⟩) 1 1]).run Tryz.prog u = .ok (.int .i64 1) u') ∧ u'.heap[g]? = some (.cells (numL ++ (List.replicate (k - 1) zeroL5).flatten).toArray 42 (0, 0)) ∧ Below w0 u u' := by
  have h := fun ty => run_copyk (P := Tryz.prog) 5 u 40 40 ty 42 g 0 k k ⟨r, 0, none⟩ 1 1 _ 42 numL und_x infoX_size hg (by rcases hk with rfl | rfl <;> rfl) (fun j v hv => by
    rw [Lex.plain_add, Nat.zero_add, cell_at hr]
    simpa using hv) (by rcases hk with rfl | rfl <;> decide) (by decide)
  have hb2 : ∀ A, Below w0 u (u.setRow g A) := fun A => ⟨rfl, rfl, rfl, by simp, fun i hi => setRow_other u g i _ (by omega)⟩
  rcases hk with rfl | rfl
  · exact ⟨_, fun ty => (h ty).trans (by rfl), (setRow_heap u g _ _ _ _ hg).trans (by rfl), hb2 _⟩
  · exact ⟨_, fun ty => (h ty).trans (by rfl), (setRow_heap u g _ _ _ _ hg).trans (by rfl), hb2 _⟩
/-- The second of two. -/
theorem copy_second (g : Nat) (u : World) (hg : u.heap[g]? = some (.cells (numL ++ zeroL5).toArray 42 (0, 0))) {w0 : Nat} (hb : w0 ≤ g) :
    ∃ u', (∀ ty, (Builtin.copy_ #[40, 40] ty #[.slice (some ⟨g, 5, none⟩) 1 1, .slice (some ⟨g, 0, none⟩) 1 2]).run Tryz.prog u = .ok (.int .i64 1) u') ∧ u'.heap[g]? = some (.cells (numL ++ numL).toArray 42 (0, 0)) ∧ Below w0 u u' := by
  have h := fun ty => run_copyk (P := Tryz.prog) 5 u 40 40 ty 42 g 5 1 1 ⟨g, 0, none⟩ 1 2 _ 42 numL und_x infoX_size hg rfl (fun j v hv => by
    rw [Lex.plain_add, Nat.zero_add, cell_at hg]
    have hj : j < 5 := (List.getElem?_eq_some_iff.1 hv).1
    rw [List.getElem?_toArray, List.getElem?_append_left hj]
    exact hv) (by decide) (by decide)
  exact ⟨_, fun ty => (h ty).trans (by rfl), (setRow_heap u g _ _ _ _ hg).trans (by rfl), ⟨rfl, rfl, rfl, by simp, fun i hi => setRow_other u g i _ (by omega)⟩⟩
set_option maxHeartbeats 4000000 in
theorem rep0 (r : Nat) (w : World) : Calls Tryz.prog 121 #[.slice (some ⟨r, 0, none⟩) 1 1, .int .i64 0] w (Rep 0 w) := by
  have CM := Lib.hid (Tryz.bits_Mul 1 0 (by omega) (by omega) w)
  have hmk := make_x 0 (by omega) w
  rw [show ((0 : Nat) : Int) = 0 from rfl] at hmk
  have hcp : ∀ ty, (Builtin.copy_ #[40, 40] ty #[.slice (some ⟨w.heap.size, 0, none⟩) 0 0, .slice (some ⟨r, 0, none⟩) 1 1]).run Tryz.prog (w.alloc (.cells #[] 42)) = .ok (.int .i64 0) (w.alloc (.cells #[] 42)) := fun ty => by
    have h := run_copyk (P := Tryz.prog) 5 (w.alloc (.cells #[] 42)) 40 40 ty 42 w.heap.size 0 0 0 ⟨r, 0, none⟩ 1 1 _ 42 [] und_x infoX_size (new_at w _ _) rfl (fun j v hv => by simp at hv) (by decide) (by simp)
    rw [h]
    simp only [List.append_nil, List.length_nil, Nat.add_zero, List.take_append_drop]
    rw [setRow_self _ _ _ _ _ (new_at w _ _)]
    rfl
  have HB : Hid (Below w.heap.size w (w.alloc (.cells #[] 42))) := Lib.hid (ball_new w _ _)
  have HN : Hid ((w.alloc (.cells #[] 42)).heap[w.heap.size]? = some (.cells #[] 42 (0, 0))) := Lib.hid (new_at w _ _)
  rw [show ((List.replicate 0 zeroL5).flatten).toArray = (#[] : Array Value) from rfl] at hmk
  obtain ⟨W1, hW1⟩ : ∃ W1, w.alloc (.cells #[] 42) = W1 := ⟨_, rfl⟩
  rw [hW1] at hmk hcp HB HN
  clear hW1
  go_enter Tryz.func121, Tryz.ntmps121
  go_wp2_with fail
  refine CM.out.mono ?_
  rintro e1 w1 ⟨rfl, hw⟩
  have hw2 := hw.symm
  subst hw2
  go_wp2_with fail
  go_loopw [8] (fun v wr => v = .int .i64 0 ∧ wr = W1) (fun _ _ => 0)
  case atStart => exact ⟨rfl, rfl⟩
  case round =>
    obtain ⟨rfl, hw⟩ := hrel
    have hw2 := hw.symm
    subst hw2
    go_wp2_with fail
    go_ret
    exact ⟨_, rfl, HN.out, Nat.le_refl _, HB.out⟩
set_option maxHeartbeats 4000000 in
theorem rep1 (r : Nat) (w : World) (hr : w.heap[r]? = some (.cells #[.int .i64 1, .int .i64 0, .string ⟨#[]⟩, .string ⟨#[]⟩, .slice none 0 0] 42 (0, 0))) :
    Calls Tryz.prog 121 #[.slice (some ⟨r, 0, none⟩) 1 1, .int .i64 1] w (Rep 1 w) := by
  have CM := Lib.hid (Tryz.bits_Mul 1 1 (by omega) (by omega) w)
  have hmk := make_x 1 (by omega) w
  rw [show ((1 : Nat) : Int) = 1 from rfl] at hmk
  have hb := ball_new w ((List.replicate 1 zeroL5).flatten).toArray 42
  obtain ⟨W2, hcp, hn2, hb2⟩ := copy_first 1 (.inl rfl) r w.heap.size (w.alloc (.cells ((List.replicate 1 zeroL5).flatten).toArray 42)) ((Below.heap_alloc _ _ _ (lt_of_heap hr)).trans hr) (new_at w _ _) (Nat.le_refl _)
  have HB : Hid (Below w.heap.size w W2) := Lib.hid (hb.trans hb2)
  have HN := Lib.hid hn2
  obtain ⟨W1, hW1⟩ : ∃ W1, w.alloc (.cells ((List.replicate 1 zeroL5).flatten).toArray 42) = W1 := ⟨_, rfl⟩
  rw [hW1] at hmk hcp
  clear hW1 hb hn2 hb2 hr
  go_enter Tryz.func121, Tryz.ntmps121
  go_wp2_with fail
  refine CM.out.mono ?_
  rintro e1 w1 ⟨rfl, hw⟩
  have hw2 := hw.symm
  subst hw2
  go_wp2_with fail
  go_loopw [8] (fun v wr => v = .int .i64 1 ∧ wr = W2) (fun _ _ => 0)
  case atStart => exact ⟨rfl, rfl⟩
  case round =>
    obtain ⟨rfl, hw⟩ := hrel
    have hw2 := hw.symm
    subst hw2
    go_wp2_with fail
    go_ret
    exact ⟨_, rfl, HN.out, Nat.le_refl _, HB.out⟩
set_option maxHeartbeats 8000000 in
theorem rep2 (r : Nat) (w : World) (hr : w.heap[r]? = some (.cells #[.int .i64 1, .int .i64 0, .string ⟨#[]⟩, .string ⟨#[]⟩, .slice none 0 0] 42 (0, 0))) :
    Calls Tryz.prog 121 #[.slice (some ⟨r, 0, none⟩) 1 1, .int .i64 2] w (Rep 2 w) := by
  have CM := Lib.hid (Tryz.bits_Mul 1 2 (by omega) (by omega) w)
  have hmk := make_x 2 (by omega) w
  rw [show ((2 : Nat) : Int) = 2 from rfl] at hmk
  have hb := ball_new w ((List.replicate 2 zeroL5).flatten).toArray 42
  obtain ⟨W2, hcp, hn2, hb2⟩ := copy_first 2 (.inr rfl) r w.heap.size (w.alloc (.cells ((List.replicate 2 zeroL5).flatten).toArray 42)) ((Below.heap_alloc _ _ _ (lt_of_heap hr)).trans hr) (new_at w _ _) (Nat.le_refl _)
  have HB : Hid (Below w.heap.size w W2) := Lib.hid (hb.trans hb2)
  obtain ⟨W3, hcp3, hn3, hb3⟩ := copy_second w.heap.size W2.drew hn2 (Nat.le_refl _)
  have HB3 : Hid (Below w.heap.size w W3) := Lib.hid (HB.out.drew.trans hb3)
  have HN3 := Lib.hid hn3
  obtain ⟨W1, hW1⟩ : ∃ W1, w.alloc (.cells ((List.replicate 2 zeroL5).flatten).toArray 42) = W1 := ⟨_, rfl⟩
  rw [hW1] at hmk hcp
  obtain ⟨g, hg⟩ : ∃ g, w.heap.size = g := ⟨_, rfl⟩
  have HGE : Hid (w.heap.size ≤ g) := Lib.hid (Nat.le_of_eq hg)
  rw [hg] at hmk hcp hcp3 HN3
  clear hW1 hb hn2 hb2 hr hn3 hb3
  go_enter Tryz.func121, Tryz.ntmps121
  go_wp2_with fail
  refine CM.out.mono ?_
  rintro e1 w1 ⟨rfl, hw⟩
  have hw2 := hw.symm
  subst hw2
  go_wp2_with fail
  go_loopw [8] (fun v wr => v = .int .i64 1 ∧ wr = W2 ∨ v = .int .i64 2 ∧ wr = W3) (fun v _ => 2 - (intOf v).toNat)
  case atStart => exact .inl ⟨rfl, rfl⟩
  case round =>
    rcases hrel with ⟨rfl, hw⟩ | ⟨rfl, hw⟩
    · have hw2 := hw.symm
      subst hw2
      go_wp2_with fail
      refine AtS.start (by kernel_rfl) 9 (fun _ => True) (by kernel_rfl) (by kernel_rfl) ?_
      generalize W2.drew = X at *
      refine at_take 0 38 (.int .i64 1) rfl rfl (by kernel_rfl) (by decide) (by decide) (fun _ _ _ h => h) (by kernel_rfl) trivial (fun w' hw' => ?_) ?_
      · go_simp
      go_frame
      refine at_take 1 39 (.slice (some ⟨g, 0, none⟩) 2 2) rfl rfl (by kernel_rfl) (by decide) (by decide) (fun _ _ _ h => h) (by kernel_rfl) trivial (fun w' hw' => ?_) ?_
      · go_simp
      go_frame
      refine at_take 2 40 (.int .i64 1) rfl rfl (by kernel_rfl) (by decide) (by decide) (fun _ _ _ h => h) (by kernel_rfl) trivial (fun w' hw' => ?_) ?_
      · go_simp
      go_frame
      refine at_take 3 41 (.slice (some ⟨g, 5, none⟩) 1 1) rfl rfl (by kernel_rfl) (by decide) (by decide) (fun _ _ _ h => h) (by kernel_rfl) trivial (fun w' hw' => ?_) ?_
      · go_simp
      go_frame
      refine at_take 4 42 (.slice (some ⟨g, 0, none⟩) 2 2) rfl rfl (by kernel_rfl) (by decide) (by decide) (fun _ _ _ h => h) (by kernel_rfl) trivial (fun w' hw' => ?_) ?_
      · go_simp
      go_frame
      refine at_take 5 43 (.int .i64 1) rfl rfl (by kernel_rfl) (by decide) (by decide) (fun _ _ _ h => h) (by kernel_rfl) trivial (fun w' hw' => ?_) ?_
      · go_simp
      go_frame
      refine at_take 6 44 (.slice (some ⟨g, 0, none⟩) 1 2) rfl rfl (by kernel_rfl) (by decide) (by decide) (fun _ _ _ h => h) (by kernel_rfl) trivial (fun w' hw' => ?_) ?_
      · go_simp
      go_frame
      refine at_run 7 45 (.int .i64 1) W3 rfl rfl (by kernel_rfl) (by decide) (by kernel_rfl) ?_ trivial ?_
      · go_simp
      go_frame
      refine at_take 8 46 (.int .i64 2) rfl rfl (by kernel_rfl) (by decide) (by decide) (fun _ _ _ h => h) (by kernel_rfl) trivial (fun w' hw' => ?_) ?_
      · go_simp
        decide
      go_frame
      refine AtS.lastv 9 8 (.int .i64 2) W3 rfl rfl (by kernel_rfl) (by kernel_rfl) (by decide) (by kernel_rfl) ?_ ?_
      · go_simp
      go_frame
      go_wp2_with fail
      go_roundw
      case rel => exact .inr ⟨rfl, trivial⟩
      case measure => simp [intOf]
    · have hw2 := hw.symm
      subst hw2
      go_wp2_with fail
      go_ret
      exact ⟨_, rfl, HN3.out, HGE.out, HB3.out⟩
theorem rep_any (k : Nat) (hk : k ≤ 2) (r : Nat) (w : World) (hr : w.heap[r]? = some (.cells #[.int .i64 1, .int .i64 0, .string ⟨#[]⟩, .string ⟨#[]⟩, .slice none 0 0] 42 (0, 0))) :
    Calls Tryz.prog 121 #[.slice (some ⟨r, 0, none⟩) 1 1, .int .i64 (k : Int)] w (Rep k w) := by
  obtain rfl | rfl | rfl : k = 0 ∨ k = 1 ∨ k = 2 := by omega
  · exact rep0 r w
  · exact rep1 r w hr
  · exact rep2 r w hr
end Go.Proofs.YtmihlmlojmdhjaaGreatDoor.Wr
