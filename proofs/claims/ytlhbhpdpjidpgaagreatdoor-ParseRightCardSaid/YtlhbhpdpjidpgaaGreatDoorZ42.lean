/-
  The two tables of signs, as the rows list them.
-/
import Derived.Test.YtlhbhpdpjidpgaaGreatDoorZ06
import Derived.Test.YtlhbhpdpjidpgaaGreatDoorZ09
import Derived.Test.YtlhbhpdpjidpgaaGreatDoorZ40
import Derived.Test.YtlhbhpdpjidpgaaGreatDoorZ41
import Derived.Test.YtlhbhpdpjidpgaaGreatDoorCards
import Derived.Test.YtlhbhpdpjidpgaaGreatDoorTie
import Derived.Deep.Strs
import Derived.LaidMore
import Derived.MakeChecks
import Derived.Stop.LaidErr
import Derived.WalkKit
import Derived.ProofKit
import Derived.OpenShut
import Derived.Deep.DeepHandedRow
import Derived.Lib.LaidTab
namespace Go.Proofs.YtlhbhpdpjidpgaaGreatDoor
open Go.ChangeShapes Go.WideShapes Go.ChangeAt Go.ChangeMaps Go.WideMaps Go.WideElems Go.RowKit

theorem gSigns : Tryz.prog.globalNamed "treadmill/lex.signs" = some 1 := by kernel_rfl
theorem gSignsType : (Tryz.prog.globals[1]?).map (·.type) = some 149 := by kernel_rfl
theorem gSigs : Tryz.prog.globalNamed "treadmill/parse.signs" = some 0 := by kernel_rfl
theorem gSigsType : (Tryz.prog.globals[0]?).map (·.type) = some 141 := by kernel_rfl
theorem cells64 : Tryz.prog.cellsOf 149 = 23 := by kernel_rfl
theorem cells9 : Tryz.prog.cellsOf 9 = 1 := by kernel_rfl
theorem cells3 : Tryz.prog.cellsOf 3 = 1 := by kernel_rfl
theorem cells140 : Tryz.prog.cellsOf 140 = 3 := by kernel_rfl
theorem cells141 : Tryz.prog.cellsOf 141 = 39 := by kernel_rfl
def textData {H : Type} (zs : List (List UInt8)) : DataW H := .agg (zs.map fun z => .lit (.string z))
/-- An array of texts that reads as the table holds the table's texts, cell for cell. -/
theorem cells_of_texts {H : Type} {enc : TypeId × Value → H} {P : Program} {w : World} {base : Nat} {sp : Nat → Bool} {held : Bool} {fuel : Nat} {t e : TypeId} {n : Nat} {cs : List Value} {zs : List (List UInt8)} {p : List MemPlace}
    (ht : P.underlying t = some (.array n e)) (he : P.underlying e = some .string) (hce : P.cellsOf e = 1) (hct : P.cellsOf t = n)
    (h : DataW.trod enc P w base sp held fuel t cs = some (textData zs, p)) : cs = zs.map Lex.str := by
  cases fuel with
  | zero => simp [DataW.trod] at h
  | succ fuel =>
    simp only [DataW.trod, ht, hce, hct, Nat.mul_one] at h
    split at h
    · rename_i hl
      obtain ⟨xs, hm, hx⟩ := Option.map_eq_some_iff.1 h
      have hxs : xs.map (·.1) = zs.map fun z => (DataW.lit (.string z) : DataW H) := by
        have := congrArg Prod.fst hx
        simpa [textData] using this
      have hxl : xs.length = n := by simpa using Lib.mapM_length hm
      have hzl : zs.length = n := by
        have := congrArg List.length hxs
        simp at this
        omega
      apply List.ext_getElem?
      intro i
      by_cases hi : i < n
      · obtain ⟨b, hb, hf⟩ := Lib.mapM_at hm i i (by simp [hi])
        obtain ⟨z, hc, rfl, _⟩ := DataW.trod_string he hf
        have h1 : cs[i]? = some (.string z) := by
          have := congrArg (·[0]?) hc
          simpa [List.getElem?_take, List.getElem?_drop] using this
        have h2 : (xs.map (·.1))[i]? = some (DataW.lit (.string z.data.toList) : DataW H) := by simp [hb]
        rw [hxs] at h2
        simp only [List.getElem?_map, Option.map_eq_some_iff, DataW.lit.injEq, Lit.string.injEq] at h2
        obtain ⟨z', hz', e⟩ := h2
        rw [h1, List.getElem?_map, hz', Option.map_some, e]
        unfold Lex.str
        rw [Lex.bs_of]
      · rw [List.getElem?_eq_none (by omega), List.getElem?_eq_none (by simp; omega)]
    · cases h
theorem signs_of_head {W : World} {rest : List (String × DataW Unit)} (h : laidMet Tryz.prog (("treadmill/lex.signs", textData Lex.signsL) :: rest) W) : Lex.Signs W := by
  obtain ⟨ps, ⟨g', t', cs, fuel, p, q, hg', ht', hvar, hd, _, _⟩, _⟩ := h
  obtain rfl := Option.some.inj (gSigns.symm.trans hg')
  obtain rfl := Option.some.inj (gSignsType.symm.trans ht')
  have hc := cells_of_texts Tryz.underlying149 Tryz.underlying9 cells9 cells64 hd
  intro i hi
  have h2 := World.var?_cell gSigns hvar i
  rw [h2]
  have h3 : Lex.signsL[i]? = some (Lex.signsL.getD i []) := by
    rw [List.getD_eq_getElem?_getD, List.getElem?_eq_getElem (show i < Lex.signsL.length from hi)]; rfl
  have h4 : cs[i]? = some (Lex.str (Lex.signsL.getD i [])) := by
    rw [← Array.getElem?_toList, hc, List.getElem?_map, h3]; rfl
  simpa using h4
set_option maxRecDepth 100000
open Prg (sigsL sigV sig)
def sigData {H : Type} (l : List (List UInt8 × Int × Int)) : DataW H := .agg (l.map fun e => .agg [.lit (.string e.1), .lit (.int .i64 e.2.1), .lit (.int .i64 e.2.2)])
section
variable {H : Type} {enc : TypeId × Value → H} {w : World} {base : Nat} {sp : Nat → Bool} {held : Bool}
/-- A row of the table. -/
theorem row_of_sig {fuel : Nat} {cs : List Value} {e : List UInt8 × Int × Int} {p : List MemPlace} (h : DataW.trod enc Tryz.prog w base sp held fuel 140 cs = some (.agg [.lit (.string e.1), .lit (.int .i64 e.2.1), .lit (.int .i64 e.2.2)], p)) : cs = [.string (Lex.bs e.1), .int .i64 e.2.1, .int .i64 e.2.2] := by
  obtain ⟨y0, y1, y2, n, hx, hl, h0, h1, h2⟩ := Deep.trod_struct3 Tryz.underlying140 h
  rw [cells140] at hl
  match cs, hl with
  | [c0, c1, c2], _ =>
    simp only [cells9, cells3, List.drop, List.take] at h0 h1 h2
    obtain ⟨s, e0, g0, _⟩ := DataW.trod_string Tryz.underlying9 h0
    obtain ⟨a, e1, g1, _⟩ := DataW.trod_int Tryz.underlying3 h1
    obtain ⟨b, e2, g2, _⟩ := DataW.trod_int Tryz.underlying3 h2
    subst g0 g1 g2
    simp only [Prod.mk.injEq, DataW.agg.injEq, List.cons.injEq, DataW.lit.injEq, Lit.string.injEq, Lit.int.injEq, true_and, and_true] at hx
    obtain ⟨⟨k0, k1, k2⟩, _⟩ := hx
    injection e0 with e0
    injection e1 with e1
    injection e2 with e2
    subst e0 e1 e2
    rw [k0, k1, k2, Lex.bs_of]
theorem sig_at : ∀ i, i < 13 → ∀ r, r < 3 → sigV[i * 3 + r]? = ([.string (Lex.bs (sig i).1), .int .i64 (sig i).2.1, .int .i64 (sig i).2.2] : List Value)[r]? := by
  intro i hi r hr
  obtain rfl | rfl | rfl | rfl | rfl | rfl | rfl | rfl | rfl | rfl | rfl | rfl | rfl : i = 0 ∨ i = 1 ∨ i = 2 ∨ i = 3 ∨ i = 4 ∨ i = 5 ∨ i = 6 ∨ i = 7 ∨ i = 8 ∨ i = 9 ∨ i = 10 ∨ i = 11 ∨ i = 12 := by omega
  all_goals (obtain rfl | rfl | rfl : r = 0 ∨ r = 1 ∨ r = 2 := by omega)
  all_goals rfl
/-- The table, cell for cell. -/
theorem cells_of_sigs {fuel : Nat} {cs : List Value} {p : List MemPlace} (h : DataW.trod enc Tryz.prog w base sp held fuel 141 cs = some (sigData sigsL, p)) : cs = sigV := by
  cases fuel with
  | zero => simp [DataW.trod] at h
  | succ fuel =>
    simp only [DataW.trod, Tryz.underlying141, cells140, cells141] at h
    split at h
    · rename_i hl
      obtain ⟨xs, hm, hx⟩ := Option.map_eq_some_iff.1 h
      have hxs : xs.map (·.1) = sigsL.map fun e => (DataW.agg [.lit (.string e.1), .lit (.int .i64 e.2.1), .lit (.int .i64 e.2.2)] : DataW H) := by
        have := congrArg Prod.fst hx
        simpa [sigData] using this
      apply List.ext_getElem?
      intro j
      by_cases hj : j < 39
      · obtain ⟨i, r, hi, hr, rfl⟩ : ∃ i r, i < 13 ∧ r < 3 ∧ j = i * 3 + r := ⟨j / 3, j % 3, by omega, by omega, by omega⟩
        obtain ⟨b, hb, hf⟩ := Lib.mapM_at hm i i (by simp [hi])
        have h2 : (xs.map (·.1))[i]? = some b.1 := by rw [List.getElem?_map, hb]; rfl
        have h3 : sigsL[i]? = some (sig i) := by
          unfold sig
          rw [List.getD_eq_getElem?_getD, List.getElem?_eq_getElem (show i < sigsL.length from hi)]
          rfl
        rw [hxs, List.getElem?_map, h3] at h2
        have hb1 := Option.some.inj h2
        have h4 := row_of_sig (e := sig i) (p := b.2) (hf.trans (congrArg some (Prod.ext hb1.symm rfl)))
        rw [sig_at i hi r hr, ← h4, List.getElem?_take, if_pos hr, List.getElem?_drop]
      · rw [List.getElem?_eq_none (by omega), List.getElem?_eq_none (by show 39 ≤ j; omega)]
    · cases h
end
theorem sigs_of_head {W : World} {rest : List (String × DataW Unit)} (h : laidMet Tryz.prog (("treadmill/parse.signs", sigData sigsL) :: rest) W) : Prg.Sigs W := by
  obtain ⟨ps, ⟨g', t', cs, fuel, p, q, hg', ht', hvar, hd, _, _⟩, _⟩ := h
  obtain rfl := Option.some.inj (gSigs.symm.trans hg')
  obtain rfl := Option.some.inj (gSigsType.symm.trans ht')
  have hc := cells_of_sigs hd
  intro j v hv
  have h2 := World.var?_cell gSigs hvar j
  rw [Nat.zero_add]
  rw [h2, ← Array.getElem?_toList, hc]
  exact hv
theorem tabs_of {W : World} {l : List (String × DataW Unit)} (hl : l = [("treadmill/lex.signs", Rows.laid_treadmill_lex_signs), ("treadmill/parse.signs", Rows.laid_treadmill_parse_signs)]) (h : laidMetH Tryz.prog l W) : Prg.Tabs W := by
  subst hl
  rw [MakeChecks.laidMetH_plain _ _ _ (by kernel_rfl)] at h
  exact ⟨signs_of_head (rest := [("treadmill/parse.signs", Rows.laid_treadmill_parse_signs)]) h, sigs_of_head (rest := []) h.tail⟩
theorem fits {a : Int} (h : (Lit.int .i64 a).wf = true) : -9223372036854775808 ≤ a ∧ a ≤ 9223372036854775807 := by
  simpa [Lit.wf, IntKind.min, IntKind.max, IntKind.signed, IntKind.bits] using h
noncomputable def laidWorld (os : Os) : World := World.doorLaid Tryz.prog 600 os
end Go.Proofs.YtlhbhpdpjidpgaaGreatDoor
/- What the grammar tells is right, and no greater than its words: expressions. No condition. -/
namespace Go.Proofs.YtlhbhpdpjidpgaaGreatDoor.Prg
open Tre Prs
set_option maxRecDepth 100000
/-- How many expressions. -/
def sizeT : Tx → Nat
  | .mk _ _ _ _ x => 1 + (x.attach.map (fun ⟨y, _⟩ => sizeT y)).sum
def sumT (l : List Tx) : Nat := (l.map sizeT).sum
theorem sizeT_eq (op n : Int) (s q : List UInt8) (x : List Tx) : sizeT (.mk op n s q x) = 1 + sumT x := by
  rw [sizeT]
  congr 1
  unfold sumT
  congr 1
  exact List.map_subtype (fun _ _ => rfl) |>.trans (by simp)
theorem sumT_app (l m : List Tx) : sumT (l ++ m) = sumT l + sumT m := by simp [sumT]
theorem sumT_one (x : Tx) : sumT [x] = sizeT x := by simp [sumT]
theorem sumT_nil : sumT [] = 0 := rfl
/-- A right expression. -/
inductive OkX : Tx → Prop
  | num (n : Int) (h : 0 ≤ n) : OkX (.mk 1 n [] [] [])
  | truth (n : Int) (h : n = 0 ∨ n = 1) : OkX (.mk 2 n [] [] [])
  | name (s : List UInt8) (h : Lex.nameOk s = true) : OkX (.mk 3 0 s [] [])
  | call (s q : List UInt8) (x : List Tx) (h : Lex.nameOk s = true) (hq : q = [] ∨ Lex.nameOk q = true) (hl : x.length ≤ 255) (hx : ∀ y ∈ x, OkX y) : OkX (.mk 4 0 s q x)
  | one (op : Int) (x : Tx) (h : op = 5 ∨ op = 6) (hx : OkX x) : OkX (.mk op 0 [] [] [x])
  | two (op : Int) (x y : Tx) (h : 7 ≤ op) (h2 : op ≤ 19) (hx : OkX x) (hy : OkX y) : OkX (.mk op 0 [] [] [x, y])
/-- The words behind are among those ahead. -/
theorem tl_suf (r : PS) : (tl r).l <:+ r.l := List.tail_suffix r.l
theorem mustW_suf (r : PS) (s : List UInt8) : (mustW r s).l <:+ r.l := by
  unfold mustW
  split
  · exact tl_suf r
  · exact List.suffix_refl _
theorem wordR_suf (r : PS) (k : Int) (key : Bool) : (wordR r k key).l <:+ r.l := by
  unfold wordR
  split
  · exact List.suffix_refl _
  · exact tl_suf r
theorem run_suf : ∀ (n : Nat) (j : Job) (r : PS), (run n j r).2.l <:+ r.l
  | 0, _, _ => List.suffix_refl _
  | n + 1, .row k, r => by
    unfold run
    split
    · exact run_suf n _ _
    · exact (run_suf n _ _).trans (run_suf n _ _)
  | n + 1, .rest k x, r => by
    unfold run
    split
    · exact List.suffix_refl _
    · split
      · exact List.suffix_refl _
      · exact (run_suf n _ _).trans ((run_suf n _ _).trans (tl_suf r))
  | n + 1, .unary, r => by
    unfold run
    split
    · exact (run_suf n _ _).trans (tl_suf r)
    split
    · exact (run_suf n _ _).trans (tl_suf r)
    split
    · exact tl_suf r
    split
    · exact tl_suf r
    split
    · exact (mustW_suf _ _).trans ((run_suf n _ _).trans (tl_suf r))
    split
    · exact tl_suf r
    split
    · exact (run_suf n _ _).trans (wordR_suf _ _ _)
    · exact wordR_suf _ _ _
  | n + 1, .call s, r => by
    unfold run
    split
    · exact (run_suf n _ _).trans ((mustW_suf _ _).trans ((wordR_suf _ _ _).trans (tl_suf r)))
    · exact (run_suf n _ _).trans (mustW_suf _ _)
  | n + 1, .args q s x, r => by
    unfold run
    split
    · exact mustW_suf r _
    split
    · split
      · exact (mustW_suf _ _).trans ((tl_suf _).trans (run_suf n _ _))
      · exact (run_suf n _ _).trans ((tl_suf _).trans (run_suf n _ _))
    · exact (mustW_suf _ _).trans (run_suf n _ _)
theorem tell_suf (j : Job) (r : PS) : (tell j r).2.l <:+ r.l := run_suf _ _ _
/-- Words as a text has them. -/
def Goods (r : PS) : Prop := ∀ x ∈ r.l, Lex.Good x
theorem Goods.suf {r r' : PS} (h : Goods r) (hs : r'.l <:+ r.l) : Goods r' := fun x hx => h x (hs.subset hx)
theorem peek_mem {r : PS} (h : (peek r).k ≠ 0) : peek r ∈ r.l := by
  obtain ⟨h1, h2⟩ := peek_k h
  unfold peek
  cases hl : r.l with
  | nil => rw [hl] at h2; simp at h2
  | cons x t => simp [h1]
theorem good_name {x : Lex.Wd} (h : Lex.Good x) (hk : x.k = 1) : Lex.nameOk x.s = true := by
  cases h with
  | name s c q e ha hd hl =>
    have hkey : Lex.keyB s = false := by
      cases hc : Lex.keyB s with
      | false => rfl
      | true => simp [hc] at hk
    show Lex.nameOk s = true
    unfold Lex.nameOk
    subst e
    rw [hkey, ha]
    simp only [hd]
    simp
    simpa using hl
  | num n h0 h1 => simp at hk
  | text s h => simp at hk
  | sign s h => simp at hk
theorem good_num {x : Lex.Wd} (h : Lex.Good x) (hk : x.k = 2) : 0 ≤ x.n := by
  cases h with
  | name s c q e ha hd hl => dsimp only at hk; split at hk <;> omega
  | num n h0 h1 => exact h0
  | text s h => simp at hk
  | sign s h => simp at hk
theorem wordNo_kind {r : PS} (h : (wordR r 1 false).bad = false) : (peek r).k = 1 ∧ wordS r 1 false = (peek r).s ∧ wordR r 1 false = tl r := by
  unfold wordR at h
  by_cases hw : wordNo r 1 false = true
  · rw [if_pos hw] at h
    simp [badR] at h
  · have hk : (peek r).k = 1 := by simpa [wordNo] using hw
    unfold wordS wordR
    rw [if_neg hw, if_neg hw]
    exact ⟨hk, rfl, rfl⟩
theorem name_ok {r : PS} (h : (wordR r 1 false).bad = false) (hg : Goods r) : Lex.nameOk (wordS r 1 false) = true ∧ lenR (wordR r 1 false) + 1 = lenR r ∧ r.bad = false ∧ (wordR r 1 false).big = r.big := by
  have hb : r.bad = false := by
    cases hb : r.bad with
    | false => rfl
    | true => rw [wordR_bad hb 1 false (by decide)] at h; cases h
  obtain ⟨h1, h2, h3⟩ := wordNo_kind h
  rw [h2, h3]
  have h4 := good_name (hg _ (peek_mem (by omega))) h1
  obtain ⟨h5, h6⟩ := peek_k (r := r) (by omega)
  refine ⟨h4, ?_, hb, rfl⟩
  rw [lenR_tl]
  have : lenR r = r.l.length := by simp [lenR, h5]
  omega
theorem mustW_ok {r : PS} {s : List UInt8} (h : (mustW r s).bad = false) : lenR (mustW r s) + 1 = lenR r ∧ r.bad = false ∧ (mustW r s).big = r.big ∧ mustW r s = tl r := by
  unfold mustW at h ⊢
  by_cases hi : isW r s = true
  · rw [if_pos hi]
    have := lenR_pos hi
    rw [lenR_tl]
    exact ⟨by omega, (isW_pos hi).2, rfl, rfl⟩
  · rw [if_neg hi] at h
    cases h
theorem tl_ok {r : PS} {s : List UInt8} (hi : isW r s = true) : lenR (tl r) + 1 = lenR r := by
  have := lenR_pos hi
  rw [lenR_tl]
  omega
/-- What a job must bring along. -/
def JobOk : Job → Prop
  | .rest _ x => OkX x
  | .call s => Lex.nameOk s = true
  | .args q s x => Lex.nameOk s = true ∧ (q = [] ∨ Lex.nameOk q = true) ∧ ∀ y ∈ x, OkX y
  | _ => True
def base : Job → Nat
  | .rest _ x => sizeT x
  | .args _ _ x => 1 + sumT x
  | .call _ => 0
  | _ => 0
theorem level_op {k : Nat} : ∀ p ∈ level k, 7 ≤ p.2 ∧ p.2 ≤ 19 := by
  intro p hp
  unfold level at hp
  repeat' split at hp
  all_goals (simp at hp; rcases hp with rfl | hp <;> first | decide | skip)
  all_goals (first | (rcases hp with rfl | rfl | rfl | rfl | rfl <;> decide) | (rcases hp with rfl | rfl <;> decide) | (subst hp; decide))
theorem not_bad {j : Job} {r : PS} (h : (tell j r).2.bad = false) : r.bad = false := by
  cases hb : r.bad with
  | false => rfl
  | true => rw [tell_bad hb] at h; cases h
theorem mustW_big (r : PS) (s : List UInt8) : (mustW r s).big = r.big := by unfold mustW; split <;> rfl
theorem wordR_big (r : PS) (k : Int) (key : Bool) : (wordR r k key).big = r.big := by unfold wordR; split <;> rfl
/-- What was too many stays. -/
theorem run_big : ∀ (n : Nat) (j : Job) (r : PS), r.big = true → (run n j r).2.big = true
  | 0, _, _, h => h
  | n + 1, .row k, r, h => by
    unfold run
    split
    · exact run_big n _ _ h
    · exact run_big n _ _ (run_big n _ _ h)
  | n + 1, .rest k x, r, h => by
    unfold run
    split
    · exact h
    · split
      · exact h
      · exact run_big n _ _ (run_big n _ _ h)
  | n + 1, .unary, r, h => by
    unfold run
    split
    · exact run_big n _ _ h
    split
    · exact run_big n _ _ h
    split
    · exact h
    split
    · exact h
    split
    · show (mustW _ _).big = true
      rw [mustW_big]
      exact run_big n _ _ h
    split
    · exact h
    split
    · exact run_big n _ _ (by rw [wordR_big]; exact h)
    · show (wordR _ _ _).big = true
      rw [wordR_big]
      exact h
  | n + 1, .call s, r, h => by
    unfold run
    split
    · exact run_big n _ _ (by rw [mustW_big, wordR_big]; exact h)
    · exact run_big n _ _ (by rw [mustW_big]; exact h)
  | n + 1, .args q s x, r, h => by
    have hc : ∀ (y : List Tx) (q' : PS), q'.big = true → (callEnd q s y q').2.big = true := fun y q' hq => by
      show ((mustW q' [41]).big || _) = true
      rw [mustW_big, hq]
      rfl
    unfold run
    split
    · exact hc _ _ h
    split
    · split
      · exact hc _ _ (run_big n _ _ h)
      · exact run_big n _ _ (run_big n (.row 0) r h)
    · exact hc _ _ (run_big n _ _ h)
theorem tell_big {j : Job} {r : PS} (h : (tell j r).2.big = false) : r.big = false := by
  cases hb : r.big with
  | false => rfl
  | true => rw [show (tell j r).2.big = true from run_big _ _ _ hb] at h; cases h
theorem callEnd_size {q s : List UInt8} {x : List Tx} {r : PS} (h : (callEnd q s x r).2.bad = false) : sizeT (callEnd q s x r).1 + lenR (callEnd q s x r).2 + 1 = lenR r + (1 + sumT x) := by
  obtain ⟨h1, _, _, _⟩ := mustW_ok (r := r) (s := [41]) h
  have e : lenR (callEnd q s x r).2 = lenR (mustW r [41]) := rfl
  have e2 : sizeT (callEnd q s x r).1 = 1 + sumT x := sizeT_eq _ _ _ _ _
  omega
/-- No expression is greater than its words. -/
theorem size_upto : ∀ (N : Nat) (j : Job) (r : PS), enough j r ≤ N → (tell j r).2.bad = false → sizeT (tell j r).1 + lenR (tell j r).2 ≤ lenR r + base j
  | 0, j, r, h, _ => by
    exfalso
    cases j <;> simp only [enough, need] at h
    case args => split at h <;> omega
    all_goals omega
  | N + 1, .row k, r, h, hb => by
    simp only [enough, need] at h
    by_cases h4 : 4 < k
    · rw [tell_top h4] at hb ⊢
      exact size_upto N .unary r (by simp only [enough, need]; omega) hb
    · rw [tell_row (by omega)] at hb ⊢
      have hb1 := not_bad hb
      have hl := tell_lenR (.row (k + 1)) r
      have a := size_upto N (.row (k + 1)) r (by simp only [enough, need]; omega) hb1
      have b := size_upto N (.rest k (tell (.row (k + 1)) r).1) (tell (.row (k + 1)) r).2 (by simp only [enough, need]; omega) hb
      simp only [base] at *
      omega
  | N + 1, .rest k x, r, h, hb => by
    simp only [enough, need] at h
    rw [tell_rest] at hb ⊢
    split at hb
    · next hr => rw [hr] at hb; cases hb
    · next hr =>
      rw [if_neg hr]
      cases hf : (level k).find? (fun p => isW r p.1) with
      | none => simp only [base]; omega
      | some p =>
        rw [hf] at hb
        dsimp only at hb ⊢
        have hi : isW r p.1 = true := by have := List.find?_some hf; simpa using this
        have h1 := tl_ok hi
        have hb1 := not_bad hb
        have hl := tell_lenR (.row (k + 1)) (tl r)
        have a := size_upto N (.row (k + 1)) (tl r) (by simp only [enough, need]; omega) hb1
        have b := size_upto N (.rest k (.mk p.2 0 [] [] [x, (tell (.row (k + 1)) (tl r)).1])) (tell (.row (k + 1)) (tl r)).2 (by simp only [enough, need]; omega) hb
        simp only [base, sizeT_eq] at *
        have e : sumT [x, (tell (.row (k + 1)) (tl r)).1] = sizeT x + sizeT (tell (.row (k + 1)) (tl r)).1 := by simp [sumT]
        rw [e] at b
        omega
  | N + 1, .unary, r, h, hb => by
    simp only [enough, need] at h
    rw [tell_unary] at hb ⊢
    split at hb
    · next hi =>
      rw [if_pos hi]
      have h1 := tl_ok hi
      have a := size_upto N .unary (tl r) (by simp only [enough, need]; omega) hb
      simp only [base, sizeT_eq, sumT_one] at *
      omega
    next n0 =>
    rw [if_neg n0]
    split at hb
    · next hi =>
      rw [if_pos hi]
      have h1 := tl_ok hi
      have a := size_upto N .unary (tl r) (by simp only [enough, need]; omega) hb
      simp only [base, sizeT_eq, sumT_one] at *
      omega
    next n1 =>
    rw [if_neg n1]
    split at hb
    · next hi =>
      rw [if_pos hi]
      have h1 := tl_ok hi
      simp only [base, sizeT_eq, sumT_nil]
      omega
    next n2 =>
    rw [if_neg n2]
    split at hb
    · next hi =>
      rw [if_pos hi]
      have h1 := tl_ok hi
      simp only [base, sizeT_eq, sumT_nil]
      omega
    next n3 =>
    rw [if_neg n3]
    split at hb
    · next hi =>
      rw [if_pos hi]
      have h1 := tl_ok hi
      obtain ⟨m1, m2, _, _⟩ := mustW_ok hb
      have a := size_upto N (.row 0) (tl r) (by simp only [enough, need]; omega) m2
      simp only [base] at *
      omega
    next n4 =>
    rw [if_neg n4]
    split at hb
    · next hk =>
      rw [if_pos hk]
      have hk2 : (peek r).k = 2 := by simpa using hk
      obtain ⟨h5, h6⟩ := peek_k (r := r) (by omega)
      have e : lenR r = r.l.length := by simp [lenR, h5]
      simp only [base, sizeT_eq, sumT_nil]
      rw [lenR_tl]
      omega
    next nk =>
    rw [if_neg nk]
    split at hb
    · next hi =>
      rw [if_pos hi]
      have hw := not_bad hb
      have hp := word_pos (r := r) (by simpa using hi)
      have a := size_upto N (.call (wordS r 1 false)) (wordR r 1 false) (by simp only [enough, need]; omega) hb
      simp only [base] at *
      omega
    · next hi =>
      rw [if_neg hi]
      have hw : (wordR r 1 false).bad = false := hb
      obtain ⟨k1, _, _⟩ := wordNo_kind hw
      obtain ⟨h5, h6⟩ := peek_k (r := r) (by omega)
      have e : lenR r = r.l.length := by simp [lenR, h5]
      obtain ⟨_, _, k3⟩ := wordNo_kind hw
      simp only [base, sizeT_eq, sumT_nil]
      rw [k3, lenR_tl]
      omega
  | N + 1, .call s, r, h, hb => by
    simp only [enough, need] at h
    rw [tell_call] at hb ⊢
    split at hb
    · next hi =>
      rw [if_pos hi]
      have h1 := tl_ok hi
      have hm := not_bad hb
      obtain ⟨m1, m2, _, _⟩ := mustW_ok hm
      have h3 := lenR_wordR (tl r) 1 false
      have h5 := enough_args s (wordS (tl r) 1 false) [] (mustW (wordR (tl r) 1 false) [40])
      have a := size_upto N (.args s (wordS (tl r) 1 false) []) (mustW (wordR (tl r) 1 false) [40]) (by omega) hb
      simp only [base, sumT_nil] at *
      omega
    · next hi =>
      rw [if_neg hi]
      have hm := not_bad hb
      obtain ⟨m1, m2, _, _⟩ := mustW_ok hm
      have h5 := enough_args [] s [] (mustW r [40])
      have a := size_upto N (.args [] s []) (mustW r [40]) (by omega) hb
      simp only [base, sumT_nil] at *
      omega
  | N + 1, .args q s x, r, h, hb => by
    have hr := not_bad hb
    simp only [enough, hr, need, Bool.false_eq_true, if_false] at h
    rw [tell_args] at hb ⊢
    split at hb
    · next hi =>
      rw [if_pos hi]
      have := callEnd_size hb
      simp only [base]
      omega
    next hi =>
    rw [if_neg hi]
    have hl := tell_lenR (.row 0) r
    split at hb
    · next hc =>
      rw [if_pos hc]
      have h1 := tl_ok hc
      have a := size_upto N (.row 0) r (by simp only [enough, need]; omega) (isW_pos hc).2
      split at hb
      · have hb2 := (mustW_ok (r := badR (tl (tell (.row 0) r).2)) (s := [41]) hb).2.1
        cases hb2
      · next hd =>
        rw [if_neg hd]
        have h5 := enough_args q s (x ++ [(tell (.row 0) r).1]) (tl (tell (.row 0) r).2)
        have b := size_upto N (.args q s (x ++ [(tell (.row 0) r).1])) (tl (tell (.row 0) r).2) (by omega) hb
        simp only [base, sumT_app, sumT_one] at *
        omega
    · next hc =>
      rw [if_neg hc]
      have hb2 := (mustW_ok (r := (tell (.row 0) r).2) (s := [41]) hb).2.1
      have a := size_upto N (.row 0) r (by simp only [enough, need]; omega) hb2
      have b := callEnd_size hb
      simp only [base, sumT_app, sumT_one] at *
      omega
theorem size_tell {j : Job} {r : PS} (h : (tell j r).2.bad = false) : sizeT (tell j r).1 + lenR (tell j r).2 ≤ lenR r + base j := size_upto _ j r (Nat.le_refl _) h
theorem callEnd_ok {q s : List UInt8} {x : List Tx} {r : PS} (hj : JobOk (.args q s x)) (h : (callEnd q s x r).2.big = false) : OkX (callEnd q s x r).1 := by
  obtain ⟨j1, j2, j3⟩ := hj
  have hb : ((mustW r [41]).big || decide (255 < x.length)) = false := h
  simp only [Bool.or_eq_false_iff, decide_eq_false_iff_not] at hb
  exact .call s q x j1 j2 (by omega) j3
/-- What is told is right. -/
theorem ok_upto : ∀ (N : Nat) (j : Job) (r : PS), enough j r ≤ N → Goods r → JobOk j → (tell j r).2.bad = false → (tell j r).2.big = false → OkX (tell j r).1
  | 0, j, r, h, _, _, _, _ => by
    exfalso
    cases j <;> simp only [enough, need] at h
    case args => split at h <;> omega
    all_goals omega
  | N + 1, .row k, r, h, hg, _, hb, hbig => by
    simp only [enough, need] at h
    by_cases h4 : 4 < k
    · rw [tell_top h4] at hb hbig ⊢
      exact ok_upto N .unary r (by simp only [enough, need]; omega) hg trivial hb hbig
    · rw [tell_row (by omega)] at hb hbig ⊢
      have hl := tell_lenR (.row (k + 1)) r
      have a := ok_upto N (.row (k + 1)) r (by simp only [enough, need]; omega) hg trivial (not_bad hb) (tell_big hbig)
      exact ok_upto N (.rest k (tell (.row (k + 1)) r).1) (tell (.row (k + 1)) r).2 (by simp only [enough, need]; omega) (hg.suf (tell_suf _ _)) a hb hbig
  | N + 1, .rest k x, r, h, hg, hj, hb, hbig => by
    simp only [enough, need] at h
    rw [tell_rest] at hb hbig ⊢
    split at hb
    · next hr => rw [hr] at hb; cases hb
    · next hr =>
      rw [if_neg hr] at hbig ⊢
      cases hf : (level k).find? (fun p => isW r p.1) with
      | none => exact hj
      | some p =>
        rw [hf] at hb hbig
        dsimp only at hb hbig ⊢
        have hi : isW r p.1 = true := by have := List.find?_some hf; simpa using this
        have h1 := tl_ok hi
        have hl := tell_lenR (.row (k + 1)) (tl r)
        have hg2 : Goods (tl r) := hg.suf (tl_suf r)
        have a := ok_upto N (.row (k + 1)) (tl r) (by simp only [enough, need]; omega) hg2 trivial (not_bad hb) (tell_big hbig)
        obtain ⟨o1, o2⟩ := level_op p (List.mem_of_find?_eq_some hf)
        exact ok_upto N (.rest k (.mk p.2 0 [] [] [x, (tell (.row (k + 1)) (tl r)).1])) (tell (.row (k + 1)) (tl r)).2 (by simp only [enough, need]; omega) (hg2.suf (tell_suf _ _)) (.two p.2 x _ o1 o2 hj a) hb hbig
  | N + 1, .unary, r, h, hg, _, hb, hbig => by
    simp only [enough, need] at h
    have hg2 : Goods (tl r) := hg.suf (tl_suf r)
    rw [tell_unary] at hb hbig ⊢
    split at hb
    · next hi =>
      rw [if_pos hi] at hbig ⊢
      have h1 := tl_ok hi
      exact .one 5 _ (.inl rfl) (ok_upto N .unary (tl r) (by simp only [enough, need]; omega) hg2 trivial hb hbig)
    next n0 =>
    rw [if_neg n0] at hbig ⊢
    split at hb
    · next hi =>
      rw [if_pos hi] at hbig ⊢
      have h1 := tl_ok hi
      exact .one 6 _ (.inr rfl) (ok_upto N .unary (tl r) (by simp only [enough, need]; omega) hg2 trivial hb hbig)
    next n1 =>
    rw [if_neg n1] at hbig ⊢
    split at hb
    · next hi => rw [if_pos hi]; exact .truth 1 (.inr rfl)
    next n2 =>
    rw [if_neg n2] at hbig ⊢
    split at hb
    · next hi => rw [if_pos hi]; exact .truth 0 (.inl rfl)
    next n3 =>
    rw [if_neg n3] at hbig ⊢
    split at hb
    · next hi =>
      rw [if_pos hi] at hbig ⊢
      have h1 := tl_ok hi
      obtain ⟨m1, m2, m3, _⟩ := mustW_ok hb
      exact ok_upto N (.row 0) (tl r) (by simp only [enough, need]; omega) hg2 trivial m2 (by rw [← m3]; exact hbig)
    next n4 =>
    rw [if_neg n4] at hbig ⊢
    split at hb
    · next hk =>
      rw [if_pos hk]
      have hk2 : (peek r).k = 2 := by simpa using hk
      exact .num _ (good_num (hg _ (peek_mem (by omega))) hk2)
    next nk =>
    rw [if_neg nk] at hbig ⊢
    split at hb
    · next hi =>
      rw [if_pos hi] at hbig ⊢
      have hp := word_pos (r := r) (by simpa using hi)
      have hn := name_ok (not_bad hb) hg
      exact ok_upto N (.call (wordS r 1 false)) (wordR r 1 false) (by simp only [enough, need]; omega) (hg.suf (wordR_suf _ _ _)) hn.1 hb hbig
    · next hi =>
      rw [if_neg hi]
      exact .name _ (name_ok hb hg).1
  | N + 1, .call s, r, h, hg, hj, hb, hbig => by
    simp only [enough, need] at h
    have hg2 : Goods (tl r) := hg.suf (tl_suf r)
    rw [tell_call] at hb hbig ⊢
    split at hb
    · next hi =>
      rw [if_pos hi] at hbig ⊢
      have h1 := tl_ok hi
      obtain ⟨m1, m2, _, _⟩ := mustW_ok (not_bad hb)
      have h3 := lenR_wordR (tl r) 1 false
      have h5 := enough_args s (wordS (tl r) 1 false) [] (mustW (wordR (tl r) 1 false) [40])
      have hn := name_ok m2 hg2
      exact ok_upto N (.args s (wordS (tl r) 1 false) []) (mustW (wordR (tl r) 1 false) [40]) (by omega) (hg2.suf ((mustW_suf _ _).trans (wordR_suf _ _ _))) ⟨hn.1, .inr hj, fun y hy => by simp at hy⟩ hb hbig
    · next hi =>
      rw [if_neg hi] at hbig ⊢
      obtain ⟨m1, m2, _, _⟩ := mustW_ok (not_bad hb)
      have h5 := enough_args [] s [] (mustW r [40])
      exact ok_upto N (.args [] s []) (mustW r [40]) (by omega) (hg.suf (mustW_suf _ _)) ⟨hj, .inl rfl, fun y hy => by simp at hy⟩ hb hbig
  | N + 1, .args q s x, r, h, hg, hj, hb, hbig => by
    have hr := not_bad hb
    simp only [enough, hr, need, Bool.false_eq_true, if_false] at h
    rw [tell_args] at hb hbig ⊢
    split at hb
    · next hi =>
      rw [if_pos hi] at hbig ⊢
      exact callEnd_ok hj hbig
    next hi =>
    rw [if_neg hi] at hbig ⊢
    have hl := tell_lenR (.row 0) r
    obtain ⟨j1, j2, j3⟩ := hj
    have more : ∀ y : Tx, OkX y → ∀ z ∈ x ++ [y], OkX z := fun y hy z hz => by
      rcases List.mem_append.1 hz with hz | hz
      · exact j3 z hz
      · obtain rfl : z = y := by simpa using hz
        exact hy
    split at hb
    · next hc =>
      rw [if_pos hc] at hbig ⊢
      have h1 := tl_ok hc
      split at hb
      · have hb2 := (mustW_ok (r := badR (tl (tell (.row 0) r).2)) (s := [41]) hb).2.1
        cases hb2
      · next hd =>
        rw [if_neg hd] at hbig ⊢
        have hbg : (tell (.row 0) r).2.big = false := tell_big (r := tl (tell (.row 0) r).2) hbig
        have a := ok_upto N (.row 0) r (by simp only [enough, need]; omega) hg trivial (isW_pos hc).2 hbg
        have h5 := enough_args q s (x ++ [(tell (.row 0) r).1]) (tl (tell (.row 0) r).2)
        exact ok_upto N (.args q s (x ++ [(tell (.row 0) r).1])) (tl (tell (.row 0) r).2) (by omega) (hg.suf ((tl_suf _).trans (tell_suf _ _))) ⟨j1, j2, more _ a⟩ hb hbig
    · next hc =>
      rw [if_neg hc] at hbig ⊢
      obtain ⟨_, m2, m3, _⟩ := mustW_ok (r := (tell (.row 0) r).2) (s := [41]) hb
      have hbg : (tell (.row 0) r).2.big = false := by
        have hbig' : ((mustW (tell (.row 0) r).2 [41]).big || decide (255 < (x ++ [(tell (.row 0) r).1]).length)) = false := hbig
        simp only [Bool.or_eq_false_iff] at hbig'
        rw [← m3]
        exact hbig'.1
      have a := ok_upto N (.row 0) r (by simp only [enough, need]; omega) hg trivial m2 hbg
      exact callEnd_ok ⟨j1, j2, more _ a⟩ hbig
theorem ok_tell {j : Job} {r : PS} (hg : Goods r) (hj : JobOk j) (hb : (tell j r).2.bad = false) (hbig : (tell j r).2.big = false) : OkX (tell j r).1 := ok_upto _ j r (Nat.le_refl _) hg hj hb hbig
end Go.Proofs.YtlhbhpdpjidpgaaGreatDoor.Prg
