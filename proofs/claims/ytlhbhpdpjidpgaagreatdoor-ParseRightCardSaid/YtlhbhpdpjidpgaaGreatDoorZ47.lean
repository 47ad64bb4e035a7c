/-
  The stage's theorem of layer 10, walked. Conditions: the tables lie as the program's text lays them.
-/
import Derived.Test.YtlhbhpdpjidpgaaGreatDoorZ14
import Derived.Test.YtlhbhpdpjidpgaaGreatDoorZ18
import Derived.Test.YtlhbhpdpjidpgaaGreatDoorZ42
import Derived.Test.YtlhbhpdpjidpgaaGreatDoorZ46
import Derived.Test.YtlhbhpdpjidpgaaGreatDoorCards
import Derived.Test.YtlhbhpdpjidpgaaGreatDoorTie
import Derived.WalkKit
import Derived.ProofKit
import Derived.OpenShut
import Derived.Deep.DeepHandedRow
import Derived.Lib.LaidTab
namespace Go.Proofs.YtlhbhpdpjidpgaaGreatDoor.Prg
open Go.RowKit Tre Prs
open Lex (bs str)
set_option maxRecDepth 100000
set_option linter.unusedSimpArgs false
theorem zero_in (w : World) : FlIn w ⟨⟨#[]⟩, none, 0, [], none, 0, []⟩ :=
  ⟨fun h => absurd h (Nat.lt_irrefl 0), fun h => absurd h (Nat.lt_irrefl 0), (by intro g hg; cases hg), Nat.zero_le _, Nat.zero_le _, Nat.zero_le _, (by intro s hs; cases hs)⟩
set_option maxHeartbeats 4000000 in
theorem right_long (t : List UInt8) (w : World) (hT : Tabs w) (hl : 1500 < t.length) : Calls Tryz.prog 5 #[.string (bs t)] w (EndsB (.bool true) w) := by
  have CK := Lib.hid (knows_any w hT)
  have hd : decide ((1500 : Int) < ((bs t).size : Int)) = true := by rw [Lex.bs_size]; simp; omega
  clear hT hl
  go_enter Tryz.func5, Tryz.ntmps5
  go_wp2_with fail
  refine CK.out.mono ?_
  rintro e w1 ⟨rfl, hb⟩
  have HB := Lib.hid hb
  clear hb
  go_wp2_with fail
  go_ret
  exact EndsB.of rfl HB.out
set_option maxHeartbeats 8000000 in
theorem right_short (t : List UInt8) (w : World) (hT : Tabs w) (hl : t.length ≤ 1500) : Calls Tryz.prog 5 #[.string (bs t)] w (EndsB (.bool true) w) := by
  have CK := Lib.hid (knows_any w hT)
  have CN := fun e w' => Lib.hid (num_any e w')
  have HT := Lib.hid hT
  have hd : decide ((1500 : Int) < ((bs t).size : Int)) = false := by rw [Lex.bs_size]; simp; omega
  have HLEN := Lib.hid hl
  clear hT hl
  go_enter Tryz.func5, Tryz.ntmps5
  go_wp2_with fail
  refine CK.out.mono ?_
  rintro e w1 ⟨rfl, hb⟩
  have HB1 := Lib.hid hb
  have CF := Lib.hid (parseFile_any t w1 (HT.out.below hb))
  clear hb CK
  go_wp2_with fail
  refine CF.out.mono ?_
  rintro e w2 ⟨f, rfl, hc, hin, hnn, hb⟩
  have HB2 := Lib.hid (HB1.out.trans (hb.mono HB1.out.size))
  have HBA := Lib.hid (ball_new w2 #[.string f.s, .slice f.ia f.i.length f.ic, .slice f.fa f.f.length f.fc] 26)
  have HNA := Lib.hid (new_at w2 #[.string f.s, .slice f.ia f.i.length f.ic, .slice f.fa f.f.length f.fc] 26)
  have HI := Lib.hid hin
  have HC := Lib.hid hc
  have HB3 := Lib.hid (HB2.out.trans (HBA.out.mono HB2.out.size))
  unfold flV
  clear hc hin hnn hb CF HB1
  by_cases he : (fileT t).2 = 0
  · have HE := Lib.hid he
    have CR := Lib.hid (fun w' (hb : Below w2.heap.size w2 w') => Lib.hid (right_any f w' (HI.out.below hb)))
    rw [told_right he HC.out] at CR
    have C1 : Hid (∀ w', Below w.heap.size w w' → Calls Tryz.prog 7 #[.string (bs t ++ ⟨#[10, 105, 109, 112, 111, 114, 116]⟩)] w' (TellF (t ++ 10 :: Lex.impB) w')) := Lib.hid (fun w' hb => by
      have h := parseFile_any (t ++ 10 :: Lex.impB) w' (HT.out.below hb)
      rw [← Lex.cat_bs] at h
      exact h)
    have C2 : Hid (∀ w', Below w.heap.size w w' → Calls Tryz.prog 7 #[.string (bs t ++ ⟨#[10, 125]⟩)] w' (TellF (t ++ 10 :: [125]) w')) := Lib.hid (fun w' hb => by
      have h := parseFile_any (t ++ 10 :: [125]) w' (HT.out.below hb)
      rw [← Lex.cat_bs] at h
      exact h)
    have C3 : Hid (∀ w', Below w.heap.size w w' → Calls Tryz.prog 7 #[.string (⟨#[123]⟩ ++ bs t)] w' (TellF (123 :: t) w')) := Lib.hid (fun w' hb => by
      have h := parseFile_any ([123] ++ t) w' (HT.out.below hb)
      rw [← Lex.cat_bs] at h
      exact h)
    have E1 := Lib.hid (told_import he)
    have E2 := Lib.hid (told_brace he)
    have E3 := Lib.hid (told_open he)
    have hz : (bs t).size ≤ 1500 := by rw [Lex.bs_size]; exact HLEN.out
    rw [he]
    unfold flV at CR
    generalize f.s = fs at *
    generalize f.ia = fi at *
    generalize f.i.length = fl at *
    generalize f.ic = fc at *
    generalize f.fa = fa at *
    generalize f.f.length = fn at *
    generalize f.fc = fd at *
    generalize hg1 : (fileT (t ++ 10 :: Lex.impB)).2 = e1 at *
    generalize hg2 : (fileT (t ++ 10 :: [125])).2 = e2 at *
    generalize hg3 : (fileT (123 :: t)).2 = e3 at *
    have G1 := Lib.hid hg1
    have G2 := Lib.hid hg2
    have G3 := Lib.hid hg3
    have CA := Lib.hid (C1.out _ HB3.out)
    clear he hg1 hg2 hg3 HC HI C1
    go_wp2_with (go_at_call 10; refine (CN _ _).out.mono ?_; rintro e w' ⟨rfl, rfl⟩)
    refine CA.out.mono ?_
    rintro e w3 ⟨f1, rfl, _, _, _, hb⟩
    unfold flV
    rw [G1.out]
    have HB4 := Lib.hid (HB3.out.trans (hb.mono HB3.out.size))
    have HBB := Lib.hid (ball_new w3 #[.string f1.s, .slice f1.ia f1.i.length f1.ic, .slice f1.fa f1.f.length f1.fc] 26)
    have HB5 := Lib.hid (HB4.out.trans (HBB.out.mono HB4.out.size))
    have HX5 := Lib.hid (hb.trans (HBB.out.mono hb.size))
    clear hb CA
    have CB := Lib.hid (C2.out _ HB5.out)
    go_wp2_with fail
    refine CB.out.mono ?_
    rintro e w4 ⟨f2, rfl, _, _, _, hb⟩
    unfold flV
    rw [G2.out]
    have HB6 := Lib.hid (HB5.out.trans (hb.mono HB5.out.size))
    have HX6 := Lib.hid (HX5.out.trans (hb.mono HX5.out.size))
    have HBB2 := Lib.hid (ball_new w4 #[.string f2.s, .slice f2.ia f2.i.length f2.ic, .slice f2.fa f2.f.length f2.fc] 26)
    have HB7 := Lib.hid (HB6.out.trans (HBB2.out.mono HB6.out.size))
    have HX7 := Lib.hid (HX6.out.trans (HBB2.out.mono HX6.out.size))
    clear hb CB
    have CC := Lib.hid (C3.out _ HB7.out)
    go_wp2_with fail
    refine CC.out.mono ?_
    rintro e w5 ⟨f3, rfl, _, _, _, hb⟩
    unfold flV
    rw [G3.out]
    have HB8 := Lib.hid (HB7.out.trans (hb.mono HB7.out.size))
    have HX8 := Lib.hid (HX7.out.trans (hb.mono HX7.out.size))
    have HBB3 := Lib.hid (ball_new w5 #[.string f3.s, .slice f3.ia f3.i.length f3.ic, .slice f3.fa f3.f.length f3.fc] 26)
    have HB9 := Lib.hid (HB8.out.trans (HBB3.out.mono HB8.out.size))
    have HX9 := Lib.hid (HX8.out.trans (HBB3.out.mono HX8.out.size))
    have HN9 := Lib.hid ((HX9.out.block _ (by simp)).trans HNA.out)
    have HY9 := Lib.hid (HBA.out.trans (HX9.out.mono HBA.out.size))
    have CR9 := Lib.hid (CR.out _ HY9.out).out
    obtain ⟨y0, y1, y2⟩ := three_at HN9.out
    clear HBA HNA HB2 HB3 HB4 HB5 HB6 HB7 HB8 HX5 HX6 HX7 HX8 HX9 HBB HBB2 HBB3 HY9 CR hb CC
    go_wp2_with fail
    refine CR9.out.mono ?_
    rintro e w6 ⟨rfl, hb⟩
    have HB10 := Lib.hid (HB9.out.trans (hb.mono HB9.out.size))
    clear hb CR9 y0 y1 y2
    have hh1 : decide (e1 = 0) = false := decide_eq_false E1.out
    have hh2 : decide (e2 = 0) = false := decide_eq_false E2.out
    have hh3 : decide (e3 = 0) = false := decide_eq_false E3.out
    go_wp2_with (go_at_call 10; refine (CN _ _).out.mono ?_; rintro e w' ⟨rfl, rfl⟩)
    go_ret
    exact EndsB.of (by
      have f1 := E1.out
      have f2 := E2.out
      have f3 := E3.out
      simp [f1, f2, f3]) HB10.out
  · have CS := Lib.hid (fun w' (hb : Below w2.heap.size w2 w') => Lib.hid (same_any f ⟨⟨#[]⟩, none, 0, [], none, 0, []⟩ w' (HI.out.below hb) (zero_in w')))
    rw [zero_same (HC.out.trans (told_zero he))] at CS
    unfold flV at CS
    obtain ⟨y0, y1, y2⟩ := three_at HNA.out
    generalize (fileT t).2 = E at *
    have CS1 := Lib.hid (CS.out _ HBA.out).out
    generalize f.s = fs at *
    generalize f.ia = fi at *
    generalize f.i.length = fl at *
    generalize f.ic = fc at *
    generalize f.fa = fa at *
    generalize f.f.length = fn at *
    generalize f.fc = fd at *
    clear CS HC HI hd HNA
    go_wp2_with (go_at_call 10; refine (CN _ _).out.mono ?_; rintro e w' ⟨rfl, rfl⟩)
    refine CS1.out.mono ?_
    rintro e w3 ⟨rfl, hb⟩
    have HB4 := Lib.hid (HB3.out.trans (hb.mono HB3.out.size))
    clear y0 y1 y2 hb
    go_wp2_with fail
    go_ret
    exact EndsB.of rfl HB4.out
theorem parseRight_any (a : ByteArray) (w : World) (hT : Tabs w) : Calls Tryz.prog 5 #[.string a] w (EndsB (.bool true) w) := by
  rw [← Lex.bs_of a]
  by_cases h : a.data.toList.length ≤ 1500
  · exact right_short _ w hT h
  · exact right_long _ w hT (by omega)
end Go.Proofs.YtlhbhpdpjidpgaaGreatDoor.Prg
/- ParseRight: what any text tells is a right tree, an error tells the zero tree; a text with something behind it that is no word of it, or with a bracket ahead, is none (of texts of at most 1500 bytes; P1003). Conditions: the two tables of signs hold what their initialisers lay (the card ties that to the program's text). -/
namespace Go.Proofs.YtlhbhpdpjidpgaaGreatDoor
open Go.ChangeShapes Go.WideShapes Go.ChangeAt Go.ChangeMaps Go.WideMaps Go.WideElems Go.RowKit
namespace ParseRight
theorem own : ownKnob Tryz.prog.godebug = none := by kernel_rfl
set_option maxRecDepth 100000 in
theorem contract (H : Type) (enc : TypeId × Value → H) (W : World) (base : Nat) (args : Array Value) (ds gs : List (DataW H)) (before : List MemPlace)
    (hval : ∀ (j : Nat) t v, Tryz.f5.params[j]? = some t → args[j]? = some v → Value.okWide Tryz.prog W .any base t v)
    (hW : DataW.Whole enc Tryz.prog Tryz.f5.params.toList Rows.parseRightSpec.vars false W args.toList ds gs before) (hL : laidMetH Tryz.prog Rows.parseRightRow.laid W) :
    Calls Tryz.prog 5 args W fun e W' => ∃ v, e = .returned v ∧ Rows.parseRightSpec.post enc Tryz.prog Tryz.f5 false true false false W args v W' := by
  have hW' := hW
  obtain ⟨p, q, hA0, hV, rfl, hfz, hnd⟩ := hW
  have hA : DataW.TrodAll enc Tryz.prog W 0 (fun _ => true) true Tryz.f5.params.toList args.toList ds p := hA0
  rw [Tryz.params5] at hA hval
  obtain ⟨v0, vs0, d0, ds0, p0, q0, hargs, rfl, rfl, h0, r0⟩ := trodAll_cons hA
  obtain ⟨rfl, rfl, rfl⟩ := trodAll_nil r0
  obtain rfl : args = #[v0] := Array.toList_inj.1 hargs
  obtain ⟨rfl, rfl⟩ := trodVars_none hV
  obtain ⟨a0, rfl, rfl, rfl, w0⟩ := open_string Tryz.underlying9 (hval 0 9 v0 rfl rfl) h0
  clear hA0
  simp only [List.append_nil] at hW'
  refine (Prg.parseRight_any a0 W (tabs_of rfl hL)).mono fun e W' ⟨he, hb⟩ => ?_
  subst he
  exact ⟨_, rfl, _, _, _, [], [], [], hW', trodAll_cons_mk (shut_bool Tryz.underlying4 _) trodAll_mk0, (trodAll_cons_mk (shut_string Tryz.underlying9 w0) trodAll_mk0), rfl, hb.frame _, fun h => by cases h⟩

theorem laid_met (os : Os) : laidMet Tryz.prog Rows.parseRightRow.laid ((laidWorld os).forCall (fun _ _ => 0) ⟨#[], #[.string ByteArray.empty], []⟩).memory :=
  laidMet_of_run' 8 (by kernel_rfl) (by kernel_rfl)
theorem reads (os : Os) {H : Type} (enc : TypeId × Value → H) : ∃ places, DataW.whole enc Tryz.prog ((laidWorld os).forCall (fun _ _ => 0) ⟨#[], #[.string ByteArray.empty], []⟩).memory Tryz.f5.params.toList Rows.parseRightSpec.vars false (#[.string ByteArray.empty] : Array Value).toList 8 = some ([.lit (.string [])], [], places) :=
  ⟨[], by kernel_rfl⟩
set_option maxRecDepth 100000 in
theorem lifted (os : Os) (started : os.Started) (H : Type) (enc : TypeId × Value → H) (F : Stop.Interp) :
    ReturnsInHanded {} Tryz.checked os 5 .any ((OpenSpec.ofChange Rows.parseRightSpec).preRow enc Tryz.prog Tryz.f5 Rows.parseRightRow.domain false Rows.parseRightRow.laid) (((OpenSpec.ofChange Rows.parseRightSpec).at F).post enc Tryz.prog Tryz.f5 false true false false) := by
  obtain ⟨places, hx⟩ := reads os enc
  refine returnsInHanded_of_row (C := Tryz.checked) (s := OpenSpec.ofChange Rows.parseRightSpec) own started (by kernel_rfl) Tryz.func5
    (witness_row_at (enc := enc) (C := Tryz.checked) false (laidWorld os) #[.string ByteArray.empty] rfl (by kernel_rfl) (by kernel_rfl) (by kernel_rfl)
      (OpenSpec.preRow_of_cond 8 hx (by kernel_rfl) (fun k hk => by cases hk) (by kernel_rfl) (laid_met os))) ?_
  intro W base args ds gs before hval hW _ _ _ hL _ _
  exact contract H enc W base args ds gs before hval hW hL
theorem said : Rows.ParseRightSaid :=
  OpenClaim.holds_of_cond 5 Tryz.f5 rfl rfl rfl rfl rfl rfl rfl ⟨rfl, rfl, rfl, rfl, rfl⟩ rfl rfl rfl rfl rfl (by kernel_rfl) Tryz.func5 (by kernel_rfl)
    (of_decide_eq_true (by kernel_rfl)) (by unfold Func.isWrapper; first | (rw [if_pos (by decide +kernel)]; kernel_rfl) | (rw [if_neg (by decide +kernel)]; exact ⟨rfl, rfl⟩))
    (fun os started H enc _ F => by rw [OpenClaim.pre_eq_preRow]; exact lifted os started H enc F)
theorem plain (f : FuncId) (fn : Func) (hf : Tryz.pinned.checked.prog.funcNamed "treadmill/treadmilllaw10.ParseRight" = some f) (hfn : Tryz.pinned.checked.prog.funcs[f]? = some fn) :
    false = Tryz.pinned.checked.prog.looks [] ∧ ∀ (j : Nat) t, fn.params[j]? = some t → Tryz.pinned.checked.prog.wantsStandIn t = false := by
  obtain rfl : f = 5 := Option.some.inj ((show Tryz.prog.funcNamed "treadmill/treadmilllaw10.ParseRight" = some 5 by kernel_rfl).symm.trans hf) |>.symm
  obtain rfl : fn = Tryz.f5 := (Option.some.inj (Tryz.func5.symm.trans hfn)).symm
  refine ⟨by kernel_rfl, fun j t ht => ?_⟩
  rw [Tryz.params5] at ht
  have hm : t ∈ [9] := by simpa using Array.mem_of_getElem? ht
  have hall : ([9].all fun u => !Tryz.prog.wantsStandIn u) = true := by kernel_rfl
  exact (show Tryz.prog.wantsStandIn t = false by simpa using List.all_eq_true.1 hall t hm)
/-- The card. -/
theorem card : Rows.ParseRightCardSaid :=
  Claim7.holds_tied_plain_at .later [] _ _ _ _ said (fun _ h => by cases h) (by kernel_rfl) (fun _ h => by cases h) parseRight_row_tie rfl ⟨rfl, rfl⟩ (by kernel_rfl) rfl plain (by kernel_rfl)
end ParseRight
end Go.Proofs.YtlhbhpdpjidpgaaGreatDoor
