/-
  The law of files of layer 10, walked: what the program tells of any text is what the document tells. Conditions: the tables lie as the program's text lays them.
-/
import Derived.Test.YtlhbhpdpjidpgaaGreatDoorQ31
import Derived.Test.YtlhbhpdpjidpgaaGreatDoorQ35
import Derived.Test.YtlhbhpdpjidpgaaGreatDoorQ36
import Derived.Test.YtlhbhpdpjidpgaaGreatDoorQ40
import Derived.Test.YtlhbhpdpjidpgaaGreatDoorQ42
import Derived.Test.YtlhbhpdpjidpgaaGreatDoorCards
import Derived.Test.YtlhbhpdpjidpgaaGreatDoorTie
import Derived.WalkKit
import Derived.ProofKit
import Derived.OpenShut
import Derived.Deep.DeepHandedRow
import Derived.Lib.LaidTab
namespace Go.Proofs.YtlhbhpdpjidpgaaGreatDoor.Prg
open Go.RowKit Tre Prs
open Lex (bs str)
set_option maxRecDepth 100000
set_option linter.unusedSimpArgs false
set_option maxHeartbeats 4000000 in
theorem files_long (t : List UInt8) (w : World) (hT : Tabs w) (hl : 1500 < t.length) : Calls Tryz.prog 3 #[.string (bs t)] w (EndsB (.bool true) w) := by
  have CK := Lib.hid (knows_any w hT)
  have hd : decide ((1500 : Int) < ((bs t).size : Int)) = true := by rw [Lex.bs_size]; simp; omega
  clear hT hl
  go_enter Tryz.func3, Tryz.ntmps3
  go_wp2_with fail
  refine CK.out.mono ?_
  rintro e w1 ⟨rfl, hb⟩
  have HB := Lib.hid hb
  clear hb
  go_wp2_with fail
  go_ret
  exact EndsB.of rfl HB.out
set_option maxHeartbeats 8000000 in
theorem files_short (t : List UInt8) (w : World) (hT : Tabs w) (hl : t.length ≤ 1500) : Calls Tryz.prog 3 #[.string (bs t)] w (EndsB (.bool true) w) := by
  have CF := Lib.hid (parseFile_any t w hT)
  have CD := Lib.hid (fun w' => rfile_any t w')
  have CN := fun e w' => Lib.hid (num_any e w')
  have HT := Lib.hid hT
  have hd : decide ((1500 : Int) < ((bs t).size : Int)) = false := by rw [Lex.bs_size]; simp; omega
  clear hT hl
  generalize bs t = TX at *
  go_enter Tryz.func3, Tryz.ntmps3
  go_wp2_with fail
  refine CF.out.mono ?_
  rintro e w2 ⟨f, rfl, hc, hin, hnn, hb⟩
  have HB2 := Lib.hid hb
  have HBA := Lib.hid (ball_new w2 #[.string f.s, .slice f.ia f.i.length f.ic, .slice f.fa f.f.length f.fc] 26)
  have HNA := Lib.hid (new_at w2 #[.string f.s, .slice f.ia f.i.length f.ic, .slice f.fa f.f.length f.fc] 26)
  have HI := Lib.hid hin
  have HC := Lib.hid hc
  unfold flV
  clear hc hin hnn hb CF
  go_wp2_with fail
  refine (CD.out _).mono ?_
  rintro e w3 ⟨f3, rfl, hc, hin, hnn, hb⟩
  have HX3 := Lib.hid (HBA.out.trans (hb.mono HBA.out.size))
  have HBB := Lib.hid (ball_new w3 #[.string f3.s, .slice f3.ia f3.i.length f3.ic, .slice f3.fa f3.f.length f3.fc] 26)
  have HNB := Lib.hid (new_at w3 #[.string f3.s, .slice f3.ia f3.i.length f3.ic, .slice f3.fa f3.f.length f3.fc] 26)
  have HX4 := Lib.hid (HX3.out.trans (HBB.out.mono HX3.out.size))
  have HB4 := Lib.hid (HB2.out.trans (HX4.out.mono HB2.out.size))
  have HNA4 := Lib.hid ((HBB.out.block _ (lt_of_heap ((hb.block _ (lt_of_heap HNA.out)).trans HNA.out))).trans ((hb.block _ (lt_of_heap HNA.out)).trans HNA.out))
  have CS := Lib.hid (same_fl f f3 _ (HC.out.trans hc.symm) (Tre.FlIn.below HI.out HX4.out) (Tre.FlIn.below hin HBB.out))
  have CK := Lib.hid (fun w' (hb' : Below w.heap.size w w') => knows_any w' (HT.out.below hb'))
  unfold flV
  unfold flV at CS
  generalize (fileT t).2 = E at *
  clear hc hin hnn hb CD HC HI HX3 HX4 HBA HBB
  obtain ⟨y0, y1, y2⟩ := three_at HNA4.out
  obtain ⟨z0, z1, z2⟩ := three_at HNB.out
  generalize f.s = fs at *
  generalize f.ia = fi at *
  generalize f.i.length = fl at *
  generalize f.ic = fc at *
  generalize f.fa = fa at *
  generalize f.f.length = fn at *
  generalize f.fc = fd at *
  generalize f3.s = gs at *
  generalize f3.ia = gi at *
  generalize f3.i.length = gl at *
  generalize f3.ic = gc at *
  generalize f3.fa = ga at *
  generalize f3.f.length = gn at *
  generalize f3.fc = gd at *
  go_wp2_with fail
  refine CS.out.mono ?_
  rintro e w5 ⟨rfl, hb⟩
  have HB5 := Lib.hid (HB4.out.trans (hb.mono HB4.out.size))
  have CK1 := Lib.hid (CK.out _ HB5.out)
  clear hb CS y0 y1 y2 z0 z1 z2 CK
  go_wp2_with (go_at_call 10; refine (CN _ _).out.mono ?_; rintro e w' ⟨rfl, rfl⟩)
  refine CK1.out.mono ?_
  rintro e w6 ⟨rfl, hb⟩
  have HB6 := Lib.hid (HB5.out.trans (hb.mono HB5.out.size))
  clear hb CK1
  go_wp2_with fail
  go_ret
  exact EndsB.of rfl HB6.out
theorem parseFiles_any (a : ByteArray) (w : World) (hT : Tabs w) : Calls Tryz.prog 3 #[.string a] w (EndsB (.bool true) w) := by
  rw [← Lex.bs_of a]
  by_cases h : a.data.toList.length ≤ 1500
  · exact files_short _ w hT h
  · exact files_long _ w hT (by omega)
end Go.Proofs.YtlhbhpdpjidpgaaGreatDoor.Prg
/- ParseFiles: what the program tells of a text is what the document tells of it: the same tree, and the same error (of texts of at most 1500 bytes; P1002). Conditions: the two tables of signs hold what their initialisers lay (the card ties that to the program's text). -/
namespace Go.Proofs.YtlhbhpdpjidpgaaGreatDoor
open Go.ChangeShapes Go.WideShapes Go.ChangeAt Go.ChangeMaps Go.WideMaps Go.WideElems Go.RowKit
namespace ParseFiles
theorem own : ownKnob Tryz.prog.godebug = none := by kernel_rfl
set_option maxRecDepth 100000 in
theorem contract (H : Type) (enc : TypeId × Value → H) (W : World) (base : Nat) (args : Array Value) (ds gs : List (DataW H)) (before : List MemPlace)
    (hval : ∀ (j : Nat) t v, Tryz.f3.params[j]? = some t → args[j]? = some v → Value.okWide Tryz.prog W .any base t v)
    (hW : DataW.Whole enc Tryz.prog Tryz.f3.params.toList Rows.parseFilesSpec.vars false W args.toList ds gs before) (hL : laidMetH Tryz.prog Rows.parseFilesRow.laid W) :
    Calls Tryz.prog 3 args W fun e W' => ∃ v, e = .returned v ∧ Rows.parseFilesSpec.post enc Tryz.prog Tryz.f3 false true false false W args v W' := by
  have hW' := hW
  obtain ⟨p, q, hA0, hV, rfl, hfz, hnd⟩ := hW
  have hA : DataW.TrodAll enc Tryz.prog W 0 (fun _ => true) true Tryz.f3.params.toList args.toList ds p := hA0
  rw [Tryz.params3] at hA hval
  obtain ⟨v0, vs0, d0, ds0, p0, q0, hargs, rfl, rfl, h0, r0⟩ := trodAll_cons hA
  obtain ⟨rfl, rfl, rfl⟩ := trodAll_nil r0
  obtain rfl : args = #[v0] := Array.toList_inj.1 hargs
  obtain ⟨rfl, rfl⟩ := trodVars_none hV
  obtain ⟨a0, rfl, rfl, rfl, w0⟩ := open_string Tryz.underlying9 (hval 0 9 v0 rfl rfl) h0
  clear hA0
  simp only [List.append_nil] at hW'
  refine (Prg.parseFiles_any a0 W (tabs_of rfl hL)).mono fun e W' ⟨he, hb⟩ => ?_
  subst he
  exact ⟨_, rfl, _, _, _, [], [], [], hW', trodAll_cons_mk (shut_bool Tryz.underlying4 _) trodAll_mk0, (trodAll_cons_mk (shut_string Tryz.underlying9 w0) trodAll_mk0), rfl, hb.frame _, fun h => by cases h⟩

theorem laid_met (os : Os) : laidMet Tryz.prog Rows.parseFilesRow.laid ((laidWorld os).forCall (fun _ _ => 0) ⟨#[], #[.string ByteArray.empty], []⟩).memory :=
  laidMet_of_run' 8 (by kernel_rfl) (by kernel_rfl)
theorem reads (os : Os) {H : Type} (enc : TypeId × Value → H) : ∃ places, DataW.whole enc Tryz.prog ((laidWorld os).forCall (fun _ _ => 0) ⟨#[], #[.string ByteArray.empty], []⟩).memory Tryz.f3.params.toList Rows.parseFilesSpec.vars false (#[.string ByteArray.empty] : Array Value).toList 8 = some ([.lit (.string [])], [], places) :=
  ⟨[], by kernel_rfl⟩
set_option maxRecDepth 100000 in
theorem lifted (os : Os) (started : os.Started) (H : Type) (enc : TypeId × Value → H) (F : Stop.Interp) :
    ReturnsInHanded {} Tryz.checked os 3 .any ((OpenSpec.ofChange Rows.parseFilesSpec).preRow enc Tryz.prog Tryz.f3 Rows.parseFilesRow.domain false Rows.parseFilesRow.laid) (((OpenSpec.ofChange Rows.parseFilesSpec).at F).post enc Tryz.prog Tryz.f3 false true false false) := by
  obtain ⟨places, hx⟩ := reads os enc
  refine returnsInHanded_of_row (C := Tryz.checked) (s := OpenSpec.ofChange Rows.parseFilesSpec) own started (by kernel_rfl) Tryz.func3
    (witness_row_at (enc := enc) (C := Tryz.checked) false (laidWorld os) #[.string ByteArray.empty] rfl (by kernel_rfl) (by kernel_rfl) (by kernel_rfl)
      (OpenSpec.preRow_of_cond 8 hx (by kernel_rfl) (fun k hk => by cases hk) (by kernel_rfl) (laid_met os))) ?_
  intro W base args ds gs before hval hW _ _ _ hL _ _
  exact contract H enc W base args ds gs before hval hW hL
theorem said : Rows.ParseFilesSaid :=
  OpenClaim.holds_of_cond 3 Tryz.f3 rfl rfl rfl rfl rfl rfl rfl ⟨rfl, rfl, rfl, rfl, rfl⟩ rfl rfl rfl rfl rfl (by kernel_rfl) Tryz.func3 (by kernel_rfl)
    (of_decide_eq_true (by kernel_rfl)) (by unfold Func.isWrapper; first | (rw [if_pos (by decide +kernel)]; kernel_rfl) | (rw [if_neg (by decide +kernel)]; exact ⟨rfl, rfl⟩))
    (fun os started H enc _ F => by rw [OpenClaim.pre_eq_preRow]; exact lifted os started H enc F)
theorem plain (f : FuncId) (fn : Func) (hf : Tryz.pinned.checked.prog.funcNamed "treadmill/treadmilllaw10.ParseFiles" = some f) (hfn : Tryz.pinned.checked.prog.funcs[f]? = some fn) :
    false = Tryz.pinned.checked.prog.looks [] ∧ ∀ (j : Nat) t, fn.params[j]? = some t → Tryz.pinned.checked.prog.wantsStandIn t = false := by
  obtain rfl : f = 3 := Option.some.inj ((show Tryz.prog.funcNamed "treadmill/treadmilllaw10.ParseFiles" = some 3 by kernel_rfl).symm.trans hf) |>.symm
  obtain rfl : fn = Tryz.f3 := (Option.some.inj (Tryz.func3.symm.trans hfn)).symm
  refine ⟨by kernel_rfl, fun j t ht => ?_⟩
  rw [Tryz.params3] at ht
  have hm : t ∈ [9] := by simpa using Array.mem_of_getElem? ht
  have hall : ([9].all fun u => !Tryz.prog.wantsStandIn u) = true := by kernel_rfl
  exact (show Tryz.prog.wantsStandIn t = false by simpa using List.all_eq_true.1 hall t hm)
/-- The card. -/
theorem card : Rows.ParseFilesCardSaid :=
  Claim7.holds_tied_plain_at .later [] _ _ _ _ said (fun _ h => by cases h) (by kernel_rfl) (fun _ h => by cases h) parseFiles_row_tie rfl ⟨rfl, rfl⟩ (by kernel_rfl) rfl plain (by kernel_rfl)
end ParseFiles
end Go.Proofs.YtlhbhpdpjidpgaaGreatDoor
