/-
  The law of expressions of layer 10, walked: the tree of any expression's text, how deep any words are in brackets, and what stands at a file's head. Conditions: the tables lie as the program's text lays them; the words lie in memory.
-/
import Derived.Test.YtlhbhpdpjidpgaaGreatDoorX31
import Derived.Test.YtlhbhpdpjidpgaaGreatDoorX35
import Derived.Test.YtlhbhpdpjidpgaaGreatDoorX37
import Derived.Test.YtlhbhpdpjidpgaaGreatDoorX42
import Derived.Test.YtlhbhpdpjidpgaaGreatDoorX43
import Derived.Deep.DeepCutAuto
import Derived.Deep.Slices
import Derived.Deep.Fields
import Derived.ChangeSlices
import Derived.ProofKit
import Derived.OpenShut
import Derived.ChangeSame
import Derived.Test.YtlhbhpdpjidpgaaGreatDoorCards
import Derived.Test.YtlhbhpdpjidpgaaGreatDoorTie
import Derived.WalkKit
import Derived.Deep.DeepHandedRow
import Derived.Lib.LaidTab
namespace Go.Proofs.YtlhbhpdpjidpgaaGreatDoor.Prg
open Go.RowKit Tre Prs
open Lex (bs str Wd wdC)
set_option maxRecDepth 100000
set_option linter.unusedSimpArgs false
set_option maxHeartbeats 4000000 in
theorem exprs_long (t : List UInt8) (l : List Wd) (A : Option Addr) (c : Nat) (w : World) (hT : Tabs w) (hl : 1000 < t.length) : Calls Tryz.prog 4 #[.string (bs t), .slice A l.length c] w (EndsB (.bool true) w) := by
  have CK := Lib.hid (knows_any w hT)
  have hd : decide ((1000 : Int) < ((bs t).size : Int)) = true := by rw [Lex.bs_size]; simp; omega
  clear hl
  obtain ⟨k, hk⟩ : ∃ k, l.length = k := ⟨_, rfl⟩
  rw [hk]
  clear hT hk
  generalize bs t = TX at *
  go_enter Tryz.func4, Tryz.ntmps4
  go_wp2_with fail
  refine CK.out.mono ?_
  rintro e w1 ⟨rfl, hb⟩
  have HB := Lib.hid hb
  clear hb
  go_wp2_with fail
  go_ret
  exact EndsB.of rfl HB.out
set_option maxHeartbeats 4000000 in
theorem exprs_many (t : List UInt8) (l : List Wd) (A : Option Addr) (c : Nat) (w : World) (hT : Tabs w) (hl : t.length ≤ 1000) (hm : 300 < l.length) : Calls Tryz.prog 4 #[.string (bs t), .slice A l.length c] w (EndsB (.bool true) w) := by
  have CK := Lib.hid (knows_any w hT)
  have hd : decide ((1000 : Int) < ((bs t).size : Int)) = false := by rw [Lex.bs_size]; simp; omega
  have hd2 : decide ((300 : Int) < (l.length : Int)) = true := by simp only [decide_eq_true_eq]; omega
  clear hl hm
  obtain ⟨k, hk⟩ : ∃ k, l.length = k := ⟨_, rfl⟩
  rw [hk]
  rw [hk] at hd2
  clear hT hk
  generalize bs t = TX at *
  go_enter Tryz.func4, Tryz.ntmps4
  go_wp2_with fail
  refine CK.out.mono ?_
  rintro e w1 ⟨rfl, hb⟩
  have HB := Lib.hid hb
  clear hb
  go_wp2_with fail
  go_ret
  exact EndsB.of rfl HB.out
set_option maxHeartbeats 16000000 in
theorem exprs_short (t : List UInt8) (l : List Wd) (A : Option Addr) (c : Nat) (w : World) (hT : Tabs w) (hrow : Row 3 wdC w A l) (hl : t.length ≤ 1000) (hm : l.length ≤ 300) : Calls Tryz.prog 4 #[.string (bs t), .slice A l.length c] w (EndsB (.bool true) w) := by
  have CX := Lib.hid (parseExpr_any t w hT)
  have CD := Lib.hid (fun w' => rexpr_any t w')
  have CH := Lib.hid (fun w' (hb : Below w.heap.size w w') => header_any t w' (hT.below hb))
  have CF := Lib.hid (fun w' => rfile_any t w')
  have CK := Lib.hid (fun w' (hb : Below w.heap.size w w') => knows_any w' (hT.below hb))
  have CN := fun e w' => Lib.hid (num_any e w')
  have CG := Lib.hid (fun w' (hb : Below w.heap.size w w') => nestg_any l A c w' (hrow.below hb) (by omega))
  have CM := Lib.hid (fun w' (hb : Below w.heap.size w w') => nest_any l A c w' (hrow.below hb) (by omega))
  rw [nestG_all] at CG
  rw [nestN_D] at CM
  have HES := Lib.hid (exprT_same t)
  have hd : decide ((1000 : Int) < ((bs t).size : Int)) = false := by rw [Lex.bs_size]; simp; omega
  have hd2 : decide ((300 : Int) < (l.length : Int)) = false := by simp only [decide_eq_false_iff_not]; omega
  obtain ⟨k, hk⟩ : ∃ k, l.length = k := ⟨_, rfl⟩
  rw [hk] at CG CM hd2 ⊢
  generalize nestD l = dd at *
  clear hT hrow hl hk
  generalize bs t = TX at *
  go_enter Tryz.func4, Tryz.ntmps4
  go_wp2_with fail
  refine CX.out.mono ?_
  rintro e w1 ⟨x, rfl, hc, hin, -, hb⟩
  rw [exV_eq]
  have HBA := Lib.hid (ball_new w1 #[.int .i64 x.op, .int .i64 x.n, .string x.s, .string x.q, .slice x.a x.x.length x.c] 36)
  have HNA := Lib.hid (new_at w1 #[.int .i64 x.op, .int .i64 x.n, .string x.s, .string x.q, .slice x.a x.x.length x.c] 36)
  have HB1 := Lib.hid (hb.trans (HBA.out.mono hb.size))
  have HI1 := Lib.hid (Tre.ExIn.below hin HBA.out)
  have HC1 := Lib.hid (hc.trans (by rw [HES.out] : _ = (exprT t).1))
  have HE1 : Hid ((exprTP t).2 = (exprT t).2) := Lib.hid (by rw [HES.out])
  rw [HE1.out]
  clear hc hin hb CX HBA HE1 HES
  obtain ⟨E1, hE1⟩ : ∃ E, (exprT t).2 = E := ⟨_, rfl⟩
  have HEE1 := Lib.hid hE1
  rw [hE1]
  clear hE1
  obtain ⟨pa, hpa⟩ : ∃ p, p = w1.heap.size := ⟨_, rfl⟩
  rw [← hpa] at HNA
  go_wp2_with fail
  rw [← hpa]
  clear hpa
  generalize w1.alloc (.cells #[.int .i64 x.op, .int .i64 x.n, .string x.s, .string x.q, .slice x.a x.x.length x.c] 36) = W1 at *
  refine (CD.out _).mono ?_
  rintro e w2 ⟨y, rfl, hc, hin, hb⟩
  rw [exV_eq, HEE1.out]
  have HBB := Lib.hid (ball_new w2 #[.int .i64 y.op, .int .i64 y.n, .string y.s, .string y.q, .slice y.a y.x.length y.c] 36)
  have HNB := Lib.hid (new_at w2 #[.int .i64 y.op, .int .i64 y.n, .string y.s, .string y.q, .slice y.a y.x.length y.c] 36)
  have hb2 := hb.trans (HBB.out.mono hb.size)
  have HB2 := Lib.hid (HB1.out.trans (hb2.mono HB1.out.size))
  have HI1 := Lib.hid (Tre.ExIn.below HI1.out hb2)
  have HNA := Lib.hid ((hb2.block _ (lt_of_heap HNA.out)).trans HNA.out)
  have HI2 := Lib.hid (Tre.ExIn.below hin HBB.out)
  have HC2 := Lib.hid (HC1.out.trans hc.symm)
  clear hc hin hb hb2 CD HBB HC1 HB1
  obtain ⟨pb, hpb⟩ : ∃ p, p = w2.heap.size := ⟨_, rfl⟩
  rw [← hpb] at HNB
  have CH1 := Lib.hid (CH.out _ HB2.out)
  go_wp2_with fail
  rw [← hpb]
  clear hpb CH
  generalize w2.alloc (.cells #[.int .i64 y.op, .int .i64 y.n, .string y.s, .string y.q, .slice y.a y.x.length y.c] 36) = W2 at *
  refine CH1.out.mono ?_
  rintro e w3 ⟨f1, rfl, hc, hin, -, hb⟩
  have HB3 := Lib.hid (HB2.out.trans (hb.mono HB2.out.size))
  have HI1 := Lib.hid (Tre.ExIn.below HI1.out hb)
  have HI2 := Lib.hid (Tre.ExIn.below HI2.out hb)
  have HNA := Lib.hid ((hb.block _ (lt_of_heap HNA.out)).trans HNA.out)
  have HNB := Lib.hid ((hb.block _ (lt_of_heap HNB.out)).trans HNB.out)
  have HF1 := Lib.hid hc
  have HG1 := Lib.hid hin.irow
  have HGL := Lib.hid hin.ilen
  clear hc hin hb CH1 HB2
  obtain ⟨E2, hE2⟩ : ∃ E, (fileT t).2 = E := ⟨_, rfl⟩
  have HEE2 := Lib.hid hE2
  rw [hE2]
  clear hE2
  go_wp2_with fail
  refine (CF.out _).mono ?_
  rintro e w4 ⟨f2, rfl, hc, hin, -, hb⟩
  unfold flV
  rw [HEE2.out]
  have hcc := HF1.out.trans hc.symm
  unfold coreL at hcc
  injection hcc with q1 q2 q3
  have hs : f2.s = f1.s := (bytes_same q1).symm
  have hi : f2.i = f1.i := (texts_same q2).symm
  rw [hs, hi]
  have HBC := Lib.hid (ball_new w4 #[.string f1.s, .slice f2.ia f1.i.length f2.ic, .slice f2.fa f2.f.length f2.fc] 26)
  have HNC := Lib.hid (new_at w4 #[.string f1.s, .slice f2.ia f1.i.length f2.ic, .slice f2.fa f2.f.length f2.fc] 26)
  have hb4 := hb.trans (HBC.out.mono hb.size)
  have HB4 := Lib.hid (HB3.out.trans (hb4.mono HB3.out.size))
  have HI1 := Lib.hid (Tre.ExIn.below HI1.out hb4)
  have HI2 := Lib.hid (Tre.ExIn.below HI2.out hb4)
  have HNA := Lib.hid ((hb4.block _ (lt_of_heap HNA.out)).trans HNA.out)
  have HNB := Lib.hid ((hb4.block _ (lt_of_heap HNB.out)).trans HNB.out)
  have HR1 := Lib.hid (HG1.out.below hb4)
  have HR2 : Hid (Row 1 txC _ f2.ia f1.i) := Lib.hid (by have h := hin.irow.below HBC.out; rw [hi] at h; exact h)
  clear hc hin hb hb4 CF HBC HB3 q1 q2 q3 hs hi HF1 HG1
  obtain ⟨n, hn⟩ : ∃ n, f1.i.length = n := ⟨_, rfl⟩
  rw [hn] at HNC HGL HB4 HI1 HI2 HNA HNB HR1 HR2
  rw [hn]
  have HNN := Lib.hid hn
  have hgl := HGL.out
  unfold most at hgl
  clear hn HGL
  generalize f1.s = S at *
  generalize f1.i = is at *
  generalize f1.ia = ia at *
  generalize f1.ic = ic at *
  generalize f2.ia = ga at *
  generalize f2.ic = gc at *
  obtain ⟨W4, hW4⟩ : ∃ W, w4.alloc (.cells #[.string S, .slice ga n gc, .slice f2.fa f2.f.length f2.fc] 26) = W := ⟨_, rfl⟩
  rw [hW4] at HB4 HI1 HI2 HNA HNB HR1 HR2 HNC
  obtain ⟨y0, y1, y2⟩ := three_at HNC.out
  go_wp2_with (go_at_call 10; refine (CN _ _).out.mono ?_; rintro e w' ⟨rfl, hw⟩; obtain rfl := hw.symm)
  clear hW4 y0 y1 y2
  generalize w4.heap.size = pc at *
  go_loopw [14] (fun iv wr => ∃ j : Nat, j ≤ n ∧ iv = .int .i64 j ∧ Hid (Below W4.heap.size W4 wr)) (fun iv _ => n - (intOf iv).toNat)
  case atStart => exact ⟨0, Nat.zero_le _, rfl, Lib.hid (Below.refl _ _)⟩
  case round =>
    obtain ⟨j, hj, rfl, HB⟩ := hrel
    by_cases hlt : j < n
    · obtain ⟨xe, hx⟩ : ∃ e, is[j]? = some e := ⟨_, List.getElem?_eq_getElem (by rw [HNN.out]; exact hlt)⟩
      obtain ⟨b1, o1, rfl, -⟩ := HR1.out.at_ (Below.refl _ _) hx
      obtain ⟨b2, o2, rfl, -⟩ := HR2.out.at_ (Below.refl _ _) hx
      have HX := Lib.hid hx
      have HF : Hid (∀ u : World, Below wr.heap.size wr u → u.cell? ⟨pc, 1, none⟩ = some (.slice (some ⟨b2, o2, none⟩) n gc)) := Lib.hid (fun u hu => by
        have hb := HB.out.trans (hu.mono HB.out.size)
        exact cell_at ((hb.block _ (lt_of_heap HNC.out)).trans HNC.out) 1)
      have HFX : Hid (∀ u : World, Below wr.heap.size wr u → u.cell? ⟨b1, o1 + j, none⟩ = some (.string xe)) := Lib.hid (fun u hu => by
        obtain ⟨b', o', e, hc⟩ := HR1.out.at_ (HB.out.trans (hu.mono HB.out.size)) HX.out
        injection e with e
        injection e with e1 e2
        subst e1 e2
        exact txC_at (by simpa only [Nat.mul_one] using hc))
      have HFY : Hid (∀ u : World, Below wr.heap.size wr u → u.cell? ⟨b2, o2 + j, none⟩ = some (.string xe)) := Lib.hid (fun u hu => by
        obtain ⟨b', o', e, hc⟩ := HR2.out.at_ (HB.out.trans (hu.mono HB.out.size)) HX.out
        injection e with e
        injection e with e1 e2
        subst e1 e2
        exact txC_at (by simpa only [Nat.mul_one] using hc))
      clear hx HX
      go_wp2_with fail
      have HS0 : Hid (Below wr.heap.size wr wr.drew) := Lib.hid ((Below.refl _ _).drew)
      refine Lex.AtS.start (by kernel_rfl) 9 (fun u => Below wr.heap.size wr u) (by kernel_rfl) (by kernel_rfl) ?_
      generalize wr.drew = u0 at *
      refine Lex.at_take 0 70 (.slice (some ⟨b1, o1, none⟩) n ic) rfl rfl (by kernel_rfl) (by decide) (by decide) (fun _ _ _ h => h) (by kernel_rfl) HS0.out (fun w' hw' => ?_) ?_
      · go_simp
      go_frame
      refine Lex.at_take 1 71 (.int .i64 j) rfl rfl (by kernel_rfl) (by decide) (by decide) (fun _ _ _ h => h) (by kernel_rfl) HS0.out (fun w' hw' => ?_) ?_
      · go_simp
      go_frame
      refine Lex.at_take 2 72 (.pointer (some ⟨b1, o1 + j, none⟩)) rfl rfl (by kernel_rfl) (by decide) (by decide) (fun _ _ _ h => h) (by kernel_rfl) HS0.out (fun w' hw' => ?_) ?_
      · go_simp
      go_frame
      refine Lex.at_take 3 73 (.string xe) rfl rfl (by kernel_rfl) (by decide) (by decide) (fun _ _ _ h => h) (by kernel_rfl) HS0.out (fun w' hw' => ?_) ?_
      · have := HFX.out w' hw'
        go_simp
      go_frame
      refine Lex.at_take 4 74 (.pointer (some ⟨pc, 1, none⟩)) rfl rfl (by kernel_rfl) (by decide) (by decide) (fun _ _ _ h => h) (by kernel_rfl) HS0.out (fun w' hw' => ?_) ?_
      · go_simp
      go_frame
      refine Lex.at_take 5 75 (.slice (some ⟨b2, o2, none⟩) n gc) rfl rfl (by kernel_rfl) (by decide) (by decide) (fun _ _ _ h => h) (by kernel_rfl) HS0.out (fun w' hw' => ?_) ?_
      · have := HF.out w' hw'
        go_simp
      go_frame
      refine Lex.at_take 6 76 (.int .i64 j) rfl rfl (by kernel_rfl) (by decide) (by decide) (fun _ _ _ h => h) (by kernel_rfl) HS0.out (fun w' hw' => ?_) ?_
      · go_simp
      go_frame
      refine Lex.at_take 7 77 (.pointer (some ⟨b2, o2 + j, none⟩)) rfl rfl (by kernel_rfl) (by decide) (by decide) (fun _ _ _ h => h) (by kernel_rfl) HS0.out (fun w' hw' => ?_) ?_
      · go_simp
      go_frame
      refine Lex.at_take 8 78 (.string xe) rfl rfl (by kernel_rfl) (by decide) (by decide) (fun _ _ _ h => h) (by kernel_rfl) HS0.out (fun w' hw' => ?_) ?_
      · have := HFY.out w' hw'
        go_simp
      go_frame
      refine Lex.AtS.lastv 9 79 (.bool false) u0 rfl rfl (by kernel_rfl) (by kernel_rfl) (by decide) (by kernel_rfl) ?_ ?_
      · go_simp
      go_frame
      clear HF HFX HFY
      go_wp2_with fail
      go_roundw
      case rel => exact ⟨j + 1, by omega, by go_num, Lib.hid (HB.out.trans (HS0.out.mono HB.out.size))⟩
      case measure => simp [intOf]; omega
    · obtain rfl : j = n := by omega
      clear hlt hj
      have HNA5 := Lib.hid ((HB.out.block _ (lt_of_heap HNA.out)).trans HNA.out)
      have HNB5 := Lib.hid ((HB.out.block _ (lt_of_heap HNB.out)).trans HNB.out)
      have CS := Lib.hid (same_ex x y wr HC2.out (Tre.ExIn.below HI1.out HB.out) (Tre.ExIn.below HI2.out HB.out))
      rw [exV_eq, exV_eq] at CS
      have HB5 := Lib.hid (HB4.out.trans (HB.out.mono HB4.out.size))
      obtain ⟨x0, x1, x2, x3, x4⟩ := five_at HNA5.out
      obtain ⟨z0, z1, z2, z3, z4⟩ := five_at HNB5.out
      clear HNA HNB HNC HNA5 HNB5 HI1 HI2 HC2 HR1 HR2 HB HB4
      go_wp2_with fail
      refine CS.out.mono ?_
      rintro e u1 ⟨rfl, hb⟩
      have HB6 := Lib.hid (HB5.out.trans (hb.mono HB5.out.size))
      have CG1 := Lib.hid (CG.out _ HB6.out)
      clear hb CS x0 x1 x2 x3 x4 z0 z1 z2 z3 z4 CG HB5
      go_wp2_with (go_at_call 10; refine (CN _ _).out.mono ?_; rintro e w' ⟨rfl, hw⟩; obtain rfl := hw.symm)
      refine CG1.out.mono ?_
      rintro e u2 ⟨rfl, hb⟩
      have HB7 := Lib.hid (HB6.out.trans (hb.mono HB6.out.size))
      have CM1 := Lib.hid (CM.out _ HB7.out)
      clear hb CG1 CM HB6
      go_wp2_with fail
      refine CM1.out.mono ?_
      rintro e u3 ⟨rfl, hb⟩
      have HB8 := Lib.hid (HB7.out.trans (hb.mono HB7.out.size))
      have CK1 := Lib.hid (CK.out _ HB8.out)
      clear hb CM1 CK HB7
      go_wp2_with fail
      refine CK1.out.mono ?_
      rintro e u4 ⟨rfl, hb⟩
      have HB9 := Lib.hid (HB8.out.trans (hb.mono HB8.out.size))
      clear hb CK1 HB8
      go_wp2_with fail
      go_ret
      exact EndsB.of rfl HB9.out
theorem parseExprs_any (a : ByteArray) (m : Option Addr × Nat × List Wd) (w : World) (hT : Tabs w) (hm : Row 3 wdC w m.1 m.2.2 ∧ m.2.2.length ≤ 9223372036854775807) : Calls Tryz.prog 4 #[.string a, .slice m.1 m.2.2.length m.2.1] w (EndsB (.bool true) w) := by
  rw [← Lex.bs_of a]
  by_cases h : a.data.toList.length ≤ 1000
  · by_cases h2 : m.2.2.length ≤ 300
    · exact exprs_short _ _ _ _ w hT hm.1 h h2
    · exact exprs_many _ _ _ _ w hT h (by omega)
  · exact exprs_long _ _ _ _ w hT (by omega)
end Go.Proofs.YtlhbhpdpjidpgaaGreatDoor.Prg
/- What a slice of words that came in comes to. No condition beyond the form's own. -/
namespace Go.Proofs.YtlhbhpdpjidpgaaGreatDoor
open Go.RowKit Lex Go.ChangeShapes Go.WideShapes Go.ChangeAt Go.Deep
set_option maxRecDepth 100000
theorem cell_lt {w : World} {a : Addr} {v : Value} (h : w.cell? a = some v) : a.block < w.heap.size := by
  rcases Nat.lt_or_ge a.block w.heap.size with h' | h'
  · exact h'
  · simp [World.cell?, Array.getElem?_eq_none h'] at h
section
variable {H : Type} {enc : TypeId × Value → H} {w : World} {base : Nat} {spare : Nat → Bool} {held : Bool}
/-- One word, at its place. -/
def WordAt (w : World) (a : Addr) (x : Wd) : Prop := w.cell? a = some (.int .i64 x.k) ∧ w.cell? (a.add 1) = some (.string (bs x.s)) ∧ w.cell? (a.add 2) = some (.int .i64 x.n)
theorem one_field {cs : List Value} {i : Nat} (h : i < cs.length) : (cs.drop i).take 1 = [cs[i]] := by
  rw [List.drop_eq_getElem_cons h]
  rfl
theorem open_word1 {fuel : Nat} {a : Addr} {cs : List Value} {x : DataW H × List MemPlace} (hc : w.cells? base a 3 = some cs) (h : DataW.trod enc Tryz.prog w base spare held fuel 73 cs = some x) : ∃ it, WordAt w a it := by
  obtain ⟨_, hcl, hat⟩ := World.cells?_some hc
  obtain ⟨ys, n', _, _, _, hyl, hf⟩ := DataW.trod_struct Tryz.underlying73 h
  have hyl3 : ys.length = 3 := hyl
  have f0 : DataW.trod enc Tryz.prog w base spare held n' 3 ((cs.drop 0).take (Tryz.prog.cellsOf 3)) = ys[0]? := hf 0 _ rfl
  have f1 : DataW.trod enc Tryz.prog w base spare held n' 9 ((cs.drop 1).take (Tryz.prog.cellsOf 9)) = ys[1]? := hf 1 _ rfl
  have f2 : DataW.trod enc Tryz.prog w base spare held n' 2 ((cs.drop 2).take (Tryz.prog.cellsOf 2)) = ys[2]? := hf 2 _ rfl
  have k2 : Tryz.prog.cellsOf 2 = 1 := by kernel_rfl
  have k3 : Tryz.prog.cellsOf 3 = 1 := by kernel_rfl
  have k9 : Tryz.prog.cellsOf 9 = 1 := by kernel_rfl
  rw [k3] at f0
  rw [k9] at f1
  rw [k2] at f2
  rw [one_field (by omega)] at f0 f1 f2
  obtain ⟨y0, e0⟩ : ∃ y, ys[0]? = some y := ⟨ys[0]'(by omega), List.getElem?_eq_getElem _⟩
  obtain ⟨y1, e1⟩ : ∃ y, ys[1]? = some y := ⟨ys[1]'(by omega), List.getElem?_eq_getElem _⟩
  obtain ⟨y2, e2⟩ : ∃ y, ys[2]? = some y := ⟨ys[2]'(by omega), List.getElem?_eq_getElem _⟩
  obtain ⟨n0, g0, _, _⟩ := DataW.trod_int Tryz.underlying3 (f0.trans e0)
  obtain ⟨s1, g1, _, _⟩ := DataW.trod_string Tryz.underlying9 (f1.trans e1)
  obtain ⟨n2, g2, _, _⟩ := DataW.trod_int Tryz.underlying2 (f2.trans e2)
  injection g0 with g0
  injection g1 with g1
  injection g2 with g2
  have a0 := hat 0 (by decide)
  have a1 := hat 1 (by decide)
  have a2 := hat 2 (by decide)
  rw [List.getElem?_eq_getElem (by omega), g0] at a0
  rw [List.getElem?_eq_getElem (by omega), g1] at a1
  rw [List.getElem?_eq_getElem (by omega), g2] at a2
  refine ⟨⟨n0, s1.data.toList, n2⟩, by simpa [Addr.add] using a0, ?_, a2⟩
  show w.cell? (a.add 1) = some (.string (bs s1.data.toList))
  rw [bs_of]
  exact a1
theorem open_words {r : Reach} {b0 : Nat} {v : Value} {d : DataW H} {p : List MemPlace} (hv : Value.okWide Tryz.prog w r b0 33 v) (h : DataW.Trod enc Tryz.prog w base spare held 33 v d p) :
    ∃ m : Option Addr × Nat × List Wd, v = .slice m.1 m.2.2.length m.2.1 ∧ Tre.Row 3 wdC w m.1 m.2.2 ∧ m.2.2.length ≤ 9223372036854775807 := by
  obtain ⟨A, n, c, rfl⟩ := okWide_slice Tryz.underlying33 hv
  obtain ⟨fuel, h⟩ := h
  rcases open_slice Tryz.underlying33 h with ⟨hcs, _⟩ | ⟨a, len, cap, m, _, D, Pl, hcs, _, hl, hm, hmm, _, hi⟩
  · injection hcs with hcs
    injection hcs with h1 h2 h3
    subst h1 h2 h3
    exact ⟨⟨none, 0, []⟩, rfl, Tre.Row.nil _ _ _ _, by simp⟩
  · injection hcs with hcs
    injection hcs with h1 h2 h3
    subst h1 h2 h3
    unfold maxLen at hm
    have k39 : Tryz.prog.cellsOf 73 = 3 := by kernel_rfl
    have hx : ∀ i, i < n → ∃ it, WordAt w (a.add (i * 3)) it := fun i hin => by
      have hmn : i < m := by rw [hmm]; split <;> omega
      obtain ⟨cs', h1, h2⟩ := hi i hmn
      rw [k39] at h1
      exact open_word1 h1 h2
    classical
    let f : Nat → Wd := fun i => if h : i < n then (hx i h).choose else ⟨0, [], 0⟩
    have hf : ∀ i, i < n → WordAt w (a.add (i * 3)) (f i) := fun i h => by
      show WordAt w _ (if h : i < n then (hx i h).choose else _)
      rw [dif_pos h]
      exact (hx i h).choose_spec
    refine ⟨⟨some a, c, (List.range n).map f⟩, by simp, fun hz => ?_, by simp; omega⟩
    have h0 : 0 < n := by simpa using hz
    obtain ⟨b, off, spot⟩ := a
    have hspot : spot = none := by simpa [Addr.add] using World.cell?_spot (hf 0 h0).1
    subst hspot
    refine ⟨b, off, rfl, by simpa [Addr.add] using cell_lt (hf 0 h0).1, fun j x hj q u hu => ?_⟩
    have hjn : j < n := by
      have := (List.getElem?_eq_some_iff.1 hj).1
      simpa using this
    obtain rfl : f j = x := by
      rw [List.getElem?_map, List.getElem?_range hjn] at hj
      simpa using hj
    obtain ⟨q0, q1, q2⟩ := hf j hjn
    rw [plain_add] at q0 q1 q2
    rw [plain_add] at q1 q2
    have hq : q < 3 := (List.getElem?_eq_some_iff.1 hu).1
    rcases (show q = 0 ∨ q = 1 ∨ q = 2 by omega) with rfl | rfl | rfl
    · injection hu with hu; subst hu; exact q0
    · injection hu with hu; subst hu; exact q1
    · injection hu with hu; subst hu; exact q2
end
end Go.Proofs.YtlhbhpdpjidpgaaGreatDoor
/- ParseExprs: what the program tells of an expression's text is what the document tells of it: the same tree, and the same error; so does what stands at a file's head, and how deep any words are in brackets (of texts of at most 1000 bytes, 300 words; P1002). Conditions: the two tables of signs hold what their initialisers lay (the card ties that to the program's text). -/
namespace Go.Proofs.YtlhbhpdpjidpgaaGreatDoor
open Go.ChangeShapes Go.WideShapes Go.ChangeAt Go.ChangeMaps Go.WideMaps Go.WideElems Go.RowKit
namespace ParseExprs
theorem own : ownKnob Tryz.prog.godebug = none := by kernel_rfl
theorem laidOut : laidOutB Tryz.prog = true := by kernel_rfl
set_option maxRecDepth 100000 in
theorem contract (H : Type) (enc : TypeId × Value → H) (W : World) (base : Nat) (args : Array Value) (ds gs : List (DataW H)) (before : List MemPlace)
    (hval : ∀ (j : Nat) t v, Tryz.f4.params[j]? = some t → args[j]? = some v → Value.okWide Tryz.prog W .any base t v)
    (hW : DataW.Whole enc Tryz.prog Tryz.f4.params.toList Rows.parseExprsSpec.vars false W args.toList ds gs before) (hL : laidMetH Tryz.prog Rows.parseExprsRow.laid W) :
    Calls Tryz.prog 4 args W fun e W' => ∃ v, e = .returned v ∧ Rows.parseExprsSpec.post enc Tryz.prog Tryz.f4 false true false false W args v W' := by
  have hW' := hW
  obtain ⟨p, q, hA0, hV, rfl, hfz, hnd⟩ := hW
  have hA : DataW.TrodAll enc Tryz.prog W 0 (fun _ => true) true Tryz.f4.params.toList args.toList ds p := hA0
  rw [Tryz.params4] at hA hval
  obtain ⟨v0, vs0, d0, ds0, p0, q0, hargs, rfl, rfl, h0, r0⟩ := trodAll_cons hA
  obtain ⟨v1, vs1, d1, ds1, p1, q1, rfl, rfl, rfl, h1, r1⟩ := trodAll_cons r0
  obtain ⟨rfl, rfl, rfl⟩ := trodAll_nil r1
  obtain rfl : args = #[v0, v1] := Array.toList_inj.1 hargs
  obtain ⟨rfl, rfl⟩ := trodVars_none hV
  obtain ⟨a0, rfl, rfl, rfl, w0⟩ := open_string Tryz.underlying9 (hval 0 9 v0 rfl rfl) h0
  have k1 := h1
  have lt1 : ∀ x ∈ p1, x.block < W.heap.size := by obtain ⟨m, hm⟩ := k1; exact DataW.trod_lt m _ _ _ hm
  obtain ⟨m1, rfl, o1⟩ := open_words (hval 1 33 v1 rfl rfl) h1
  clear hA0
  refine (Prg.parseExprs_any a0 m1 W (tabs_of rfl hL) o1).mono fun e W' ⟨he, hb⟩ => ?_
  subst he
  exact ⟨_, rfl, _, _, _, [], _, [], hW', trodAll_cons_mk (shut_bool Tryz.underlying4 _) trodAll_mk0, (trodAll_cons_mk (shut_string Tryz.underlying9 w0) (trodAll_cons_mk (Below.trod laidOut (by kernel_rfl) (of_decide_eq_true (by kernel_rfl)) k1 hb lt1) trodAll_mk0)), rfl, hb.frame _, fun h => by cases h⟩

theorem laid_met (os : Os) : laidMet Tryz.prog Rows.parseExprsRow.laid ((laidWorld os).forCall (fun _ _ => 0) ⟨#[], #[.string ByteArray.empty, .slice none 0 0], []⟩).memory :=
  laidMet_of_run' 8 (by kernel_rfl) (by kernel_rfl)
theorem reads (os : Os) {H : Type} (enc : TypeId × Value → H) : ∃ places, DataW.whole enc Tryz.prog ((laidWorld os).forCall (fun _ _ => 0) ⟨#[], #[.string ByteArray.empty, .slice none 0 0], []⟩).memory Tryz.f4.params.toList Rows.parseExprsSpec.vars false (#[.string ByteArray.empty, .slice none 0 0] : Array Value).toList 8 = some ([.lit (.string []), .nil], [], places) :=
  ⟨[], by kernel_rfl⟩
set_option maxRecDepth 100000 in
theorem lifted (os : Os) (started : os.Started) (H : Type) (enc : TypeId × Value → H) (F : Stop.Interp) :
    ReturnsInHanded {} Tryz.checked os 4 .any ((OpenSpec.ofChange Rows.parseExprsSpec).preRow enc Tryz.prog Tryz.f4 Rows.parseExprsRow.domain false Rows.parseExprsRow.laid) (((OpenSpec.ofChange Rows.parseExprsSpec).at F).post enc Tryz.prog Tryz.f4 false true false false) := by
  obtain ⟨places, hx⟩ := reads os enc
  refine returnsInHanded_of_row (C := Tryz.checked) (s := OpenSpec.ofChange Rows.parseExprsSpec) own started (by kernel_rfl) Tryz.func4
    (witness_row_at (enc := enc) (C := Tryz.checked) false (laidWorld os) #[.string ByteArray.empty, .slice none 0 0] rfl (by kernel_rfl) (by kernel_rfl) (by kernel_rfl)
      (OpenSpec.preRow_of_cond 8 hx (by kernel_rfl) (fun k hk => by cases hk) (by kernel_rfl) (laid_met os))) ?_
  intro W base args ds gs before hval hW _ _ _ hL _ _
  exact contract H enc W base args ds gs before hval hW hL
theorem said : Rows.ParseExprsSaid :=
  OpenClaim.holds_of_cond 4 Tryz.f4 rfl rfl rfl rfl rfl rfl rfl ⟨rfl, rfl, rfl, rfl, rfl⟩ rfl rfl rfl rfl rfl (by kernel_rfl) Tryz.func4 (by kernel_rfl)
    (of_decide_eq_true (by kernel_rfl)) (by unfold Func.isWrapper; first | (rw [if_pos (by decide +kernel)]; kernel_rfl) | (rw [if_neg (by decide +kernel)]; exact ⟨rfl, rfl⟩))
    (fun os started H enc _ F => by rw [OpenClaim.pre_eq_preRow]; exact lifted os started H enc F)
theorem plain (f : FuncId) (fn : Func) (hf : Tryz.pinned.checked.prog.funcNamed "treadmill/treadmilllaw10.ParseExprs" = some f) (hfn : Tryz.pinned.checked.prog.funcs[f]? = some fn) :
    false = Tryz.pinned.checked.prog.looks [] ∧ ∀ (j : Nat) t, fn.params[j]? = some t → Tryz.pinned.checked.prog.wantsStandIn t = false := by
  obtain rfl : f = 4 := Option.some.inj ((show Tryz.prog.funcNamed "treadmill/treadmilllaw10.ParseExprs" = some 4 by kernel_rfl).symm.trans hf) |>.symm
  obtain rfl : fn = Tryz.f4 := (Option.some.inj (Tryz.func4.symm.trans hfn)).symm
  refine ⟨by kernel_rfl, fun j t ht => ?_⟩
  rw [Tryz.params4] at ht
  have hm : t ∈ [9, 33] := by simpa using Array.mem_of_getElem? ht
  have hall : ([9, 33].all fun u => !Tryz.prog.wantsStandIn u) = true := by kernel_rfl
  exact (show Tryz.prog.wantsStandIn t = false by simpa using List.all_eq_true.1 hall t hm)
/-- The card. -/
theorem card : Rows.ParseExprsCardSaid :=
  Claim7.holds_tied_plain_at .later [] _ _ _ _ said (fun _ h => by cases h) (by kernel_rfl) (fun _ h => by cases h) parseExprs_row_tie rfl ⟨rfl, rfl⟩ (by kernel_rfl) rfl plain (by kernel_rfl)
end ParseExprs
end Go.Proofs.YtlhbhpdpjidpgaaGreatDoor
