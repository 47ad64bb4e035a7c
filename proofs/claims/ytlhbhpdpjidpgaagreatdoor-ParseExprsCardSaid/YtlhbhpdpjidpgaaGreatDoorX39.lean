/-
  A region that draws its order: a store once nothing else may come up; a last operation that yields. No condition.
-/
import Derived.Test.YtlhbhpdpjidpgaaGreatDoorX02
import Derived.Test.YtlhbhpdpjidpgaaGreatDoorX04
import Derived.Test.YtlhbhpdpjidpgaaGreatDoorX30
import Derived.Test.YtlhbhpdpjidpgaaGreatDoorX38
import Derived.Deep.DeepCutAuto
namespace Go.Proofs.YtlhbhpdpjidpgaaGreatDoor.Lex
set_option maxRecDepth 100000
section
variable {P : Program} {ops : Array Oper} {Q : Exit → Act → World → Prop} {md : Region.Mode} {S : World → Prop} {n fuel : Nat} {a : Act} {w w' : World} {oi : Oper} {listed : Array Bool}
theorem AtS.skip (i : Nat) (w' : World) (hi : ops[i]? = some oi) (hr : Region.ready md ops listed = [i]) (hin : i < n) (hw : Region.wanted oi (yielded ops a.tmps) = true)
    (hrun : (execOp a.eval oi).run P w = .ok .skip w') (hS : S w') (h : AtS P md ops Q S n fuel (listed.setIfInBounds i true) (a.put oi.dst undef) w') :
    AtS P md ops Q S n (fuel + 1) listed a w := fun hs hcb inv => by
  refine ⟨fun h0 => (by rw [h0] at hr; cases hr), fun j hj => ?_⟩
  rw [hr] at hj
  obtain rfl : j = i := by simpa using hj
  unfold wpOp
  simp only [hi, hw, if_true]
  refine .inl ?_
  unfold Oper.wp
  rw [hrun]
  simp only [Oper.upon]
  exact ⟨fun _ => hS, h hs hcb (inv.set (by rw [hr]; simp) hin)⟩
theorem at_call (i d : Nat) {f : Nat} {args : Array Value} (hi : ops[i]? = some oi) (hd : oi.dst = some d) (hr : Region.ready md ops listed = [i]) (hin : i < n) (hw : Region.wanted oi (yielded ops a.tmps) = true)
    (hrun : (execOp a.eval oi).run P w = .ok (.enter f args) w) (hc : Calls P f args w fun e w' => ∃ v, e = .returned v ∧ S w' ∧ AtS P md ops Q S n fuel (listed.setIfInBounds i true) (a.put (some d) v) w') :
    AtS P md ops Q S n (fuel + 1) listed a w := AtS.call hi hr hin hw hrun (by rw [hd]; exact hc)
theorem AtS.lastv (i d : Nat) (v : Value) (w' : World) (hi : ops[i]? = some oi) (hd : oi.dst = some d) (hr : Region.ready md ops listed = [i]) (hr2 : Region.ready md ops (listed.setIfInBounds i true) = []) (hni : n ≤ i) (hw : Region.wanted oi (yielded ops a.tmps) = true)
    (hrun : (execOp a.eval oi).run P w = .ok (.value v) w') (h : Q .normal (a.put (some d) v) w') : AtS P md ops Q S n (fuel + 1) listed a w := fun _ _ _ => by
  refine ⟨fun h0 => (by rw [h0] at hr; cases hr), fun j hj => ?_⟩
  rw [hr] at hj
  obtain rfl : j = i := by simpa using hj
  unfold wpOp
  simp only [hi, hw, if_true]
  refine .inl ?_
  unfold Oper.wp
  rw [hrun]
  simp only [Oper.upon, hd]
  refine ⟨fun h => by omega, ?_⟩
  cases fuel with
  | zero => exact ⟨hr2, h⟩
  | succ fuel => exact ⟨fun _ => h, by rw [hr2]; simp⟩
end
end Go.Proofs.YtlhbhpdpjidpgaaGreatDoor.Lex
/- The document's one, where a sign stands, or nothing that is a word. Conditions: the text is not too long; no digit, letter or quote stands there. -/
namespace Go.Proofs.YtlhbhpdpjidpgaaGreatDoor.Lex
open Go.RowKit
open Num (EndsW)
set_option maxRecDepth 100000
set_option linter.unusedSimpArgs false
theorem pre_cut (l s : List UInt8) : s.isPrefixOf l = (decide (s.length ≤ l.length) && (l.take s.length == s)) := by
  rw [Bool.eq_iff_iff]
  simp only [List.isPrefixOf_iff_prefix, Bool.and_eq_true, decide_eq_true_eq, beq_iff_eq]
  constructor
  · intro h
    exact ⟨h.length_le, (List.prefix_iff_eq_take.1 h).symm⟩
  · rintro ⟨_, h⟩
    rw [← h]
    exact List.take_prefix _ _
theorem letter_no {c : UInt8} (hd : dig c = false) (hc : nameB c = false) : letterI (c.toNat : Int) = false := by
  have h := name_split (c.toNat : Int)
  rw [nameI_nat, hc, digI_nat, hd, Bool.or_false] at h
  exact h.symm
theorem word_set {w : World} {b : Nat} {a0 a1 a2 v0 v1 v2 : Value} {T : TypeId} (h : w.heap[b]? = some (.cells #[a0, a1, a2] T (0, 0))) : (((w.setCell ⟨b, 0, none⟩ v0).setCell ⟨b, 1, none⟩ v1).setCell ⟨b, 2, none⟩ v2).heap[b]? = some (.cells #[v0, v1, v2] T (0, 0)) := set_at (set_at (set_at h 0 v0) 1 v1) 2 v2
theorem turn_word (w : World) (b : Nat) (v0 v1 v2 : Value) : Turn [b] w (((w.setCell ⟨b, 0, none⟩ v0).setCell ⟨b, 1, none⟩ v1).setCell ⟨b, 2, none⟩ v2) :=
  (((Turn.refl [b] w).setCell (.inl (by simp)) v0).setCell (.inl (by simp)) v1).setCell (.inl (by simp)) v2
set_option maxHeartbeats 8000000 in
theorem one_sign (S : ByteArray) (i : Nat) (w : World) (hi : i < S.size) (hs : S.size ≤ 1000000) (hd : dig (S[i]'hi) = false) (hc : nameB (S[i]'hi) = false) (hq : (S[i]'hi).toNat ≠ 34) : Calls Tryz.prog 87 #[.string S, .int .i64 i] w (OneE (S.data.toList.drop i) (signS (S.data.toList.drop i) []) w) := by
  have CD := Lib.hid (show Calls Tryz.prog 119 #[.int .u8 ((S[i]'hi).toNat : Int)] (w.alloc (.cells #[.int .i64 0, .string ⟨#[]⟩, .int .i64 0] 73)) (EndsW (.bool false) (w.alloc (.cells #[.int .i64 0, .string ⟨#[]⟩, .int .i64 0] 73))) by have h := rdigit_any ((S[i]'hi).toNat : Int) (w.alloc (.cells #[.int .i64 0, .string ⟨#[]⟩, .int .i64 0] 73)); rw [digI_nat, hd] at h; exact h)
  have CL := Lib.hid (show Calls Tryz.prog 122 #[.int .u8 ((S[i]'hi).toNat : Int)] (w.alloc (.cells #[.int .i64 0, .string ⟨#[]⟩, .int .i64 0] 73)) (EndsW (.bool false) (w.alloc (.cells #[.int .i64 0, .string ⟨#[]⟩, .int .i64 0] 73))) by have h := rletter_any ((S[i]'hi).toNat : Int) (w.alloc (.cells #[.int .i64 0, .string ⟨#[]⟩, .int .i64 0] 73)); rw [letter_no hd hc] at h; exact h)
  have h34 : (((S[i]'hi).toNat : Int) == 34) = false := by rw [beq_eq_false_iff_ne]; omega
  have CS := Lib.hid (signs8_any (w.alloc (.cells #[.int .i64 0, .string ⟨#[]⟩, .int .i64 0] 73)))
  have hsz : (w.alloc (.cells #[.int .i64 0, .string ⟨#[]⟩, .int .i64 0] 73)).heap.size = w.heap.size + 1 := by simp
  have HST : Hid (Strs ((w.alloc (.cells #[.int .i64 0, .string ⟨#[]⟩, .int .i64 0] 73)).alloc (.cells signs8A 9)) (w.heap.size + 1) signs8) := Lib.hid (by have := signs8_strs (w.alloc (.cells #[.int .i64 0, .string ⟨#[]⟩, .int .i64 0] 73)); rw [hsz] at this; exact this)
  have HSB : Hid (((w.alloc (.cells #[.int .i64 0, .string ⟨#[]⟩, .int .i64 0] 73)).alloc (.cells signs8A 9)).heap[w.heap.size + 1]? = some (.cells signs8A 9 (0, 0))) := Lib.hid (by have := heap_alloc_new (w.alloc (.cells #[.int .i64 0, .string ⟨#[]⟩, .int .i64 0] 73)) (.cells signs8A 9 (0, 0)); rw [hsz] at this; exact this)
  have HWB : Hid (((w.alloc (.cells #[.int .i64 0, .string ⟨#[]⟩, .int .i64 0] 73)).alloc (.cells signs8A 9)).heap[w.heap.size]? = some (.cells #[.int .i64 0, .string ⟨#[]⟩, .int .i64 0] 73 (0, 0))) := Lib.hid (by
    have hb : Below (w.alloc (.cells #[.int .i64 0, .string ⟨#[]⟩, .int .i64 0] 73)).heap.size (w.alloc (.cells #[.int .i64 0, .string ⟨#[]⟩, .int .i64 0] 73)) ((w.alloc (.cells #[.int .i64 0, .string ⟨#[]⟩, .int .i64 0] 73)).alloc (.cells signs8A 9)) := (Below.refl _ _).alloc (Nat.le_refl _) _
    exact (hb.block _ (by simp)).trans (heap_alloc_new w _))
  have HBW : Hid (Below w.heap.size w ((w.alloc (.cells #[.int .i64 0, .string ⟨#[]⟩, .int .i64 0] 73)).alloc (.cells signs8A 9))) := Lib.hid (((Below.refl _ w).alloc (Nat.le_refl _) _).alloc (by simp) _)
  rw [hsz] at CS
  obtain ⟨d, hdd⟩ : ∃ d, d = S.size - i := ⟨_, rfl⟩
  have hd2 : (S.size : Int) - (i : Int) = (d : Int) := by omega
  have HD := Lib.hid hdd
  have HLN : Hid ((S.data.toList.drop i).length = d) := Lib.hid (by rw [List.length_drop, len_bytes, hdd])
  clear hd hc hq hsz hdd
  obtain ⟨X, hX⟩ : ∃ X, ((w.alloc (.cells #[.int .i64 0, .string ⟨#[]⟩, .int .i64 0] 73)).alloc (.cells signs8A 9)) = X := ⟨_, rfl⟩
  rw [hX] at HST HSB HWB HBW
  go_enter Tryz.func87, Tryz.ntmps87
  go_wp2_with (first | (go_at_call 119; refine CD.out.mono ?_; rintro e w' ⟨rfl, rfl⟩) | (go_at_call 122; refine CL.out.mono ?_; rintro e w' ⟨rfl, rfl⟩) | (go_at_call 125; refine CS.out.mono ?_; rintro e w' ⟨rfl, rfl⟩; rw [hX]))
  clear CD CL CS h34
  go_loopw [15] (fun kv wr => ∃ k m : Nat, k ≤ 23 ∧ kv = .int .i64 k ∧ wr = X.drewN m ∧ Hid (∀ (j : Nat) (x : List UInt8), signs8[j]? = some x → j < k → x.isPrefixOf (S.data.toList.drop i) = false)) (fun kv _ => 23 - (intOf kv).toNat)
  case atStart => exact ⟨0, 0, by omega, rfl, rfl, Lib.hid (fun j x _ h => absurd h (by omega))⟩
  case round =>
    obtain ⟨k, m, hk, rfl, rfl, hno⟩ := hrel
    have HNO := hno
    clear hno
    by_cases hlt : k < 23
    · obtain ⟨s, hx⟩ : ∃ s, signs8[k]? = some s := ⟨_, List.getElem?_eq_getElem hlt⟩
      have p0 := HST.out k s hx
      have HX := Lib.hid hx
      have HSL : Hid (1 ≤ s.length ∧ s.length ≤ 2) := Lib.hid (signs_len ((signs8_mem s).1 (List.mem_of_getElem? hx)))
      clear hx
      have HPC := Lib.hid (pre_cut (S.data.toList.drop i) s)
      rw [HLN.out] at HPC
      have e2 := bs_toList s
      obtain ⟨z, hz⟩ : ∃ z, s.length = z := ⟨_, rfl⟩
      have hzz : (bs s).size = z := by rw [bs_size, hz]
      rw [hz] at HPC HSL
      have HZ := Lib.hid hz
      clear hz
      by_cases hle : z ≤ d
      · obtain ⟨f, hf⟩ : ∃ f, f = i + z := ⟨_, rfl⟩
        have hf2 : (i : Int) + (z : Int) = (f : Int) := by omega
        have hf3 : i ≤ f := by omega
        have hf4 : f ≤ S.size := by have := HD.out; omega
        obtain ⟨c1, hc1⟩ : ∃ c1, (S.data.toList.drop i).take z = c1 := ⟨_, rfl⟩
        have hcut : S.extract i f = bs c1 := by rw [hf, cut_bs, hc1]
        have e1 := bs_toList c1
        rw [hc1] at HPC
        clear hf hc1
        rcases Bool.eq_false_or_eq_true (c1 == s) with hb | hb
        · have HP : Hid (s.isPrefixOf (S.data.toList.drop i) = true) := Lib.hid (by rw [HPC.out, hb]; simpa using hle)
          have HLG := Lib.hid (first_longest HX.out HP.out HNO.out)
          have HNE : Hid (longest (S.data.toList.drop i) ≠ []) := Lib.hid (by rw [HLG.out]; intro h; have h0 := HZ.out; rw [h] at h0; have := HSL.out; simp at h0; omega)
          obtain ⟨q, hq⟩ : ∃ q, signS (S.data.toList.drop i) [] = q := ⟨_, rfl⟩
          have HE : Hid (q = ⟨0, (S.data.toList.drop i).drop z, [⟨5, s, 0⟩]⟩) := Lib.hid (by rw [← hq, signS_yes HNE.out, HLG.out, HZ.out]; rfl)
          rw [hq]
          clear hq
          have HZD := Lib.hid hle
          clear HP HLG HNE HPC HNO HX
          go_wp2
          go_quiet (fail)
          clear hcut e1 hb hle hf2 hf3 hf4
          go_wp2_with fail
          have HSB0 : Hid (((X.drewN m).drewN nq).drew.heap[w.heap.size + 1]? = some (.cells signs8A 9 (0, 0))) := Lib.hid HSB.out
          have HWB0 : Hid (((X.drewN m).drewN nq).drew.heap[w.heap.size]? = some (.cells #[.int .i64 0, .string ⟨#[]⟩, .int .i64 0] 73 (0, 0))) := Lib.hid HWB.out
          have HBB : Hid (Below w.heap.size w ((X.drewN m).drewN nq).drew) := Lib.hid (HBW.out.trans (⟨rfl, rfl, rfl, Nat.le_refl _, fun _ _ => rfl⟩ : Below w.heap.size X ((X.drewN m).drewN nq).drew))
          have HSC : Hid (∀ u : World, u.heap[w.heap.size + 1]? = some (.cells signs8A 9 (0, 0)) → u.cell? ⟨w.heap.size + 1, k, none⟩ = some (.string (bs s))) := Lib.hid (fun u hu => by
            rw [← p0]
            show u.cell? _ = X.cell? _
            unfold World.cell?
            rw [hu, HSB.out])
          refine AtS.start (by kernel_rfl) 12 (fun u => u.heap[w.heap.size + 1]? = some (.cells signs8A 9 (0, 0))) (by kernel_rfl) (by kernel_rfl) ?_
          generalize ((X.drewN m).drewN nq).drew = u0 at *
          refine at_take 0 146 (.slice (some ⟨w.heap.size + 1, 0, none⟩) 23 23) rfl rfl (by kernel_rfl) (by decide) (by decide) (fun _ _ _ h => h) rfl HSB0.out (fun w' hw' => ?_) ?_
          · exact rfl
          go_frame
          refine at_take 1 147 (.int .i64 k) rfl rfl (by kernel_rfl) (by decide) (by decide) (fun _ _ _ h => h) rfl HSB0.out (fun w' hw' => ?_) ?_
          · exact rfl
          go_frame
          refine at_take 2 148 (.pointer (some ⟨w.heap.size + 1, k, none⟩)) rfl rfl (by kernel_rfl) (by decide) (by decide) (fun _ _ _ h => h) rfl HSB0.out (fun w' hw' => ?_) ?_
          · go_simp
          go_frame
          refine at_take 3 149 (.string (bs s)) rfl rfl (by kernel_rfl) (by decide) (by decide) (fun _ _ _ h => h) rfl HSB0.out (fun w' hw' => ?_) ?_
          · have := HSC.out w' hw'
            go_simp
          go_frame
          refine at_take 4 150 (.agg #[.int .i64 5, .string (bs s), .int .i64 0]) rfl rfl (by kernel_rfl) (by decide) (by decide) (fun _ _ _ h => h) rfl HSB0.out (fun w' hw' => ?_) ?_
          · go_simp
          go_frame
          refine at_take 5 151 (.slice (some ⟨w.heap.size + 1, 0, none⟩) 23 23) rfl rfl (by kernel_rfl) (by decide) (by decide) (fun _ _ _ h => h) rfl HSB0.out (fun w' hw' => ?_) ?_
          · exact rfl
          go_frame
          refine at_take 6 152 (.int .i64 k) rfl rfl (by kernel_rfl) (by decide) (by decide) (fun _ _ _ h => h) rfl HSB0.out (fun w' hw' => ?_) ?_
          · exact rfl
          go_frame
          refine at_take 7 153 (.pointer (some ⟨w.heap.size + 1, k, none⟩)) rfl rfl (by kernel_rfl) (by decide) (by decide) (fun _ _ _ h => h) rfl HSB0.out (fun w' hw' => ?_) ?_
          · go_simp
          go_frame
          refine at_take 8 154 (.string (bs s)) rfl rfl (by kernel_rfl) (by decide) (by decide) (fun _ _ _ h => h) rfl HSB0.out (fun w' hw' => ?_) ?_
          · have := HSC.out w' hw'
            go_simp
          go_frame
          refine at_take 9 155 (.int .i64 z) rfl rfl (by kernel_rfl) (by decide) (by decide) (fun _ _ _ h => h) rfl HSB0.out (fun w' hw' => ?_) ?_
          · go_simp
          go_frame
          have HT := Lib.hid (turn_word u0 w.heap.size (.int .i64 5) (.string (bs s)) (.int .i64 0))
          have c0 := cell_at HWB0.out 0
          have c1 := cell_at HWB0.out 1
          have c2 := cell_at HWB0.out 2
          simp only [List.getElem?_toArray, List.getElem?_cons_succ, List.getElem?_cons_zero] at c0 c1 c2
          have f0 := free_at HWB0.out 0
          have f1 := free_at HWB0.out 1
          have f2 := free_at HWB0.out 2
          refine AtS.skip 10 (((u0.setCell ⟨w.heap.size, 0, none⟩ (.int .i64 5)).setCell ⟨w.heap.size, 1, none⟩ (.string (bs s))).setCell ⟨w.heap.size, 2, none⟩ (.int .i64 0)) rfl (by kernel_rfl) (by decide) rfl ?_ ((HT.out.block _ (lt_of_heap HSB0.out) (by simp)).trans HSB0.out) ?_
          · go_simp
          go_frame
          clear c0 c1 c2 f0 f1 f2
          refine at_run 11 5 (.int .i64 z) _ rfl rfl (by kernel_rfl) (by decide) rfl ?_ ((HT.out.block _ (lt_of_heap HSB0.out) (by simp)).trans HSB0.out) ?_
          · exact rfl
          go_frame
          refine AtS.lastv 12 6 (.int .i64 0) (((u0.setCell ⟨w.heap.size, 0, none⟩ (.int .i64 5)).setCell ⟨w.heap.size, 1, none⟩ (.string (bs s))).setCell ⟨w.heap.size, 2, none⟩ (.int .i64 0)) rfl rfl (by kernel_rfl) (by kernel_rfl) (by decide) rfl ?_ ?_
          · exact rfl
          go_frame
          have HW3 := Lib.hid (word_set (v0 := .int .i64 5) (v1 := .string (bs s)) (v2 := .int .i64 0) HWB0.out)
          have HB3 : Hid (Below w.heap.size w (((u0.setCell ⟨w.heap.size, 0, none⟩ (.int .i64 5)).setCell ⟨w.heap.size, 1, none⟩ (.string (bs s))).setCell ⟨w.heap.size, 2, none⟩ (.int .i64 0))) := Lib.hid ⟨HT.out.os.trans HBB.out.os, HT.out.tape.trans HBB.out.tape, HT.out.output.trans HBB.out.output, Nat.le_trans HBB.out.size HT.out.size, fun b hb => (HT.out.block b (Nat.lt_of_lt_of_le hb HBB.out.size) (by simp; omega)).trans (HBB.out.block b hb)⟩
          generalize ((u0.setCell ⟨w.heap.size, 0, none⟩ (.int .i64 5)).setCell ⟨w.heap.size, 1, none⟩ (.string (bs s))).setCell ⟨w.heap.size, 2, none⟩ (.int .i64 0) = u3 at *
          go_wp2_with fail
          refine bodyPost_ret (results_one rfl _ _ w.heap.size _ _ _ _ _ rfl rfl rfl HW3.out) rfl ?_
          exact ⟨5, bs s, 0, z, by rw [HE.out]; rfl, fun _ => ⟨⟨5, s, 0⟩, by rw [HE.out], rfl, rfl, rfl, by rw [HE.out], by rw [HLN.out]; exact HZD.out⟩, HB3.out⟩
        · have HP : Hid (s.isPrefixOf (S.data.toList.drop i) = false) := Lib.hid (by rw [HPC.out, hb, Bool.and_false])
          go_wp2
          go_quiet (fail)
          go_wp2
          go_roundw
          case rel => exact ⟨k + 1, m + nq, by omega, by go_num, rfl, Lib.hid (fun j y hy hj => by
            by_cases hjk : j = k
            · subst hjk; rw [HX.out] at hy; injection hy with hy; rw [← hy]; exact HP.out
            · exact HNO.out j y hy (by omega))⟩
          case measure => simp [intOf]; omega
      · have HP : Hid (s.isPrefixOf (S.data.toList.drop i) = false) := Lib.hid (by rw [HPC.out, decide_eq_false hle, Bool.false_and])
        go_wp2
        go_quiet (fail)
        go_wp2
        go_roundw
        case rel => exact ⟨k + 1, m + nq, by omega, by go_num, rfl, Lib.hid (fun j y hy hj => by
          by_cases hjk : j = k
          · subst hjk; rw [HX.out] at hy; injection hy with hy; rw [← hy]; exact HP.out
          · exact HNO.out j y hy (by omega))⟩
        case measure => simp [intOf]; omega
    · obtain rfl : k = 23 := by omega
      have HE := Lib.hid (signS_no (ws := []) (none_longest HNO.out))
      have HWB0 : Hid ((X.drewN m).heap[w.heap.size]? = some (.cells #[.int .i64 0, .string ⟨#[]⟩, .int .i64 0] 73 (0, 0))) := Lib.hid HWB.out
      have HBB : Hid (Below w.heap.size w (X.drewN m)) := Lib.hid (HBW.out.trans (⟨rfl, rfl, rfl, Nat.le_refl _, fun _ _ => rfl⟩ : Below w.heap.size X (X.drewN m)))
      generalize X.drewN m = u0 at *
      have c0 := cell_at HWB0.out 0
      have c1 := cell_at HWB0.out 1
      have c2 := cell_at HWB0.out 2
      simp only [List.getElem?_toArray, List.getElem?_cons_succ, List.getElem?_cons_zero] at c0 c1 c2
      have f0 := free_at HWB0.out 0
      have f1 := free_at HWB0.out 1
      have f2 := free_at HWB0.out 2
      have HT := Lib.hid (turn_word u0 w.heap.size (.int .i64 0) (.string ⟨#[]⟩) (.int .i64 0))
      have HW3 := Lib.hid (word_set (v0 := .int .i64 0) (v1 := .string ⟨#[]⟩) (v2 := .int .i64 0) HWB0.out)
      have HB3 : Hid (Below w.heap.size w (((u0.setCell ⟨w.heap.size, 0, none⟩ (.int .i64 0)).setCell ⟨w.heap.size, 1, none⟩ (.string ⟨#[]⟩)).setCell ⟨w.heap.size, 2, none⟩ (.int .i64 0))) := Lib.hid ⟨HT.out.os.trans HBB.out.os, HT.out.tape.trans HBB.out.tape, HT.out.output.trans HBB.out.output, Nat.le_trans HBB.out.size HT.out.size, fun b hb => (HT.out.block b (Nat.lt_of_lt_of_le hb HBB.out.size) (by simp; omega)).trans (HBB.out.block b hb)⟩
      clear hk hlt
      go_wp2_with fail
      refine bodyPost_ret (results_one rfl _ _ w.heap.size _ _ _ _ _ rfl rfl rfl HW3.out) rfl ?_
      exact ⟨_, _, _, 0, by rw [HE.out]; rfl, (fun h => absurd h (by rw [HE.out]; exact fun h => by cases h)), HB3.out⟩
end Go.Proofs.YtlhbhpdpjidpgaaGreatDoor.Lex
/- The document's one, whole; the steps of its Words as plain mathematics. Conditions: sizes. -/
namespace Go.Proofs.YtlhbhpdpjidpgaaGreatDoor.Lex
open Go.RowKit
open Num (EndsW)
set_option maxRecDepth 100000
set_option linter.unusedSimpArgs false
/-- One word, of a text that is not empty, no blank, no line's end, no comment. -/
def oneS (l : List UInt8) : St := match l with
  | [] => ⟨0, [], []⟩
  | c :: r => if dig c = true then numS (c :: r) [] else if nameB c = true then nameS (c :: r) [] else if c.toNat = 34 then textS (c :: r) [] else signS (c :: r) []
theorem one_any (S : ByteArray) (i : Nat) (w : World) (hi : i < S.size) (hs : S.size ≤ 1000000) : Calls Tryz.prog 87 #[.string S, .int .i64 i] w (OneE (S.data.toList.drop i) (oneS (S.data.toList.drop i)) w) := by
  have e : oneS (S.data.toList.drop i) = if dig (S[i]'hi) = true then numS (S.data.toList.drop i) [] else if nameB (S[i]'hi) = true then nameS (S.data.toList.drop i) [] else if (S[i]'hi).toNat = 34 then textS (S.data.toList.drop i) [] else signS (S.data.toList.drop i) [] := by
    rw [drop_at S i hi]
    rfl
  rw [e]
  clear e
  rcases Bool.eq_false_or_eq_true (dig (S[i]'hi)) with hd | hd
  · rw [if_pos hd]
    exact one_num S i w hi hs hd
  rw [if_neg (by simp [hd])]
  rcases Bool.eq_false_or_eq_true (nameB (S[i]'hi)) with hc | hc
  · rw [if_pos hc]
    exact one_name S i w hi hs hd hc
  rw [if_neg (by simp [hc])]
  by_cases hq : (S[i]'hi).toNat = 34
  · rw [if_pos hq]
    exact one_text S i w hi hs hq
  · rw [if_neg hq]
    exact one_sign S i w hi hs hd hc hq
theorem numS_ws (l : List UInt8) (ws : List Wd) : numS l ws = ⟨(numS l []).e, (numS l []).l, ws ++ (numS l []).ws⟩ := by
  unfold numS
  dsimp only
  by_cases h : (Num.readV (l.take (rowN dig l))).2 = true <;> by_cases h2 : l.head? = some 48 <;> simp [h, h2]
theorem nameS_ws (l : List UInt8) (ws : List Wd) : nameS l ws = ⟨(nameS l []).e, (nameS l []).l, ws ++ (nameS l []).ws⟩ := by
  unfold nameS
  dsimp only
  by_cases h : 16 < rowN nameB l <;> simp [h]
theorem textS_ws (l : List UInt8) (ws : List Wd) : textS l ws = ⟨(textS l []).e, (textS l []).l, ws ++ (textS l []).ws⟩ := by
  unfold textS
  split
  · split <;> simp
  · simp
theorem signS_ws (l : List UInt8) (ws : List Wd) : signS l ws = ⟨(signS l []).e, (signS l []).l, ws ++ (signS l []).ws⟩ := by
  unfold signS
  split <;> simp
theorem step_one {c : UInt8} {r : List UInt8} (ws : List Wd) (h1 : c.toNat ≠ 10) (h2 : blank c = false) (h3 : [47, 47].isPrefixOf (c :: r) = false) : step (c :: r) ws = ⟨(oneS (c :: r)).e, (oneS (c :: r)).l, ws ++ (oneS (c :: r)).ws⟩ := by
  unfold step oneS
  dsimp only
  rw [if_neg h1, if_neg (by simp [h2]), if_neg (by simp [h3])]
  split
  · exact numS_ws _ _
  split
  · exact nameS_ws _ _
  split
  · exact textS_ws _ _
  · exact signS_ws _ _
theorem step_nl8 {c : UInt8} (r : List UInt8) (ws : List Wd) (h : c.toNat = 10) : step (c :: r) ws = ⟨0, r, endLn ws⟩ := by
  unfold step
  dsimp only
  rw [if_pos h]
theorem step_bl8 {c : UInt8} (r : List UInt8) (ws : List Wd) (h1 : c.toNat ≠ 10) (h : blank c = true) : step (c :: r) ws = ⟨0, r, ws⟩ := by
  unfold step
  dsimp only
  rw [if_neg h1, if_pos h]
theorem step_co8 {c : UInt8} (r : List UInt8) (ws : List Wd) (h1 : c.toNat ≠ 10) (h2 : blank c = false) (h : [47, 47].isPrefixOf (c :: r) = true) : step (c :: r) ws = ⟨0, (c :: r).drop (rowN notNL (c :: r)), ws⟩ := by
  unfold step
  dsimp only
  rw [if_neg h1, if_neg (by simp [h2]), if_pos h]
theorem one_ok (S : ByteArray) (i : Nat) (w : World) (ws : List Wd) (hi : i < S.size) (hs : S.size ≤ 1000000) (h1 : (S[i]'hi).toNat ≠ 10) (h2 : blank (S[i]'hi) = false) (h3 : [47, 47].isPrefixOf (S.data.toList.drop i) = false) (he : (oneS (S.data.toList.drop i)).e = 0) :
    Calls Tryz.prog 87 #[.string S, .int .i64 i] w fun e w' => ∃ (x : Wd) (n : Nat), e = .returned (.tuple #[.agg #[.int .i64 x.k, .string (bs x.s), .int .i64 x.n], .int .i64 n, .int .i64 0]) ∧ step (S.data.toList.drop i) ws = ⟨0, S.data.toList.drop (i + n), ws ++ [x]⟩ ∧ i < i + n ∧ i + n ≤ S.size ∧ Below w.heap.size w w' := by
  refine (one_any S i w hi hs).mono ?_
  rintro e w' ⟨a, b, c, n, rfl, hq, hb⟩
  obtain ⟨x, hx, rfl, rfl, rfl, hl, hn⟩ := hq he
  rw [List.length_drop, len_bytes] at hn
  have hst : step (S.data.toList.drop i) ws = ⟨0, S.data.toList.drop (i + n), ws ++ [x]⟩ := by
    rw [drop_at S i hi, step_one ws h1 h2 (by rw [← drop_at S i hi]; exact h3), ← drop_at S i hi, he, hl, hx, List.drop_drop]
  have hlt := step_less (S.data.toList.drop i) ws (by rw [drop_at S i hi]; simp) (by rw [hst])
  rw [hst] at hlt
  simp only [List.length_drop, len_bytes] at hlt
  exact ⟨x, n, by rw [he], hst, by omega, by omega, hb⟩
theorem one_bad (S : ByteArray) (i : Nat) (w : World) (E : Int) (hi : i < S.size) (hs : S.size ≤ 1000000) (he : (oneS (S.data.toList.drop i)).e = E) :
    Calls Tryz.prog 87 #[.string S, .int .i64 i] w fun e w' => ∃ (a : Int) (b : ByteArray) (c : Int) (n : Nat), e = .returned (.tuple #[.agg #[.int .i64 a, .string b, .int .i64 c], .int .i64 n, .int .i64 E]) ∧ Below w.heap.size w w' := by
  refine (one_any S i w hi hs).mono ?_
  rintro e w' ⟨a, b, c, n, rfl, hq, hb⟩
  exact ⟨a, b, c, n, by rw [he], hb⟩
theorem step_e (S : ByteArray) (i : Nat) (ws : List Wd) (hi : i < S.size) (h1 : (S[i]'hi).toNat ≠ 10) (h2 : blank (S[i]'hi) = false) (h3 : [47, 47].isPrefixOf (S.data.toList.drop i) = false) : (step (S.data.toList.drop i) ws).e = (oneS (S.data.toList.drop i)).e := by
  rw [drop_at S i hi, step_one ws h1 h2 (by rw [← drop_at S i hi]; exact h3)]
/-- What stands at the loop's head, ahead of the text's end. -/
structure HeadD (w wr : World) (t : List UInt8) (i : Nat) (ws : List Wd) (v : Value) (k : Nat) : Prop where
  own : OwnW wr w.heap.size v ws
  low : Below w.heap.size w wr
  told : run t.length t [] = run k (t.drop i) ws
  fuel : (t.drop i).length ≤ k
  len : ws.length + (t.length - i) ≤ 4096
  good : ∀ x ∈ ws, Good x
  le : i ≤ t.length
/-- Behind it. -/
structure FinD (w wr : World) (t : List UInt8) (i : Nat) (ws : List Wd) (v : Value) : Prop where
  at_ : i = t.length + 1
  own : OwnW wr w.heap.size v (endLn ws)
  low : Below w.heap.size w wr
  told : run t.length t [] = (0, ws)
  len : (endLn ws).length ≤ 5000
def AtD (w wr : World) (t : List UInt8) (i : Nat) (v : Value) : Prop := (∃ ws k, HeadD w wr t i ws v k) ∨ (∃ ws, FinD w wr t i ws v)
section
variable {w wr wr' : World} {t : List UInt8} {i : Nat} {ws : List Wd} {v v' : Value} {k : Nat}
theorem HeadD.next {i' : Nat} {ws' : List Wd} (h : HeadD w wr t i ws v k) (hi : i < t.length) (hs : step (t.drop i) ws = ⟨0, t.drop i', ws'⟩) (h1 : i < i') (h2 : i' ≤ t.length) (ho : OwnW wr' w.heap.size v' ws') (hb : Below w.heap.size w wr') : AtD w wr' t i' v' := by
  have hne : t.drop i ≠ [] := by
    intro e
    have := congrArg List.length e
    rw [List.length_drop] at this
    simp at this
    omega
  have hf := h.fuel
  rw [List.length_drop] at hf
  obtain ⟨k', rfl⟩ : ∃ k', k = k' + 1 := ⟨k - 1, by omega⟩
  have hl := step_ws (t.drop i) ws
  have hg := step_keeps (t.drop i) ws h.good
  have hn := h.len
  rw [hs] at hl hg
  dsimp only at hl hg
  refine .inl ⟨ws', k', ho, hb, ?_, by rw [List.length_drop]; omega, by omega, hg, h2⟩
  rw [h.told, run_go hne (by rw [hs]), hs]
theorem HeadD.bad {e : Int} (h : HeadD w wr t i ws v k) (hi : i < t.length) (hs : (step (t.drop i) ws).e = e) (he : e ≠ 0) : run t.length t [] = (e, []) := by
  have hne : t.drop i ≠ [] := by
    intro e
    have := congrArg List.length e
    rw [List.length_drop] at this
    simp at this
    omega
  have hf := h.fuel
  rw [List.length_drop] at hf
  obtain ⟨k', rfl⟩ : ∃ k', k = k' + 1 := ⟨k - 1, by omega⟩
  rw [h.told, run_stop hne (by rw [hs]; exact he), hs]
theorem HeadD.fin (h : HeadD w wr t i ws v k) (hi : i = t.length) (ho : OwnW wr' w.heap.size v' (endLn ws)) (hb : Below w.heap.size w wr') : AtD w wr' t (i + 1) v' := by
  refine .inr ⟨ws, by omega, ho, hb, ?_, by have := (endLn_len ws).2; have := h.len; omega⟩
  rw [h.told, hi, List.drop_length, run_nil]
/-- A line's end, or the text's. -/
theorem HeadD.line (h : HeadD w wr t i ws v k) (hi : i = t.length ∨ ∃ r c, t.drop i = c :: r ∧ c.toNat = 10) (ho : OwnW wr' w.heap.size v' (endLn ws)) (hb : Below w.heap.size w wr') : AtD w wr' t (i + 1) v' := by
  rcases hi with hi | ⟨r, c, e, hc⟩
  · exact h.fin hi ho hb
  · have hlt : i < t.length := by
      have := congrArg List.length e
      rw [List.length_drop] at this
      simp at this
      omega
    have e2 : t.drop (i + 1) = r := by
      rw [← List.drop_drop, e]
      rfl
    exact h.next hlt (by rw [e, step_nl8 r ws hc, e2]) (by omega) (by omega) ho hb
theorem HeadD.below (h : HeadD w wr t i ws v k) (hb : Below wr.heap.size wr wr') : HeadD w wr' t i ws v k :=
  ⟨h.own.keep fun g hg => hb.block g (h.own.lt g hg).2, h.low.trans (hb.mono h.low.size), h.told, h.fuel, h.len, h.good, h.le⟩
end
end Go.Proofs.YtlhbhpdpjidpgaaGreatDoor.Lex
