/-
  Texts DCrash, JKnows, JNil, in one file. What each proves, and its conditions, stand at its head below.
-/
import Derived.Test.YtgjdgmpjbpnjbaaK10
import Derived.Lib.SlBytesConst
/-
  What the program's Crash does. Condition: the disk and the fates are known.
-/
namespace Go.Proofs.Ytgjdgmpjbpnjbaa.Disk
open Go.RowKit Go.Maps
set_option maxRecDepth 100000
theorem run_exec_load (w : World) (b off : Nat) (s : List UInt8) (o : Oper) {ρ : Operand → Value} {x : Operand} (hs : s.length = 64) (hr : w.rangeAt b off (cel s)) (ho : o.op = .load 69 x) (hx : ρ x = .pointer (some ⟨b, off, none⟩)) :
    (execOp ρ o).run Try.prog w = .ok (.value (.agg (cel s).toArray)) w := by
  unfold execOp
  simp only [ho, hx, Sem.run_bind, Sem.run_pure, Result.andThen_ok, run_load49 w b off s hs hr]
theorem run_exec_look (w : World) (v : Value) (gm i : Nat) {o : Oper} {ρ : Operand → Value} {x y : Operand} (hr : (Instr.lookup 55 (.map (some gm)) (.int .i64 i) false).run Try.prog w = .ok v w) (ho : o.op = Op.lookup 55 x y false) (hx : ρ x = .map (some gm)) (hy : ρ y = .int .i64 i) :
    (execOp ρ o).run Try.prog w = .ok (.value v) w := by
  unfold execOp
  simp only [ho, hx, hy, Sem.run_bind, Sem.run_pure, Result.andThen_ok, hr]
theorem run_exec_store (w : World) (b off : Nat) (s : List UInt8) {o : Oper} {ρ : Operand → Value} {x y : Operand} (ht : w.there b off 64) (hs : s.length = 64) (ho : o.op = .store 69 x y) (hx : ρ x = .pointer (some ⟨b, off, none⟩)) (hy : ρ y = .agg (cel s).toArray) :
    (execOp ρ o).run Try.prog w = .ok .skip (w.setCells b off (cel s)) := by
  have hc : (cel s).toArray.size = 64 := by rw [List.size_toArray, cel_length, hs]
  have e := run_storeAt_mid (P := Try.prog) w b off 69 (cel s).toArray (hc ▸ ht) (hc ▸ size49) (cel_all s)
  unfold execOp
  simp only [ho, hx, hy, Sem.run_bind, Sem.run_pure, Result.andThen_ok, e]
theorem waiting_nums (w : World) (g gs gm : Nat) (d : Dsk) (h : Dk w g gs gm d) : Calls Try.prog 34 #[ptr g] w fun e w' => ∃ A c, e = .returned (.slice A (waitsOf d.n d.waits).length c) ∧
    Nums w' [g, gs, gm] A (waitsOf d.n d.waits).length ((waitsOf d.n d.waits).map fun k : Nat => (k : Int)) ∧ Below w.heap.size w w' := by
  refine (waiting_disk w g gs gm d h).mono ?_
  rintro e w' ⟨v, rfl, hrow, hb⟩
  obtain ⟨A, c, rfl, hN⟩ := listed_nums hrow (S := [g, gs, gm]) (by
    have h1 := h.lt
    have h2 := h.sf.1
    have h3 := h.ltm
    intro k hk
    simp at hk
    rcases hk with rfl | rfl | rfl <;> assumption)
  exact ⟨A, c, rfl, hN, hb⟩
theorem crash_none (w : World) (p v : Value) (h : Nobody w p) : Calls Try.prog 16 #[p, v] w (Ends (.tuple #[]) w) := by
  have HM := Lib.hid (made_none w p h)
  clear h
  go_enter Try.func16, Try.ntmps16
  go_wp2_with fail
  refine HM.out.mono ?_
  rintro e w1 ⟨rfl, rfl⟩
  go_wp2
  go_end0
  exact ⟨rfl, rfl⟩
/-- What a round of the crash has done. -/
theorem crash_step {d : Dsk} {fs : List Int} {k i : Nat} {s : List UInt8} (hi : (waitsOf d.n d.waits).getD k 0 = i) (hf : d.waits i = some s) (j : Nat) :
    upd (crashS d fs k) i (surv (fs.getD k 0) (crashS d fs k i) s) j = crashS d fs (k + 1) j := by
  show _ = upd (crashS d fs k) ((waitsOf d.n d.waits).getD k 0) _ j
  simp only [hi, hf, Option.getD_some]
set_option maxHeartbeats 4000000 in
theorem crash_disk (w : World) (g gs gm : Nat) (d : Dsk) (h : Dk w g gs gm d) (A : Option Addr) (n c : Nat) (fs : List Int) (hN : Nums w [g, gs, gm] A n fs) :
    Calls Try.prog 16 #[ptr g, .slice A n c] w (Now (.tuple #[]) w g gs gm (d.crash fs)) := by
  have HM := Lib.hid (made_disk w g gs gm d h)
  have HWT := Lib.hid (waiting_nums w g gs gm d h)
  have HD := Lib.hid h
  have HN := Lib.hid hN
  have hm65 : (waitsOf d.n d.waits).length ≤ 65536 := by have := waitsOf_length d.n d.waits; have := h.ok.2.1; omega
  have HLEN : Hid (∀ k, k < (waitsOf d.n d.waits).length → ∃ i s, (waitsOf d.n d.waits).getD k 0 = i ∧ ((waitsOf d.n d.waits).map fun k : Nat => (k : Int)).getD k 0 = (i : Int) ∧ i < d.n ∧ d.waits i = some s) := Lib.hid fun k hk => by
    have hmem : (waitsOf d.n d.waits).getD k 0 ∈ waitsOf d.n d.waits := by
      rw [List.getD_eq_getElem?_getD, List.getElem?_eq_getElem hk]
      exact List.getElem_mem _
    obtain ⟨h1, h2⟩ := waitsOf_mem.1 hmem
    obtain ⟨s, hs⟩ := Option.isSome_iff_exists.1 h2
    refine ⟨_, s, rfl, ?_, h1, hs⟩
    simp [List.getD_eq_getElem?_getD, hk]
  clear h hN
  unfold ptr at HM HWT ⊢
  obtain ⟨m, hm⟩ : ∃ m, m = (waitsOf d.n d.waits).length := ⟨_, rfl⟩
  rw [← hm] at HWT hm65 HLEN
  have HMM := Lib.hid hm
  clear hm
  go_enter Try.func16, Try.ntmps16
  go_wp2_with fail
  refine HM.out.mono ?_
  rintro e w0 ⟨rfl, rfl⟩
  go_wp2_with fail
  refine HWT.out.mono ?_
  rintro e w1 ⟨A1, c1, rfl, hN1, hb⟩
  have HN1 := Lib.hid hN1
  have HT1 := Lib.hid (Turn.ofBelow (S := []) hb)
  clear hN1 hb
  go_wp2_with fail
  go_loopw [13] (fun p wr => ∃ k : Nat, k ≤ m ∧ p = .int .i64 k ∧ Sf wr gs d.n (crashS d fs k) ∧ Turn [gs] w1 wr) (fun p _ => m - (Go.RowKit.intOf p).toNat)
  case atStart =>
    have hdk := HD.out
    exact ⟨0, Nat.zero_le _, rfl, hdk.sf.keep (HT1.out.block gs hdk.sf.1 (by simp)) HT1.out.size, Turn.refl _ _⟩
  case round =>
    obtain ⟨k, hk, rfl, hsf, htr⟩ := hrel
    obtain ⟨wo, rfl⟩ : ∃ wo : World, wo = wr := ⟨_, rfl⟩
    have HSF := Lib.hid hsf
    have HTR := Lib.hid htr
    have eg : wo.heap[g]? = w.heap[g]? := (htr.block g (Nat.lt_of_lt_of_le HD.out.lt HT1.out.size) (by simp; exact HD.out.ne)).trans (HT1.out.block g HD.out.lt (by simp))
    have em : wo.heap[gm]? = w.heap[gm]? := (htr.block gm (Nat.lt_of_lt_of_le HD.out.ltm HT1.out.size) (by simp; exact fun e => HD.out.nes e.symm)).trans (HT1.out.block gm HD.out.ltm (by simp))
    obtain ⟨z0, hz0⟩ := HD.out.six
    have hz : Six wo g gs gm d.n d.off d.stops d.left z0 := eg.trans hz0
    have HZ := Lib.hid hz
    have HMP := Lib.hid (HD.out.mp.keep em)
    clear hsf htr eg em hz0
    by_cases hkm : k < m
    · obtain ⟨i, s, hgi, hgz, hi, hf⟩ := HLEN.out k hkm
      obtain ⟨b1, o1, hl1⟩ := HN1.out.lies hkm
      rw [hgz] at hl1
      have hidx1 := hl1.2.2.1
      have cz : wo.cell? ⟨b1, o1, none⟩ = some (.int .i64 i) := hl1.turn (HTR.out.more (S' := [g, gs, gm]) (by simp))
      have i0 : (0 : Int) ≤ i := by omega
      have i1 : (i : Int) < d.n := by omega
      have k0 : (k : Int) < m := by omega
      have HI := Lib.hid hi
      have HF := Lib.hid hf
      have HGI := Lib.hid hgi
      have HA := Lib.hid (crashS_length HD.out.ok fs k (by rw [← HMM.out]; exact hk) i hi)
      have HSL := Lib.hid (HD.out.ok.2.2.2.1 i s hf).2
      have HKM := Lib.hid hkm
      have c0 := hz.c0
      have c1' := hz.c1
      clear hgi hgz hi hf hl1 hz hkm
      by_cases hkn : k < n
      · obtain ⟨b2, o2, hl2⟩ := (HN.out.turn HT1.out (by simp)).lies hkn
        have hidx2 := hl2.2.2.1
        have cf : wo.cell? ⟨b2, o2, none⟩ = some (.int .i64 (fs.getD k 0)) := hl2.turn (HTR.out.more (S' := [g, gs, gm]) (by simp))
        have k1 : (k : Int) < n := by omega
        have HFE : Hid (fs.getD k 0 = fs.getD k 0) := Lib.hid rfl
        generalize hfate : fs.getD k 0 = fate at cf
        have HFT := Lib.hid hfate
        clear hl2 hkn hfate HFE
        go_upto_region 7 with fail
        have HS : Hid (wo.drew.cell? ⟨g, 0, none⟩ = some (.slice (some ⟨gs, 0, none⟩) d.n d.n) ∧ wo.drew.cell? ⟨g, 1, none⟩ = some (.map (some gm)) ∧ wo.drew.rangeAt gs (i * 64) (cel (crashS d fs k i)) ∧ Mp wo.drew gm d.n d.waits) :=
          Lib.hid ⟨c0, c1', (World.rangeAt_drew _ _ _ _).2 (HSF.out.2.2 i HI.out), HMP.out.keep rfl⟩
        have H3 := Lib.hid HD.out.ok.2.1
        generalize ha : crashS d fs k i = a at HS HA
        have HAE := Lib.hid ha
        clear ha
        refine AtS.head 19 21 3 (fun w' => w'.cell? ⟨g, 0, none⟩ = some (.slice (some ⟨gs, 0, none⟩) d.n d.n) ∧ w'.cell? ⟨g, 1, none⟩ = some (.map (some gm)) ∧ w'.rangeAt gs (i * 64) (cel a) ∧ Mp w' gm d.n d.waits) (by kernel_rfl) (by kernel_rfl) (fun _ _ dd _ _ h => by cases dd <;> exact h) HS.out (fun K hK => ?_)
        have HK := Lib.hid hK
        clear hK
        simp only [List.take_succ_cons, List.take_zero]
        refine heldL.step (.pointer (some ⟨g, 0, none⟩)) rfl (fun w' hw' => ?_) ?_
        · skip
          exact rfl
        go_frame
        refine heldL.step (.pointer (some ⟨g, 0, none⟩)) rfl (fun w' hw' => ?_) ?_
        · skip
          obtain ⟨h0, h1, h2, h3⟩ := hw'
          go_simp
        go_frame
        refine heldL.step (.pointer (some ⟨g, 0, none⟩)) rfl (fun w' hw' => ?_) ?_
        · skip
          obtain ⟨h0, h1, h2, h3⟩ := hw'
          go_simp
        go_frame
        refine heldL.step (.slice (some ⟨gs, 0, none⟩) d.n d.n) rfl (fun w' hw' => ?_) ?_
        · skip
          obtain ⟨h0, h1, h2, h3⟩ := hw'
          go_simp
        go_frame
        refine heldL.step (.int .i64 i) rfl (fun w' hw' => ?_) ?_
        · skip
          exact rfl
        go_frame
        refine heldL.step (.int .i64 fate) rfl (fun w' hw' => ?_) ?_
        · skip
          exact rfl
        go_frame
        refine heldL.step (.pointer (some ⟨g, 0, none⟩)) rfl (fun w' hw' => ?_) ?_
        · skip
          exact rfl
        go_frame
        refine heldL.step (.pointer (some ⟨g, 0, none⟩)) rfl (fun w' hw' => ?_) ?_
        · skip
          obtain ⟨h0, h1, h2, h3⟩ := hw'
          go_simp
        go_frame
        refine heldL.step (.pointer (some ⟨g, 0, none⟩)) rfl (fun w' hw' => ?_) ?_
        · skip
          obtain ⟨h0, h1, h2, h3⟩ := hw'
          go_simp
        go_frame
        refine heldL.step (.slice (some ⟨gs, 0, none⟩) d.n d.n) rfl (fun w' hw' => ?_) ?_
        · skip
          obtain ⟨h0, h1, h2, h3⟩ := hw'
          go_simp
        go_frame
        refine heldL.step (.int .i64 i) rfl (fun w' hw' => ?_) ?_
        · skip
          exact rfl
        go_frame
        refine heldL.step (.pointer (some ⟨gs, i * 64, none⟩)) rfl (fun w' hw' => ?_) ?_
        · skip
          obtain ⟨h0, h1, h2, h3⟩ := hw'
          go_simp
        go_frame
        refine heldL.step (.agg (cel a).toArray) rfl (fun w' hw' => ?_) ?_
        · skip
          obtain ⟨h0, h1, h2, h3⟩ := hw'
          exact run_exec_load _ _ _ _ _ HA.out h2 rfl rfl
        go_frame
        refine heldL.step (.pointer (some ⟨g, 0, none⟩)) rfl (fun w' hw' => ?_) ?_
        · skip
          exact rfl
        go_frame
        refine heldL.step (.pointer (some ⟨g, 0, none⟩)) rfl (fun w' hw' => ?_) ?_
        · skip
          obtain ⟨h0, h1, h2, h3⟩ := hw'
          go_simp
        go_frame
        refine heldL.step (.pointer (some ⟨g, 1, none⟩)) rfl (fun w' hw' => ?_) ?_
        · skip
          obtain ⟨h0, h1, h2, h3⟩ := hw'
          go_simp
        go_frame
        refine heldL.step (.map (some gm)) rfl (fun w' hw' => ?_) ?_
        · skip
          obtain ⟨h0, h1, h2, h3⟩ := hw'
          go_simp
        go_frame
        refine heldL.step (.int .i64 i) rfl (fun w' hw' => ?_) ?_
        · skip
          exact rfl
        go_frame
        refine heldL.step (.agg (cel s).toArray) rfl (fun w' hw' => ?_) ?_
        · skip
          obtain ⟨h0, h1, h2, h3⟩ := hw'
          exact run_exec_look _ _ _ _ (look_sec w' gm d.n d.waits i s HI.out H3.out HF.out h3) rfl rfl rfl
        go_frame
        refine HK.out _ ?_
        clear HK
        have hrl := surv_length fate HA.out HSL.out
        generalize hrr : surv fate a s = r at hrl
        have HRL := Lib.hid hrl
        have HRR := Lib.hid hrr
        clear hrl hrr
        have HG := Lib.hid (lt_of_heap HZ.out)
        have HMLT := Lib.hid HMP.out.lt
        have HCA := Lib.hid (survivor_any wo.drew fate a s HA.out HSL.out)
        rw [HRR.out] at HCA
        refine AtS.call (i := 19) (f := 35) (args := #[.int .i64 fate, .agg (cel a).toArray, .agg (cel s).toArray]) rfl (by kernel_rfl) (by decide) rfl ?_ ?_
        · go_simp
        refine HCA.out.mono ?_
        rintro e w5 ⟨rfl, hb5⟩
        have e0 : w5.heap[g]? = wo.heap[g]? := hb5.block g HG.out
        have es : w5.heap[gs]? = wo.heap[gs]? := hb5.block gs HSF.out.1
        have em : w5.heap[gm]? = wo.heap[gm]? := hb5.block gm HMLT.out
        have HS5 : Hid (w5.cell? ⟨g, 0, none⟩ = some (.slice (some ⟨gs, 0, none⟩) d.n d.n) ∧ w5.cell? ⟨g, 1, none⟩ = some (.map (some gm)) ∧ w5.rangeAt gs (i * 64) (cel a) ∧ Mp w5 gm d.n d.waits) :=
          Lib.hid ⟨(World.cell?_of_block (w := wo) e0).trans c0, (World.cell?_of_block (w := wo) e0).trans c1', rangeAt_keep HS.out.2.2.1 es, HMP.out.keep em⟩
        have HSF5 := Lib.hid (HSF.out.keep es hb5.size)
        have HB5 := Lib.hid hb5
        clear hb5 e0 es em
        refine ⟨_, rfl, HS5.out, ?_⟩
        go_frame
        refine AtS.take (i := 20) (v := .pointer (some ⟨gs, i * 64, none⟩)) rfl (by kernel_rfl) (by kernel_rfl) (by kernel_rfl) (by decide) (by decide) (fun _ _ _ h => h) rfl (fun w' hw' => ?_) HS5.out ?_
        · obtain ⟨h0, h1, h2, h3⟩ := hw'
          go_simp
        go_frame
        refine AtS.last (i := 21) rfl (by kernel_rfl) (by kernel_rfl) (by decide) rfl (run_exec_store w5 gs (i * 64) r (HSF5.out.at_ HI.out) HRL.out rfl rfl rfl) ?_
        go_frame
        have HNX : Hid (Sf (w5.setCells gs (i * 64) (cel r)) gs d.n (crashS d fs (k + 1)) ∧ Turn [gs] w1 (w5.setCells gs (i * 64) (cel r))) := Lib.hid ⟨(HSF5.out.set (fun j hj => crashS_length HD.out.ok fs k (by rw [← HMM.out]; exact hk) j hj) HI.out HRL.out).same fun j _ => by
            rw [← crash_step HGI.out HF.out, HFT.out, HAE.out, HRR.out], ((HTR.out.drew.below HB5.out).setCells (by simp) _ _)⟩
        have HK1 := Lib.hid hk
        generalize w5.setCells gs (i * 64) (cel r) = w6 at HNX
        go_wp2_with fail
        go_roundw
        case rel => exact ⟨k + 1, by have := HKM.out; omega, by go_num, HNX.out⟩
        case measure => simp [Go.RowKit.intOf]; omega
      · have HFT : Hid (fs.getD k 0 = 0) := Lib.hid (by
          have := HN.out.1
          rw [List.getD_eq_getElem?_getD, List.getElem?_eq_none (by omega)]
          rfl)
        have k1 : (n : Int) ≤ k := by omega
        clear hkn
        go_upto_region 7 with fail
        have HS : Hid (wo.drew.cell? ⟨g, 0, none⟩ = some (.slice (some ⟨gs, 0, none⟩) d.n d.n) ∧ wo.drew.cell? ⟨g, 1, none⟩ = some (.map (some gm)) ∧ wo.drew.rangeAt gs (i * 64) (cel (crashS d fs k i)) ∧ Mp wo.drew gm d.n d.waits) :=
          Lib.hid ⟨c0, c1', (World.rangeAt_drew _ _ _ _).2 (HSF.out.2.2 i HI.out), HMP.out.keep rfl⟩
        have H3 := Lib.hid HD.out.ok.2.1
        generalize ha : crashS d fs k i = a at HS HA
        have HAE := Lib.hid ha
        clear ha
        refine AtS.head 19 21 3 (fun w' => w'.cell? ⟨g, 0, none⟩ = some (.slice (some ⟨gs, 0, none⟩) d.n d.n) ∧ w'.cell? ⟨g, 1, none⟩ = some (.map (some gm)) ∧ w'.rangeAt gs (i * 64) (cel a) ∧ Mp w' gm d.n d.waits) (by kernel_rfl) (by kernel_rfl) (fun _ _ dd _ _ h => by cases dd <;> exact h) HS.out (fun K hK => ?_)
        have HK := Lib.hid hK
        clear hK
        simp only [List.take_succ_cons, List.take_zero]
        refine heldL.step (.pointer (some ⟨g, 0, none⟩)) rfl (fun w' hw' => ?_) ?_
        · skip
          exact rfl
        go_frame
        refine heldL.step (.pointer (some ⟨g, 0, none⟩)) rfl (fun w' hw' => ?_) ?_
        · skip
          obtain ⟨h0, h1, h2, h3⟩ := hw'
          go_simp
        go_frame
        refine heldL.step (.pointer (some ⟨g, 0, none⟩)) rfl (fun w' hw' => ?_) ?_
        · skip
          obtain ⟨h0, h1, h2, h3⟩ := hw'
          go_simp
        go_frame
        refine heldL.step (.slice (some ⟨gs, 0, none⟩) d.n d.n) rfl (fun w' hw' => ?_) ?_
        · skip
          obtain ⟨h0, h1, h2, h3⟩ := hw'
          go_simp
        go_frame
        refine heldL.step (.int .i64 i) rfl (fun w' hw' => ?_) ?_
        · skip
          exact rfl
        go_frame
        refine heldL.step (.int .i64 0) rfl (fun w' hw' => ?_) ?_
        · skip
          exact rfl
        go_frame
        refine heldL.step (.pointer (some ⟨g, 0, none⟩)) rfl (fun w' hw' => ?_) ?_
        · skip
          exact rfl
        go_frame
        refine heldL.step (.pointer (some ⟨g, 0, none⟩)) rfl (fun w' hw' => ?_) ?_
        · skip
          obtain ⟨h0, h1, h2, h3⟩ := hw'
          go_simp
        go_frame
        refine heldL.step (.pointer (some ⟨g, 0, none⟩)) rfl (fun w' hw' => ?_) ?_
        · skip
          obtain ⟨h0, h1, h2, h3⟩ := hw'
          go_simp
        go_frame
        refine heldL.step (.slice (some ⟨gs, 0, none⟩) d.n d.n) rfl (fun w' hw' => ?_) ?_
        · skip
          obtain ⟨h0, h1, h2, h3⟩ := hw'
          go_simp
        go_frame
        refine heldL.step (.int .i64 i) rfl (fun w' hw' => ?_) ?_
        · skip
          exact rfl
        go_frame
        refine heldL.step (.pointer (some ⟨gs, i * 64, none⟩)) rfl (fun w' hw' => ?_) ?_
        · skip
          obtain ⟨h0, h1, h2, h3⟩ := hw'
          go_simp
        go_frame
        refine heldL.step (.agg (cel a).toArray) rfl (fun w' hw' => ?_) ?_
        · skip
          obtain ⟨h0, h1, h2, h3⟩ := hw'
          exact run_exec_load _ _ _ _ _ HA.out h2 rfl rfl
        go_frame
        refine heldL.step (.pointer (some ⟨g, 0, none⟩)) rfl (fun w' hw' => ?_) ?_
        · skip
          exact rfl
        go_frame
        refine heldL.step (.pointer (some ⟨g, 0, none⟩)) rfl (fun w' hw' => ?_) ?_
        · skip
          obtain ⟨h0, h1, h2, h3⟩ := hw'
          go_simp
        go_frame
        refine heldL.step (.pointer (some ⟨g, 1, none⟩)) rfl (fun w' hw' => ?_) ?_
        · skip
          obtain ⟨h0, h1, h2, h3⟩ := hw'
          go_simp
        go_frame
        refine heldL.step (.map (some gm)) rfl (fun w' hw' => ?_) ?_
        · skip
          obtain ⟨h0, h1, h2, h3⟩ := hw'
          go_simp
        go_frame
        refine heldL.step (.int .i64 i) rfl (fun w' hw' => ?_) ?_
        · skip
          exact rfl
        go_frame
        refine heldL.step (.agg (cel s).toArray) rfl (fun w' hw' => ?_) ?_
        · skip
          obtain ⟨h0, h1, h2, h3⟩ := hw'
          exact run_exec_look _ _ _ _ (look_sec w' gm d.n d.waits i s HI.out H3.out HF.out h3) rfl rfl rfl
        go_frame
        refine HK.out _ ?_
        clear HK
        have hrl := surv_length 0 HA.out HSL.out
        generalize hrr : surv 0 a s = r at hrl
        have HRL := Lib.hid hrl
        have HRR := Lib.hid hrr
        clear hrl hrr
        have HG := Lib.hid (lt_of_heap HZ.out)
        have HMLT := Lib.hid HMP.out.lt
        have HCA := Lib.hid (survivor_any wo.drew 0 a s HA.out HSL.out)
        rw [HRR.out] at HCA
        refine AtS.call (i := 19) (f := 35) (args := #[.int .i64 0, .agg (cel a).toArray, .agg (cel s).toArray]) rfl (by kernel_rfl) (by decide) rfl ?_ ?_
        · go_simp
        refine HCA.out.mono ?_
        rintro e w5 ⟨rfl, hb5⟩
        have e0 : w5.heap[g]? = wo.heap[g]? := hb5.block g HG.out
        have es : w5.heap[gs]? = wo.heap[gs]? := hb5.block gs HSF.out.1
        have em : w5.heap[gm]? = wo.heap[gm]? := hb5.block gm HMLT.out
        have HS5 : Hid (w5.cell? ⟨g, 0, none⟩ = some (.slice (some ⟨gs, 0, none⟩) d.n d.n) ∧ w5.cell? ⟨g, 1, none⟩ = some (.map (some gm)) ∧ w5.rangeAt gs (i * 64) (cel a) ∧ Mp w5 gm d.n d.waits) :=
          Lib.hid ⟨(World.cell?_of_block (w := wo) e0).trans c0, (World.cell?_of_block (w := wo) e0).trans c1', rangeAt_keep HS.out.2.2.1 es, HMP.out.keep em⟩
        have HSF5 := Lib.hid (HSF.out.keep es hb5.size)
        have HB5 := Lib.hid hb5
        clear hb5 e0 es em
        refine ⟨_, rfl, HS5.out, ?_⟩
        go_frame
        refine AtS.take (i := 20) (v := .pointer (some ⟨gs, i * 64, none⟩)) rfl (by kernel_rfl) (by kernel_rfl) (by kernel_rfl) (by decide) (by decide) (fun _ _ _ h => h) rfl (fun w' hw' => ?_) HS5.out ?_
        · obtain ⟨h0, h1, h2, h3⟩ := hw'
          go_simp
        go_frame
        refine AtS.last (i := 21) rfl (by kernel_rfl) (by kernel_rfl) (by decide) rfl (run_exec_store w5 gs (i * 64) r (HSF5.out.at_ HI.out) HRL.out rfl rfl rfl) ?_
        go_frame
        have HNX : Hid (Sf (w5.setCells gs (i * 64) (cel r)) gs d.n (crashS d fs (k + 1)) ∧ Turn [gs] w1 (w5.setCells gs (i * 64) (cel r))) := Lib.hid ⟨(HSF5.out.set (fun j hj => crashS_length HD.out.ok fs k (by rw [← HMM.out]; exact hk) j hj) HI.out HRL.out).same fun j _ => by
            rw [← crash_step HGI.out HF.out, HFT.out, HAE.out, HRR.out], ((HTR.out.drew.below HB5.out).setCells (by simp) _ _)⟩
        have HK1 := Lib.hid hk
        generalize w5.setCells gs (i * 64) (cel r) = w6 at HNX
        go_wp2_with fail
        go_roundw
        case rel => exact ⟨k + 1, by have := HKM.out; omega, by go_num, HNX.out⟩
        case measure => simp [Go.RowKit.intOf]; omega
    · obtain rfl : k = m := by omega
      have c1' := hz.c1
      have HMP2 := HMP
      clear hz hkm hk
      go_wp2_with (first
        | ((with_reducible refine wpList_clear wo gm d.n d.waits HMP.out ?_ ?_); exact ⟨rfl, _, rfl, rfl⟩; intro w4 hm4 hg4; have HQ := Lib.hid (And.intro hm4 hg4); have hz4 : Six w4 g gs gm d.n d.off d.stops d.left z0 := (hg4.block g (lt_of_heap HZ.out) (by simp; exact HD.out.nem)).trans HZ.out; have HZ4 := Lib.hid hz4; have d2 := hz4.c2; have d3 := hz4.c3; have d4 := hz4.c4; have f2 := hz4.f 2; have f3 := hz4.f 3; have f4 := hz4.f 4; clear hm4 hg4 hz4)
        | go_in)
      go_end0
      have hdk := HD.out
      obtain ⟨hm4, hg4⟩ := HQ.out
      have htw : Turn [g] w4 (((w4.setCell ⟨g, 2, none⟩ (.bool false)).setCell ⟨g, 3, none⟩ (.bool false)).setCell ⟨g, 4, none⟩ (.int .i64 0)) := (((Turn.refl _ _).setCell (by simp) _).setCell (by simp) _).setCell (by simp) _
      have hsix : Six (((w4.setCell ⟨g, 2, none⟩ (.bool false)).setCell ⟨g, 3, none⟩ (.bool false)).setCell ⟨g, 4, none⟩ (.int .i64 0)) g gs gm d.n false false 0 z0 := ((HZ4.out.set2 false).set3 false).set4 0
      have hsf4 : Sf w4 gs d.n (crashS d fs k) := HSF.out.keep (hg4.block gs HSF.out.1 (by simp; exact hdk.nes)) hg4.size
      generalize ((w4.setCell ⟨g, 2, none⟩ (.bool false)).setCell ⟨g, 3, none⟩ (.bool false)).setCell ⟨g, 4, none⟩ (.int .i64 0) = w5 at htw hsix
      refine ⟨rfl, ⟨Dsk.crash_ok hdk.ok fs, hdk.ne, ⟨z0, hsix⟩, ?_, hm4.keep (htw.block gm hm4.lt (by simp; exact fun e => hdk.nem e.symm))⟩, ?_⟩
      · have := hsf4.keep (htw.block gs hsf4.1 (by simp; exact fun e => hdk.ne e.symm)) htw.size
        rw [HMM.out] at this
        exact this
      · have t1 : Turn [g, gs, gm] w w4 := (((HT1.out.more (S' := [g, gs, gm]) (by simp)).then_ HTR.out (by simp)).grown hg4 (fun k hk => .inl (by cases hk; simp)))
        exact t1.then_ htw (by simp)
end Go.Proofs.Ytgjdgmpjbpnjbaa.Disk
/-
  What the law knows: a group that was half on its way is not there. No condition.
-/
namespace Go.Proofs.Ytgjdgmpjbpnjbaa.Jou
open Go.RowKit Codec FrameM Cod JourM
open Disk (Turn Dk Dsk ptr Now Made Nums fresh)
set_option maxRecDepth 100000
theorem low_turn {w w1 w2 : World} {S : List Nat} (h : Below w.heap.size w w1) (ht : Turn S w1 w2) (hS : ∀ k ∈ S, w.heap.size ≤ k) : Below w.heap.size w w2 := h.trans (ht.low hS h.size)
theorem Jn.owns_low {w : World} {lo j g gs gm base : Nat} {d : Dsk} {jr : Jr} {v : Value} (h : Jn w lo j g gs gm d jr v) (hj : base ≤ j) (hg : base ≤ g ∧ base ≤ gs ∧ base ≤ gm) : ∀ k ∈ [j, g, gs, gm] ++ v.ownBlock.toList, base ≤ k := by
  intro k hk
  rcases List.mem_append.1 hk with hk | hk
  · simp only [List.mem_cons, List.not_mem_nil, or_false] at hk
    omega
  · obtain ⟨its, o1, _⟩ := h.own
    have h1 := h.lows j (by simp)
    have h2 := own_type o1 (by simpa using hk)
    omega
theorem bts_two {w : World} {S : List Nat} (x y : UInt8) (hS : ∀ k ∈ S, k < w.heap.size) : Bts (w.alloc (.cells #[byt x, byt y] 5 (2, 3))) S (some ⟨w.heap.size, 0, none⟩) 2 [x, y] := by
  refine ⟨rfl, fun _ => ⟨w.heap.size, 0, rfl, by simp, fun hm => by have := hS _ hm; omega, fun q hq => ?_⟩⟩
  unfold World.cell?
  rw [heap_alloc_new]
  match q, hq with
  | 0, _ => rfl
  | 1, _ => rfl
theorem append_two (w : World) (lo j g gs gm : Nat) (d : Dsk) (jr : Jr) (v : Value) (x y : UInt8) (h : Jn w lo j g gs gm d jr v) :
    Calls Try.prog 10 #[ptr j, .slice (some ⟨w.heap.size, 0, none⟩) 2 2] (w.alloc (.cells #[byt x, byt y] 5 (2, 3))) (Appended (w.alloc (.cells #[byt x, byt y] 5 (2, 3))) lo j g gs gm v (appE d jr [x, y]) (appD d jr [x, y]) (appJ d jr [x, y])) :=
  append_any _ lo j g gs gm d jr v 2 2 _ [x, y] (h.below (Frm.alloc_below w _)) (bts_two x y (fun k hk => Nat.lt_of_lt_of_le (h.lows k hk) h.le)) (Nat.le_refl _) (by decide)
theorem nums_three {w : World} {S : List Nat} (a b c : Int) (hS : ∀ k ∈ S, k < w.heap.size) : Nums (w.alloc (.cells #[.int .i64 a, .int .i64 b, .int .i64 c] 3)) S (some ⟨w.heap.size, 0, none⟩) 3 [a, b, c] := by
  refine ⟨rfl, fun _ => ⟨w.heap.size, 0, rfl, fun hm => by have := hS _ hm; omega, by simp, fun q hq => ?_⟩⟩
  rw [cell_at (heap_alloc_new w _)]
  match q, hq with
  | 0, _ => rfl
  | 1, _ => rfl
  | 2, _ => rfl
theorem open_first (w : World) (g gs gm : Nat) (h : Dk w g gs gm (fresh 20)) : Calls Try.prog 8 #[ptr g] w (Opened w g gs gm kA ⟨1, [], false⟩) := by
  obtain ⟨h1, h2, _⟩ := fresh_open 20 (by omega) (by omega)
  refine (open_new w g gs gm (fresh 20) h (by show 8 ≤ 20; omega) rfl (fresh_newest 20 (by omega))).mono fun e w' hx => ?_
  rcases hx with ⟨_, hx⟩ | ⟨hx, _⟩
  · rw [h2] at hx
    exact hx
  · rw [h1] at hx
    cases hx
theorem open_again (w : World) (g gs gm : Nat) (h : Dk w g gs gm kE) : Calls Try.prog 8 #[ptr g] w (Opened w g gs gm kE ⟨1, [sAB], false⟩) := by
  obtain ⟨h1, h2, h3, h4, h5⟩ := kE_is
  have := open_old w g gs gm kE h (by omega) h2 (by omega) (by omega)
  rwa [h4, h5] at this
theorem takes_two (w : World) (xs : List UInt8) (A : Option Addr) (c m : Nat) (hm : xs.length = m) (ht : takes1 xs ≤ 100000) : Calls Try.prog 22 #[.slice (some ⟨w.heap.size, 0, none⟩) 2 2] (w.alloc (.cells #[.slice A m c, .slice none 0 0] 35)) (Disk.Ends (.int .i64 (takes [xs, []])) (w.alloc (.cells #[.slice A m c, .slice none 0 0] 35))) := by
  refine takes_any _ 2 2 _ [xs, []] ⟨rfl, fun _ => ⟨w.heap.size, 0, rfl, fun q hq => ?_⟩⟩ (by simp only [takes, takes1, List.length_nil] at *; have : need 0 = 0 := rfl; omega)
  rw [cell_at (heap_alloc_new w _)]
  match q, hq with
  | 0, _ => exact ⟨A, c, by rw [← hm]; rfl⟩
  | 1, _ => exact ⟨none, 0, rfl⟩
set_option maxHeartbeats 1000000 in
theorem knows_any (w : World) : Calls Try.prog 6 #[] w (EndsBelow (.bool true) w) := by
  have HN := Lib.hid (Disk.new_disk w 20 (by omega) (by omega))
  have kc := fun (w : World) (C : Array Value) (n c : Nat) => Lib.run_convert_bytes_const (P := Try.prog) w 35 5 C n c Try.underlying35 Try.underlying5
  go_enter Try.func6, Try.ntmps6
  go_wp2_with fail
  refine HN.out.mono ?_
  rintro e w1 ⟨g, gs, gm, rfl, hdk, ht, g1, g2, g3⟩
  have HG := Lib.hid (And.intro g1 (And.intro g2 g3))
  have HB1 : Hid (Below w.heap.size w w1) := Lib.hid (ht.low (by simp) (Nat.le_refl _))
  have HO := Lib.hid (open_first w1 g gs gm hdk)
  clear hdk ht g1 g2 g3 HN
  unfold ptr at *
  go_wp2_with fail
  refine HO.out.mono ?_
  rintro e w2 ⟨lo, j, v, rfl, hj, ht, hlj⟩
  have HS3 : Hid (∀ k ∈ [g, gs, gm], w.heap.size ≤ k) := Lib.hid (by have := HG.out; intro k hk; simp at hk; omega)
  have HB2 := Lib.hid (low_turn HB1.out ht HS3.out)
  have HJ2 := Lib.hid hj
  have HLJ : Hid (w.heap.size ≤ j) := Lib.hid (Nat.le_trans HB1.out.size hlj)
  have HA := Lib.hid (append_two w2 lo j g gs gm kA ⟨1, [], false⟩ v 97 98 hj)
  have HE := Lib.hid kB_is
  have e1 : appD kA ⟨1, [], false⟩ [97, 98] = kB := rfl
  have e2 : appE kA ⟨1, [], false⟩ [97, 98] = 0 := HE.out.1
  have e3 : appJ kA ⟨1, [], false⟩ [97, 98] = ⟨1, [sAB], false⟩ := HE.out.2.2
  rw [e1, e2, e3] at HA
  clear hj ht hlj HO HE e1 e2 e3
  unfold ptr at *
  unfold byt at *
  go_wp2_with fail
  refine HA.out.mono ?_
  rintro e w3 ⟨rfl, v3, hj3, ht3, hv3⟩
  have HB3 := Lib.hid (low_turn (HB2.out.trans ((Frm.alloc_below w2 _).mono HB2.out.size)) ht3 (HJ2.out.owns_low HLJ.out HG.out))
  have HJ3 := Lib.hid hj3
  have HST := Lib.hid (Disk.stop_disk w3 g gs gm kB 3 hj3.disk (by omega) (by omega))
  clear hj3 ht3 hv3 HA HJ2
  unfold ptr at *
  go_wp2_with fail
  refine HST.out.mono ?_
  rintro e w4 ⟨rfl, hd4, ht4⟩
  have HB4 := Lib.hid (low_turn HB3.out ht4 HS3.out)
  have hj4 : Jn w4 lo j g gs gm kC ⟨1, [sAB], false⟩ v3 := HJ3.out.disked hd4 ht4 (by rw [kC_n, kB_n])
  have HJ4 := Lib.hid hj4
  have HA := Lib.hid (append_two w4 lo j g gs gm kC ⟨1, [sAB], false⟩ v3 99 100 hj4)
  have HE := Lib.hid kD_is
  have e1 : appD kC ⟨1, [sAB], false⟩ [99, 100] = kD := rfl
  have e2 : appE kC ⟨1, [sAB], false⟩ [99, 100] = 3 := HE.out.1
  have e3 : appJ kC ⟨1, [sAB], false⟩ [99, 100] = ⟨1, [sAB], true⟩ := HE.out.2.1
  rw [e1, e2, e3] at HA
  clear hj4 hd4 ht4 HST e1 e2 e3 HJ3
  unfold ptr at *
  unfold byt at *
  go_wp2_with fail
  refine HA.out.mono ?_
  rintro e w5 ⟨rfl, v5, hj5, ht5, hv5⟩
  have HB5 := Lib.hid (low_turn (HB4.out.trans ((Frm.alloc_below w4 _).mono HB4.out.size)) ht5 (HJ4.out.owns_low HLJ.out HG.out))
  have HJ5 := Lib.hid hj5
  have hba := Frm.alloc_below w5 (.cells #[.int .i64 2, .int .i64 2, .int .i64 2] 3)
  have HJ6 := Lib.hid (hj5.below hba)
  have HB6 := Lib.hid (HB5.out.trans (hba.mono HB5.out.size))
  have HCR := Lib.hid (Disk.crash_disk (w5.alloc (.cells #[.int .i64 2, .int .i64 2, .int .i64 2] 3)) g gs gm kD HJ6.out.disk _ 3 3 [2, 2, 2] (nums_three 2 2 2 (fun k hk => Nat.lt_of_lt_of_le (hj5.lows k (List.mem_cons_of_mem _ hk)) hj5.le)))
  clear hj5 ht5 hv5 hba HA HJ4
  unfold ptr at *
  go_wp2_with fail
  refine HCR.out.mono ?_
  rintro e w7 ⟨rfl, hd7, ht7⟩
  have HB7 := Lib.hid (low_turn HB6.out ht7 HS3.out)
  have HJ7 : Hid (Jn w7 lo j g gs gm kE ⟨1, [sAB], true⟩ v5) := Lib.hid (HJ6.out.disked hd7 ht7 (by rw [kE_is.1, HE.out.2.2.1]))
  have HO := Lib.hid (open_again w7 g gs gm hd7)
  clear hd7 ht7 HCR HJ6 HJ5
  unfold ptr at *
  go_wp2_with fail
  refine HO.out.mono ?_
  rintro e w8 ⟨lo8, j8, v8, rfl, hj8, ht8, _⟩
  have HB8 := Lib.hid (low_turn HB7.out ht8 HS3.out)
  have HJ8 : Hid (Jn w8 lo j g gs gm kE ⟨1, [sAB], true⟩ v5) := Lib.hid (HJ7.out.disked hj8.disk ht8 rfl)
  have HGR : Hid (Calls Try.prog 18 #[ptr j8] w8 (fun e w9 => ∃ A c, e = .returned (.slice A 1 c) ∧ NewRows w8 w9 A 1 [sAB] ∧ 1 ≤ c ∧ c ≤ maxLen ∧ Below w8.heap.size w8 w9)) := Lib.hid (groups_any hj8)
  clear hj8 ht8 HO HJ7
  unfold ptr at *
  go_wp2_with fail
  refine HGR.out.mono ?_
  rintro e w9 ⟨A9, c9, rfl, hr9, _, _, hb9⟩
  have HB9 := Lib.hid (HB8.out.trans (hb9.mono HB8.out.size))
  have HDN := Lib.hid (jdown_any (HJ8.out.below hb9))
  have hr := hr9 [] (by simp)
  obtain ⟨b, o, Aj, cj, hat⟩ := hr.at (show 0 < 1 by omega)
  have hidx := hat.index c9
  obtain ⟨_, hcell, hbt, _, _, _, _⟩ := hat
  have hcv := run_string_of w9 _ _ cj Aj _ hbt.byts
  have HTK := Lib.hid (takes_two (w9.alloc (.cells #[byt 97, byt 98] 5 (2, 3))) [97, 98] (some ⟨w9.heap.size, 0, none⟩) 2 2 rfl (by decide))
  have ht3 : ((takes [[97, 98], []] : Nat) : Int) = 3 := rfl
  rw [ht3, World.size_alloc] at HTK
  clear ht3
  have HFB : Hid (Below w9.heap.size w9 ((w9.alloc (.cells #[byt 97, byt 98] 5 (2, 3))).alloc (.cells #[.slice (some ⟨w9.heap.size, 0, none⟩) 2 2, .slice none 0 0] 35))) := Lib.hid ((Frm.alloc_below w9 _).trans ((Frm.alloc_below _ _).mono (by simp)))
  clear hr9 hb9 HGR hbt hr HJ8
  unfold ptr at *
  unfold byt at *
  replace hidx : ∀ u : World, (Instr.indexAt 34 (.slice A9 1 c9) (.int .i64 0)).run Try.prog u = .ok (.pointer (some ⟨b, o, none⟩)) u := hidx
  replace hcell : w9.cell? ⟨b, o, none⟩ = some (.slice Aj 2 cj) := hcell
  replace hcv : (convert 35 9 (.slice Aj 2 cj)).run Try.prog w9 = .ok (.string ⟨#[97, 98]⟩) w9 := hcv
  replace HDN : Hid (Calls Try.prog 14 #[.pointer (some ⟨j, 0, none⟩)] w9 (Disk.Ends (.bool true) w9)) := HDN
  go_wp2_with (first
    | (go_at_call 9; refine (num_any _ _).mono ?_; rintro e u ⟨rfl, rfl⟩)
    | (go_at_call 14; refine HDN.out.mono ?_; rintro e u ⟨rfl, rfl⟩)
    | (go_at_call 22; refine HTK.out.mono ?_; rintro e u ⟨rfl, rfl⟩))
  go_ret
  exact ⟨rfl, HB9.out.trans (HFB.out.mono HB9.out.size)⟩
end Go.Proofs.Ytgjdgmpjbpnjbaa.Jou
/-
  The walk of the statement on what is no journal: true. No condition.
-/
namespace Go.Proofs.Ytgjdgmpjbpnjbaa.Jou
open Go.RowKit Codec FrameM Cod JourM
open Disk (Turn Dk Dsk ptr Now Made Nums fresh)
set_option maxRecDepth 100000
theorem jroom_none {w : World} {p : Value} (h : JNobody w p) : Calls Try.prog 19 #[p] w (Disk.Ends (.int .i64 0) w) := by
  have HM := Lib.hid (jmade_none h)
  clear h
  go_enter Try.func19, Try.ntmps19
  go_wp2_with fail
  refine HM.out.mono ?_
  rintro e w1 ⟨rfl, rfl⟩
  go_wp2
  go_ret
  exact ⟨rfl, rfl⟩
set_option maxHeartbeats 2000000 in
theorem nil_any (w : World) (n c : Nat) (A : Option Addr) : Calls Try.prog 4 #[.slice A n c] w (EndsBelow (.bool true) w) := by
  by_cases hn : 1000 < n
  · have hn1 : (1000 : Int) < n := by omega
    have HK := Lib.hid (knows_any w)
    clear hn
    go_enter Try.func4, Try.ntmps4
    go_wp2_with fail
    refine HK.out.mono ?_
    rintro e w1 ⟨rfl, hb⟩
    have HB := Lib.hid hb
    clear hb
    go_wp2_with fail
    go_ret
    exact ⟨rfl, HB.out⟩
  · have hn1 : (n : Int) ≤ 1000 := by omega
    clear hn
    go_enter Try.func4, Try.ntmps4
    go_wp2_with fail
    go_loopw [3, 4] (fun p i wr => ∃ k : Nat, k ≤ 2 ∧ i = .int .i64 k ∧ JNobody wr p ∧ Below w.heap.size w wr) (fun _ i _ => 2 - (Go.RowKit.intOf i).toNat)
    case atStart => exact ⟨0, by omega, rfl, .inl rfl, Below.refl _ _⟩
    case round =>
      obtain ⟨k, hk, rfl, hp, hb⟩ := hrel
      rename_i p _
      have HP := Lib.hid hp
      have HB := Lib.hid hb
      clear hp hb
      by_cases hlt : k < 2
      · have HA := Lib.hid (append_none HP.out A n c)
        go_wp2_with fail
        refine HA.out.mono ?_
        rintro e w1 ⟨rfl, hb1⟩
        have hp1 := none_below HP.out hb1
        have hba := Frm.alloc_below w1 (.cells #[.slice A n c] 35)
        have hp2 := none_below hp1 hba
        have HB2 := Lib.hid ((HB.out.trans (hb1.mono HB.out.size)).trans (hba.mono (Nat.le_trans HB.out.size hb1.size)))
        have HP2 := Lib.hid hp2
        have HR := Lib.hid (reset_none hp2 (.slice (some ⟨w1.heap.size, 0, none⟩) 1 1))
        have HG := Lib.hid (jgroups_none hp2)
        have HM := Lib.hid (jroom_none hp2)
        have HU := Lib.hid (jused_none hp2)
        have HN := Lib.hid (jgen_none hp2)
        have HD := Lib.hid (jdown_none hp2)
        clear hp2 hp1 hb1 hba HA
        go_wp2_with (first
          | (go_at_call 9; refine (num_any _ _).mono ?_; rintro e u ⟨rfl, rfl⟩)
          | (go_at_call 12; refine HR.out.mono ?_; rintro e u ⟨rfl, rfl⟩)
          | (go_at_call 18; refine HG.out.mono ?_; rintro e u ⟨rfl, rfl⟩)
          | (go_at_call 19; refine HM.out.mono ?_; rintro e u ⟨rfl, rfl⟩)
          | (go_at_call 20; refine HU.out.mono ?_; rintro e u ⟨rfl, rfl⟩)
          | (go_at_call 21; refine HN.out.mono ?_; rintro e u ⟨rfl, rfl⟩)
          | (go_at_call 14; refine HD.out.mono ?_; rintro e u ⟨rfl, rfl⟩))
        have HSZ : Hid ((w1.alloc (.cells #[.slice A n c] 35)).heap.size = w1.heap.size + 1) := Lib.hid (World.size_alloc _ _)
        generalize w1.alloc (.cells #[.slice A n c] 35) = w2 at *
        go_roundw
        case rel => exact ⟨k + 1, by omega, by go_num, .inr ⟨_, rfl, by rw [← HSZ.out]; exact heap_alloc_new w2 _⟩, HB2.out.trans ((Frm.alloc_below w2 _).mono HB2.out.size)⟩
        case measure => simp [Go.RowKit.intOf]; omega
      · have HO := Lib.hid open_none
        obtain rfl : k = 2 := by omega
        rename_i wr
        have HN := Lib.hid (Disk.new_disk wr 7 (by omega) (by omega))
        go_wp2_with fail
        refine (HO.out _).mono ?_
        rintro e u ⟨rfl, rfl⟩
        go_wp2_with fail
        refine HN.out.mono ?_
        rintro e w3 ⟨g, gs, gm, rfl, hdk, ht, _⟩
        have HO2 := Lib.hid (open_small w3 g gs gm (fresh 7) hdk (by show 7 < 8; omega))
        unfold ptr at *
        have HB3 := Lib.hid (HB.out.trans (ht.low (by simp) HB.out.size))
        clear hdk ht
        have HK := Lib.hid (knows_any w3)
        go_wp2_with fail
        refine HO2.out.mono ?_
        rintro e u ⟨rfl, rfl⟩
        go_wp2_with (first
          | (go_at_call 9; refine (num_any _ _).mono ?_; rintro e u ⟨rfl, rfl⟩)
          | (go_at_call 6; refine HK.out.mono ?_; rintro e u ⟨rfl, hb⟩))
        go_ret
        exact ⟨rfl, HB3.out.trans (hb.mono HB3.out.size)⟩
end Go.Proofs.Ytgjdgmpjbpnjbaa.Jou
