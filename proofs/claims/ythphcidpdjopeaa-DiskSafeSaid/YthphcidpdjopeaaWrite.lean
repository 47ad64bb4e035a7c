/-
  What the program's Write does, of 64 bytes, into a sector that there is. Condition: the disk and the bytes are known.
-/
import Derived.Test.YthphcidpdjopeaaNew
import Derived.StillTailTactics
import Derived.Maps.OwnOps
namespace Go.Proofs.Ythphcidpdjopeaa
open Go.RowKit Go.Maps
theorem hkey3 {i : Nat} (h : i < 65536) : keyOf Try.prog 3 (.int .i64 i) = some (ky i) := Maps.keyOf_int_mk Try.underlying3 (WalkArith.wf_i64 (by omega))
/-- 'm[k] = s' at the operation. -/
theorem wpList_putsec (w : World) {ops : Array Oper} {rest : List Oper} {o : Oper} {a : Act} {Q : Exit → Act → World → Prop} (hg : o.guard = none) (m x v : Operand) (hop : o.op = Op.mapUpdate 44 m x v)
    (gm n : Nat) (f : Nat → Option (List UInt8)) (i : Nat) (s : List UInt8) (hm : a.eval m = .map (some gm)) (hx : a.eval x = .int .i64 i) (hv : a.eval v = .agg (cel s).toArray) (h : Mp w gm n f) (hi : i < n) (hn : n ≤ 65536)
    (hK : ∀ w', Mp w' gm n (upd f i (some s)) → w.grownBy w' (some gm) → wpList Try.prog ops Q rest (a.put o.dst undef) w') : wpList Try.prog ops Q (o :: rest) a w := by
  obtain ⟨nn, D, hown, hnn, hT⟩ := h
  refine wpList_mapUpdate_own w hg m x v 44 hop 3 49 key3 Try.underlying44 R0 gm nn D hm hown (by unfold maxLen; omega) _ _ (ky i) hx hv (hkey3 (by omega)) (.held (secV s)) [] rfl ?_
  intro w' h1 h2
  exact hK w' (Mp.made h1 (hT.put hown.isMap hi s)) h2
theorem size49 : (Try.prog.info? 49).map (·.size) = some 64 := by kernel_rfl
theorem run_load49 (w : World) (b o : Nat) (s : List UInt8) (hs : s.length = 64) (h : w.rangeAt b o (cel s)) : (Instr.loadAt 49 (.pointer (some ⟨b, o, none⟩))).run Try.prog w = .ok (.agg (cel s).toArray) w :=
  run_loadAt_mid w b o 49 (cel s) _ h Try.underlying49 rfl (by rw [cel_length, hs]; exact size49)
/-- The load of a sector in a region that draws, ahead of its tail. -/
theorem still_load49 {ops : Array Oper} {w : World} {Q : Act → Prop} {a : Act} {o : Oper} {rest : List Oper} (b off : Nat) (s : List UInt8) (x : Operand) (ho : o.op = .load 49 x) (hx : a.eval x = .pointer (some ⟨b, off, none⟩))
    (hs : s.length = 64) (hr : w.rangeAt b off (cel s)) (hw : Region.wanted o (yielded ops a.tmps) = true) (h : wpStill Try.prog ops w Q rest (a.put o.dst (.agg (cel s).toArray))) : wpStill Try.prog ops w Q (o :: rest) a := by
  refine wpStill_step (fun K hK => ?_)
  rw [if_pos hw]
  unfold Oper.still execOp
  have e := run_load49 w b off s hs hr
  simp only [ho, hx, Sem.run_bind, Sem.run_pure, Result.andThen_ok, e, Oper.stillUpon_value]
  exact hK _ h
theorem run_array (w : World) (A : Option Addr) (c : Nat) : (Instr.arrayAt 49 (.slice A 64 c)).run Try.prog w = .ok (.pointer A) w := by
  simp [Instr.arrayAt, run_underlying Try.underlying49]
theorem write_off (w : World) (g gs gm : Nat) (d : Dsk) (h : Dk w g gs gm d) (ho : d.off = true) (i : Nat) (v : Value) : Calls Try.prog 8 #[ptr g, .int .i64 i, v] w (Ends (.int .i64 3) w) := by
  have HR := Lib.hid (refuses_disk w g gs gm d i h)
  have hw : d.why i = 3 := by simp [Dsk.why, ho]
  rw [hw] at HR
  clear h ho hw
  unfold ptr at HR ⊢
  go_enter Try.func8, Try.ntmps8
  go_wp2_with fail
  refine HR.out.mono ?_
  rintro e w1 ⟨rfl, rfl⟩
  go_wp2
  go_ret
  exact ⟨rfl, rfl⟩
theorem write_none (w : World) (p v : Value) (i : Int) (h : Nobody w p) : Calls Try.prog 8 #[p, .int .i64 i, v] w (Ends (.int .i64 1) w) := by
  have HR := Lib.hid (refuses_none w p i h)
  clear h
  go_enter Try.func8, Try.ntmps8
  go_wp2_with fail
  refine HR.out.mono ?_
  rintro e w1 ⟨rfl, rfl⟩
  go_wp2
  go_ret
  exact ⟨rfl, rfl⟩
theorem write_stop (w : World) (g gs gm : Nat) (d : Dsk) (h : Dk w g gs gm d) (ho : d.off = false) (hd : d.done = false) (i : Nat) (hi : i < d.n) (A : Option Addr) (c : Nat) :
    Calls Try.prog 8 #[ptr g, .int .i64 i, .slice A 64 c] w (Now (.int .i64 3) w g gs gm d.deed) := by
  have HR := Lib.hid (refuses_disk w g gs gm d i h)
  have hw : d.why i = 0 := by simp [Dsk.why, ho]; omega
  rw [hw] at HR
  have HW := Lib.hid (deed_disk w g gs gm d h ho)
  rw [hd] at HW
  clear h ho hw hi hd
  unfold ptr at HR HW ⊢
  generalize d.deed = d' at HW ⊢
  go_enter Try.func8, Try.ntmps8
  go_wp2_with fail
  refine HR.out.mono ?_
  rintro e w1 ⟨rfl, rfl⟩
  go_wp2_with fail
  refine HW.out.mono ?_
  rintro e w1 ⟨rfl, hdk, ht⟩
  have HF := Lib.hid (And.intro hdk ht)
  clear hdk ht
  go_wp2
  go_ret
  exact ⟨rfl, HF.out.1, HF.out.2⟩
set_option maxHeartbeats 400000 in
theorem write_do (w : World) (g gs gm : Nat) (d : Dsk) (h : Dk w g gs gm d) (ho : d.off = false) (hd : d.done = true) (i : Nat) (hi : i < d.n) (b o c : Nat) (xs : List UInt8) (hx : xs.length = 64) (hr : w.rangeAt b o (cel xs)) (hb : b ∉ [g, gs, gm]) (hbl : b < w.heap.size) :
    Calls Try.prog 8 #[ptr g, .int .i64 i, .slice (some ⟨b, o, none⟩) 64 c] w (Now (.int .i64 0) w g gs gm (d.deed.put i xs)) := by
  have HR := Lib.hid (refuses_disk w g gs gm d i h)
  have hw : d.why i = 0 := by simp [Dsk.why, ho]; omega
  rw [hw] at HR
  have HW := Lib.hid (deed_disk w g gs gm d h ho)
  rw [hd] at HW
  have h3 := h.ok.2.1
  have hn := d.deed_parts.1
  have hof : d.deed.off = false := by rw [Dsk.deed_on ho, hd]; rfl
  rw [← hn] at hi h3
  have HX := Lib.hid hx
  have HB := Lib.hid hb
  have HI := Lib.hid hi
  have HL := Lib.hid hbl
  have HRR := Lib.hid hr
  have H3 := Lib.hid h3
  clear h ho hw h3 hx hb hi hbl hr hn hd hof
  unfold ptr at HR HW ⊢
  generalize d.deed = d' at *
  go_enter Try.func8, Try.ntmps8
  go_wp2_with fail
  refine HR.out.mono ?_
  rintro e w1 ⟨rfl, rfl⟩
  go_wp2_with fail
  refine HW.out.mono ?_
  rintro e w1 ⟨rfl, hdk, ht⟩
  obtain ⟨z, hz⟩ := hdk.six
  have c1 := hz.c1
  have hr1 : w1.rangeAt b o (cel xs) := rangeAt_keep HRR.out (ht.block b HL.out HB.out)
  have hr2 := Lib.hid ((World.rangeAt_drew w1 b o (cel xs)).2 hr1)
  have hra := fun w => run_array w (some ⟨b, o, none⟩) c
  have HF := Lib.hid (And.intro hdk ht)
  clear hdk ht hz hr1
  go_wp2
  refine wp_region_still_tail 8 (by kernel_rfl) (by kernel_rfl) ?_
  simp only [List.take_succ_cons, List.take_zero, List.drop_succ_cons, List.drop_zero]
  iterate 7 still_step
  refine still_load49 b o xs _ rfl rfl HX.out hr2.out rfl ?_
  simp only [Act.put, List.setIfInBounds_toArray, List.set_cons_zero, List.set_cons_succ]
  refine wpStill_nil ?_
  change wpList _ _ _ _ _ w1.drew
  refine wpList_putsec w1.drew rfl _ _ _ rfl gm d'.n d'.waits i xs rfl rfl rfl (HF.out.1.mp.keep rfl) HI.out H3.out ?_
  intro w2 hm2 hg2
  have HH := Lib.hid (And.intro hm2 hg2)
  clear hm2 hg2
  go_wp2
  go_ret
  have hdk := HF.out.1
  have ht := HF.out.2
  have hm2 := HH.out.1
  have hg2 := HH.out.2
  refine ⟨rfl, ?_, ht.grown (w1 := w1) ⟨hg2.os, hg2.tape, hg2.output, hg2.size, hg2.block⟩ (fun k hk => .inl (by cases hk; simp))⟩
  have e1 : w2.heap[g]? = w1.heap[g]? := hg2.block g hdk.lt (by simp; exact hdk.nem)
  have e2 : w2.heap[gs]? = w1.heap[gs]? := hg2.block gs hdk.sf.1 (by simp; exact hdk.nes)
  obtain ⟨z, hz⟩ := hdk.hd
  exact ⟨Dsk.put_ok hdk.ok HI.out HX.out, hdk.ne, ⟨z, e1.trans hz⟩, hdk.sf.keep e2 hg2.size, hm2⟩
end Go.Proofs.Ythphcidpdjopeaa
