/-
  What the program's Read does. Condition: the disk is known.
-/
import Derived.Test.YthphcidpdjopeaaWrite
namespace Go.Proofs.Ythphcidpdjopeaa
open Go.RowKit Go.Maps
def nul : List UInt8 := List.replicate 64 0
theorem nul_length : nul.length = 64 := rfl
theorem zero49 (w : World) : (zeroValue 49).run Try.prog w = .ok (.agg (cel nul).toArray) w := (zero_of_info (n := 64) (v := .agg (cel nul).toArray) (by kernel_rfl)).1 w
section
variable {ops : Array Oper} {rest : List Oper} {o : Oper} {a : Act} {Q : Exit → Act → World → Prop}
/-- What the operation is, and what its operands hold. -/
def IsAlloc (o : Oper) : Prop := o.guard = none ∧ o.op = .alloc 49
def IsStore (o : Oper) (a : Act) (p v : Value) : Prop := o.guard = none ∧ ∃ x y, o.op = .store 49 x y ∧ a.eval x = p ∧ a.eval y = v
def IsLoad (o : Oper) (a : Act) (p : Value) : Prop := o.guard = none ∧ ∃ x, o.op = .load 49 x ∧ a.eval x = p
def IsLook (o : Oper) (a : Act) (ok : Bool) (m k : Value) : Prop := o.guard = none ∧ ∃ x y, o.op = Op.lookup 44 x y ok ∧ a.eval x = m ∧ a.eval y = k
theorem wpList_alloc49 (w : World) (ho : IsAlloc o) (h : wpList Try.prog ops Q rest (a.put o.dst (.pointer (some ⟨w.heap.size, 0, none⟩))) (w.alloc (.cells (cel nul).toArray 49))) : wpList Try.prog ops Q (o :: rest) a w := by
  refine wpList_plain ho.1 fun _ hK => ?_
  unfold Oper.wp execOp
  simp only [ho.2, Instr.alloc, zero49, Sem.run_bind, Sem.run_pure, Result.andThen_ok, newVar, newRow, Value.cells, run_newObj_alloc]
  exact hK _ _ h
theorem wpList_store49 (w : World) (b : Nat) (c : Array Value) (s : List UInt8) (hb : b = w.heap.size) (ho : IsStore o a (.pointer (some ⟨b, 0, none⟩)) (.agg (cel s).toArray)) (hc : c.size = 64) (hs : s.length = 64)
    (h : wpList Try.prog ops Q rest (a.put o.dst undef) (w.alloc (.cells (cel s).toArray 49))) : wpList Try.prog ops Q (o :: rest) a (w.alloc (.cells c 49)) := by
  obtain ⟨hg, x, y, ho, hx, hy⟩ := ho
  subst hb
  refine wpList_plain hg fun _ hK => ?_
  have e := run_storeAt_new (P := Try.prog) w 49 c (cel s).toArray (by rw [List.size_toArray, cel_length, hs]; exact size49) (by rw [hc, List.size_toArray, cel_length, hs]) (cel_all s)
  unfold Oper.wp execOp
  simp only [ho, hx, hy, Sem.run_bind, Sem.run_pure, Result.andThen_ok, e]
  exact hK _ _ h
theorem wpList_load49 (w : World) (b off : Nat) (s : List UInt8) (hs : s.length = 64) (hr : w.rangeAt b off (cel s)) (ho : IsLoad o a (.pointer (some ⟨b, off, none⟩)))
    (h : wpList Try.prog ops Q rest (a.put o.dst (.agg (cel s).toArray)) w) : wpList Try.prog ops Q (o :: rest) a w := by
  obtain ⟨hg, x, ho, hx⟩ := ho
  exact wpList_load_mid hg 49 x ho b off hx (cel s) _ hr Try.underlying49 rfl (by rw [cel_length, hs]; exact size49) h
/-- A map's look-up, where the sector waits, and where it doesn't. -/
theorem look_some (w : World) (gm n : Nat) (f : Nat → Option (List UInt8)) (i : Nat) (s : List UInt8) (hi : i < n) (hn : n ≤ 65536) (hf : f i = some s) (h : Mp w gm n f) :
    (Instr.lookup 44 (.map (some gm)) (.int .i64 i) true).run Try.prog w = .ok (.tuple #[.agg (cel s).toArray, .bool true]) w := by
  obtain ⟨nn, D, hown, hnn, hT⟩ := h
  obtain ⟨v, ps, hrun, hv⟩ := hown.look_ok key3 Try.underlying44 (zero49 w) (R := R0) (zd := .held (secV nul)) (zp := []) rfl (hkey3 (i := i) (by omega))
  rw [(hT.2 i hi).2 s hf] at hv
  have hv : v = secV s := by have := (by simpa [R0] using hv : v = secV s ∧ ps = []); exact this.1
  rw [hT.has hi, hf, hv] at hrun
  exact hrun
theorem look_none (w : World) (gm n : Nat) (f : Nat → Option (List UInt8)) (i : Nat) (hi : i < n) (hn : n ≤ 65536) (hf : f i = none) (h : Mp w gm n f) :
    (Instr.lookup 44 (.map (some gm)) (.int .i64 i) true).run Try.prog w = .ok (.tuple #[.agg (cel nul).toArray, .bool false]) w := by
  obtain ⟨nn, D, hown, hnn, hT⟩ := h
  obtain ⟨v, ps, hrun, hv⟩ := hown.look_ok key3 Try.underlying44 (zero49 w) (R := R0) (zd := .held (secV nul)) (zp := []) rfl (hkey3 (i := i) (by omega))
  rw [Maps.atKey_of_not_has ((hT.2 i hi).1 hf)] at hv
  have hv : v = secV nul := by have := (by simpa [R0] using hv : v = secV nul ∧ ps = []); exact this.1
  rw [hT.has hi, hf, hv] at hrun
  exact hrun
/-- .. without 'ok'. -/
theorem look_sec (w : World) (gm n : Nat) (f : Nat → Option (List UInt8)) (i : Nat) (s : List UInt8) (hi : i < n) (hn : n ≤ 65536) (hf : f i = some s) (h : Mp w gm n f) :
    (Instr.lookup 44 (.map (some gm)) (.int .i64 i) false).run Try.prog w = .ok (.agg (cel s).toArray) w := by
  obtain ⟨nn, D, hown, hnn, hT⟩ := h
  obtain ⟨v, ps, hrun, hv⟩ := hown.lookup key3 Try.underlying44 (zero49 w) (R := R0) (zd := .held (secV nul)) (zp := []) rfl (hkey3 (i := i) (by omega))
  rw [(hT.2 i hi).2 s hf] at hv
  have hv : v = secV s := by have := (by simpa [R0] using hv : v = secV s ∧ ps = []); exact this.1
  rw [hv] at hrun
  exact hrun
theorem wpList_look (w : World) (gm i : Nat) (v : Value) (hr : (Instr.lookup 44 (.map (some gm)) (.int .i64 i) true).run Try.prog w = .ok v w) (ho : IsLook o a true (.map (some gm)) (.int .i64 i))
    (h : wpList Try.prog ops Q rest (a.put o.dst v) w) : wpList Try.prog ops Q (o :: rest) a w := by
  obtain ⟨hg, x, y, ho, hx, hy⟩ := ho
  refine wpList_plain hg fun _ hK => ?_
  unfold Oper.wp execOp
  simp only [ho, hx, hy, Sem.run_bind, Sem.run_pure, Result.andThen_ok, hr]
  exact hK _ _ h
end
theorem read_none (w : World) (p : Value) (i : Int) (h : Nobody w p) : Calls Try.prog 12 #[p, .int .i64 i] w (Ends (.tuple #[.slice none 0 0, .int .i64 1]) w) := by
  have HR := Lib.hid (refuses_none w p i h)
  clear h
  go_enter Try.func12, Try.ntmps12
  go_wp2_with fail
  refine HR.out.mono ?_
  rintro e w1 ⟨rfl, rfl⟩
  go_wp2
  go_ret2
  exact ⟨rfl, rfl⟩
/-- What Read hands back: a new sector, these bytes. -/
def Told64 (w : World) (xs : List UInt8) (e : Ending) (w' : World) : Prop :=
  ∃ k, e = .returned (.tuple #[.slice (some ⟨k, 0, none⟩) 64 64, .int .i64 0]) ∧ w'.heap[k]? = some (.cells (cel xs).toArray 49 (0, 0)) ∧ w.heap.size ≤ k ∧ Turn [] w w'
set_option maxHeartbeats 400000 in
theorem read_some (w : World) (g gs gm : Nat) (d : Dsk) (h : Dk w g gs gm d) (ho : d.off = false) (i : Nat) (hi : i < d.n) (s : List UInt8) (hf : d.waits i = some s) : Calls Try.prog 12 #[ptr g, .int .i64 i] w (Told64 w s) := by
  have HR := Lib.hid (refuses_disk w g gs gm d i h)
  have hw : d.why i = 0 := by simp [Dsk.why, ho]; omega
  rw [hw] at HR
  have HS := Lib.hid (h.ok.2.2.2.1 i s hf).2
  have H3 := Lib.hid h.ok.2.1
  have HI := Lib.hid hi
  have HF := Lib.hid hf
  have HM := Lib.hid h.mp
  obtain ⟨z, hz⟩ := h.six
  have c1 := hz.c1
  clear hz h hw hi hf ho
  unfold ptr at HR ⊢
  go_enter Try.func12, Try.ntmps12
  go_wp2_with fail
  refine HR.out.mono ?_
  rintro e w1 ⟨rfl, rfl⟩
  have HLK := Lib.hid (look_some w gm d.n d.waits i s HI.out H3.out HF.out HM.out)
  go_wp2_with (first
    | (at_lookup; (with_reducible refine wpList_look w gm i _ HLK.out ?_ ?_); exact ⟨rfl, _, _, rfl, rfl, rfl⟩)
    | ((with_reducible refine wpList_alloc49 w ?_ ?_); exact ⟨rfl, rfl⟩)
    | ((with_reducible refine wpList_store49 w w.heap.size _ s rfl ?_ ?_ HS.out ?_); exact ⟨rfl, _, _, rfl, rfl, rfl⟩; rfl))
  go_ret2
  exact ⟨w.heap.size, rfl, heap_alloc_last w _, Nat.le_refl _, (Turn.refl [] w).alloc _⟩
set_option maxHeartbeats 400000 in
theorem read_safe (w : World) (g gs gm : Nat) (d : Dsk) (h : Dk w g gs gm d) (ho : d.off = false) (i : Nat) (hi : i < d.n) (hf : d.waits i = none) : Calls Try.prog 12 #[ptr g, .int .i64 i] w (Told64 w (d.safe i)) := by
  have HR := Lib.hid (refuses_disk w g gs gm d i h)
  have hw : d.why i = 0 := by simp [Dsk.why, ho]; omega
  rw [hw] at HR
  have HS := Lib.hid (h.ok.2.2.1 i hi)
  have H3 := Lib.hid h.ok.2.1
  have HI := Lib.hid hi
  have HF := Lib.hid hf
  have HM := Lib.hid h.mp
  have HL := Lib.hid (h.sf.2.2 i hi)
  have i0 : (0 : Int) ≤ i := by omega
  have i1 : (i : Int) < d.n := by omega
  obtain ⟨z, hz⟩ := h.six
  have c0 := hz.c0
  have c1 := hz.c1
  have gl := h.lt
  clear hz h hw hi hf ho
  unfold ptr at HR ⊢
  go_enter Try.func12, Try.ntmps12
  go_wp2_with fail
  refine HR.out.mono ?_
  rintro e w1 ⟨rfl, rfl⟩
  have HLK := Lib.hid (look_none w gm d.n d.waits i HI.out H3.out HF.out HM.out)
  have HLA := Lib.hid (World.rangeAt_alloc HL.out (.cells (cel nul).toArray 49))
  go_wp2_with (first
    | (at_lookup; (with_reducible refine wpList_look w gm i _ HLK.out ?_ ?_); exact ⟨rfl, _, _, rfl, rfl, rfl⟩)
    | ((with_reducible refine wpList_alloc49 w ?_ ?_); exact ⟨rfl, rfl⟩)
    | ((with_reducible refine wpList_load49 _ gs (i * 64) (d.safe i) HS.out HLA.out ?_ ?_); exact ⟨rfl, _, rfl, rfl⟩)
    | ((with_reducible refine wpList_store49 w w.heap.size _ nul rfl ?_ ?_ nul_length ?_); exact ⟨rfl, _, _, rfl, rfl, rfl⟩; rfl)
    | ((with_reducible refine wpList_store49 w w.heap.size _ (d.safe i) rfl ?_ ?_ HS.out ?_); exact ⟨rfl, _, _, rfl, rfl, rfl⟩; rfl))
  go_ret2
  exact ⟨w.heap.size, rfl, heap_alloc_last w _, Nat.le_refl _, (Turn.refl [] w).alloc _⟩
theorem read_disk (w : World) (g gs gm : Nat) (d : Dsk) (h : Dk w g gs gm d) (ho : d.off = false) (i : Nat) (hi : i < d.n) : Calls Try.prog 12 #[ptr g, .int .i64 i] w (Told64 w (d.read i)) := by
  cases hf : d.waits i with
  | none =>
    have e : d.read i = d.safe i := by simp [Dsk.read, hf]
    rw [e]
    exact read_safe w g gs gm d h ho i hi hf
  | some s =>
    have e : d.read i = s := by simp [Dsk.read, hf]
    rw [e]
    exact read_some w g gs gm d h ho i hi s hf
end Go.Proofs.Ythphcidpdjopeaa
