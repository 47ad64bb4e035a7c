/-
  What the program's survivor does: of a sector, at a crash. No condition beyond the sectors' size.
-/
import Derived.Test.YthphcidpdjopeaaRead
import Derived.Laws.CopyRow
import Derived.Laws.BitsLemmas
import Derived.Deep.DeepCutAuto
namespace Go.Proofs.Ythphcidpdjopeaa
open Go.RowKit Go.Maps
theorem i64_and3 (n : Int) : bits .and .i64 n 3 = n % 4 := by
  have h3 : (BitVec.ofInt 64 3).toNat = 2 ^ 2 - 1 := by decide
  have key : (BitVec.ofInt 64 n &&& BitVec.ofInt 64 3).toNat = (n % ((2 ^ 64 : Nat) : Int)).toNat % 2 ^ 2 := by
    rw [BitVec.toNat_and, BitVec.toNat_ofInt, h3, Nat.and_two_pow_sub_one_eq_mod]
  show IntKind.i64.wrap ((BitVec.ofInt 64 n &&& BitVec.ofInt 64 3).toNat : Nat) = n % 4
  rw [key, IntKind.wrap_i64]
  omega
theorem i64_and7 (n : Int) : bits .and .i64 n 7 = n % 8 := by
  have h3 : (BitVec.ofInt 64 7).toNat = 2 ^ 3 - 1 := by decide
  have key : (BitVec.ofInt 64 n &&& BitVec.ofInt 64 7).toNat = (n % ((2 ^ 64 : Nat) : Int)).toNat % 2 ^ 3 := by
    rw [BitVec.toNat_and, BitVec.toNat_ofInt, h3, Nat.and_two_pow_sub_one_eq_mod]
  show IntKind.i64.wrap ((BitVec.ofInt 64 n &&& BitVec.ofInt 64 7).toNat : Nat) = n % 8
  rw [key, IntKind.wrap_i64]
  omega
/-- Block b is one sector, known whole. -/
def Sec1 (w : World) (b : Nat) (s : List UInt8) : Prop := w.heap[b]? = some (.cells (cel s).toArray 49 (0, 0))
theorem Sec1.range {w : World} {b : Nat} {s : List UInt8} (h : Sec1 w b s) : w.rangeAt b 0 (cel s) := fun j v hv => by
  rw [cell_at h, Nat.zero_add]
  simpa using hv
theorem Sec1.setOther {w : World} {b k : Nat} {s : List UInt8} (h : Sec1 w b s) (hk : b ≠ k) (c : Array Value) : Sec1 (w.setRow k c) b s := by
  unfold Sec1 at *
  rw [← h]
  simp only [World.setRow, Array.getElem?_modify]
  rw [if_neg (fun e => hk e.symm)]
theorem Sec1.set {w : World} {b : Nat} {s t : List UInt8} (h : Sec1 w b s) : Sec1 (w.setRow b (cel t).toArray) b t := by
  unfold Sec1 at *
  simp [World.setRow, Array.getElem?_modify, h]
theorem Sec1.below {w w1 : World} {b : Nat} (h : Below w.heap.size w w1) (hb : w.heap.size ≤ b) (c : Array Value) : Below w.heap.size w (w1.setRow b c) :=
  ⟨h.os, h.tape, h.output, by simp [World.setRow]; exact h.size, fun k hk => by
    rw [← h.block k hk]
    simp only [World.setRow, Array.getElem?_modify]
    rw [if_neg (by omega)]⟩
section
variable {ops : Array Oper} {rest : List Oper} {o : Oper} {a : Act} {Q : Exit → Act → World → Prop}
theorem wpList_storeRow (w : World) (b : Nat) (s t : List UInt8) (h : Sec1 w b s) (hs : s.length = 64) (ht : t.length = 64) (ho : IsStore o a (.pointer (some ⟨b, 0, none⟩)) (.agg (cel t).toArray))
    (hK : wpList Try.prog ops Q rest (a.put o.dst undef) (w.setRow b (cel t).toArray)) : wpList Try.prog ops Q (o :: rest) a w := by
  obtain ⟨hg, x, y, ho, hx, hy⟩ := ho
  refine wpList_plain hg fun _ hK' => ?_
  have e : (storeVar 49 ⟨b, 0, none⟩ (.agg (cel t).toArray)).run Try.prog w = .ok () (w.setRow b (cel t).toArray) :=
    run_storeVar_row w b 49 49 _ _ h (by rw [List.size_toArray, cel_length, ht]; exact size49) (by rw [List.size_toArray, List.size_toArray, cel_length, cel_length, ht, hs]) (cel_all t)
  unfold Oper.wp execOp
  simp only [ho, hx, hy, Instr.storeAt, Instr.sureAddr, Sem.run_bind, Sem.run_pure, Result.andThen_ok, e]
  exact hK' _ _ hK
def IsCopy (o : Oper) (a : Act) (x' y' : Value) : Prop := o.guard = none ∧ ∃ x y, o.op = .call { callee := .builtin .copy, args := #[x, y], argTypes := #[29, 29] } ∧ a.eval x = x' ∧ a.eval y = y'
theorem size5i : (Try.prog.info? 5).map (·.size) = some 1 := by kernel_rfl
theorem wpList_copy32 (w : World) (k0 k1 off c c' : Nat) (s t : List UInt8) (h0 : Sec1 w k0 s) (h1 : Sec1 w k1 t) (hs : s.length = 64) (ht : t.length = 64) (hoff : off + 32 ≤ 64)
    (ho : IsCopy o a (.slice (some ⟨k0, off, none⟩) 32 c) (.slice (some ⟨k1, off, none⟩) 32 c'))
    (hK : wpList Try.prog ops Q rest (a.put o.dst (.int .i64 32)) (w.setRow k0 (cel (s.take off ++ (t.drop off).take 32 ++ s.drop (off + 32))).toArray)) : wpList Try.prog ops Q (o :: rest) a w := by
  obtain ⟨hg, x, y, ho, hx, hy⟩ := ho
  have hl : ((t.drop off).take 32).length = 32 := by simp; omega
  have e := run_copy_row (P := Try.prog) w 29 29 o.type 5 k0 off 32 c ⟨k1, off, none⟩ 32 c' _ 49 (cel ((t.drop off).take 32)) Try.underlying29 size5i h0 (by rw [cel_length, hl]; rfl)
    (fun j v hv => by
      have hj : j < 32 := by have := (List.getElem?_eq_some_iff.1 hv).1; rwa [cel_length, hl] at this
      rw [Addr.add_mid, cell_at h1, ← hv, ← cel_take, ← cel_drop]
      simp [hj]) (by rw [cel_length, hl, List.size_toArray, cel_length, hs]; exact hoff) (cel_one _)
  rw [cel_length, hl] at e
  have e2 : ((cel s).toArray.toList.take off ++ cel ((t.drop off).take 32) ++ (cel s).toArray.toList.drop (off + 32)) = cel (s.take off ++ (t.drop off).take 32 ++ s.drop (off + 32)) := by
    simp only [cel_take, cel_drop, cel_app]
  rw [e2] at e
  refine wpList_plain hg fun _ hK' => ?_
  unfold Oper.wp execOp
  simp only [ho, resolve, invoke, builtin, Sem.run_bind, Sem.run_pure, Result.andThen_ok, List.map_toArray, List.map_cons, List.map_nil, hx, hy, e]
  exact hK' _ _ hK
end
theorem surv_two {f : Int} (h : f % 4 = 2) (s t : List UInt8) : s.take 0 ++ (t.drop 0).take 32 ++ s.drop (0 + 32) = surv f s t := by simp [surv, h]
theorem surv_three {f : Int} (h : f % 4 = 3) {s t : List UInt8} (hs : s.length = 64) (ht : t.length = 64) : s.take 32 ++ (t.drop 32).take 32 ++ s.drop (32 + 32) = surv f s t := by
  have e1 : (t.drop 32).take 32 = t.drop 32 := List.take_of_length_le (by simp; omega)
  have e2 : s.drop (32 + 32) = [] := List.drop_eq_nil_of_le (by omega)
  rw [e1, e2]
  simp [surv, h]
def Left1 (w : World) (s : List UInt8) (e : Ending) (w' : World) : Prop := e = .returned (.agg (cel s).toArray) ∧ Below w.heap.size w w'
/-- The three blocks that survivor lays. -/
def W3 (w : World) (s t : List UInt8) : World := ((w.alloc (.cells (cel s).toArray 49)).alloc (.cells (cel t).toArray 49)).alloc (.cells (cel nul).toArray 49)
theorem w3_a (w : World) (s t : List UInt8) : Sec1 (W3 w s t) w.heap.size s :=
  (Below.heap_alloc _ _ _ (by simp; omega)).trans ((Below.heap_alloc _ _ _ (by simp)).trans (heap_alloc_last w _))
theorem w3_b (w : World) (s t : List UInt8) : Sec1 (W3 w s t) (w.heap.size + 1) t := by
  have := heap_alloc_last (w.alloc (.cells (cel s).toArray 49)) (.cells (cel t).toArray 49)
  rw [World.size_alloc] at this
  exact (Below.heap_alloc _ _ _ (by simp)).trans this
theorem w3_c (w : World) (s t : List UInt8) : Sec1 (W3 w s t) (w.heap.size + 1 + 1) nul := by
  have := heap_alloc_last ((w.alloc (.cells (cel s).toArray 49)).alloc (.cells (cel t).toArray 49)) (.cells (cel nul).toArray 49)
  rwa [World.size_alloc, World.size_alloc] at this
theorem w3_low (w : World) (s t : List UInt8) : Below w.heap.size w (W3 w s t) := (((Below.refl _ w).alloc (Nat.le_refl _) _).alloc (by simp) _).alloc (by simp; omega) _
theorem size_W3 (w : World) (s t : List UInt8) : (W3 w s t).heap.size = w.heap.size + 3 := by simp [W3]
theorem surv_end {tmps : Array Value} {W : World} {k : Nat} {r : List UInt8} (hp : tmps.getD 6 undef = .pointer (some ⟨k, 0, none⟩)) (h : Sec1 W k r) (hr : r.length = 64) : (results Try.f20 tmps).run Try.prog W = .ok (.agg (cel r).toArray) W :=
  results_cell_row (P := Try.prog) (ty := 49) (p := 6) rfl tmps W k 49 _ (0, 0) _ hp h Try.underlying49 rfl (by rw [List.size_toArray, cel_length, hr]; exact size49)
set_option maxHeartbeats 400000 in
theorem surv_one (w : World) (f : Int) (s t : List UInt8) (hs : s.length = 64) (ht : t.length = 64) (hf : f % 4 = 1) : Calls Try.prog 20 #[.int .i64 f, .agg (cel s).toArray, .agg (cel t).toArray] w (Left1 w (surv f s t)) := by
  have e : surv f s t = t := by simp [surv, hf]
  have hb : bits .and .i64 f 3 = 1 := (i64_and3 f).trans hf
  have HR := Lib.hid (surv_length f hs ht)
  have HS := Lib.hid hs
  have HT := Lib.hid ht
  have HA := Lib.hid (w3_a w s t)
  have HB := Lib.hid (w3_b w s t)
  have HC := Lib.hid (w3_c w s t)
  have HL := Lib.hid (w3_low w s t)
  generalize hrr : surv f s t = r at *
  have HE := Lib.hid e
  clear hs ht hf e hrr
  go_enter Try.func20, Try.ntmps20
  go_upto_region 1 with (first
    | ((with_reducible refine wpList_alloc49 _ ?_ ?_); exact ⟨rfl, rfl⟩))
  have hw : ((w.alloc (.cells (cel s).toArray 49)).alloc (.cells (cel t).toArray 49)).alloc (.cells (cel nul).toArray 49) = W3 w s t := rfl
  rw [hw]
  clear hw
  generalize W3 w s t = W at *
  have k1 : w.heap.size ≠ w.heap.size + 1 := by omega
  have k2 : w.heap.size + 1 + 1 ≠ w.heap.size := by omega
  obtain rfl := HE.out
  have HA1 := Lib.hid (HA.out.set (t := r))
  have HC1 := Lib.hid (HC.out.setOther k2 (cel r).toArray)
  have HL1 := Lib.hid (Sec1.below HL.out (Nat.le_refl _) (cel r).toArray)
  go_wp2_with (first
    | ((with_reducible refine wpList_load49 W (w.heap.size + 1) 0 r HR.out HB.out.range ?_ ?_); exact ⟨rfl, _, rfl, rfl⟩)
    | ((with_reducible refine wpList_storeRow W w.heap.size s r HA.out HS.out HR.out ?_ ?_); exact ⟨rfl, _, _, rfl, rfl, rfl⟩)
    | ((with_reducible refine wpList_load49 (W.setRow w.heap.size (cel r).toArray) w.heap.size 0 r HR.out HA1.out.range ?_ ?_); exact ⟨rfl, _, rfl, rfl⟩)
    | ((with_reducible refine wpList_storeRow (W.setRow w.heap.size (cel r).toArray) (w.heap.size + 1 + 1) nul r HC1.out nul_length HR.out ?_ ?_); exact ⟨rfl, _, _, rfl, rfl, rfl⟩))
  try simp only [Exit.inBlock, Exit.then]
  refine bodyPost_ret (surv_end rfl HC1.out.set HR.out) rfl ?_
  exact ⟨rfl, Sec1.below HL1.out (by omega) _⟩
set_option maxHeartbeats 400000 in
theorem surv_zero (w : World) (f : Int) (s t : List UInt8) (hs : s.length = 64) (ht : t.length = 64) (hf : f % 4 = 0) : Calls Try.prog 20 #[.int .i64 f, .agg (cel s).toArray, .agg (cel t).toArray] w (Left1 w (surv f s t)) := by
  have e : surv f s t = s := by simp [surv, hf]
  have hb : bits .and .i64 f 3 = 0 := (i64_and3 f).trans hf
  have HR := Lib.hid (surv_length f hs ht)
  have HS := Lib.hid hs
  have HT := Lib.hid ht
  have HA := Lib.hid (w3_a w s t)
  have HB := Lib.hid (w3_b w s t)
  have HC := Lib.hid (w3_c w s t)
  have HL := Lib.hid (w3_low w s t)
  generalize hrr : surv f s t = r at *
  have HE := Lib.hid e
  clear hs ht hf e hrr
  go_enter Try.func20, Try.ntmps20
  go_upto_region 1 with (first
    | ((with_reducible refine wpList_alloc49 _ ?_ ?_); exact ⟨rfl, rfl⟩))
  have hw : ((w.alloc (.cells (cel s).toArray 49)).alloc (.cells (cel t).toArray 49)).alloc (.cells (cel nul).toArray 49) = W3 w s t := rfl
  rw [hw]
  clear hw
  generalize W3 w s t = W at *
  have k1 : w.heap.size ≠ w.heap.size + 1 := by omega
  have k2 : w.heap.size + 1 + 1 ≠ w.heap.size := by omega
  obtain rfl := HE.out
  go_wp2_with (first
    | ((with_reducible refine wpList_load49 W w.heap.size 0 r HR.out HA.out.range ?_ ?_); exact ⟨rfl, _, rfl, rfl⟩)
    | ((with_reducible refine wpList_storeRow W (w.heap.size + 1 + 1) nul r HC.out nul_length HR.out ?_ ?_); exact ⟨rfl, _, _, rfl, rfl, rfl⟩))
  try simp only [Exit.inBlock, Exit.then]
  refine bodyPost_ret (surv_end rfl HC.out.set HR.out) rfl ?_
  exact ⟨rfl, Sec1.below HL.out (by omega) _⟩
set_option maxHeartbeats 400000 in
theorem surv_two_ (w : World) (f : Int) (s t : List UInt8) (hs : s.length = 64) (ht : t.length = 64) (hf : f % 4 = 2) : Calls Try.prog 20 #[.int .i64 f, .agg (cel s).toArray, .agg (cel t).toArray] w (Left1 w (surv f s t)) := by
  have e : s.take 0 ++ (t.drop 0).take 32 ++ s.drop (0 + 32) = surv f s t := surv_two hf s t
  have hb : bits .and .i64 f 3 = 2 := (i64_and3 f).trans hf
  have HR := Lib.hid (surv_length f hs ht)
  have HS := Lib.hid hs
  have HT := Lib.hid ht
  have HA := Lib.hid (w3_a w s t)
  have HB := Lib.hid (w3_b w s t)
  have HC := Lib.hid (w3_c w s t)
  have HL := Lib.hid (w3_low w s t)
  generalize hrr : surv f s t = r at *
  have HE := Lib.hid e
  clear hs ht hf e hrr
  go_enter Try.func20, Try.ntmps20
  go_upto_region 1 with (first
    | ((with_reducible refine wpList_alloc49 _ ?_ ?_); exact ⟨rfl, rfl⟩))
  have hw : ((w.alloc (.cells (cel s).toArray 49)).alloc (.cells (cel t).toArray 49)).alloc (.cells (cel nul).toArray 49) = W3 w s t := rfl
  rw [hw]
  clear hw
  generalize W3 w s t = W at *
  have k1 : w.heap.size ≠ w.heap.size + 1 := by omega
  have k2 : w.heap.size + 1 + 1 ≠ w.heap.size := by omega
  have HA1 := Lib.hid (HA.out.set (t := r))
  have HC1 := Lib.hid (HC.out.setOther k2 (cel r).toArray)
  have HL1 := Lib.hid (Sec1.below HL.out (Nat.le_refl _) (cel r).toArray)
  go_wp2_with fail
  refine wp_region_still_tail 2 (by kernel_rfl) (by kernel_rfl) ?_
  simp only [List.take_succ_cons, List.take_zero, List.drop_succ_cons, List.drop_zero]
  iterate 2 still_step
  refine wpStill_nil ?_
  change wpList _ _ _ _ _ W.drew
  refine wpList_copy32 W.drew w.heap.size (w.heap.size + 1) 0 _ _ s t HA.out HB.out HS.out HT.out (by omega) ⟨rfl, _, _, rfl, rfl, rfl⟩ ?_
  rw [HE.out]
  have HA2 : Hid (Sec1 (W.drew.setRow w.heap.size (cel r).toArray) w.heap.size r) := HA1
  have HC2 : Hid (Sec1 (W.drew.setRow w.heap.size (cel r).toArray) (w.heap.size + 1 + 1) nul) := HC1
  have HL2 : Hid (Below w.heap.size w (W.drew.setRow w.heap.size (cel r).toArray)) := Lib.hid ⟨HL1.out.os, HL1.out.tape, HL1.out.output, HL1.out.size, HL1.out.block⟩
  generalize W.drew.setRow w.heap.size (cel r).toArray = X at *
  go_wp2_with (first
    | ((with_reducible refine wpList_load49 X w.heap.size 0 r HR.out HA2.out.range ?_ ?_); exact ⟨rfl, _, rfl, rfl⟩)
    | ((with_reducible refine wpList_storeRow X (w.heap.size + 1 + 1) nul r HC2.out nul_length HR.out ?_ ?_); exact ⟨rfl, _, _, rfl, rfl, rfl⟩))
  try simp only [Exit.inBlock, Exit.then]
  refine bodyPost_ret (surv_end rfl HC2.out.set HR.out) rfl ?_
  exact ⟨rfl, Sec1.below HL2.out (by omega) _⟩
set_option maxHeartbeats 400000 in
theorem surv_three_ (w : World) (f : Int) (s t : List UInt8) (hs : s.length = 64) (ht : t.length = 64) (hf : f % 4 = 3) : Calls Try.prog 20 #[.int .i64 f, .agg (cel s).toArray, .agg (cel t).toArray] w (Left1 w (surv f s t)) := by
  have e : s.take 32 ++ (t.drop 32).take 32 ++ s.drop (32 + 32) = surv f s t := surv_three hf hs ht
  have hb : bits .and .i64 f 3 = 3 := (i64_and3 f).trans hf
  have HR := Lib.hid (surv_length f hs ht)
  have HS := Lib.hid hs
  have HT := Lib.hid ht
  have HA := Lib.hid (w3_a w s t)
  have HB := Lib.hid (w3_b w s t)
  have HC := Lib.hid (w3_c w s t)
  have HL := Lib.hid (w3_low w s t)
  generalize hrr : surv f s t = r at *
  have HE := Lib.hid e
  clear hs ht hf e hrr
  go_enter Try.func20, Try.ntmps20
  go_upto_region 1 with (first
    | ((with_reducible refine wpList_alloc49 _ ?_ ?_); exact ⟨rfl, rfl⟩))
  have hw : ((w.alloc (.cells (cel s).toArray 49)).alloc (.cells (cel t).toArray 49)).alloc (.cells (cel nul).toArray 49) = W3 w s t := rfl
  rw [hw]
  clear hw
  generalize W3 w s t = W at *
  have k1 : w.heap.size ≠ w.heap.size + 1 := by omega
  have k2 : w.heap.size + 1 + 1 ≠ w.heap.size := by omega
  have HA1 := Lib.hid (HA.out.set (t := r))
  have HC1 := Lib.hid (HC.out.setOther k2 (cel r).toArray)
  have HL1 := Lib.hid (Sec1.below HL.out (Nat.le_refl _) (cel r).toArray)
  go_wp2_with fail
  refine wp_region_still_tail 2 (by kernel_rfl) (by kernel_rfl) ?_
  simp only [List.take_succ_cons, List.take_zero, List.drop_succ_cons, List.drop_zero]
  iterate 2 still_step
  refine wpStill_nil ?_
  change wpList _ _ _ _ _ W.drew
  refine wpList_copy32 W.drew w.heap.size (w.heap.size + 1) 32 _ _ s t HA.out HB.out HS.out HT.out (by omega) ⟨rfl, _, _, rfl, rfl, rfl⟩ ?_
  rw [HE.out]
  have HA2 : Hid (Sec1 (W.drew.setRow w.heap.size (cel r).toArray) w.heap.size r) := HA1
  have HC2 : Hid (Sec1 (W.drew.setRow w.heap.size (cel r).toArray) (w.heap.size + 1 + 1) nul) := HC1
  have HL2 : Hid (Below w.heap.size w (W.drew.setRow w.heap.size (cel r).toArray)) := Lib.hid ⟨HL1.out.os, HL1.out.tape, HL1.out.output, HL1.out.size, HL1.out.block⟩
  generalize W.drew.setRow w.heap.size (cel r).toArray = X at *
  go_wp2_with (first
    | ((with_reducible refine wpList_load49 X w.heap.size 0 r HR.out HA2.out.range ?_ ?_); exact ⟨rfl, _, rfl, rfl⟩)
    | ((with_reducible refine wpList_storeRow X (w.heap.size + 1 + 1) nul r HC2.out nul_length HR.out ?_ ?_); exact ⟨rfl, _, _, rfl, rfl, rfl⟩))
  try simp only [Exit.inBlock, Exit.then]
  refine bodyPost_ret (surv_end rfl HC2.out.set HR.out) rfl ?_
  exact ⟨rfl, Sec1.below HL2.out (by omega) _⟩
theorem survivor_any (w : World) (f : Int) (s t : List UInt8) (hs : s.length = 64) (ht : t.length = 64) : Calls Try.prog 20 #[.int .i64 f, .agg (cel s).toArray, .agg (cel t).toArray] w (Left1 w (surv f s t)) := by
  have h4 : f % 4 = 0 ∨ f % 4 = 1 ∨ f % 4 = 2 ∨ f % 4 = 3 := by omega
  rcases h4 with h | h | h | h
  · exact surv_zero w f s t hs ht h
  · exact surv_one w f s t hs ht h
  · exact surv_two_ w f s t hs ht h
  · exact surv_three_ w f s t hs ht h
end Go.Proofs.Ythphcidpdjopeaa
