/-
  The program's bringBack: a name stands for what it hides.
-/
import Derived.Test.YtbhgbgaeaejnhaaZOps
import Derived.StillTailTactics
namespace Go.Proofs.Ytbhgbgaeaejnhaa.Typ
open Go.RowKit Tre
open OwnR (OwnG)
set_option maxRecDepth 100000
set_option linter.unusedSimpArgs false
/-- A map that is there. -/
def MH (w : World) (gm m : Nat) (f : ByteArray → Option Vr) : Prop := ∃ D, w.ownsMap Try.prog 9 R0 gm m D ∧ TM D f
theorem MH.keep {w w' : World} {gm m : Nat} {f : ByteArray → Option Vr} (h : MH w gm m f) (hb : w'.heap[gm]? = w.heap[gm]?) : MH w' gm m f := by
  obtain ⟨D, ⟨es, c, h1, h2⟩, ht⟩ := h
  exact ⟨D, ⟨es, c, hb.trans h1, h2⟩, ht⟩
theorem MH.lt {w : World} {gm m : Nat} {f : ByteArray → Option Vr} (h : MH w gm m f) : gm < w.heap.size := by
  obtain ⟨D, h, _⟩ := h
  exact h.lt
theorem wpList_del (w : World) {ops : Array Oper} {rest : List Oper} {o : Oper} {a : Act} {Q : Exit → Act → World → Prop} (hg : o.guard = none) (x y : Operand) (hop : o.op = Op.call { callee := Callee.builtin Builtin.delete, args := #[x, y], argTypes := #[46, 9] })
    (gm m : Nat) (f : ByteArray → Option Vr) (s : ByteArray) (hx : a.eval x = .map (some gm)) (hy : a.eval y = .string s) (h : MH w gm m f) (hs : s.size ≤ maxLen)
    (hK : ∀ w', MH w' gm m (upF f s none) → w.grownBy w' (some gm) → wpList Try.prog ops Q rest (a.put o.dst (.tuple #[])) w') : wpList Try.prog ops Q (o :: rest) a w := by
  obtain ⟨D, hown, hT⟩ := h
  refine wpList_delete_own w hg x y 46 9 hop 79 keyedS Try.underlying46 R0 gm m D hx hown _ (ksS s) hy (key_of hs) ?_
  intro w' h1 h2
  exact hK w' ⟨_, h1, hT.del s⟩ h2.grown
theorem wpList_put (w : World) {ops : Array Oper} {rest : List Oper} {o : Oper} {a : Act} {Q : Exit → Act → World → Prop} (hg : o.guard = none) (x y z : Operand) (hop : o.op = Op.mapUpdate 46 x y z)
    (gm m : Nat) (f : ByteArray → Option Vr) (s : ByteArray) (v : Vr) (hx : a.eval x = .map (some gm)) (hy : a.eval y = .string s) (hz : a.eval z = varV (some v)) (h : MH w gm m f) (hs : s.size ≤ maxLen) (hm : m < maxLen)
    (hK : ∀ w', MH w' gm (m + 1) (upF f s (some v)) → w.grownBy w' (some gm) → wpList Try.prog ops Q rest (a.put o.dst undef) w') : wpList Try.prog ops Q (o :: rest) a w := by
  obtain ⟨D, hown, hT⟩ := h
  refine wpList_mapUpdate_own w hg x y z 46 hop 9 79 keyedS Try.underlying46 R0 gm m D hx hown hm _ _ (ksS s) hy hz (key_of hs) (.held (varV (some v))) [] rfl ?_
  intro w' h1 h2
  exact hK w' ⟨_, h1, hT.put hown.isMap s v⟩ h2
/-- What bringBack leaves. -/
def BrQ (w : World) (gm m : Nat) (f : ByteArray → Option Vr) (s : ByteArray) (u : Option Vr) (e : Ending) (w' : World) : Prop := e = .returned (.tuple #[]) ∧ MH w' gm (m + 1) (upF f s u) ∧ TurnS (fun b => b = gm) w w'
set_option maxHeartbeats 4000000 in
theorem bring_none {w : World} {g gm m : Nat} {ov : Value} {N : Int} {f : ByteArray → Option Vr} (hbox : w.heap[g]? = some (.cells #[.map (some gm), ov, .int .i64 N] 49 (0, 0))) (h : MH w gm m f) (s : ByteArray) (hs : s.size ≤ maxLen) :
    Calls Try.prog 45 #[.pointer (some ⟨g, 0, none⟩), .agg #[.string s, .int .u8 0, .int .i64 0, .int .i64 0]] w (BrQ w gm m f s none) := by
  have hb := ball_new w #[.string s, .int .u8 0, .int .i64 0, .int .i64 0] 81
  have HB := Lib.hid hb
  have hn := new_at w #[.string s, .int .u8 0, .int .i64 0, .int .i64 0] 81
  have c0 := cell_at ((hb.block g (lt_of_heap hbox)).trans hbox) 0
  have n0 := cell_at hn 0
  have n3 := cell_at hn 3
  have HM : Hid (MH _ gm m f) := Lib.hid (h.keep (hb.block gm h.lt))
  have HS := Lib.hid hs
  simp only [List.getElem?_toArray, List.getElem?_cons_zero, List.getElem?_cons_succ] at c0 n0 n3
  clear hb hbox h hs hn
  go_enter Try.func45, Try.ntmps45
  go_wp2_with fail
  generalize w.alloc (.cells #[.string s, .int .u8 0, .int .i64 0, .int .i64 0] 81) = W at *
  refine wp_region_still_tail 6 (by kernel_rfl) (by kernel_rfl) ?_
  simp only [List.take_succ_cons, List.take_zero, List.drop_succ_cons, List.drop_zero]
  iterate 6 still_step
  refine wpStill_nil ?_
  change wpList _ _ _ _ _ W.drew
  refine wpList_del W.drew rfl _ _ rfl gm m f s rfl rfl (HM.out.keep rfl) HS.out ?_
  intro w2 hm2 hg2
  have HH := Lib.hid (And.intro hm2 hg2)
  clear hm2 hg2
  go_wp2
  go_end0
  refine ⟨rfl, ?_, ((TurnS.refl _ w).below (HB.out.trans ((Below.refl _ W).drew.mono HB.out.size))).grown HH.out.2 fun k e => .inl (by injection e with e; exact e.symm)⟩
  obtain ⟨D, h1, h2⟩ := HH.out.1
  exact ⟨D, h1.mono (Nat.le_succ m), h2⟩
set_option maxHeartbeats 4000000 in
theorem bring_some {w : World} {g gm m : Nat} {ov : Value} {N : Int} {f : ByteArray → Option Vr} (hbox : w.heap[g]? = some (.cells #[.map (some gm), ov, .int .i64 N] 49 (0, 0))) (h : MH w gm m f) (s : ByteArray) (hs : s.size ≤ maxLen) (hm : m < maxLen) (v : Vr) (hv : (v.k == 0) = false) :
    Calls Try.prog 45 #[.pointer (some ⟨g, 0, none⟩), .agg #[.string s, .int .u8 v.t, .int .i64 v.n, .int .i64 v.k]] w (BrQ w gm m f s (some v)) := by
  have hb := ball_new w #[.string s, .int .u8 v.t, .int .i64 v.n, .int .i64 v.k] 81
  have HB := Lib.hid hb
  have hn := new_at w #[.string s, .int .u8 v.t, .int .i64 v.n, .int .i64 v.k] 81
  have c0 := cell_at ((hb.block g (lt_of_heap hbox)).trans hbox) 0
  have n0 := cell_at hn 0
  have n1 := cell_at hn 1
  have n2 := cell_at hn 2
  have n3 := cell_at hn 3
  have HM : Hid (MH _ gm m f) := Lib.hid (h.keep (hb.block gm h.lt))
  have HS := Lib.hid hs
  have HMM := Lib.hid hm
  simp only [List.getElem?_toArray, List.getElem?_cons_zero, List.getElem?_cons_succ] at c0 n0 n1 n2 n3
  clear hb hbox h hs hn hm
  go_enter Try.func45, Try.ntmps45
  go_wp2_with fail
  generalize w.alloc (.cells #[.string s, .int .u8 v.t, .int .i64 v.n, .int .i64 v.k] 81) = W at *
  refine wp_region_still_tail 8 (by kernel_rfl) (by kernel_rfl) ?_
  simp only [List.take_succ_cons, List.take_zero, List.drop_succ_cons, List.drop_zero]
  iterate 8 still_step
  refine wpStill_nil ?_
  change wpList _ _ _ _ _ W.drew
  refine wpList_put W.drew rfl _ _ _ rfl gm m f s v rfl rfl rfl (HM.out.keep rfl) HS.out HMM.out ?_
  intro w2 hm2 hg2
  have HH := Lib.hid (And.intro hm2 hg2)
  clear hm2 hg2
  go_wp2
  go_end0
  exact ⟨rfl, HH.out.1, ((TurnS.refl _ w).below (HB.out.trans ((Below.refl _ W).drew.mono HB.out.size))).grown HH.out.2 fun k e => .inl (by injection e with e; exact e.symm)⟩
theorem bring_any {w : World} {g gm m : Nat} {ov : Value} {N : Int} {f : ByteArray → Option Vr} (hbox : w.heap[g]? = some (.cells #[.map (some gm), ov, .int .i64 N] 49 (0, 0))) (h : MH w gm m f) (s : ByteArray) (hs : s.size ≤ maxLen) (hm : m < maxLen) (u : Option Vr) (hu : ∀ v, u = some v → 1 ≤ v.k) :
    Calls Try.prog 45 #[.pointer (some ⟨g, 0, none⟩), .agg (nmC (s, u)).toArray] w (BrQ w gm m f s u) := by
  cases u with
  | none => exact bring_none hbox h s hs
  | some v => exact bring_some hbox h s hs hm v (by rw [beq_eq_false_iff_ne]; have := hu v rfl; omega)
end Go.Proofs.Ytbhgbgaeaejnhaa.Typ
