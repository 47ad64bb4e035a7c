/-
  Are two functions the same (the package's own): what sameFunc and the library's EqualFunc over it answer. Conditions: both trees lie in memory.
-/
import Derived.Test.YtlhbhpdpjidpgaaGreatDoorZ10
import Derived.RangeFuncNested
import Derived.RangeFuncBound
import Derived.RangeFuncKeeps
import Derived.RangeFuncBox
import Derived.RangeFuncCalls
import Derived.RangeFuncLeaves
import Derived.Shelf.RegionOpen
import Derived.OwnWalkIn
import Derived.TacticsInMore
import Derived.LoopNIn
import Derived.LoopIn
namespace Go.Proofs.YtlhbhpdpjidpgaaGreatDoor.Tre
open Go.RowKit
set_option maxRecDepth 100000
theorem equalB (x y : List St) (A B : Option Addr) (c d : Nat) (w : World) (hx : Row 9 stC w A x) (hy : Row 9 stC w B y) (hl : x.length ≤ most) (sx : ∀ s ∈ x, StIn w s) (sy : ∀ s ∈ y, StIn w s) :
    Calls Tryz.prog 66 #[.slice A x.length c, .slice B y.length d, .func (.func 67) #[] #[]] w (EndsB (.bool (sameB x y)) w) :=
  equalS x y A B c d w hx hy hl fun a ha b hb w2 hw2 => Lib.hid (sameStmt_any a b w2 ((sx a ha).below hw2) ((sy b hb).below hw2))
set_option maxHeartbeats 4000000 in
theorem sameFunc_any (a b : Fn) (w : World) (ha : FnIn w a) (hb : FnIn w b) : Calls Tryz.prog 39 #[fnV a, fnV b] w (EndsB (.bool (sameF a b)) w) := by
  have CP := fun (w' : World) (hw : Below w.heap.size w w') => Lib.hid (equalP a.p b.p a.pa b.pa a.pc b.pc w' (ha.p.below hw) (hb.p.below hw) ha.plen)
  have CB := fun (w' : World) (hw : Below w.heap.size w w') => Lib.hid (equalB a.b b.b a.ba b.ba a.bc b.bc w' (ha.b.below hw) (hb.b.below hw) ha.blen (fun s hs => (ha.sts s hs).below hw) (fun s hs => (hb.sts s hs).below hw))
  clear ha hb
  unfold sameF
  rw [fnV_eq, fnV_eq]
  have HB := Lib.hid (two_new w #[.string a.s, .slice a.pa a.p.length a.pc, .int .u8 a.r, .slice a.ba a.b.length a.bc] #[.string b.s, .slice b.pa b.p.length b.pc, .int .u8 b.r, .slice b.ba b.b.length b.bc] 51)
  generalize allTwo samePar a.p b.p = t1 at *
  generalize sameB a.b b.b = t2 at *
  generalize a.p.length = k1 at *
  generalize b.p.length = k2 at *
  generalize a.b.length = k3 at *
  generalize b.b.length = k4 at *
  rcases Bool.eq_false_or_eq_true (a.s.toList == b.s.toList) with h1 | h1
  · rcases Bool.eq_false_or_eq_true (a.r == b.r) with h2 | h2
    all_goals go_enter Tryz.func39, Tryz.ntmps39
    all_goals go_wp2_with fail
    all_goals refine (CP _ HB.out).out.mono ?_
    all_goals rintro e w1 ⟨rfl, hb1⟩
    all_goals have HB1 := Lib.hid (HB.out.trans (hb1.mono HB.out.size))
    all_goals have HX1 := Lib.hid hb1
    all_goals obtain ⟨z2, y2⟩ := box_at hb1 2
    all_goals obtain ⟨z3, y3⟩ := box_at hb1 3
    all_goals simp only [List.getElem?_toArray, List.getElem?_cons_succ, List.getElem?_cons_zero] at z2 z3 y2 y3
    all_goals clear hb1
    · rcases Bool.eq_false_or_eq_true t1 with ht | ht <;> subst ht
      · go_wp2_with fail
        refine (CB _ HB1.out).out.mono ?_
        rintro e w2 ⟨rfl, hb2⟩
        have HB2 := Lib.hid (HB1.out.trans (hb2.mono HB1.out.size))
        clear hb2
        go_wp2_with fail
        go_ret
        exact ends_bool (by simp [*]) HB2.out
      · go_wp2_with fail
        go_ret
        exact ends_bool (by simp [*]) HB1.out
    · rcases Bool.eq_false_or_eq_true t1 with ht | ht <;> subst ht
      all_goals go_wp2_with fail
      all_goals go_ret
      all_goals exact ends_bool (by simp [*]) HB1.out
  · clear CP CB
    go_enter Tryz.func39, Tryz.ntmps39
    go_wp2_with fail
    go_ret
    exact ends_bool (by simp [*]) HB.out
theorem equalFn (x y : List Fn) (A B : Option Addr) (c d : Nat) (w : World) (hx : Row 4 fnC w A x) (hy : Row 4 fnC w B y) (hl : x.length ≤ most) (sx : ∀ s ∈ x, FnIn w s) (sy : ∀ s ∈ y, FnIn w s) :
    Calls Tryz.prog 38 #[.slice A x.length c, .slice B y.length d, .func (.func 39) #[] #[]] w (EndsB (.bool (allTwo sameF x y)) w) :=
  equalF x y A B c d w hx hy hl fun a ha b hb w2 hw2 => Lib.hid (sameFunc_any a b w2 ((sx a ha).below hw2) ((sy b hb).below hw2))
end Go.Proofs.YtlhbhpdpjidpgaaGreatDoor.Tre
/- What a round of a loop over a tree keeps: all that lay below lo; all cells that lay from hi on. What a loop over a tree asks of each round. No condition. -/
namespace Go.Proofs.YtlhbhpdpjidpgaaGreatDoor.Tre
open Go.RowKit
set_option maxRecDepth 100000
/-- All cells but those of S, and all that is no cells from top on, lie as they lay. -/
structure Keep (S : Nat → Prop) (top : Nat) (W W' : World) : Prop where
  size : W.heap.size ≤ W'.heap.size
  high : ∀ (k : Nat) (o : Obj), ¬ S k → W.heap[k]? = some o → o.isCells = true → W'.heap[k]? = some o
  rest : ∀ (k : Nat) (o : Obj), top ≤ k → W.heap[k]? = some o → o.isCells = false → W'.heap[k]? = some o
section
variable {S : Nat → Prop} {top : Nat} {A B C : World}
theorem Keep.refl (S : Nat → Prop) (top : Nat) (W : World) : Keep S top W W := ⟨Nat.le_refl _, fun _ _ _ h _ => h, fun _ _ _ h _ => h⟩
theorem Keep.trans (h : Keep S top A B) (k : Keep S top B C) : Keep S top A C :=
  ⟨Nat.le_trans h.size k.size, fun i o hi ho hc => k.high i o hi (h.high i o hi ho hc) hc, fun i o hi ho hc => k.rest i o hi (h.rest i o hi ho hc) hc⟩
theorem Keep.below (hb : Below A.heap.size A B) : Keep S top A B :=
  ⟨hb.size, fun k _ _ ho _ => (hb.block k (lt_of_heap ho)).trans ho, fun k _ _ ho _ => (hb.block k (lt_of_heap ho)).trans ho⟩
theorem Keep.alloc (o : Obj) : Keep S top A (A.alloc o) := Keep.below ((Below.refl _ A).alloc (Nat.le_refl _) o)
theorem Keep.drew : Keep S top A A.drew := ⟨Nat.le_refl _, fun _ _ _ h _ => h, fun _ _ _ h _ => h⟩
/-- One's own cells may turn. -/
theorem Keep.set {b i : Nat} {v : Value} (h1 : S b) {cs : Array Value} {T : TypeId} (hc : A.heap[b]? = some (.cells cs T (0, 0))) : Keep S top A (A.setCell ⟨b, i, none⟩ v) :=
  ⟨by simp [World.setCell], fun k o hk ho _ => (Below.heap_setCell A _ v k (by rintro rfl; exact hk h1)).trans ho,
   fun k o _ ho hn => (Below.heap_setCell A _ v k (by rintro rfl; rw [hc] at ho; cases ho; simp [Obj.isCells] at hn)).trans ho⟩
/-- A record that is no cells may turn, below top. -/
theorem Keep.put {l : Nat} {o : Obj} (o' : Obj) (h2 : l < top) (hl : A.heap[l]? = some o) (hn : o.isCells = false) : Keep S top A (A.putObj l o') :=
  ⟨by simp, fun k o2 _ ho hc => (World.putObj_heap_other (by rintro rfl; rw [hl] at ho; cases ho; rw [hn] at hc; cases hc)).trans ho, fun k o2 hk ho _ => (World.putObj_heap_other (by omega)).trans ho⟩
theorem Keep.cell (h : Keep S top A B) {k : Nat} {cs : Array Value} {T : TypeId} (hk : ¬ S k) (hc : A.heap[k]? = some (.cells cs T (0, 0))) : B.heap[k]? = some (.cells cs T (0, 0)) := h.high k _ hk hc rfl
theorem Keep.more {S' : Nat → Prop} {top' : Nat} (h : Keep S top A B) (h1 : ∀ b, S b → S' b) (h3 : top ≤ top') : Keep S' top' A B := ⟨h.size, fun k o hk => h.high k o (fun hs => hk (h1 k hs)), fun k o hk => h.rest k o (by omega)⟩
end
/-- All cells of w0 lie in W. -/
def Low (w0 W : World) : Prop := ∀ (k : Nat) (o : Obj), w0.heap[k]? = some o → o.isCells = true → W.heap[k]? = some o
theorem Low.keep {w0 A B : World} {S : Nat → Prop} {hi top : Nat} (h : Low w0 A) (h0 : ∀ b, S b → w0.heap.size ≤ b ∧ b < hi) (k : Keep S top A B) : Low w0 B := fun i o ho hc => k.high i o (fun hs => by have := (h0 i hs).1; have := lt_of_heap ho; omega) (h i o ho hc) hc
theorem Low.below {w0 A : World} (h : Below w0.heap.size w0 A) : Low w0 A := fun k _ ho _ => (h.block k (lt_of_heap ho)).trans ho
theorem Low.later {w0 A B : World} (h : Low w0 A) (hb : Below A.heap.size A B) : Low w0 B := fun k o ho hc => (hb.block k (lt_of_heap (h k o ho hc))).trans (h k o ho hc)
theorem cells_cell {W : World} {a : Addr} {v : Value} (h : W.cell? a = some v) : ∃ o : Obj, W.heap[a.block]? = some o ∧ o.isCells = true := by
  unfold World.cell? at h
  cases ho : W.heap[a.block]? with
  | none => simp [ho] at h
  | some o => cases o <;> simp [ho, Obj.isCells] at h ⊢
theorem Row.low {α : Type} {k : Nat} {C : α → List Value} {w0 W : World} {A : Option Addr} {l : List α} (h : Row k C w0 A l) (hb : Low w0 W) {j : Nat} {x : α} (hx : l[j]? = some x) :
    ∃ b o, A = some ⟨b, o, none⟩ ∧ b < w0.heap.size ∧ ∀ (r : Nat) (u : Value), (C x)[r]? = some u → W.cell? ⟨b, o + j * k + r, none⟩ = some u := by
  obtain ⟨b, o, e, hlt, hc⟩ := h (by have := (List.getElem?_eq_some_iff.1 hx).1; omega)
  refine ⟨b, o, e, hlt, fun r u hu => ?_⟩
  have h1 := hc j x hx r u hu
  obtain ⟨ob, ho, hcell⟩ := cells_cell h1
  exact (World.cell?_of_block (w := w0) ((hb b ob ho hcell).trans ho.symm)).trans h1
/-- Whatever turns from block B on is nothing to it. -/
def Mine {β : Type} (B : Nat) (J : β → World → Prop) : Prop := ∀ s W W' row, J s W → W.grownBy W' row → (∀ r, row = some r → B ≤ r) → J s W'
section
variable {β : Type} {B : Nat} {J : β → World → Prop}
theorem Mine.own (h : Mine B J) : OwnFrom B J := fun s W W' row hs hg hr => h s W W' row hs hg (fun r e => (hr r e).1)
theorem Mine.alloc (h : Mine B J) {s : β} {W : World} (o : Obj) (hs : J s W) : J s (W.alloc o) := h s W _ none hs (World.grownBy_alloc W o none) (fun r e => by cases e)
theorem Mine.putObj (h : Mine B J) {s : β} {W : World} {l : Nat} (o' : Obj) (hs : J s W) (hB : B ≤ l) : J s (W.putObj l o') := h s W _ (some l) hs (grownBy_putObj' W l o') (fun r e => by cases e; exact hB)
theorem Mine.setCell (h : Mine B J) {s : β} {W : World} {l : Nat} (v : Value) (hs : J s W) (hB : B ≤ l) : J s (W.setCell ⟨l, 0, none⟩ v) := h s W _ (some l) hs (grownBy_setCell' W l v) (fun r e => by cases e; exact hB)
theorem Mine.below (h : Mine B J) {s : β} {X Y : World} (hj : J s X) (hb : Below X.heap.size X Y) : J s Y :=
  h s X Y none hj ⟨hb.os, hb.tape, hb.output, hb.size, fun k hk _ => hb.block k hk⟩ (fun r e => by cases e)
end
/-- How a round ends: on, at the next node; or no more. -/
def Goes (S : Nat → Prop) (top : Nat) (J : Nat → World → Prop) (Jx : World → Prop) (k : Nat) (W : World) (e : Ending) (W' : World) : Prop :=
  (e = .returned (.bool true) ∧ J k W' ∧ Keep S top W W') ∨ (e = .returned (.bool false) ∧ Jx W' ∧ Keep S top W W')
theorem own_alloc {J : Nat → World → Prop} {B : Nat} (h : Mine B J) {k : Nat} {W : World} (hJ : J k W) (o : Obj) : J k (W.alloc o) := h.alloc o hJ
end Go.Proofs.YtlhbhpdpjidpgaaGreatDoor.Tre
/- yieldParts: an expression and all that it is made of, one behind the other, each handed to a round. Conditions: the tree lies in memory below lo; a round keeps what lies below lo, and all cells from hi on. -/
namespace Go.Proofs.YtlhbhpdpjidpgaaGreatDoor.Tre
open Go.RowKit
set_option maxRecDepth 100000
theorem sizeL_take (x : List Ex) (j : Nat) (a : Ex) (h : x[j]? = some a) : sizeL (x.take (j + 1)) = sizeL (x.take j) + size a := by
  rw [List.take_add_one, h]
  simp [sizeL, size, flatL]
theorem flatL_at : ∀ (x : List Ex) (j i : Nat) (a y : Ex), x[j]? = some a → (flat a)[i]? = some y → (flatL x)[sizeL (x.take j) + i]? = some y
  | [], j, i, a, y, h, _ => by simp at h
  | b :: r, 0, i, a, y, h, hy => by
    obtain rfl : b = a := by simpa using h
    rw [flatL_cons, List.getElem?_append_left (by have := (List.getElem?_eq_some_iff.1 hy).1; simp [sizeL, flatL]; omega)]
    simpa [sizeL, flatL] using hy
  | b :: r, j + 1, i, a, y, h, hy => by
    have ih := flatL_at r j i a y (by simpa using h) hy
    have e : sizeL (List.take (j + 1) (b :: r)) = size b + sizeL (r.take j) := by rw [List.take_succ_cons, sizeL_cons]
    rw [flatL_cons, e, List.getElem?_append_right (by unfold size; omega), show size b + sizeL (r.take j) + i - (flat b).length = sizeL (r.take j) + i by unfold size; omega]
    exact ih
set_option maxHeartbeats 4000000 in
theorem parts_step (w0 : World) (S : Nat → Prop) (hi top l B : Nat) (h00 : ∀ b, S b → w0.heap.size ≤ b ∧ b < hi) (J : Nat → World → Prop) (Jx : World → Prop) (hJ : Mine B J) (e : Ex) (k : Nat) (hin : NdX w0 e)
    (hY : ∀ m W, J k W → YieldAt Fence.wide m Tryz.prog l #[exV e] W (Goes S top J Jx (k + 1) W))
    (hP : ∀ (j : Nat) (x : Ex), e.x[j]? = some x → ∀ m W, hi ≤ W.heap.size → Low w0 W → J (k + 1 + sizeL (e.x.take j)) W → CallsIn Fence.wide m Tryz.prog 98 #[exV x, .func (.yield l) #[] #[]] W (Goes S top J Jx (k + 1 + sizeL (e.x.take (j + 1))) W))
    (m : Nat) (W : World) (hhi : hi ≤ W.heap.size) (hL : Low w0 W) (h0 : J k W) :
    CallsIn Fence.wide m Tryz.prog 98 #[exV e, .func (.yield l) #[] #[]] W (Goes S top J Jx (k + size e) W) := by
  obtain ⟨fn, tmps, assign, body, hy, hR⟩ := hY (m - 1) (W.alloc (.cells #[.int .i64 e.op, .int .i64 e.n, .string e.s, .string e.q, .slice e.a e.x.length e.c] 36)) (own_alloc hJ h0 _)
  rw [exV_eq] at hy ⊢
  rw [size_eq]
  have HP := Lib.hid hP
  have HN := Lib.hid hin
  have HR := Lib.hid hR
  clear hY hP hin hR
  refine callsIn_of_wp Tryz.func98 rfl trivial ?_ rfl
  simp only [Tryz.ntmps98, List.size_toArray, List.length_cons, List.length_nil, Nat.reduceAdd, Nat.reduceSub, Array.replicate_succ, Array.replicate_zero, List.push_toArray, List.append_toArray, List.nil_append, List.cons_append]
  gi_wp2
  refine ⟨(fun h => by cases h), ?_⟩
  refine HR.out.mono ?_
  rintro e' W3 (⟨rfl, hJ3, hk3⟩ | ⟨rfl, hx3, hk3⟩)
  · have z4 := cell_at (hk3.cell (fun hs => by have := (h00 _ hs).2; omega) (new_at W _ _)) 4
    simp only [List.getElem?_toArray, List.getElem?_cons_succ, List.getElem?_cons_zero] at z4
    have HK : Hid (Keep S top W W3) := Lib.hid ((Keep.alloc _).trans hk3)
    have h5 : e.x.length ≤ 1000000000000 := HN.out.len
    have HROW := Lib.hid HN.out.row
    have HL3 := Lib.hid (hL.keep h00 HK.out)
    have HHI := Lib.hid (Nat.le_trans hhi HK.out.size)
    clear hk3 HR hy h0 hL hhi HN
    obtain ⟨n, hn⟩ : ∃ n, e.x.length = n := ⟨_, rfl⟩
    rw [hn] at h5 z4 ⊢
    have HN := Lib.hid hn
    clear hn
    gi_wp2
    gi_loopw [14] (fun i wr => ∃ j : Nat, j ≤ n ∧ i = .int .i64 j ∧ J (k + 1 + sizeL (e.x.take j)) wr ∧ Hid (Keep S top W3 wr)) (fun i _ => n - (intOf i).toNat)
    case atStart => exact ⟨0, Nat.zero_le _, rfl, by simpa [sizeL, flatL] using hJ3, Lib.hid (Keep.refl _ _ _)⟩
    case round =>
      obtain ⟨j, hj, rfl, hJj, hKj⟩ := hrel
      by_cases hlt : j < n
      · obtain ⟨x, hx⟩ : ∃ x, e.x[j]? = some x := ⟨_, List.getElem?_eq_getElem (by rw [HN.out]; exact hlt)⟩
        obtain ⟨b1, o1, ha, _, hc1⟩ := HROW.out.low (HL3.out.keep h00 hKj.out) hx
        obtain ⟨p0, p1, p2, p3, p4⟩ := exC_at hc1
        have HK2 := Lib.hid (hKj.out.trans (Keep.alloc (.cells #[.int .i64 x.op, .int .i64 x.n, .string x.s, .string x.q, .slice x.a x.x.length x.c] 36)))
        have CC := HP.out j x hx (m - 1) (wr.alloc (.cells #[.int .i64 x.op, .int .i64 x.n, .string x.s, .string x.q, .slice x.a x.x.length x.c] 36)) (Nat.le_trans HHI.out HK2.out.size) (HL3.out.keep h00 HK2.out) (own_alloc hJ hJj _)
        have CH := Lib.hid CC
        clear CC hc1 hx
        rw [exV_eq] at CH
        rw [ha]
        gi_wp2
        refine ⟨trivial, (fun h => by cases h), ?_⟩
        refine CH.out.mono ?_
        rintro e'' W4 (⟨rfl, hJ4, hk4⟩ | ⟨rfl, hx4, hk4⟩)
        · have HK4 := Lib.hid (HK2.out.trans hk4)
          gi_wp2
          go_roundw
          case rel => exact ⟨j + 1, by omega, rfl, hJ4, HK4⟩
          case measure => simp [intOf]; omega
        · gi_wp2
          go_ret
          exact .inr ⟨rfl, hx4, HK.out.trans (HK2.out.trans hk4)⟩
      · obtain rfl : j = n := by omega
        gi_wp2
        go_ret
        refine .inl ⟨rfl, ?_, HK.out.trans hKj.out⟩
        rw [List.take_of_length_le (Nat.le_of_eq HN.out)] at hJj
        rwa [show k + (1 + sizeL e.x) = k + 1 + sizeL e.x by omega]
  · gi_wp2
    go_ret
    exact .inr ⟨rfl, hx3, (Keep.alloc _).trans hk3⟩
/-- What a list of nodes holds from place k on. -/
def From (L : List Ex) (k : Nat) (e : Ex) : Prop := ∀ i y, (flat e)[i]? = some y → L[k + i]? = some y
theorem From.self {L : List Ex} {k : Nat} {e : Ex} (h : From L k e) : L[k]? = some e := h 0 e (by rw [flat_eq]; rfl)
theorem From.part {L : List Ex} {k : Nat} {e : Ex} (h : From L k e) {j : Nat} {x : Ex} (hx : e.x[j]? = some x) : From L (k + 1 + sizeL (e.x.take j)) x := fun i y hy => by
  have := h (1 + (sizeL (e.x.take j) + i)) y (by rw [flat_eq, Nat.add_comm 1, List.getElem?_cons_succ]; exact flatL_at e.x j i x y hx hy)
  rwa [show k + (1 + (sizeL (e.x.take j) + i)) = k + 1 + sizeL (e.x.take j) + i by omega] at this
theorem parts_upto (w0 : World) (S : Nat → Prop) (hi top l B : Nat) (h00 : ∀ b, S b → w0.heap.size ≤ b ∧ b < hi) (J : Nat → World → Prop) (Jx : World → Prop) (hJ : Mine B J) (L : List Ex)
    (hY : ∀ m k x W, L[k]? = some x → J k W → YieldAt Fence.wide m Tryz.prog l #[exV x] W (Goes S top J Jx (k + 1) W)) :
    ∀ (n : Nat) (e : Ex) (k : Nat), size e ≤ n → ExIn w0 e → From L k e → ∀ (m : Nat) (W : World), hi ≤ W.heap.size → Low w0 W → J k W →
      CallsIn Fence.wide m Tryz.prog 98 #[exV e, .func (.yield l) #[] #[]] W (Goes S top J Jx (k + size e) W)
  | 0, e, k, h, _, _ => by rw [size_eq] at h; omega
  | n + 1, e, k, h, hin, hL => parts_step w0 S hi top l B h00 J Jx hJ e k hin.nd (fun m W hj => hY m k e W hL.self hj) fun j x hx m W h2 h3 h4 => by
    have hm := List.mem_of_getElem? hx
    have := parts_upto w0 S hi top l B h00 J Jx hJ L hY n x (k + 1 + sizeL (e.x.take j)) (by have := size_part hm; omega) (hin.part hm) (hL.part hx) m W h2 h3 h4
    rw [sizeL_take e.x j x hx]
    rwa [Nat.add_assoc] at this
/-- yieldParts: all that the expression is made of comes, in order; or a round has said: no more. -/
theorem parts_in (w0 : World) (S : Nat → Prop) (hi top l B : Nat) (h00 : ∀ b, S b → w0.heap.size ≤ b ∧ b < hi) (J : Nat → World → Prop) (Jx : World → Prop) (hJ : Mine B J) (L : List Ex)
    (hY : ∀ m k x W, L[k]? = some x → J k W → YieldAt Fence.wide m Tryz.prog l #[exV x] W (Goes S top J Jx (k + 1) W))
    (e : Ex) (k : Nat) (hin : ExIn w0 e) (hL : From L k e) (m : Nat) (W : World) (h2 : hi ≤ W.heap.size) (h3 : Low w0 W) (h4 : J k W) :
    CallsIn Fence.wide m Tryz.prog 98 #[exV e, .func (.yield l) #[] #[]] W (Goes S top J Jx (k + size e) W) :=
  parts_upto w0 S hi top l B h00 J Jx hJ L hY _ e k (Nat.le_refl _) hin hL m W h2 h3 h4
end Go.Proofs.YtlhbhpdpjidpgaaGreatDoor.Tre
/- yieldStatements: statements and all that stand in them, one behind the other, each handed to a round. Conditions: the trees lie in memory below lo; a round keeps what lies below lo, and all cells from hi on. -/
namespace Go.Proofs.YtlhbhpdpjidpgaaGreatDoor.Tre
open Go.RowKit
set_option maxRecDepth 100000
theorem sizeB_take (x : List St) (j : Nat) (a : St) (h : x[j]? = some a) : sizeB (x.take (j + 1)) = sizeB (x.take j) + sizeS a := by
  rw [List.take_add_one, h]
  simp [sizeB, sizeS, flatB]
theorem flatB_at : ∀ (x : List St) (j i : Nat) (a y : St), x[j]? = some a → (flatS a)[i]? = some y → (flatB x)[sizeB (x.take j) + i]? = some y
  | [], j, i, a, y, h, _ => by simp at h
  | b :: r, 0, i, a, y, h, hy => by
    obtain rfl : b = a := by simpa using h
    rw [flatB_cons, List.getElem?_append_left (by have := (List.getElem?_eq_some_iff.1 hy).1; simp [sizeB, flatB]; omega)]
    simpa [sizeB, flatB] using hy
  | b :: r, j + 1, i, a, y, h, hy => by
    have ih := flatB_at r j i a y (by simpa using h) hy
    have e : sizeB (List.take (j + 1) (b :: r)) = sizeS b + sizeB (r.take j) := by rw [List.take_succ_cons, sizeB_cons]
    rw [flatB_cons, e, List.getElem?_append_right (by unfold sizeS; omega), show sizeS b + sizeB (r.take j) + i - (flatS b).length = sizeB (r.take j) + i by unfold sizeS; omega]
    exact ih
/-- What a list of nodes holds from place k on. -/
def FromB (L : List St) (k : Nat) (x : List St) : Prop := ∀ i y, (flatB x)[i]? = some y → L[k + i]? = some y
section
variable {L : List St} {k : Nat} {x : List St} {j : Nat} {s : St}
theorem FromB.at_ (h : FromB L k x) (hs : x[j]? = some s) : L[k + sizeB (x.take j)]? = some s := by
  have := h (sizeB (x.take j) + 0) s (flatB_at x j 0 s s hs (by rw [flatS_eq]; rfl))
  rwa [Nat.add_zero] at this
theorem FromB.body (h : FromB L k x) (hs : x[j]? = some s) : FromB L (k + sizeB (x.take j) + 1) s.b := fun i y hy => by
  have := h (sizeB (x.take j) + (i + 1)) y (flatB_at x j (i + 1) s y hs (by rw [flatS_eq, List.getElem?_cons_succ, List.getElem?_append_left (List.getElem?_eq_some_iff.1 hy).1]; exact hy))
  rwa [show k + (sizeB (x.take j) + (i + 1)) = k + sizeB (x.take j) + 1 + i by omega] at this
theorem FromB.other (h : FromB L k x) (hs : x[j]? = some s) : FromB L (k + sizeB (x.take j) + 1 + sizeB s.b) s.b2 := fun i y hy => by
  have := h (sizeB (x.take j) + (sizeB s.b + i + 1)) y (flatB_at x j _ s y hs (by rw [flatS_eq, List.getElem?_cons_succ, List.getElem?_append_right (by unfold sizeB; omega), show sizeB s.b + i - (flatB s.b).length = i by unfold sizeB; omega]; exact hy))
  rwa [show k + (sizeB (x.take j) + (sizeB s.b + i + 1)) = k + sizeB (x.take j) + 1 + sizeB s.b + i by omega] at this
end
set_option maxHeartbeats 4000000 in
theorem stmts_step (w0 : World) (S : Nat → Prop) (hi top l B : Nat) (h00 : ∀ b, S b → w0.heap.size ≤ b ∧ b < hi) (J : Nat → World → Prop) (Jx : World → Prop) (hJ : Mine B J) (x : List St) (A : Option Addr) (c k : Nat) (hrow : Row 9 stC w0 A x) (hlen : x.length ≤ most)
    (hY : ∀ (j : Nat) (s : St), x[j]? = some s → ∀ m W, J (k + sizeB (x.take j)) W → YieldAt Fence.wide m Tryz.prog l #[stV s] W (Goes S top J Jx (k + sizeB (x.take j) + 1) W))
    (hP : ∀ (j : Nat) (s : St), x[j]? = some s → ∀ m W, hi ≤ W.heap.size → Low w0 W → J (k + sizeB (x.take j) + 1) W → CallsIn Fence.wide m Tryz.prog 96 #[.slice s.a s.b.length s.c, .func (.yield l) #[] #[]] W (Goes S top J Jx (k + sizeB (x.take j) + 1 + sizeB s.b) W))
    (hP2 : ∀ (j : Nat) (s : St), x[j]? = some s → ∀ m W, hi ≤ W.heap.size → Low w0 W → J (k + sizeB (x.take j) + 1 + sizeB s.b) W → CallsIn Fence.wide m Tryz.prog 96 #[.slice s.a2 s.b2.length s.c2, .func (.yield l) #[] #[]] W (Goes S top J Jx (k + sizeB (x.take (j + 1))) W))
    (m : Nat) (W : World) (hhi : hi ≤ W.heap.size) (hL : Low w0 W) (h0 : J k W) :
    CallsIn Fence.wide m Tryz.prog 96 #[.slice A x.length c, .func (.yield l) #[] #[]] W (Goes S top J Jx (k + sizeB x) W) := by
  have HY := Lib.hid hY
  have HP := Lib.hid hP
  have HP2 := Lib.hid hP2
  have HROW := Lib.hid hrow
  have HL := Lib.hid hL
  have HHI := Lib.hid hhi
  unfold most at hlen
  clear hY hP hP2 hrow hL hhi
  obtain ⟨n, hn⟩ : ∃ n, x.length = n := ⟨_, rfl⟩
  rw [hn] at hlen ⊢
  have HN := Lib.hid hn
  clear hn
  refine callsIn_of_wp Tryz.func96 rfl trivial ?_ rfl
  simp only [Tryz.ntmps96, List.size_toArray, List.length_cons, List.length_nil, Nat.reduceAdd, Nat.reduceSub, Array.replicate_succ, Array.replicate_zero, List.push_toArray, List.append_toArray, List.nil_append, List.cons_append]
  gi_wp2
  gi_loopw [9] (fun i wr => ∃ j : Nat, j ≤ n ∧ i = .int .i64 j ∧ J (k + sizeB (x.take j)) wr ∧ Hid (Keep S top W wr)) (fun i _ => n - (intOf i).toNat)
  case atStart => exact ⟨0, Nat.zero_le _, rfl, by simpa [sizeB, flatB] using h0, Lib.hid (Keep.refl _ _ _)⟩
  case round =>
    obtain ⟨j, hj, rfl, hJj, hKj⟩ := hrel
    by_cases hlt : j < n
    · obtain ⟨s, hx⟩ : ∃ s, x[j]? = some s := ⟨_, List.getElem?_eq_getElem (by rw [HN.out]; exact hlt)⟩
      obtain ⟨b1, o1, rfl, _, hc1⟩ := HROW.out.low (HL.out.keep h00 hKj.out) hx
      obtain ⟨p0, p1, p2, p3, p4, p5, p6, p7, p8⟩ := stC_at hc1
      have HW := Lib.hid (Nat.le_trans HHI.out hKj.out.size)
      have HK2 := Lib.hid (hKj.out.trans (Keep.alloc (.cells #[.int .i64 s.op, .string s.s, .int .i64 s.e.op, .int .i64 s.e.n, .string s.e.s, .string s.e.q, .slice s.e.a s.e.x.length s.e.c, .slice s.a s.b.length s.c, .slice s.a2 s.b2.length s.c2] 47)))
      have HNEW := Lib.hid (new_at wr #[.int .i64 s.op, .string s.s, .int .i64 s.e.op, .int .i64 s.e.n, .string s.e.s, .string s.e.q, .slice s.e.a s.e.x.length s.e.c, .slice s.a s.b.length s.c, .slice s.a2 s.b2.length s.c2] 47)
      obtain ⟨fn, tmps, assign, body, hy, hR⟩ := HY.out j s hx (m - 1) (wr.alloc (.cells #[.int .i64 s.op, .string s.s, .int .i64 s.e.op, .int .i64 s.e.n, .string s.e.s, .string s.e.q, .slice s.e.a s.e.x.length s.e.c, .slice s.a s.b.length s.c, .slice s.a2 s.b2.length s.c2] 47)) (own_alloc hJ hJj _)
      rw [stV_eq] at hy
      have HR := Lib.hid hR
      have HX := Lib.hid hx
      clear hc1 hx hR
      gi_wp2
      refine ⟨(fun h => by cases h), ?_⟩
      refine HR.out.mono ?_
      rintro e' W3 (⟨rfl, hJ3, hk3⟩ | ⟨rfl, hx3, hk3⟩)
      · have z7 := cell_at (hk3.cell (fun hs => by have := (h00 _ hs).2; have := HW.out; omega) HNEW.out) 7
        simp only [List.getElem?_toArray, List.getElem?_cons_succ, List.getElem?_cons_zero] at z7
        have HNEW3 := Lib.hid (hk3.cell (fun hs => by have := (h00 _ hs).2; have := HW.out; omega) HNEW.out)
        have HK3 := Lib.hid (HK2.out.trans hk3)
        have CC := Lib.hid (HP.out j s HX.out (m - 1) W3 (Nat.le_trans HHI.out HK3.out.size) (HL.out.keep h00 HK3.out) hJ3)
        clear hk3
        gi_wp2
        refine ⟨trivial, (fun h => by cases h), ?_⟩
        refine CC.out.mono ?_
        rintro e'' W4 (⟨rfl, hJ4, hk4⟩ | ⟨rfl, hx4, hk4⟩)
        · have z8 := cell_at (hk4.cell (fun hs => by have := (h00 _ hs).2; have := HW.out; omega) HNEW3.out) 8
          simp only [List.getElem?_toArray, List.getElem?_cons_succ, List.getElem?_cons_zero] at z8
          have HK4 := Lib.hid (HK3.out.trans hk4)
          have CC2 := Lib.hid (HP2.out j s HX.out (m - 1) W4 (Nat.le_trans HHI.out HK4.out.size) (HL.out.keep h00 HK4.out) hJ4)
          clear hk4
          gi_wp2
          refine ⟨trivial, (fun h => by cases h), ?_⟩
          refine CC2.out.mono ?_
          rintro e3 W5 (⟨rfl, hJ5, hk5⟩ | ⟨rfl, hx5, hk5⟩)
          · have HK5 := Lib.hid (HK4.out.trans hk5)
            gi_wp2
            go_roundw
            case rel => exact ⟨j + 1, by omega, rfl, hJ5, HK5⟩
            case measure => simp [intOf]; omega
          · gi_wp2
            go_ret
            exact .inr ⟨rfl, hx5, HK4.out.trans hk5⟩
        · gi_wp2
          refine ⟨trivial, ?_⟩
          gi_wp2
          go_ret
          exact .inr ⟨rfl, hx4, HK3.out.trans hk4⟩
      · gi_wp2
        refine ⟨trivial, ?_⟩
        gi_wp2
        refine ⟨trivial, ?_⟩
        gi_wp2
        go_ret
        exact .inr ⟨rfl, hx3, HK2.out.trans hk3⟩
    · obtain rfl : j = n := by omega
      gi_wp2
      go_ret
      refine .inl ⟨rfl, ?_, hKj.out⟩
      rwa [List.take_of_length_le (Nat.le_of_eq HN.out)] at hJj
theorem stmts_upto (w0 : World) (S : Nat → Prop) (hi top l B : Nat) (h00 : ∀ b, S b → w0.heap.size ≤ b ∧ b < hi) (J : Nat → World → Prop) (Jx : World → Prop) (hJ : Mine B J) (L : List St)
    (hY : ∀ m k s W, L[k]? = some s → J k W → YieldAt Fence.wide m Tryz.prog l #[stV s] W (Goes S top J Jx (k + 1) W)) :
    ∀ (n : Nat) (x : List St) (A : Option Addr) (c k : Nat), sizeB x ≤ n → Row 9 stC w0 A x → x.length ≤ most → (∀ s ∈ x, StIn w0 s) → FromB L k x → ∀ (m : Nat) (W : World), hi ≤ W.heap.size → Low w0 W → J k W →
      CallsIn Fence.wide m Tryz.prog 96 #[.slice A x.length c, .func (.yield l) #[] #[]] W (Goes S top J Jx (k + sizeB x) W)
  | 0, [], A, c, k, _, hr, hl, _, _ => stmts_step w0 S hi top l B h00 J Jx hJ [] A c k hr hl (fun j s h => by simp at h) (fun j s h => by simp at h) (fun j s h => by simp at h)
  | 0, s :: r, A, c, k, h, _, _, _, _ => by rw [sizeB_cons, sizeS_eq] at h; omega
  | n + 1, x, A, c, k, h, hr, hl, hin, hL => stmts_step w0 S hi top l B h00 J Jx hJ x A c k hr hl (fun j s hs m W hj => hY m _ s W (hL.at_ hs) hj)
      (fun j s hs m W h2 h3 h4 => by
        have hm := List.mem_of_getElem? hs
        have h5 := sizeS_mem hm
        rw [sizeS_eq] at h5
        exact stmts_upto w0 S hi top l B h00 J Jx hJ L hY n s.b s.a s.c _ (by omega) (hin s hm).nd.row (hin s hm).nd.len (fun t ht => (hin s hm).part (.inl ht)) (hL.body hs) m W h2 h3 h4)
      (fun j s hs m W h2 h3 h4 => by
        have hm := List.mem_of_getElem? hs
        have h5 := sizeS_mem hm
        rw [sizeS_eq] at h5
        have := stmts_upto w0 S hi top l B h00 J Jx hJ L hY n s.b2 s.a2 s.c2 _ (by omega) (hin s hm).nd.row2 (hin s hm).nd.len2 (fun t ht => (hin s hm).part (.inr ht)) (hL.other hs) m W h2 h3 h4
        rw [sizeB_take x j s hs, sizeS_eq]
        rwa [show k + (sizeB (x.take j) + (1 + (sizeB s.b + sizeB s.b2))) = k + sizeB (x.take j) + 1 + sizeB s.b + sizeB s.b2 by omega])
/-- yieldStatements: all statements come, in order; or a round has said: no more. -/
theorem stmts_in (w0 : World) (S : Nat → Prop) (hi top l B : Nat) (h00 : ∀ b, S b → w0.heap.size ≤ b ∧ b < hi) (J : Nat → World → Prop) (Jx : World → Prop) (hJ : Mine B J) (L : List St)
    (hY : ∀ m k s W, L[k]? = some s → J k W → YieldAt Fence.wide m Tryz.prog l #[stV s] W (Goes S top J Jx (k + 1) W))
    (x : List St) (A : Option Addr) (c k : Nat) (hr : Row 9 stC w0 A x) (hl : x.length ≤ most) (hin : ∀ s ∈ x, StIn w0 s) (hL : FromB L k x) (m : Nat) (W : World) (h2 : hi ≤ W.heap.size) (h3 : Low w0 W) (h4 : J k W) :
    CallsIn Fence.wide m Tryz.prog 96 #[.slice A x.length c, .func (.yield l) #[] #[]] W (Goes S top J Jx (k + sizeB x) W) :=
  stmts_upto w0 S hi top l B h00 J Jx hJ L hY _ x A c k (Nat.le_refl _) hr hl hin hL m W h2 h3 h4
end Go.Proofs.YtlhbhpdpjidpgaaGreatDoor.Tre
