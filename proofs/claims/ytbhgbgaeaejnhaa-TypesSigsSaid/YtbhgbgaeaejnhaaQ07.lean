/-
  The library's stable sort of signatures: the row that is sorted, as a list of pairs (a signature, where it stood); worlds of the sort; cmp.
-/
import Derived.Test.YtbhgbgaeaejnhaaQ06
import Derived.Shelf.SlSortCmp.InsertionK
import Derived.Shelf.SlSortFuncK.SWK
namespace Go.Proofs.Ytbhgbgaeaejnhaa.Typ
open Go.RowKit Tre Go.Sort Go.Shelf
open OwnR (OwnG)
set_option maxRecDepth 100000
set_option linter.unusedSimpArgs false
/-- A signature, and where it stood. -/
abbrev El := Sg × Nat
instance : Inhabited El := ⟨(⟨⟨#[]⟩, none, 0, [], 0⟩, 0)⟩
def eC (x : El) : List Value := sgC x.1
theorem eC_len (x : El) : (eC x).length = 3 := rfl
/-- W is w0, but for the row, draws, and new blocks. -/
structure SB (w0 : World) (b n : Nat) (D : List El) (W : World) : Prop where
  sw : SWK eC 3 w0 b 0 D.toArray W
  lt : b < w0.heap.size
  hd : ∃ D0 : Array El, HoldsK eC 3 w0 b 0 D0 ∧ D0.size = n
  len : D.length = n
section
variable {w0 W : World} {b n : Nat} {D : List El}
theorem SB.holds (h : SB w0 b n D W) : HoldsK eC 3 W b 0 D.toArray := by
  obtain ⟨D0, h0, h1⟩ := h.hd
  exact h.sw.holds h.lt h0 (by simp [h.len, h1])
theorem SB.drewN (h : SB w0 b n D W) (q : Nat) : SB w0 b n D (W.drewN q) := ⟨h.sw.drewN q, h.lt, h.hd, h.len⟩
theorem SB.drew (h : SB w0 b n D W) : SB w0 b n D W.drew := h.drewN 1
theorem SB.grown (h : SB w0 b n D W) (q : Nat) (os : Array Obj) : SB w0 b n D (grow (W.drewN q) os) := by
  obtain ⟨m, os0, rfl⟩ := h.sw
  exact ⟨⟨m + q, os0 ++ os, sortWorldK_grown_c eC 3 w0 b 0 m q _ os0 os⟩, h.lt, h.hd, h.len⟩
theorem SB.cell (h : SB w0 b n D W) {i : Nat} {x : El} (hx : D[i]? = some x) (c : Nat) (v : Value) (hv : (sgC x.1)[c]? = some v) : W.cell? ⟨b, i * 3 + c, none⟩ = some v := by
  have hi : i < D.length := (List.getElem?_eq_some_iff.1 hx).1
  have hxe : D.toArray[i]! = x := by
    rw [getElem!_pos D.toArray i (by simpa using hi)]
    simpa [List.getElem?_eq_getElem hi] using hx
  have := HoldsK.cells h.holds eC_len (i := i) (by simpa using hi) c v (by rw [hxe]; exact hv)
  rwa [plain_at, Nat.zero_add] at this
theorem SB.free (h : SB w0 b n D W) {i c : Nat} (hi : i < D.length) (hc : c < 3) : W.frozen? ⟨b, i * 3 + c, none⟩ = false := by
  have := (h.holds (i * 3 + c) (by rw [size_flatK]; simp; omega)).2
  rwa [Nat.zero_add] at this
theorem SB.cells (h : SB w0 b n D W) {i : Nat} {x : El} (hx : D[i]? = some x) : W.cell? ⟨b, i * 3, none⟩ = some (.string x.1.s) ∧ W.cell? ⟨b, i * 3 + 1, none⟩ = some (.slice x.1.a x.1.p.length x.1.c) ∧ W.cell? ⟨b, i * 3 + 2, none⟩ = some (.int .u8 x.1.r) :=
  ⟨h.cell hx 0 _ rfl, h.cell hx 1 _ rfl, h.cell hx 2 _ rfl⟩
theorem SB.frees (h : SB w0 b n D W) {i : Nat} (hi : i < D.length) : W.frozen? ⟨b, i * 3, none⟩ = false ∧ W.frozen? ⟨b, i * 3 + 1, none⟩ = false ∧ W.frozen? ⟨b, i * 3 + 2, none⟩ = false := ⟨h.free hi (by omega : 0 < 3), h.free hi (by omega : 1 < 3), h.free hi (by omega : 2 < 3)⟩
end
/-- A struct is stored. -/
def put3w (W : World) (b i : Nat) (x : El) : World := ((W.setCell ⟨b, i * 3, none⟩ (.string x.1.s)).setCell ⟨b, i * 3 + 1, none⟩ (.slice x.1.a x.1.p.length x.1.c)).setCell ⟨b, i * 3 + 2, none⟩ (.int .u8 x.1.r)
theorem put3w_cells (W : World) (b i : Nat) (x : El) : W.setCells b (0 + i * 3) (eC x) = put3w W b i x := by
  rw [Nat.zero_add]
  rfl
theorem get_app (p s : List El) (x : El) : (p ++ x :: s)[p.length]? = some x := by simp
theorem swp_app (p z s : List El) (x y : El) : swp (p ++ x :: (z ++ y :: s)).toArray p.length (p.length + 1 + z.length) = (p ++ y :: (z ++ x :: s)).toArray := by
  have e1 : (p ++ x :: (z ++ y :: s)).toArray[p.length]! = x := by simp
  have e2 : (p ++ x :: (z ++ y :: s)).toArray[p.length + 1 + z.length]! = y := by
    rw [getElem!_pos _ _ (by simp; omega)]
    simp only [List.getElem_toArray]
    rw [List.getElem_append_right (by omega)]
    simp [Nat.add_assoc, Nat.add_comm 1]
  unfold swp
  rw [e1, e2]
  apply Array.toList_inj.1
  simp only [Array.toList_setIfInBounds]
  rw [List.set_append_right _ _ (Nat.le_refl _)]
  simp only [Nat.sub_self, List.set_cons_zero]
  rw [List.set_append_right _ _ (by omega)]
  have : p.length + 1 + z.length - p.length = z.length + 1 := by omega
  rw [this, List.set_cons_succ, List.set_append_right _ _ (Nat.le_refl _)]
  simp
theorem SB.swap {w0 W : World} {b n : Nat} {p z s : List El} {x y : El} (h : SB w0 b n (p ++ x :: (z ++ y :: s)) W) {i j : Nat} (hi : i = p.length) (hj : j = p.length + 1 + z.length) :
    SB w0 b n (p ++ y :: (z ++ x :: s)) (put3w (put3w W b i y) b j x) ∧ SB w0 b n (p ++ y :: (z ++ x :: s)) (put3w (put3w W b j x) b i y) := by
  subst hi hj
  have e1 : (p ++ x :: (z ++ y :: s)).toArray[p.length]! = x := by simp
  have e2 : (p ++ x :: (z ++ y :: s)).toArray[p.length + 1 + z.length]! = y := by
    rw [getElem!_pos _ _ (by simp; omega)]
    simp only [List.getElem_toArray]
    rw [List.getElem_append_right (by omega)]
    simp [Nat.add_assoc, Nat.add_comm 1]
  have h1 := h.sw.swap eC_len h.lt p.length (p.length + 1 + z.length) (by simp) (by simp; omega)
  have h2 := h.sw.swap eC_len h.lt (p.length + 1 + z.length) p.length (by simp; omega) (by simp)
  have hs : swp (p ++ x :: (z ++ y :: s)).toArray (p.length + 1 + z.length) p.length = swp (p ++ x :: (z ++ y :: s)).toArray p.length (p.length + 1 + z.length) := by
    unfold swp
    rw [e1, e2, Array.setIfInBounds_comm _ _ (by omega)]
  rw [e1, e2, swp_app, put3w_cells, put3w_cells] at h1
  rw [e1, e2, hs, swp_app, put3w_cells, put3w_cells] at h2
  have hl := h.len
  exact ⟨⟨h1, h.lt, h.hd, by simp at hl ⊢; omega⟩, ⟨h2, h.lt, h.hd, by simp at hl ⊢; omega⟩⟩
/-- The order by names. -/
def cfE (x y : El) : Int := Lib.compareBytes x.1.s.data.toList y.1.s.data.toList
theorem alloc_grow (w : World) (o : Obj) : w.alloc o = grow w #[o] := alloc_eq_grow w o
set_option maxHeartbeats 4000000 in
theorem cmp_any (x y : El) (w : World) : Calls Try.prog 33 #[sgV x.1, sgV y.1] w (fun e w' => e = .returned (.int .i64 (cfE x y)) ∧ ∃ os, w' = grow w os) := by
  obtain ⟨x, i⟩ := x
  obtain ⟨y, j⟩ := y
  have b1 := ball_new w #[.string x.s, .slice x.a x.p.length x.c, .int .u8 x.r] 33
  have n1 := new_at w #[.string x.s, .slice x.a x.p.length x.c, .int .u8 x.r] 33
  rw [sgV_eq, sgV_eq]
  have hz0 : (w.alloc (.cells #[.string x.s, .slice x.a x.p.length x.c, .int .u8 x.r] 33)).heap.size = w.heap.size + 1 := World.size_alloc _ _
  have b2 := ball_new (w.alloc (.cells #[.string x.s, .slice x.a x.p.length x.c, .int .u8 x.r] 33)) #[.string y.s, .slice y.a y.p.length y.c, .int .u8 y.r] 33
  have n2 := new_at (w.alloc (.cells #[.string x.s, .slice x.a x.p.length x.c, .int .u8 x.r] 33)) #[.string y.s, .slice y.a y.p.length y.c, .int .u8 y.r] 33
  have n1' := (b2.block _ (lt_of_heap n1)).trans n1
  rw [hz0] at n2
  have HG : Hid (∃ os, (w.alloc (.cells #[.string x.s, .slice x.a x.p.length x.c, .int .u8 x.r] 33)).alloc (.cells #[.string y.s, .slice y.a y.p.length y.c, .int .u8 y.r] 33) = grow w os) := Lib.hid ⟨_, by rw [alloc_grow, alloc_grow, grow_grow]⟩
  have z0 := cell_at n1' 0
  have y0 := cell_at n2 0
  simp only [List.getElem?_toArray, List.getElem?_cons_zero] at z0 y0
  have CC := fun w => Lib.hid (Try.strings_Compare x.s y.s w)
  clear b1 n1 b2 n2 n1'
  unfold cfE
  generalize x.p.length = pl at *
  generalize y.p.length = ql at *
  go_enter Try.func33, Try.ntmps33
  go_wp2_with fail
  refine (CC _).out.mono ?_
  rintro e w1 ⟨rfl, rfl⟩
  go_wp2_with fail
  go_ret
  exact ⟨rfl, HG.out⟩
end Go.Proofs.Ytbhgbgaeaejnhaa.Typ
/- The library's swapRange. Conditions: sizes. -/
namespace Go.Proofs.Ytbhgbgaeaejnhaa.Typ
open Go.RowKit Tre Go.Sort Go.Shelf
set_option maxRecDepth 100000
set_option linter.unusedSimpArgs false
def cmpV : Value := .func (.func 33) #[] #[]
theorem mixedT : Try.prog.follows .mixedOrders = true := by kernel_rfl
set_option maxHeartbeats 16000000 in
theorem swapRange_any {w0 W : World} {b n c m a a2 : Nat} {p x z y s : List El} (h : SB w0 b n (p ++ (x ++ (z ++ (y ++ s)))) W) (hx : x.length = m) (hy : y.length = m) (ha : a = p.length) (ha2 : a2 = p.length + m + z.length) (hn : n ≤ 1000000) :
    Calls Try.prog 59 #[.slice (some ⟨b, 0, none⟩) n c, .int .i64 a, .int .i64 a2, .int .i64 m, .func (.func 33) #[] #[]] W (fun e w' => e = .returned (.tuple #[]) ∧ SB w0 b n (p ++ (y ++ (z ++ (x ++ s)))) w') := by
  have H0 : Hid (SB w0 b n (p ++ (y.take 0 ++ (x.drop 0 ++ (z ++ (x.take 0 ++ (y.drop 0 ++ s)))))) W) := Lib.hid (by simpa using h)
  have hlen := h.len
  simp only [List.length_append] at hlen
  have HX := Lib.hid hx
  have HY := Lib.hid hy
  have HA := Lib.hid ha
  have HA2 := Lib.hid ha2
  have hb1 : a + m ≤ n := by omega
  have hb2 : a2 + m ≤ n := by omega
  have mixed := mixedT
  clear h hlen hx hy ha ha2
  go_enter Try.func59, Try.ntmps59
  go_wp2_with fail
  go_loopw [10] (fun i wr => ∃ k : Nat, k ≤ m ∧ i = .int .i64 k ∧ Hid (SB w0 b n (p ++ (y.take k ++ (x.drop k ++ (z ++ (x.take k ++ (y.drop k ++ s)))))) wr)) (fun i _ => m - (intOf i).toNat)
  case atStart => exact ⟨0, Nat.zero_le _, rfl, H0⟩
  case round =>
    obtain ⟨k, hk, rfl, H⟩ := hrel
    by_cases hlt : k < m
    · obtain ⟨u, hu⟩ : ∃ u, x[k]? = some u := ⟨_, List.getElem?_eq_getElem (by rw [HX.out]; exact hlt)⟩
      obtain ⟨v, hv⟩ : ∃ v, y[k]? = some v := ⟨_, List.getElem?_eq_getElem (by rw [HY.out]; exact hlt)⟩
      have eu : x.drop k = u :: x.drop (k + 1) := by
        obtain ⟨h1, h2⟩ := List.getElem?_eq_some_iff.1 hu
        rw [List.drop_eq_getElem_cons h1, h2]
      have ev : y.drop k = v :: y.drop (k + 1) := by
        obtain ⟨h1, h2⟩ := List.getElem?_eq_some_iff.1 hv
        rw [List.drop_eq_getElem_cons h1, h2]
      have tu : x.take (k + 1) = x.take k ++ [u] := by rw [List.take_add_one, hu]; rfl
      have tv : y.take (k + 1) = y.take k ++ [v] := by rw [List.take_add_one, hv]; rfl
      have HD : Hid (SB w0 b n ((p ++ y.take k) ++ u :: ((x.drop (k + 1) ++ (z ++ x.take k)) ++ v :: (y.drop (k + 1) ++ s))) wr) := Lib.hid (by
        have := H.out
        rw [eu, ev] at this
        simpa [List.append_assoc] using this)
      obtain ⟨i, hi⟩ : ∃ i, a + k = i := ⟨_, rfl⟩
      obtain ⟨j, hj⟩ : ∃ j, a2 + k = j := ⟨_, rfl⟩
      have hil : i = (p ++ y.take k).length := by rw [List.length_append, List.length_take, HY.out, Nat.min_eq_left hk, ← HA.out, hi]
      have hjl : j = (p ++ y.take k).length + 1 + (x.drop (k + 1) ++ (z ++ x.take k)).length := by
        simp only [List.length_append, List.length_take, List.length_drop, HX.out, HY.out]
        have := HA2.out
        omega
      have hgi : ((p ++ y.take k) ++ u :: ((x.drop (k + 1) ++ (z ++ x.take k)) ++ v :: (y.drop (k + 1) ++ s)))[i]? = some u := by rw [hil]; exact get_app _ _ _
      have hgj : ((p ++ y.take k) ++ u :: ((x.drop (k + 1) ++ (z ++ x.take k)) ++ v :: (y.drop (k + 1) ++ s)))[j]? = some v := by
        rw [hjl]
        have := get_app ((p ++ y.take k) ++ u :: (x.drop (k + 1) ++ (z ++ x.take k))) (y.drop (k + 1) ++ s) v
        simp only [List.length_append, List.length_cons, List.append_assoc, List.cons_append] at this ⊢
        rw [← this]
        congr 1
        omega
      obtain ⟨c0, c1, c2⟩ := HD.out.cells hgi
      obtain ⟨d0, d1, d2⟩ := HD.out.cells hgj
      obtain ⟨f0, f1, f2⟩ := HD.out.frees (List.getElem?_eq_some_iff.1 hgi).1
      obtain ⟨g0, g1, g2⟩ := HD.out.frees (List.getElem?_eq_some_iff.1 hgj).1
      have HN : Hid (SB w0 b n (p ++ (y.take (k + 1) ++ (x.drop (k + 1) ++ (z ++ (x.take (k + 1) ++ (y.drop (k + 1) ++ s)))))) (put3w (put3w wr b i v) b j u).drew) := Lib.hid (by
        have := (HD.out.swap hil hjl).1.drew
        rw [tu, tv]
        simpa [List.append_assoc] using this)
      have hi2 : (a : Int) + (k : Int) = (i : Int) := by omega
      have hj2 : (a2 : Int) + (k : Int) = (j : Int) := by omega
      have hin : i < n := by omega
      have hjn : j < n := by omega
      have hij : i ≠ j := by
        have := HA2.out
        have := HA.out
        omega
      obtain ⟨⟨us, ua, uc, up, ur⟩, ui⟩ := u
      obtain ⟨⟨vs, va, vc, vp, vr⟩, vi⟩ := v
      simp only at c0 c1 c2 d0 d1 d2
      unfold put3w at HN
      simp only at HN
      generalize up.length = upl at *
      generalize vp.length = vpl at *
      clear hu hv eu ev tu tv hgi hgj hil hjl
      go_wp2_with fail
      go_big_region_o
      all_goals go_wp2_with fail
      go_roundw
      case rel => exact ⟨k + 1, by omega, by go_num, HN⟩
      case measure => simp [intOf]; omega
    · obtain rfl : k = m := by omega
      go_wp2_with fail
      go_end0
      refine ⟨rfl, ?_⟩
      have := H.out
      rw [List.take_of_length_le (Nat.le_of_eq HY.out), List.take_of_length_le (Nat.le_of_eq HX.out), List.drop_of_length_le (Nat.le_of_eq HX.out), List.drop_of_length_le (Nat.le_of_eq HY.out)] at this
      simpa using this
end Go.Proofs.Ytbhgbgaeaejnhaa.Typ
/- The library's rotate. Conditions: sizes. -/
namespace Go.Proofs.Ytbhgbgaeaejnhaa.Typ
open Go.RowKit Tre Go.Sort Go.Shelf
set_option maxRecDepth 100000
set_option linter.unusedSimpArgs false
/-- What the loop knows. -/
structure RotAt (w0 : World) (b n m : Nat) (R : List El) (i j : Nat) (wr : World) (p x y s : List El) : Prop where
  sb : SB w0 b n (p ++ (x ++ (y ++ s))) wr
  hx : x.length = i
  hy : y.length = j
  hm : m = p.length + i
  i0 : 0 < i
  j0 : 0 < j
  eq : p ++ (y ++ (x ++ s)) = R
set_option maxHeartbeats 16000000 in
theorem rotate_any {w0 W : World} {b n c a m e : Nat} {p u v s : List El} (h : SB w0 b n (p ++ (u ++ (v ++ s))) W) (ha : a = p.length) (hm : m = a + u.length) (he : e = m + v.length) (hu : 0 < u.length) (hv : 0 < v.length) (hn : n ≤ 1000000) :
    Calls Try.prog 58 #[.slice (some ⟨b, 0, none⟩) n c, .int .i64 a, .int .i64 m, .int .i64 e, .func (.func 33) #[] #[]] W (fun e w' => e = .returned (.tuple #[]) ∧ SB w0 b n (p ++ (v ++ (u ++ s))) w') := by
  obtain ⟨i0, hi0⟩ : ∃ i, u.length = i := ⟨_, rfl⟩
  obtain ⟨j0, hj0⟩ : ∃ j, v.length = j := ⟨_, rfl⟩
  have H0 : Hid (RotAt w0 b n m (p ++ (v ++ (u ++ s))) i0 j0 W p u v s) := Lib.hid ⟨h, hi0, hj0, by omega, by omega, by omega, rfl⟩
  have hlen := h.len
  simp only [List.length_append] at hlen
  have e1 : (m : Int) - (a : Int) = (i0 : Int) := by omega
  have e2 : (e : Int) - (m : Int) = (j0 : Int) := by omega
  have hmn : m + j0 ≤ n := by omega
  have hmi : i0 ≤ m := by omega
  clear h hlen ha hm he hu hv hi0 hj0
  go_enter Try.func58, Try.ntmps58
  go_wp2_with fail
  go_loopw [10, 11] (fun vi vj wr => ∃ i j : Nat, vi = .int .i64 i ∧ vj = .int .i64 j ∧ i ≤ i0 ∧ j ≤ j0 ∧ Hid (∃ p' x y s', RotAt w0 b n m (p ++ (v ++ (u ++ s))) i j wr p' x y s')) (fun vi vj _ => (intOf vi + intOf vj).toNat)
  case atStart => exact ⟨i0, j0, rfl, rfl, Nat.le_refl _, Nat.le_refl _, Lib.hid ⟨_, _, _, _, H0.out⟩⟩
  case round =>
    obtain ⟨i, j, rfl, rfl, hi, hj, HH⟩ := hrel
    obtain ⟨p', x, y, s', H⟩ := HH.out
    have HR := Lib.hid H
    have hm2 := H.hm
    have hi1 := H.i0
    have hj1 := H.j0
    clear H HH H0
    obtain ⟨a', ha'⟩ : ∃ a', p'.length = a' := ⟨_, rfl⟩
    have q1 : (m : Int) - (i : Int) = (a' : Int) := by omega
    by_cases hij : i = j
    · subst hij
      have C1 := Lib.hid (swapRange_any (c := c) (a := a') (a2 := m) (m := i) (p := p') (x := x) (z := []) (y := y) (s := s') (by rw [List.nil_append]; exact HR.out.sb) HR.out.hx HR.out.hy ha'.symm (by rw [List.length_nil]; omega) hn)
      clear hm2 ha'
      go_wp2_with fail
      refine C1.out.mono ?_
      rintro e w1 ⟨rfl, hb⟩
      have HB := Lib.hid hb
      clear hb
      go_wp2_with fail
      go_end0
      refine ⟨rfl, ?_⟩
      have := HB.out
      rw [← HR.out.eq]
      simpa using this
    · by_cases hgt : j < i
      · obtain ⟨q, hq⟩ : ∃ q, i - j = q := ⟨_, rfl⟩
        have q2 : (i : Int) - (j : Int) = (q : Int) := by omega
        have hne : ((i : Int) == (j : Int)) = false := by rw [beq_eq_false_iff_ne]; omega
        have hgt2 : (j : Int) < (i : Int) := by omega
        have C1 := Lib.hid (swapRange_any (c := c) (a := a') (a2 := m) (m := j) (p := p') (x := x.take j) (z := x.drop j) (y := y) (s := s') (by
          have := HR.out.sb
          rw [← List.append_assoc (x.take j), List.take_append_drop]
          exact this) (by rw [List.length_take, HR.out.hx]; omega) HR.out.hy ha'.symm (by rw [List.length_drop, HR.out.hx]; omega) hn)
        have HM2 := Lib.hid (And.intro hm2 ha')
        clear hm2 ha'
        go_wp2_with fail
        refine C1.out.mono ?_
        rintro e w1 ⟨rfl, hb⟩
        have HN : Hid (∃ p' x y s', RotAt w0 b n m (p ++ (v ++ (u ++ s))) q j w1 p' x y s') := Lib.hid ⟨p' ++ y, x.drop j, x.take j, s', by simpa [List.append_assoc] using hb, by rw [List.length_drop, HR.out.hx]; exact hq, by rw [List.length_take, HR.out.hx]; omega, by obtain ⟨hm2, ha'⟩ := HM2.out; rw [List.length_append, HR.out.hy]; omega, by omega, hj1, by
          rw [← HR.out.eq]
          simp only [List.append_assoc]
          rw [← List.append_assoc (x.take j), List.take_append_drop]⟩
        clear hb
        go_wp2_with fail
        go_roundw
        case rel => exact ⟨q, j, rfl, rfl, by omega, by omega, HN⟩
        case measure => simp [intOf]; omega
      · obtain ⟨q, hq⟩ : ∃ q, j - i = q := ⟨_, rfl⟩
        have q2 : (j : Int) - (i : Int) = (q : Int) := by omega
        have hne : ((i : Int) == (j : Int)) = false := by rw [beq_eq_false_iff_ne]; omega
        have hgt2 : ¬ (j : Int) < (i : Int) := by omega
        obtain ⟨a2, ha2⟩ : ∃ a2, m + q = a2 := ⟨_, rfl⟩
        have q3 : (m : Int) + (j : Int) - (i : Int) = (a2 : Int) := by omega
        have C1 := Lib.hid (swapRange_any (c := c) (a := a') (a2 := a2) (m := i) (p := p') (x := x) (z := y.take q) (y := y.drop q) (s := s') (by
          have := HR.out.sb
          rw [← List.append_assoc (y.take q), List.take_append_drop]
          exact this) HR.out.hx (by rw [List.length_drop, HR.out.hy]; omega) ha'.symm (by rw [List.length_take, HR.out.hy]; omega) hn)
        have HM2 := Lib.hid (And.intro hm2 ha')
        clear hm2 ha'
        go_wp2_with fail
        refine C1.out.mono ?_
        rintro e w1 ⟨rfl, hb⟩
        have HN : Hid (∃ p' x y s', RotAt w0 b n m (p ++ (v ++ (u ++ s))) i q w1 p' x y s') := Lib.hid ⟨p', y.drop q, y.take q, x ++ s', by simpa [List.append_assoc] using hb, by rw [List.length_drop, HR.out.hy]; omega, by rw [List.length_take, HR.out.hy]; omega, by obtain ⟨hm2, ha'⟩ := HM2.out; omega, hi1, by omega, by
          rw [← HR.out.eq]
          rw [← List.append_assoc (y.take q), List.take_append_drop]⟩
        clear hb
        go_wp2_with fail
        go_roundw
        case rel => exact ⟨i, q, rfl, rfl, by omega, by omega, HN⟩
        case measure => simp [intOf]; omega
end Go.Proofs.Ytbhgbgaeaejnhaa.Typ
