/-
  The order of signatures by names, and where they stood; two sorted rows put together: plain mathematics.
-/
import Derived.Test.YtbhgbgaeaejnhaaQ07
namespace Go.Proofs.Ytbhgbgaeaejnhaa.Typ
set_option linter.unusedSimpArgs false
open Lib (compareBytes)
theorem cb_self : ∀ a : List UInt8, compareBytes a a = 0
  | [] => rfl
  | a :: l => by simp [compareBytes, cb_self l]
theorem cb_asymm : ∀ {a b : List UInt8}, compareBytes a b < 0 → ¬ compareBytes b a < 0
  | [], [], h => by simp [compareBytes] at h
  | [], _ :: _, _ => by simp [compareBytes]
  | _ :: _, [], h => by simp [compareBytes] at h
  | a :: l, b :: m, h => by
    unfold compareBytes at h ⊢
    by_cases h1 : a < b
    · have h2 : ¬ b < a := by simp only [UInt8.lt_iff_toNat_lt] at *; omega
      simp [h1, h2]
    · by_cases h2 : b < a
      · simp [h1, h2] at h
      · simp only [h1, h2, if_false] at h ⊢
        exact cb_asymm h
theorem cb_trans : ∀ {a b c : List UInt8}, compareBytes a b < 0 → compareBytes b c < 0 → compareBytes a c < 0
  | [], [], _, h, _ => by simp [compareBytes] at h
  | [], _ :: _, [], _, h => by simp [compareBytes] at h
  | [], _ :: _, _ :: _, _, _ => by simp [compareBytes]
  | _ :: _, [], _, h, _ => by simp [compareBytes] at h
  | _ :: _, _ :: _, [], _, h => by simp [compareBytes] at h
  | a :: l, b :: m, c :: n, h1, h2 => by
    unfold compareBytes at h1 h2 ⊢
    simp only [UInt8.lt_iff_toNat_lt] at *
    by_cases h3 : a.toNat < b.toNat
    · by_cases h4 : b.toNat < c.toNat
      · rw [if_pos (by omega)]; decide
      · by_cases h5 : c.toNat < b.toNat
        · simp [h4, h5] at h2
        · rw [if_pos (by omega)]; decide
    · by_cases h4 : b.toNat < a.toNat
      · simp [h3, h4] at h1
      · simp only [h3, h4, if_false] at h1
        by_cases h5 : b.toNat < c.toNat
        · rw [if_pos (by omega)]; decide
        · by_cases h6 : c.toNat < b.toNat
          · simp [h5, h6] at h2
          · simp only [h5, h6, if_false] at h2
            rw [if_neg (by omega), if_neg (by omega)]
            exact cb_trans h1 h2
theorem cb_eq : ∀ {a b : List UInt8}, ¬ compareBytes a b < 0 → ¬ compareBytes b a < 0 → a = b
  | [], [], _, _ => rfl
  | [], _ :: _, h, _ => by simp [compareBytes] at h
  | _ :: _, [], _, h => by simp [compareBytes] at h
  | a :: l, b :: m, h1, h2 => by
    unfold compareBytes at h1 h2
    by_cases h3 : a < b
    · simp [h3] at h1
    · by_cases h4 : b < a
      · simp [h4] at h2
      · simp only [h3, h4, if_false] at h1 h2
        have : a = b := by
          apply UInt8.toNat_inj.1
          simp only [UInt8.lt_iff_toNat_lt] at h3 h4
          omega
        rw [this, cb_eq h1 h2]
/-- By names, then by where they stood. -/
def RR (x y : El) : Prop := cfE x y < 0 ∨ (¬ cfE y x < 0 ∧ x.2 < y.2)
theorem cf_eq {x y : El} (h1 : ¬ cfE x y < 0) (h2 : ¬ cfE y x < 0) : x.1.s.data.toList = y.1.s.data.toList := cb_eq h1 h2
theorem cf_congr {x y : El} (h : x.1.s.data.toList = y.1.s.data.toList) (z : El) : cfE x z = cfE y z ∧ cfE z x = cfE z y := by
  unfold cfE
  rw [h]
  exact ⟨rfl, rfl⟩
theorem RR.trans {x y z : El} (h1 : RR x y) (h2 : RR y z) : RR x z := by
  rcases h1 with h1 | ⟨h1, i1⟩
  · rcases h2 with h2 | ⟨h2, i2⟩
    · exact .inl (cb_trans h1 h2)
    · by_cases h3 : cfE y z < 0
      · exact .inl (cb_trans h1 h3)
      · have e := cf_eq h3 h2
        exact .inl (by rw [← (cf_congr e x).2]; exact h1)
  · by_cases h3 : cfE x y < 0
    · rcases h2 with h2 | ⟨h2, i2⟩
      · exact .inl (cb_trans h3 h2)
      · by_cases h4 : cfE y z < 0
        · exact .inl (cb_trans h3 h4)
        · have e := cf_eq h4 h2
          exact .inl (by rw [← (cf_congr e x).2]; exact h3)
    · have e := cf_eq h3 h1
      rcases h2 with h2 | ⟨h2, i2⟩
      · exact .inl (by rw [(cf_congr e z).1]; exact h2)
      · exact .inr ⟨by rw [(cf_congr e z).2]; exact h2, by omega⟩
theorem RR.asymm {x y : El} (h : RR x y) : ¬ RR y x := by
  intro h2
  have h3 := h.trans h2
  rcases h3 with h3 | ⟨_, h3⟩
  · unfold cfE at h3
    rw [cb_self] at h3
    omega
  · omega
theorem RR.total {x y : El} (h : x.2 ≠ y.2) : RR x y ∨ RR y x := by
  by_cases h1 : cfE x y < 0
  · exact .inl (.inl h1)
  · by_cases h2 : cfE y x < 0
    · exact .inr (.inl h2)
    · rcases Nat.lt_or_gt_of_ne h with h3 | h3
      · exact .inl (.inr ⟨h2, h3⟩)
      · exact .inr (.inr ⟨h1, h3⟩)
/-- cmp tells the order, of one that stood behind. -/
theorem cmp_yes {x y : El} (h : cfE x y < 0) : RR x y := .inl h
theorem cmp_no {x y : El} (h : ¬ cfE x y < 0) (hi : y.2 < x.2) : RR y x := by
  rcases RR.total (x := x) (y := y) (by omega) with h1 | h1
  · rcases h1 with h1 | ⟨_, h1⟩
    · exact absurd h1 h
    · omega
  · exact h1
def Srt (l : List El) : Prop := l.Pairwise RR
theorem Srt.le {l : List El} (h : Srt l) {i j : Nat} {x y : El} (hi : l[i]? = some x) (hj : l[j]? = some y) (hij : i ≤ j) : x = y ∨ RR x y := by
  rcases Nat.eq_or_lt_of_le hij with rfl | hlt
  · rw [hi] at hj
    injection hj with hj
    exact .inl hj
  · obtain ⟨h1, rfl⟩ := List.getElem?_eq_some_iff.1 hi
    obtain ⟨h2, rfl⟩ := List.getElem?_eq_some_iff.1 hj
    exact .inr (List.pairwise_iff_getElem.1 h i j h1 h2 hlt)
theorem mem_take_get {l : List El} {r : Nat} {x : El} (h : x ∈ l.take r) : ∃ k, k < r ∧ l[k]? = some x := by
  obtain ⟨k, hk, rfl⟩ := List.getElem_of_mem h
  rw [List.length_take] at hk
  exact ⟨k, by omega, by rw [List.getElem_take, List.getElem?_eq_getElem]⟩
theorem mem_drop_get {l : List El} {r : Nat} {x : El} (h : x ∈ l.drop r) : ∃ k, r ≤ k ∧ l[k]? = some x := by
  obtain ⟨k, hk, rfl⟩ := List.getElem_of_mem h
  rw [List.length_drop] at hk
  exact ⟨r + k, by omega, by rw [List.getElem_drop, List.getElem?_eq_getElem]⟩
/-- One is put into a sorted row. -/
theorem ins_sorted {v : List El} {x : El} {r : Nat} (hv : Srt v) (h1 : r = 0 ∨ ∃ z, v[r - 1]? = some z ∧ RR z x) (h2 : r = v.length ∨ ∃ z, v[r]? = some z ∧ RR x z) : Srt (v.take r ++ x :: v.drop r) := by
  unfold Srt at *
  rw [List.pairwise_append, List.pairwise_cons]
  have hx1 : ∀ a ∈ v.take r, RR a x := fun a ha => by
    obtain ⟨k, hk, e⟩ := mem_take_get ha
    rcases h1 with rfl | ⟨z, hz, h⟩
    · omega
    · rcases Srt.le hv e hz (by omega) with rfl | h3
      · exact h
      · exact h3.trans h
  have hx2 : ∀ a ∈ v.drop r, RR x a := fun a ha => by
    obtain ⟨k, hk, e⟩ := mem_drop_get ha
    rcases h2 with rfl | ⟨z, hz, h⟩
    · have := (List.getElem?_eq_some_iff.1 e).1
      omega
    · rcases Srt.le hv hz e hk with rfl | h3
      · exact h
      · exact h.trans h3
  refine ⟨hv.sublist (List.take_sublist _ _), ⟨hx2, hv.sublist (List.drop_sublist _ _)⟩, fun a ha b hb => ?_⟩
  rcases List.mem_cons.1 hb with rfl | hb
  · exact hx1 a ha
  · exact (hx1 a ha).trans (hx2 b hb)
/-- Two sorted rows are put together, cut where they may be. -/
theorem cut_sorted {u v t1 t2 : List El} {i j : Nat} (hu : Srt u) (hv : Srt v) (hj : j ≤ v.length) (hi : i ≤ u.length)
    (h1 : i = 0 ∨ j = v.length ∨ ∃ x y, u[i - 1]? = some x ∧ v[j]? = some y ∧ RR x y) (h2 : i = u.length ∨ j = 0 ∨ ∃ x y, u[i]? = some x ∧ v[j - 1]? = some y ∧ RR y x)
    (p1 : t1.Perm (u.take i ++ v.take j)) (p2 : t2.Perm (u.drop i ++ v.drop j)) (s1 : Srt t1) (s2 : Srt t2) : Srt (t1 ++ t2) := by
  unfold Srt at s1 s2 ⊢
  rw [List.pairwise_append]
  refine ⟨s1, s2, fun a ha b hb => ?_⟩
  have ha := p1.mem_iff.1 ha
  have hb := p2.mem_iff.1 hb
  rcases List.mem_append.1 ha with ha | ha <;> rcases List.mem_append.1 hb with hb | hb
  · obtain ⟨k, hk, e1⟩ := mem_take_get ha
    obtain ⟨q, hq, e2⟩ := mem_drop_get hb
    rcases hu.le e1 e2 (by omega) with h | h
    · exfalso
      obtain ⟨h3, h4⟩ := List.getElem?_eq_some_iff.1 e1
      obtain ⟨h5, h6⟩ := List.getElem?_eq_some_iff.1 e2
      have := List.pairwise_iff_getElem.1 hu k q h3 h5 (by omega)
      rw [h4, h6, h] at this
      exact this.asymm this
    · exact h
  · obtain ⟨k, hk, e1⟩ := mem_take_get ha
    obtain ⟨q, hq, e2⟩ := mem_drop_get hb
    rcases h1 with rfl | rfl | ⟨x, y, hx, hy, h⟩
    · omega
    · have := (List.getElem?_eq_some_iff.1 e2).1
      omega
    · have h3 : RR a y := by
        rcases hu.le e1 hx (by omega) with rfl | h4
        · exact h
        · exact h4.trans h
      rcases hv.le hy e2 hq with rfl | h4
      · exact h3
      · exact h3.trans h4
  · obtain ⟨k, hk, e1⟩ := mem_take_get ha
    obtain ⟨q, hq, e2⟩ := mem_drop_get hb
    rcases h2 with rfl | rfl | ⟨x, y, hx, hy, h⟩
    · have := (List.getElem?_eq_some_iff.1 e2).1
      omega
    · omega
    · have h3 : RR a x := by
        rcases hv.le e1 hy (by omega) with rfl | h4
        · exact h
        · exact h4.trans h
      rcases hu.le hx e2 hq with rfl | h4
      · exact h3
      · exact h3.trans h4
  · obtain ⟨k, hk, e1⟩ := mem_take_get ha
    obtain ⟨q, hq, e2⟩ := mem_drop_get hb
    obtain ⟨h3, h4⟩ := List.getElem?_eq_some_iff.1 e1
    obtain ⟨h5, h6⟩ := List.getElem?_eq_some_iff.1 e2
    have := List.pairwise_iff_getElem.1 hv k q h3 h5 (by omega)
    rw [h4, h6] at this
    exact this
end Go.Proofs.Ytbhgbgaeaejnhaa.Typ
/- The library's symMerge, where the first row has one element. Conditions: sizes. -/
namespace Go.Proofs.Ytbhgbgaeaejnhaa.Typ
open Go.RowKit Tre Go.Sort Go.Shelf
set_option maxRecDepth 100000
set_option linter.unusedSimpArgs false
theorem get_mid {p u s : List El} {k : Nat} {x : El} (h : u[k]? = some x) : (p ++ (u ++ s))[p.length + k]? = some x := by
  have hk := (List.getElem?_eq_some_iff.1 h).1
  rw [List.getElem?_append_right (by omega), Nat.add_sub_cancel_left, List.getElem?_append_left hk]
  exact h
/-- A pair of elements, in every world of the class; cmp of them. -/
theorem SB.two {w0 wr : World} {b n : Nat} {D : List El} (h : SB w0 b n D wr) {i : Nat} {x : El} (hx : D[i]? = some x) (q : Nat) (os : Array Obj) : (grow (wr.drewN q) os).cell? ⟨b, i * 3, none⟩ = some (.string x.1.s) ∧ (grow (wr.drewN q) os).cell? ⟨b, i * 3 + 1, none⟩ = some (.slice x.1.a x.1.p.length x.1.c) ∧ (grow (wr.drewN q) os).cell? ⟨b, i * 3 + 2, none⟩ = some (.int .u8 x.1.r) := (h.grown q os).cells hx
theorem cmp_cls (x y : El) (wr : World) (q : Nat) (os : Array Obj) : Calls Try.prog 33 #[.agg #[.string x.1.s, .slice x.1.a x.1.p.length x.1.c, .int .u8 x.1.r], .agg #[.string y.1.s, .slice y.1.a y.1.p.length y.1.c, .int .u8 y.1.r]] (grow (wr.drewN q) os) (fun e w' => e = .returned (.int .i64 (cfE x y)) ∧ ∃ q' os', w' = grow ((grow (wr.drewN q) os).drewN q') os') :=
  (cmp_any x y _).mono fun _ _ ⟨h1, os', h2⟩ => ⟨h1, 0, os', h2⟩
/-- What the search knows. -/
structure Sy1 (w0 : World) (b n m : Nat) (D v : List El) (x : El) (i j : Nat) (wr : World) : Prop where
  sb : SB w0 b n D wr
  lo : i = m ∨ ∃ z, v[i - 1 - m]? = some z ∧ RR z x
  hi : j = m + v.length ∨ ∃ z, v[j - m]? = some z ∧ RR x z
set_option maxHeartbeats 16000000 in
theorem sym_one {w0 W : World} {b n c a m e : Nat} {p v s : List El} {x : El} (h : SB w0 b n (p ++ ([x] ++ (v ++ s))) W) (hv : Srt v) (hxv : ∀ y ∈ v, x.2 < y.2) (ha : a = p.length) (hm : m = a + 1) (he : e = m + v.length) (hn : n ≤ 1000000) :
    Calls Try.prog 56 #[.slice (some ⟨b, 0, none⟩) n c, .int .i64 a, .int .i64 m, .int .i64 e, .func (.func 33) #[] #[]] W (fun e w' => e = .returned (.tuple #[]) ∧ ∃ t, t.Perm ([x] ++ v) ∧ Srt t ∧ SB w0 b n (p ++ (t ++ s)) w') := by
  have mixed := mixedT
  have hlen := h.len
  simp only [List.length_append, List.length_singleton] at hlen
  have hgx : (p ++ ([x] ++ (v ++ s)))[a]? = some x := by rw [ha]; exact get_app _ _ _
  have HGX := Lib.hid hgx
  have HGV : Hid (∀ k z, v[k]? = some z → (p ++ ([x] ++ (v ++ s)))[m + k]? = some z) := Lib.hid (fun k z hz => by
    have := get_mid (p := p ++ [x]) (s := s) hz
    rw [hm, ha]
    simpa [List.append_assoc] using this)
  have H0 : Hid (Sy1 w0 b n m (p ++ ([x] ++ (v ++ s))) v x m e W) := Lib.hid ⟨h, .inl rfl, .inl he⟩
  have HVL : Hid (v.length = e - m ∧ a = p.length ∧ Srt v ∧ ∀ y ∈ v, x.2 < y.2) := Lib.hid ⟨by omega, ha, hv, hxv⟩
  have hme : m ≤ e := by omega
  have hen : e ≤ n := by omega
  have e1 : (m : Int) - (a : Int) = 1 := by omega
  have ham : a < m := by omega
  clear h hlen hgx hv hxv ha hm he
  go_enter Try.func56, Try.ntmps56
  go_wp2_with fail
  go_loopw [10, 11] (fun vi vj wr => ∃ i j : Nat, vi = .int .i64 i ∧ vj = .int .i64 j ∧ m ≤ i ∧ i ≤ j ∧ j ≤ e ∧ Hid (Sy1 w0 b n m (p ++ ([x] ++ (v ++ s))) v x i j wr)) (fun vi vj _ => (intOf vj - intOf vi).toNat)
  case atStart => exact ⟨m, e, rfl, rfl, Nat.le_refl _, hme, Nat.le_refl _, H0⟩
  case round =>
    obtain ⟨i, j, rfl, rfl, hmi, hij, hje, H⟩ := hrel
    clear H0
    by_cases hlt : i < j
    · obtain ⟨q, hq⟩ : ∃ q, (i + j) / 2 = q := ⟨_, rfl⟩
      have hq1 : i ≤ q := by omega
      have hq2 : q < j := by omega
      have hq3 : ((i : Int) + (j : Int)) / 2 = (q : Int) := by omega
      obtain ⟨z, hz⟩ : ∃ z, v[q - m]? = some z := ⟨_, List.getElem?_eq_getElem (by have := HVL.out.1; omega)⟩
      have hgz := HGV.out _ _ hz
      rw [show m + (q - m) = q by omega] at hgz
      have c0 := fun q' os => (H.out.sb.two hgz q' os).1
      have c1 := fun q' os => (H.out.sb.two hgz q' os).2.1
      have c2 := fun q' os => (H.out.sb.two hgz q' os).2.2
      have d0 := fun q' os => (H.out.sb.two HGX.out q' os).1
      have d1 := fun q' os => (H.out.sb.two HGX.out q' os).2.1
      have d2 := fun q' os => (H.out.sb.two HGX.out q' os).2.2
      have eg : ∀ args w, (callFunc 33 args).run Try.prog w = .ok (.enter 33 args) w := enters_of Try.func33 (by kernel_rfl) rfl
      have hcg := fun q' os => Lib.hid (cmp_cls z x wr q' os)
      have HZ := Lib.hid hz
      have hqn : q < n := by omega
      have han : a < n := by omega
      by_cases hlv : cfE z x < 0
      · have HN : Hid (∀ q' os, Sy1 w0 b n m (p ++ ([x] ++ (v ++ s))) v x (q + 1) j (grow (wr.drewN q') os)) := Lib.hid (fun q' os => ⟨H.out.sb.grown q' os, .inr ⟨z, by rw [show q + 1 - 1 - m = q - m by omega]; exact HZ.out, cmp_yes hlv⟩, H.out.hi⟩)
        clear hz hgz
        generalize z.1.p.length = zl at *
        generalize x.1.p.length = xl at *
        go_wp2_with fail
        go_quiet_grown (first | (go_at_call 33; exact Calls.grown_of ((hcg _ _).out)))
        go_wp2_with fail
        go_roundw
        case rel => exact ⟨q + 1, j, by go_num, rfl, by omega, by omega, hje, Lib.hid (HN.out _ _)⟩
        case measure => simp [intOf]; omega
      · have HN : Hid (∀ q' os, Sy1 w0 b n m (p ++ ([x] ++ (v ++ s))) v x i q (grow (wr.drewN q') os)) := Lib.hid (fun q' os => ⟨H.out.sb.grown q' os, H.out.lo, .inr ⟨z, HZ.out, cmp_no hlv (HVL.out.2.2.2 z (List.mem_of_getElem? HZ.out))⟩⟩)
        clear hz hgz
        generalize z.1.p.length = zl at *
        generalize x.1.p.length = xl at *
        go_wp2_with fail
        go_quiet_grown (first | (go_at_call 33; exact Calls.grown_of ((hcg _ _).out)))
        go_wp2_with fail
        go_roundw
        case rel => exact ⟨i, q, rfl, rfl, hmi, by omega, by omega, Lib.hid (HN.out _ _)⟩
        case measure => simp [intOf]; omega
    · obtain rfl : i = j := by omega
      obtain ⟨r, hr⟩ : ∃ r, i - m = r := ⟨_, rfl⟩
      have HS : Hid (Srt (v.take r ++ x :: v.drop r)) := Lib.hid (ins_sorted HVL.out.2.2.1 (by
        rcases H.out.lo with h1 | ⟨z, h1, h2⟩
        · exact .inl (by omega)
        · exact .inr ⟨z, by rw [show r - 1 = i - 1 - m by omega]; exact h1, h2⟩) (by
        rcases H.out.hi with h1 | ⟨z, h1, h2⟩
        · exact .inl (by omega)
        · exact .inr ⟨z, by rw [← hr]; exact h1, h2⟩))
      have H1 : Hid (SB w0 b n (p ++ (v.take 0 ++ x :: (v.drop 0 ++ s))) wr) := Lib.hid (by simpa using H.out.sb)
      have hi1 : (i : Int) - 1 = (a : Int) + (r : Int) := by omega
      have hrl : r ≤ v.length := by have := HVL.out.1; omega
      have HRL := Lib.hid hrl
      clear H hrl
      go_wp2_with fail
      go_loopw [13] (fun vk wk => ∃ k q : Nat, vk = .int .i64 k ∧ Hid (k = a + q) ∧ q ≤ r ∧ Hid (SB w0 b n (p ++ (v.take q ++ x :: (v.drop q ++ s))) wk)) (fun vk _ => (a + r) - (intOf vk).toNat)
      case atStart => exact ⟨a, 0, rfl, Lib.hid rfl, Nat.zero_le _, H1⟩
      case round =>
        obtain ⟨k, q, rfl, HK, hq, H⟩ := hrel
        have hkq := HK.out
        by_cases hlt2 : q < r
        · obtain ⟨z, hz⟩ : ∃ z, v[q]? = some z := ⟨_, List.getElem?_eq_getElem (by have := HRL.out; omega)⟩
          have ez : v.drop q = z :: v.drop (q + 1) := by
            obtain ⟨h1, h2⟩ := List.getElem?_eq_some_iff.1 hz
            rw [List.drop_eq_getElem_cons h1, h2]
          have tz : v.take (q + 1) = v.take q ++ [z] := by rw [List.take_add_one, hz]; rfl
          have HD : Hid (SB w0 b n ((p ++ v.take q) ++ x :: ([] ++ z :: (v.drop (q + 1) ++ s))) wr) := Lib.hid (by
            have := H.out
            rw [ez] at this
            simpa [List.append_assoc] using this)
          have hil : k = (p ++ v.take q).length := by
            have h1 := HVL.out.2.1
            have h2 := HRL.out
            rw [List.length_append, List.length_take, Nat.min_eq_left (by omega), ← h1, hkq]
          have hjl : k + 1 = (p ++ v.take q).length + 1 + ([] : List El).length := by rw [← hil]; rfl
          have hgi : ((p ++ v.take q) ++ x :: ([] ++ z :: (v.drop (q + 1) ++ s)))[k]? = some x := by rw [hil]; exact get_app _ _ _
          have hgj : ((p ++ v.take q) ++ x :: ([] ++ z :: (v.drop (q + 1) ++ s)))[k + 1]? = some z := by
            have := get_app ((p ++ v.take q) ++ [x]) (v.drop (q + 1) ++ s) z
            rw [List.length_append, List.length_singleton, ← hil] at this
            simpa [List.append_assoc] using this
          obtain ⟨c0, c1, c2⟩ := HD.out.cells hgi
          obtain ⟨d0, d1, d2⟩ := HD.out.cells hgj
          obtain ⟨f0, f1, f2⟩ := HD.out.frees (List.getElem?_eq_some_iff.1 hgi).1
          obtain ⟨g0, g1, g2⟩ := HD.out.frees (List.getElem?_eq_some_iff.1 hgj).1
          have HN : Hid (SB w0 b n (p ++ (v.take (q + 1) ++ x :: (v.drop (q + 1) ++ s))) (put3w (put3w wr b k z) b (k + 1) x).drew) := Lib.hid (by
            have := (HD.out.swap hil hjl).1.drew
            rw [tz]
            simpa [List.append_assoc] using this)
          have hlt3 : (k : Int) < (a : Int) + (r : Int) := by omega
          have hin : k + 1 < n := by have := HVL.out.1; have := HRL.out; omega
          have hin2 : k < n := by omega
          have HZ2 : Hid (k + 1 = a + (q + 1)) := Lib.hid (by omega)
          obtain ⟨⟨us, ua, uc, up, ur⟩, ui⟩ := x
          obtain ⟨⟨vs, va, vc, vp, vr⟩, vi⟩ := z
          simp only at c0 c1 c2 d0 d1 d2
          unfold put3w at HN
          simp only at HN
          generalize up.length = upl at *
          generalize vp.length = vpl at *
          clear hz ez tz hgi hgj hil hjl hkq
          go_wp2_with fail
          go_big_region_o
          all_goals go_wp2_with fail
          go_roundw
          case rel => exact ⟨k + 1, q + 1, by go_num, HZ2, by omega, HN⟩
          case measure => simp [intOf]; omega
        · obtain rfl : q = r := by omega
          have hlt3 : ¬ (k : Int) < (a : Int) + (q : Int) := by omega
          clear hkq
          go_wp2_with fail
          (try simp only [Exit.inBlock, Exit.then])
          refine bodyPost_ret (results_none rfl _ _ _) rfl ?_
          refine ⟨rfl, v.take q ++ x :: v.drop q, ?_, HS.out, by simpa [List.append_assoc] using H.out⟩
          have h1 : (v.take q ++ x :: v.drop q).Perm (x :: (v.take q ++ v.drop q)) := List.perm_middle
          rw [List.take_append_drop] at h1
          simpa using h1
end Go.Proofs.Ytbhgbgaeaejnhaa.Typ
