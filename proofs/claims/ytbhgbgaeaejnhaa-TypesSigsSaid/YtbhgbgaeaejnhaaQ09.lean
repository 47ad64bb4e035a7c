/-
  The library's insertion sort of a row's part. Conditions: sizes.
-/
import Derived.Test.YtbhgbgaeaejnhaaQ08
namespace Go.Proofs.Ytbhgbgaeaejnhaa.Typ
open Go.RowKit Tre Go.Sort Go.Shelf
set_option maxRecDepth 100000
set_option linter.unusedSimpArgs false
/-- They stand as they stood. -/
def Ups (l : List El) : Prop := l.Pairwise (fun x y => x.2 < y.2)
theorem ins_mid {t1 t2 : List El} {x : El} (h : Srt (t1 ++ t2)) (h1 : t1 = [] ∨ ∃ t z, t1 = t ++ [z] ∧ RR z x) (h2 : ∀ z ∈ t2, RR x z) : Srt (t1 ++ x :: t2) := by
  unfold Srt at *
  rw [List.pairwise_append] at h
  rw [List.pairwise_append, List.pairwise_cons]
  refine ⟨h.1, ⟨h2, h.2.1⟩, fun y hy z hz => ?_⟩
  rcases List.mem_cons.1 hz with rfl | hz
  · rcases h1 with rfl | ⟨t, z', rfl, hr⟩
    · exact absurd hy List.not_mem_nil
    · rcases List.mem_append.1 hy with hy | hy
      · have := (List.pairwise_append.1 h.1).2.2 y hy z' (by simp)
        exact this.trans hr
      · rw [List.mem_singleton] at hy
        rw [hy]; exact hr
  · exact h.2.2 y hy z hz
theorem srt_one (l : List El) : Srt (l.take 1) := by
  cases l with
  | nil => exact List.Pairwise.nil
  | cons x l => simp [Srt]
/-- The outer loop. -/
structure In1 (w0 : World) (b n : Nat) (p u s : List El) (q : Nat) (t : List El) (wr : World) : Prop where
  q1 : 1 ≤ q
  perm : t.Perm (u.take q)
  srt : Srt t
  sb : SB w0 b n (p ++ (t ++ (u.drop q ++ s))) wr
/-- The inner loop. -/
structure In2 (w0 : World) (b n : Nat) (p s : List El) (x : El) (t t1 t2 : List El) (wr : World) : Prop where
  eq : t1 ++ t2 = t
  le : ∀ z ∈ t2, RR x z
  sb : SB w0 b n (p ++ (t1 ++ x :: (t2 ++ s))) wr
set_option maxHeartbeats 16000000 in
theorem ins_any {w0 W : World} {b n c a e : Nat} {p u s : List El} (h : SB w0 b n (p ++ (u ++ s)) W) (hu : Ups u) (ha : a = p.length) (he : e = a + u.length) (hn : n ≤ 1000000) :
    Calls Try.prog 55 #[.slice (some ⟨b, 0, none⟩) n c, .int .i64 a, .int .i64 e, .func (.func 33) #[] #[]] W (fun e w' => e = .returned (.tuple #[]) ∧ ∃ t, t.Perm u ∧ Srt t ∧ SB w0 b n (p ++ (t ++ s)) w') := by
  have mixed := mixedT
  have hlen := h.len
  simp only [List.length_append] at hlen
  have H0 : Hid (In1 w0 b n p u s 1 (u.take 1) W) := Lib.hid ⟨Nat.le_refl _, List.Perm.refl _, srt_one u, by rw [← List.append_assoc (u.take 1), List.take_append_drop]; exact h⟩
  obtain ⟨d, hd⟩ : ∃ d, u.length = d := ⟨_, rfl⟩
  have HH : Hid (u.length = d ∧ a = p.length ∧ Ups u ∧ e = a + d ∧ e ≤ n) := Lib.hid ⟨hd, ha, hu, by omega, by omega⟩
  have han : a ≤ n := by omega
  have hen : e ≤ n := by omega
  clear h hlen hu ha he hd
  go_enter Try.func55, Try.ntmps55
  go_wp2_with fail
  go_loopw [8] (fun vi wr => ∃ i q t, vi = .int .i64 (i : Nat) ∧ Hid (i = a + q) ∧ i ≤ n + 1 ∧ Hid (In1 w0 b n p u s q t wr)) (fun vi _ => n + 1 - (intOf vi).toNat)
  case atStart => exact ⟨a + 1, 1, _, by go_num, Lib.hid rfl, by omega, H0⟩
  case round =>
    obtain ⟨i, q, t, rfl, HI, hi, H⟩ := hrel
    clear H0
    by_cases hlt : i < e
    · obtain ⟨x, hx⟩ : ∃ x, u[q]? = some x := ⟨_, List.getElem?_eq_getElem (by have := HH.out; have := HI.out; omega)⟩
      have ex : u.drop q = x :: u.drop (q + 1) := by
        obtain ⟨h1, h2⟩ := List.getElem?_eq_some_iff.1 hx
        rw [List.drop_eq_getElem_cons h1, h2]
      have tx : u.take (q + 1) = u.take q ++ [x] := by rw [List.take_add_one, hx]; rfl
      obtain ⟨s1, hs1⟩ : ∃ s1, u.drop (q + 1) ++ s = s1 := ⟨_, rfl⟩
      have H1 : Hid (In2 w0 b n p s1 x t t [] wr) := Lib.hid ⟨List.append_nil _, (by simp), by
        have := H.out.sb
        rw [ex] at this
        rw [← hs1]
        simpa using this⟩
      have HX : Hid (∀ z ∈ t, z.2 < x.2) := Lib.hid (fun z hz => by
        have h1 := H.out.perm.mem_iff.1 hz
        obtain ⟨k, hk, e1⟩ := mem_take_get h1
        obtain ⟨g1, g2⟩ := List.getElem?_eq_some_iff.1 e1
        obtain ⟨g3, g4⟩ := List.getElem?_eq_some_iff.1 hx
        have := List.pairwise_iff_getElem.1 HH.out.2.2.1 k q g1 g3 hk
        rw [g2, g4] at this
        exact this)
      have HT : Hid (t.length = q) := Lib.hid (by
        rw [H.out.perm.length_eq, List.length_take]
        have := (List.getElem?_eq_some_iff.1 hx).1
        omega)
      have HN : Hid (∀ t1 t2 w, t1 ++ t2 = t → Srt (t1 ++ x :: t2) → SB w0 b n (p ++ (t1 ++ x :: (t2 ++ s1))) w → In1 w0 b n p u s (q + 1) (t1 ++ x :: t2) w) := Lib.hid (fun t1 t2 w h1 h2 h3 => ⟨by omega, by
        have g1 : (t1 ++ x :: t2).Perm (x :: (t1 ++ t2)) := List.perm_middle
        rw [h1] at g1
        rw [tx]
        exact (g1.trans (List.Perm.cons x H.out.perm)).trans (List.perm_append_comm (l₁ := [x])), h2, by
        rw [← hs1] at h3
        simpa using h3⟩)
      have HS : Hid (Srt t) := Lib.hid H.out.srt
      have HE : Hid (a + t.length = i) := Lib.hid (by have := HI.out; have := HT.out; omega)
      have hai : a ≤ i := by have := HE.out; omega
      clear hx ex tx H hs1
      go_wp2_with fail
      go_loopw [9] (fun vj wr => ∃ j t1 t2, vj = .int .i64 (j : Nat) ∧ Hid (j = a + t1.length) ∧ j ≤ i ∧ Hid (In2 w0 b n p s1 x t t1 t2 wr)) (fun vj _ => (intOf vj).toNat)
      case atStart => exact ⟨i, t, [], rfl, Lib.hid HE.out.symm, Nat.le_refl _, H1⟩
      case round =>
        obtain ⟨j, t1, t2, rfl, HJ, hji, H⟩ := hrel
        clear H1
        rcases List.eq_nil_or_concat t1 with rfl | ⟨t3, z, rfl⟩
        · have hja : j = a := HJ.out
          have HM : Hid (In1 w0 b n p u s (q + 1) ([] ++ x :: t2) wr.drew) := Lib.hid (HN.out [] t2 _ H.out.eq (ins_mid (by rw [H.out.eq]; exact HS.out) (.inl rfl) H.out.le) H.out.sb.drew)
          have HI2 : Hid (i + 1 = a + (q + 1)) := Lib.hid (by have := HI.out; omega)
          have hjaz : decide ((j : Int) > (a : Int)) = false := decide_eq_false (by omega)
          have hjaz' : ¬ (a : Int) < (j : Int) := by omega
          have hjan : ¬ a < j := by omega
          have hin : i + 1 ≤ n + 1 := by omega
          clear HJ HI hja
          go_wp2_with fail
          go_big_region_o
          all_goals go_wp2_with fail
          go_roundw
          case rel => exact ⟨i + 1, q + 1, _, by go_num, HI2, hin, HM⟩
          case measure => simp [intOf]; omega
        · obtain ⟨g, rfl⟩ : ∃ g, j = g + 1 := ⟨j - 1, by have := HJ.out; simp at this; omega⟩
          have hgl : g = a + t3.length := by have := HJ.out; simp at this; omega
          have HD : Hid (SB w0 b n ((p ++ t3) ++ z :: ([] ++ x :: (t2 ++ s1))) wr) := Lib.hid (by simpa [List.append_assoc] using H.out.sb)
          have hil : g = (p ++ t3).length := by rw [List.length_append, ← HH.out.2.1]; exact hgl
          have hjl : g + 1 = (p ++ t3).length + 1 + ([] : List El).length := by rw [← hil]; rfl
          have hgi : ((p ++ t3) ++ z :: ([] ++ x :: (t2 ++ s1)))[g]? = some z := by rw [hil]; exact get_app _ _ _
          have hgj : ((p ++ t3) ++ z :: ([] ++ x :: (t2 ++ s1)))[g + 1]? = some x := by
            have := get_app ((p ++ t3) ++ [z]) (t2 ++ s1) x
            rw [List.length_append, List.length_singleton, ← hil] at this
            simpa [List.append_assoc] using this
          have c0 := fun q' os => (HD.out.two hgi q' os).1
          have c1 := fun q' os => (HD.out.two hgi q' os).2.1
          have c2 := fun q' os => (HD.out.two hgi q' os).2.2
          have d0 := fun q' os => (HD.out.two hgj q' os).1
          have d1 := fun q' os => (HD.out.two hgj q' os).2.1
          have d2 := fun q' os => (HD.out.two hgj q' os).2.2
          have eg : ∀ args w, (callFunc 33 args).run Try.prog w = .ok (.enter 33 args) w := enters_of Try.func33 (by kernel_rfl) rfl
          have hcg := fun q' os => Lib.hid (cmp_cls x z wr q' os)
          have hxz := HX.out z (by have := H.out.eq; rw [← this]; simp)
          have hwp : IntKind.i64.wrap (g : Int) = (g : Int) := IntWalk.i64_in _ (by omega)
          have jz : (g : Int) + 1 < (n : Int) := by omega
          have jz1 : (g : Int) < (n : Int) := by omega
          have jz2 : (a : Int) < (g : Int) + 1 := by omega
          have jz3 : a < g + 1 := by omega
          have p0 : (0 : Int) ≤ (g : Int) + 1 := by omega
          have e0 : ((g : Int) + 1).toNat = g + 1 := by omega
          have hjb : decide ((g : Int) + 1 > (a : Int)) = true := decide_eq_true (by omega)
          by_cases hlv : cfE x z < 0
          · have hlb : decide (cfE x z < 0) = true := decide_eq_true hlv
            have HB : Hid (∀ q' os, SB w0 b n ((p ++ t3) ++ z :: ([] ++ x :: (t2 ++ s1))) (grow (wr.drewN q') os)) := Lib.hid (fun q' os => HD.out.grown q' os)
            have HQ : Hid ((t3 ++ z :: t2 = t) ∧ ∀ y ∈ z :: t2, RR x y) := Lib.hid ⟨by simpa using H.out.eq, by
              intro y hy
              rcases List.mem_cons.1 hy with rfl | hy
              · exact cmp_yes hlv
              · exact H.out.le y hy⟩
            have HG : Hid (g = a + t3.length ∧ g = (p ++ t3).length ∧ g + 1 = (p ++ t3).length + 1 + ([] : List El).length) := Lib.hid ⟨hgl, hil, hjl⟩
            have HGI := Lib.hid hgi
            have HGJ := Lib.hid hgj
            have hgi2 : g ≤ i := by omega
            clear hgi hgj hil hjl hgl HJ HD H hlv hxz
            have HLX : Hid True := Lib.hid trivial
            obtain ⟨⟨us, ua, uc, up, ur⟩, ui⟩ := x
            obtain ⟨⟨vs, va, vc, vp, vr⟩, vi⟩ := z
            simp only at c0 c1 c2 d0 d1 d2 hcg
            go_wp2_with fail
            go_quiet_grown (first | (go_at_call 33; exact Calls.grown_of ((hcg _ _).out)))
            go_wp2_with fail
            have HB2 := HB.out nq osq
            clear c0 c1 c2 d0 d1 d2 hcg HB
            generalize grow (wr.drewN nq) osq = wq at HB2 ⊢
            obtain ⟨c0, c1, c2⟩ := HB2.cells HGI.out
            obtain ⟨d0, d1, d2⟩ := HB2.cells HGJ.out
            obtain ⟨f0, f1, f2⟩ := HB2.frees (List.getElem?_eq_some_iff.1 HGI.out).1
            obtain ⟨g0, g1, g2⟩ := HB2.frees (List.getElem?_eq_some_iff.1 HGJ.out).1
            have HN2 := Lib.hid ((HB2.swap HG.out.2.1 HG.out.2.2).2.drew)
            have HN3 : Hid (In2 w0 b n p s1 (⟨us, ua, uc, up, ur⟩, ui) t t3 ((⟨vs, va, vc, vp, vr⟩, vi) :: t2) (put3w (put3w wq b (g + 1) (⟨vs, va, vc, vp, vr⟩, vi)) b g (⟨us, ua, uc, up, ur⟩, ui)).drew) := Lib.hid ⟨HQ.out.1, HQ.out.2, by simpa [List.append_assoc] using HN2.out⟩
            clear HB2 HN2
            simp only at c0 c1 c2 d0 d1 d2
            unfold put3w at HN3
            simp only at HN3
            generalize up.length = upl at *
            generalize vp.length = vpl at *
            go_big_region_o
            all_goals go_wp2_with fail
            go_roundw
            case rel => exact ⟨g, t3, _, by go_num, Lib.hid HG.out.1, hgi2, HN3⟩
            case measure => simp [intOf]
          · have hlb : decide (cfE x z < 0) = false := decide_eq_false hlv
            have HM : Hid (∀ q' os, In1 w0 b n p u s (q + 1) ((t3.concat z) ++ x :: t2) (grow (wr.drewN q') os)) := Lib.hid (fun q' os => HN.out _ t2 _ H.out.eq (ins_mid (by rw [H.out.eq]; exact HS.out) (.inr ⟨t3, z, by simp, cmp_no hlv hxz⟩) H.out.le) (H.out.sb.grown q' os))
            have HI2 : Hid (i + 1 = a + (q + 1)) := Lib.hid (by have := HI.out; omega)
            have hin : i + 1 ≤ n + 1 := by omega
            clear hgi hgj hil hjl hgl HJ HD H hlv hxz HI
            generalize x.1.p.length = zl at *
            generalize z.1.p.length = xl at *
            go_wp2_with fail
            go_quiet_grown (first | (go_at_call 33; exact Calls.grown_of ((hcg _ _).out)))
            go_wp2_with fail
            go_roundw
            case rel => exact ⟨i + 1, q + 1, _, by go_num, HI2, hin, Lib.hid (HM.out _ _)⟩
            case measure => simp [intOf]; omega
    · have HE : Hid (u.take q = u ∧ u.drop q = []) := Lib.hid (by
        have h1 := HH.out
        have h2 := HI.out
        exact ⟨List.take_of_length_le (by omega), List.drop_of_length_le (by omega)⟩)
      go_wp2_with fail
      go_end0
      refine ⟨rfl, t, ?_, H.out.srt, ?_⟩
      · have := H.out.perm
        rw [HE.out.1] at this
        exact this
      · have := H.out.sb
        rw [HE.out.2] at this
        simpa using this
end Go.Proofs.Ytbhgbgaeaejnhaa.Typ
/- The library's symMerge, where the second row has one element. Conditions: sizes. -/
namespace Go.Proofs.Ytbhgbgaeaejnhaa.Typ
open Go.RowKit Tre Go.Sort Go.Shelf
set_option maxRecDepth 100000
set_option linter.unusedSimpArgs false
/-- What the search knows. -/
structure Sy2 (w0 : World) (b n a : Nat) (D u : List El) (y : El) (i j : Nat) (wr : World) : Prop where
  sb : SB w0 b n D wr
  lo : i = a ∨ ∃ z, u[i - 1 - a]? = some z ∧ RR z y
  hi : j = a + u.length ∨ ∃ z, u[j - a]? = some z ∧ RR y z
set_option maxHeartbeats 16000000 in
theorem sym_last {w0 W : World} {b n c a m e : Nat} {p u s : List El} {y : El} (h : SB w0 b n (p ++ (u ++ ([y] ++ s))) W) (hu : Srt u) (hxu : ∀ z ∈ u, z.2 < y.2) (ha : a = p.length) (hm : m = a + u.length) (he : e = m + 1) (h1 : u.length ≠ 1) (hn : n ≤ 1000000) :
    Calls Try.prog 56 #[.slice (some ⟨b, 0, none⟩) n c, .int .i64 a, .int .i64 m, .int .i64 e, .func (.func 33) #[] #[]] W (fun e w' => e = .returned (.tuple #[]) ∧ ∃ t, t.Perm (u ++ [y]) ∧ Srt t ∧ SB w0 b n (p ++ (t ++ s)) w') := by
  have mixed := mixedT
  have hlen := h.len
  simp only [List.length_append, List.length_singleton] at hlen
  have hgy : (p ++ (u ++ ([y] ++ s)))[m]? = some y := by
    have := get_app (p ++ u) s y
    rw [List.length_append, ← ha, ← hm] at this
    simpa [List.append_assoc] using this
  have HGY := Lib.hid hgy
  have HGU : Hid (∀ k z, u[k]? = some z → (p ++ (u ++ ([y] ++ s)))[a + k]? = some z) := Lib.hid (fun k z hz => by
    rw [ha]
    exact get_mid hz)
  have H0 : Hid (Sy2 w0 b n a (p ++ (u ++ ([y] ++ s))) u y a m W) := Lib.hid ⟨h, .inl rfl, .inl hm⟩
  obtain ⟨d, hd⟩ : ∃ d, u.length = d := ⟨_, rfl⟩
  have HUL : Hid (u.length = d ∧ a = p.length ∧ Srt u ∧ ∀ z ∈ u, z.2 < y.2) := Lib.hid ⟨hd, ha, hu, hxu⟩
  have hmd : m = a + d := by omega
  have HMD := Lib.hid hmd
  have ham : a ≤ m := by omega
  have hen : e ≤ n := by omega
  have hmn : m < n := by omega
  have e1 : (m : Int) - (a : Int) = (d : Int) := by omega
  have e2 : (e : Int) - (m : Int) = 1 := by omega
  have e3 : ((d : Int) == 1) = false := by rw [beq_eq_false_iff_ne]; omega
  clear h hlen hgy hu hxu ha hm he h1 hd hmd
  go_enter Try.func56, Try.ntmps56
  go_wp2_with fail
  go_loopw [14, 15] (fun vi vj wr => ∃ i j : Nat, vi = .int .i64 i ∧ vj = .int .i64 j ∧ a ≤ i ∧ i ≤ j ∧ j ≤ m ∧ Hid (Sy2 w0 b n a (p ++ (u ++ ([y] ++ s))) u y i j wr)) (fun vi vj _ => (intOf vj - intOf vi).toNat)
  case atStart => exact ⟨a, m, rfl, rfl, Nat.le_refl _, ham, Nat.le_refl _, H0⟩
  case round =>
    obtain ⟨i, j, rfl, rfl, hai, hij, hjm, H⟩ := hrel
    clear H0
    by_cases hlt : i < j
    · obtain ⟨q, hq⟩ : ∃ q, (i + j) / 2 = q := ⟨_, rfl⟩
      have hq1 : i ≤ q := by omega
      have hq2 : q < j := by omega
      have hq3 : ((i : Int) + (j : Int)) / 2 = (q : Int) := by omega
      obtain ⟨z, hz⟩ : ∃ z, u[q - a]? = some z := ⟨_, List.getElem?_eq_getElem (by have := HUL.out.1; have := HMD.out; omega)⟩
      have hgz := HGU.out _ _ hz
      rw [show a + (q - a) = q by omega] at hgz
      have c0 := fun q' os => (H.out.sb.two hgz q' os).1
      have c1 := fun q' os => (H.out.sb.two hgz q' os).2.1
      have c2 := fun q' os => (H.out.sb.two hgz q' os).2.2
      have d0 := fun q' os => (H.out.sb.two HGY.out q' os).1
      have d1 := fun q' os => (H.out.sb.two HGY.out q' os).2.1
      have d2 := fun q' os => (H.out.sb.two HGY.out q' os).2.2
      have eg : ∀ args w, (callFunc 33 args).run Try.prog w = .ok (.enter 33 args) w := enters_of Try.func33 (by kernel_rfl) rfl
      have hcg := fun q' os => Lib.hid (cmp_cls y z wr q' os)
      have HZ := Lib.hid hz
      have hqn : q < n := by omega
      by_cases hlv : cfE y z < 0
      · have HN : Hid (∀ q' os, Sy2 w0 b n a (p ++ (u ++ ([y] ++ s))) u y i q (grow (wr.drewN q') os)) := Lib.hid (fun q' os => ⟨H.out.sb.grown q' os, H.out.lo, .inr ⟨z, HZ.out, cmp_yes hlv⟩⟩)
        have hlb : decide (cfE y z < 0) = true := decide_eq_true hlv
        clear hlv
        clear hz hgz
        generalize z.1.p.length = zl at *
        generalize y.1.p.length = xl at *
        go_wp2_with fail
        go_quiet_grown (first | (go_at_call 33; exact Calls.grown_of ((hcg _ _).out)))
        go_wp2_with fail
        go_roundw
        case rel => exact ⟨i, q, rfl, rfl, hai, by omega, by omega, Lib.hid (HN.out _ _)⟩
        case measure => simp [intOf]; omega
      · have HN : Hid (∀ q' os, Sy2 w0 b n a (p ++ (u ++ ([y] ++ s))) u y (q + 1) j (grow (wr.drewN q') os)) := Lib.hid (fun q' os => ⟨H.out.sb.grown q' os, .inr ⟨z, by rw [show q + 1 - 1 - a = q - a by omega]; exact HZ.out, cmp_no hlv (HUL.out.2.2.2 z (List.mem_of_getElem? HZ.out))⟩, H.out.hi⟩)
        have hlb : decide (cfE y z < 0) = false := decide_eq_false hlv
        clear hlv
        clear hz hgz
        generalize z.1.p.length = zl at *
        generalize y.1.p.length = xl at *
        go_wp2_with fail
        go_quiet_grown (first | (go_at_call 33; exact Calls.grown_of ((hcg _ _).out)))
        go_wp2_with fail
        go_roundw
        case rel => exact ⟨q + 1, j, by go_num, rfl, by omega, by omega, hjm, Lib.hid (HN.out _ _)⟩
        case measure => simp [intOf]; omega
    · obtain rfl : i = j := by omega
      obtain ⟨r, hr⟩ : ∃ r, i - a = r := ⟨_, rfl⟩
      have HS : Hid (Srt (u.take r ++ y :: u.drop r)) := Lib.hid (ins_sorted HUL.out.2.2.1 (by
        rcases H.out.lo with h1 | ⟨z, h1, h2⟩
        · exact .inl (by omega)
        · exact .inr ⟨z, by rw [show r - 1 = i - 1 - a by omega]; exact h1, h2⟩) (by
        rcases H.out.hi with h1 | ⟨z, h1, h2⟩
        · exact .inl (by omega)
        · exact .inr ⟨z, by rw [← hr]; exact h1, h2⟩))
      have H1 : Hid (SB w0 b n (p ++ (u.take d ++ y :: (u.drop d ++ s))) wr) := Lib.hid (by
        rw [List.take_of_length_le (Nat.le_of_eq HUL.out.1), List.drop_of_length_le (Nat.le_of_eq HUL.out.1)]
        simpa using H.out.sb)
      have HIR : Hid (i = a + r ∧ r ≤ d) := Lib.hid (by have := HMD.out; omega)
      clear H hr
      go_wp2_with fail
      go_loopw [17] (fun vk wk => ∃ k q : Nat, vk = .int .i64 k ∧ Hid (k = a + q) ∧ Hid (r ≤ q ∧ q ≤ d) ∧ Hid (SB w0 b n (p ++ (u.take q ++ y :: (u.drop q ++ s))) wk)) (fun vk _ => (intOf vk).toNat)
      case atStart => exact ⟨m, d, rfl, HMD, Lib.hid ⟨HIR.out.2, Nat.le_refl _⟩, H1⟩
      case round =>
        obtain ⟨k, q, rfl, HK, HQ, H⟩ := hrel
        by_cases hlt2 : r < q
        · obtain ⟨t, rfl⟩ : ∃ t, q = t + 1 := ⟨q - 1, by omega⟩
          obtain ⟨z, hz⟩ : ∃ z, u[t]? = some z := ⟨_, List.getElem?_eq_getElem (by have := HUL.out.1; have := HQ.out; omega)⟩
          have ez : u.drop t = z :: u.drop (t + 1) := by
            obtain ⟨h1, h2⟩ := List.getElem?_eq_some_iff.1 hz
            rw [List.drop_eq_getElem_cons h1, h2]
          have tz : u.take (t + 1) = u.take t ++ [z] := by rw [List.take_add_one, hz]; rfl
          have HD : Hid (SB w0 b n ((p ++ u.take t) ++ z :: ([] ++ y :: (u.drop (t + 1) ++ s))) wr) := Lib.hid (by
            have := H.out
            rw [tz] at this
            simpa [List.append_assoc] using this)
          obtain ⟨g, hg⟩ : ∃ g, a + t = g := ⟨_, rfl⟩
          have hil : g = (p ++ u.take t).length := by
            have h1 := HUL.out.2.1
            have h2 := HUL.out.1
            have h3 := HQ.out
            rw [List.length_append, List.length_take, Nat.min_eq_left (by omega), ← h1, hg]
          have hkg : k = g + 1 := by have := HK.out; omega
          subst hkg
          have hjl : g + 1 = (p ++ u.take t).length + 1 + ([] : List El).length := by rw [← hil]; rfl
          have hgi : ((p ++ u.take t) ++ z :: ([] ++ y :: (u.drop (t + 1) ++ s)))[g]? = some z := by rw [hil]; exact get_app _ _ _
          have hgj : ((p ++ u.take t) ++ z :: ([] ++ y :: (u.drop (t + 1) ++ s)))[g + 1]? = some y := by
            have := get_app ((p ++ u.take t) ++ [z]) (u.drop (t + 1) ++ s) y
            rw [List.length_append, List.length_singleton, ← hil] at this
            simpa [List.append_assoc] using this
          obtain ⟨c0, c1, c2⟩ := HD.out.cells hgi
          obtain ⟨d0, d1, d2⟩ := HD.out.cells hgj
          obtain ⟨f0, f1, f2⟩ := HD.out.frees (List.getElem?_eq_some_iff.1 hgi).1
          obtain ⟨g0, g1, g2⟩ := HD.out.frees (List.getElem?_eq_some_iff.1 hgj).1
          have HN : Hid (SB w0 b n (p ++ (u.take t ++ y :: (u.drop t ++ s))) (put3w (put3w wr b (g + 1) z) b g y).drew) := Lib.hid (by
            have := (HD.out.swap hil hjl).2.drew
            rw [ez]
            simpa [List.append_assoc] using this)
          have hlt3 : (i : Int) < (g : Int) + 1 := by have := HIR.out; omega
          have hin : g + 1 < n := by have := HQ.out; have := HMD.out; omega
          have hin2 : g < n := by omega
          have HZ2 : Hid (g = a + t) := Lib.hid hg.symm
          have HQ2 : Hid (r ≤ t ∧ t ≤ d) := Lib.hid (by have := HQ.out; omega)
          obtain ⟨⟨us, ua, uc, up, ur⟩, ui⟩ := y
          obtain ⟨⟨vs, va, vc, vp, vr⟩, vi⟩ := z
          simp only at c0 c1 c2 d0 d1 d2
          unfold put3w at HN
          simp only at HN
          generalize up.length = upl at *
          generalize vp.length = vpl at *
          clear hz ez tz hgi hgj hil hjl hg
          go_wp2_with fail
          go_big_region_o
          all_goals go_wp2_with fail
          go_roundw
          case rel => exact ⟨g, t, by go_num, HZ2, HQ2, HN⟩
          case measure => simp [intOf]
        · have hlt3 : ¬ (i : Int) < (k : Int) := by have := HK.out; have := HIR.out; omega
          have hqr : q = r := by have := HQ.out; omega
          subst hqr
          go_wp2_with fail
          (try simp only [Exit.inBlock, Exit.then])
          refine bodyPost_ret (results_none rfl _ _ _) rfl ?_
          refine ⟨rfl, u.take q ++ y :: u.drop q, ?_, HS.out, by simpa [List.append_assoc] using H.out⟩
          have h1 : (u.take q ++ y :: u.drop q).Perm (y :: (u.take q ++ u.drop q)) := List.perm_middle
          rw [List.take_append_drop] at h1
          exact h1.trans (List.perm_append_comm (l₁ := [y]) (l₂ := u))
end Go.Proofs.Ytbhgbgaeaejnhaa.Typ
