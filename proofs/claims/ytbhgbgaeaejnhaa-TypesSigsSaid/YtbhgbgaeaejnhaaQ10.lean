/-
  The library's symMerge, where both rows have more than one element; whole. Conditions: sizes.
-/
import Derived.Test.YtbhgbgaeaejnhaaQ09
import Derived.Deep.DeepCutAuto
import Derived.Deep.CutBlock
namespace Go.Proofs.Ytbhgbgaeaejnhaa.Typ
open Go.RowKit Tre Go.Sort Go.Shelf
set_option maxRecDepth 100000
set_option linter.unusedSimpArgs false
/-- What symMerge does, of rows of together at most L elements. -/
def SymP (w0 : World) (b n c L : Nat) : Prop := ∀ (W : World) (p u v s : List El) (a m e : Nat), u.length + v.length ≤ L → 0 < u.length → 0 < v.length → SB w0 b n (p ++ (u ++ (v ++ s))) W → Srt u → Srt v → (∀ x ∈ u, ∀ y ∈ v, x.2 < y.2) → a = p.length → m = a + u.length → e = m + v.length →
  Calls Try.prog 56 #[.slice (some ⟨b, 0, none⟩) n c, .int .i64 a, .int .i64 m, .int .i64 e, .func (.func 33) #[] #[]] W (fun e w' => e = .returned (.tuple #[]) ∧ ∃ t, t.Perm (u ++ v) ∧ Srt t ∧ SB w0 b n (p ++ (t ++ s)) w')
/-- What the search knows; mid: the row's middle. -/
structure Sy3 (w0 : World) (b n a mid lo hi : Nat) (D u v : List El) (i j : Nat) (wr : World) : Prop where
  sb : SB w0 b n D wr
  lo : i = lo ∨ ∃ x y, u[i - 1 - a]? = some x ∧ v[mid - i]? = some y ∧ RR x y
  hi : j = hi ∨ ∃ x y, u[j - a]? = some x ∧ v[mid - 1 - j]? = some y ∧ RR y x
structure Bnd (a m e mid lo hi : Nat) : Prop where
  h1 : lo ≤ hi
  h2 : a ≤ lo
  h3 : hi ≤ m
  h4 : hi ≤ mid
  h5 : mid + m ≤ lo + e
  h6 : lo = a ∨ lo + e = mid + m
  h7 : hi = m ∨ hi = mid
theorem merge_perm {u1 u2 v1 v2 t1 t2 : List El} (p1 : t1.Perm (u1 ++ v1)) (p2 : t2.Perm (u2 ++ v2)) : (t1 ++ t2).Perm ((u1 ++ u2) ++ (v1 ++ v2)) := by
  refine (p1.append p2).trans ?_
  simp only [List.append_assoc]
  refine List.Perm.append_left _ ?_
  simp only [← List.append_assoc]
  exact List.Perm.append_right _ List.perm_append_comm
set_option maxHeartbeats 32000000 in
theorem sym_gen {w0 W : World} {b n c L a m e : Nat} {p u v s : List El} (IH : SymP w0 b n c L) (hL : u.length + v.length ≤ L + 1) (h : SB w0 b n (p ++ (u ++ (v ++ s))) W) (hu : Srt u) (hv : Srt v) (hx : ∀ x ∈ u, ∀ y ∈ v, x.2 < y.2) (ha : a = p.length) (hm : m = a + u.length) (he : e = m + v.length) (h1 : 2 ≤ u.length) (h2 : 2 ≤ v.length) (hn : n ≤ 1000000) :
    Calls Try.prog 56 #[.slice (some ⟨b, 0, none⟩) n c, .int .i64 a, .int .i64 m, .int .i64 e, .func (.func 33) #[] #[]] W (fun e w' => e = .returned (.tuple #[]) ∧ ∃ t, t.Perm (u ++ v) ∧ Srt t ∧ SB w0 b n (p ++ (t ++ s)) w') := by
  have mixed := mixedT
  have hlen := h.len
  simp only [List.length_append] at hlen
  have HU : Hid (∀ k z, u[k]? = some z → (p ++ (u ++ (v ++ s)))[a + k]? = some z) := Lib.hid (fun k z hz => by rw [ha]; exact get_mid hz)
  have HV : Hid (∀ k z, v[k]? = some z → (p ++ (u ++ (v ++ s)))[m + k]? = some z) := Lib.hid (fun k z hz => by
    have := get_mid (p := p ++ u) (s := s) hz
    rw [List.length_append, ← ha, ← hm] at this
    simpa [List.append_assoc] using this)
  obtain ⟨U, hU⟩ : ∃ U, u.length = U := ⟨_, rfl⟩
  obtain ⟨V, hV⟩ : ∃ V, v.length = V := ⟨_, rfl⟩
  obtain ⟨mid, hmid⟩ : ∃ mid, (a + e) / 2 = mid := ⟨_, rfl⟩
  rw [hU] at hm h1 hL
  rw [hV] at he h2 hL
  have HH : Hid (m = a + U ∧ e = m + V ∧ u.length = U ∧ v.length = V ∧ a = p.length ∧ Srt u ∧ Srt v ∧ ∀ x ∈ u, ∀ y ∈ v, x.2 < y.2) := Lib.hid ⟨hm, he, hU, hV, ha, hu, hv, hx⟩
  have HL : Hid (U + V ≤ L + 1 ∧ 2 ≤ U ∧ 2 ≤ V) := Lib.hid ⟨hL, h1, h2⟩
  have HI := Lib.hid IH
  have H0 := Lib.hid h
  have e1 : (m : Int) - (a : Int) = (U : Int) := by omega
  have e2 : (e : Int) - (m : Int) = (V : Int) := by omega
  have e3 : ((U : Int) == 1) = false := by rw [beq_eq_false_iff_ne]; omega
  have e4 : ((V : Int) == 1) = false := by rw [beq_eq_false_iff_ne]; omega
  have e5 : ((a : Int) + (e : Int)) / 2 = (mid : Int) := by omega
  have hmid1 : a < mid := by omega
  have hmid2 : mid < e := by omega
  have hen : e ≤ n := by omega
  have ham : a < m := by omega
  have hme : m < e := by omega
  obtain ⟨N, hN⟩ : ∃ N, mid + m = N := ⟨_, rfl⟩
  have e6 : (mid : Int) + (m : Int) = (N : Int) := by omega
  obtain ⟨P, hP⟩ : ∃ P, N - 1 = P := ⟨_, rfl⟩
  have e7 : (N : Int) - 1 = (P : Int) := by omega
  have HNP : Hid (mid + m = N ∧ P + 1 = N) := Lib.hid (by omega)
  have hmm : a + e ≤ mid + mid + 1 ∧ mid + mid ≤ a + e := by omega
  have HMM := Lib.hid hmm
  clear IH h hlen hu hv hx ha hm he h1 h2 hU hV hL hmid hN hP hmm
  go_enter Try.func56, Try.ntmps56
  go_upto_if 140 with fail
  go_cut [20, 21] (fun v1 v2 wx => wx = W ∧ ∃ lo hi : Nat, v1 = .int .i64 lo ∧ v2 = .int .i64 hi ∧ Hid (Bnd a m e mid lo hi))
  case first =>
    have HMM2 := HMM.out
    have HHH := HH.out
    by_cases hmm : mid < m
    · obtain ⟨lo, hlo⟩ : ∃ lo, N - e = lo := ⟨_, rfl⟩
      have q1 : (N : Int) - (e : Int) = (lo : Int) := by have := HNP.out; omega
      have HB : Hid (Bnd a m e mid lo mid) := Lib.hid (by
        have := HNP.out
        exact ⟨by omega, by omega, by omega, Nat.le_refl _, by omega, .inr (by omega), .inr rfl⟩)
      clear HMM2 HHH
      go_wp2_with fail
      go_meet
      exact ⟨rfl, lo, mid, rfl, rfl, HB⟩
    · have HB : Hid (Bnd a m e mid a m) := Lib.hid ⟨by omega, Nat.le_refl _, Nat.le_refl _, by omega, by omega, .inl rfl, .inl rfl⟩
      clear HMM2 HHH
      go_wp2_with fail
      go_meet
      exact ⟨rfl, a, m, rfl, rfl, HB⟩
  case rest =>
    obtain ⟨hw, lo, hi, rfl, rfl, HBD⟩ := hcut
    obtain rfl : W = wc := hw.symm
    have H1 : Hid (Sy3 w0 b n a mid lo hi (p ++ (u ++ (v ++ s))) u v lo hi W) := Lib.hid ⟨H0.out, .inl rfl, .inl rfl⟩
    have hlh := HBD.out.h1
    clear hw H0
    go_wp2_with fail
    go_loopw [20, 21] (fun vi vj wr => ∃ i j : Nat, vi = .int .i64 i ∧ vj = .int .i64 j ∧ lo ≤ i ∧ i ≤ j ∧ j ≤ hi ∧ Hid (Sy3 w0 b n a mid lo hi (p ++ (u ++ (v ++ s))) u v i j wr)) (fun vi vj _ => (intOf vj - intOf vi).toNat)
    case atStart => exact ⟨lo, hi, rfl, rfl, Nat.le_refl _, hlh, Nat.le_refl _, H1⟩
    case round =>
      obtain ⟨i, j, rfl, rfl, hli, hij, hjh, H⟩ := hrel
      clear H1
      by_cases hlt : i < j
      · obtain ⟨q, hq⟩ : ∃ q, (i + j) / 2 = q := ⟨_, rfl⟩
        have hq1 : i ≤ q := by omega
        have hq2 : q < j := by omega
        have hq3 : ((i : Int) + (j : Int)) / 2 = (q : Int) := by omega
        obtain ⟨g, hg⟩ : ∃ g, P - q = g := ⟨_, rfl⟩
        have hall := And.intro HH.out (And.intro HNP.out (And.intro HMM.out HBD.out))
        obtain ⟨⟨k1, k2, k3, k4, ka⟩, ⟨k5, k6⟩, ⟨k7, k8⟩, ⟨b1, b2, b3, b4, b5, b6, b7⟩⟩ := hall
        have hq4 : (P : Int) - (q : Int) = (g : Int) := by omega
        obtain ⟨x, hx⟩ : ∃ x, u[q - a]? = some x := ⟨_, List.getElem?_eq_getElem (by omega)⟩
        obtain ⟨y, hy⟩ : ∃ y, v[mid - 1 - q]? = some y := ⟨_, List.getElem?_eq_getElem (by omega)⟩
        have hgx := HU.out _ _ hx
        rw [show a + (q - a) = q by omega] at hgx
        have hgy := HV.out _ _ hy
        rw [show m + (mid - 1 - q) = g by omega] at hgy
        have c0 := fun q' os => (H.out.sb.two hgx q' os).1
        have c1 := fun q' os => (H.out.sb.two hgx q' os).2.1
        have c2 := fun q' os => (H.out.sb.two hgx q' os).2.2
        have d0 := fun q' os => (H.out.sb.two hgy q' os).1
        have d1 := fun q' os => (H.out.sb.two hgy q' os).2.1
        have d2 := fun q' os => (H.out.sb.two hgy q' os).2.2
        have eg : ∀ args w, (callFunc 33 args).run Try.prog w = .ok (.enter 33 args) w := enters_of Try.func33 (by kernel_rfl) rfl
        have hcg := fun q' os => Lib.hid (cmp_cls y x wr q' os)
        have HX := Lib.hid hx
        have HY := Lib.hid hy
        have hqn : q < n := by omega
        have hgn : g < n := by omega
        have hwg : IntKind.i64.wrap (g : Int) = g := IntWalk.i64_in _ (by omega)
        by_cases hlv : cfE y x < 0
        · have hlb : decide (cfE y x < 0) = true := decide_eq_true hlv
          have HN : Hid (∀ q' os, Sy3 w0 b n a mid lo hi (p ++ (u ++ (v ++ s))) u v i q (grow (wr.drewN q') os)) := Lib.hid (fun q' os => ⟨H.out.sb.grown q' os, H.out.lo, .inr ⟨x, y, HX.out, HY.out, cmp_yes hlv⟩⟩)
          clear hx hy hgx hgy hlv k1 k2 k3 k4 ka k5 k6 k7 k8 b1 b2 b3 b4 b5 b6 b7 hg
          generalize x.1.p.length = zl at *
          generalize y.1.p.length = xl at *
          go_wp2_with fail
          go_quiet_grown (first | (go_at_call 33; exact Calls.grown_of ((hcg _ _).out)))
          go_wp2_with fail
          go_roundw
          case rel => exact ⟨i, q, rfl, rfl, hli, by omega, by omega, Lib.hid (HN.out _ _)⟩
          case measure => simp [intOf]; omega
        · have hlb : decide (cfE y x < 0) = false := decide_eq_false hlv
          have HN : Hid (∀ q' os, Sy3 w0 b n a mid lo hi (p ++ (u ++ (v ++ s))) u v (q + 1) j (grow (wr.drewN q') os)) := Lib.hid (fun q' os => ⟨H.out.sb.grown q' os, .inr ⟨x, y, by rw [show q + 1 - 1 - a = q - a by omega]; exact HX.out, by rw [show mid - (q + 1) = mid - 1 - q by omega]; exact HY.out, cmp_no hlv (HH.out.2.2.2.2.2.2.2 x (List.mem_of_getElem? HX.out) y (List.mem_of_getElem? HY.out))⟩, H.out.hi⟩)
          clear hx hy hgx hgy hlv k1 k2 k3 k4 ka k5 k6 k7 k8 b1 b2 b3 b4 b5 b6 b7 hg
          generalize x.1.p.length = zl at *
          generalize y.1.p.length = xl at *
          go_wp2_with fail
          go_quiet_grown (first | (go_at_call 33; exact Calls.grown_of ((hcg _ _).out)))
          go_wp2_with fail
          go_roundw
          case rel => exact ⟨q + 1, j, by go_num, rfl, by omega, by omega, hjh, Lib.hid (HN.out _ _)⟩
          case measure => simp [intOf]; omega
      · obtain rfl : i = j := by omega
        have hall := And.intro HH.out (And.intro HNP.out (And.intro HMM.out HBD.out))
        obtain ⟨⟨k1, k2, k3, k4, ka, ku, kv, kx⟩, ⟨k5, k6⟩, ⟨k7, k8⟩, ⟨b1, b2, b3, b4, b5, b6, b7⟩⟩ := hall
        obtain ⟨I, hI⟩ : ∃ I, i - a = I := ⟨_, rfl⟩
        obtain ⟨J, hJ⟩ : ∃ J, mid - i = J := ⟨_, rfl⟩
        obtain ⟨f, hf⟩ : ∃ f, N - i = f := ⟨_, rfl⟩
        have q1 : (N : Int) - (i : Int) = (f : Int) := by omega
        have HIJ : Hid (I ≤ U ∧ J ≤ V ∧ i = a + I ∧ mid = i + J ∧ f = m + J) := Lib.hid (by omega)
        have HC : Hid (∀ t1 t2 : List El, t1.Perm (u.take I ++ v.take J) → t2.Perm (u.drop I ++ v.drop J) → Srt t1 → Srt t2 → Srt (t1 ++ t2)) := Lib.hid (fun t1 t2 p1 p2 s1 s2 => cut_sorted ku kv (by omega) (by omega) (by
          rcases H.out.lo with h1 | ⟨x, y, h1, h2, h3⟩
          · rcases b6 with h4 | h4
            · exact .inl (by omega)
            · exact .inr (.inl (by omega))
          · exact .inr (.inr ⟨x, y, by rw [show I - 1 = i - 1 - a by omega]; exact h1, by rw [← hJ]; exact h2, h3⟩)) (by
          rcases H.out.hi with h1 | ⟨x, y, h1, h2, h3⟩
          · rcases b7 with h4 | h4
            · exact .inl (by omega)
            · exact .inr (.inl (by omega))
          · exact .inr (.inr ⟨x, y, by rw [← hI]; exact h1, by rw [show J - 1 = mid - 1 - i by omega]; exact h2, h3⟩)) p1 p2 s1 s2)
        obtain ⟨u1, hu1⟩ : ∃ u1, u.take I = u1 := ⟨_, rfl⟩
        obtain ⟨u2, hu2⟩ : ∃ u2, u.drop I = u2 := ⟨_, rfl⟩
        obtain ⟨v1, hv1⟩ : ∃ v1, v.take J = v1 := ⟨_, rfl⟩
        obtain ⟨v2, hv2⟩ : ∃ v2, v.drop J = v2 := ⟨_, rfl⟩
        have eu : u1 ++ u2 = u := by rw [← hu1, ← hu2, List.take_append_drop]
        have ev : v1 ++ v2 = v := by rw [← hv1, ← hv2, List.take_append_drop]
        have HLN : Hid (u1.length = I ∧ u2.length = U - I ∧ v1.length = J ∧ v2.length = V - J) := Lib.hid (by
          rw [← hu1, ← hu2, ← hv1, ← hv2, List.length_take, List.length_drop, List.length_take, List.length_drop, k3, k4]
          omega)
        have HSS : Hid (Srt u1 ∧ Srt u2 ∧ Srt v1 ∧ Srt v2) := Lib.hid (by
          rw [← hu1, ← hu2, ← hv1, ← hv2]
          exact ⟨ku.sublist (List.take_sublist _ _), ku.sublist (List.drop_sublist _ _), kv.sublist (List.take_sublist _ _), kv.sublist (List.drop_sublist _ _)⟩)
        have HXX : Hid ((∀ x ∈ u1, ∀ y ∈ v1, x.2 < y.2) ∧ ∀ x ∈ u2, ∀ y ∈ v2, x.2 < y.2) := Lib.hid (by
          rw [← hu1, ← hu2, ← hv1, ← hv2]
          exact ⟨fun x hx y hy => kx x (List.mem_of_mem_take hx) y (List.mem_of_mem_take hy), fun x hx y hy => kx x (List.mem_of_mem_drop hx) y (List.mem_of_mem_drop hy)⟩)
        have HUV : Hid (u1 ++ u2 = u ∧ v1 ++ v2 = v ∧ a = p.length) := Lib.hid ⟨eu, ev, ka⟩
        rw [hu1, hu2, hv1, hv2] at HC
        have HB : Hid (SB w0 b n (p ++ (u1 ++ (u2 ++ (v1 ++ (v2 ++ s))))) wr) := Lib.hid (by
          have := H.out.sb
          rw [← eu, ← ev] at this
          simpa [List.append_assoc] using this)
        as_aux_lemma =>
          clear k1 k2 k3 k4 ka ku kv kx k5 k6 k7 k8 b1 b2 b3 b4 b5 b6 b7 hI hJ hf hu1 hu2 hv1 hv2 eu ev H
          go_upto_region 39 with fail
          go_cut [185] (fun v wx => wx = wr ∧ ∃ r : Bool, v = .bool r ∧ Hid (r = true → i < m ∧ m < f) ∧ Hid (r = false → ¬ (i < m ∧ m < f)))
          case first =>
            by_cases hx1 : i < m
            · by_cases hx2 : m < f
              · go_wp2_with fail
                go_meet
                exact ⟨rfl, true, rfl, Lib.hid (fun _ => ⟨hx1, hx2⟩), Lib.hid (fun h => by cases h)⟩
              · go_wp2_with fail
                go_meet
                exact ⟨rfl, false, rfl, Lib.hid (fun h => by cases h), Lib.hid (fun _ h => hx2 h.2)⟩
            · go_wp2_with fail
              go_meet
              exact ⟨rfl, false, rfl, Lib.hid (fun h => by cases h), Lib.hid (fun _ h => hx1 h.1)⟩
          case rest =>
            obtain ⟨hw, r, rfl, HT, HF⟩ := hcut
            obtain rfl : wr = wc := hw.symm
            clear hw
            go_upto_if 185 with fail
            go_cut [191] (fun _ wx => Hid (SB w0 b n (p ++ (u1 ++ (v1 ++ (u2 ++ (v2 ++ s))))) wx))
            case first =>
              cases r with
              | true =>
                have C1 := Lib.hid (rotate_any (c := c) (a := i) (m := m) (e := f) (p := p ++ u1) (u := u2) (v := v1) (s := v2 ++ s) (by simpa [List.append_assoc] using HB.out) (by
                  have h1 := HLN.out; have h2 := HIJ.out; have h3 := HUV.out
                  rw [List.length_append]; omega) (by have h1 := HLN.out; have h2 := HIJ.out; have h3 := HH.out; omega) (by have h1 := HLN.out; have h2 := HIJ.out; omega) (by have h1 := HLN.out; have h2 := HIJ.out; have h3 := HT.out rfl; have h4 := HH.out; omega) (by have h1 := HLN.out; have h2 := HIJ.out; have h3 := HT.out rfl; omega) hn)
                go_wp2_with fail
                refine C1.out.mono ?_
                rintro e2 w2 ⟨rfl, hb⟩
                have HN : Hid (SB w0 b n (p ++ (u1 ++ (v1 ++ (u2 ++ (v2 ++ s))))) w2) := Lib.hid (by simpa [List.append_assoc] using hb)
                clear hb
                go_wp2_with fail
                go_meet
                exact HN
              | false =>
                have HN : Hid (SB w0 b n (p ++ (u1 ++ (v1 ++ (u2 ++ (v2 ++ s))))) wr) := Lib.hid (by
                  have h0 := HF.out rfl
                  have h1 := HLN.out
                  have h2 := HIJ.out
                  have h4 := HH.out
                  have h5 : u2 = [] ∨ v1 = [] := by
                    by_cases h6 : u2.length = 0
                    · exact .inl (List.eq_nil_of_length_eq_zero h6)
                    · exact .inr (List.eq_nil_of_length_eq_zero (by omega))
                  have := HB.out
                  rcases h5 with rfl | rfl
                  · simpa using this
                  · simpa using this)
                go_wp2_with fail
                go_meet
                exact HN
            case rest =>
              as_aux_lemma =>
                have HB1 := hcut
                clear HB HT HF hcut
                obtain ⟨wd, rfl⟩ : ∃ wd, wd = wc := ⟨_, rfl⟩
                go_upto_region 41 with fail
                go_cut [199] (fun v wx => wx = wd ∧ ∃ r : Bool, v = .bool r ∧ Hid (r = true → a < i ∧ i < mid) ∧ Hid (r = false → ¬ (a < i ∧ i < mid)))
                case first =>
                  by_cases hx1 : a < i
                  · by_cases hx2 : i < mid
                    · go_wp2_with fail
                      go_meet
                      exact ⟨rfl, true, rfl, Lib.hid (fun _ => ⟨hx1, hx2⟩), Lib.hid (fun h => by cases h)⟩
                    · go_wp2_with fail
                      go_meet
                      exact ⟨rfl, false, rfl, Lib.hid (fun h => by cases h), Lib.hid (fun _ h => hx2 h.2)⟩
                  · go_wp2_with fail
                    go_meet
                    exact ⟨rfl, false, rfl, Lib.hid (fun h => by cases h), Lib.hid (fun _ h => hx1 h.1)⟩
                case rest =>
                  obtain ⟨hw, r, rfl, HT, HF⟩ := hcut
                  obtain rfl : wd = wc := hw.symm
                  clear hw
                  go_upto_if 199 with fail
                  go_cut [205] (fun _ wx => Hid (∃ t1 : List El, t1.Perm (u1 ++ v1) ∧ Srt t1 ∧ SB w0 b n (p ++ (t1 ++ (u2 ++ (v2 ++ s)))) wx))
                  case first =>
                    cases r with
                    | true =>
                      have C1 := Lib.hid (HI.out wd p u1 v1 (u2 ++ (v2 ++ s)) a i mid (by have h1 := HLN.out; have h2 := HIJ.out; have h3 := HL.out; have h4 := HH.out; omega) (by have h1 := HLN.out; have h2 := HIJ.out; have h3 := HT.out rfl; omega) (by have h1 := HLN.out; have h2 := HIJ.out; have h3 := HT.out rfl; omega) HB1.out HSS.out.1 HSS.out.2.2.1 HXX.out.1 HUV.out.2.2 (by have h1 := HLN.out; have h2 := HIJ.out; omega) (by have h1 := HLN.out; have h2 := HIJ.out; omega))
                      go_wp2_with fail
                      refine C1.out.mono ?_
                      rintro e2 w2 ⟨rfl, hb⟩
                      have HN : Hid (∃ t1 : List El, t1.Perm (u1 ++ v1) ∧ Srt t1 ∧ SB w0 b n (p ++ (t1 ++ (u2 ++ (v2 ++ s)))) w2) := Lib.hid hb
                      clear hb
                      go_wp2_with fail
                      go_meet
                      exact HN
                    | false =>
                      have HN : Hid (∃ t1 : List El, t1.Perm (u1 ++ v1) ∧ Srt t1 ∧ SB w0 b n (p ++ (t1 ++ (u2 ++ (v2 ++ s)))) wd) := Lib.hid (by
                        have h0 := HF.out rfl
                        have h1 := HLN.out
                        have h2 := HIJ.out
                        have h5 : u1 = [] ∨ v1 = [] := by
                          by_cases h6 : u1.length = 0
                          · exact .inl (List.eq_nil_of_length_eq_zero h6)
                          · exact .inr (List.eq_nil_of_length_eq_zero (by omega))
                        have h6 := HSS.out
                        refine ⟨u1 ++ v1, List.Perm.refl _, ?_, by simpa [List.append_assoc] using HB1.out⟩
                        rcases h5 with rfl | rfl
                        · simpa using h6.2.2.1
                        · simpa using h6.1)
                      go_wp2_with fail
                      go_meet
                      exact HN
                  case rest =>
                    as_aux_lemma =>
                      have HB2 := hcut
                      clear HB1 HT HF hcut
                      obtain ⟨wf, rfl⟩ : ∃ wf, wf = wc := ⟨_, rfl⟩
                      go_upto_region 43 with fail
                      go_cut [213] (fun v wx => wx = wf ∧ ∃ r : Bool, v = .bool r ∧ Hid (r = true → mid < f ∧ f < e) ∧ Hid (r = false → ¬ (mid < f ∧ f < e)))
                      case first =>
                        by_cases hx1 : mid < f
                        · by_cases hx2 : f < e
                          · go_wp2_with fail
                            go_meet
                            exact ⟨rfl, true, rfl, Lib.hid (fun _ => ⟨hx1, hx2⟩), Lib.hid (fun h => by cases h)⟩
                          · go_wp2_with fail
                            go_meet
                            exact ⟨rfl, false, rfl, Lib.hid (fun h => by cases h), Lib.hid (fun _ h => hx2 h.2)⟩
                        · go_wp2_with fail
                          go_meet
                          exact ⟨rfl, false, rfl, Lib.hid (fun h => by cases h), Lib.hid (fun _ h => hx1 h.1)⟩
                      case rest =>
                        obtain ⟨hw, r, rfl, HT, HF⟩ := hcut
                        obtain rfl : wf = wc := hw.symm
                        clear hw
                        cases r with
                        | true =>
                          have C1 : Hid (Calls Try.prog 56 #[.slice (some ⟨b, 0, none⟩) n c, .int .i64 mid, .int .i64 f, .int .i64 e, .func (.func 33) #[] #[]] wf (fun e w' => e = .returned (.tuple #[]) ∧ ∃ t, t.Perm (u ++ v) ∧ Srt t ∧ SB w0 b n (p ++ (t ++ s)) w')) := Lib.hid (by
                            obtain ⟨t1, p1, s1, hb⟩ := HB2.out
                            have l1 := p1.length_eq
                            rw [List.length_append] at l1
                            have h1 := HLN.out; have h2 := HIJ.out; have h3 := HL.out; have h4 := HH.out; have h5 := HT.out rfl; have h6 := HUV.out
                            refine (HI.out wf (p ++ t1) u2 v2 s mid f e (by omega) (by omega) (by omega) (by simpa [List.append_assoc] using hb) HSS.out.2.1 HSS.out.2.2.2 HXX.out.2 (by rw [List.length_append]; omega) (by omega) (by omega)).mono ?_
                            rintro e2 w2 ⟨rfl, t2, p2, s2, hb2⟩
                            refine ⟨rfl, t1 ++ t2, ?_, HC.out t1 t2 p1 p2 s1 s2, by simpa [List.append_assoc] using hb2⟩
                            rw [← h6.1, ← h6.2.1]
                            exact merge_perm p1 p2)
                          clear HB2 HI HC HT HF HXX HSS
                          go_wp2_with fail
                          refine C1.out.mono ?_
                          rintro e2 w2 ⟨rfl, hb⟩
                          have HN : Hid (∃ t, t.Perm (u ++ v) ∧ Srt t ∧ SB w0 b n (p ++ (t ++ s)) w2) := Lib.hid hb
                          clear hb
                          go_wp2_with fail
                          go_end0
                          exact ⟨rfl, HN.out⟩
                        | false =>
                          have HN : Hid (∃ t, t.Perm (u ++ v) ∧ Srt t ∧ SB w0 b n (p ++ (t ++ s)) wf) := Lib.hid (by
                            obtain ⟨t1, p1, s1, hb⟩ := HB2.out
                            have h0 := HF.out rfl
                            have h1 := HLN.out; have h2 := HIJ.out; have h4 := HH.out; have h6 := HUV.out
                            have h5 : u2 = [] ∨ v2 = [] := by
                              by_cases h6 : u2.length = 0
                              · exact .inl (List.eq_nil_of_length_eq_zero h6)
                              · exact .inr (List.eq_nil_of_length_eq_zero (by omega))
                            have s2 : Srt (u2 ++ v2) := by
                              have h6 := HSS.out
                              rcases h5 with rfl | rfl
                              · simpa using h6.2.2.2
                              · simpa using h6.2.1
                            refine ⟨t1 ++ (u2 ++ v2), ?_, HC.out t1 _ p1 (List.Perm.refl _) s1 s2, by simpa [List.append_assoc] using hb⟩
                            rw [← h6.1, ← h6.2.1]
                            exact merge_perm p1 (List.Perm.refl _))
                          clear HB2 HI HC HT HF HXX HSS
                          go_wp2_with fail
                          go_end0
                          exact ⟨rfl, HN.out⟩
end Go.Proofs.Ytbhgbgaeaejnhaa.Typ
