/-
  The document's Exports. Conditions: the file lies in memory; it has at most 100 functions, each at most 100 parameters.
-/
import Derived.Test.YtbhgbgaeaejnhaaQ20
import Derived.Deep.DeepCutAuto
import Derived.Deep.CutBlock
namespace Go.Proofs.Ytbhgbgaeaejnhaa.Typ
open Go.RowKit Tre Go.Sort Go.Shelf
open OwnR (OwnG)
open Lib (compareBytes)
open Lex (AtS at_take at_run at_call)
set_option maxRecDepth 100000
set_option linter.unusedSimpArgs false
theorem SgIn.far {X X2 : World} {v v2 : Value} {g : Sg} (h : SgIn X g) (hf : Far X X2 v v2) (hz : X.heap.size ≤ X2.heap.size) (hne : ∀ b o, g.a = some ⟨b, o, none⟩ → v.ownBlock ≠ some b) : SgIn X2 g :=
  ⟨fun h0 => by
    obtain ⟨b, o, e, hlt, hc⟩ := h.row h0
    exact ⟨b, o, e, Nat.lt_of_lt_of_le hlt hz, fun j x hx r u hu => (World.cell?_of_block (w := X) (hf b hlt (hne b o e)).1).trans (hc j x hx r u hu)⟩, h.len, h.s⟩
def Abv (s : ByteArray) (t : List El) (K : Nat) : Prop := ∀ z ∈ t.drop K, compareBytes s.data.toList z.1.s.data.toList < 0
def StopAt (s : ByteArray) (t : List El) (K : Nat) : Prop := K = 0 ∨ ∃ z, t[K - 1]? = some z ∧ ¬ compareBytes s.data.toList z.1.s.data.toList < 0
/-- What the insertion reads. -/
structure ES (s b o : Nat) (v v0 v1 v2 v3 : Value) (W : World) : Prop where
  q0 : W.cell? ⟨s, 2, none⟩ = some v
  q1 : W.cell? ⟨b, o, none⟩ = some v0
  q2 : W.cell? ⟨b, o + 1, none⟩ = some v1
  q3 : W.cell? ⟨b, o + 2, none⟩ = some v2
  q4 : W.cell? ⟨b, o + 3, none⟩ = some v3
theorem ES.below {s b o : Nat} {v v0 v1 v2 v3 : Value} {X0 W : World} (h : ES s b o v v0 v1 v2 v3 X0) (h1 : s < X0.heap.size) (h2 : b < X0.heap.size) (hb : Below X0.heap.size X0 W) : ES s b o v v0 v1 v2 v3 W := by
  have e1 : ∀ i, W.cell? ⟨s, i, none⟩ = X0.cell? ⟨s, i, none⟩ := fun i => World.cell?_of_block (hb.block s h1)
  have e2 : ∀ i, W.cell? ⟨b, i, none⟩ = X0.cell? ⟨b, i, none⟩ := fun i => World.cell?_of_block (hb.block b h2)
  exact ⟨(e1 _).trans h.q0, (e2 _).trans h.q1, (e2 _).trans h.q2, (e2 _).trans h.q3, (e2 _).trans h.q4⟩
theorem lo_add {A : Option Addr} (hf : ∀ ad, A = some ad → ∃ b, ad = ⟨b, 0, none⟩) (c : Nat) : (if c = 0 then A else A.map (·.add (0 * 3))) = A := by
  cases A with
  | none => simp
  | some ad =>
    obtain ⟨b, rfl⟩ := hf ad rfl
    split
    · rfl
    · simp [plain_at]
set_option maxHeartbeats 16000000 in
theorem rexp_any (f : Fl) (w : World) (hf : FlIn w f) (hn : f.f.length ≤ 100) (hp : ∀ g ∈ f.f, g.p.length ≤ 100) :
    Calls Try.prog 14 #[flV f] w (ExQ f.f w) := by
  have HFR := Lib.hid hf.frow
  have HFN := Lib.hid hf.fns
  have HP := Lib.hid hp
  have H0 : Hid (RxAt f 0 w (w.alloc (.cells #[.string f.s, .slice f.ia f.i.length f.ic, .slice f.fa f.f.length f.fc] 25)) (.slice none 0 0) []) := Lib.hid ⟨OwnG.nil _ _, ⟨by simp, List.Pairwise.nil, List.Perm.refl _⟩, by simp, ball_new w _ _, new_at w _ _⟩
  have HBX : Hid (∀ k u v t, RxAt f k w u v t → u.cell? ⟨w.heap.size, 2, none⟩ = some (.slice f.fa f.f.length f.fc)) := Lib.hid (fun k u v t h => cell_at h.box 2)
  obtain ⟨m, hm⟩ : ∃ m, f.f.length = m := ⟨_, rfl⟩
  rw [flV_is]
  rw [hm] at hn HBX H0 ⊢
  have HM := Lib.hid hm
  clear hf hp hm
  go_enter Try.func14, Try.ntmps14
  go_wp2_with fail
  go_loopw [3, 4] (fun v i wr => ∃ (k : Nat) (A : Option Addr) (n c : Nat) (t : List El), k ≤ m ∧ v = .slice A n c ∧ i = .int .i64 k ∧ Hid (RxAt f k w wr (.slice A n c) t)) (fun _ i _ => m - (intOf i).toNat)
  case atStart => exact ⟨0, none, 0, 0, [], Nat.zero_le _, rfl, rfl, H0⟩
  case round =>
    obtain ⟨k, A, n, c, t, hk, rfl, rfl, H⟩ := hrel
    clear H0
    have z2 := HBX.out _ _ _ _ H.out
    obtain ⟨A', c', e', hnc, hform⟩ := H.out.own.form
    rw [List.length_map] at e' hnc
    injection e' with e1 e2 e3
    subst e1 e3
    have HNL : Hid (t.length = n) := Lib.hid e2.symm
    have HFM := Lib.hid hform
    rw [← e2] at hnc
    have hnk : n ≤ k := by rw [e2]; exact H.out.len
    clear hform e2
    by_cases hlt : k < m
    · obtain ⟨⟨xs, xpa, xpc, xp, xr, xba, xbc, xb⟩, hx⟩ : ∃ x, f.f[k]? = some x := ⟨_, List.getElem?_eq_getElem (by rw [HM.out]; exact hlt)⟩
      obtain ⟨b1, o1, ha, hc1⟩ := HFR.out.at_ H.out.low hx
      rw [ha] at z2
      obtain ⟨p0, p1, p2, p3⟩ := fnC_at hc1
      simp only at p0 p1 p2 p3
      obtain ⟨xpl, hpl⟩ : ∃ n, xp.length = n := ⟨_, rfl⟩
      obtain ⟨xbl, hbl⟩ : ∃ n, xb.length = n := ⟨_, rfl⟩
      rw [hpl] at p1
      rw [hbl] at p3
      have HPL := Lib.hid hpl
      have HBLN := Lib.hid hbl
      have HXK := Lib.hid hx
      have HFI := Lib.hid ((HFN.out _ (List.mem_of_getElem? hx)).below H.out.low)
      have HPX := Lib.hid (HP.out _ (List.mem_of_getElem? hx))
      obtain ⟨u, hu⟩ : ∃ u, Up.upperB xs.data.toList = u := ⟨_, rfl⟩
      have HUT : Hid (Up.upperB (nmF f.f k) = u) := Lib.hid (by rw [← hu]; unfold nmF; rw [hx])
      have CU := fun w => Lib.hid (Up.rupper_any xs w)
      rw [hu] at CU
      have HA := Lib.hid ha
      clear hx hc1 hpl hbl hu ha
      go_wp2_with fail
      refine (CU _).out.mono ?_
      rintro e2 w2 ⟨rfl, rfl⟩
      cases u with
      | false =>
        have HN := Lib.hid (H.out.skip HUT.out)
        go_wp2_with fail
        go_roundw
        case rel => exact ⟨k + 1, A, n, c, t, by omega, rfl, by go_num, HN⟩
        case measure => simp [intOf]; omega
      | true =>
        have HRW0 := Lib.hid (OwnG.row (C := sgC) (k := 3) (fun _ => rfl) H.out.own)
        have HES : Hid (∀ W, Below wr.heap.size wr W → ES w.heap.size b1 (o1 + k * 4) (.slice (some ⟨b1, o1, none⟩) m f.fc) (.string xs) (.slice xpa xpl xpc) (.int .u8 xr) (.slice xba xbl xbc) W) := Lib.hid (fun W hW => ES.below ⟨z2, p0, p1, p2, p3⟩ (lt_of_heap H.out.box) (by
          obtain ⟨b', o', e', hlt', _⟩ := (HFR.out.below H.out.low) (by rw [HM.out]; omega)
          rw [HA.out] at e'
          injection e' with e'
          injection e' with e1 e2
          rw [e1]
          exact hlt') hW)
        have HBL : Hid (b1 < wr.heap.size) := Lib.hid (by
          obtain ⟨b', o', e', hlt', _⟩ := (HFR.out.below H.out.low) (by rw [HM.out]; omega)
          rw [HA.out] at e'
          injection e' with e'
          injection e' with e1 e2
          rw [e1]
          exact hlt')
        go_upto_block 2 with fail
        go_cut [5] (fun vk wx => ∃ K : Nat, vk = .int .i64 K ∧ K ≤ n ∧ Hid (∃ mw, wx = wr.drewN mw) ∧ Hid (Abv xs t K) ∧ Hid (StopAt xs t K))
        case first =>
          go_wp2_with fail
          go_loopw [5] (fun vk w' => ∃ K : Nat, vk = .int .i64 K ∧ K ≤ n ∧ Hid (∃ mw, w' = wr.drewN mw) ∧ Hid (Abv xs t K)) (fun vk _ => (intOf vk).toNat)
          case atStart => exact ⟨n, rfl, Nat.le_refl _, Lib.hid ⟨0, rfl⟩, Lib.hid (fun z hz => by rw [List.drop_of_length_le (Nat.le_of_eq HNL.out)] at hz; exact absurd hz List.not_mem_nil)⟩
          case round =>
            obtain ⟨K, rfl, hK, HMW, HTL⟩ := hrel
            obtain ⟨mw, rfl⟩ := HMW.out
            by_cases hlt2 : 0 < K
            · obtain ⟨j, rfl⟩ : ∃ j, K = j + 1 := ⟨K - 1, by omega⟩
              obtain ⟨z, hz⟩ : ∃ z, t[j]? = some z := ⟨_, List.getElem?_eq_getElem (by rw [HNL.out]; omega)⟩
              obtain ⟨b2, o2, ha2, hc2⟩ := HRW0.out.at_ (Below.refl _ _) (by rw [List.getElem?_map, hz]; rfl : (t.map (·.1))[j]? = some z.1)
              obtain ⟨r0, _, _⟩ := sgC_at hc2
              subst ha2
              have HZ := Lib.hid hz
              obtain ⟨t1, ht1⟩ : ∃ t1, Op.bytesLess xs.toList z.1.s.toList = t1 := ⟨_, rfl⟩
              have HT1 : Hid (decide (compareBytes xs.data.toList z.1.s.data.toList < 0) = t1) := Lib.hid (by rw [← ht1, less_eq, Up.toList_data, Up.toList_data])
              clear hz hc2
              cases t1 with
              | true =>
                have HTN : Hid (Abv xs t j) := Lib.hid (fun y hy => by
                  have hz := HZ.out
                  obtain ⟨g1, g2⟩ := List.getElem?_eq_some_iff.1 hz
                  rw [List.drop_eq_getElem_cons g1, g2] at hy
                  rcases List.mem_cons.1 hy with rfl | hy
                  · exact of_decide_eq_true HT1.out
                  · exact HTL.out y hy)
                go_wp2_with fail
                go_quiet (fail)
                go_wp2_with fail
                go_roundw
                case rel => exact ⟨j, by go_num, by omega, Lib.hid ⟨_, rfl⟩, HTN⟩
                case measure => simp [intOf]
              | false =>
                have HTH : Hid (StopAt xs t (j + 1)) := Lib.hid (.inr ⟨z, HZ.out, of_decide_eq_false HT1.out⟩)
                go_wp2_with fail
                go_quiet (fail)
                go_wp2_with fail
                go_meet
                exact ⟨j + 1, by go_num, hK, Lib.hid (more_drewN _ ⟨_, rfl⟩), HTL, HTH⟩
            · obtain rfl : K = 0 := by omega
              have HTH : Hid (StopAt xs t 0) := Lib.hid (.inl rfl)
              go_wp2_with fail
              go_quiet (fail)
              go_wp2_with fail
              go_meet
              exact ⟨0, rfl, hK, Lib.hid (more_drewN _ ⟨_, rfl⟩), HTL, HTH⟩
        case rest =>
          obtain ⟨K, rfl, hK, HMW, HTL, HTH⟩ := hcut
          obtain ⟨mw, rfl⟩ := HMW.out
          obtain ⟨B, hB⟩ : ∃ B, (if c = K then A else A.map (·.add (K * 3))) = B := ⟨_, rfl⟩
          have HRB : Hid (∀ X0, Row 3 sgC X0 A (t.map (·.1)) → Row 3 sgC X0 B ((t.map (·.1)).drop K)) := Lib.hid (fun X0 hr => by
            by_cases hc : c = K
            · intro h0
              rw [List.length_drop, List.length_map, HNL.out] at h0
              omega
            · rw [if_neg hc] at hB
              cases A with
              | none =>
                intro h0
                rw [List.length_drop] at h0
                obtain ⟨_, _, e, _⟩ := hr (by omega)
                cases e
              | some ad =>
                obtain ⟨b, rfl⟩ := HFM.out ad rfl
                rw [← hB]
                simp only [Option.map_some, plain_at]
                exact row_drop hr K _ (by omega))
          have HTK : Hid (((t.map (·.1)).take K).length = K) := Lib.hid (by rw [List.length_take, List.length_map, HNL.out]; omega)
          have HDK : Hid (((t.map (·.1)).drop K).length = n - K) := Lib.hid (by rw [List.length_drop, List.length_map, HNL.out])
          go_wp2_with fail
          refine AtS.start (by kernel_rfl) 17 (ES w.heap.size b1 (o1 + k * 4) (.slice (some ⟨b1, o1, none⟩) m f.fc) (.string xs) (.slice xpa xpl xpc) (.int .u8 xr) (.slice xba xbl xbc)) (by kernel_rfl) (by kernel_rfl) ?_
          have HX : Hid (RxAt f k w (wr.drewN mw).drew (.slice A n c) t) := Lib.hid ((H.out.drewN mw).drewN 1)
          have HFX := Lib.hid ((HFI.out.below (Tre.below_drewN wr mw)).below (Below.refl _ (wr.drewN mw)).drew)
          have hS := HES.out (wr.drewN mw).drew ((Tre.below_drewN wr mw).trans (Below.refl _ (wr.drewN mw)).drew)
          have HRW := Lib.hid (OwnG.row (C := sgC) (k := 3) (fun _ => rfl) HX.out.own)
          have HBL2 : Hid (b1 < (wr.drewN mw).drew.heap.size) := HBL
          clear z2 p0 p1 p2 p3
          generalize (wr.drewN mw).drew = X0 at *
          have HSB : Hid (∀ W, Below X0.heap.size X0 W → ES w.heap.size b1 (o1 + k * 4) (.slice (some ⟨b1, o1, none⟩) m f.fc) (.string xs) (.slice xpa xpl xpc) (.int .u8 xr) (.slice xba xbl xbc) W) := Lib.hid (fun W hW => hS.below (lt_of_heap HX.out.box) HBL2.out hW)
          refine at_take 1 43 (.slice A n c) rfl rfl (by kernel_rfl) (by decide) (by decide) (fun _ _ _ h => h) (by kernel_rfl) hS (fun w' hw' => ?_) ?_
          · obtain ⟨q0, q1, q2, q3, q4⟩ := hw'
            go_simp
          go_frame
          refine at_take 2 44 (.int .i64 K) rfl rfl (by kernel_rfl) (by decide) (by decide) (fun _ _ _ h => h) (by kernel_rfl) hS (fun w' hw' => ?_) ?_
          · obtain ⟨q0, q1, q2, q3, q4⟩ := hw'
            go_simp
          go_frame
          refine at_take 3 45 (.slice A K c) rfl rfl (by kernel_rfl) (by decide) (by decide) (fun _ _ _ h => h) (by kernel_rfl) hS (fun w' hw' => ?_) ?_
          · go_simp
            intro h9
            omega
          go_frame
          refine at_take 5 47 (.pointer (some ⟨w.heap.size, 2, none⟩)) rfl rfl (by kernel_rfl) (by decide) (by decide) (fun _ _ _ h => h) (by kernel_rfl) hS (fun w' hw' => ?_) ?_
          · obtain ⟨q0, q1, q2, q3, q4⟩ := hw'
            go_simp
          go_frame
          refine at_take 6 48 (.slice (some ⟨b1, o1, none⟩) m f.fc) rfl rfl (by kernel_rfl) (by decide) (by decide) (fun _ _ _ h => h) (by kernel_rfl) hS (fun w' hw' => ?_) ?_
          · obtain ⟨q0, q1, q2, q3, q4⟩ := hw'
            go_simp
          go_frame
          refine at_take 7 49 (.int .i64 k) rfl rfl (by kernel_rfl) (by decide) (by decide) (fun _ _ _ h => h) (by kernel_rfl) hS (fun w' hw' => ?_) ?_
          · obtain ⟨q0, q1, q2, q3, q4⟩ := hw'
            go_simp
          go_frame
          refine at_take 8 50 (.pointer (some ⟨b1, o1 + k * 4, none⟩)) rfl rfl (by kernel_rfl) (by decide) (by decide) (fun _ _ _ h => h) (by kernel_rfl) hS (fun w' hw' => ?_) ?_
          · obtain ⟨q0, q1, q2, q3, q4⟩ := hw'
            go_simp
          go_frame
          refine at_take 9 51 (.agg #[.string xs, .slice xpa xpl xpc, .int .u8 xr, .slice xba xbl xbc]) rfl rfl (by kernel_rfl) (by decide) (by decide) (fun _ _ _ h => h) (by kernel_rfl) hS (fun w' hw' => ?_) ?_
          · obtain ⟨q0, q1, q2, q3, q4⟩ := hw'
            go_simp
          go_frame
          refine at_take 13 55 (.slice A n c) rfl rfl (by kernel_rfl) (by decide) (by decide) (fun _ _ _ h => h) (by kernel_rfl) hS (fun w' hw' => ?_) ?_
          · obtain ⟨q0, q1, q2, q3, q4⟩ := hw'
            go_simp
          go_frame
          refine at_take 14 56 (.int .i64 K) rfl rfl (by kernel_rfl) (by decide) (by decide) (fun _ _ _ h => h) (by kernel_rfl) hS (fun w' hw' => ?_) ?_
          · obtain ⟨q0, q1, q2, q3, q4⟩ := hw'
            go_simp
          go_frame
          refine at_take 15 57 (.slice B (n - K) (c - K)) rfl rfl (by kernel_rfl) (by decide) (by decide) (fun _ _ _ h => h) (by kernel_rfl) hS (fun w' hw' => ?_) ?_
          · go_simp
          go_frame
          have dA : GAt X0 (X0.alloc (.cells #[] 33)) (.slice (some ⟨X0.heap.size, 0, none⟩) 0 0) [] := GAt.made (Below.refl _ _)
          have sA := HSB.out _ dA.low
          refine at_run 0 42 (.slice (some ⟨X0.heap.size, 0, none⟩) 0 0) (X0.alloc (.cells #[] 33)) rfl rfl (by kernel_rfl) (by decide) (by kernel_rfl) ?_ sA ?_
          · go_simp
          go_frame
          generalize X0.alloc (.cells #[] 33) = X1 at *
          obtain ⟨v2, X2, hr2, hd2, hf2, hz2⟩ := dA.rows (m := (t.map (·.1)).take K) (n := K) (c := c) (A := A) (row_takeG HRW.out K) HTK.out (by simp; omega)
          have s2 := HSB.out _ hd2.low
          refine at_appG 29 4 46 (v2) X2 rfl rfl (by kernel_rfl) (by decide) rfl (.tmp 42) (.tmp 45) rfl (.slice (some ⟨X0.heap.size, 0, none⟩) 0 0) (.slice A K c) rfl rfl hr2 s2 ?_
          go_frame
          have CO := Lib.hid (of_any ⟨xs, xpa, xpc, xp, xr, xba, xbc, xb⟩ X2 (HFX.out.below hd2.low) HPX.out)
          rw [fnV_eq] at CO
          simp only [HPL.out, HBLN.out] at CO
          refine at_call 10 52 (f := 38) (args := #[.agg #[.string xs, .slice xpa xpl xpc, .int .u8 xr, .slice xba xbl xbc]]) rfl rfl (by kernel_rfl) (by decide) (by kernel_rfl) ?_ ?_
          · go_simp
          refine CO.out.mono ?_
          rintro e X3 ⟨g, rfl, hc3, hi3, hng3, hb3⟩
          have hd3 := hd2.call hb3
          have s3 := HSB.out _ hd3.low
          refine ⟨_, rfl, s3, ?_⟩
          go_frame
          rw [sgV_eq]
          have b4 := ball_new X3 #[.string g.s, .slice g.a g.p.length g.c, .int .u8 g.r] 33
          have n4 := new_at X3 #[.string g.s, .slice g.a g.p.length g.c, .int .u8 g.r] 33
          have hd4 := hd3.call b4
          have s4 := HSB.out _ hd4.low
          refine at_run 11 53 (.slice (some ⟨X3.heap.size, 0, none⟩) 1 1) (X3.alloc (.cells #[.string g.s, .slice g.a g.p.length g.c, .int .u8 g.r] 33)) rfl rfl (by kernel_rfl) (by decide) (by kernel_rfl) ?_ s4 ?_
          · go_simp
          go_frame
          obtain ⟨v5, X5, hr5, hd5, hf5, hz5⟩ := hd4.one g X3.heap.size n4 (by simp; omega)
          have s5 := HSB.out _ hd5.low
          refine at_appG 29 12 54 (v5) X5 rfl rfl (by kernel_rfl) (by decide) rfl (.tmp 46) (.tmp 53) rfl (v2) (.slice (some ⟨X3.heap.size, 0, none⟩) 1 1) rfl rfl hr5 s5 ?_
          go_frame
          obtain ⟨v6, X6, hr6, hd6, hf6, hz6⟩ := hd5.rows (m := (t.map (·.1)).drop K) (n := n - K) (c := c - K) (A := B) (HRB.out _ HRW.out) HDK.out (by simp; omega)
          have s6 := HSB.out _ hd6.low
          refine at_appG 29 16 58 (v6) X6 rfl rfl (by kernel_rfl) (by decide) rfl (.tmp 54) (.tmp 57) rfl (v5) (.slice B (n - K) (c - K)) rfl rfl hr6 s6 ?_
          go_frame
          have HN : Hid (RxAt f (k + 1) w X6 v6 (t.take K ++ (g, k) :: t.drop K)) := Lib.hid (by
            have hlen := congrArg Sp.s hc3
            have hgs : g.s.data.toList = xs.data.toList := hlen
            refine HX.out.put HUT.out ⟨_, HXK.out, hc3⟩ ?_ (fun z hz => ?_) ?_ ?_
            · have h3 : ∀ b o, g.a = some ⟨b, o, none⟩ → v2.ownBlock ≠ some b := fun b o e e2 => by
                have := (hd2.own.lt b e2).2
                have := (hng3 b o e).1
                omega
              have i4 := hi3.below b4
              have i5 := i4.far hf5 hz5 h3
              refine i5.far hf6 hz6 (fun b o e => (hf5 b ?_ (h3 b o e)).2)
              have := (hng3 b o e).2
              have := b4.size
              omega
            · have := HTL.out z hz
              unfold cfE
              rw [hgs]
              exact this
            · rcases HTH.out with h | ⟨z, h1, h2⟩
              · exact .inl h
              · refine .inr ⟨z, h1, ?_⟩
                unfold cfE
                rw [hgs]
                exact h2
            · rw [List.map_take, List.map_drop]
              simpa using hd6)
          obtain ⟨A6, c6, e6, _, _⟩ := hd6.own.form
          obtain ⟨n6, hn6⟩ : ∃ n6, (([] : List Sg) ++ (t.map (·.1)).take K ++ [g] ++ (t.map (·.1)).drop K).length = n6 := ⟨_, rfl⟩
          rw [hn6] at e6
          subst e6
          clear hd2 hd3 hd4 hd5 hd6 hr2 hr5 hr6 hf2 hf5 hf6 dA b4 n4 hi3 hng3 hb3 CO
          refine AtS.lastv 17 3 (.slice A6 n6 c6) X6 rfl rfl (by kernel_rfl) (by kernel_rfl) (by decide) (by kernel_rfl) ?_ ?_
          · go_simp
          go_frame
          clear hS sA s2 s3 s4 s5 s6
          go_wp2_with fail
          go_roundw
          case rel => exact ⟨k + 1, A6, n6, c6, _, by omega, rfl, by go_num, HN⟩
          case measure => simp [intOf]; omega
    · obtain rfl : k = m := by omega
      have HRW0 := Lib.hid (OwnG.row (C := sgC) (k := 3) (fun _ => rfl) H.out.own)
      go_wp2_with fail
      go_ret
      refine ⟨A, c, t, ?_, by rw [HM.out]; exact H.out.exp, HRW0.out, H.out.sin, H.out.low⟩
      show Ending.returned (.slice A n c) = _
      rw [HNL.out]
end Go.Proofs.Ytbhgbgaeaejnhaa.Typ
