/-
  The walk of the statement on torn sectors, where both sectors are marks'. Conditions: their numbers fit 64 bits.
-/
import Derived.Test.YtpbojepliddflaaFTorn2
namespace Go.Proofs.Ytpbojepliddflaa.Frm
open Go.RowKit Codec FrameM Cod
set_option maxRecDepth 100000
theorem apart_cases {m o : Mk} (h : m.eq o = false) : (m.kind == o.kind) = false ∨ ((m.kind == o.kind) = true ∧ (m.gen == o.gen) = false) ∨ ((m.kind == o.kind) = true ∧ (m.gen == o.gen) = true ∧ (m.seq == o.seq) = false) ∨
    ((m.kind == o.kind) = true ∧ (m.gen == o.gen) = true ∧ (m.seq == o.seq) = true ∧ (m.n == o.n) = false) := by
  unfold Mk.eq at h
  cases h1 : (m.kind == o.kind) <;> cases h2 : (m.gen == o.gen) <;> cases h3 : (m.seq == o.seq) <;> cases h4 : (m.n == o.n) <;> simp_all
set_option maxHeartbeats 8000000 in
theorem torn_same (w : World) (m o : Mk) (hm : m.right = true) (hf : m.fits) (ho : o.right = true) (hof : o.fits) (hmo : m = o) : Calls Try.prog 5 #[mkV m, mkV o, .bool false] w (EndsBelow (.bool true) w) := by
  have HXL := Lib.hid (put_right hm)
  have HYL := Lib.hid (put_right ho)
  have HHL := Lib.hid (half_length m)
  have HQL := Lib.hid (half_length o)
  have hto := torn hm hf ho hof
  have hot := torn ho hof hm hf
  have HMO := Lib.hid hmo
  have HPQ : Hid (half m = half o) := Lib.hid (by rw [hmo])
  have he : m.eq o = true := Mk.eq_iff.2 hmo
  rw [he] at hto
  have HGB := Lib.hid hto.1
  have HGM := Lib.hid (hto.2 rfl)
  clear hm hf ho hof hto hot
  generalize half m = p at *
  generalize half o = q at *
  have HW := Lib.hid (Two.new w m o)
  have HB := Lib.hid (two_below w (.cells #[.int .i64 m.kind, .int .i64 m.gen, .int .i64 m.seq, .int .i64 m.n] 23) (.cells #[.int .i64 o.kind, .int .i64 o.gen, .int .i64 o.seq, .int .i64 o.n] 23))
  have HP := Lib.hid (fun u => put_any m u)
  have HQ := Lib.hid (fun u => put_any o u)
  generalize put m = xs at *
  generalize put o = ys at *
  unfold mkV at HP HQ ⊢
  obtain ⟨m0, m1, m2, m3⟩ := m
  obtain ⟨o0, o1, o2, o3⟩ := o
  dsimp only at *
  go_enter Try.func5, Try.ntmps5
  go_upto_region 1 with fail
  generalize (w.alloc (.cells #[.int .i64 m0, .int .i64 m1, .int .i64 m2, .int .i64 m3] 23)).alloc (.cells #[.int .i64 o0, .int .i64 o1, .int .i64 o2, .int .i64 o3] 23) = W at *
  have HS := Lib.hid HW.out.drew
  refine wh_start (Two w.heap.size (w.heap.size + 1) ⟨m0, m1, m2, m3⟩ ⟨o0, o1, o2, o3⟩) (by kernel_rfl) ?_
  refine wh_take 0 14 (.agg #[.int .i64 m0, .int .i64 m1, .int .i64 m2, .int .i64 m3]) rfl rfl (by kernel_rfl) (fun _ _ _ h => h) rfl HS.out (fun w' hw' => ?_) ?_
  · obtain ⟨⟨h0, h1, h2, h3⟩, ⟨p0, p1, p2, p3⟩⟩ := hw'
    dsimp only at h0 h1 h2 h3 p0 p1 p2 p3
    go_simp
  go_frame
  refine wh_take 2 16 (.agg #[.int .i64 o0, .int .i64 o1, .int .i64 o2, .int .i64 o3]) rfl rfl (by kernel_rfl) (fun _ _ _ h => h) rfl HS.out (fun w' hw' => ?_) ?_
  · obtain ⟨⟨h0, h1, h2, h3⟩, ⟨p0, p1, p2, p3⟩⟩ := hw'
    dsimp only at h0 h1 h2 h3 p0 p1 p2 p3
    go_simp
  go_frame
  refine wh_call 1 15 9 #[.agg #[.int .i64 m0, .int .i64 m1, .int .i64 m2, .int .i64 m3]] rfl rfl (by kernel_rfl) rfl ?_ ?_
  · go_simp
  refine (HP.out _).mono ?_
  rintro e w3 ⟨A1, c1, rfl, hy1, hb3, hc1, hm1⟩
  have HS1 := Lib.hid (HS.out.keep hb3)
  have HY1 := Lib.hid hy1
  have HB3 := Lib.hid (HB.out.drew.trans (hb3.mono HB.out.size))
  clear hy1 hb3 HW HB HS
  refine ⟨_, rfl, HS1.out, ?_⟩
  go_frame
  refine wh_call 3 17 9 #[.agg #[.int .i64 o0, .int .i64 o1, .int .i64 o2, .int .i64 o3]] rfl rfl (by kernel_rfl) rfl ?_ ?_
  · go_simp
  refine (HQ.out _).mono ?_
  rintro e w4 ⟨A2, c2, rfl, hy2, hb4, hc2, hm2⟩
  have HT := Lib.hid (HS1.out.keep hb4)
  have HX := Lib.hid ((HY1.out.below hb4).more hb4.size)
  have HY := Lib.hid hy2
  have HB4 := Lib.hid (HB3.out.trans (hb4.mono HB3.out.size))
  clear hy2 hb4 HS1 HY1 HB3 HP HQ
  refine ⟨_, rfl, HT.out, ?_⟩
  go_frame
  refine wh_take 4 7 (.slice A1 xs.length c1) rfl rfl (by kernel_rfl) (fun _ _ _ h => h) rfl HT.out (fun w' hw' => ?_) ?_
  · exact rfl
  go_frame
  refine wh_take 5 8 (.slice A2 ys.length c2) rfl rfl (by kernel_rfl) (fun _ _ _ h => h) rfl HT.out (fun w' hw' => ?_) ?_
  · exact rfl
  go_frame
  refine wpAnyH_done (by kernel_rfl) ?_ _
  have hxs : xs = p ++ p := HXL.out
  have hys : ys = q ++ q := HYL.out
  subst hxs hys
  have hpl : (p ++ p).length = 64 := by rw [List.length_append, HHL.out]
  have hql : (q ++ q).length = 64 := by rw [List.length_append, HQL.out]
  rw [hpl] at hc1 HX ⊢
  rw [hql] at hc2 HY ⊢
  clear hpl hql HXL HYL
  have hpq : p = q := HPQ.out
  subst hpq
  have hmo := HMO.out
  injection hmo with a0 a1 a2 a3
  subst a0 a1 a2 a3
  have mB := HGB
  have mM := HGM
  clear HPQ HMO HGB HGM
  go_upto_region 6 with fail
  go_cut [9, 10] (fun v9 v10 U => MarkAt w4 v9 v10 ⟨m0, m1, m2, m3⟩ true U)
  case first =>
    have hsa : ∀ v, (Instr.slice 24 (.slice A1 64 c1) none (some (.int .i64 32)) none).run Try.prog v = .ok (.slice A1 32 c1) v := fun v => run_to v A1 64 c1 32 (by omega)
    have hsb : ∀ v, (Instr.slice 24 (.slice A2 64 c2) (some (.int .i64 32)) none none).run Try.prog v = .ok (.slice (cutAt A2 32 c2) 32 (c2 - 32)) v := fun v => cut_l v A2 64 c2 32 (by omega)
    have HCA := Lib.hid (HX.out.take 32 (by decide))
    have HCB := Lib.hid (Byts.cut HY.out 32 64 c2 (by decide) (by decide) (by omega))
    rw [(cut_two p p HHL.out HHL.out).1] at HCA
    rw [(cut_two p p HQL.out HQL.out).2] at HCB
    have HTR : Hid True := Lib.hid trivial
    have HB := Lib.hid ((Below.refl w4.heap.size w4).drew)
    refine wh_start (fun _ => True) (by kernel_rfl) ?_
    generalize w4.drew = u0 at *
    refine wh_take 1 39 (.slice A1 64 c1) rfl rfl (by kernel_rfl) (fun _ _ _ h => h) rfl HTR.out (fun w' hw' => ?_) ?_
    · exact rfl
    go_frame
    refine wh_take 2 40 (.slice A1 32 c1) rfl rfl (by kernel_rfl) (fun _ _ _ h => h) rfl HTR.out (fun w' hw' => ?_) ?_
    · go_simp
    go_frame
    refine wh_take 4 42 (.slice A2 64 c2) rfl rfl (by kernel_rfl) (fun _ _ _ h => h) rfl HTR.out (fun w' hw' => ?_) ?_
    · exact rfl
    go_frame
    refine wh_take 5 43 (.slice (cutAt A2 32 c2) 32 (c2 - 32)) rfl rfl (by kernel_rfl) (fun _ _ _ h => h) rfl HTR.out (fun w' hw' => ?_) ?_
    · go_simp
    go_frame
    refine wh_all2 0 11 (by kernel_rfl) ?_ ?_
    · refine wo_run 38 (.slice (some ⟨u0.heap.size, 0, none⟩) 0 0) (u0.alloc (.cells #[] 5)) rfl rfl rfl ?_ ⟨trivial, ?_⟩
      · go_simp
      go_frame
      have HO := Lib.hid (own_at u0 w4.heap.size HB.out.size)
      have HB := Lib.hid (HB.out.alloc HB.out.size (.cells #[] 5))
      generalize u0.alloc (.cells #[] 5) = ub at *
      refine wh_all2 3 11 (by kernel_rfl) ?_ ?_
      · refine wo_app 41 rfl rfl rfl (.tmp 38) (.tmp 40) rfl w4.heap.size _ 0 [] rfl HO.out w4.heap.size A1 32 c1 p rfl (HCA.out.below HB.out) (by decide) HB.out.size ?_
        intro A5 c5 w5 ho5 hg5
        have HB := Lib.hid (HB.out.trans (HO.out.below_own HB.out.size hg5))
        have HO := Lib.hid ho5
        clear ho5 hg5
        refine ⟨trivial, ?_⟩
        go_frame
        refine wh_all2 6 11 (by kernel_rfl) ?_ ?_
        · refine wo_app 44 rfl rfl rfl (.tmp 41) (.tmp 43) rfl w4.heap.size _ (0 + 32) ([] ++ p) rfl HO.out w4.heap.size (cutAt A2 32 c2) 32 (c2 - 32) p rfl (HCB.out.below HB.out) (by decide) HB.out.size ?_
          intro A5 c5 w5 ho5 hg5
          have HB := Lib.hid (HB.out.trans (HO.out.below_own HB.out.size hg5))
          have HO := Lib.hid ho5
          clear ho5 hg5
          refine ⟨trivial, ?_⟩
          go_frame
          refine wh_all2 7 11 (by kernel_rfl) ?_ ?_
          · have hc6 : 64 ≤ c5 ∧ c5 ≤ maxLen := by
              obtain ⟨A', c', e', h1, h2⟩ := HO.out.form
              injection e' with _ _ e3
              subst e3
              exact ⟨h1, h2⟩
            have HCG := Lib.hid (fget_any w5 _ 64 c5 A5 (p ++ p) HO.out.byts (Nat.le_refl _) hc6.1 hc6.2)
            rw [mM.out, mB.out] at HCG
            unfold tupV mkV at HCG
            dsimp only at HCG
            clear hc6
            refine wo_call 45 7 #[.slice A5 64 c5] rfl rfl rfl ?_ ?_
            · go_simp
            refine HCG.out.mono ?_
            rintro e w7 ⟨rfl, hb7⟩
            have HB := Lib.hid (HB.out.trans (hb7.mono HB.out.size))
            clear hb7 HCG HO
            refine ⟨_, rfl, trivial, ?_⟩
            go_frame
            refine wh_take 8 37 (.tuple #[.agg #[.int .i64 m0, .int .i64 m1, .int .i64 m2, .int .i64 m3], .bool true]) rfl rfl (by kernel_rfl) (fun _ _ _ h => h) rfl HTR.out (fun w' hw' => ?_) ?_
            · exact rfl
            go_frame
            refine wh_take 9 46 (.agg #[.int .i64 m0, .int .i64 m1, .int .i64 m2, .int .i64 m3]) rfl rfl (by kernel_rfl) (fun _ _ _ h => h) rfl HTR.out (fun w' hw' => ?_) ?_
            · go_simp
            go_frame
            refine wh_take 10 47 (.bool true) rfl rfl (by kernel_rfl) (fun _ _ _ h => h) rfl HTR.out (fun w' hw' => ?_) ?_
            · go_simp
            go_frame
            refine wh_all1 11 (by kernel_rfl) ?_
            refine wo_run 9 (.pointer (some ⟨w7.heap.size, 0, none⟩)) (w7.alloc (.cells #[.int .i64 0, .int .i64 0, .int .i64 0, .int .i64 0] 26)) rfl rfl rfl ?_ ⟨trivial, ?_⟩
            · go_simp
            go_frame
            have HZ : Hid ((w7.alloc (.cells #[.int .i64 0, .int .i64 0, .int .i64 0, .int .i64 0] 26)).heap[w7.heap.size]? = some (.cells (mkC 0 0 0 0) 26 (0, 0))) := Lib.hid (heap_alloc_new w7 _)
            have HZL : Hid (w4.heap.size ≤ w7.heap.size) := Lib.hid HB.out.size
            have HB := Lib.hid (HB.out.alloc HB.out.size (.cells #[.int .i64 0, .int .i64 0, .int .i64 0, .int .i64 0] 26))
            generalize w7.alloc (.cells #[.int .i64 0, .int .i64 0, .int .i64 0, .int .i64 0] 26) = ua at *
            generalize w7.heap.size = bz at *
            obtain ⟨z0, z1, z2, z3⟩ := four_of HZ.out
            have q0 := free_at HZ.out 0
            have q1 := free_at HZ.out 1
            have q2 := free_at HZ.out 2
            have q3 := free_at HZ.out 3
            refine wh_store 12 ((((ua.setCell ⟨bz, 0, none⟩ (.int .i64 m0)).setCell ⟨bz, 1, none⟩ (.int .i64 m1)).setCell ⟨bz, 2, none⟩ (.int .i64 m2)).setCell ⟨bz, 3, none⟩ (.int .i64 m3)) rfl rfl (by kernel_rfl) rfl ?_ trivial ?_
            · go_simp
            clear z0 z1 z2 z3 q0 q1 q2 q3
            refine wh_take 13 10 (.bool true) rfl rfl (by kernel_rfl) (fun _ _ _ h => h) rfl HTR.out (fun w' hw' => ?_) ?_
            · exact rfl
            go_frame
            refine wpAnyH_done (by kernel_rfl) ?_ _
            go_wp2_with fail
            go_meet
            exact ⟨bz, rfl, rfl, four_of (four_set HZ.out m0 m1 m2 m3), four_below HB.out HZL.out m0 m1 m2 m3⟩
          · refine wo_run 9 (.pointer (some ⟨w5.heap.size, 0, none⟩)) (w5.alloc (.cells #[.int .i64 0, .int .i64 0, .int .i64 0, .int .i64 0] 26)) rfl rfl rfl ?_ ⟨trivial, ?_⟩
            · go_simp
            go_frame
            have HZ : Hid ((w5.alloc (.cells #[.int .i64 0, .int .i64 0, .int .i64 0, .int .i64 0] 26)).heap[w5.heap.size]? = some (.cells (mkC 0 0 0 0) 26 (0, 0))) := Lib.hid (heap_alloc_new w5 _)
            have HZL : Hid (w4.heap.size ≤ w5.heap.size) := Lib.hid HB.out.size
            have HB := Lib.hid (HB.out.alloc HB.out.size (.cells #[.int .i64 0, .int .i64 0, .int .i64 0, .int .i64 0] 26))
            have HO := Lib.hid (HO.out.alloc (.cells #[.int .i64 0, .int .i64 0, .int .i64 0, .int .i64 0] 26))
            generalize w5.alloc (.cells #[.int .i64 0, .int .i64 0, .int .i64 0, .int .i64 0] 26) = ua at *
            generalize w5.heap.size = bz at *
            refine wh_all1 7 (by kernel_rfl) ?_
            have hc6 : 64 ≤ c5 ∧ c5 ≤ maxLen := by
              obtain ⟨A', c', e', h1, h2⟩ := HO.out.form
              injection e' with _ _ e3
              subst e3
              exact ⟨h1, h2⟩
            have HCG := Lib.hid (fget_any ua _ 64 c5 A5 (p ++ p) HO.out.byts (Nat.le_refl _) hc6.1 hc6.2)
            rw [mM.out, mB.out] at HCG
            unfold tupV mkV at HCG
            dsimp only at HCG
            clear hc6
            refine wo_call 45 7 #[.slice A5 64 c5] rfl rfl rfl ?_ ?_
            · go_simp
            refine HCG.out.mono ?_
            rintro e w7 ⟨rfl, hb7⟩
            have HZ := Lib.hid ((hb7.block bz (lt_of_heap HZ.out)).trans HZ.out)
            have HB := Lib.hid (HB.out.trans (hb7.mono HB.out.size))
            clear hb7 HCG HO
            refine ⟨_, rfl, trivial, ?_⟩
            go_frame
            refine wh_take 8 37 (.tuple #[.agg #[.int .i64 m0, .int .i64 m1, .int .i64 m2, .int .i64 m3], .bool true]) rfl rfl (by kernel_rfl) (fun _ _ _ h => h) rfl HTR.out (fun w' hw' => ?_) ?_
            · exact rfl
            go_frame
            refine wh_take 9 46 (.agg #[.int .i64 m0, .int .i64 m1, .int .i64 m2, .int .i64 m3]) rfl rfl (by kernel_rfl) (fun _ _ _ h => h) rfl HTR.out (fun w' hw' => ?_) ?_
            · go_simp
            go_frame
            refine wh_take 10 47 (.bool true) rfl rfl (by kernel_rfl) (fun _ _ _ h => h) rfl HTR.out (fun w' hw' => ?_) ?_
            · go_simp
            go_frame
            obtain ⟨z0, z1, z2, z3⟩ := four_of HZ.out
            have q0 := free_at HZ.out 0
            have q1 := free_at HZ.out 1
            have q2 := free_at HZ.out 2
            have q3 := free_at HZ.out 3
            refine wh_store 12 ((((w7.setCell ⟨bz, 0, none⟩ (.int .i64 m0)).setCell ⟨bz, 1, none⟩ (.int .i64 m1)).setCell ⟨bz, 2, none⟩ (.int .i64 m2)).setCell ⟨bz, 3, none⟩ (.int .i64 m3)) rfl rfl (by kernel_rfl) rfl ?_ trivial ?_
            · go_simp
            clear z0 z1 z2 z3 q0 q1 q2 q3
            refine wh_take 13 10 (.bool true) rfl rfl (by kernel_rfl) (fun _ _ _ h => h) rfl HTR.out (fun w' hw' => ?_) ?_
            · exact rfl
            go_frame
            refine wpAnyH_done (by kernel_rfl) ?_ _
            go_wp2_with fail
            go_meet
            exact ⟨bz, rfl, rfl, four_of (four_set HZ.out m0 m1 m2 m3), four_below HB.out HZL.out m0 m1 m2 m3⟩
        · refine wo_run 9 (.pointer (some ⟨w5.heap.size, 0, none⟩)) (w5.alloc (.cells #[.int .i64 0, .int .i64 0, .int .i64 0, .int .i64 0] 26)) rfl rfl rfl ?_ ⟨trivial, ?_⟩
          · go_simp
          go_frame
          have HZ : Hid ((w5.alloc (.cells #[.int .i64 0, .int .i64 0, .int .i64 0, .int .i64 0] 26)).heap[w5.heap.size]? = some (.cells (mkC 0 0 0 0) 26 (0, 0))) := Lib.hid (heap_alloc_new w5 _)
          have HZL : Hid (w4.heap.size ≤ w5.heap.size) := Lib.hid HB.out.size
          have HB := Lib.hid (HB.out.alloc HB.out.size (.cells #[.int .i64 0, .int .i64 0, .int .i64 0, .int .i64 0] 26))
          have HO := Lib.hid (HO.out.alloc (.cells #[.int .i64 0, .int .i64 0, .int .i64 0, .int .i64 0] 26))
          generalize w5.alloc (.cells #[.int .i64 0, .int .i64 0, .int .i64 0, .int .i64 0] 26) = ua at *
          generalize w5.heap.size = bz at *
          refine wh_all1 6 (by kernel_rfl) ?_
          refine wo_app 44 rfl rfl rfl (.tmp 41) (.tmp 43) rfl w4.heap.size _ (0 + 32) ([] ++ p) rfl HO.out w4.heap.size (cutAt A2 32 c2) 32 (c2 - 32) p rfl (HCB.out.below HB.out) (by decide) HB.out.size ?_
          intro A5 c5 w5 ho5 hg5
          have HZ := Lib.hid ((hg5.block bz (lt_of_heap HZ.out) (fun e => HO.out.far HZ.out (by decide) e.symm)).trans HZ.out)
          have HB := Lib.hid (HB.out.trans (HO.out.below_own HB.out.size hg5))
          have HO := Lib.hid ho5
          clear ho5 hg5
          refine ⟨trivial, ?_⟩
          go_frame
          refine wh_all1 7 (by kernel_rfl) ?_
          have hc6 : 64 ≤ c5 ∧ c5 ≤ maxLen := by
            obtain ⟨A', c', e', h1, h2⟩ := HO.out.form
            injection e' with _ _ e3
            subst e3
            exact ⟨h1, h2⟩
          have HCG := Lib.hid (fget_any w5 _ 64 c5 A5 (p ++ p) HO.out.byts (Nat.le_refl _) hc6.1 hc6.2)
          rw [mM.out, mB.out] at HCG
          unfold tupV mkV at HCG
          dsimp only at HCG
          clear hc6
          refine wo_call 45 7 #[.slice A5 64 c5] rfl rfl rfl ?_ ?_
          · go_simp
          refine HCG.out.mono ?_
          rintro e w7 ⟨rfl, hb7⟩
          have HZ := Lib.hid ((hb7.block bz (lt_of_heap HZ.out)).trans HZ.out)
          have HB := Lib.hid (HB.out.trans (hb7.mono HB.out.size))
          clear hb7 HCG HO
          refine ⟨_, rfl, trivial, ?_⟩
          go_frame
          refine wh_take 8 37 (.tuple #[.agg #[.int .i64 m0, .int .i64 m1, .int .i64 m2, .int .i64 m3], .bool true]) rfl rfl (by kernel_rfl) (fun _ _ _ h => h) rfl HTR.out (fun w' hw' => ?_) ?_
          · exact rfl
          go_frame
          refine wh_take 9 46 (.agg #[.int .i64 m0, .int .i64 m1, .int .i64 m2, .int .i64 m3]) rfl rfl (by kernel_rfl) (fun _ _ _ h => h) rfl HTR.out (fun w' hw' => ?_) ?_
          · go_simp
          go_frame
          refine wh_take 10 47 (.bool true) rfl rfl (by kernel_rfl) (fun _ _ _ h => h) rfl HTR.out (fun w' hw' => ?_) ?_
          · go_simp
          go_frame
          obtain ⟨z0, z1, z2, z3⟩ := four_of HZ.out
          have q0 := free_at HZ.out 0
          have q1 := free_at HZ.out 1
          have q2 := free_at HZ.out 2
          have q3 := free_at HZ.out 3
          refine wh_store 12 ((((w7.setCell ⟨bz, 0, none⟩ (.int .i64 m0)).setCell ⟨bz, 1, none⟩ (.int .i64 m1)).setCell ⟨bz, 2, none⟩ (.int .i64 m2)).setCell ⟨bz, 3, none⟩ (.int .i64 m3)) rfl rfl (by kernel_rfl) rfl ?_ trivial ?_
          · go_simp
          clear z0 z1 z2 z3 q0 q1 q2 q3
          refine wh_take 13 10 (.bool true) rfl rfl (by kernel_rfl) (fun _ _ _ h => h) rfl HTR.out (fun w' hw' => ?_) ?_
          · exact rfl
          go_frame
          refine wpAnyH_done (by kernel_rfl) ?_ _
          go_wp2_with fail
          go_meet
          exact ⟨bz, rfl, rfl, four_of (four_set HZ.out m0 m1 m2 m3), four_below HB.out HZL.out m0 m1 m2 m3⟩
      · refine wo_run 9 (.pointer (some ⟨ub.heap.size, 0, none⟩)) (ub.alloc (.cells #[.int .i64 0, .int .i64 0, .int .i64 0, .int .i64 0] 26)) rfl rfl rfl ?_ ⟨trivial, ?_⟩
        · go_simp
        go_frame
        have HZ : Hid ((ub.alloc (.cells #[.int .i64 0, .int .i64 0, .int .i64 0, .int .i64 0] 26)).heap[ub.heap.size]? = some (.cells (mkC 0 0 0 0) 26 (0, 0))) := Lib.hid (heap_alloc_new ub _)
        have HZL : Hid (w4.heap.size ≤ ub.heap.size) := Lib.hid HB.out.size
        have HB := Lib.hid (HB.out.alloc HB.out.size (.cells #[.int .i64 0, .int .i64 0, .int .i64 0, .int .i64 0] 26))
        have HO := Lib.hid (HO.out.alloc (.cells #[.int .i64 0, .int .i64 0, .int .i64 0, .int .i64 0] 26))
        generalize ub.alloc (.cells #[.int .i64 0, .int .i64 0, .int .i64 0, .int .i64 0] 26) = ua at *
        generalize ub.heap.size = bz at *
        refine wh_all1 3 (by kernel_rfl) ?_
        refine wo_app 41 rfl rfl rfl (.tmp 38) (.tmp 40) rfl w4.heap.size _ 0 [] rfl HO.out w4.heap.size A1 32 c1 p rfl (HCA.out.below HB.out) (by decide) HB.out.size ?_
        intro A5 c5 w5 ho5 hg5
        have HZ := Lib.hid ((hg5.block bz (lt_of_heap HZ.out) (fun e => HO.out.far HZ.out (by decide) e.symm)).trans HZ.out)
        have HB := Lib.hid (HB.out.trans (HO.out.below_own HB.out.size hg5))
        have HO := Lib.hid ho5
        clear ho5 hg5
        refine ⟨trivial, ?_⟩
        go_frame
        refine wh_all1 6 (by kernel_rfl) ?_
        refine wo_app 44 rfl rfl rfl (.tmp 41) (.tmp 43) rfl w4.heap.size _ (0 + 32) ([] ++ p) rfl HO.out w4.heap.size (cutAt A2 32 c2) 32 (c2 - 32) p rfl (HCB.out.below HB.out) (by decide) HB.out.size ?_
        intro A5 c5 w5 ho5 hg5
        have HZ := Lib.hid ((hg5.block bz (lt_of_heap HZ.out) (fun e => HO.out.far HZ.out (by decide) e.symm)).trans HZ.out)
        have HB := Lib.hid (HB.out.trans (HO.out.below_own HB.out.size hg5))
        have HO := Lib.hid ho5
        clear ho5 hg5
        refine ⟨trivial, ?_⟩
        go_frame
        refine wh_all1 7 (by kernel_rfl) ?_
        have hc6 : 64 ≤ c5 ∧ c5 ≤ maxLen := by
          obtain ⟨A', c', e', h1, h2⟩ := HO.out.form
          injection e' with _ _ e3
          subst e3
          exact ⟨h1, h2⟩
        have HCG := Lib.hid (fget_any w5 _ 64 c5 A5 (p ++ p) HO.out.byts (Nat.le_refl _) hc6.1 hc6.2)
        rw [mM.out, mB.out] at HCG
        unfold tupV mkV at HCG
        dsimp only at HCG
        clear hc6
        refine wo_call 45 7 #[.slice A5 64 c5] rfl rfl rfl ?_ ?_
        · go_simp
        refine HCG.out.mono ?_
        rintro e w7 ⟨rfl, hb7⟩
        have HZ := Lib.hid ((hb7.block bz (lt_of_heap HZ.out)).trans HZ.out)
        have HB := Lib.hid (HB.out.trans (hb7.mono HB.out.size))
        clear hb7 HCG HO
        refine ⟨_, rfl, trivial, ?_⟩
        go_frame
        refine wh_take 8 37 (.tuple #[.agg #[.int .i64 m0, .int .i64 m1, .int .i64 m2, .int .i64 m3], .bool true]) rfl rfl (by kernel_rfl) (fun _ _ _ h => h) rfl HTR.out (fun w' hw' => ?_) ?_
        · exact rfl
        go_frame
        refine wh_take 9 46 (.agg #[.int .i64 m0, .int .i64 m1, .int .i64 m2, .int .i64 m3]) rfl rfl (by kernel_rfl) (fun _ _ _ h => h) rfl HTR.out (fun w' hw' => ?_) ?_
        · go_simp
        go_frame
        refine wh_take 10 47 (.bool true) rfl rfl (by kernel_rfl) (fun _ _ _ h => h) rfl HTR.out (fun w' hw' => ?_) ?_
        · go_simp
        go_frame
        obtain ⟨z0, z1, z2, z3⟩ := four_of HZ.out
        have q0 := free_at HZ.out 0
        have q1 := free_at HZ.out 1
        have q2 := free_at HZ.out 2
        have q3 := free_at HZ.out 3
        refine wh_store 12 ((((w7.setCell ⟨bz, 0, none⟩ (.int .i64 m0)).setCell ⟨bz, 1, none⟩ (.int .i64 m1)).setCell ⟨bz, 2, none⟩ (.int .i64 m2)).setCell ⟨bz, 3, none⟩ (.int .i64 m3)) rfl rfl (by kernel_rfl) rfl ?_ trivial ?_
        · go_simp
        clear z0 z1 z2 z3 q0 q1 q2 q3
        refine wh_take 13 10 (.bool true) rfl rfl (by kernel_rfl) (fun _ _ _ h => h) rfl HTR.out (fun w' hw' => ?_) ?_
        · exact rfl
        go_frame
        refine wpAnyH_done (by kernel_rfl) ?_ _
        go_wp2_with fail
        go_meet
        exact ⟨bz, rfl, rfl, four_of (four_set HZ.out m0 m1 m2 m3), four_below HB.out HZL.out m0 m1 m2 m3⟩
    · refine wo_run 9 (.pointer (some ⟨u0.heap.size, 0, none⟩)) (u0.alloc (.cells #[.int .i64 0, .int .i64 0, .int .i64 0, .int .i64 0] 26)) rfl rfl rfl ?_ ⟨trivial, ?_⟩
      · go_simp
      go_frame
      have HZ : Hid ((u0.alloc (.cells #[.int .i64 0, .int .i64 0, .int .i64 0, .int .i64 0] 26)).heap[u0.heap.size]? = some (.cells (mkC 0 0 0 0) 26 (0, 0))) := Lib.hid (heap_alloc_new u0 _)
      have HZL : Hid (w4.heap.size ≤ u0.heap.size) := Lib.hid HB.out.size
      have HB := Lib.hid (HB.out.alloc HB.out.size (.cells #[.int .i64 0, .int .i64 0, .int .i64 0, .int .i64 0] 26))
      generalize u0.alloc (.cells #[.int .i64 0, .int .i64 0, .int .i64 0, .int .i64 0] 26) = ua at *
      generalize u0.heap.size = bz at *
      refine wh_all1 0 (by kernel_rfl) ?_
      refine wo_run 38 (.slice (some ⟨ua.heap.size, 0, none⟩) 0 0) (ua.alloc (.cells #[] 5)) rfl rfl rfl ?_ ⟨trivial, ?_⟩
      · go_simp
      go_frame
      have HO := Lib.hid (own_at ua w4.heap.size HB.out.size)
      have HZ := Lib.hid ((Below.heap_alloc ua (.cells #[] 5) _ (lt_of_heap HZ.out)).trans HZ.out)
      have HB := Lib.hid (HB.out.alloc HB.out.size (.cells #[] 5))
      generalize ua.alloc (.cells #[] 5) = ub at *
      refine wh_all1 3 (by kernel_rfl) ?_
      refine wo_app 41 rfl rfl rfl (.tmp 38) (.tmp 40) rfl w4.heap.size _ 0 [] rfl HO.out w4.heap.size A1 32 c1 p rfl (HCA.out.below HB.out) (by decide) HB.out.size ?_
      intro A5 c5 w5 ho5 hg5
      have HZ := Lib.hid ((hg5.block bz (lt_of_heap HZ.out) (fun e => HO.out.far HZ.out (by decide) e.symm)).trans HZ.out)
      have HB := Lib.hid (HB.out.trans (HO.out.below_own HB.out.size hg5))
      have HO := Lib.hid ho5
      clear ho5 hg5
      refine ⟨trivial, ?_⟩
      go_frame
      refine wh_all1 6 (by kernel_rfl) ?_
      refine wo_app 44 rfl rfl rfl (.tmp 41) (.tmp 43) rfl w4.heap.size _ (0 + 32) ([] ++ p) rfl HO.out w4.heap.size (cutAt A2 32 c2) 32 (c2 - 32) p rfl (HCB.out.below HB.out) (by decide) HB.out.size ?_
      intro A5 c5 w5 ho5 hg5
      have HZ := Lib.hid ((hg5.block bz (lt_of_heap HZ.out) (fun e => HO.out.far HZ.out (by decide) e.symm)).trans HZ.out)
      have HB := Lib.hid (HB.out.trans (HO.out.below_own HB.out.size hg5))
      have HO := Lib.hid ho5
      clear ho5 hg5
      refine ⟨trivial, ?_⟩
      go_frame
      refine wh_all1 7 (by kernel_rfl) ?_
      have hc6 : 64 ≤ c5 ∧ c5 ≤ maxLen := by
        obtain ⟨A', c', e', h1, h2⟩ := HO.out.form
        injection e' with _ _ e3
        subst e3
        exact ⟨h1, h2⟩
      have HCG := Lib.hid (fget_any w5 _ 64 c5 A5 (p ++ p) HO.out.byts (Nat.le_refl _) hc6.1 hc6.2)
      rw [mM.out, mB.out] at HCG
      unfold tupV mkV at HCG
      dsimp only at HCG
      clear hc6
      refine wo_call 45 7 #[.slice A5 64 c5] rfl rfl rfl ?_ ?_
      · go_simp
      refine HCG.out.mono ?_
      rintro e w7 ⟨rfl, hb7⟩
      have HZ := Lib.hid ((hb7.block bz (lt_of_heap HZ.out)).trans HZ.out)
      have HB := Lib.hid (HB.out.trans (hb7.mono HB.out.size))
      clear hb7 HCG HO
      refine ⟨_, rfl, trivial, ?_⟩
      go_frame
      refine wh_take 8 37 (.tuple #[.agg #[.int .i64 m0, .int .i64 m1, .int .i64 m2, .int .i64 m3], .bool true]) rfl rfl (by kernel_rfl) (fun _ _ _ h => h) rfl HTR.out (fun w' hw' => ?_) ?_
      · exact rfl
      go_frame
      refine wh_take 9 46 (.agg #[.int .i64 m0, .int .i64 m1, .int .i64 m2, .int .i64 m3]) rfl rfl (by kernel_rfl) (fun _ _ _ h => h) rfl HTR.out (fun w' hw' => ?_) ?_
      · go_simp
      go_frame
      refine wh_take 10 47 (.bool true) rfl rfl (by kernel_rfl) (fun _ _ _ h => h) rfl HTR.out (fun w' hw' => ?_) ?_
      · go_simp
      go_frame
      obtain ⟨z0, z1, z2, z3⟩ := four_of HZ.out
      have q0 := free_at HZ.out 0
      have q1 := free_at HZ.out 1
      have q2 := free_at HZ.out 2
      have q3 := free_at HZ.out 3
      refine wh_store 12 ((((w7.setCell ⟨bz, 0, none⟩ (.int .i64 m0)).setCell ⟨bz, 1, none⟩ (.int .i64 m1)).setCell ⟨bz, 2, none⟩ (.int .i64 m2)).setCell ⟨bz, 3, none⟩ (.int .i64 m3)) rfl rfl (by kernel_rfl) rfl ?_ trivial ?_
      · go_simp
      clear z0 z1 z2 z3 q0 q1 q2 q3
      refine wh_take 13 10 (.bool true) rfl rfl (by kernel_rfl) (fun _ _ _ h => h) rfl HTR.out (fun w' hw' => ?_) ?_
      · exact rfl
      go_frame
      refine wpAnyH_done (by kernel_rfl) ?_ _
      go_wp2_with fail
      go_meet
      exact ⟨bz, rfl, rfl, four_of (four_set HZ.out m0 m1 m2 m3), four_below HB.out HZL.out m0 m1 m2 m3⟩
  case rest =>
    obtain ⟨b9, rfl, rfl, hn9, hbn⟩ := hcut
    obtain ⟨U, rfl⟩ : ∃ U : World, U = wc := ⟨_, rfl⟩
    have HX6 := Lib.hid ((HX.out.below hbn).more hbn.size)
    have HY6 := Lib.hid ((HY.out.below hbn).more hbn.size)
    have HT6 := Lib.hid (HT.out.keep hbn)
    have HN9 := Lib.hid hn9
    have HB6' := Lib.hid (HB4.out.trans (hbn.mono HB4.out.size))
    clear HX HY HT hn9 hbn HB4
    go_upto_region 7 with fail
    go_cut [11, 12] (fun v11 v12 V => MarkAt U v11 v12 ⟨m0, m1, m2, m3⟩ true V)
    case first =>
      have hsa : ∀ v, (Instr.slice 24 (.slice A2 64 c2) none (some (.int .i64 32)) none).run Try.prog v = .ok (.slice A2 32 c2) v := fun v => run_to v A2 64 c2 32 (by omega)
      have hsb : ∀ v, (Instr.slice 24 (.slice A1 64 c1) (some (.int .i64 32)) none none).run Try.prog v = .ok (.slice (cutAt A1 32 c1) 32 (c1 - 32)) v := fun v => cut_l v A1 64 c1 32 (by omega)
      have HCA := Lib.hid (HY6.out.take 32 (by decide))
      have HCB := Lib.hid (Byts.cut HX6.out 32 64 c1 (by decide) (by decide) (by omega))
      rw [(cut_two p p HQL.out HQL.out).1] at HCA
      rw [(cut_two p p HHL.out HHL.out).2] at HCB
      have HTR : Hid True := Lib.hid trivial
      have HB := Lib.hid ((Below.refl U.heap.size U).drew)
      refine wh_start (fun _ => True) (by kernel_rfl) ?_
      generalize U.drew = u0 at *
      refine wh_take 1 50 (.slice A2 64 c2) rfl rfl (by kernel_rfl) (fun _ _ _ h => h) rfl HTR.out (fun w' hw' => ?_) ?_
      · exact rfl
      go_frame
      refine wh_take 2 51 (.slice A2 32 c2) rfl rfl (by kernel_rfl) (fun _ _ _ h => h) rfl HTR.out (fun w' hw' => ?_) ?_
      · go_simp
      go_frame
      refine wh_take 4 53 (.slice A1 64 c1) rfl rfl (by kernel_rfl) (fun _ _ _ h => h) rfl HTR.out (fun w' hw' => ?_) ?_
      · exact rfl
      go_frame
      refine wh_take 5 54 (.slice (cutAt A1 32 c1) 32 (c1 - 32)) rfl rfl (by kernel_rfl) (fun _ _ _ h => h) rfl HTR.out (fun w' hw' => ?_) ?_
      · go_simp
      go_frame
      refine wh_all2 0 11 (by kernel_rfl) ?_ ?_
      · refine wo_run 49 (.slice (some ⟨u0.heap.size, 0, none⟩) 0 0) (u0.alloc (.cells #[] 5)) rfl rfl rfl ?_ ⟨trivial, ?_⟩
        · go_simp
        go_frame
        have HO := Lib.hid (own_at u0 U.heap.size HB.out.size)
        have HB := Lib.hid (HB.out.alloc HB.out.size (.cells #[] 5))
        generalize u0.alloc (.cells #[] 5) = ub at *
        refine wh_all2 3 11 (by kernel_rfl) ?_ ?_
        · refine wo_app 52 rfl rfl rfl (.tmp 49) (.tmp 51) rfl U.heap.size _ 0 [] rfl HO.out U.heap.size A2 32 c2 p rfl (HCA.out.below HB.out) (by decide) HB.out.size ?_
          intro A5 c5 w5 ho5 hg5
          have HB := Lib.hid (HB.out.trans (HO.out.below_own HB.out.size hg5))
          have HO := Lib.hid ho5
          clear ho5 hg5
          refine ⟨trivial, ?_⟩
          go_frame
          refine wh_all2 6 11 (by kernel_rfl) ?_ ?_
          · refine wo_app 55 rfl rfl rfl (.tmp 52) (.tmp 54) rfl U.heap.size _ (0 + 32) ([] ++ p) rfl HO.out U.heap.size (cutAt A1 32 c1) 32 (c1 - 32) p rfl (HCB.out.below HB.out) (by decide) HB.out.size ?_
            intro A5 c5 w5 ho5 hg5
            have HB := Lib.hid (HB.out.trans (HO.out.below_own HB.out.size hg5))
            have HO := Lib.hid ho5
            clear ho5 hg5
            refine ⟨trivial, ?_⟩
            go_frame
            refine wh_all2 7 11 (by kernel_rfl) ?_ ?_
            · have hc6 : 64 ≤ c5 ∧ c5 ≤ maxLen := by
                obtain ⟨A', c', e', h1, h2⟩ := HO.out.form
                injection e' with _ _ e3
                subst e3
                exact ⟨h1, h2⟩
              have HCG := Lib.hid (fget_any w5 _ 64 c5 A5 (p ++ p) HO.out.byts (Nat.le_refl _) hc6.1 hc6.2)
              rw [mM.out, mB.out] at HCG
              unfold tupV mkV at HCG
              dsimp only at HCG
              clear hc6
              refine wo_call 56 7 #[.slice A5 64 c5] rfl rfl rfl ?_ ?_
              · go_simp
              refine HCG.out.mono ?_
              rintro e w7 ⟨rfl, hb7⟩
              have HB := Lib.hid (HB.out.trans (hb7.mono HB.out.size))
              clear hb7 HCG HO
              refine ⟨_, rfl, trivial, ?_⟩
              go_frame
              refine wh_take 8 48 (.tuple #[.agg #[.int .i64 m0, .int .i64 m1, .int .i64 m2, .int .i64 m3], .bool true]) rfl rfl (by kernel_rfl) (fun _ _ _ h => h) rfl HTR.out (fun w' hw' => ?_) ?_
              · exact rfl
              go_frame
              refine wh_take 9 57 (.agg #[.int .i64 m0, .int .i64 m1, .int .i64 m2, .int .i64 m3]) rfl rfl (by kernel_rfl) (fun _ _ _ h => h) rfl HTR.out (fun w' hw' => ?_) ?_
              · go_simp
              go_frame
              refine wh_take 10 58 (.bool true) rfl rfl (by kernel_rfl) (fun _ _ _ h => h) rfl HTR.out (fun w' hw' => ?_) ?_
              · go_simp
              go_frame
              refine wh_all1 11 (by kernel_rfl) ?_
              refine wo_run 11 (.pointer (some ⟨w7.heap.size, 0, none⟩)) (w7.alloc (.cells #[.int .i64 0, .int .i64 0, .int .i64 0, .int .i64 0] 26)) rfl rfl rfl ?_ ⟨trivial, ?_⟩
              · go_simp
              go_frame
              have HZ : Hid ((w7.alloc (.cells #[.int .i64 0, .int .i64 0, .int .i64 0, .int .i64 0] 26)).heap[w7.heap.size]? = some (.cells (mkC 0 0 0 0) 26 (0, 0))) := Lib.hid (heap_alloc_new w7 _)
              have HZL : Hid (U.heap.size ≤ w7.heap.size) := Lib.hid HB.out.size
              have HB := Lib.hid (HB.out.alloc HB.out.size (.cells #[.int .i64 0, .int .i64 0, .int .i64 0, .int .i64 0] 26))
              generalize w7.alloc (.cells #[.int .i64 0, .int .i64 0, .int .i64 0, .int .i64 0] 26) = ua at *
              generalize w7.heap.size = bz at *
              obtain ⟨z0, z1, z2, z3⟩ := four_of HZ.out
              have q0 := free_at HZ.out 0
              have q1 := free_at HZ.out 1
              have q2 := free_at HZ.out 2
              have q3 := free_at HZ.out 3
              refine wh_store 12 ((((ua.setCell ⟨bz, 0, none⟩ (.int .i64 m0)).setCell ⟨bz, 1, none⟩ (.int .i64 m1)).setCell ⟨bz, 2, none⟩ (.int .i64 m2)).setCell ⟨bz, 3, none⟩ (.int .i64 m3)) rfl rfl (by kernel_rfl) rfl ?_ trivial ?_
              · go_simp
              clear z0 z1 z2 z3 q0 q1 q2 q3
              refine wh_take 13 12 (.bool true) rfl rfl (by kernel_rfl) (fun _ _ _ h => h) rfl HTR.out (fun w' hw' => ?_) ?_
              · exact rfl
              go_frame
              refine wpAnyH_done (by kernel_rfl) ?_ _
              go_wp2_with fail
              go_meet
              exact ⟨bz, rfl, rfl, four_of (four_set HZ.out m0 m1 m2 m3), four_below HB.out HZL.out m0 m1 m2 m3⟩
            · refine wo_run 11 (.pointer (some ⟨w5.heap.size, 0, none⟩)) (w5.alloc (.cells #[.int .i64 0, .int .i64 0, .int .i64 0, .int .i64 0] 26)) rfl rfl rfl ?_ ⟨trivial, ?_⟩
              · go_simp
              go_frame
              have HZ : Hid ((w5.alloc (.cells #[.int .i64 0, .int .i64 0, .int .i64 0, .int .i64 0] 26)).heap[w5.heap.size]? = some (.cells (mkC 0 0 0 0) 26 (0, 0))) := Lib.hid (heap_alloc_new w5 _)
              have HZL : Hid (U.heap.size ≤ w5.heap.size) := Lib.hid HB.out.size
              have HB := Lib.hid (HB.out.alloc HB.out.size (.cells #[.int .i64 0, .int .i64 0, .int .i64 0, .int .i64 0] 26))
              have HO := Lib.hid (HO.out.alloc (.cells #[.int .i64 0, .int .i64 0, .int .i64 0, .int .i64 0] 26))
              generalize w5.alloc (.cells #[.int .i64 0, .int .i64 0, .int .i64 0, .int .i64 0] 26) = ua at *
              generalize w5.heap.size = bz at *
              refine wh_all1 7 (by kernel_rfl) ?_
              have hc6 : 64 ≤ c5 ∧ c5 ≤ maxLen := by
                obtain ⟨A', c', e', h1, h2⟩ := HO.out.form
                injection e' with _ _ e3
                subst e3
                exact ⟨h1, h2⟩
              have HCG := Lib.hid (fget_any ua _ 64 c5 A5 (p ++ p) HO.out.byts (Nat.le_refl _) hc6.1 hc6.2)
              rw [mM.out, mB.out] at HCG
              unfold tupV mkV at HCG
              dsimp only at HCG
              clear hc6
              refine wo_call 56 7 #[.slice A5 64 c5] rfl rfl rfl ?_ ?_
              · go_simp
              refine HCG.out.mono ?_
              rintro e w7 ⟨rfl, hb7⟩
              have HZ := Lib.hid ((hb7.block bz (lt_of_heap HZ.out)).trans HZ.out)
              have HB := Lib.hid (HB.out.trans (hb7.mono HB.out.size))
              clear hb7 HCG HO
              refine ⟨_, rfl, trivial, ?_⟩
              go_frame
              refine wh_take 8 48 (.tuple #[.agg #[.int .i64 m0, .int .i64 m1, .int .i64 m2, .int .i64 m3], .bool true]) rfl rfl (by kernel_rfl) (fun _ _ _ h => h) rfl HTR.out (fun w' hw' => ?_) ?_
              · exact rfl
              go_frame
              refine wh_take 9 57 (.agg #[.int .i64 m0, .int .i64 m1, .int .i64 m2, .int .i64 m3]) rfl rfl (by kernel_rfl) (fun _ _ _ h => h) rfl HTR.out (fun w' hw' => ?_) ?_
              · go_simp
              go_frame
              refine wh_take 10 58 (.bool true) rfl rfl (by kernel_rfl) (fun _ _ _ h => h) rfl HTR.out (fun w' hw' => ?_) ?_
              · go_simp
              go_frame
              obtain ⟨z0, z1, z2, z3⟩ := four_of HZ.out
              have q0 := free_at HZ.out 0
              have q1 := free_at HZ.out 1
              have q2 := free_at HZ.out 2
              have q3 := free_at HZ.out 3
              refine wh_store 12 ((((w7.setCell ⟨bz, 0, none⟩ (.int .i64 m0)).setCell ⟨bz, 1, none⟩ (.int .i64 m1)).setCell ⟨bz, 2, none⟩ (.int .i64 m2)).setCell ⟨bz, 3, none⟩ (.int .i64 m3)) rfl rfl (by kernel_rfl) rfl ?_ trivial ?_
              · go_simp
              clear z0 z1 z2 z3 q0 q1 q2 q3
              refine wh_take 13 12 (.bool true) rfl rfl (by kernel_rfl) (fun _ _ _ h => h) rfl HTR.out (fun w' hw' => ?_) ?_
              · exact rfl
              go_frame
              refine wpAnyH_done (by kernel_rfl) ?_ _
              go_wp2_with fail
              go_meet
              exact ⟨bz, rfl, rfl, four_of (four_set HZ.out m0 m1 m2 m3), four_below HB.out HZL.out m0 m1 m2 m3⟩
          · refine wo_run 11 (.pointer (some ⟨w5.heap.size, 0, none⟩)) (w5.alloc (.cells #[.int .i64 0, .int .i64 0, .int .i64 0, .int .i64 0] 26)) rfl rfl rfl ?_ ⟨trivial, ?_⟩
            · go_simp
            go_frame
            have HZ : Hid ((w5.alloc (.cells #[.int .i64 0, .int .i64 0, .int .i64 0, .int .i64 0] 26)).heap[w5.heap.size]? = some (.cells (mkC 0 0 0 0) 26 (0, 0))) := Lib.hid (heap_alloc_new w5 _)
            have HZL : Hid (U.heap.size ≤ w5.heap.size) := Lib.hid HB.out.size
            have HB := Lib.hid (HB.out.alloc HB.out.size (.cells #[.int .i64 0, .int .i64 0, .int .i64 0, .int .i64 0] 26))
            have HO := Lib.hid (HO.out.alloc (.cells #[.int .i64 0, .int .i64 0, .int .i64 0, .int .i64 0] 26))
            generalize w5.alloc (.cells #[.int .i64 0, .int .i64 0, .int .i64 0, .int .i64 0] 26) = ua at *
            generalize w5.heap.size = bz at *
            refine wh_all1 6 (by kernel_rfl) ?_
            refine wo_app 55 rfl rfl rfl (.tmp 52) (.tmp 54) rfl U.heap.size _ (0 + 32) ([] ++ p) rfl HO.out U.heap.size (cutAt A1 32 c1) 32 (c1 - 32) p rfl (HCB.out.below HB.out) (by decide) HB.out.size ?_
            intro A5 c5 w5 ho5 hg5
            have HZ := Lib.hid ((hg5.block bz (lt_of_heap HZ.out) (fun e => HO.out.far HZ.out (by decide) e.symm)).trans HZ.out)
            have HB := Lib.hid (HB.out.trans (HO.out.below_own HB.out.size hg5))
            have HO := Lib.hid ho5
            clear ho5 hg5
            refine ⟨trivial, ?_⟩
            go_frame
            refine wh_all1 7 (by kernel_rfl) ?_
            have hc6 : 64 ≤ c5 ∧ c5 ≤ maxLen := by
              obtain ⟨A', c', e', h1, h2⟩ := HO.out.form
              injection e' with _ _ e3
              subst e3
              exact ⟨h1, h2⟩
            have HCG := Lib.hid (fget_any w5 _ 64 c5 A5 (p ++ p) HO.out.byts (Nat.le_refl _) hc6.1 hc6.2)
            rw [mM.out, mB.out] at HCG
            unfold tupV mkV at HCG
            dsimp only at HCG
            clear hc6
            refine wo_call 56 7 #[.slice A5 64 c5] rfl rfl rfl ?_ ?_
            · go_simp
            refine HCG.out.mono ?_
            rintro e w7 ⟨rfl, hb7⟩
            have HZ := Lib.hid ((hb7.block bz (lt_of_heap HZ.out)).trans HZ.out)
            have HB := Lib.hid (HB.out.trans (hb7.mono HB.out.size))
            clear hb7 HCG HO
            refine ⟨_, rfl, trivial, ?_⟩
            go_frame
            refine wh_take 8 48 (.tuple #[.agg #[.int .i64 m0, .int .i64 m1, .int .i64 m2, .int .i64 m3], .bool true]) rfl rfl (by kernel_rfl) (fun _ _ _ h => h) rfl HTR.out (fun w' hw' => ?_) ?_
            · exact rfl
            go_frame
            refine wh_take 9 57 (.agg #[.int .i64 m0, .int .i64 m1, .int .i64 m2, .int .i64 m3]) rfl rfl (by kernel_rfl) (fun _ _ _ h => h) rfl HTR.out (fun w' hw' => ?_) ?_
            · go_simp
            go_frame
            refine wh_take 10 58 (.bool true) rfl rfl (by kernel_rfl) (fun _ _ _ h => h) rfl HTR.out (fun w' hw' => ?_) ?_
            · go_simp
            go_frame
            obtain ⟨z0, z1, z2, z3⟩ := four_of HZ.out
            have q0 := free_at HZ.out 0
            have q1 := free_at HZ.out 1
            have q2 := free_at HZ.out 2
            have q3 := free_at HZ.out 3
            refine wh_store 12 ((((w7.setCell ⟨bz, 0, none⟩ (.int .i64 m0)).setCell ⟨bz, 1, none⟩ (.int .i64 m1)).setCell ⟨bz, 2, none⟩ (.int .i64 m2)).setCell ⟨bz, 3, none⟩ (.int .i64 m3)) rfl rfl (by kernel_rfl) rfl ?_ trivial ?_
            · go_simp
            clear z0 z1 z2 z3 q0 q1 q2 q3
            refine wh_take 13 12 (.bool true) rfl rfl (by kernel_rfl) (fun _ _ _ h => h) rfl HTR.out (fun w' hw' => ?_) ?_
            · exact rfl
            go_frame
            refine wpAnyH_done (by kernel_rfl) ?_ _
            go_wp2_with fail
            go_meet
            exact ⟨bz, rfl, rfl, four_of (four_set HZ.out m0 m1 m2 m3), four_below HB.out HZL.out m0 m1 m2 m3⟩
        · refine wo_run 11 (.pointer (some ⟨ub.heap.size, 0, none⟩)) (ub.alloc (.cells #[.int .i64 0, .int .i64 0, .int .i64 0, .int .i64 0] 26)) rfl rfl rfl ?_ ⟨trivial, ?_⟩
          · go_simp
          go_frame
          have HZ : Hid ((ub.alloc (.cells #[.int .i64 0, .int .i64 0, .int .i64 0, .int .i64 0] 26)).heap[ub.heap.size]? = some (.cells (mkC 0 0 0 0) 26 (0, 0))) := Lib.hid (heap_alloc_new ub _)
          have HZL : Hid (U.heap.size ≤ ub.heap.size) := Lib.hid HB.out.size
          have HB := Lib.hid (HB.out.alloc HB.out.size (.cells #[.int .i64 0, .int .i64 0, .int .i64 0, .int .i64 0] 26))
          have HO := Lib.hid (HO.out.alloc (.cells #[.int .i64 0, .int .i64 0, .int .i64 0, .int .i64 0] 26))
          generalize ub.alloc (.cells #[.int .i64 0, .int .i64 0, .int .i64 0, .int .i64 0] 26) = ua at *
          generalize ub.heap.size = bz at *
          refine wh_all1 3 (by kernel_rfl) ?_
          refine wo_app 52 rfl rfl rfl (.tmp 49) (.tmp 51) rfl U.heap.size _ 0 [] rfl HO.out U.heap.size A2 32 c2 p rfl (HCA.out.below HB.out) (by decide) HB.out.size ?_
          intro A5 c5 w5 ho5 hg5
          have HZ := Lib.hid ((hg5.block bz (lt_of_heap HZ.out) (fun e => HO.out.far HZ.out (by decide) e.symm)).trans HZ.out)
          have HB := Lib.hid (HB.out.trans (HO.out.below_own HB.out.size hg5))
          have HO := Lib.hid ho5
          clear ho5 hg5
          refine ⟨trivial, ?_⟩
          go_frame
          refine wh_all1 6 (by kernel_rfl) ?_
          refine wo_app 55 rfl rfl rfl (.tmp 52) (.tmp 54) rfl U.heap.size _ (0 + 32) ([] ++ p) rfl HO.out U.heap.size (cutAt A1 32 c1) 32 (c1 - 32) p rfl (HCB.out.below HB.out) (by decide) HB.out.size ?_
          intro A5 c5 w5 ho5 hg5
          have HZ := Lib.hid ((hg5.block bz (lt_of_heap HZ.out) (fun e => HO.out.far HZ.out (by decide) e.symm)).trans HZ.out)
          have HB := Lib.hid (HB.out.trans (HO.out.below_own HB.out.size hg5))
          have HO := Lib.hid ho5
          clear ho5 hg5
          refine ⟨trivial, ?_⟩
          go_frame
          refine wh_all1 7 (by kernel_rfl) ?_
          have hc6 : 64 ≤ c5 ∧ c5 ≤ maxLen := by
            obtain ⟨A', c', e', h1, h2⟩ := HO.out.form
            injection e' with _ _ e3
            subst e3
            exact ⟨h1, h2⟩
          have HCG := Lib.hid (fget_any w5 _ 64 c5 A5 (p ++ p) HO.out.byts (Nat.le_refl _) hc6.1 hc6.2)
          rw [mM.out, mB.out] at HCG
          unfold tupV mkV at HCG
          dsimp only at HCG
          clear hc6
          refine wo_call 56 7 #[.slice A5 64 c5] rfl rfl rfl ?_ ?_
          · go_simp
          refine HCG.out.mono ?_
          rintro e w7 ⟨rfl, hb7⟩
          have HZ := Lib.hid ((hb7.block bz (lt_of_heap HZ.out)).trans HZ.out)
          have HB := Lib.hid (HB.out.trans (hb7.mono HB.out.size))
          clear hb7 HCG HO
          refine ⟨_, rfl, trivial, ?_⟩
          go_frame
          refine wh_take 8 48 (.tuple #[.agg #[.int .i64 m0, .int .i64 m1, .int .i64 m2, .int .i64 m3], .bool true]) rfl rfl (by kernel_rfl) (fun _ _ _ h => h) rfl HTR.out (fun w' hw' => ?_) ?_
          · exact rfl
          go_frame
          refine wh_take 9 57 (.agg #[.int .i64 m0, .int .i64 m1, .int .i64 m2, .int .i64 m3]) rfl rfl (by kernel_rfl) (fun _ _ _ h => h) rfl HTR.out (fun w' hw' => ?_) ?_
          · go_simp
          go_frame
          refine wh_take 10 58 (.bool true) rfl rfl (by kernel_rfl) (fun _ _ _ h => h) rfl HTR.out (fun w' hw' => ?_) ?_
          · go_simp
          go_frame
          obtain ⟨z0, z1, z2, z3⟩ := four_of HZ.out
          have q0 := free_at HZ.out 0
          have q1 := free_at HZ.out 1
          have q2 := free_at HZ.out 2
          have q3 := free_at HZ.out 3
          refine wh_store 12 ((((w7.setCell ⟨bz, 0, none⟩ (.int .i64 m0)).setCell ⟨bz, 1, none⟩ (.int .i64 m1)).setCell ⟨bz, 2, none⟩ (.int .i64 m2)).setCell ⟨bz, 3, none⟩ (.int .i64 m3)) rfl rfl (by kernel_rfl) rfl ?_ trivial ?_
          · go_simp
          clear z0 z1 z2 z3 q0 q1 q2 q3
          refine wh_take 13 12 (.bool true) rfl rfl (by kernel_rfl) (fun _ _ _ h => h) rfl HTR.out (fun w' hw' => ?_) ?_
          · exact rfl
          go_frame
          refine wpAnyH_done (by kernel_rfl) ?_ _
          go_wp2_with fail
          go_meet
          exact ⟨bz, rfl, rfl, four_of (four_set HZ.out m0 m1 m2 m3), four_below HB.out HZL.out m0 m1 m2 m3⟩
      · refine wo_run 11 (.pointer (some ⟨u0.heap.size, 0, none⟩)) (u0.alloc (.cells #[.int .i64 0, .int .i64 0, .int .i64 0, .int .i64 0] 26)) rfl rfl rfl ?_ ⟨trivial, ?_⟩
        · go_simp
        go_frame
        have HZ : Hid ((u0.alloc (.cells #[.int .i64 0, .int .i64 0, .int .i64 0, .int .i64 0] 26)).heap[u0.heap.size]? = some (.cells (mkC 0 0 0 0) 26 (0, 0))) := Lib.hid (heap_alloc_new u0 _)
        have HZL : Hid (U.heap.size ≤ u0.heap.size) := Lib.hid HB.out.size
        have HB := Lib.hid (HB.out.alloc HB.out.size (.cells #[.int .i64 0, .int .i64 0, .int .i64 0, .int .i64 0] 26))
        generalize u0.alloc (.cells #[.int .i64 0, .int .i64 0, .int .i64 0, .int .i64 0] 26) = ua at *
        generalize u0.heap.size = bz at *
        refine wh_all1 0 (by kernel_rfl) ?_
        refine wo_run 49 (.slice (some ⟨ua.heap.size, 0, none⟩) 0 0) (ua.alloc (.cells #[] 5)) rfl rfl rfl ?_ ⟨trivial, ?_⟩
        · go_simp
        go_frame
        have HO := Lib.hid (own_at ua U.heap.size HB.out.size)
        have HZ := Lib.hid ((Below.heap_alloc ua (.cells #[] 5) _ (lt_of_heap HZ.out)).trans HZ.out)
        have HB := Lib.hid (HB.out.alloc HB.out.size (.cells #[] 5))
        generalize ua.alloc (.cells #[] 5) = ub at *
        refine wh_all1 3 (by kernel_rfl) ?_
        refine wo_app 52 rfl rfl rfl (.tmp 49) (.tmp 51) rfl U.heap.size _ 0 [] rfl HO.out U.heap.size A2 32 c2 p rfl (HCA.out.below HB.out) (by decide) HB.out.size ?_
        intro A5 c5 w5 ho5 hg5
        have HZ := Lib.hid ((hg5.block bz (lt_of_heap HZ.out) (fun e => HO.out.far HZ.out (by decide) e.symm)).trans HZ.out)
        have HB := Lib.hid (HB.out.trans (HO.out.below_own HB.out.size hg5))
        have HO := Lib.hid ho5
        clear ho5 hg5
        refine ⟨trivial, ?_⟩
        go_frame
        refine wh_all1 6 (by kernel_rfl) ?_
        refine wo_app 55 rfl rfl rfl (.tmp 52) (.tmp 54) rfl U.heap.size _ (0 + 32) ([] ++ p) rfl HO.out U.heap.size (cutAt A1 32 c1) 32 (c1 - 32) p rfl (HCB.out.below HB.out) (by decide) HB.out.size ?_
        intro A5 c5 w5 ho5 hg5
        have HZ := Lib.hid ((hg5.block bz (lt_of_heap HZ.out) (fun e => HO.out.far HZ.out (by decide) e.symm)).trans HZ.out)
        have HB := Lib.hid (HB.out.trans (HO.out.below_own HB.out.size hg5))
        have HO := Lib.hid ho5
        clear ho5 hg5
        refine ⟨trivial, ?_⟩
        go_frame
        refine wh_all1 7 (by kernel_rfl) ?_
        have hc6 : 64 ≤ c5 ∧ c5 ≤ maxLen := by
          obtain ⟨A', c', e', h1, h2⟩ := HO.out.form
          injection e' with _ _ e3
          subst e3
          exact ⟨h1, h2⟩
        have HCG := Lib.hid (fget_any w5 _ 64 c5 A5 (p ++ p) HO.out.byts (Nat.le_refl _) hc6.1 hc6.2)
        rw [mM.out, mB.out] at HCG
        unfold tupV mkV at HCG
        dsimp only at HCG
        clear hc6
        refine wo_call 56 7 #[.slice A5 64 c5] rfl rfl rfl ?_ ?_
        · go_simp
        refine HCG.out.mono ?_
        rintro e w7 ⟨rfl, hb7⟩
        have HZ := Lib.hid ((hb7.block bz (lt_of_heap HZ.out)).trans HZ.out)
        have HB := Lib.hid (HB.out.trans (hb7.mono HB.out.size))
        clear hb7 HCG HO
        refine ⟨_, rfl, trivial, ?_⟩
        go_frame
        refine wh_take 8 48 (.tuple #[.agg #[.int .i64 m0, .int .i64 m1, .int .i64 m2, .int .i64 m3], .bool true]) rfl rfl (by kernel_rfl) (fun _ _ _ h => h) rfl HTR.out (fun w' hw' => ?_) ?_
        · exact rfl
        go_frame
        refine wh_take 9 57 (.agg #[.int .i64 m0, .int .i64 m1, .int .i64 m2, .int .i64 m3]) rfl rfl (by kernel_rfl) (fun _ _ _ h => h) rfl HTR.out (fun w' hw' => ?_) ?_
        · go_simp
        go_frame
        refine wh_take 10 58 (.bool true) rfl rfl (by kernel_rfl) (fun _ _ _ h => h) rfl HTR.out (fun w' hw' => ?_) ?_
        · go_simp
        go_frame
        obtain ⟨z0, z1, z2, z3⟩ := four_of HZ.out
        have q0 := free_at HZ.out 0
        have q1 := free_at HZ.out 1
        have q2 := free_at HZ.out 2
        have q3 := free_at HZ.out 3
        refine wh_store 12 ((((w7.setCell ⟨bz, 0, none⟩ (.int .i64 m0)).setCell ⟨bz, 1, none⟩ (.int .i64 m1)).setCell ⟨bz, 2, none⟩ (.int .i64 m2)).setCell ⟨bz, 3, none⟩ (.int .i64 m3)) rfl rfl (by kernel_rfl) rfl ?_ trivial ?_
        · go_simp
        clear z0 z1 z2 z3 q0 q1 q2 q3
        refine wh_take 13 12 (.bool true) rfl rfl (by kernel_rfl) (fun _ _ _ h => h) rfl HTR.out (fun w' hw' => ?_) ?_
        · exact rfl
        go_frame
        refine wpAnyH_done (by kernel_rfl) ?_ _
        go_wp2_with fail
        go_meet
        exact ⟨bz, rfl, rfl, four_of (four_set HZ.out m0 m1 m2 m3), four_below HB.out HZL.out m0 m1 m2 m3⟩
    case rest =>
      obtain ⟨b11, rfl, rfl, hn, hbn⟩ := hcut
      have HB7' := Lib.hid (HB6'.out.trans (hbn.mono HB6'.out.size))
      obtain ⟨⟨k0, k1, k2, k3⟩, ⟨p0, p1, p2, p3⟩⟩ := HT6.out.keep hbn
      obtain ⟨e0, e1, e2, e3⟩ := HN9.out.keep hbn HN9.out.lt
      obtain ⟨d0, d1, d2, d3⟩ := hn
      dsimp only at k0 k1 k2 k3 p0 p1 p2 p3 e0 e1 e2 e3 d0 d1 d2 d3
      clear HX6 HY6 HT6 HN9 hbn HB6'
      go_wp2_with fail
      refine (knows_any _).mono ?_
      rintro e w8 ⟨rfl, hb8⟩
      go_wp2_with fail
      go_ret
      exact ⟨rfl, HB7'.out.trans (hb8.mono HB7'.out.size)⟩
end Go.Proofs.Ytpbojepliddflaa.Frm
