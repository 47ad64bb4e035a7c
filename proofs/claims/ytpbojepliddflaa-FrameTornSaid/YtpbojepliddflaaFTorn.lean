/-
  The walk of the statement on torn sectors: true, for every two marks. Conditions: their numbers fit 64 bits.
-/
import Derived.Test.YtpbojepliddflaaFMarks
namespace Go.Proofs.Ytpbojepliddflaa.Frm
open Go.RowKit Codec FrameM Cod
set_option maxRecDepth 100000
/-- Two marks in memory. -/
structure Two (b b' : Nat) (m o : Mk) (w : World) : Prop where
  a : Four b m.kind m.gen m.seq m.n w
  b : Four b' o.kind o.gen o.seq o.n w
theorem Two.keep {w w' : World} {b b' : Nat} {m o : Mk} (h : Two b b' m o w) (hb : Below w.heap.size w w') : Two b b' m o w' := ⟨h.a.keep hb h.a.lt, h.b.keep hb h.b.lt⟩
theorem Two.drew {w : World} {b b' : Nat} {m o : Mk} (h : Two b b' m o w) : Two b b' m o w.drew := ⟨four_drew h.a, four_drew h.b⟩
theorem Two.new (w : World) (m o : Mk) : Two w.heap.size (w.heap.size + 1) m o ((w.alloc (.cells #[.int .i64 m.kind, .int .i64 m.gen, .int .i64 m.seq, .int .i64 m.n] 23)).alloc (.cells #[.int .i64 o.kind, .int .i64 o.gen, .int .i64 o.seq, .int .i64 o.n] 23)) :=
  ⟨(Four.new w 23 m.kind m.gen m.seq m.n).keep (alloc_below _ _) (by simp), by
    have := Four.new (w.alloc (.cells #[.int .i64 m.kind, .int .i64 m.gen, .int .i64 m.seq, .int .i64 m.n] 23)) 23 o.kind o.gen o.seq o.n
    rwa [World.size_alloc] at this⟩
theorem two_below (w : World) (a b : Obj) : Below w.heap.size w ((w.alloc a).alloc b) := (alloc_below w a).alloc (by simp) b
set_option maxHeartbeats 4000000 in
theorem torn_first (w : World) (m o : Mk) (nb : Bool) (hm : m.right = false) : Calls Try.prog 5 #[mkV m, mkV o, .bool nb] w (EndsBelow (.bool true) w) := by
  have HXE := Lib.hid (put_wrong hm)
  have HRT := Lib.hid (fun u => rright_any m u)
  rw [hm] at HRT
  clear hm
  unfold mkV at HRT
  have HW := Lib.hid (Two.new w m o)
  have HB := Lib.hid (two_below w (.cells #[.int .i64 m.kind, .int .i64 m.gen, .int .i64 m.seq, .int .i64 m.n] 23) (.cells #[.int .i64 o.kind, .int .i64 o.gen, .int .i64 o.seq, .int .i64 o.n] 23))
  have HP := Lib.hid (fun u => put_any m u)
  have HQ := Lib.hid (fun u => put_any o u)
  generalize put m = xs at *
  generalize put o = ys at *
  unfold mkV at HP HQ ⊢
  obtain ⟨m0, m1, m2, m3⟩ := m
  obtain ⟨o0, o1, o2, o3⟩ := o
  dsimp only at *
  go_enter Try.func5, Try.ntmps5
  go_upto_region 1 with fail
  generalize (w.alloc (.cells #[.int .i64 m0, .int .i64 m1, .int .i64 m2, .int .i64 m3] 23)).alloc (.cells #[.int .i64 o0, .int .i64 o1, .int .i64 o2, .int .i64 o3] 23) = W at *
  have HS := Lib.hid HW.out.drew
  refine wh_start (Two w.heap.size (w.heap.size + 1) ⟨m0, m1, m2, m3⟩ ⟨o0, o1, o2, o3⟩) (by kernel_rfl) ?_
  refine wh_take 0 14 (.agg #[.int .i64 m0, .int .i64 m1, .int .i64 m2, .int .i64 m3]) rfl rfl (by kernel_rfl) (fun _ _ _ h => h) rfl HS.out (fun w' hw' => ?_) ?_
  · obtain ⟨⟨h0, h1, h2, h3⟩, ⟨p0, p1, p2, p3⟩⟩ := hw'
    dsimp only at h0 h1 h2 h3 p0 p1 p2 p3
    go_simp
  go_frame
  refine wh_take 2 16 (.agg #[.int .i64 o0, .int .i64 o1, .int .i64 o2, .int .i64 o3]) rfl rfl (by kernel_rfl) (fun _ _ _ h => h) rfl HS.out (fun w' hw' => ?_) ?_
  · obtain ⟨⟨h0, h1, h2, h3⟩, ⟨p0, p1, p2, p3⟩⟩ := hw'
    dsimp only at h0 h1 h2 h3 p0 p1 p2 p3
    go_simp
  go_frame
  refine wh_call 1 15 9 #[.agg #[.int .i64 m0, .int .i64 m1, .int .i64 m2, .int .i64 m3]] rfl rfl (by kernel_rfl) rfl ?_ ?_
  · go_simp
  refine (HP.out _).mono ?_
  rintro e w3 ⟨A1, c1, rfl, hy1, hb3, hc1, hm1⟩
  have HS1 := Lib.hid (HS.out.keep hb3)
  have HY1 := Lib.hid hy1
  have HB3 := Lib.hid (HB.out.drew.trans (hb3.mono HB.out.size))
  clear hy1 hb3 HW HB HS
  refine ⟨_, rfl, HS1.out, ?_⟩
  go_frame
  refine wh_call 3 17 9 #[.agg #[.int .i64 o0, .int .i64 o1, .int .i64 o2, .int .i64 o3]] rfl rfl (by kernel_rfl) rfl ?_ ?_
  · go_simp
  refine (HQ.out _).mono ?_
  rintro e w4 ⟨A2, c2, rfl, hy2, hb4, hc2, hm2⟩
  have HT := Lib.hid (HS1.out.keep hb4)
  have HX := Lib.hid ((HY1.out.below hb4).more hb4.size)
  have HY := Lib.hid hy2
  have HB4 := Lib.hid (HB3.out.trans (hb4.mono HB3.out.size))
  clear hy2 hb4 HS1 HY1 HB3 HP HQ
  refine ⟨_, rfl, HT.out, ?_⟩
  go_frame
  refine wh_take 4 7 (.slice A1 xs.length c1) rfl rfl (by kernel_rfl) (fun _ _ _ h => h) rfl HT.out (fun w' hw' => ?_) ?_
  · exact rfl
  go_frame
  refine wh_take 5 8 (.slice A2 ys.length c2) rfl rfl (by kernel_rfl) (fun _ _ _ h => h) rfl HT.out (fun w' hw' => ?_) ?_
  · exact rfl
  go_frame
  refine wpAnyH_done (by kernel_rfl) ?_ _
  rw [show xs = [] from HXE.out] at hc1 ⊢
  obtain ⟨k0, k1, k2, k3⟩ := HT.out.a
  dsimp only at k0 k1 k2 k3
  have HMK := Lib.hid (fun v => run_make_bytes v 64 (by omega))
  have hmk : ∀ v : World, (Instr.makeSlice 24 (.int .i64 64) (.int .i64 64)).run Try.prog v = .ok (.slice (some ⟨v.heap.size, 0, none⟩) 64 64) (v.alloc (.cells (cel (zeros 64)).toArray 5)) := fun v => HMK.out v
  clear HX HY hc1 hm1 hc2 hm2 HXE
  have hlt := HT.out.a.lt
  cases nb
  all_goals
    go_wp2_with fail
    refine (HRT.out _).mono ?_
    rintro e w5 ⟨rfl, hb5⟩
    go_wp2_with fail
    refine (knows_any _).mono ?_
    rintro e w6 ⟨rfl, hb6⟩
    go_wp2_with fail
    go_ret
    first
      | exact ⟨rfl, HB4.out.trans ((hb5.trans (hb6.mono hb5.size)).mono HB4.out.size)⟩
      | exact ⟨rfl, (HB4.out.alloc HB4.out.size _).trans ((hb5.trans (hb6.mono hb5.size)).mono (by have := HB4.out.size; simp; omega))⟩
set_option maxHeartbeats 4000000 in
theorem torn_second (w : World) (m o : Mk) (hm : m.right = true) (ho : o.right = false) : Calls Try.prog 5 #[mkV m, mkV o, .bool false] w (EndsBelow (.bool true) w) := by
  have HXL := Lib.hid (put_length hm)
  have HYE := Lib.hid (put_wrong ho)
  have HRT := Lib.hid (fun u => rright_any m u)
  rw [hm] at HRT
  clear hm ho
  unfold mkV at HRT
  have HW := Lib.hid (Two.new w m o)
  have HB := Lib.hid (two_below w (.cells #[.int .i64 m.kind, .int .i64 m.gen, .int .i64 m.seq, .int .i64 m.n] 23) (.cells #[.int .i64 o.kind, .int .i64 o.gen, .int .i64 o.seq, .int .i64 o.n] 23))
  have HP := Lib.hid (fun u => put_any m u)
  have HQ := Lib.hid (fun u => put_any o u)
  generalize put m = xs at *
  generalize put o = ys at *
  unfold mkV at HP HQ ⊢
  obtain ⟨m0, m1, m2, m3⟩ := m
  obtain ⟨o0, o1, o2, o3⟩ := o
  dsimp only at *
  go_enter Try.func5, Try.ntmps5
  go_upto_region 1 with fail
  generalize (w.alloc (.cells #[.int .i64 m0, .int .i64 m1, .int .i64 m2, .int .i64 m3] 23)).alloc (.cells #[.int .i64 o0, .int .i64 o1, .int .i64 o2, .int .i64 o3] 23) = W at *
  have HS := Lib.hid HW.out.drew
  refine wh_start (Two w.heap.size (w.heap.size + 1) ⟨m0, m1, m2, m3⟩ ⟨o0, o1, o2, o3⟩) (by kernel_rfl) ?_
  refine wh_take 0 14 (.agg #[.int .i64 m0, .int .i64 m1, .int .i64 m2, .int .i64 m3]) rfl rfl (by kernel_rfl) (fun _ _ _ h => h) rfl HS.out (fun w' hw' => ?_) ?_
  · obtain ⟨⟨h0, h1, h2, h3⟩, ⟨p0, p1, p2, p3⟩⟩ := hw'
    dsimp only at h0 h1 h2 h3 p0 p1 p2 p3
    go_simp
  go_frame
  refine wh_take 2 16 (.agg #[.int .i64 o0, .int .i64 o1, .int .i64 o2, .int .i64 o3]) rfl rfl (by kernel_rfl) (fun _ _ _ h => h) rfl HS.out (fun w' hw' => ?_) ?_
  · obtain ⟨⟨h0, h1, h2, h3⟩, ⟨p0, p1, p2, p3⟩⟩ := hw'
    dsimp only at h0 h1 h2 h3 p0 p1 p2 p3
    go_simp
  go_frame
  refine wh_call 1 15 9 #[.agg #[.int .i64 m0, .int .i64 m1, .int .i64 m2, .int .i64 m3]] rfl rfl (by kernel_rfl) rfl ?_ ?_
  · go_simp
  refine (HP.out _).mono ?_
  rintro e w3 ⟨A1, c1, rfl, hy1, hb3, hc1, hm1⟩
  have HS1 := Lib.hid (HS.out.keep hb3)
  have HY1 := Lib.hid hy1
  have HB3 := Lib.hid (HB.out.drew.trans (hb3.mono HB.out.size))
  clear hy1 hb3 HW HB HS
  refine ⟨_, rfl, HS1.out, ?_⟩
  go_frame
  refine wh_call 3 17 9 #[.agg #[.int .i64 o0, .int .i64 o1, .int .i64 o2, .int .i64 o3]] rfl rfl (by kernel_rfl) rfl ?_ ?_
  · go_simp
  refine (HQ.out _).mono ?_
  rintro e w4 ⟨A2, c2, rfl, hy2, hb4, hc2, hm2⟩
  have HT := Lib.hid (HS1.out.keep hb4)
  have HX := Lib.hid ((HY1.out.below hb4).more hb4.size)
  have HY := Lib.hid hy2
  have HB4 := Lib.hid (HB3.out.trans (hb4.mono HB3.out.size))
  clear hy2 hb4 HS1 HY1 HB3 HP HQ
  refine ⟨_, rfl, HT.out, ?_⟩
  go_frame
  refine wh_take 4 7 (.slice A1 xs.length c1) rfl rfl (by kernel_rfl) (fun _ _ _ h => h) rfl HT.out (fun w' hw' => ?_) ?_
  · exact rfl
  go_frame
  refine wh_take 5 8 (.slice A2 ys.length c2) rfl rfl (by kernel_rfl) (fun _ _ _ h => h) rfl HT.out (fun w' hw' => ?_) ?_
  · exact rfl
  go_frame
  refine wpAnyH_done (by kernel_rfl) ?_ _
  rw [show ys = [] from HYE.out] at hc2 ⊢
  rw [HXL.out]
  obtain ⟨k0, k1, k2, k3⟩ := HT.out.a
  dsimp only at k0 k1 k2 k3
  clear HX HY hc1 hm1 hc2 hm2 HYE HXL
  go_wp2_with fail
  refine (HRT.out _).mono ?_
  rintro e w5 ⟨rfl, hb5⟩
  go_wp2_with fail
  refine (knows_any _).mono ?_
  rintro e w6 ⟨rfl, hb6⟩
  go_wp2_with fail
  go_ret
  exact ⟨rfl, HB4.out.trans ((hb5.trans (hb6.mono hb5.size)).mono HB4.out.size)⟩
end Go.Proofs.Ytpbojepliddflaa.Frm
