/-
  The walk of the statement on marks: true, for every mark and every slice of bytes. Conditions: the slice reads as bytes.
-/
import Derived.Test.YtpbojepliddflaaFKnows
namespace Go.Proofs.Ytpbojepliddflaa.Frm
open Go.RowKit Codec FrameM Cod
set_option maxRecDepth 100000
theorem Four.keep {w w' : World} {B b : Nat} {x0 x1 x2 x3 : Int} (h : Four b x0 x1 x2 x3 w) (hb : Below B w w') (hl : b < B) : Four b x0 x1 x2 x3 w' :=
  ⟨(hb.cell (p := ⟨b, 0, none⟩) hl).trans h.1, (hb.cell (p := ⟨b, 1, none⟩) hl).trans h.2.1, (hb.cell (p := ⟨b, 2, none⟩) hl).trans h.2.2.1, (hb.cell (p := ⟨b, 3, none⟩) hl).trans h.2.2.2⟩
theorem Four.lt {w : World} {b : Nat} {x0 x1 x2 x3 : Int} (h : Four b x0 x1 x2 x3 w) : b < w.heap.size := by
  have h0 := h.1
  rcases Nat.lt_or_ge b w.heap.size with h' | h'
  · exact h'
  · simp [World.cell?, Array.getElem?_eq_none h'] at h0
theorem Four.new (w : World) (T : TypeId) (x0 x1 x2 x3 : Int) : Four w.heap.size x0 x1 x2 x3 (w.alloc (.cells #[.int .i64 x0, .int .i64 x1, .int .i64 x2, .int .i64 x3] T)) := four_of (heap_alloc_new w _)
/-- Three marks in memory. -/
structure Three (b b5 b7 : Nat) (m g : Mk) (w : World) : Prop where
  a : Four b m.kind m.gen m.seq m.n w
  b : Four b5 g.kind g.gen g.seq g.n w
  c : Four b7 g.kind g.gen g.seq g.n w
theorem Three.keep {w w' : World} {b b5 b7 : Nat} {m g : Mk} (h : Three b b5 b7 m g w) (hb : Below w.heap.size w w') : Three b b5 b7 m g w' := ⟨h.a.keep hb h.a.lt, h.b.keep hb h.b.lt, h.c.keep hb h.c.lt⟩
theorem Three.drew {w : World} {b b5 b7 : Nat} {m g : Mk} (h : Three b b5 b7 m g w) : Three b b5 b7 m g w.drew := ⟨four_drew h.a, four_drew h.b, four_drew h.c⟩
set_option maxHeartbeats 4000000 in
theorem marks_any (w : World) (m : Mk) (n c : Nat) (A : Option Addr) (xs : List UInt8) (h : Byts w w.heap.size A n xs) (hc : n ≤ c) (hcm : c ≤ maxLen) : Calls Try.prog 3 #[mkV m, .slice A n c] w (EndsBelow (.bool true) w) := by
  have hm2 : n ≤ 9223372036854775807 := by unfold maxLen at hcm; omega
  by_cases hn : 200 < n
  · obtain ⟨k, g, s, t⟩ := m
    unfold mkV
    dsimp only
    clear h
    go_enter Try.func3, Try.ntmps3
    go_wp2_with fail
    refine (knows_any _).mono ?_
    rintro e w1 ⟨rfl, hb1⟩
    go_wp2_with fail
    go_ret
    exact ⟨rfl, (alloc_below w _).trans (hb1.mono (by simp))⟩
  · have hn1 : n ≤ 200 := by omega
    have HX := Lib.hid h
    have HC1 := Lib.hid (fget_any (w.alloc (.cells #[.int .i64 m.kind, .int .i64 m.gen, .int .i64 m.seq, .int .i64 m.n] 23)) w.heap.size n c A xs (h.alloc (Nat.le_refl _) _) (by simp) hc hcm)
    have HC2 := Lib.hid (fun u (hb : Below w.heap.size w u) => rget_any u w.heap.size n c A xs (h.below hb) hb.size hc hcm)
    have HP := Lib.hid (fun u => put_any m u)
    have HRP := Lib.hid (fun u => rput_any m u)
    have HF0 := Lib.hid (Four.new w 23 m.kind m.gen m.seq m.n)
    clear h hn
    generalize getM xs = gm at *
    generalize getB xs = gb at *
    generalize put m = ys at *
    unfold tupV mkV at HC1 HC2
    unfold mkV at HP HRP ⊢
    obtain ⟨m0, m1, m2, m3⟩ := m
    obtain ⟨g0, g1, g2, g3⟩ := gm
    dsimp only at *
    go_enter Try.func3, Try.ntmps3
    go_wp2_with fail
    refine HC1.out.mono ?_
    rintro e w1 ⟨rfl, hb1⟩
    have HB1 := Lib.hid (((alloc_below w _).trans (hb1.mono (by simp))))
    have HF1 := Lib.hid (HF0.out.keep hb1 (by simp))
    have hz1 := HB1.out.size
    have hlt1 : w.heap.size < w1.heap.size := HF1.out.lt
    clear HC1 hb1
    go_wp2_with fail
    refine (HC2.out _ (HB1.out.alloc hz1 _)).mono ?_
    rintro e w2 ⟨rfl, hb2⟩
    have hl2 : w1.heap.size < w2.heap.size := by have := hb2.size; simp at this; omega
    have HB2 := Lib.hid ((HB1.out.alloc hz1 _).trans (hb2.mono (by simp; omega)))
    have HT : Hid (Three w.heap.size w1.heap.size w2.heap.size ⟨m0, m1, m2, m3⟩ ⟨g0, g1, g2, g3⟩ (w2.alloc (.cells #[.int .i64 g0, .int .i64 g1, .int .i64 g2, .int .i64 g3] 23))) :=
      Lib.hid ⟨(((HF1.out.keep (alloc_below w1 _) hlt1).keep hb2 (by simp; omega)).keep (alloc_below w2 _) (by omega)), ((Four.new w1 26 g0 g1 g2 g3).keep hb2 (by simp)).keep (alloc_below w2 _) hl2, Four.new w2 23 g0 g1 g2 g3⟩
    have HB3 := Lib.hid (HB2.out.alloc HB2.out.size (.cells #[.int .i64 g0, .int .i64 g1, .int .i64 g2, .int .i64 g3] 23))
    clear HC2 hb2 HF1 HF0
    go_upto_region 5 with fail
    generalize w2.alloc (.cells #[.int .i64 g0, .int .i64 g1, .int .i64 g2, .int .i64 g3] 23) = W at *
    have HS := Lib.hid HT.out.drew
    refine wh_start (Three w.heap.size w1.heap.size w2.heap.size ⟨m0, m1, m2, m3⟩ ⟨g0, g1, g2, g3⟩) (by kernel_rfl) ?_
    refine wh_take 0 23 (.agg #[.int .i64 m0, .int .i64 m1, .int .i64 m2, .int .i64 m3]) rfl rfl (by kernel_rfl) (fun _ _ _ h => h) rfl HS.out (fun w' hw' => ?_) ?_
    · obtain ⟨⟨h0, h1, h2, h3⟩, ⟨p0, p1, p2, p3⟩, ⟨q0, q1, q2, q3⟩⟩ := hw'
      dsimp only at h0 h1 h2 h3 p0 p1 p2 p3 q0 q1 q2 q3
      go_simp
    go_frame
    refine wh_take 3 26 (.agg #[.int .i64 m0, .int .i64 m1, .int .i64 m2, .int .i64 m3]) rfl rfl (by kernel_rfl) (fun _ _ _ h => h) rfl HS.out (fun w' hw' => ?_) ?_
    · obtain ⟨⟨h0, h1, h2, h3⟩, ⟨p0, p1, p2, p3⟩, ⟨q0, q1, q2, q3⟩⟩ := hw'
      dsimp only at h0 h1 h2 h3 p0 p1 p2 p3 q0 q1 q2 q3
      go_simp
    go_frame
    refine wh_call 1 24 9 #[.agg #[.int .i64 m0, .int .i64 m1, .int .i64 m2, .int .i64 m3]] rfl rfl (by kernel_rfl) rfl ?_ ?_
    · go_simp
    refine (HP.out _).mono ?_
    rintro e w3 ⟨A1, c1, rfl, hy1, hb3, _, _⟩
    have HS1 : Hid (Three w.heap.size w1.heap.size w2.heap.size ⟨m0, m1, m2, m3⟩ ⟨g0, g1, g2, g3⟩ w3 ∧ Cv A1 ys.length c1 ys w3) := Lib.hid ⟨HS.out.keep hb3, run_string_of w3 _ _ c1 A1 _ hy1⟩
    have HY1 := Lib.hid hy1
    have HBW := Lib.hid (HB3.out.drew.trans (hb3.mono HB3.out.size))
    clear hy1 hb3
    refine ⟨_, rfl, HS1.out.1, ?_⟩
    go_frame
    refine wh_more (S' := fun w' => Three w.heap.size w1.heap.size w2.heap.size ⟨m0, m1, m2, m3⟩ ⟨g0, g1, g2, g3⟩ w' ∧ Cv A1 ys.length c1 ys w') (fun _ h => h.1) _ _ _ _ ?_
    refine wh_take 2 25 (.string ⟨ys.toArray⟩) rfl rfl (by kernel_rfl) (fun _ _ _ h => h) rfl HS1.out (fun w' hw' => ?_) ?_
    · obtain ⟨_, h5⟩ := hw'
      unfold Cv at h5
      go_simp
    go_frame
    refine wh_call 4 27 10 #[.agg #[.int .i64 m0, .int .i64 m1, .int .i64 m2, .int .i64 m3]] rfl rfl (by kernel_rfl) rfl ?_ ?_
    · go_simp
    refine (HRP.out _).mono ?_
    rintro e w4 ⟨A2, c2, rfl, hy2, hb4, _, _⟩
    have HS2 : Hid ((Three w.heap.size w1.heap.size w2.heap.size ⟨m0, m1, m2, m3⟩ ⟨g0, g1, g2, g3⟩ w4 ∧ Cv A1 ys.length c1 ys w4) ∧ Cv A2 ys.length c2 ys w4) := Lib.hid ⟨⟨HS1.out.1.keep hb4, run_string_of w4 _ _ c1 A1 _ (HY1.out.below hb4)⟩, run_string_of w4 _ _ c2 A2 _ hy2⟩
    have HY1' := Lib.hid ((HY1.out.below hb4).more hb4.size)
    have HY2 := Lib.hid hy2
    have HBW4 := Lib.hid (HBW.out.trans (hb4.mono HBW.out.size))
    clear hy2 hb4
    refine ⟨_, rfl, HS2.out.1, ?_⟩
    go_frame
    refine wh_more (S' := fun w' => (Three w.heap.size w1.heap.size w2.heap.size ⟨m0, m1, m2, m3⟩ ⟨g0, g1, g2, g3⟩ w' ∧ Cv A1 ys.length c1 ys w') ∧ Cv A2 ys.length c2 ys w') (fun _ h => h.1) _ _ _ _ ?_
    refine wh_take 5 28 (.string ⟨ys.toArray⟩) rfl rfl (by kernel_rfl) (fun _ _ _ h => h) rfl HS2.out (fun w' hw' => ?_) ?_
    · obtain ⟨_, h5⟩ := hw'
      unfold Cv at h5
      go_simp
    go_frame
    refine wh_take 6 29 (.bool true) rfl rfl (by kernel_rfl) (fun _ _ _ h => h) rfl HS2.out (fun w' hw' => ?_) ?_
    · go_simp
    go_frame
    refine wh_take 7 30 (.bool true) rfl rfl (by kernel_rfl) (fun _ _ _ h => h) rfl HS2.out (fun w' hw' => ?_) ?_
    · exact rfl
    go_frame
    refine wh_take 8 31 (.agg #[.int .i64 g0, .int .i64 g1, .int .i64 g2, .int .i64 g3]) rfl rfl (by kernel_rfl) (fun _ _ _ h => h) rfl HS2.out (fun w' hw' => ?_) ?_
    · obtain ⟨⟨h0, h1, h2, h3⟩, ⟨p0, p1, p2, p3⟩, ⟨q0, q1, q2, q3⟩⟩ := hw'.1.1
      dsimp only at h0 h1 h2 h3 p0 p1 p2 p3 q0 q1 q2 q3
      go_simp
    go_frame
    refine wh_take 9 32 (.agg #[.int .i64 g0, .int .i64 g1, .int .i64 g2, .int .i64 g3]) rfl rfl (by kernel_rfl) (fun _ _ _ h => h) rfl HS2.out (fun w' hw' => ?_) ?_
    · obtain ⟨⟨h0, h1, h2, h3⟩, ⟨p0, p1, p2, p3⟩, ⟨q0, q1, q2, q3⟩⟩ := hw'.1.1
      dsimp only at h0 h1 h2 h3 p0 p1 p2 p3 q0 q1 q2 q3
      go_simp
    go_frame
    refine wh_take 10 33 (.bool true) rfl rfl (by kernel_rfl) (fun _ _ _ h => h) rfl HS2.out (fun w' hw' => ?_) ?_
    · go_simp
    go_frame
    refine wh_take 11 34 (.bool true) rfl rfl (by kernel_rfl) (fun _ _ _ h => h) rfl HS2.out (fun w' hw' => ?_) ?_
    · go_simp
    go_frame
    refine wh_take 12 35 (.bool true) rfl rfl (by kernel_rfl) (fun _ _ _ h => h) rfl HS2.out (fun w' hw' => ?_) ?_
    · exact rfl
    go_frame
    refine wh_take 13 36 (.bool gb) rfl rfl (by kernel_rfl) (fun _ _ _ h => h) rfl HS2.out (fun w' hw' => ?_) ?_
    · exact rfl
    go_frame
    refine wh_take 14 37 (.bool gb) rfl rfl (by kernel_rfl) (fun _ _ _ h => h) rfl HS2.out (fun w' hw' => ?_) ?_
    · exact rfl
    go_frame
    refine wh_take 15 38 (.bool true) rfl rfl (by kernel_rfl) (fun _ _ _ h => h) rfl HS2.out (fun w' hw' => ?_) ?_
    · go_simp
    go_frame
    refine wh_take 16 39 (.bool true) rfl rfl (by kernel_rfl) (fun _ _ _ h => h) rfl HS2.out (fun w' hw' => ?_) ?_
    · go_simp
    go_frame
    refine wh_take 17 40 (.bool true) rfl rfl (by kernel_rfl) (fun _ _ _ h => h) rfl HS2.out (fun w' hw' => ?_) ?_
    · exact rfl
    go_frame
    refine wh_call 18 41 6 #[] rfl rfl (by kernel_rfl) rfl ?_ ?_
    · go_simp
    refine (knows_any _).mono ?_
    rintro e w5 ⟨rfl, hb5⟩
    have HS5 : Hid ((Three w.heap.size w1.heap.size w2.heap.size ⟨m0, m1, m2, m3⟩ ⟨g0, g1, g2, g3⟩ w5 ∧ Cv A1 ys.length c1 ys w5) ∧ Cv A2 ys.length c2 ys w5) := Lib.hid ⟨⟨HS2.out.1.1.keep hb5, run_string_of w5 _ _ c1 A1 _ (HY1'.out.below hb5)⟩, run_string_of w5 _ _ c2 A2 _ (HY2.out.below hb5)⟩
    have HB5 := Lib.hid (HBW4.out.trans (hb5.mono HBW4.out.size))
    clear hb5
    refine ⟨_, rfl, HS5.out, ?_⟩
    go_frame
    refine wh_take 19 42 (.bool true) rfl rfl (by kernel_rfl) (fun _ _ _ h => h) rfl HS5.out (fun w' hw' => ?_) ?_
    · go_simp
    go_frame
    refine wh_take 20 4 (.bool true) rfl rfl (by kernel_rfl) (fun _ _ _ h => h) rfl HS5.out (fun w' hw' => ?_) ?_
    · exact rfl
    go_frame
    refine wpAnyH_done (by kernel_rfl) ?_ _
    go_wp2_with fail
    go_ret
    exact ⟨rfl, HB5.out⟩
end Go.Proofs.Ytpbojepliddflaa.Frm
