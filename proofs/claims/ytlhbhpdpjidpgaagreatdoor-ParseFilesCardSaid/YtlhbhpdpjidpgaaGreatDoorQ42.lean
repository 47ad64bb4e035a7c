/-
  The document's Same, of two files that are the same. Conditions: both lie in memory.
-/
import Derived.Test.YtlhbhpdpjidpgaaGreatDoorQ07
import Derived.Test.YtlhbhpdpjidpgaaGreatDoorQ41
namespace Go.Proofs.YtlhbhpdpjidpgaaGreatDoor.Prs
open Go.RowKit Tre
open Lex (Wd wdC wdV bs str Turn)
set_option maxRecDepth 100000
set_option linter.unusedSimpArgs false
theorem texts_same : ∀ {a b : List ByteArray}, a.map (·.data.toList) = b.map (·.data.toList) → a = b
  | [], [], _ => rfl
  | [], _ :: _, h => by simp at h
  | _ :: _, [], h => by simp at h
  | x :: r, y :: t, h => by
    simp only [List.map_cons, List.cons.injEq] at h
    rw [bytes_same h.1, texts_same h.2]
theorem pars_same : ∀ {a b : List Par}, a.map coreP = b.map coreP → a = b
  | [], [], _ => rfl
  | [], _ :: _, h => by simp at h
  | _ :: _, [], h => by simp at h
  | x :: r, y :: t, h => by
    simp only [List.map_cons, List.cons.injEq] at h
    obtain ⟨h1, h2⟩ := h
    unfold coreP at h1
    injection h1 with q1 q2
    obtain ⟨xs, xt⟩ := x
    obtain ⟨ys, yt⟩ := y
    dsimp only at q1 q2
    rw [bytes_same q1, q2, pars_same h2]
theorem txC_at {e : ByteArray} {w : World} {b o : Nat} (h : ∀ (r : Nat) (u : Value), (txC e)[r]? = some u → w.cell? ⟨b, o + r, none⟩ = some u) : w.cell? ⟨b, o, none⟩ = some (.string e) := h 0 _ rfl
theorem par_same (a : ByteArray) (s : Int) (w : World) : (binOp .neq 67 (.agg #[.string a, .int .u8 s]) (.agg #[.string a, .int .u8 s])).run Tryz.prog w = .ok (.bool false) w := by
  rw [par_neq]
  simp
theorem fn_set {w : World} {b : Nat} {a0 a1 a2 a3 v0 v1 v2 v3 : Value} {T : TypeId} (h : w.heap[b]? = some (.cells #[a0, a1, a2, a3] T (0, 0))) : ((((w.setCell ⟨b, 0, none⟩ v0).setCell ⟨b, 1, none⟩ v1).setCell ⟨b, 2, none⟩ v2).setCell ⟨b, 3, none⟩ v3).heap[b]? = some (.cells #[v0, v1, v2, v3] T (0, 0)) := set_at (set_at (set_at (set_at h 0 v0) 1 v1) 2 v2) 3 v3
theorem fn_turn (w : World) (b : Nat) (v0 v1 v2 v3 : Value) : Turn [b] w ((((w.setCell ⟨b, 0, none⟩ v0).setCell ⟨b, 1, none⟩ v1).setCell ⟨b, 2, none⟩ v2).setCell ⟨b, 3, none⟩ v3) := ((((Turn.refl [b] w).setCell (.inl (by simp)) v0).setCell (.inl (by simp)) v1).setCell (.inl (by simp)) v2).setCell (.inl (by simp)) v3
set_option maxHeartbeats 16000000 in
theorem same_fl (a b : Fl) (w : World) (h : coreL a = coreL b) (ha : FlIn w a) (hb : FlIn w b) : Calls Tryz.prog 9 #[flV a, flV b] w (EndsB (.bool true) w) := by
  unfold coreL at h
  injection h with h1 h2 h3
  obtain ⟨ra, rfa, fia, la, lfa, -, -⟩ := ha
  obtain ⟨rb, rfb, fib, -, -, -, -⟩ := hb
  obtain ⟨S, ia, ic, is, fa, fc, fs⟩ := a
  obtain ⟨S', ia', ic', is', fa', fc', fs'⟩ := b
  dsimp only at h1 h2 h3 ra rfa fia la lfa rb rfb fib
  obtain rfl := bytes_same h1
  obtain rfl := texts_same h2
  have HRA := Lib.hid ra
  have HRB := Lib.hid rb
  have HFA := Lib.hid rfa
  have HFB := Lib.hid rfb
  have HIA := Lib.hid fia
  have HIB := Lib.hid fib
  have HXY := Lib.hid h3
  unfold most at la lfa
  unfold flV
  dsimp only
  have hl : fs'.length = fs.length := by have := congrArg List.length h3; simpa using this.symm
  rw [hl]
  obtain ⟨n, hn⟩ : ∃ n, is.length = n := ⟨_, rfl⟩
  obtain ⟨m, hm⟩ : ∃ m, fs.length = m := ⟨_, rfl⟩
  rw [hn] at la
  rw [hm] at lfa
  rw [hn, hm]
  have HN := Lib.hid hn
  have HM := Lib.hid hm
  have HMY : Hid (fs'.length = m) := Lib.hid (hl.trans hm)
  clear ra rfa fia rb rfb fib h1 h2 h3 hl hn hm
  have HB2 := Lib.hid (Tre.two_new w #[.string S, .slice ia n ic, .slice fa m fc] #[.string S, .slice ia' n ic', .slice fa' m fc'] 26)
  have HN1 : Hid (((w.alloc (.cells #[.string S, .slice ia n ic, .slice fa m fc] 26)).alloc (.cells #[.string S, .slice ia' n ic', .slice fa' m fc'] 26)).heap[w.heap.size]? = some (.cells #[.string S, .slice ia n ic, .slice fa m fc] 26 (0, 0))) := Lib.hid (((ball_new _ _ _).block _ (by simp)).trans (new_at w _ _))
  have HN2 : Hid (((w.alloc (.cells #[.string S, .slice ia n ic, .slice fa m fc] 26)).alloc (.cells #[.string S, .slice ia' n ic', .slice fa' m fc'] 26)).heap[w.heap.size + 1]? = some (.cells #[.string S, .slice ia' n ic', .slice fa' m fc'] 26 (0, 0))) := Lib.hid (by have := new_at (w.alloc (.cells #[.string S, .slice ia n ic, .slice fa m fc] 26)) #[.string S, .slice ia' n ic', .slice fa' m fc'] 26; simpa using this)
  obtain ⟨W, hW⟩ : ∃ W, (w.alloc (.cells #[.string S, .slice ia n ic, .slice fa m fc] 26)).alloc (.cells #[.string S, .slice ia' n ic', .slice fa' m fc'] 26) = W := ⟨_, rfl⟩
  rw [hW] at HB2 HN1 HN2
  have y0 := cell_at HN1.out 0
  have y1 := cell_at HN1.out 1
  have y2 := cell_at HN1.out 2
  have z0 := cell_at HN2.out 0
  have z1 := cell_at HN2.out 1
  have z2 := cell_at HN2.out 2
  simp only [List.getElem?_toArray, List.getElem?_cons_succ, List.getElem?_cons_zero] at y0 y1 y2 z0 z1 z2
  go_enter Tryz.func9, Tryz.ntmps9
  go_wp2_with fail
  clear y0 y1 y2 z0 z1 z2 hW
  go_loopw [5] (fun iv wr => ∃ j : Nat, j ≤ n ∧ iv = .int .i64 j ∧ Hid (Below W.heap.size W wr)) (fun iv _ => n - (intOf iv).toNat)
  case atStart => exact ⟨0, Nat.zero_le _, rfl, Lib.hid (Below.refl _ _)⟩
  case round =>
    obtain ⟨j, hj, rfl, HB⟩ := hrel
    have a1 : wr.cell? ⟨w.heap.size, 1, none⟩ = some (.slice ia n ic) := cell_at ((HB.out.block _ (lt_of_heap HN1.out)).trans HN1.out) 1
    by_cases hlt : j < n
    · obtain ⟨xe, hx⟩ : ∃ e, is[j]? = some e := ⟨_, List.getElem?_eq_getElem (by rw [HN.out]; exact hlt)⟩
      obtain ⟨b1, o1, rfl, -⟩ := HRA.out.at_ (Below.refl _ _) hx
      obtain ⟨b2, o2, rfl, -⟩ := HRB.out.at_ (Below.refl _ _) hx
      have HX := Lib.hid hx
      have HF : Hid (∀ u : World, Below wr.heap.size wr u → u.cell? ⟨w.heap.size, 1, none⟩ = some (.slice (some ⟨b1, o1, none⟩) n ic) ∧ u.cell? ⟨w.heap.size + 1, 1, none⟩ = some (.slice (some ⟨b2, o2, none⟩) n ic')) := Lib.hid (fun u hu => by
        have hb := HB.out.trans (hu.mono HB.out.size)
        exact ⟨cell_at ((hb.block _ (lt_of_heap HN1.out)).trans HN1.out) 1, cell_at ((hb.block _ (lt_of_heap HN2.out)).trans HN2.out) 1⟩)
      have HFX : Hid (∀ u : World, Below wr.heap.size wr u → u.cell? ⟨b1, o1 + j, none⟩ = some (.string xe)) := Lib.hid (fun u hu => by
        obtain ⟨b', o', e, hc⟩ := HRA.out.at_ (HB2.out.trans ((HB.out.trans (hu.mono HB.out.size)).mono HB2.out.size)) HX.out
        injection e with e
        injection e with e1 e2
        subst e1 e2
        exact txC_at (by simpa only [Nat.mul_one] using hc))
      have HFY : Hid (∀ u : World, Below wr.heap.size wr u → u.cell? ⟨b2, o2 + j, none⟩ = some (.string xe)) := Lib.hid (fun u hu => by
        obtain ⟨b', o', e, hc⟩ := HRB.out.at_ (HB2.out.trans ((HB.out.trans (hu.mono HB.out.size)).mono HB2.out.size)) HX.out
        injection e with e
        injection e with e1 e2
        subst e1 e2
        exact txC_at (by simpa only [Nat.mul_one] using hc))
      clear hx HX
      go_wp2_with fail
      clear a1
      have HS0 : Hid (Below wr.heap.size wr wr.drew) := Lib.hid ((Below.refl _ _).drew)
      refine Lex.AtS.start (by kernel_rfl) 10 (fun u => Below wr.heap.size wr u) (by kernel_rfl) (by kernel_rfl) ?_
      generalize wr.drew = u0 at *
      refine Lex.at_take 0 40 (.pointer (some ⟨w.heap.size, 1, none⟩)) rfl rfl (by kernel_rfl) (by decide) (by decide) (fun _ _ _ h => h) (by kernel_rfl) HS0.out (fun w' hw' => ?_) ?_
      · go_simp
      go_frame
      refine Lex.at_take 1 41 (.slice (some ⟨b1, o1, none⟩) n ic) rfl rfl (by kernel_rfl) (by decide) (by decide) (fun _ _ _ h => h) (by kernel_rfl) HS0.out (fun w' hw' => ?_) ?_
      · obtain ⟨x0, x1⟩ := HF.out w' hw'
        go_simp
      go_frame
      refine Lex.at_take 2 42 (.int .i64 j) rfl rfl (by kernel_rfl) (by decide) (by decide) (fun _ _ _ h => h) (by kernel_rfl) HS0.out (fun w' hw' => ?_) ?_
      · go_simp
      go_frame
      refine Lex.at_take 3 43 (.pointer (some ⟨b1, o1 + j, none⟩)) rfl rfl (by kernel_rfl) (by decide) (by decide) (fun _ _ _ h => h) (by kernel_rfl) HS0.out (fun w' hw' => ?_) ?_
      · go_simp
      go_frame
      refine Lex.at_take 4 44 (.string xe) rfl rfl (by kernel_rfl) (by decide) (by decide) (fun _ _ _ h => h) (by kernel_rfl) HS0.out (fun w' hw' => ?_) ?_
      · have := HFX.out w' hw'
        go_simp
      go_frame
      refine Lex.at_take 5 45 (.pointer (some ⟨w.heap.size + 1, 1, none⟩)) rfl rfl (by kernel_rfl) (by decide) (by decide) (fun _ _ _ h => h) (by kernel_rfl) HS0.out (fun w' hw' => ?_) ?_
      · go_simp
      go_frame
      refine Lex.at_take 6 46 (.slice (some ⟨b2, o2, none⟩) n ic') rfl rfl (by kernel_rfl) (by decide) (by decide) (fun _ _ _ h => h) (by kernel_rfl) HS0.out (fun w' hw' => ?_) ?_
      · obtain ⟨x0, x1⟩ := HF.out w' hw'
        go_simp
      go_frame
      refine Lex.at_take 7 47 (.int .i64 j) rfl rfl (by kernel_rfl) (by decide) (by decide) (fun _ _ _ h => h) (by kernel_rfl) HS0.out (fun w' hw' => ?_) ?_
      · go_simp
      go_frame
      refine Lex.at_take 8 48 (.pointer (some ⟨b2, o2 + j, none⟩)) rfl rfl (by kernel_rfl) (by decide) (by decide) (fun _ _ _ h => h) (by kernel_rfl) HS0.out (fun w' hw' => ?_) ?_
      · go_simp
      go_frame
      refine Lex.at_take 9 49 (.string xe) rfl rfl (by kernel_rfl) (by decide) (by decide) (fun _ _ _ h => h) (by kernel_rfl) HS0.out (fun w' hw' => ?_) ?_
      · have := HFY.out w' hw'
        go_simp
      go_frame
      refine Lex.AtS.lastv 10 50 (.bool false) u0 rfl rfl (by kernel_rfl) (by kernel_rfl) (by decide) (by kernel_rfl) ?_ ?_
      · go_simp
      go_frame
      clear HF HFX HFY
      go_wp2_with fail
      go_roundw
      case rel => exact ⟨j + 1, by omega, by go_num, Lib.hid (HB.out.trans (HS0.out.mono HB.out.size))⟩
      case measure => simp [intOf]; omega
    · obtain rfl : j = n := by omega
      clear hlt hj
      go_wp2_with fail
      clear a1
      obtain ⟨wo, rfl⟩ : ∃ wo : World, wo = wr := ⟨_, rfl⟩
      have HB0 := HB
      clear HB
      go_loopw [6] (fun iv wr => ∃ j : Nat, j ≤ m ∧ iv = .int .i64 j ∧ Hid (Below W.heap.size W wr)) (fun iv _ => m - (intOf iv).toNat)
      case atStart => exact ⟨0, Nat.zero_le _, rfl, HB0⟩
      case round =>
        clear HB0
        obtain ⟨i, hi, rfl, HB⟩ := hrel
        have a2 : wr.cell? ⟨w.heap.size, 2, none⟩ = some (.slice fa m fc) := cell_at ((HB.out.block _ (lt_of_heap HN1.out)).trans HN1.out) 2
        by_cases hlt : i < m
        · obtain ⟨xf, hx⟩ : ∃ e, fs[i]? = some e := ⟨_, List.getElem?_eq_getElem (by rw [HM.out]; exact hlt)⟩
          obtain ⟨yf, hy⟩ : ∃ e, fs'[i]? = some e := ⟨_, List.getElem?_eq_getElem (by rw [HMY.out]; exact hlt)⟩
          obtain ⟨b1, o1, rfl, -⟩ := HFA.out.at_ (Below.refl _ _) hx
          obtain ⟨b2, o2, rfl, -⟩ := HFB.out.at_ (Below.refl _ _) hy
          have HX := Lib.hid hx
          have HY := Lib.hid hy
          have HWX : Hid (Below w.heap.size w wr) := Lib.hid (HB2.out.trans (HB.out.mono HB2.out.size))
          have HIX := Lib.hid ((HIA.out xf (List.mem_of_getElem? hx)).below HWX.out)
          have HIY := Lib.hid ((HIB.out yf (List.mem_of_getElem? hy)).below HWX.out)
          have hc : coreF xf = coreF yf := by
            have h1 : (fs.map coreF)[i]? = (fs'.map coreF)[i]? := by rw [HXY.out]
            rw [List.getElem?_map, List.getElem?_map, hx, hy] at h1
            simpa using h1
          have HFX : Hid (∀ u : World, Below wr.heap.size wr u → u.cell? ⟨b1, o1 + i * 4, none⟩ = some (.string xf.s) ∧ u.cell? ⟨b1, o1 + i * 4 + 1, none⟩ = some (.slice xf.pa xf.p.length xf.pc) ∧ u.cell? ⟨b1, o1 + i * 4 + 2, none⟩ = some (.int .u8 xf.r) ∧ u.cell? ⟨b1, o1 + i * 4 + 3, none⟩ = some (.slice xf.ba xf.b.length xf.bc)) := Lib.hid (fun u hu => by
            obtain ⟨b', o', e, hc⟩ := HFA.out.at_ (HB2.out.trans ((HB.out.trans (hu.mono HB.out.size)).mono HB2.out.size)) HX.out
            injection e with e
            injection e with e1 e2
            subst e1 e2
            exact fnC_at hc)
          have HFY : Hid (∀ u : World, Below wr.heap.size wr u → u.cell? ⟨b2, o2 + i * 4, none⟩ = some (.string yf.s) ∧ u.cell? ⟨b2, o2 + i * 4 + 1, none⟩ = some (.slice yf.pa yf.p.length yf.pc) ∧ u.cell? ⟨b2, o2 + i * 4 + 2, none⟩ = some (.int .u8 yf.r) ∧ u.cell? ⟨b2, o2 + i * 4 + 3, none⟩ = some (.slice yf.ba yf.b.length yf.bc)) := Lib.hid (fun u hu => by
            obtain ⟨b', o', e, hc⟩ := HFB.out.at_ (HB2.out.trans ((HB.out.trans (hu.mono HB.out.size)).mono HB2.out.size)) HY.out
            injection e with e
            injection e with e1 e2
            subst e1 e2
            exact fnC_at hc)
          have HF : Hid (∀ u : World, Below wr.heap.size wr u → u.cell? ⟨w.heap.size, 2, none⟩ = some (.slice (some ⟨b1, o1, none⟩) m fc) ∧ u.cell? ⟨w.heap.size + 1, 2, none⟩ = some (.slice (some ⟨b2, o2, none⟩) m fc')) := Lib.hid (fun u hu => by
            have hb := HB.out.trans (hu.mono HB.out.size)
            exact ⟨cell_at ((hb.block _ (lt_of_heap HN1.out)).trans HN1.out) 2, cell_at ((hb.block _ (lt_of_heap HN2.out)).trans HN2.out) 2⟩)
          obtain ⟨xs, xp, xpc, xpl, xr, xb, xbc, xbl⟩ := xf
          obtain ⟨ys, yp, ypc, ypl, yr, yb, ybc, ybl⟩ := yf
          unfold coreF at hc
          injection hc with q1 q2 q3 q4
          dsimp only at q1 q2 q3 q4 HFX HFY
          obtain rfl := bytes_same q1
          obtain rfl := pars_same q2
          obtain rfl := q3
          have HQ4 := Lib.hid q4
          have hpl := HIX.out.plen
          unfold most at hpl
          dsimp only at hpl
          obtain ⟨pn, hpn⟩ : ∃ pn, xpl.length = pn := ⟨_, rfl⟩
          rw [hpn] at HFX HFY hpl
          have HPN := Lib.hid hpn
          have HPX := Lib.hid HIX.out.p
          have HPY := Lib.hid HIY.out.p
          dsimp only at HPX HPY
          have CB := Lib.hid (fun (u : World) (hu : Below wr.heap.size wr u) => same_body xbl ybl xb yb xbc ybc u HQ4.out (HIX.out.b.below hu) (HIY.out.b.below hu) (fun s hs => (HIX.out.sts s hs).below hu) (fun s hs => (HIY.out.sts s hs).below hu) HIX.out.blen)
          clear hx hy HX HY HIX HIY q1 q2 q4 HQ4 hpn HWX
          go_wp2_with fail
          clear a2
          have HS0 : Hid (Below wr.heap.size wr wr.drew) := Lib.hid ((Below.refl _ _).drew)
          refine Lex.AtS.start (by kernel_rfl) 13 (fun u => Below wr.heap.size wr u) (by kernel_rfl) (by kernel_rfl) ?_
          generalize wr.drew = u0 at *
          refine Lex.at_take 0 58 (.pointer (some ⟨w.heap.size, 2, none⟩)) rfl rfl (by kernel_rfl) (by decide) (by decide) (fun _ _ _ h => h) (by kernel_rfl) HS0.out (fun w' hw' => ?_) ?_
          · go_simp
          go_frame
          refine Lex.at_take 1 59 (.slice (some ⟨b1, o1, none⟩) m fc) rfl rfl (by kernel_rfl) (by decide) (by decide) (fun _ _ _ h => h) (by kernel_rfl) HS0.out (fun w' hw' => ?_) ?_
          · obtain ⟨x0, x1⟩ := HF.out w' hw'
            go_simp
          go_frame
          refine Lex.at_take 2 60 (.int .i64 i) rfl rfl (by kernel_rfl) (by decide) (by decide) (fun _ _ _ h => h) (by kernel_rfl) HS0.out (fun w' hw' => ?_) ?_
          · go_simp
          go_frame
          refine Lex.at_take 3 61 (.pointer (some ⟨b1, o1 + i * 4, none⟩)) rfl rfl (by kernel_rfl) (by decide) (by decide) (fun _ _ _ h => h) (by kernel_rfl) HS0.out (fun w' hw' => ?_) ?_
          · go_simp
          go_frame
          refine Lex.at_take 4 62 (.agg #[.string xs, .slice xp pn xpc, .int .u8 xr, .slice xb xbl.length xbc]) rfl rfl (by kernel_rfl) (by decide) (by decide) (fun _ _ _ h => h) (by kernel_rfl) HS0.out (fun w' hw' => ?_) ?_
          · obtain ⟨x0, x1, x2, x3⟩ := HFX.out w' hw'
            go_simp
          go_frame
          refine Lex.at_take 5 63 (.pointer (some ⟨w.heap.size + 1, 2, none⟩)) rfl rfl (by kernel_rfl) (by decide) (by decide) (fun _ _ _ h => h) (by kernel_rfl) HS0.out (fun w' hw' => ?_) ?_
          · go_simp
          go_frame
          refine Lex.at_take 6 64 (.slice (some ⟨b2, o2, none⟩) m fc') rfl rfl (by kernel_rfl) (by decide) (by decide) (fun _ _ _ h => h) (by kernel_rfl) HS0.out (fun w' hw' => ?_) ?_
          · obtain ⟨x0, x1⟩ := HF.out w' hw'
            go_simp
          go_frame
          refine Lex.at_take 7 65 (.int .i64 i) rfl rfl (by kernel_rfl) (by decide) (by decide) (fun _ _ _ h => h) (by kernel_rfl) HS0.out (fun w' hw' => ?_) ?_
          · go_simp
          go_frame
          refine Lex.at_take 8 66 (.pointer (some ⟨b2, o2 + i * 4, none⟩)) rfl rfl (by kernel_rfl) (by decide) (by decide) (fun _ _ _ h => h) (by kernel_rfl) HS0.out (fun w' hw' => ?_) ?_
          · go_simp
          go_frame
          refine Lex.at_take 9 67 (.agg #[.string xs, .slice yp pn ypc, .int .u8 xr, .slice yb ybl.length ybc]) rfl rfl (by kernel_rfl) (by decide) (by decide) (fun _ _ _ h => h) (by kernel_rfl) HS0.out (fun w' hw' => ?_) ?_
          · obtain ⟨x0, x1, x2, x3⟩ := HFY.out w' hw'
            go_simp
          go_frame
          have HA1 : Hid (Below wr.heap.size wr (u0.alloc (.cells #[.string ⟨#[]⟩, .slice none 0 0, .int .u8 0, .slice none 0 0] 51))) := Lib.hid (HS0.out.alloc HS0.out.size _)
          have HA2 : Hid (Below wr.heap.size wr ((u0.alloc (.cells #[.string ⟨#[]⟩, .slice none 0 0, .int .u8 0, .slice none 0 0] 51)).alloc (.cells #[.string ⟨#[]⟩, .slice none 0 0, .int .u8 0, .slice none 0 0] 51))) := Lib.hid (HA1.out.alloc (Nat.le_trans HS0.out.size (by simp)) _)
          refine Lex.at_either 10 11 7 8 (v := .pointer (some ⟨u0.heap.size, 0, none⟩)) (v' := .pointer (some ⟨u0.heap.size, 0, none⟩)) (w1 := (u0.alloc (.cells #[.string ⟨#[]⟩, .slice none 0 0, .int .u8 0, .slice none 0 0] 51))) (w2 := (u0.alloc (.cells #[.string ⟨#[]⟩, .slice none 0 0, .int .u8 0, .slice none 0 0] 51))) rfl rfl rfl rfl (by kernel_rfl) (by decide) (by decide) (by kernel_rfl) (by kernel_rfl) ?_ ?_ HA1.out HA1.out ?_ ?_
          · go_simp
          · go_simp
          · go_frame
            refine Lex.at_run 11 8 (.pointer (some ⟨u0.heap.size + 1, 0, none⟩)) ((u0.alloc (.cells #[.string ⟨#[]⟩, .slice none 0 0, .int .u8 0, .slice none 0 0] 51)).alloc (.cells #[.string ⟨#[]⟩, .slice none 0 0, .int .u8 0, .slice none 0 0] 51)) rfl rfl (by kernel_rfl) (by decide) (by kernel_rfl) ?_ HA2.out ?_
            · go_simp
            go_frame
            clear HA1 HA2
            have HW2 : Hid (Below wr.heap.size wr ((u0.alloc (.cells #[.string ⟨#[]⟩, .slice none 0 0, .int .u8 0, .slice none 0 0] 51)).alloc (.cells #[.string ⟨#[]⟩, .slice none 0 0, .int .u8 0, .slice none 0 0] 51))) := Lib.hid ((HS0.out.alloc HS0.out.size _).alloc (Nat.le_trans HS0.out.size (by simp)) _)
            have HD7 : Hid (((u0.alloc (.cells #[.string ⟨#[]⟩, .slice none 0 0, .int .u8 0, .slice none 0 0] 51)).alloc (.cells #[.string ⟨#[]⟩, .slice none 0 0, .int .u8 0, .slice none 0 0] 51)).heap[u0.heap.size]? = some (.cells #[.string ⟨#[]⟩, .slice none 0 0, .int .u8 0, .slice none 0 0] 51 (0, 0))) := Lib.hid (by first | exact ((ball_new _ _ _).block _ (by simp)).trans (new_at u0 _ _) | (have := new_at (u0.alloc (.cells #[.string ⟨#[]⟩, .slice none 0 0, .int .u8 0, .slice none 0 0] 51)) #[.string ⟨#[]⟩, .slice none 0 0, .int .u8 0, .slice none 0 0] 51; simpa using this))
            have HD8 : Hid (((u0.alloc (.cells #[.string ⟨#[]⟩, .slice none 0 0, .int .u8 0, .slice none 0 0] 51)).alloc (.cells #[.string ⟨#[]⟩, .slice none 0 0, .int .u8 0, .slice none 0 0] 51)).heap[u0.heap.size + 1]? = some (.cells #[.string ⟨#[]⟩, .slice none 0 0, .int .u8 0, .slice none 0 0] 51 (0, 0))) := Lib.hid (by first | exact ((ball_new _ _ _).block _ (by simp)).trans (new_at u0 _ _) | (have := new_at (u0.alloc (.cells #[.string ⟨#[]⟩, .slice none 0 0, .int .u8 0, .slice none 0 0] 51)) #[.string ⟨#[]⟩, .slice none 0 0, .int .u8 0, .slice none 0 0] 51; simpa using this))
            have HGE : Hid (wr.heap.size ≤ u0.heap.size) := Lib.hid HS0.out.size
            generalize ((u0.alloc (.cells #[.string ⟨#[]⟩, .slice none 0 0, .int .u8 0, .slice none 0 0] 51)).alloc (.cells #[.string ⟨#[]⟩, .slice none 0 0, .int .u8 0, .slice none 0 0] 51)) = u2 at *
            clear HS0
            obtain ⟨p7, hp7⟩ : ∃ p, p = u0.heap.size := ⟨_, rfl⟩
            obtain ⟨p8, hp8⟩ : ∃ p, p = u0.heap.size + 1 := ⟨_, rfl⟩
            rw [← hp7] at HD7
            rw [← hp8] at HD8
            rw [← hp8, ← hp7]
            have HNE : Hid (p7 ≠ p8) := Lib.hid (by omega)
            have HG7 : Hid (wr.heap.size ≤ p7) := Lib.hid (by have := HGE.out; omega)
            have HG8 : Hid (wr.heap.size ≤ p8) := Lib.hid (by have := HGE.out; omega)
            clear hp7 hp8 HGE
            have c0 := cell_at HD7.out 0
            have c1 := cell_at HD7.out 1
            have c2 := cell_at HD7.out 2
            have c3 := cell_at HD7.out 3
            simp only [List.getElem?_toArray, List.getElem?_cons_succ, List.getElem?_cons_zero] at c0 c1 c2 c3
            have f0 := free_at HD7.out 0
            have f1 := free_at HD7.out 1
            have f2 := free_at HD7.out 2
            have f3 := free_at HD7.out 3
            have T7 := Lib.hid (fn_turn u2 p7 (.string xs) (.slice xp pn xpc) (.int .u8 xr) (.slice xb xbl.length xbc))
            have HE7 := Lib.hid (fn_set (v0 := .string xs) (v1 := .slice xp pn xpc) (v2 := .int .u8 xr) (v3 := .slice xb xbl.length xbc) HD7.out)
            have HW3 : Hid (Below wr.heap.size wr ((((u2.setCell ⟨p7, 0, none⟩ (.string xs)).setCell ⟨p7, 1, none⟩ (.slice xp pn xpc)).setCell ⟨p7, 2, none⟩ (.int .u8 xr)).setCell ⟨p7, 3, none⟩ (.slice xb xbl.length xbc))) := Lib.hid ⟨T7.out.os.trans HW2.out.os, T7.out.tape.trans HW2.out.tape, T7.out.output.trans HW2.out.output, Nat.le_trans HW2.out.size T7.out.size, fun b hb => (T7.out.block b (Nat.lt_of_lt_of_le hb HW2.out.size) (by have := HG7.out; simp; omega)).trans (HW2.out.block b hb)⟩
            refine Lex.AtS.skip 12 ((((u2.setCell ⟨p7, 0, none⟩ (.string xs)).setCell ⟨p7, 1, none⟩ (.slice xp pn xpc)).setCell ⟨p7, 2, none⟩ (.int .u8 xr)).setCell ⟨p7, 3, none⟩ (.slice xb xbl.length xbc)) rfl (by kernel_rfl) (by decide) (by kernel_rfl) ?_ HW3.out ?_
            · go_simp
            go_frame
            have HE8 : Hid (((((u2.setCell ⟨p7, 0, none⟩ (.string xs)).setCell ⟨p7, 1, none⟩ (.slice xp pn xpc)).setCell ⟨p7, 2, none⟩ (.int .u8 xr)).setCell ⟨p7, 3, none⟩ (.slice xb xbl.length xbc)).heap[p8]? = some (.cells #[.string ⟨#[]⟩, .slice none 0 0, .int .u8 0, .slice none 0 0] 51 (0, 0))) := Lib.hid ((T7.out.block _ (lt_of_heap HD8.out) (by have := HNE.out; simp; omega)).trans HD8.out)
            generalize ((((u2.setCell ⟨p7, 0, none⟩ (.string xs)).setCell ⟨p7, 1, none⟩ (.slice xp pn xpc)).setCell ⟨p7, 2, none⟩ (.int .u8 xr)).setCell ⟨p7, 3, none⟩ (.slice xb xbl.length xbc)) = u3 at *
            clear c0 c1 c2 c3 f0 f1 f2 f3 T7 HD7 HD8 HW2
            have c0 := cell_at HE8.out 0
            have c1 := cell_at HE8.out 1
            have c2 := cell_at HE8.out 2
            have c3 := cell_at HE8.out 3
            simp only [List.getElem?_toArray, List.getElem?_cons_succ, List.getElem?_cons_zero] at c0 c1 c2 c3
            have f0 := free_at HE8.out 0
            have f1 := free_at HE8.out 1
            have f2 := free_at HE8.out 2
            have f3 := free_at HE8.out 3
            have T8 := Lib.hid (fn_turn u3 p8 (.string xs) (.slice yp pn ypc) (.int .u8 xr) (.slice yb ybl.length ybc))
            have HG8' := Lib.hid (fn_set (v0 := .string xs) (v1 := .slice yp pn ypc) (v2 := .int .u8 xr) (v3 := .slice yb ybl.length ybc) HE8.out)
            have HG7' : Hid (((((u3.setCell ⟨p8, 0, none⟩ (.string xs)).setCell ⟨p8, 1, none⟩ (.slice yp pn ypc)).setCell ⟨p8, 2, none⟩ (.int .u8 xr)).setCell ⟨p8, 3, none⟩ (.slice yb ybl.length ybc)).heap[p7]? = some (.cells #[.string xs, .slice xp pn xpc, .int .u8 xr, .slice xb xbl.length xbc] 51 (0, 0))) := Lib.hid ((T8.out.block _ (lt_of_heap HE7.out) (by have := HNE.out; simp; omega)).trans HE7.out)
            have HW4 : Hid (Below wr.heap.size wr ((((u3.setCell ⟨p8, 0, none⟩ (.string xs)).setCell ⟨p8, 1, none⟩ (.slice yp pn ypc)).setCell ⟨p8, 2, none⟩ (.int .u8 xr)).setCell ⟨p8, 3, none⟩ (.slice yb ybl.length ybc))) := Lib.hid ⟨T8.out.os.trans HW3.out.os, T8.out.tape.trans HW3.out.tape, T8.out.output.trans HW3.out.output, Nat.le_trans HW3.out.size T8.out.size, fun b hb => (T8.out.block b (Nat.lt_of_lt_of_le hb HW3.out.size) (by have := HG8.out; simp; omega)).trans (HW3.out.block b hb)⟩
            refine Lex.AtS.last (i := 13) (w' := ((((u3.setCell ⟨p8, 0, none⟩ (.string xs)).setCell ⟨p8, 1, none⟩ (.slice yp pn ypc)).setCell ⟨p8, 2, none⟩ (.int .u8 xr)).setCell ⟨p8, 3, none⟩ (.slice yb ybl.length ybc))) rfl (by kernel_rfl) (by kernel_rfl) (by decide) (by kernel_rfl) ?_ ?_
            · go_simp
            go_frame
            clear c0 c1 c2 c3 f0 f1 f2 f3 T8 HE7 HE8 HW3 HNE HG7 HG8 HF HFX HFY
            generalize ((((u3.setCell ⟨p8, 0, none⟩ (.string xs)).setCell ⟨p8, 1, none⟩ (.slice yp pn ypc)).setCell ⟨p8, 2, none⟩ (.int .u8 xr)).setCell ⟨p8, 3, none⟩ (.slice yb ybl.length ybc)) = u4 at *
            have x0 := cell_at HG7'.out 0
            have x1 := cell_at HG7'.out 1
            have x2 := cell_at HG7'.out 2
            have x3 := cell_at HG7'.out 3
            have z0 := cell_at HG8'.out 0
            have z1 := cell_at HG8'.out 1
            have z2 := cell_at HG8'.out 2
            have z3 := cell_at HG8'.out 3
            simp only [List.getElem?_toArray, List.getElem?_cons_succ, List.getElem?_cons_zero] at x0 x1 x2 x3 z0 z1 z2 z3
            have CB1 := Lib.hid (CB.out u4 HW4.out)
            clear CB
            go_wp2_with fail
            refine CB1.out.mono ?_
            rintro e u5 ⟨rfl, hb5⟩
            have HW5 : Hid (Below wr.heap.size wr u5) := Lib.hid (HW4.out.trans (hb5.mono HW4.out.size))
            have HX7 : Hid (u5.heap[p7]? = some (.cells #[.string xs, .slice xp pn xpc, .int .u8 xr, .slice xb xbl.length xbc] 51 (0, 0))) := Lib.hid ((hb5.block _ (lt_of_heap HG7'.out)).trans HG7'.out)
            have HX8 : Hid (u5.heap[p8]? = some (.cells #[.string xs, .slice yp pn ypc, .int .u8 xr, .slice yb ybl.length ybc] 51 (0, 0))) := Lib.hid ((hb5.block _ (lt_of_heap HG8'.out)).trans HG8'.out)
            clear x0 x1 x2 x3 z0 z1 z2 z3 hb5 CB1 HG7' HG8' HW4
            go_wp2_with fail
            obtain ⟨wq, rfl⟩ : ∃ wq : World, wq = wr := ⟨_, rfl⟩
            go_loopw [9] (fun kv wr => ∃ k : Nat, k ≤ pn ∧ kv = .int .i64 k ∧ Hid (Below u5.heap.size u5 wr)) (fun kv _ => pn - (intOf kv).toNat)
            case atStart => exact ⟨0, Nat.zero_le _, rfl, Lib.hid (Below.refl _ _)⟩
            case round =>
              obtain ⟨k, hk, rfl, HK⟩ := hrel
              have d1 : wr.cell? ⟨p7, 1, none⟩ = some (.slice xp pn xpc) := cell_at ((HK.out.block _ (lt_of_heap HX7.out)).trans HX7.out) 1
              by_cases hkl : k < pn
              · obtain ⟨pe, hpe⟩ : ∃ e, xpl[k]? = some e := ⟨_, List.getElem?_eq_getElem (by rw [HPN.out]; exact hkl)⟩
                obtain ⟨b5, o5, rfl, -⟩ := HPX.out.at_ (Below.refl _ _) hpe
                obtain ⟨b6, o6, rfl, -⟩ := HPY.out.at_ (Below.refl _ _) hpe
                have HPE := Lib.hid hpe
                have HG : Hid (∀ u : World, Below wr.heap.size wr u → u.cell? ⟨p7, 1, none⟩ = some (.slice (some ⟨b5, o5, none⟩) pn xpc) ∧ u.cell? ⟨p8, 1, none⟩ = some (.slice (some ⟨b6, o6, none⟩) pn ypc)) := Lib.hid (fun u hu => by
                  have hb := HK.out.trans (hu.mono HK.out.size)
                  exact ⟨cell_at ((hb.block _ (lt_of_heap HX7.out)).trans HX7.out) 1, cell_at ((hb.block _ (lt_of_heap HX8.out)).trans HX8.out) 1⟩)
                have HGX : Hid (∀ u : World, Below wr.heap.size wr u → u.cell? ⟨b5, o5 + k * 2, none⟩ = some (.string pe.s) ∧ u.cell? ⟨b5, o5 + k * 2 + 1, none⟩ = some (.int .u8 pe.t)) := Lib.hid (fun u hu => by
                  obtain ⟨b', o', e, hc⟩ := HPX.out.at_ (HW5.out.trans ((HK.out.trans (hu.mono HK.out.size)).mono HW5.out.size)) HPE.out
                  injection e with e
                  injection e with e1 e2
                  subst e1 e2
                  exact parC_at hc)
                have HGY : Hid (∀ u : World, Below wr.heap.size wr u → u.cell? ⟨b6, o6 + k * 2, none⟩ = some (.string pe.s) ∧ u.cell? ⟨b6, o6 + k * 2 + 1, none⟩ = some (.int .u8 pe.t)) := Lib.hid (fun u hu => by
                  obtain ⟨b', o', e, hc⟩ := HPY.out.at_ (HW5.out.trans ((HK.out.trans (hu.mono HK.out.size)).mono HW5.out.size)) HPE.out
                  injection e with e
                  injection e with e1 e2
                  subst e1 e2
                  exact parC_at hc)
                obtain ⟨ps, pt⟩ := pe
                dsimp only at HGX HGY
                clear hpe HPE
                go_wp2_with fail
                clear d1
                have HS1 : Hid (Below wr.heap.size wr wr.drew) := Lib.hid ((Below.refl _ _).drew)
                refine Lex.AtS.start (by kernel_rfl) 10 (fun u => Below wr.heap.size wr u) (by kernel_rfl) (by kernel_rfl) ?_
                generalize wr.drew = v0 at *
                refine Lex.at_take 0 104 (.pointer (some ⟨p7, 1, none⟩)) rfl rfl (by kernel_rfl) (by decide) (by decide) (fun _ _ _ h => h) (by kernel_rfl) HS1.out (fun w' hw' => ?_) ?_
                · go_simp
                go_frame
                refine Lex.at_take 1 105 (.slice (some ⟨b5, o5, none⟩) pn xpc) rfl rfl (by kernel_rfl) (by decide) (by decide) (fun _ _ _ h => h) (by kernel_rfl) HS1.out (fun w' hw' => ?_) ?_
                · obtain ⟨x0, x1⟩ := HG.out w' hw'
                  go_simp
                go_frame
                refine Lex.at_take 2 106 (.int .i64 k) rfl rfl (by kernel_rfl) (by decide) (by decide) (fun _ _ _ h => h) (by kernel_rfl) HS1.out (fun w' hw' => ?_) ?_
                · go_simp
                go_frame
                refine Lex.at_take 3 107 (.pointer (some ⟨b5, o5 + k * 2, none⟩)) rfl rfl (by kernel_rfl) (by decide) (by decide) (fun _ _ _ h => h) (by kernel_rfl) HS1.out (fun w' hw' => ?_) ?_
                · go_simp
                go_frame
                refine Lex.at_take 4 108 (.agg #[.string ps, .int .u8 pt]) rfl rfl (by kernel_rfl) (by decide) (by decide) (fun _ _ _ h => h) (by kernel_rfl) HS1.out (fun w' hw' => ?_) ?_
                · obtain ⟨x0, x1⟩ := HGX.out w' hw'
                  go_simp
                go_frame
                refine Lex.at_take 5 109 (.pointer (some ⟨p8, 1, none⟩)) rfl rfl (by kernel_rfl) (by decide) (by decide) (fun _ _ _ h => h) (by kernel_rfl) HS1.out (fun w' hw' => ?_) ?_
                · go_simp
                go_frame
                refine Lex.at_take 6 110 (.slice (some ⟨b6, o6, none⟩) pn ypc) rfl rfl (by kernel_rfl) (by decide) (by decide) (fun _ _ _ h => h) (by kernel_rfl) HS1.out (fun w' hw' => ?_) ?_
                · obtain ⟨x0, x1⟩ := HG.out w' hw'
                  go_simp
                go_frame
                refine Lex.at_take 7 111 (.int .i64 k) rfl rfl (by kernel_rfl) (by decide) (by decide) (fun _ _ _ h => h) (by kernel_rfl) HS1.out (fun w' hw' => ?_) ?_
                · go_simp
                go_frame
                refine Lex.at_take 8 112 (.pointer (some ⟨b6, o6 + k * 2, none⟩)) rfl rfl (by kernel_rfl) (by decide) (by decide) (fun _ _ _ h => h) (by kernel_rfl) HS1.out (fun w' hw' => ?_) ?_
                · go_simp
                go_frame
                refine Lex.at_take 9 113 (.agg #[.string ps, .int .u8 pt]) rfl rfl (by kernel_rfl) (by decide) (by decide) (fun _ _ _ h => h) (by kernel_rfl) HS1.out (fun w' hw' => ?_) ?_
                · obtain ⟨x0, x1⟩ := HGY.out w' hw'
                  go_simp
                go_frame
                refine Lex.AtS.lastv 10 114 (.bool false) v0 rfl rfl (by kernel_rfl) (by kernel_rfl) (by decide) (by kernel_rfl) ?_ ?_
                · have hn := par_same ps pt v0
                  go_simp
                go_frame
                clear HG HGX HGY
                go_wp2_with fail
                go_roundw
                case rel => exact ⟨k + 1, by omega, by go_num, Lib.hid (HK.out.trans (HS1.out.mono HK.out.size))⟩
                case measure => simp [intOf]; omega
              · obtain rfl : k = pn := by omega
                have HBN : Hid (Below W.heap.size W wr) := Lib.hid (HB.out.trans ((HW5.out.trans (HK.out.mono HW5.out.size)).mono HB.out.size))
                clear hkl hk
                go_wp2_with fail
                go_roundw
                case rel => exact ⟨i + 1, by omega, by go_num, HBN⟩
                case measure => simp [intOf]; omega

          · go_frame
            refine Lex.at_run 10 7 (.pointer (some ⟨u0.heap.size + 1, 0, none⟩)) ((u0.alloc (.cells #[.string ⟨#[]⟩, .slice none 0 0, .int .u8 0, .slice none 0 0] 51)).alloc (.cells #[.string ⟨#[]⟩, .slice none 0 0, .int .u8 0, .slice none 0 0] 51)) rfl rfl (by kernel_rfl) (by decide) (by kernel_rfl) ?_ HA2.out ?_
            · go_simp
            go_frame
            clear HA1 HA2
            have HW2 : Hid (Below wr.heap.size wr ((u0.alloc (.cells #[.string ⟨#[]⟩, .slice none 0 0, .int .u8 0, .slice none 0 0] 51)).alloc (.cells #[.string ⟨#[]⟩, .slice none 0 0, .int .u8 0, .slice none 0 0] 51))) := Lib.hid ((HS0.out.alloc HS0.out.size _).alloc (Nat.le_trans HS0.out.size (by simp)) _)
            have HD7 : Hid (((u0.alloc (.cells #[.string ⟨#[]⟩, .slice none 0 0, .int .u8 0, .slice none 0 0] 51)).alloc (.cells #[.string ⟨#[]⟩, .slice none 0 0, .int .u8 0, .slice none 0 0] 51)).heap[u0.heap.size + 1]? = some (.cells #[.string ⟨#[]⟩, .slice none 0 0, .int .u8 0, .slice none 0 0] 51 (0, 0))) := Lib.hid (by first | exact ((ball_new _ _ _).block _ (by simp)).trans (new_at u0 _ _) | (have := new_at (u0.alloc (.cells #[.string ⟨#[]⟩, .slice none 0 0, .int .u8 0, .slice none 0 0] 51)) #[.string ⟨#[]⟩, .slice none 0 0, .int .u8 0, .slice none 0 0] 51; simpa using this))
            have HD8 : Hid (((u0.alloc (.cells #[.string ⟨#[]⟩, .slice none 0 0, .int .u8 0, .slice none 0 0] 51)).alloc (.cells #[.string ⟨#[]⟩, .slice none 0 0, .int .u8 0, .slice none 0 0] 51)).heap[u0.heap.size]? = some (.cells #[.string ⟨#[]⟩, .slice none 0 0, .int .u8 0, .slice none 0 0] 51 (0, 0))) := Lib.hid (by first | exact ((ball_new _ _ _).block _ (by simp)).trans (new_at u0 _ _) | (have := new_at (u0.alloc (.cells #[.string ⟨#[]⟩, .slice none 0 0, .int .u8 0, .slice none 0 0] 51)) #[.string ⟨#[]⟩, .slice none 0 0, .int .u8 0, .slice none 0 0] 51; simpa using this))
            have HGE : Hid (wr.heap.size ≤ u0.heap.size) := Lib.hid HS0.out.size
            generalize ((u0.alloc (.cells #[.string ⟨#[]⟩, .slice none 0 0, .int .u8 0, .slice none 0 0] 51)).alloc (.cells #[.string ⟨#[]⟩, .slice none 0 0, .int .u8 0, .slice none 0 0] 51)) = u2 at *
            clear HS0
            obtain ⟨p7, hp7⟩ : ∃ p, p = u0.heap.size + 1 := ⟨_, rfl⟩
            obtain ⟨p8, hp8⟩ : ∃ p, p = u0.heap.size := ⟨_, rfl⟩
            rw [← hp7] at HD7
            rw [← hp8] at HD8
            rw [← hp7, ← hp8]
            have HNE : Hid (p7 ≠ p8) := Lib.hid (by omega)
            have HG7 : Hid (wr.heap.size ≤ p7) := Lib.hid (by have := HGE.out; omega)
            have HG8 : Hid (wr.heap.size ≤ p8) := Lib.hid (by have := HGE.out; omega)
            clear hp7 hp8 HGE
            have c0 := cell_at HD7.out 0
            have c1 := cell_at HD7.out 1
            have c2 := cell_at HD7.out 2
            have c3 := cell_at HD7.out 3
            simp only [List.getElem?_toArray, List.getElem?_cons_succ, List.getElem?_cons_zero] at c0 c1 c2 c3
            have f0 := free_at HD7.out 0
            have f1 := free_at HD7.out 1
            have f2 := free_at HD7.out 2
            have f3 := free_at HD7.out 3
            have T7 := Lib.hid (fn_turn u2 p7 (.string xs) (.slice xp pn xpc) (.int .u8 xr) (.slice xb xbl.length xbc))
            have HE7 := Lib.hid (fn_set (v0 := .string xs) (v1 := .slice xp pn xpc) (v2 := .int .u8 xr) (v3 := .slice xb xbl.length xbc) HD7.out)
            have HW3 : Hid (Below wr.heap.size wr ((((u2.setCell ⟨p7, 0, none⟩ (.string xs)).setCell ⟨p7, 1, none⟩ (.slice xp pn xpc)).setCell ⟨p7, 2, none⟩ (.int .u8 xr)).setCell ⟨p7, 3, none⟩ (.slice xb xbl.length xbc))) := Lib.hid ⟨T7.out.os.trans HW2.out.os, T7.out.tape.trans HW2.out.tape, T7.out.output.trans HW2.out.output, Nat.le_trans HW2.out.size T7.out.size, fun b hb => (T7.out.block b (Nat.lt_of_lt_of_le hb HW2.out.size) (by have := HG7.out; simp; omega)).trans (HW2.out.block b hb)⟩
            refine Lex.AtS.skip 12 ((((u2.setCell ⟨p7, 0, none⟩ (.string xs)).setCell ⟨p7, 1, none⟩ (.slice xp pn xpc)).setCell ⟨p7, 2, none⟩ (.int .u8 xr)).setCell ⟨p7, 3, none⟩ (.slice xb xbl.length xbc)) rfl (by kernel_rfl) (by decide) (by kernel_rfl) ?_ HW3.out ?_
            · go_simp
            go_frame
            have HE8 : Hid (((((u2.setCell ⟨p7, 0, none⟩ (.string xs)).setCell ⟨p7, 1, none⟩ (.slice xp pn xpc)).setCell ⟨p7, 2, none⟩ (.int .u8 xr)).setCell ⟨p7, 3, none⟩ (.slice xb xbl.length xbc)).heap[p8]? = some (.cells #[.string ⟨#[]⟩, .slice none 0 0, .int .u8 0, .slice none 0 0] 51 (0, 0))) := Lib.hid ((T7.out.block _ (lt_of_heap HD8.out) (by have := HNE.out; simp; omega)).trans HD8.out)
            generalize ((((u2.setCell ⟨p7, 0, none⟩ (.string xs)).setCell ⟨p7, 1, none⟩ (.slice xp pn xpc)).setCell ⟨p7, 2, none⟩ (.int .u8 xr)).setCell ⟨p7, 3, none⟩ (.slice xb xbl.length xbc)) = u3 at *
            clear c0 c1 c2 c3 f0 f1 f2 f3 T7 HD7 HD8 HW2
            have c0 := cell_at HE8.out 0
            have c1 := cell_at HE8.out 1
            have c2 := cell_at HE8.out 2
            have c3 := cell_at HE8.out 3
            simp only [List.getElem?_toArray, List.getElem?_cons_succ, List.getElem?_cons_zero] at c0 c1 c2 c3
            have f0 := free_at HE8.out 0
            have f1 := free_at HE8.out 1
            have f2 := free_at HE8.out 2
            have f3 := free_at HE8.out 3
            have T8 := Lib.hid (fn_turn u3 p8 (.string xs) (.slice yp pn ypc) (.int .u8 xr) (.slice yb ybl.length ybc))
            have HG8' := Lib.hid (fn_set (v0 := .string xs) (v1 := .slice yp pn ypc) (v2 := .int .u8 xr) (v3 := .slice yb ybl.length ybc) HE8.out)
            have HG7' : Hid (((((u3.setCell ⟨p8, 0, none⟩ (.string xs)).setCell ⟨p8, 1, none⟩ (.slice yp pn ypc)).setCell ⟨p8, 2, none⟩ (.int .u8 xr)).setCell ⟨p8, 3, none⟩ (.slice yb ybl.length ybc)).heap[p7]? = some (.cells #[.string xs, .slice xp pn xpc, .int .u8 xr, .slice xb xbl.length xbc] 51 (0, 0))) := Lib.hid ((T8.out.block _ (lt_of_heap HE7.out) (by have := HNE.out; simp; omega)).trans HE7.out)
            have HW4 : Hid (Below wr.heap.size wr ((((u3.setCell ⟨p8, 0, none⟩ (.string xs)).setCell ⟨p8, 1, none⟩ (.slice yp pn ypc)).setCell ⟨p8, 2, none⟩ (.int .u8 xr)).setCell ⟨p8, 3, none⟩ (.slice yb ybl.length ybc))) := Lib.hid ⟨T8.out.os.trans HW3.out.os, T8.out.tape.trans HW3.out.tape, T8.out.output.trans HW3.out.output, Nat.le_trans HW3.out.size T8.out.size, fun b hb => (T8.out.block b (Nat.lt_of_lt_of_le hb HW3.out.size) (by have := HG8.out; simp; omega)).trans (HW3.out.block b hb)⟩
            refine Lex.AtS.last (i := 13) (w' := ((((u3.setCell ⟨p8, 0, none⟩ (.string xs)).setCell ⟨p8, 1, none⟩ (.slice yp pn ypc)).setCell ⟨p8, 2, none⟩ (.int .u8 xr)).setCell ⟨p8, 3, none⟩ (.slice yb ybl.length ybc))) rfl (by kernel_rfl) (by kernel_rfl) (by decide) (by kernel_rfl) ?_ ?_
            · go_simp
            go_frame
            clear c0 c1 c2 c3 f0 f1 f2 f3 T8 HE7 HE8 HW3 HNE HG7 HG8 HF HFX HFY
            generalize ((((u3.setCell ⟨p8, 0, none⟩ (.string xs)).setCell ⟨p8, 1, none⟩ (.slice yp pn ypc)).setCell ⟨p8, 2, none⟩ (.int .u8 xr)).setCell ⟨p8, 3, none⟩ (.slice yb ybl.length ybc)) = u4 at *
            have x0 := cell_at HG7'.out 0
            have x1 := cell_at HG7'.out 1
            have x2 := cell_at HG7'.out 2
            have x3 := cell_at HG7'.out 3
            have z0 := cell_at HG8'.out 0
            have z1 := cell_at HG8'.out 1
            have z2 := cell_at HG8'.out 2
            have z3 := cell_at HG8'.out 3
            simp only [List.getElem?_toArray, List.getElem?_cons_succ, List.getElem?_cons_zero] at x0 x1 x2 x3 z0 z1 z2 z3
            have CB1 := Lib.hid (CB.out u4 HW4.out)
            clear CB
            go_wp2_with fail
            refine CB1.out.mono ?_
            rintro e u5 ⟨rfl, hb5⟩
            have HW5 : Hid (Below wr.heap.size wr u5) := Lib.hid (HW4.out.trans (hb5.mono HW4.out.size))
            have HX7 : Hid (u5.heap[p7]? = some (.cells #[.string xs, .slice xp pn xpc, .int .u8 xr, .slice xb xbl.length xbc] 51 (0, 0))) := Lib.hid ((hb5.block _ (lt_of_heap HG7'.out)).trans HG7'.out)
            have HX8 : Hid (u5.heap[p8]? = some (.cells #[.string xs, .slice yp pn ypc, .int .u8 xr, .slice yb ybl.length ybc] 51 (0, 0))) := Lib.hid ((hb5.block _ (lt_of_heap HG8'.out)).trans HG8'.out)
            clear x0 x1 x2 x3 z0 z1 z2 z3 hb5 CB1 HG7' HG8' HW4
            go_wp2_with fail
            obtain ⟨wq, rfl⟩ : ∃ wq : World, wq = wr := ⟨_, rfl⟩
            go_loopw [9] (fun kv wr => ∃ k : Nat, k ≤ pn ∧ kv = .int .i64 k ∧ Hid (Below u5.heap.size u5 wr)) (fun kv _ => pn - (intOf kv).toNat)
            case atStart => exact ⟨0, Nat.zero_le _, rfl, Lib.hid (Below.refl _ _)⟩
            case round =>
              obtain ⟨k, hk, rfl, HK⟩ := hrel
              have d1 : wr.cell? ⟨p7, 1, none⟩ = some (.slice xp pn xpc) := cell_at ((HK.out.block _ (lt_of_heap HX7.out)).trans HX7.out) 1
              by_cases hkl : k < pn
              · obtain ⟨pe, hpe⟩ : ∃ e, xpl[k]? = some e := ⟨_, List.getElem?_eq_getElem (by rw [HPN.out]; exact hkl)⟩
                obtain ⟨b5, o5, rfl, -⟩ := HPX.out.at_ (Below.refl _ _) hpe
                obtain ⟨b6, o6, rfl, -⟩ := HPY.out.at_ (Below.refl _ _) hpe
                have HPE := Lib.hid hpe
                have HG : Hid (∀ u : World, Below wr.heap.size wr u → u.cell? ⟨p7, 1, none⟩ = some (.slice (some ⟨b5, o5, none⟩) pn xpc) ∧ u.cell? ⟨p8, 1, none⟩ = some (.slice (some ⟨b6, o6, none⟩) pn ypc)) := Lib.hid (fun u hu => by
                  have hb := HK.out.trans (hu.mono HK.out.size)
                  exact ⟨cell_at ((hb.block _ (lt_of_heap HX7.out)).trans HX7.out) 1, cell_at ((hb.block _ (lt_of_heap HX8.out)).trans HX8.out) 1⟩)
                have HGX : Hid (∀ u : World, Below wr.heap.size wr u → u.cell? ⟨b5, o5 + k * 2, none⟩ = some (.string pe.s) ∧ u.cell? ⟨b5, o5 + k * 2 + 1, none⟩ = some (.int .u8 pe.t)) := Lib.hid (fun u hu => by
                  obtain ⟨b', o', e, hc⟩ := HPX.out.at_ (HW5.out.trans ((HK.out.trans (hu.mono HK.out.size)).mono HW5.out.size)) HPE.out
                  injection e with e
                  injection e with e1 e2
                  subst e1 e2
                  exact parC_at hc)
                have HGY : Hid (∀ u : World, Below wr.heap.size wr u → u.cell? ⟨b6, o6 + k * 2, none⟩ = some (.string pe.s) ∧ u.cell? ⟨b6, o6 + k * 2 + 1, none⟩ = some (.int .u8 pe.t)) := Lib.hid (fun u hu => by
                  obtain ⟨b', o', e, hc⟩ := HPY.out.at_ (HW5.out.trans ((HK.out.trans (hu.mono HK.out.size)).mono HW5.out.size)) HPE.out
                  injection e with e
                  injection e with e1 e2
                  subst e1 e2
                  exact parC_at hc)
                obtain ⟨ps, pt⟩ := pe
                dsimp only at HGX HGY
                clear hpe HPE
                go_wp2_with fail
                clear d1
                have HS1 : Hid (Below wr.heap.size wr wr.drew) := Lib.hid ((Below.refl _ _).drew)
                refine Lex.AtS.start (by kernel_rfl) 10 (fun u => Below wr.heap.size wr u) (by kernel_rfl) (by kernel_rfl) ?_
                generalize wr.drew = v0 at *
                refine Lex.at_take 0 104 (.pointer (some ⟨p7, 1, none⟩)) rfl rfl (by kernel_rfl) (by decide) (by decide) (fun _ _ _ h => h) (by kernel_rfl) HS1.out (fun w' hw' => ?_) ?_
                · go_simp
                go_frame
                refine Lex.at_take 1 105 (.slice (some ⟨b5, o5, none⟩) pn xpc) rfl rfl (by kernel_rfl) (by decide) (by decide) (fun _ _ _ h => h) (by kernel_rfl) HS1.out (fun w' hw' => ?_) ?_
                · obtain ⟨x0, x1⟩ := HG.out w' hw'
                  go_simp
                go_frame
                refine Lex.at_take 2 106 (.int .i64 k) rfl rfl (by kernel_rfl) (by decide) (by decide) (fun _ _ _ h => h) (by kernel_rfl) HS1.out (fun w' hw' => ?_) ?_
                · go_simp
                go_frame
                refine Lex.at_take 3 107 (.pointer (some ⟨b5, o5 + k * 2, none⟩)) rfl rfl (by kernel_rfl) (by decide) (by decide) (fun _ _ _ h => h) (by kernel_rfl) HS1.out (fun w' hw' => ?_) ?_
                · go_simp
                go_frame
                refine Lex.at_take 4 108 (.agg #[.string ps, .int .u8 pt]) rfl rfl (by kernel_rfl) (by decide) (by decide) (fun _ _ _ h => h) (by kernel_rfl) HS1.out (fun w' hw' => ?_) ?_
                · obtain ⟨x0, x1⟩ := HGX.out w' hw'
                  go_simp
                go_frame
                refine Lex.at_take 5 109 (.pointer (some ⟨p8, 1, none⟩)) rfl rfl (by kernel_rfl) (by decide) (by decide) (fun _ _ _ h => h) (by kernel_rfl) HS1.out (fun w' hw' => ?_) ?_
                · go_simp
                go_frame
                refine Lex.at_take 6 110 (.slice (some ⟨b6, o6, none⟩) pn ypc) rfl rfl (by kernel_rfl) (by decide) (by decide) (fun _ _ _ h => h) (by kernel_rfl) HS1.out (fun w' hw' => ?_) ?_
                · obtain ⟨x0, x1⟩ := HG.out w' hw'
                  go_simp
                go_frame
                refine Lex.at_take 7 111 (.int .i64 k) rfl rfl (by kernel_rfl) (by decide) (by decide) (fun _ _ _ h => h) (by kernel_rfl) HS1.out (fun w' hw' => ?_) ?_
                · go_simp
                go_frame
                refine Lex.at_take 8 112 (.pointer (some ⟨b6, o6 + k * 2, none⟩)) rfl rfl (by kernel_rfl) (by decide) (by decide) (fun _ _ _ h => h) (by kernel_rfl) HS1.out (fun w' hw' => ?_) ?_
                · go_simp
                go_frame
                refine Lex.at_take 9 113 (.agg #[.string ps, .int .u8 pt]) rfl rfl (by kernel_rfl) (by decide) (by decide) (fun _ _ _ h => h) (by kernel_rfl) HS1.out (fun w' hw' => ?_) ?_
                · obtain ⟨x0, x1⟩ := HGY.out w' hw'
                  go_simp
                go_frame
                refine Lex.AtS.lastv 10 114 (.bool false) v0 rfl rfl (by kernel_rfl) (by kernel_rfl) (by decide) (by kernel_rfl) ?_ ?_
                · have hn := par_same ps pt v0
                  go_simp
                go_frame
                clear HG HGX HGY
                go_wp2_with fail
                go_roundw
                case rel => exact ⟨k + 1, by omega, by go_num, Lib.hid (HK.out.trans (HS1.out.mono HK.out.size))⟩
                case measure => simp [intOf]; omega
              · obtain rfl : k = pn := by omega
                have HBN : Hid (Below W.heap.size W wr) := Lib.hid (HB.out.trans ((HW5.out.trans (HK.out.mono HW5.out.size)).mono HB.out.size))
                clear hkl hk
                go_wp2_with fail
                go_roundw
                case rel => exact ⟨i + 1, by omega, by go_num, HBN⟩
                case measure => simp [intOf]; omega
        · obtain rfl : i = m := by omega
          clear hlt hi
          go_wp2_with fail
          go_ret
          exact ⟨rfl, HB2.out.trans (HB.out.mono HB2.out.size)⟩
end Go.Proofs.YtlhbhpdpjidpgaaGreatDoor.Prs
