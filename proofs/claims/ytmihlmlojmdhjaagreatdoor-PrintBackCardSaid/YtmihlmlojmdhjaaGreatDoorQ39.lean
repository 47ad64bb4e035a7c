/-
  The document's Count: how many nodes a file has, no further than most and one. Conditions: the file lies in memory.
-/
import Derived.Test.YtmihlmlojmdhjaaGreatDoorQ08
import Derived.Test.YtmihlmlojmdhjaaGreatDoorQ11
import Derived.Test.YtmihlmlojmdhjaaGreatDoorQ27
import Derived.Test.YtmihlmlojmdhjaaGreatDoorQ32
import Derived.Test.YtmihlmlojmdhjaaGreatDoorQ36
import Derived.Test.YtmihlmlojmdhjaaGreatDoorQ37
import Derived.Test.YtmihlmlojmdhjaaGreatDoorQ38
import Derived.Deep.DeepCutAuto
import Derived.Maps.RangeWalk
namespace Go.Proofs.YtmihlmlojmdhjaaGreatDoor.Tre
open Go.RowKit
set_option maxRecDepth 100000
def cntF (l : List Fn) : Nat := (l.map (fun f => 1 + cntB f.b)).sum
theorem cntF_cons (f : Fn) (l : List Fn) : cntF (f :: l) = 1 + cntB f.b + cntF l := by simp [cntF]
theorem cntF_app (a b : List Fn) : cntF (a ++ b) = cntF a + cntF b := by simp [cntF]
theorem cntF_take {l : List Fn} {j : Nat} {f : Fn} (h : l[j]? = some f) : cntF (l.take (j + 1)) = cntF (l.take j) + (1 + cntB f.b) := by
  rw [List.take_add_one, h, cntF_app, show (some f).toList = [f] from rfl, cntF_cons, show cntF [] = 0 from rfl]
  omega
theorem cntF_le (l : List Fn) (j : Nat) : cntF (l.take j) ≤ cntF l := by
  have : cntF (l.take j) + cntF (l.drop j) = cntF l := by rw [← cntF_app, List.take_append_drop]
  omega
set_option maxHeartbeats 16000000 in
theorem count_any (f : Fl) (t : Int) (w : World) (hf : FlIn w f) (h0 : 0 ≤ t) (ht : t ≤ 1000000000) : Calls Tryz.prog 8 #[flV f, .int .i64 t] w (EndsB (.int .i64 (min (cntF f.f : Int) (t + 1))) w) := by
  have HR := Lib.hid hf.frow
  have HI := Lib.hid hf.fns
  have hlen := hf.flen
  obtain ⟨nm, ia, ic, i, fa, fc, l⟩ := f
  unfold flV
  dsimp only at HR HI hlen ⊢
  unfold most at hlen
  obtain ⟨k, hk⟩ : ∃ k, l.length = k := ⟨_, rfl⟩
  obtain ⟨ki, hki⟩ : ∃ k, i.length = k := ⟨_, rfl⟩
  rw [hk, hki]
  rw [hk] at hlen
  have HK := Lib.hid hk
  have HF : Hid (cntF (l.take k) = cntF l) := Lib.hid (by rw [← hk, List.take_length])
  have HL := Lib.hid (cntF_le l)
  obtain ⟨z, hz⟩ : ∃ z, cntF l = z := ⟨_, rfl⟩
  rw [hz] at HF ⊢
  have HL2 : Hid (∀ j, cntF (l.take j) ≤ z) := Lib.hid (fun j => hz ▸ HL.out j)
  clear hf hk hki HL hz
  have HB2 := Lib.hid (cell_new w #[.string nm, .slice ia ki ic, .slice fa k fc] 25)
  have HN := Lib.hid (new_at w #[.string nm, .slice ia ki ic, .slice fa k fc] 25)
  obtain ⟨W, hW⟩ : ∃ W, w.alloc (.cells #[.string nm, .slice ia ki ic, .slice fa k fc] 25) = W := ⟨_, rfl⟩
  rw [hW] at HB2 HN
  have z2 : W.cell? ⟨w.heap.size, 2, none⟩ = some (.slice fa k fc) := cell_at HN.out 2
  go_enter Tryz.func8, Tryz.ntmps8
  go_wp2_with fail
  clear z2 hW
  go_loopw [5, 6] (fun nv iv wr => ∃ j : Nat, j ≤ k ∧ iv = .int .i64 j ∧ nv = .int .i64 (min (cntF (l.take j) : Int) (t + 1)) ∧ Hid (Below W.heap.size W wr)) (fun _ iv _ => k - (intOf iv).toNat)
  case atStart => exact ⟨0, Nat.zero_le _, rfl, by congr 1; simp [cntF]; omega, Lib.hid (Below.refl _ _)⟩
  case round =>
    obtain ⟨j, hj, rfl, rfl, HB⟩ := hrel
    have a2 : wr.cell? ⟨w.heap.size, 2, none⟩ = some (.slice fa k fc) := cell_at ((HB.out.block _ (by have := HN.out; exact (Array.getElem?_eq_some_iff.1 this).1)).trans HN.out) 2
    by_cases hlt : j < k
    · have hle := HL2.out j
      obtain ⟨fe, hx⟩ : ∃ e, l[j]? = some e := ⟨_, List.getElem?_eq_getElem (by rw [HK.out]; exact hlt)⟩
      have hst := cntF_take hx
      generalize hy2 : cntF (l.take (j + 1)) = y2 at *
      obtain ⟨y1, hy1⟩ : ∃ y1, cntF (l.take j) = y1 := ⟨_, rfl⟩
      rw [hy1] at hst hle ⊢
      obtain ⟨p, hp⟩ : ∃ p, min (y1 : Int) (t + 1) = p := ⟨_, rfl⟩
      rw [hp]
      by_cases hpt : p ≤ t
      · obtain ⟨b, o1, e1, _, hc⟩ := (HR.out.below (HB2.out.trans (HB.out.mono HB2.out.size))) (by rw [HK.out]; omega)
        subst e1
        have x3 : wr.cell? ⟨b, o1 + j * 4 + 3, none⟩ = some (.slice fe.ba fe.b.length fe.bc) := hc j fe hx 3 _ rfl
        have hin := HI.out fe (List.mem_of_getElem? hx)
        have hbl : Below w.heap.size w wr := HB2.out.trans (HB.out.mono HB2.out.size)
        have CB := Lib.hid (cntB_any fe.b fe.ba fe.bc (p + 1) t wr (hin.b.below hbl) (fun s hs => (hin.sts s hs).below hbl) hin.blen (by omega) (by omega) ht)
        clear hc hin hx hbl
        generalize cntB fe.b = yb at *
        go_wp2_with fail
        refine CB.out.mono ?_
        rintro e u1 ⟨rfl, hb1⟩
        have HS1 := Lib.hid hb1
        clear hb1 CB x3 a2
        go_wp2_with fail
        go_roundw
        case rel => exact ⟨j + 1, by omega, by go_num, by rw [hy2]; congr 1; omega, Lib.hid (HB.out.trans (HS1.out.mono HB.out.size))⟩
        case measure => simp [intOf]; omega
      · clear hst hy2 hx
        have hp1 : p = t + 1 := by omega
        have HQ : Hid (min (z : Int) (t + 1) = t + 1) := Lib.hid (by omega)
        rw [hp1]
        rw [hp1] at hpt
        clear hp hp1
        go_wp2_with fail
        go_ret
        exact ⟨by rw [HQ.out]; rfl, HB2.out.trans (HB.out.mono HB2.out.size)⟩
    · obtain rfl : j = k := by omega
      have hf := HF.out
      rw [hf]
      clear hlt hj
      by_cases hzt : (z : Int) ≤ t
      · have HQ : Hid (min (z : Int) (t + 1) = z) := Lib.hid (by omega)
        rw [HQ.out]
        go_wp2_with fail
        go_ret
        exact ⟨by rw [HQ.out]; rfl, HB2.out.trans (HB.out.mono HB2.out.size)⟩
      · have HQ : Hid (min (z : Int) (t + 1) = t + 1) := Lib.hid (by omega)
        rw [HQ.out]
        go_wp2_with fail
        go_ret
        exact ⟨by rw [HQ.out]; rfl, HB2.out.trans (HB.out.mono HB2.out.size)⟩
end Go.Proofs.YtmihlmlojmdhjaaGreatDoor.Tre
/- The law's longExpr answers some number. Conditions: the expression lies in memory. -/
namespace Go.Proofs.YtmihlmlojmdhjaaGreatDoor.Lt
open Go.RowKit Tre
set_option maxRecDepth 100000
def mx (x y : Int) : Int := if y > x then y else x
/-- Some number, and new blocks. -/
def SomeN (w : World) (e : Ending) (w' : World) : Prop := ∃ v : Int, e = .returned (.int .i64 v) ∧ Below w.heap.size w w'
set_option maxHeartbeats 8000000 in
theorem longX_step (e : Ex) (d : Int) (w : World) (hin : ExIn w e) (h0 : 0 ≤ d) (hd : d ≤ 3001)
    (HC : ∀ x ∈ e.x, ∀ (d' : Int) (w' : World), 0 ≤ d' → d' ≤ 3001 → Below w.heap.size w w' → Calls Tryz.prog 20 #[exV x, .int .i64 d'] w' (SomeN w')) :
    Calls Tryz.prog 20 #[exV e, .int .i64 d] w (SomeN w) := by
  have hlen := hin.nd.len
  unfold most at hlen
  have HROW := Lib.hid hin.nd.row
  have HEL := Lib.hid HC
  clear HC
  rw [exV_eq]
  obtain ⟨W0, hW0⟩ : ∃ W0, w.alloc (.cells #[.int .i64 e.op, .int .i64 e.n, .string e.s, .string e.q, .slice e.a e.x.length e.c] 42) = W0 := ⟨_, rfl⟩
  have HB0 : Hid (Below w.heap.size w W0) := Lib.hid (hW0 ▸ (Below.refl _ w).alloc (Nat.le_refl _) _)
  have HN0 : Hid (W0.heap[w.heap.size]? = some (.cells #[.int .i64 e.op, .int .i64 e.n, .string e.s, .string e.q, .slice e.a e.x.length e.c] 42 (0, 0))) := Lib.hid (hW0 ▸ new_at w _ _)
  have HM : Hid (∀ k x, e.x[k]? = some x → x ∈ e.x) := Lib.hid (fun k x h => List.mem_of_getElem? h)
  by_cases hdeep : 3000 < d
  · clear hin hlen
    go_enter Tryz.func20, Tryz.ntmps20
    go_wp2_with fail
    go_ret
    exact ⟨_, rfl, HB0.out⟩
  · have z2 : W0.cell? ⟨w.heap.size, 2, none⟩ = some (.string e.s) := cell_at HN0.out 2
    have z3 : W0.cell? ⟨w.heap.size, 3, none⟩ = some (.string e.q) := cell_at HN0.out 3
    obtain ⟨m, hm⟩ : ∃ m, e.x.length = m := ⟨_, rfl⟩
    rw [hm] at hlen hW0 HN0 ⊢
    have HMM := Lib.hid hm
    have HLT : Hid (∀ k, k < m → ∃ x, e.x[k]? = some x) := Lib.hid (fun k hk => ⟨_, List.getElem?_eq_getElem (by rw [hm]; exact hk)⟩)
    have HW0 := Lib.hid hW0
    have hdd : d ≤ 3000 := by omega
    clear hin hm
    go_enter Tryz.func20, Tryz.ntmps20
    go_upto_region 3 with fail
    go_cut [5] (fun v wx => wx = W0 ∧ ∃ q : Int, v = .int .i64 q)
    case first =>
      go_wp2_with fail
      all_goals (go_meet; exact ⟨rfl, _, rfl⟩)
    case rest =>
      obtain ⟨hw, q, rfl⟩ := hcut
      have hw2 := hw.symm
      subst hw2
      go_wp2_with fail
      go_loopw [5, 6] (fun v i wr => ∃ (p : Int) (k : Nat), k ≤ m ∧ v = .int .i64 p ∧ i = .int .i64 k ∧ Hid (Below W0.heap.size W0 wr)) (fun _ i _ => m - (intOf i).toNat)
      case atStart => exact ⟨q, 0, Nat.zero_le _, rfl, rfl, Lib.hid (Below.refl _ _)⟩
      case round =>
        obtain ⟨p, k, hk, rfl, rfl, HB⟩ := hrel
        have z4 : wr.cell? ⟨w.heap.size, 4, none⟩ = some (.slice e.a m e.c) := cell_at ((HB.out.block _ (lt_of_heap HN0.out)).trans HN0.out) 4
        by_cases hlt : k < m
        · by_cases hp : p ≤ 300
          · obtain ⟨x, hx⟩ := HLT.out k hlt
            obtain ⟨b1, o1, ha, hc1⟩ := HROW.out.at_ (HB0.out.trans (HB.out.mono HB0.out.size)) hx
            rw [ha] at z4
            clear ha
            obtain ⟨p0, p1, p2, p3, p4⟩ := exC_at hc1
            have hd1 : d + 1 ≤ 3001 := by omega
            have CX := HEL.out x (HM.out k x hx) (d + 1) wr (by omega) hd1 (HB0.out.trans (HB.out.mono HB0.out.size))
            rw [exV_eq] at CX
            have CX := Lib.hid CX
            clear hc1 hx hd1
            go_wp2_with fail
            refine CX.out.mono ?_
            rintro e1 w1 ⟨v, rfl, hb1⟩
            have HB1 := Lib.hid (HB.out.trans (hb1.mono HB.out.size))
            clear hb1
            go_wp2_with fail
            all_goals go_roundw
            all_goals first
              | exact ⟨_, k + 1, by omega, rfl, by omega⟩
              | exact ⟨_, k + 1, by omega, rfl, rfl, HB1⟩
              | (simp [intOf]; omega)
          · have hp2 : ¬ p ≤ 300 := hp
            go_wp2_with fail
            go_ret
            exact ⟨_, rfl, HB0.out.trans (HB.out.mono HB0.out.size)⟩
        · obtain rfl : k = m := by omega
          go_wp2_with fail
          go_ret
          exact ⟨_, rfl, HB0.out.trans (HB.out.mono HB0.out.size)⟩
theorem longX_upto : ∀ (n : Nat) (e : Ex) (d : Int) (w : World), size e ≤ n → ExIn w e → 0 ≤ d → d ≤ 3001 → Calls Tryz.prog 20 #[exV e, .int .i64 d] w (SomeN w)
  | 0, e, d, w, h, _, _, _ => by rw [size_eq] at h; omega
  | n + 1, e, d, w, h, hin, h0, hd => longX_step e d w hin h0 hd fun x hx d' w' h0' hd' hb => longX_upto n x d' w' (by have := size_part hx; omega) ((hin.part hx).below hb) h0' hd'
theorem longX_any (e : Ex) (w : World) (hin : ExIn w e) : Calls Tryz.prog 20 #[exV e, .int .i64 0] w (SomeN w) := longX_upto _ e 0 w (Nat.le_refl _) hin (by omega) (by omega)
end Go.Proofs.YtmihlmlojmdhjaaGreatDoor.Lt
/- The law's long answers some number. Conditions: the statements lie in memory. -/
namespace Go.Proofs.YtmihlmlojmdhjaaGreatDoor.Lt
open Go.RowKit Tre
set_option maxRecDepth 100000
theorem SomeN.on {w u : World} (h : Below w.heap.size w u) {e : Ending} {w' : World} (k : SomeN u e w') : SomeN w e w' := by
  obtain ⟨v, e1, hb⟩ := k
  exact ⟨v, e1, h.trans (hb.mono h.size)⟩
set_option maxHeartbeats 16000000 in
theorem long_step (l : List St) (A : Option Addr) (c : Nat) (w : World) (h1 : Row 9 stC w A l) (hi : ∀ s ∈ l, StIn w s) (hlen : l.length ≤ most)
    (C : ∀ x ∈ l, ∀ (w' : World), Below w.heap.size w w' → Calls Tryz.prog 9 #[.slice x.a x.b.length x.c] w' (SomeN w') ∧ Calls Tryz.prog 9 #[.slice x.a2 x.b2.length x.c2] w' (SomeN w')) :
    Calls Tryz.prog 9 #[.slice A l.length c] w (SomeN w) := by
  unfold most at hlen
  have HC := Lib.hid C
  have HR := Lib.hid h1
  have HI := Lib.hid hi
  obtain ⟨k, hk⟩ : ∃ k, l.length = k := ⟨_, rfl⟩
  rw [hk] at hlen ⊢
  have HK := Lib.hid hk
  clear C h1 hi hk
  go_enter Tryz.func9, Tryz.ntmps9
  go_wp2_with fail
  go_loopw [3, 4] (fun nv iv wr => ∃ (p : Int) (j : Nat), j ≤ k ∧ nv = .int .i64 p ∧ iv = .int .i64 j ∧ Hid (Below w.heap.size w wr)) (fun _ iv _ => k - (intOf iv).toNat)
  case atStart => exact ⟨0, 0, Nat.zero_le _, rfl, rfl, Lib.hid (Below.refl _ _)⟩
  case round =>
    obtain ⟨p, j, hj, rfl, rfl, HB⟩ := hrel
    by_cases hlt : j < k
    · obtain ⟨x, hx⟩ : ∃ e, l[j]? = some e := ⟨_, List.getElem?_eq_getElem (by rw [HK.out]; exact hlt)⟩
      obtain ⟨b, o1, e1, hc0⟩ := HR.out.at_ HB.out hx
      subst e1
      have hin := HI.out x (List.mem_of_getElem? hx)
      have CE := Lib.hid (fun (u : World) (hu : Below wr.heap.size wr u) => longX_any x.e u (hin.nd.e.below (HB.out.trans (hu.mono HB.out.size))))
      rw [exV_eq] at CE
      have CB := Lib.hid (fun (u : World) (hu : Below wr.heap.size wr u) => HC.out x (List.mem_of_getElem? hx) u (HB.out.trans (hu.mono HB.out.size)))
      have HCL : Hid (∀ u : World, Below wr.heap.size wr u → u.cell? ⟨b, o1 + j * 9 + 1, none⟩ = some (.string x.s) ∧ u.cell? ⟨b, o1 + j * 9 + 2, none⟩ = some (.int .i64 x.e.op) ∧ u.cell? ⟨b, o1 + j * 9 + 3, none⟩ = some (.int .i64 x.e.n) ∧ u.cell? ⟨b, o1 + j * 9 + 4, none⟩ = some (.string x.e.s) ∧ u.cell? ⟨b, o1 + j * 9 + 5, none⟩ = some (.string x.e.q) ∧ u.cell? ⟨b, o1 + j * 9 + 6, none⟩ = some (.slice x.e.a x.e.x.length x.e.c) ∧ u.cell? ⟨b, o1 + j * 9 + 7, none⟩ = some (.slice x.a x.b.length x.c) ∧ u.cell? ⟨b, o1 + j * 9 + 8, none⟩ = some (.slice x.a2 x.b2.length x.c2)) := Lib.hid (fun u hu => by
        obtain ⟨b', o', e', hc'⟩ := HR.out.at_ (HB.out.trans (hu.mono HB.out.size)) hx
        injection e' with e'
        injection e' with e1 e2
        subst e1 e2
        exact (stC_at hc').2)
      clear hc0 hin hx
      go_wp2_with fail
      refine Lex.AtS.start (by kernel_rfl) 15 (fun u => Below wr.heap.size wr u) (by kernel_rfl) (by kernel_rfl) ?_
      have HP0 : Hid (Below wr.heap.size wr wr.drew) := Lib.hid ((Below.refl _ _).drew)
      generalize wr.drew = P0 at *
      refine Lex.at_take 0 11 (.int .i64 p) rfl rfl (by kernel_rfl) (by decide) (by decide) (fun _ _ _ h => h) (by kernel_rfl) HP0.out (fun w' hw' => ?_) ?_
      · go_simp
      go_frame
      refine Lex.at_take 1 12 (.slice (some ⟨b, o1, none⟩) k c) rfl rfl (by kernel_rfl) (by decide) (by decide) (fun _ _ _ h => h) (by kernel_rfl) HP0.out (fun w' hw' => ?_) ?_
      · go_simp
      go_frame
      refine Lex.at_take 2 13 (.int .i64 j) rfl rfl (by kernel_rfl) (by decide) (by decide) (fun _ _ _ h => h) (by kernel_rfl) HP0.out (fun w' hw' => ?_) ?_
      · go_simp
      go_frame
      refine Lex.at_take 3 14 (.pointer (some ⟨b, o1 + j * 9, none⟩)) rfl rfl (by kernel_rfl) (by decide) (by decide) (fun _ _ _ h => h) (by kernel_rfl) HP0.out (fun w' hw' => ?_) ?_
      · go_simp
      go_frame
      refine Lex.at_take 4 15 (.pointer (some ⟨b, o1 + j * 9 + 1, none⟩)) rfl rfl (by kernel_rfl) (by decide) (by decide) (fun _ _ _ h => h) (by kernel_rfl) HP0.out (fun w' hw' => ?_) ?_
      · go_simp
      go_frame
      refine Lex.at_take 5 16 (.string x.s) rfl rfl (by kernel_rfl) (by decide) (by decide) (fun _ _ _ h => h) (by kernel_rfl) HP0.out (fun w' hw' => ?_) ?_
      · obtain ⟨z1, z2, z3, z4, z5, z6, z7, z8⟩ := HCL.out w' hw'
        go_simp
      go_frame
      refine Lex.at_take 6 17 (.int .i64 x.s.size) rfl rfl (by kernel_rfl) (by decide) (by decide) (fun _ _ _ h => h) (by kernel_rfl) HP0.out (fun w' hw' => ?_) ?_
      · go_simp
      go_frame
      refine Lex.at_take 7 18 (.slice (some ⟨b, o1, none⟩) k c) rfl rfl (by kernel_rfl) (by decide) (by decide) (fun _ _ _ h => h) (by kernel_rfl) HP0.out (fun w' hw' => ?_) ?_
      · go_simp
      go_frame
      refine Lex.at_take 8 19 (.int .i64 j) rfl rfl (by kernel_rfl) (by decide) (by decide) (fun _ _ _ h => h) (by kernel_rfl) HP0.out (fun w' hw' => ?_) ?_
      · go_simp
      go_frame
      refine Lex.at_take 9 20 (.pointer (some ⟨b, o1 + j * 9, none⟩)) rfl rfl (by kernel_rfl) (by decide) (by decide) (fun _ _ _ h => h) (by kernel_rfl) HP0.out (fun w' hw' => ?_) ?_
      · go_simp
      go_frame
      refine Lex.at_take 10 21 (.pointer (some ⟨b, o1 + j * 9 + 2, none⟩)) rfl rfl (by kernel_rfl) (by decide) (by decide) (fun _ _ _ h => h) (by kernel_rfl) HP0.out (fun w' hw' => ?_) ?_
      · go_simp
      go_frame
      refine Lex.at_take 11 22 (.agg #[.int .i64 x.e.op, .int .i64 x.e.n, .string x.e.s, .string x.e.q, .slice x.e.a x.e.x.length x.e.c]) rfl rfl (by kernel_rfl) (by decide) (by decide) (fun _ _ _ h => h) (by kernel_rfl) HP0.out (fun w' hw' => ?_) ?_
      · obtain ⟨z1, z2, z3, z4, z5, z6, z7, z8⟩ := HCL.out w' hw'
        go_simp
      go_frame
      refine Lex.at_call 12 23 (f := 20) (args := #[.agg #[.int .i64 x.e.op, .int .i64 x.e.n, .string x.e.s, .string x.e.q, .slice x.e.a x.e.x.length x.e.c], .int .i64 0]) rfl rfl (by kernel_rfl) (by decide) (by kernel_rfl) ?_ ?_
      · go_simp
      refine (CE.out P0 HP0.out).mono ?_
      rintro e P1 ⟨Pv1, rfl, hb1⟩
      have HP1 : Hid (Below wr.heap.size wr P1) := Lib.hid (HP0.out.trans (hb1.mono HP0.out.size))
      refine ⟨_, rfl, HP1.out, ?_⟩
      clear hb1
      go_frame
      refine Lex.at_take 13 24 (.int .i64 (mx (x.s.size) (Pv1))) rfl rfl (by kernel_rfl) (by decide) (by decide) (fun _ _ _ h => h) (by kernel_rfl) HP1.out (fun w' hw' => ?_) ?_
      · unfold mx
        (go_simp) <;> omega
      go_frame
      refine Lex.at_take 14 25 (.int .i64 (mx (p) ((mx (x.s.size) (Pv1))))) rfl rfl (by kernel_rfl) (by decide) (by decide) (fun _ _ _ h => h) (by kernel_rfl) HP1.out (fun w' hw' => ?_) ?_
      · unfold mx
        (go_simp) <;> omega
      go_frame
      refine Lex.AtS.lastv 15 3 (.int .i64 (mx (p) ((mx (x.s.size) (Pv1))))) P1 rfl rfl (by kernel_rfl) (by kernel_rfl) (by decide) (by kernel_rfl) ?_ ?_
      · go_simp
      go_frame
      generalize (mx (p) ((mx (x.s.size) (Pv1)))) = q at *
      go_wp2_with fail
      refine Lex.AtS.start (by kernel_rfl) 15 (fun u => Below wr.heap.size wr u) (by kernel_rfl) (by kernel_rfl) ?_
      have HQ0 : Hid (Below wr.heap.size wr P1.drew) := Lib.hid ((HP1.out).drew)
      generalize P1.drew = Q0 at *
      refine Lex.at_take 0 26 (.int .i64 q) rfl rfl (by kernel_rfl) (by decide) (by decide) (fun _ _ _ h => h) (by kernel_rfl) HQ0.out (fun w' hw' => ?_) ?_
      · go_simp
      go_frame
      refine Lex.at_take 1 27 (.slice (some ⟨b, o1, none⟩) k c) rfl rfl (by kernel_rfl) (by decide) (by decide) (fun _ _ _ h => h) (by kernel_rfl) HQ0.out (fun w' hw' => ?_) ?_
      · go_simp
      go_frame
      refine Lex.at_take 2 28 (.int .i64 j) rfl rfl (by kernel_rfl) (by decide) (by decide) (fun _ _ _ h => h) (by kernel_rfl) HQ0.out (fun w' hw' => ?_) ?_
      · go_simp
      go_frame
      refine Lex.at_take 3 29 (.pointer (some ⟨b, o1 + j * 9, none⟩)) rfl rfl (by kernel_rfl) (by decide) (by decide) (fun _ _ _ h => h) (by kernel_rfl) HQ0.out (fun w' hw' => ?_) ?_
      · go_simp
      go_frame
      refine Lex.at_take 4 30 (.pointer (some ⟨b, o1 + j * 9 + 7, none⟩)) rfl rfl (by kernel_rfl) (by decide) (by decide) (fun _ _ _ h => h) (by kernel_rfl) HQ0.out (fun w' hw' => ?_) ?_
      · go_simp
      go_frame
      refine Lex.at_take 5 31 (.slice x.a x.b.length x.c) rfl rfl (by kernel_rfl) (by decide) (by decide) (fun _ _ _ h => h) (by kernel_rfl) HQ0.out (fun w' hw' => ?_) ?_
      · obtain ⟨z1, z2, z3, z4, z5, z6, z7, z8⟩ := HCL.out w' hw'
        go_simp
      go_frame
      refine Lex.at_take 7 33 (.slice (some ⟨b, o1, none⟩) k c) rfl rfl (by kernel_rfl) (by decide) (by decide) (fun _ _ _ h => h) (by kernel_rfl) HQ0.out (fun w' hw' => ?_) ?_
      · go_simp
      go_frame
      refine Lex.at_take 8 34 (.int .i64 j) rfl rfl (by kernel_rfl) (by decide) (by decide) (fun _ _ _ h => h) (by kernel_rfl) HQ0.out (fun w' hw' => ?_) ?_
      · go_simp
      go_frame
      refine Lex.at_take 9 35 (.pointer (some ⟨b, o1 + j * 9, none⟩)) rfl rfl (by kernel_rfl) (by decide) (by decide) (fun _ _ _ h => h) (by kernel_rfl) HQ0.out (fun w' hw' => ?_) ?_
      · go_simp
      go_frame
      refine Lex.at_take 10 36 (.pointer (some ⟨b, o1 + j * 9 + 8, none⟩)) rfl rfl (by kernel_rfl) (by decide) (by decide) (fun _ _ _ h => h) (by kernel_rfl) HQ0.out (fun w' hw' => ?_) ?_
      · go_simp
      go_frame
      refine Lex.at_take 11 37 (.slice x.a2 x.b2.length x.c2) rfl rfl (by kernel_rfl) (by decide) (by decide) (fun _ _ _ h => h) (by kernel_rfl) HQ0.out (fun w' hw' => ?_) ?_
      · obtain ⟨z1, z2, z3, z4, z5, z6, z7, z8⟩ := HCL.out w' hw'
        go_simp
      go_frame
      refine Lex.at_call 6 32 (f := 9) (args := #[.slice x.a x.b.length x.c]) rfl rfl (by kernel_rfl) (by decide) (by kernel_rfl) ?_ ?_
      · go_simp
      refine ((CB.out Q0 HQ0.out).1).mono ?_
      rintro e Q1 ⟨Qv1, rfl, hb1⟩
      have HQ1 : Hid (Below wr.heap.size wr Q1) := Lib.hid (HQ0.out.trans (hb1.mono HQ0.out.size))
      refine ⟨_, rfl, HQ1.out, ?_⟩
      clear hb1
      go_frame
      refine Lex.at_call 12 38 (f := 9) (args := #[.slice x.a2 x.b2.length x.c2]) rfl rfl (by kernel_rfl) (by decide) (by kernel_rfl) ?_ ?_
      · go_simp
      refine ((CB.out Q1 HQ1.out).2).mono ?_
      rintro e Q2 ⟨Qv2, rfl, hb1⟩
      have HQ2 : Hid (Below wr.heap.size wr Q2) := Lib.hid (HQ1.out.trans (hb1.mono HQ1.out.size))
      refine ⟨_, rfl, HQ2.out, ?_⟩
      clear hb1
      go_frame
      refine Lex.at_take 13 39 (.int .i64 (mx (Qv1) (Qv2))) rfl rfl (by kernel_rfl) (by decide) (by decide) (fun _ _ _ h => h) (by kernel_rfl) HQ2.out (fun w' hw' => ?_) ?_
      · unfold mx
        (go_simp) <;> omega
      go_frame
      refine Lex.at_take 14 40 (.int .i64 (mx (q) ((mx (Qv1) (Qv2))))) rfl rfl (by kernel_rfl) (by decide) (by decide) (fun _ _ _ h => h) (by kernel_rfl) HQ2.out (fun w' hw' => ?_) ?_
      · unfold mx
        (go_simp) <;> omega
      go_frame
      refine Lex.AtS.lastv 15 3 (.int .i64 (mx (q) ((mx (Qv1) (Qv2))))) Q2 rfl rfl (by kernel_rfl) (by kernel_rfl) (by decide) (by kernel_rfl) ?_ ?_
      · go_simp
      go_frame
      clear CB HCL CE
      go_wp2_with fail
      go_roundw
      case rel => exact ⟨_, j + 1, by omega, rfl, by go_num, Lib.hid (HB.out.trans (HQ2.out.mono HB.out.size))⟩
      case measure => simp [intOf]; omega
    · obtain rfl : j = k := by omega
      go_wp2_with fail
      go_ret
      exact ⟨_, rfl, HB.out⟩
theorem long_upto : ∀ (m : Nat) (l : List St) (A : Option Addr) (c : Nat) (w : World), sizeB l ≤ m → Row 9 stC w A l → (∀ s ∈ l, StIn w s) → l.length ≤ most → Calls Tryz.prog 9 #[.slice A l.length c] w (SomeN w)
  | 0, [], A, c, w, _, h1, hi, hl => long_step [] A c w h1 hi hl (fun x hx => by simp at hx)
  | 0, s :: l, _, _, _, h, _, _, _ => by rw [sizeB_cons, sizeS_eq] at h; omega
  | m + 1, l, A, c, w, hm, h1, hi, hl => long_step l A c w h1 hi hl (fun x hx w' hb => by
    have nx := (hi x hx).nd
    have hs := sizeS_mem hx
    rw [sizeS_eq] at hs
    exact ⟨long_upto m _ _ _ _ (by omega) (nx.row.below hb) (fun s hs => ((hi x hx).part (.inl hs)).below hb) nx.len, long_upto m _ _ _ _ (by omega) (nx.row2.below hb) (fun s hs => ((hi x hx).part (.inr hs)).below hb) nx.len2⟩)
theorem long_any (l : List St) (A : Option Addr) (c : Nat) (w : World) (h1 : Row 9 stC w A l) (hi : ∀ s ∈ l, StIn w s) (hl : l.length ≤ most) : Calls Tryz.prog 9 #[.slice A l.length c] w (SomeN w) := long_upto _ l A c w (Nat.le_refl _) h1 hi hl
end Go.Proofs.YtmihlmlojmdhjaaGreatDoor.Lt
/- The law's Light answers true or false. Conditions: the file lies in memory. -/
namespace Go.Proofs.YtmihlmlojmdhjaaGreatDoor.Lt
open Go.RowKit Tre
set_option maxRecDepth 100000
/-- True or false, and new blocks. -/
def SomeB (w : World) (e : Ending) (w' : World) : Prop := ∃ v : Bool, e = .returned (.bool v) ∧ Below w.heap.size w w'
theorem parC_cells {p : Par} {w : World} {b o : Nat} (h : ∀ (r : Nat) (u : Value), (parC p)[r]? = some u → w.cell? ⟨b, o + r, none⟩ = some u) : w.cell? ⟨b, o, none⟩ = some (.string p.s) := h 0 _ rfl
set_option maxHeartbeats 16000000 in
theorem light_any (f : Fl) (w : World) (hf : FlIn w f) : Calls Tryz.prog 4 #[flV f, .int .i64 300] w (SomeB w) := by
  have HIR := Lib.hid hf.irow
  have HFR := Lib.hid hf.frow
  have HFN := Lib.hid hf.fns
  obtain ⟨W0, hW0⟩ : ∃ W0, w.alloc (.cells #[.string f.s, .slice f.ia f.i.length f.ic, .slice f.fa f.f.length f.fc] 25) = W0 := ⟨_, rfl⟩
  have HB0 : Hid (Below w.heap.size w W0) := Lib.hid (hW0 ▸ (Below.refl _ w).alloc (Nat.le_refl _) _)
  have HN0 : Hid (W0.heap[w.heap.size]? = some (.cells #[.string f.s, .slice f.ia f.i.length f.ic, .slice f.fa f.f.length f.fc] 25 (0, 0))) := Lib.hid (hW0 ▸ new_at w _ _)
  have CN := Lib.hid (count_any f 300 W0 (hf.below HB0.out) (by omega) (by omega))
  rw [flV_eq] at CN ⊢
  generalize min (cntF f.f : Int) (300 + 1) = q at CN
  have hil := hf.ilen
  have hfl := hf.flen
  unfold most at hil hfl
  have HI : Hid (∀ k, k < f.i.length → ∃ x, f.i[k]? = some x) := Lib.hid (fun k hk => ⟨_, List.getElem?_eq_getElem hk⟩)
  have HF : Hid (∀ k, k < f.f.length → ∃ x, f.f[k]? = some x) := Lib.hid (fun k hk => ⟨_, List.getElem?_eq_getElem hk⟩)
  generalize f.i.length = ni at *
  generalize f.f.length = nf at *
  have HZ : Hid (∀ u : World, Below W0.heap.size W0 u → u.cell? ⟨w.heap.size, 0, none⟩ = some (.string f.s) ∧ u.cell? ⟨w.heap.size, 1, none⟩ = some (.slice f.ia ni f.ic) ∧ u.cell? ⟨w.heap.size, 2, none⟩ = some (.slice f.fa nf f.fc)) := Lib.hid (fun u hu => by
    have h := (hu.block _ (lt_of_heap HN0.out)).trans HN0.out
    exact ⟨cell_at h 0, cell_at h 1, cell_at h 2⟩)
  obtain ⟨z0, z1, z2⟩ := HZ.out W0 (Below.refl _ _)
  clear hf
  by_cases h1 : 100 < nf
  · go_enter Tryz.func4, Tryz.ntmps4
    go_wp2_with fail
    go_ret
    exact ⟨_, rfl, HB0.out⟩
  by_cases h2 : 100 < ni
  · go_enter Tryz.func4, Tryz.ntmps4
    go_wp2_with fail
    go_ret
    exact ⟨_, rfl, HB0.out⟩
  by_cases h3 : 300 < q
  · go_enter Tryz.func4, Tryz.ntmps4
    go_wp2_with fail
    refine CN.out.mono ?_
    rintro e1 w1 ⟨rfl, hb⟩
    have HB1 := Lib.hid (HB0.out.trans (hb.mono HB0.out.size))
    clear hb
    go_wp2_with fail
    go_ret
    exact ⟨_, rfl, HB1.out⟩
  go_enter Tryz.func4, Tryz.ntmps4
  go_wp2_with fail
  refine CN.out.mono ?_
  rintro e1 w1 ⟨rfl, hb⟩
  have HB1 := Lib.hid hb
  obtain ⟨z0, z1, z2⟩ := HZ.out w1 hb
  clear hb
  go_wp2_with fail
  go_loopw [5, 6] (fun v i wr => ∃ (p : Int) (k : Nat), k ≤ ni ∧ v = .int .i64 p ∧ i = .int .i64 k ∧ Hid (Below W0.heap.size W0 wr)) (fun _ i _ => ni - (intOf i).toNat)
  case atStart => exact ⟨_, 0, Nat.zero_le _, rfl, rfl, HB1⟩
  case round =>
    obtain ⟨p, k, hk, rfl, rfl, HB⟩ := hrel
    obtain ⟨z0, z1, z2⟩ := HZ.out wr HB.out
    by_cases hlt : k < ni
    · obtain ⟨x, hx⟩ := HI.out k hlt
      obtain ⟨b1, o1, ha, hc1⟩ := HIR.out.at_ (HB0.out.trans (HB.out.mono HB0.out.size)) hx
      rw [ha] at z1
      clear ha
      have p0 := hc1 0 _ rfl
      simp only [Nat.add_zero, Nat.mul_one] at p0
      clear hc1 hx
      go_wp2_with fail
      all_goals go_roundw
      all_goals first
        | exact ⟨_, k + 1, by omega, rfl, by omega⟩
        | exact ⟨_, k + 1, by omega, rfl, by go_num, HB⟩
        | (simp [intOf]; omega)
    · obtain rfl : k = ni := by omega
      go_wp2_with fail
      go_loopw [5, 7] (fun v i wr => ∃ (p : Int) (k : Nat), k ≤ nf ∧ v = .int .i64 p ∧ i = .int .i64 k ∧ Hid (Below W0.heap.size W0 wr)) (fun _ i _ => nf - (intOf i).toNat)
      case atStart => exact ⟨_, 0, Nat.zero_le _, rfl, rfl, HB⟩
      case round =>
        obtain ⟨p, k2, hk2, rfl, rfl, HB2⟩ := hrel
        obtain ⟨z0, z1, z2⟩ := HZ.out wr HB2.out
        by_cases hlt2 : k2 < nf
        · obtain ⟨x, hx⟩ := HF.out k2 hlt2
          have hfn := HFN.out x (List.mem_of_getElem? hx)
          have HX := Lib.hid hx
          obtain ⟨b1, o1, ha, hc1⟩ := HFR.out.at_ (HB0.out.trans (HB2.out.mono HB0.out.size)) hx
          rw [ha] at z2
          clear ha
          obtain ⟨p0, p1, p2, p3⟩ := fnC_at hc1
          have hpl := hfn.plen
          unfold most at hpl
          have HPR := Lib.hid hfn.p
          have HP : Hid (∀ k, k < x.p.length → ∃ y, x.p[k]? = some y) := Lib.hid (fun k hk => ⟨_, List.getElem?_eq_getElem hk⟩)
          have CL := Lib.hid (fun (u : World) (hu : Below W0.heap.size W0 u) => long_any x.b x.ba x.bc u (hfn.b.below (HB0.out.trans (hu.mono HB0.out.size))) (fun s hs => (hfn.sts s hs).below (HB0.out.trans (hu.mono HB0.out.size))) hfn.blen)
          generalize x.p.length = np at *
          generalize x.b.length = nb at *
          clear hc1 hx hfn
          go_upto_region 11 with fail
          go_cut [5] (fun v wx => wx = wr ∧ ∃ q : Int, v = .int .i64 q)
          case first =>
            go_wp2_with fail
            all_goals (go_meet; exact ⟨rfl, _, rfl⟩)
          case rest =>
            obtain ⟨hw, q2, rfl⟩ := hcut
            have hw2 := hw.symm
            subst hw2
            by_cases h4 : 100 < np
            · go_wp2_with fail
              go_ret
              exact ⟨_, rfl, HB0.out.trans (HB2.out.mono HB0.out.size)⟩
            · obtain ⟨wo, hwo⟩ : ∃ wo : World, wo = wr := ⟨_, rfl⟩
              subst hwo
              go_wp2_with fail
              go_loopw [5, 8] (fun v i wr => ∃ (p : Int) (k : Nat), k ≤ np ∧ v = .int .i64 p ∧ i = .int .i64 k ∧ wr = wo) (fun _ i _ => np - (intOf i).toNat)
              case atStart => exact ⟨_, 0, Nat.zero_le _, rfl, rfl, rfl⟩
              case round =>
                obtain ⟨p4, k4, hk4, rfl, rfl, hw⟩ := hrel
                have hw2 := hw.symm
                subst hw2
                by_cases hlt4 : k4 < np
                · obtain ⟨y, hy⟩ := HP.out k4 hlt4
                  obtain ⟨b2, o2, ha2, hc2⟩ := HPR.out.at_ (HB0.out.trans (HB2.out.mono HB0.out.size)) hy
                  rw [ha2] at p1
                  clear ha2
                  have y0 := parC_cells hc2
                  clear hc2 hy
                  go_wp2_with fail
                  all_goals go_roundw
                  all_goals first
                    | exact ⟨_, k4 + 1, by omega, rfl, by omega⟩
                    | exact ⟨_, k4 + 1, by omega, rfl, by go_num, rfl⟩
                    | exact ⟨_, k4 + 1, by omega, rfl, by go_num, trivial⟩
                    | exact ⟨_, k4 + 1, by omega, rfl, rfl, trivial⟩
                    | (simp [intOf]; omega)
                · obtain rfl : k4 = np := by omega
                  have CL1 := Lib.hid (CL.out wo HB2.out)
                  go_wp2_with fail
                  refine CL1.out.mono ?_
                  rintro e1 w5 ⟨v5, rfl, hb5⟩
                  have HB5 := Lib.hid (HB2.out.trans (hb5.mono HB2.out.size))
                  clear hb5
                  go_wp2_with fail
                  all_goals go_roundw
                  all_goals first
                    | exact ⟨_, k2 + 1, by omega, rfl, by omega⟩
                    | exact ⟨_, k2 + 1, by omega, rfl, by go_num, HB5⟩
                    | (simp [intOf]; omega)
        · obtain rfl : k2 = nf := by omega
          go_wp2_with fail
          go_ret
          exact ⟨_, rfl, HB0.out.trans (HB2.out.mono HB0.out.size)⟩
end Go.Proofs.YtmihlmlojmdhjaaGreatDoor.Lt
/- The law of layer 11: true. Conditions: the file lies in memory, its numbers are an int64's; the tables lie as the program lays them. -/
namespace Go.Proofs.YtmihlmlojmdhjaaGreatDoor.Wr
open Go.RowKit Tre
open Lex (bs)
open Prg (LoL Tabs TellF parseFile_any)
open Prs (fileT zeroL)
set_option maxRecDepth 100000
set_option maxHeartbeats 16000000 in
theorem knows_any (w : World) (hG : Gd w) : Calls Tryz.prog 5 #[] w (EndsB (.bool true) w) := by
  have a1 : Below w.heap.size w (w.alloc (.cells #[.int .i64 3, .int .i64 0, .string ⟨#[97]⟩, .string ⟨#[]⟩, .slice none 0 0] 42)) := ball_new w _ _
  have n1 := new_at w #[.int .i64 3, .int .i64 0, .string ⟨#[97]⟩, .string ⟨#[]⟩, .slice none 0 0] 42
  obtain ⟨W1, hW1⟩ : ∃ W1, w.alloc (.cells #[.int .i64 3, .int .i64 0, .string ⟨#[97]⟩, .string ⟨#[]⟩, .slice none 0 0] 42) = W1 := ⟨_, rfl⟩
  rw [hW1] at a1 n1
  obtain ⟨z0, z1, z2, z3, z4⟩ := x5 n1
  have n2 := new_at W1 (exC aX ++ exC aX).toArray 42
  have a2 := a1.alloc a1.size (.cells (exC aX ++ exC aX).toArray 42)
  obtain ⟨W2, hW2⟩ : ∃ W2, W1.alloc (.cells #[.int .i64 3, .int .i64 0, .string ⟨#[97]⟩, .string ⟨#[]⟩, .slice none 0 0, .int .i64 3, .int .i64 0, .string ⟨#[97]⟩, .string ⟨#[]⟩, .slice none 0 0] 42) = W2 := ⟨_, rfl⟩
  have hW2' : W1.alloc (.cells (exC aX ++ exC aX).toArray 42) = W2 := hW2
  rw [hW2'] at a2 n2
  obtain ⟨R1, hR1⟩ : ∃ R1, W1.heap.size = R1 := ⟨_, rfl⟩
  rw [hR1] at n2
  have n3 := new_at W2 (exC (addX R1)).toArray 42
  have m3 := (Below.heap_alloc W2 (.cells (exC (addX R1)).toArray 42) R1 (lt_of_heap n2)).trans n2
  have a3 := a2.alloc a2.size (.cells (exC (addX R1)).toArray 42)
  obtain ⟨W3, hW3⟩ : ∃ W3, W2.alloc (.cells #[.int .i64 10, .int .i64 0, .string ⟨#[]⟩, .string ⟨#[]⟩, .slice (some ⟨R1, 0, none⟩) 2 2] 42) = W3 := ⟨_, rfl⟩
  have hW3' : W2.alloc (.cells (exC (addX R1)).toArray 42) = W3 := hW3
  rw [hW3'] at a3 n3 m3
  have CX := Lib.hid (knowX (hG.below a3) m3 n3)
  have HB3 := Lib.hid a3
  have HG := Lib.hid hG
  have CT := fun u => Lib.hid (printInt u)
  have HW1 := Lib.hid hW1
  clear a1 a2 a3 n1 n2 n3 m3 hW2' hW3' hG hW1
  go_enter Tryz.func5, Tryz.ntmps5
  go_upto_region 2 with fail
  rw [HW1.out]
  go_wp2_with fail
  refine CX.out.mono ?_
  rintro e1 w4 ⟨rfl, hb4⟩
  have b4 := HB3.out.trans (hb4.mono HB3.out.size)
  have n5 := new_at w4 (stC retS).toArray 47
  have a5 := b4.alloc b4.size (.cells (stC retS).toArray 47)
  obtain ⟨W5, hW5⟩ : ∃ W5, w4.alloc (.cells #[.int .i64 5, .string ⟨#[]⟩, .int .i64 0, .int .i64 0, .string ⟨#[]⟩, .string ⟨#[]⟩, .slice none 0 0, .slice none 0 0, .slice none 0 0] 47) = W5 := ⟨_, rfl⟩
  have hW5' : w4.alloc (.cells (stC retS).toArray 47) = W5 := hW5
  rw [hW5'] at n5 a5
  obtain ⟨R5, hR5⟩ : ∃ R5, w4.heap.size = R5 := ⟨_, rfl⟩
  rw [hR5] at n5
  have n6 := new_at W5 (fnC (retF R5)).toArray 36
  have m6 := (Below.heap_alloc W5 (.cells (fnC (retF R5)).toArray 36) R5 (lt_of_heap n5)).trans n5
  have a6 := a5.alloc a5.size (.cells (fnC (retF R5)).toArray 36)
  obtain ⟨W6, hW6⟩ : ∃ W6, W5.alloc (.cells #[.string ⟨#[102]⟩, .slice none 0 0, .int .u8 0, .slice (some ⟨R5, 0, none⟩) 1 1] 36) = W6 := ⟨_, rfl⟩
  have hW6' : W5.alloc (.cells (fnC (retF R5)).toArray 36) = W6 := hW6
  rw [hW6'] at n6 m6 a6
  have CF := Lib.hid (knowF (HG.out.below a6) m6 n6)
  have HB6 := Lib.hid a6
  clear b4 a5 a6 n5 n6 m6 hW5' hW6' hb4 z0 z1 z2 z3 z4
  go_wp2_with fail
  refine CF.out.mono ?_
  rintro e1 w7 ⟨rfl, hb7⟩
  have HB7 := Lib.hid (HB6.out.trans (hb7.mono HB6.out.size))
  clear hb7
  go_wp2_with fail
  refine (CT _).out.mono ?_
  rintro e1 w8 ⟨rfl, hb8⟩
  have HB8 := Lib.hid (HB7.out.trans (hb8.mono HB7.out.size))
  clear hb8
  go_wp2_with fail
  go_ret
  exact EndsB.of rfl HB8.out
/-- What a text tells has numbers of an int64. -/
theorem told_lo (t : List UInt8) : LoL (fileT t).1 := by
  by_cases he : (Lex.words t).2 = 0
  · by_cases hn : 24 < Prs.nestD (Lex.words t).1
    · rw [Prg.fileT_deep he hn]
      exact fun g hg => by simp [zeroL] at hg
    · by_cases h3 : Prs.endE (Prs.fileD ⟨(Lex.words t).1, false, false⟩).2 = 0
      · rw [Prg.fileT_ok he hn h3]
        exact Prg.file_lo (fun x hx => (Prg.words_ok0 he).1 x hx)
      · rw [Prg.fileT_end he hn rfl h3]
        exact fun g hg => by simp [zeroL] at hg
  · rw [Prg.fileT_err he]
    exact fun g hg => by simp [zeroL] at hg
set_option maxHeartbeats 8000000 in
theorem again_any (t : List UInt8) (w : World) (hA : All w) : Calls Tryz.prog 7 #[.string (bs t)] w (EndsB (.bool true) w) := by
  have CF := Lib.hid (parseFile_any t w hA.t)
  have CN := fun e w' => Lib.hid (num_any e w')
  have HA := Lib.hid hA
  have HLO := Lib.hid (told_lo t)
  generalize bs t = TX at *
  clear hA
  go_enter Tryz.func7, Tryz.ntmps7
  go_wp2_with fail
  refine CF.out.mono ?_
  rintro e1 w1 ⟨f, rfl, hc, hin, _, hb1⟩
  have b2 := hb1.alloc hb1.size (.cells #[.string f.s, .slice f.ia f.i.length f.ic, .slice f.fa f.f.length f.fc] 25)
  have bb := ball_new w1 #[.string f.s, .slice f.ia f.i.length f.ic, .slice f.fa f.f.length f.fc] 25
  have n2 := new_at w1 #[.string f.s, .slice f.ia f.i.length f.ic, .slice f.fa f.f.length f.fc] 25
  rw [flV_eq]
  obtain ⟨W2, hW2⟩ : ∃ W2, w1.alloc (.cells #[.string f.s, .slice f.ia f.i.length f.ic, .slice f.fa f.f.length f.fc] 25) = W2 := ⟨_, rfl⟩
  rw [hW2] at b2 bb n2
  have HB2 := Lib.hid b2
  have HN2 := Lib.hid n2
  have hlo : LoL (coreL f) := by rw [hc]; exact HLO.out
  have C1 := Lib.hid (fun (u : World) (hu : Below W2.heap.size W2 u) => count_any f 2000 u ((hin.below bb).below hu) (by omega) (by omega))
  have C2 := Lib.hid (fun (u : World) (hu : Below W2.heap.size W2 u) => lback_any f u ((hin.below bb).below hu) ((HA.out.below b2).below hu) hlo)
  rw [flV_eq] at C1 C2
  obtain ⟨z0, z1, z2⟩ := x3 n2
  clear b2 bb n2 hc hin hb1 hlo
  generalize (fileT t).2 = en at *
  generalize min (cntF f.f : Int) (2000 + 1) = q at *
  rcases Bool.eq_false_or_eq_true (en != 0) with he | he
  · go_wp2_with fail
    refine (CN _ _).out.mono ?_
    rintro e1 w3 ⟨rfl, hw3⟩
    have hw4 := hw3.symm
    subst hw4
    go_wp2_with fail
    go_ret
    exact EndsB.of rfl HB2.out
  · go_wp2_with fail
    refine (CN _ _).out.mono ?_
    rintro e1 w3 ⟨rfl, hw3⟩
    have hw4 := hw3.symm
    subst hw4
    have C1' := Lib.hid (C1.out W2 (Below.refl _ _))
    go_wp2_with fail
    refine C1'.out.mono ?_
    rintro e1 w4 ⟨rfl, hb4⟩
    have HB4 := Lib.hid hb4
    obtain ⟨y0, y1, y2⟩ := x3 ((hb4.block _ (lt_of_heap HN2.out)).trans HN2.out)
    have C3 := Lib.hid (C2.out w4 hb4)
    clear hb4 z0 z1 z2
    by_cases hq : 2000 < q
    · go_wp2_with fail
      go_ret
      exact EndsB.of rfl (HB2.out.trans (HB4.out.mono HB2.out.size))
    · go_wp2_with fail
      refine C3.out.mono ?_
      rintro e1 w5 ⟨rfl, hb5⟩
      have HB5 := Lib.hid (HB4.out.trans (hb5.mono HB4.out.size))
      clear hb5
      go_wp2_with fail
      go_ret
      exact EndsB.of rfl (HB2.out.trans (HB5.out.mono HB2.out.size))
set_option maxHeartbeats 16000000 in
theorem printBack_any (f : Fl) (t : List UInt8) (w : World) (hf : FlIn w f) (hA : All w) (hlo : LoL (coreL f)) : Calls Tryz.prog 3 #[flV f, .string (bs t)] w (EndsB (.bool true) w) := by
  obtain ⟨W0, hW0⟩ : ∃ W0, w.alloc (.cells #[.string f.s, .slice f.ia f.i.length f.ic, .slice f.fa f.f.length f.fc] 25) = W0 := ⟨_, rfl⟩
  have HB0 : Hid (Below w.heap.size w W0) := Lib.hid (hW0 ▸ (Below.refl _ w).alloc (Nat.le_refl _) _)
  have HN0 : Hid (W0.heap[w.heap.size]? = some (.cells #[.string f.s, .slice f.ia f.i.length f.ic, .slice f.fa f.f.length f.fc] 25 (0, 0))) := Lib.hid (hW0 ▸ new_at w _ _)
  have CL := Lib.hid (Lt.light_any f W0 (hf.below HB0.out))
  have CK := Lib.hid (fun (u : World) (hu : Below w.heap.size w u) => knows_any u (hA.below hu).g)
  have CB := Lib.hid (fun (u : World) (hu : Below w.heap.size w u) => lback_any f u (hf.below hu) (hA.below hu) hlo)
  have CA := Lib.hid (fun (u : World) (hu : Below w.heap.size w u) => again_any t u (hA.below hu))
  rw [flV_eq] at CL CB ⊢
  generalize bs t = TX at *
  obtain ⟨z0, z1, z2⟩ := x3 HN0.out
  clear hf hA hlo
  obtain ⟨tl, htl⟩ : ∃ tl : Int, (TX.size : Int) = tl := ⟨_, rfl⟩
  go_enter Tryz.func3, Tryz.ntmps3
  go_wp2_with fail
  refine CL.out.mono ?_
  rintro e1 w1 ⟨v, rfl, hb1⟩
  have HB1 := Lib.hid (HB0.out.trans (hb1.mono HB0.out.size))
  obtain ⟨y0, y1, y2⟩ := x3 ((hb1.block _ (lt_of_heap HN0.out)).trans HN0.out)
  have HN1 := Lib.hid ((hb1.block _ (lt_of_heap HN0.out)).trans HN0.out)
  have CK1 := Lib.hid (CK.out w1 HB1.out)
  clear hb1 z0 z1 z2
  cases v with
  | false =>
    go_wp2_with fail
    refine CK1.out.mono ?_
    rintro e1 w2 ⟨rfl, hb2⟩
    have HB2 := Lib.hid (HB1.out.trans (hb2.mono HB1.out.size))
    clear hb2
    go_wp2_with fail
    go_ret
    exact EndsB.of rfl HB2.out
  | true =>
    by_cases hl : 1500 < tl
    · go_wp2_with fail
      refine CK1.out.mono ?_
      rintro e1 w2 ⟨rfl, hb2⟩
      have HB2 := Lib.hid (HB1.out.trans (hb2.mono HB1.out.size))
      clear hb2
      go_wp2_with fail
      go_ret
      exact EndsB.of rfl HB2.out
    · go_wp2_with fail
      refine CK1.out.mono ?_
      rintro e1 w2 ⟨rfl, hb2⟩
      have HB2 := Lib.hid (HB1.out.trans (hb2.mono HB1.out.size))
      have CB2 := Lib.hid (CB.out w2 HB2.out)
      obtain ⟨x0, x1, x2⟩ := x3 ((hb2.block _ (lt_of_heap HN1.out)).trans HN1.out)
      clear hb2 y0 y1 y2
      go_wp2_with fail
      refine CB2.out.mono ?_
      rintro e1 w3 ⟨rfl, hb3⟩
      have HB3 := Lib.hid (HB2.out.trans (hb3.mono HB2.out.size))
      have CA3 := Lib.hid (CA.out w3 HB3.out)
      clear hb3
      go_wp2_with fail
      refine CA3.out.mono ?_
      rintro e1 w4 ⟨rfl, hb4⟩
      have HB4 := Lib.hid (HB3.out.trans (hb4.mono HB3.out.size))
      clear hb4
      go_wp2_with fail
      go_ret
      exact EndsB.of rfl HB4.out
theorem printBack_str (f : Fl) (s : ByteArray) (w : World) (hf : FlIn w f) (hA : All w) (hlo : LoL (coreL f)) : Calls Tryz.prog 3 #[flV f, .string s] w (EndsB (.bool true) w) := by
  have := printBack_any f s.data.toList w hf hA hlo
  rwa [Lex.bs_of] at this
end Go.Proofs.YtmihlmlojmdhjaaGreatDoor.Wr
