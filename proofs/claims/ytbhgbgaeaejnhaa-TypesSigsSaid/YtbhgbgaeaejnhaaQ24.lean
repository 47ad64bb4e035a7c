/-
  The document's Count: how many nodes a file has, no further than most and one. Conditions: the file lies in memory.
-/
import Derived.Test.YtbhgbgaeaejnhaaQ01
import Derived.Test.YtbhgbgaeaejnhaaQ05
import Derived.Test.YtbhgbgaeaejnhaaQ23
import Derived.Deep.DeepCutAuto
import Derived.Maps.RangeWalk
namespace Go.Proofs.Ytbhgbgaeaejnhaa.Tre
open Go.RowKit
set_option maxRecDepth 100000
def cntF (l : List Fn) : Nat := (l.map (fun f => 1 + cntB f.b)).sum
theorem cntF_cons (f : Fn) (l : List Fn) : cntF (f :: l) = 1 + cntB f.b + cntF l := by simp [cntF]
theorem cntF_app (a b : List Fn) : cntF (a ++ b) = cntF a + cntF b := by simp [cntF]
theorem cntF_take {l : List Fn} {j : Nat} {f : Fn} (h : l[j]? = some f) : cntF (l.take (j + 1)) = cntF (l.take j) + (1 + cntB f.b) := by
  rw [List.take_add_one, h, cntF_app, show (some f).toList = [f] from rfl, cntF_cons, show cntF [] = 0 from rfl]
  omega
theorem cntF_le (l : List Fn) (j : Nat) : cntF (l.take j) ≤ cntF l := by
  have : cntF (l.take j) + cntF (l.drop j) = cntF l := by rw [← cntF_app, List.take_append_drop]
  omega
set_option maxHeartbeats 16000000 in
theorem count_any (f : Fl) (t : Int) (w : World) (hf : FlIn w f) (h0 : 0 ≤ t) (ht : t ≤ 1000000000) : Calls Try.prog 29 #[flV f, .int .i64 t] w (EndsB (.int .i64 (min (cntF f.f : Int) (t + 1))) w) := by
  have HR := Lib.hid hf.frow
  have HI := Lib.hid hf.fns
  have hlen := hf.flen
  obtain ⟨nm, ia, ic, i, fa, fc, l⟩ := f
  unfold flV
  dsimp only at HR HI hlen ⊢
  unfold most at hlen
  obtain ⟨k, hk⟩ : ∃ k, l.length = k := ⟨_, rfl⟩
  obtain ⟨ki, hki⟩ : ∃ k, i.length = k := ⟨_, rfl⟩
  rw [hk, hki]
  rw [hk] at hlen
  have HK := Lib.hid hk
  have HF : Hid (cntF (l.take k) = cntF l) := Lib.hid (by rw [← hk, List.take_length])
  have HL := Lib.hid (cntF_le l)
  obtain ⟨z, hz⟩ : ∃ z, cntF l = z := ⟨_, rfl⟩
  rw [hz] at HF ⊢
  have HL2 : Hid (∀ j, cntF (l.take j) ≤ z) := Lib.hid (fun j => hz ▸ HL.out j)
  clear hf hk hki HL hz
  have HB2 := Lib.hid (cell_new w #[.string nm, .slice ia ki ic, .slice fa k fc] 25)
  have HN := Lib.hid (new_at w #[.string nm, .slice ia ki ic, .slice fa k fc] 25)
  obtain ⟨W, hW⟩ : ∃ W, w.alloc (.cells #[.string nm, .slice ia ki ic, .slice fa k fc] 25) = W := ⟨_, rfl⟩
  rw [hW] at HB2 HN
  have z2 : W.cell? ⟨w.heap.size, 2, none⟩ = some (.slice fa k fc) := cell_at HN.out 2
  go_enter Try.func29, Try.ntmps29
  go_wp2_with fail
  clear z2 hW
  go_loopw [5, 6] (fun nv iv wr => ∃ j : Nat, j ≤ k ∧ iv = .int .i64 j ∧ nv = .int .i64 (min (cntF (l.take j) : Int) (t + 1)) ∧ Hid (Below W.heap.size W wr)) (fun _ iv _ => k - (intOf iv).toNat)
  case atStart => exact ⟨0, Nat.zero_le _, rfl, by congr 1; simp [cntF]; omega, Lib.hid (Below.refl _ _)⟩
  case round =>
    obtain ⟨j, hj, rfl, rfl, HB⟩ := hrel
    have a2 : wr.cell? ⟨w.heap.size, 2, none⟩ = some (.slice fa k fc) := cell_at ((HB.out.block _ (by have := HN.out; exact (Array.getElem?_eq_some_iff.1 this).1)).trans HN.out) 2
    by_cases hlt : j < k
    · have hle := HL2.out j
      obtain ⟨fe, hx⟩ : ∃ e, l[j]? = some e := ⟨_, List.getElem?_eq_getElem (by rw [HK.out]; exact hlt)⟩
      have hst := cntF_take hx
      generalize hy2 : cntF (l.take (j + 1)) = y2 at *
      obtain ⟨y1, hy1⟩ : ∃ y1, cntF (l.take j) = y1 := ⟨_, rfl⟩
      rw [hy1] at hst hle ⊢
      obtain ⟨p, hp⟩ : ∃ p, min (y1 : Int) (t + 1) = p := ⟨_, rfl⟩
      rw [hp]
      by_cases hpt : p ≤ t
      · obtain ⟨b, o1, e1, _, hc⟩ := (HR.out.below (HB2.out.trans (HB.out.mono HB2.out.size))) (by rw [HK.out]; omega)
        subst e1
        have x3 : wr.cell? ⟨b, o1 + j * 4 + 3, none⟩ = some (.slice fe.ba fe.b.length fe.bc) := hc j fe hx 3 _ rfl
        have hin := HI.out fe (List.mem_of_getElem? hx)
        have hbl : Below w.heap.size w wr := HB2.out.trans (HB.out.mono HB2.out.size)
        have CB := Lib.hid (cntB_any fe.b fe.ba fe.bc (p + 1) t wr (hin.b.below hbl) (fun s hs => (hin.sts s hs).below hbl) hin.blen (by omega) (by omega) ht)
        clear hc hin hx hbl
        generalize cntB fe.b = yb at *
        go_wp2_with fail
        refine CB.out.mono ?_
        rintro e u1 ⟨rfl, hb1⟩
        have HS1 := Lib.hid hb1
        clear hb1 CB x3 a2
        go_wp2_with fail
        go_roundw
        case rel => exact ⟨j + 1, by omega, by go_num, by rw [hy2]; congr 1; omega, Lib.hid (HB.out.trans (HS1.out.mono HB.out.size))⟩
        case measure => simp [intOf]; omega
      · clear hst hy2 hx
        have hp1 : p = t + 1 := by omega
        have HQ : Hid (min (z : Int) (t + 1) = t + 1) := Lib.hid (by omega)
        rw [hp1]
        rw [hp1] at hpt
        clear hp hp1
        go_wp2_with fail
        go_ret
        exact ⟨by rw [HQ.out]; rfl, HB2.out.trans (HB.out.mono HB2.out.size)⟩
    · obtain rfl : j = k := by omega
      have hf := HF.out
      rw [hf]
      clear hlt hj
      by_cases hzt : (z : Int) ≤ t
      · have HQ : Hid (min (z : Int) (t + 1) = z) := Lib.hid (by omega)
        rw [HQ.out]
        go_wp2_with fail
        go_ret
        exact ⟨by rw [HQ.out]; rfl, HB2.out.trans (HB.out.mono HB2.out.size)⟩
      · have HQ : Hid (min (z : Int) (t + 1) = t + 1) := Lib.hid (by omega)
        rw [HQ.out]
        go_wp2_with fail
        go_ret
        exact ⟨by rw [HQ.out]; rfl, HB2.out.trans (HB.out.mono HB2.out.size)⟩
end Go.Proofs.Ytbhgbgaeaejnhaa.Tre
/- The law's longExpr answers some number. Conditions: the expression lies in memory. -/
namespace Go.Proofs.Ytbhgbgaeaejnhaa.Lt
open Go.RowKit Tre
set_option maxRecDepth 100000
def mx (x y : Int) : Int := if y > x then y else x
/-- Some number, and new blocks. -/
def SomeN (w : World) (e : Ending) (w' : World) : Prop := ∃ v : Int, e = .returned (.int .i64 v) ∧ Below w.heap.size w w'
set_option maxHeartbeats 8000000 in
theorem longX_step (e : Ex) (d : Int) (w : World) (hin : ExIn w e) (h0 : 0 ≤ d) (hd : d ≤ 3001)
    (HC : ∀ x ∈ e.x, ∀ (d' : Int) (w' : World), 0 ≤ d' → d' ≤ 3001 → Below w.heap.size w w' → Calls Try.prog 48 #[exV x, .int .i64 d'] w' (SomeN w')) :
    Calls Try.prog 48 #[exV e, .int .i64 d] w (SomeN w) := by
  have hlen := hin.nd.len
  unfold most at hlen
  have HROW := Lib.hid hin.nd.row
  have HEL := Lib.hid HC
  clear HC
  rw [exV_eq]
  obtain ⟨W0, hW0⟩ : ∃ W0, w.alloc (.cells #[.int .i64 e.op, .int .i64 e.n, .string e.s, .string e.q, .slice e.a e.x.length e.c] 90) = W0 := ⟨_, rfl⟩
  have HB0 : Hid (Below w.heap.size w W0) := Lib.hid (hW0 ▸ (Below.refl _ w).alloc (Nat.le_refl _) _)
  have HN0 : Hid (W0.heap[w.heap.size]? = some (.cells #[.int .i64 e.op, .int .i64 e.n, .string e.s, .string e.q, .slice e.a e.x.length e.c] 90 (0, 0))) := Lib.hid (hW0 ▸ new_at w _ _)
  have HM : Hid (∀ k x, e.x[k]? = some x → x ∈ e.x) := Lib.hid (fun k x h => List.mem_of_getElem? h)
  by_cases hdeep : 3000 < d
  · clear hin hlen
    go_enter Try.func48, Try.ntmps48
    go_wp2_with fail
    go_ret
    exact ⟨_, rfl, HB0.out⟩
  · have z2 : W0.cell? ⟨w.heap.size, 2, none⟩ = some (.string e.s) := cell_at HN0.out 2
    have z3 : W0.cell? ⟨w.heap.size, 3, none⟩ = some (.string e.q) := cell_at HN0.out 3
    obtain ⟨m, hm⟩ : ∃ m, e.x.length = m := ⟨_, rfl⟩
    rw [hm] at hlen hW0 HN0 ⊢
    have HMM := Lib.hid hm
    have HLT : Hid (∀ k, k < m → ∃ x, e.x[k]? = some x) := Lib.hid (fun k hk => ⟨_, List.getElem?_eq_getElem (by rw [hm]; exact hk)⟩)
    have HW0 := Lib.hid hW0
    have hdd : d ≤ 3000 := by omega
    clear hin hm
    go_enter Try.func48, Try.ntmps48
    go_upto_region 3 with fail
    go_cut [5] (fun v wx => wx = W0 ∧ ∃ q : Int, v = .int .i64 q)
    case first =>
      go_wp2_with fail
      all_goals (go_meet; exact ⟨rfl, _, rfl⟩)
    case rest =>
      obtain ⟨hw, q, rfl⟩ := hcut
      have hw2 := hw.symm
      subst hw2
      go_wp2_with fail
      go_loopw [5, 6] (fun v i wr => ∃ (p : Int) (k : Nat), k ≤ m ∧ v = .int .i64 p ∧ i = .int .i64 k ∧ Hid (Below W0.heap.size W0 wr)) (fun _ i _ => m - (intOf i).toNat)
      case atStart => exact ⟨q, 0, Nat.zero_le _, rfl, rfl, Lib.hid (Below.refl _ _)⟩
      case round =>
        obtain ⟨p, k, hk, rfl, rfl, HB⟩ := hrel
        have z4 : wr.cell? ⟨w.heap.size, 4, none⟩ = some (.slice e.a m e.c) := cell_at ((HB.out.block _ (lt_of_heap HN0.out)).trans HN0.out) 4
        by_cases hlt : k < m
        · by_cases hp : p ≤ 300
          · obtain ⟨x, hx⟩ := HLT.out k hlt
            obtain ⟨b1, o1, ha, hc1⟩ := HROW.out.at_ (HB0.out.trans (HB.out.mono HB0.out.size)) hx
            rw [ha] at z4
            clear ha
            obtain ⟨p0, p1, p2, p3, p4⟩ := exC_at hc1
            have hd1 : d + 1 ≤ 3001 := by omega
            have CX := HEL.out x (HM.out k x hx) (d + 1) wr (by omega) hd1 (HB0.out.trans (HB.out.mono HB0.out.size))
            rw [exV_eq] at CX
            have CX := Lib.hid CX
            clear hc1 hx hd1
            go_wp2_with fail
            refine CX.out.mono ?_
            rintro e1 w1 ⟨v, rfl, hb1⟩
            have HB1 := Lib.hid (HB.out.trans (hb1.mono HB.out.size))
            clear hb1
            go_wp2_with fail
            all_goals go_roundw
            all_goals first
              | exact ⟨_, k + 1, by omega, rfl, by omega⟩
              | exact ⟨_, k + 1, by omega, rfl, rfl, HB1⟩
              | (simp [intOf]; omega)
          · have hp2 : ¬ p ≤ 300 := hp
            go_wp2_with fail
            go_ret
            exact ⟨_, rfl, HB0.out.trans (HB.out.mono HB0.out.size)⟩
        · obtain rfl : k = m := by omega
          go_wp2_with fail
          go_ret
          exact ⟨_, rfl, HB0.out.trans (HB.out.mono HB0.out.size)⟩
theorem longX_upto : ∀ (n : Nat) (e : Ex) (d : Int) (w : World), size e ≤ n → ExIn w e → 0 ≤ d → d ≤ 3001 → Calls Try.prog 48 #[exV e, .int .i64 d] w (SomeN w)
  | 0, e, d, w, h, _, _, _ => by rw [size_eq] at h; omega
  | n + 1, e, d, w, h, hin, h0, hd => longX_step e d w hin h0 hd fun x hx d' w' h0' hd' hb => longX_upto n x d' w' (by have := size_part hx; omega) ((hin.part hx).below hb) h0' hd'
theorem longX_any (e : Ex) (w : World) (hin : ExIn w e) : Calls Try.prog 48 #[exV e, .int .i64 0] w (SomeN w) := longX_upto _ e 0 w (Nat.le_refl _) hin (by omega) (by omega)
end Go.Proofs.Ytbhgbgaeaejnhaa.Lt
/- The law's long answers some number. Conditions: the statements lie in memory. -/
namespace Go.Proofs.Ytbhgbgaeaejnhaa.Lt
open Go.RowKit Tre
set_option maxRecDepth 100000
theorem SomeN.on {w u : World} (h : Below w.heap.size w u) {e : Ending} {w' : World} (k : SomeN u e w') : SomeN w e w' := by
  obtain ⟨v, e1, hb⟩ := k
  exact ⟨v, e1, h.trans (hb.mono h.size)⟩
set_option maxHeartbeats 16000000 in
theorem long_step (l : List St) (A : Option Addr) (c : Nat) (w : World) (h1 : Row 9 stC w A l) (hi : ∀ s ∈ l, StIn w s) (hlen : l.length ≤ most)
    (C : ∀ x ∈ l, ∀ (w' : World), Below w.heap.size w w' → Calls Try.prog 30 #[.slice x.a x.b.length x.c] w' (SomeN w') ∧ Calls Try.prog 30 #[.slice x.a2 x.b2.length x.c2] w' (SomeN w')) :
    Calls Try.prog 30 #[.slice A l.length c] w (SomeN w) := by
  unfold most at hlen
  have HC := Lib.hid C
  have HR := Lib.hid h1
  have HI := Lib.hid hi
  obtain ⟨k, hk⟩ : ∃ k, l.length = k := ⟨_, rfl⟩
  rw [hk] at hlen ⊢
  have HK := Lib.hid hk
  clear C h1 hi hk
  go_enter Try.func30, Try.ntmps30
  go_wp2_with fail
  go_loopw [3, 4] (fun nv iv wr => ∃ (p : Int) (j : Nat), j ≤ k ∧ nv = .int .i64 p ∧ iv = .int .i64 j ∧ Hid (Below w.heap.size w wr)) (fun _ iv _ => k - (intOf iv).toNat)
  case atStart => exact ⟨0, 0, Nat.zero_le _, rfl, rfl, Lib.hid (Below.refl _ _)⟩
  case round =>
    obtain ⟨p, j, hj, rfl, rfl, HB⟩ := hrel
    by_cases hlt : j < k
    · obtain ⟨x, hx⟩ : ∃ e, l[j]? = some e := ⟨_, List.getElem?_eq_getElem (by rw [HK.out]; exact hlt)⟩
      obtain ⟨b, o1, e1, hc0⟩ := HR.out.at_ HB.out hx
      subst e1
      have hin := HI.out x (List.mem_of_getElem? hx)
      have CE := Lib.hid (fun (u : World) (hu : Below wr.heap.size wr u) => longX_any x.e u (hin.nd.e.below (HB.out.trans (hu.mono HB.out.size))))
      rw [exV_eq] at CE
      have CB := Lib.hid (fun (u : World) (hu : Below wr.heap.size wr u) => HC.out x (List.mem_of_getElem? hx) u (HB.out.trans (hu.mono HB.out.size)))
      have HCL : Hid (∀ u : World, Below wr.heap.size wr u → u.cell? ⟨b, o1 + j * 9 + 1, none⟩ = some (.string x.s) ∧ u.cell? ⟨b, o1 + j * 9 + 2, none⟩ = some (.int .i64 x.e.op) ∧ u.cell? ⟨b, o1 + j * 9 + 3, none⟩ = some (.int .i64 x.e.n) ∧ u.cell? ⟨b, o1 + j * 9 + 4, none⟩ = some (.string x.e.s) ∧ u.cell? ⟨b, o1 + j * 9 + 5, none⟩ = some (.string x.e.q) ∧ u.cell? ⟨b, o1 + j * 9 + 6, none⟩ = some (.slice x.e.a x.e.x.length x.e.c) ∧ u.cell? ⟨b, o1 + j * 9 + 7, none⟩ = some (.slice x.a x.b.length x.c) ∧ u.cell? ⟨b, o1 + j * 9 + 8, none⟩ = some (.slice x.a2 x.b2.length x.c2)) := Lib.hid (fun u hu => by
        obtain ⟨b', o', e', hc'⟩ := HR.out.at_ (HB.out.trans (hu.mono HB.out.size)) hx
        injection e' with e'
        injection e' with e1 e2
        subst e1 e2
        exact (stC_at hc').2)
      clear hc0 hin hx
      go_wp2_with fail
      refine Lex.AtS.start (by kernel_rfl) 15 (fun u => Below wr.heap.size wr u) (by kernel_rfl) (by kernel_rfl) ?_
      have HP0 : Hid (Below wr.heap.size wr wr.drew) := Lib.hid ((Below.refl _ _).drew)
      generalize wr.drew = P0 at *
      refine Lex.at_take 0 11 (.int .i64 p) rfl rfl (by kernel_rfl) (by decide) (by decide) (fun _ _ _ h => h) (by kernel_rfl) HP0.out (fun w' hw' => ?_) ?_
      · go_simp
      go_frame
      refine Lex.at_take 1 12 (.slice (some ⟨b, o1, none⟩) k c) rfl rfl (by kernel_rfl) (by decide) (by decide) (fun _ _ _ h => h) (by kernel_rfl) HP0.out (fun w' hw' => ?_) ?_
      · go_simp
      go_frame
      refine Lex.at_take 2 13 (.int .i64 j) rfl rfl (by kernel_rfl) (by decide) (by decide) (fun _ _ _ h => h) (by kernel_rfl) HP0.out (fun w' hw' => ?_) ?_
      · go_simp
      go_frame
      refine Lex.at_take 3 14 (.pointer (some ⟨b, o1 + j * 9, none⟩)) rfl rfl (by kernel_rfl) (by decide) (by decide) (fun _ _ _ h => h) (by kernel_rfl) HP0.out (fun w' hw' => ?_) ?_
      · go_simp
      go_frame
      refine Lex.at_take 4 15 (.pointer (some ⟨b, o1 + j * 9 + 1, none⟩)) rfl rfl (by kernel_rfl) (by decide) (by decide) (fun _ _ _ h => h) (by kernel_rfl) HP0.out (fun w' hw' => ?_) ?_
      · go_simp
      go_frame
      refine Lex.at_take 5 16 (.string x.s) rfl rfl (by kernel_rfl) (by decide) (by decide) (fun _ _ _ h => h) (by kernel_rfl) HP0.out (fun w' hw' => ?_) ?_
      · obtain ⟨z1, z2, z3, z4, z5, z6, z7, z8⟩ := HCL.out w' hw'
        go_simp
      go_frame
      refine Lex.at_take 6 17 (.int .i64 x.s.size) rfl rfl (by kernel_rfl) (by decide) (by decide) (fun _ _ _ h => h) (by kernel_rfl) HP0.out (fun w' hw' => ?_) ?_
      · go_simp
      go_frame
      refine Lex.at_take 7 18 (.slice (some ⟨b, o1, none⟩) k c) rfl rfl (by kernel_rfl) (by decide) (by decide) (fun _ _ _ h => h) (by kernel_rfl) HP0.out (fun w' hw' => ?_) ?_
      · go_simp
      go_frame
      refine Lex.at_take 8 19 (.int .i64 j) rfl rfl (by kernel_rfl) (by decide) (by decide) (fun _ _ _ h => h) (by kernel_rfl) HP0.out (fun w' hw' => ?_) ?_
      · go_simp
      go_frame
      refine Lex.at_take 9 20 (.pointer (some ⟨b, o1 + j * 9, none⟩)) rfl rfl (by kernel_rfl) (by decide) (by decide) (fun _ _ _ h => h) (by kernel_rfl) HP0.out (fun w' hw' => ?_) ?_
      · go_simp
      go_frame
      refine Lex.at_take 10 21 (.pointer (some ⟨b, o1 + j * 9 + 2, none⟩)) rfl rfl (by kernel_rfl) (by decide) (by decide) (fun _ _ _ h => h) (by kernel_rfl) HP0.out (fun w' hw' => ?_) ?_
      · go_simp
      go_frame
      refine Lex.at_take 11 22 (.agg #[.int .i64 x.e.op, .int .i64 x.e.n, .string x.e.s, .string x.e.q, .slice x.e.a x.e.x.length x.e.c]) rfl rfl (by kernel_rfl) (by decide) (by decide) (fun _ _ _ h => h) (by kernel_rfl) HP0.out (fun w' hw' => ?_) ?_
      · obtain ⟨z1, z2, z3, z4, z5, z6, z7, z8⟩ := HCL.out w' hw'
        go_simp
      go_frame
      refine Lex.at_call 12 23 (f := 48) (args := #[.agg #[.int .i64 x.e.op, .int .i64 x.e.n, .string x.e.s, .string x.e.q, .slice x.e.a x.e.x.length x.e.c], .int .i64 0]) rfl rfl (by kernel_rfl) (by decide) (by kernel_rfl) ?_ ?_
      · go_simp
      refine (CE.out P0 HP0.out).mono ?_
      rintro e P1 ⟨Pv1, rfl, hb1⟩
      have HP1 : Hid (Below wr.heap.size wr P1) := Lib.hid (HP0.out.trans (hb1.mono HP0.out.size))
      refine ⟨_, rfl, HP1.out, ?_⟩
      clear hb1
      go_frame
      refine Lex.at_take 13 24 (.int .i64 (mx (x.s.size) (Pv1))) rfl rfl (by kernel_rfl) (by decide) (by decide) (fun _ _ _ h => h) (by kernel_rfl) HP1.out (fun w' hw' => ?_) ?_
      · unfold mx
        (go_simp) <;> omega
      go_frame
      refine Lex.at_take 14 25 (.int .i64 (mx (p) ((mx (x.s.size) (Pv1))))) rfl rfl (by kernel_rfl) (by decide) (by decide) (fun _ _ _ h => h) (by kernel_rfl) HP1.out (fun w' hw' => ?_) ?_
      · unfold mx
        (go_simp) <;> omega
      go_frame
      refine Lex.AtS.lastv 15 3 (.int .i64 (mx (p) ((mx (x.s.size) (Pv1))))) P1 rfl rfl (by kernel_rfl) (by kernel_rfl) (by decide) (by kernel_rfl) ?_ ?_
      · go_simp
      go_frame
      generalize (mx (p) ((mx (x.s.size) (Pv1)))) = q at *
      go_wp2_with fail
      refine Lex.AtS.start (by kernel_rfl) 15 (fun u => Below wr.heap.size wr u) (by kernel_rfl) (by kernel_rfl) ?_
      have HQ0 : Hid (Below wr.heap.size wr P1.drew) := Lib.hid ((HP1.out).drew)
      generalize P1.drew = Q0 at *
      refine Lex.at_take 0 26 (.int .i64 q) rfl rfl (by kernel_rfl) (by decide) (by decide) (fun _ _ _ h => h) (by kernel_rfl) HQ0.out (fun w' hw' => ?_) ?_
      · go_simp
      go_frame
      refine Lex.at_take 1 27 (.slice (some ⟨b, o1, none⟩) k c) rfl rfl (by kernel_rfl) (by decide) (by decide) (fun _ _ _ h => h) (by kernel_rfl) HQ0.out (fun w' hw' => ?_) ?_
      · go_simp
      go_frame
      refine Lex.at_take 2 28 (.int .i64 j) rfl rfl (by kernel_rfl) (by decide) (by decide) (fun _ _ _ h => h) (by kernel_rfl) HQ0.out (fun w' hw' => ?_) ?_
      · go_simp
      go_frame
      refine Lex.at_take 3 29 (.pointer (some ⟨b, o1 + j * 9, none⟩)) rfl rfl (by kernel_rfl) (by decide) (by decide) (fun _ _ _ h => h) (by kernel_rfl) HQ0.out (fun w' hw' => ?_) ?_
      · go_simp
      go_frame
      refine Lex.at_take 4 30 (.pointer (some ⟨b, o1 + j * 9 + 7, none⟩)) rfl rfl (by kernel_rfl) (by decide) (by decide) (fun _ _ _ h => h) (by kernel_rfl) HQ0.out (fun w' hw' => ?_) ?_
      · go_simp
      go_frame
      refine Lex.at_take 5 31 (.slice x.a x.b.length x.c) rfl rfl (by kernel_rfl) (by decide) (by decide) (fun _ _ _ h => h) (by kernel_rfl) HQ0.out (fun w' hw' => ?_) ?_
      · obtain ⟨z1, z2, z3, z4, z5, z6, z7, z8⟩ := HCL.out w' hw'
        go_simp
      go_frame
      refine Lex.at_take 7 33 (.slice (some ⟨b, o1, none⟩) k c) rfl rfl (by kernel_rfl) (by decide) (by decide) (fun _ _ _ h => h) (by kernel_rfl) HQ0.out (fun w' hw' => ?_) ?_
      · go_simp
      go_frame
      refine Lex.at_take 8 34 (.int .i64 j) rfl rfl (by kernel_rfl) (by decide) (by decide) (fun _ _ _ h => h) (by kernel_rfl) HQ0.out (fun w' hw' => ?_) ?_
      · go_simp
      go_frame
      refine Lex.at_take 9 35 (.pointer (some ⟨b, o1 + j * 9, none⟩)) rfl rfl (by kernel_rfl) (by decide) (by decide) (fun _ _ _ h => h) (by kernel_rfl) HQ0.out (fun w' hw' => ?_) ?_
      · go_simp
      go_frame
      refine Lex.at_take 10 36 (.pointer (some ⟨b, o1 + j * 9 + 8, none⟩)) rfl rfl (by kernel_rfl) (by decide) (by decide) (fun _ _ _ h => h) (by kernel_rfl) HQ0.out (fun w' hw' => ?_) ?_
      · go_simp
      go_frame
      refine Lex.at_take 11 37 (.slice x.a2 x.b2.length x.c2) rfl rfl (by kernel_rfl) (by decide) (by decide) (fun _ _ _ h => h) (by kernel_rfl) HQ0.out (fun w' hw' => ?_) ?_
      · obtain ⟨z1, z2, z3, z4, z5, z6, z7, z8⟩ := HCL.out w' hw'
        go_simp
      go_frame
      refine Lex.at_call 6 32 (f := 30) (args := #[.slice x.a x.b.length x.c]) rfl rfl (by kernel_rfl) (by decide) (by kernel_rfl) ?_ ?_
      · go_simp
      refine ((CB.out Q0 HQ0.out).1).mono ?_
      rintro e Q1 ⟨Qv1, rfl, hb1⟩
      have HQ1 : Hid (Below wr.heap.size wr Q1) := Lib.hid (HQ0.out.trans (hb1.mono HQ0.out.size))
      refine ⟨_, rfl, HQ1.out, ?_⟩
      clear hb1
      go_frame
      refine Lex.at_call 12 38 (f := 30) (args := #[.slice x.a2 x.b2.length x.c2]) rfl rfl (by kernel_rfl) (by decide) (by kernel_rfl) ?_ ?_
      · go_simp
      refine ((CB.out Q1 HQ1.out).2).mono ?_
      rintro e Q2 ⟨Qv2, rfl, hb1⟩
      have HQ2 : Hid (Below wr.heap.size wr Q2) := Lib.hid (HQ1.out.trans (hb1.mono HQ1.out.size))
      refine ⟨_, rfl, HQ2.out, ?_⟩
      clear hb1
      go_frame
      refine Lex.at_take 13 39 (.int .i64 (mx (Qv1) (Qv2))) rfl rfl (by kernel_rfl) (by decide) (by decide) (fun _ _ _ h => h) (by kernel_rfl) HQ2.out (fun w' hw' => ?_) ?_
      · unfold mx
        (go_simp) <;> omega
      go_frame
      refine Lex.at_take 14 40 (.int .i64 (mx (q) ((mx (Qv1) (Qv2))))) rfl rfl (by kernel_rfl) (by decide) (by decide) (fun _ _ _ h => h) (by kernel_rfl) HQ2.out (fun w' hw' => ?_) ?_
      · unfold mx
        (go_simp) <;> omega
      go_frame
      refine Lex.AtS.lastv 15 3 (.int .i64 (mx (q) ((mx (Qv1) (Qv2))))) Q2 rfl rfl (by kernel_rfl) (by kernel_rfl) (by decide) (by kernel_rfl) ?_ ?_
      · go_simp
      go_frame
      clear CB HCL CE
      go_wp2_with fail
      go_roundw
      case rel => exact ⟨_, j + 1, by omega, rfl, by go_num, Lib.hid (HB.out.trans (HQ2.out.mono HB.out.size))⟩
      case measure => simp [intOf]; omega
    · obtain rfl : j = k := by omega
      go_wp2_with fail
      go_ret
      exact ⟨_, rfl, HB.out⟩
theorem long_upto : ∀ (m : Nat) (l : List St) (A : Option Addr) (c : Nat) (w : World), sizeB l ≤ m → Row 9 stC w A l → (∀ s ∈ l, StIn w s) → l.length ≤ most → Calls Try.prog 30 #[.slice A l.length c] w (SomeN w)
  | 0, [], A, c, w, _, h1, hi, hl => long_step [] A c w h1 hi hl (fun x hx => by simp at hx)
  | 0, s :: l, _, _, _, h, _, _, _ => by rw [sizeB_cons, sizeS_eq] at h; omega
  | m + 1, l, A, c, w, hm, h1, hi, hl => long_step l A c w h1 hi hl (fun x hx w' hb => by
    have nx := (hi x hx).nd
    have hs := sizeS_mem hx
    rw [sizeS_eq] at hs
    exact ⟨long_upto m _ _ _ _ (by omega) (nx.row.below hb) (fun s hs => ((hi x hx).part (.inl hs)).below hb) nx.len, long_upto m _ _ _ _ (by omega) (nx.row2.below hb) (fun s hs => ((hi x hx).part (.inr hs)).below hb) nx.len2⟩)
theorem long_any (l : List St) (A : Option Addr) (c : Nat) (w : World) (h1 : Row 9 stC w A l) (hi : ∀ s ∈ l, StIn w s) (hl : l.length ≤ most) : Calls Try.prog 30 #[.slice A l.length c] w (SomeN w) := long_upto _ l A c w (Nat.le_refl _) h1 hi hl
end Go.Proofs.Ytbhgbgaeaejnhaa.Lt
