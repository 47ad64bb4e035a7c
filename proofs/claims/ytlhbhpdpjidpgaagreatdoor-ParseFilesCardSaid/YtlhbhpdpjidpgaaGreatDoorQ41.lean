/-
  The document's SameExpr, of two expressions that are the same. Conditions: both lie in memory.
-/
import Derived.Test.YtlhbhpdpjidpgaaGreatDoorQ05
import Derived.Test.YtlhbhpdpjidpgaaGreatDoorQ07
import Derived.Test.YtlhbhpdpjidpgaaGreatDoorQ14
import Derived.Test.YtlhbhpdpjidpgaaGreatDoorQ38
import Derived.Deep.DeepCutAuto
namespace Go.Proofs.YtlhbhpdpjidpgaaGreatDoor.Prs
open Go.RowKit Tre
open Lex (Wd wdC wdV bs str Turn)
set_option maxRecDepth 100000
set_option linter.unusedSimpArgs false
theorem bytes_same {s t : ByteArray} (h : s.data.toList = t.data.toList) : s = t := by
  cases s; cases t
  congr 1
  exact Array.toList_inj.1 h
theorem flat_lt {e x : Ex} (h : x ∈ e.x) : size x < size e := size_part h
set_option maxHeartbeats 8000000 in
theorem same_upto : ∀ (m : Nat) (a b : Ex) (w : World), size a ≤ m → core a = core b → ExIn w a → ExIn w b → Calls Tryz.prog 14 #[exV a, exV b] w (EndsB (.bool true) w)
  | 0, a, b, w, h, _, _, _ => by rw [size_eq] at h; omega
  | m + 1, a, b, w, hm, he, ha, hb => by
    have IH := Lib.hid (fun (x y : Ex) (w' : World) (hx : x ∈ a.x) (hy : y ∈ b.x) (hc : core x = core y) (hb' : Below w.heap.size w w') => same_upto m x y w' (by have := size_part hx; omega) hc ((ha.part hx).below hb') ((hb.part hy).below hb'))
    have HRA := Lib.hid ha.nd.row
    have HRB := Lib.hid hb.nd.row
    have hlen := ha.nd.len
    obtain ⟨o, n, s, q, A, c, x⟩ := a
    obtain ⟨o', n', s', q', A', c', y⟩ := b
    rw [core_eq, core_eq] at he
    injection he with h1 h2 h3 h4 h5
    dsimp only [Ex.op, Ex.n, Ex.s, Ex.q, Ex.x] at h1 h2 h3 h4 h5
    obtain rfl := h1
    obtain rfl := h2
    obtain rfl := bytes_same h3
    obtain rfl := bytes_same h4
    have hl : y.length = x.length := by have := congrArg List.length h5; simpa using this.symm
    have HXY := Lib.hid h5
    simp only [Ex.x, Ex.a, most] at HRA HRB IH hlen
    rw [exV_eq, exV_eq]
    dsimp only [Ex.op, Ex.n, Ex.s, Ex.q, Ex.x, Ex.a, Ex.c]
    rw [hl]
    obtain ⟨k, hk⟩ : ∃ k, x.length = k := ⟨_, rfl⟩
    rw [hk] at hlen
    rw [hk]
    have HK := Lib.hid hk
    have HKY : Hid (y.length = k) := Lib.hid (hl.trans hk)
    clear ha hb hm h3 h4 h5 hl hk
    have HB2 := Lib.hid (Tre.two_new w #[.int .i64 o, .int .i64 n, .string s, .string q, .slice A k c] #[.int .i64 o, .int .i64 n, .string s, .string q, .slice A' k c'] 36)
    have HN1 : Hid (((w.alloc (.cells #[.int .i64 o, .int .i64 n, .string s, .string q, .slice A k c] 36)).alloc (.cells #[.int .i64 o, .int .i64 n, .string s, .string q, .slice A' k c'] 36)).heap[w.heap.size]? = some (.cells #[.int .i64 o, .int .i64 n, .string s, .string q, .slice A k c] 36 (0, 0))) := Lib.hid (((ball_new _ _ _).block _ (by simp)).trans (new_at w _ _))
    have HN2 : Hid (((w.alloc (.cells #[.int .i64 o, .int .i64 n, .string s, .string q, .slice A k c] 36)).alloc (.cells #[.int .i64 o, .int .i64 n, .string s, .string q, .slice A' k c'] 36)).heap[w.heap.size + 1]? = some (.cells #[.int .i64 o, .int .i64 n, .string s, .string q, .slice A' k c'] 36 (0, 0))) := Lib.hid (by have := new_at (w.alloc (.cells #[.int .i64 o, .int .i64 n, .string s, .string q, .slice A k c] 36)) #[.int .i64 o, .int .i64 n, .string s, .string q, .slice A' k c'] 36; simpa using this)
    obtain ⟨W, hW⟩ : ∃ W, (w.alloc (.cells #[.int .i64 o, .int .i64 n, .string s, .string q, .slice A k c] 36)).alloc (.cells #[.int .i64 o, .int .i64 n, .string s, .string q, .slice A' k c'] 36) = W := ⟨_, rfl⟩
    rw [hW] at HB2 HN1 HN2
    obtain ⟨y0, y1, y2, y3, y4⟩ := five_at HN1.out
    obtain ⟨z0, z1, z2, z3, z4⟩ := five_at HN2.out
    go_enter Tryz.func14, Tryz.ntmps14
    go_wp2_with fail
    clear y0 y1 y2 y3 y4 z0 z1 z2 z3 z4 hW
    go_loopw [5] (fun iv wr => ∃ j : Nat, j ≤ k ∧ iv = .int .i64 j ∧ Hid (Below W.heap.size W wr)) (fun iv _ => k - (intOf iv).toNat)
    case atStart => exact ⟨0, Nat.zero_le _, rfl, Lib.hid (Below.refl _ _)⟩
    case round =>
      obtain ⟨j, hj, rfl, HB⟩ := hrel
      have a4 : wr.cell? ⟨w.heap.size, 4, none⟩ = some (.slice A k c) := cell_at ((HB.out.block _ (lt_of_heap HN1.out)).trans HN1.out) 4
      by_cases hlt : j < k
      · obtain ⟨xe, hx⟩ : ∃ e, x[j]? = some e := ⟨_, List.getElem?_eq_getElem (by rw [HK.out]; exact hlt)⟩
        obtain ⟨ye, hy⟩ : ∃ e, y[j]? = some e := ⟨_, List.getElem?_eq_getElem (by rw [HKY.out]; exact hlt)⟩
        obtain ⟨b1, o1, rfl, -⟩ := HRA.out.at_ (Below.refl _ _) hx
        obtain ⟨b2, o2, rfl, -⟩ := HRB.out.at_ (Below.refl _ _) hy
        have HC : Hid (core xe = core ye) := Lib.hid (by
          have h1 : (x.map core)[j]? = (y.map core)[j]? := by rw [HXY.out]
          rw [List.getElem?_map, List.getElem?_map, hx, hy] at h1
          simpa using h1)
        have HX := Lib.hid hx
        have HY := Lib.hid hy
        have HF : Hid (∀ u : World, Below wr.heap.size wr u → u.cell? ⟨w.heap.size, 4, none⟩ = some (.slice (some ⟨b1, o1, none⟩) k c) ∧ u.cell? ⟨w.heap.size + 1, 4, none⟩ = some (.slice (some ⟨b2, o2, none⟩) k c')) := Lib.hid (fun u hu => by
          have hb := HB.out.trans (hu.mono HB.out.size)
          exact ⟨cell_at ((hb.block _ (lt_of_heap HN1.out)).trans HN1.out) 4, cell_at ((hb.block _ (lt_of_heap HN2.out)).trans HN2.out) 4⟩)
        have HFX : Hid (∀ u : World, Below wr.heap.size wr u → u.cell? ⟨b1, o1 + j * 5, none⟩ = some (.int .i64 xe.op) ∧ u.cell? ⟨b1, o1 + j * 5 + 1, none⟩ = some (.int .i64 xe.n) ∧ u.cell? ⟨b1, o1 + j * 5 + 2, none⟩ = some (.string xe.s) ∧ u.cell? ⟨b1, o1 + j * 5 + 3, none⟩ = some (.string xe.q) ∧ u.cell? ⟨b1, o1 + j * 5 + 4, none⟩ = some (.slice xe.a xe.x.length xe.c)) := Lib.hid (fun u hu => by
          obtain ⟨b', o', e, hc⟩ := HRA.out.at_ (HB2.out.trans ((HB.out.trans (hu.mono HB.out.size)).mono HB2.out.size)) HX.out
          injection e with e
          injection e with e1 e2
          subst e1 e2
          exact exC_at hc)
        have HFY : Hid (∀ u : World, Below wr.heap.size wr u → u.cell? ⟨b2, o2 + j * 5, none⟩ = some (.int .i64 ye.op) ∧ u.cell? ⟨b2, o2 + j * 5 + 1, none⟩ = some (.int .i64 ye.n) ∧ u.cell? ⟨b2, o2 + j * 5 + 2, none⟩ = some (.string ye.s) ∧ u.cell? ⟨b2, o2 + j * 5 + 3, none⟩ = some (.string ye.q) ∧ u.cell? ⟨b2, o2 + j * 5 + 4, none⟩ = some (.slice ye.a ye.x.length ye.c)) := Lib.hid (fun u hu => by
          obtain ⟨b', o', e, hc⟩ := HRB.out.at_ (HB2.out.trans ((HB.out.trans (hu.mono HB.out.size)).mono HB2.out.size)) HY.out
          injection e with e
          injection e with e1 e2
          subst e1 e2
          exact exC_at hc)
        have CI := Lib.hid (fun (u : World) (hu : Below wr.heap.size wr u) => IH.out xe ye u (List.mem_of_getElem? HX.out) (List.mem_of_getElem? HY.out) HC.out (HB2.out.trans ((HB.out.trans (hu.mono HB.out.size)).mono HB2.out.size)))
        rw [exV_eq, exV_eq] at CI
        clear hx hy HX HY HC
        go_wp2_with fail
        clear a4
        have HS0 : Hid (Below wr.heap.size wr wr.drew) := Lib.hid ((Below.refl _ _).drew)
        refine Lex.AtS.start (by kernel_rfl) 11 (fun u => Below wr.heap.size wr u) (by kernel_rfl) (by kernel_rfl) ?_
        generalize wr.drew = u0 at *
        refine Lex.at_take 0 48 (.pointer (some ⟨w.heap.size, 4, none⟩)) rfl rfl (by kernel_rfl) (by decide) (by decide) (fun _ _ _ h => h) (by kernel_rfl) HS0.out (fun w' hw' => ?_) ?_
        · go_simp
        go_frame
        refine Lex.at_take 1 49 (.slice (some ⟨b1, o1, none⟩) k c) rfl rfl (by kernel_rfl) (by decide) (by decide) (fun _ _ _ h => h) (by kernel_rfl) HS0.out (fun w' hw' => ?_) ?_
        · obtain ⟨x0, x1⟩ := HF.out w' hw'
          go_simp
        go_frame
        refine Lex.at_take 2 50 (.int .i64 j) rfl rfl (by kernel_rfl) (by decide) (by decide) (fun _ _ _ h => h) (by kernel_rfl) HS0.out (fun w' hw' => ?_) ?_
        · go_simp
        go_frame
        refine Lex.at_take 3 51 (.pointer (some ⟨b1, o1 + j * 5, none⟩)) rfl rfl (by kernel_rfl) (by decide) (by decide) (fun _ _ _ h => h) (by kernel_rfl) HS0.out (fun w' hw' => ?_) ?_
        · go_simp
        go_frame
        refine Lex.at_take 4 52 (.agg #[.int .i64 xe.op, .int .i64 xe.n, .string xe.s, .string xe.q, .slice xe.a xe.x.length xe.c]) rfl rfl (by kernel_rfl) (by decide) (by decide) (fun _ _ _ h => h) (by kernel_rfl) HS0.out (fun w' hw' => ?_) ?_
        · obtain ⟨x0, x1, x2, x3, x4⟩ := HFX.out w' hw'
          go_simp
        go_frame
        refine Lex.at_take 5 53 (.pointer (some ⟨w.heap.size + 1, 4, none⟩)) rfl rfl (by kernel_rfl) (by decide) (by decide) (fun _ _ _ h => h) (by kernel_rfl) HS0.out (fun w' hw' => ?_) ?_
        · go_simp
        go_frame
        refine Lex.at_take 6 54 (.slice (some ⟨b2, o2, none⟩) k c') rfl rfl (by kernel_rfl) (by decide) (by decide) (fun _ _ _ h => h) (by kernel_rfl) HS0.out (fun w' hw' => ?_) ?_
        · obtain ⟨x0, x1⟩ := HF.out w' hw'
          go_simp
        go_frame
        refine Lex.at_take 7 55 (.int .i64 j) rfl rfl (by kernel_rfl) (by decide) (by decide) (fun _ _ _ h => h) (by kernel_rfl) HS0.out (fun w' hw' => ?_) ?_
        · go_simp
        go_frame
        refine Lex.at_take 8 56 (.pointer (some ⟨b2, o2 + j * 5, none⟩)) rfl rfl (by kernel_rfl) (by decide) (by decide) (fun _ _ _ h => h) (by kernel_rfl) HS0.out (fun w' hw' => ?_) ?_
        · go_simp
        go_frame
        refine Lex.at_take 9 57 (.agg #[.int .i64 ye.op, .int .i64 ye.n, .string ye.s, .string ye.q, .slice ye.a ye.x.length ye.c]) rfl rfl (by kernel_rfl) (by decide) (by decide) (fun _ _ _ h => h) (by kernel_rfl) HS0.out (fun w' hw' => ?_) ?_
        · obtain ⟨x0, x1, x2, x3, x4⟩ := HFY.out w' hw'
          go_simp
        go_frame
        refine Lex.at_call 10 58 (f := 14) (args := #[.agg #[.int .i64 xe.op, .int .i64 xe.n, .string xe.s, .string xe.q, .slice xe.a xe.x.length xe.c], .agg #[.int .i64 ye.op, .int .i64 ye.n, .string ye.s, .string ye.q, .slice ye.a ye.x.length ye.c]]) rfl rfl (by kernel_rfl) (by decide) (by kernel_rfl) ?_ ?_
        · go_simp
        refine (CI.out u0 HS0.out).mono ?_
        rintro e u1 ⟨rfl, hb1⟩
        have HB5 : Hid (Below wr.heap.size wr u1) := Lib.hid (HS0.out.trans (hb1.mono HS0.out.size))
        refine ⟨_, rfl, HB5.out, ?_⟩
        clear hb1 CI HF HFX HFY
        go_frame
        refine Lex.AtS.lastv 11 59 (.bool false) u1 rfl rfl (by kernel_rfl) (by kernel_rfl) (by decide) (by kernel_rfl) ?_ ?_
        · go_simp
        go_frame
        go_wp2_with fail
        go_roundw
        case rel => exact ⟨j + 1, by omega, by go_num, Lib.hid (HB.out.trans (HB5.out.mono HB.out.size))⟩
        case measure => simp [intOf]; omega
      · obtain rfl : j = k := by omega
        clear hlt hj
        go_wp2_with fail
        go_ret
        exact ⟨rfl, HB2.out.trans (HB.out.mono HB2.out.size)⟩
theorem same_ex (a b : Ex) (w : World) (h : core a = core b) (ha : ExIn w a) (hb : ExIn w b) : Calls Tryz.prog 14 #[exV a, exV b] w (EndsB (.bool true) w) := same_upto _ a b w (Nat.le_refl _) h ha hb
end Go.Proofs.YtlhbhpdpjidpgaaGreatDoor.Prs
/- The document's sameBody, of two rows of statements that are the same. Conditions: both lie in memory. -/
namespace Go.Proofs.YtlhbhpdpjidpgaaGreatDoor.Prs
open Go.RowKit Tre
open Lex (Wd wdC wdV bs str Turn)
set_option maxRecDepth 100000
set_option linter.unusedSimpArgs false
set_option maxHeartbeats 16000000 in
theorem same_body_step (l1 l2 : List St) (A A' : Option Addr) (c c' : Nat) (w : World) (h : l1.map coreS = l2.map coreS) (h1 : Row 9 stC w A l1) (h2 : Row 9 stC w A' l2) (hi1 : ∀ s ∈ l1, StIn w s) (hi2 : ∀ s ∈ l2, StIn w s) (hlen : l1.length ≤ most)
    (C : ∀ x ∈ l1, ∀ y ∈ l2, coreS x = coreS y → ∀ w', Below w.heap.size w w' → Calls Tryz.prog 27 #[.slice x.a x.b.length x.c, .slice y.a y.b.length y.c] w' (EndsB (.bool true) w') ∧ Calls Tryz.prog 27 #[.slice x.a2 x.b2.length x.c2, .slice y.a2 y.b2.length y.c2] w' (EndsB (.bool true) w')) :
    Calls Tryz.prog 27 #[.slice A l1.length c, .slice A' l2.length c'] w (EndsB (.bool true) w) := by
  have HC0 := Lib.hid C
  have HXY := Lib.hid h
  have HRA := Lib.hid h1
  have HRB := Lib.hid h2
  have HI1 := Lib.hid hi1
  have HI2 := Lib.hid hi2
  have hl : l2.length = l1.length := by have := congrArg List.length h; simpa using this.symm
  unfold most at hlen
  rw [hl]
  obtain ⟨k, hk⟩ : ∃ k, l1.length = k := ⟨_, rfl⟩
  rw [hk] at hlen
  rw [hk]
  have HK := Lib.hid hk
  have HKY : Hid (l2.length = k) := Lib.hid (hl.trans hk)
  clear C h h1 h2 hi1 hi2 hl hk
  go_enter Tryz.func27, Tryz.ntmps27
  go_wp2_with fail
  go_loopw [5] (fun iv wr => ∃ j : Nat, j ≤ k ∧ iv = .int .i64 j ∧ Hid (Below w.heap.size w wr)) (fun iv _ => k - (intOf iv).toNat)
  case atStart => exact ⟨0, Nat.zero_le _, rfl, Lib.hid (Below.refl _ _)⟩
  case round =>
    obtain ⟨j, hj, rfl, HB⟩ := hrel
    by_cases hlt : j < k
    · obtain ⟨xe, hx⟩ : ∃ e, l1[j]? = some e := ⟨_, List.getElem?_eq_getElem (by rw [HK.out]; exact hlt)⟩
      obtain ⟨ye, hy⟩ : ∃ e, l2[j]? = some e := ⟨_, List.getElem?_eq_getElem (by rw [HKY.out]; exact hlt)⟩
      obtain ⟨b1, o1, rfl, -⟩ := HRA.out.at_ (Below.refl _ _) hx
      obtain ⟨b2, o2, rfl, -⟩ := HRB.out.at_ (Below.refl _ _) hy
      have hc : coreS xe = coreS ye := by
        have h1 : (l1.map coreS)[j]? = (l2.map coreS)[j]? := by rw [HXY.out]
        rw [List.getElem?_map, List.getElem?_map, hx, hy] at h1
        simpa using h1
      have HC := Lib.hid hc
      rw [coreS_eq, coreS_eq] at hc
      injection hc with q1 q2 q3 q4 q5
      have hop : ye.op = xe.op := q1.symm
      have hss : ye.s = xe.s := (bytes_same q2).symm
      have HX := Lib.hid hx
      have HY := Lib.hid hy
      have HFX : Hid (∀ u : World, Below wr.heap.size wr u → u.cell? ⟨b1, o1 + j * 9, none⟩ = some (.int .i64 xe.op) ∧ u.cell? ⟨b1, o1 + j * 9 + 1, none⟩ = some (.string xe.s) ∧ u.cell? ⟨b1, o1 + j * 9 + 2, none⟩ = some (.int .i64 xe.e.op) ∧ u.cell? ⟨b1, o1 + j * 9 + 3, none⟩ = some (.int .i64 xe.e.n) ∧ u.cell? ⟨b1, o1 + j * 9 + 4, none⟩ = some (.string xe.e.s) ∧ u.cell? ⟨b1, o1 + j * 9 + 5, none⟩ = some (.string xe.e.q) ∧ u.cell? ⟨b1, o1 + j * 9 + 6, none⟩ = some (.slice xe.e.a xe.e.x.length xe.e.c) ∧ u.cell? ⟨b1, o1 + j * 9 + 7, none⟩ = some (.slice xe.a xe.b.length xe.c) ∧ u.cell? ⟨b1, o1 + j * 9 + 8, none⟩ = some (.slice xe.a2 xe.b2.length xe.c2)) := Lib.hid (fun u hu => by
        obtain ⟨b', o', e, hc⟩ := HRA.out.at_ (HB.out.trans (hu.mono HB.out.size)) HX.out
        injection e with e
        injection e with e1 e2
        subst e1 e2
        exact stC_at hc)
      have HFY : Hid (∀ u : World, Below wr.heap.size wr u → u.cell? ⟨b2, o2 + j * 9, none⟩ = some (.int .i64 xe.op) ∧ u.cell? ⟨b2, o2 + j * 9 + 1, none⟩ = some (.string xe.s) ∧ u.cell? ⟨b2, o2 + j * 9 + 2, none⟩ = some (.int .i64 ye.e.op) ∧ u.cell? ⟨b2, o2 + j * 9 + 3, none⟩ = some (.int .i64 ye.e.n) ∧ u.cell? ⟨b2, o2 + j * 9 + 4, none⟩ = some (.string ye.e.s) ∧ u.cell? ⟨b2, o2 + j * 9 + 5, none⟩ = some (.string ye.e.q) ∧ u.cell? ⟨b2, o2 + j * 9 + 6, none⟩ = some (.slice ye.e.a ye.e.x.length ye.e.c) ∧ u.cell? ⟨b2, o2 + j * 9 + 7, none⟩ = some (.slice ye.a ye.b.length ye.c) ∧ u.cell? ⟨b2, o2 + j * 9 + 8, none⟩ = some (.slice ye.a2 ye.b2.length ye.c2)) := Lib.hid (fun u hu => by
        obtain ⟨b', o', e, hc⟩ := HRB.out.at_ (HB.out.trans (hu.mono HB.out.size)) HY.out
        injection e with e
        injection e with e1 e2
        subst e1 e2
        rw [← hop, ← hss]
        exact stC_at hc)
      have CE := Lib.hid (fun (u : World) (hu : Below wr.heap.size wr u) => same_ex xe.e ye.e u q3 ((HI1.out xe (List.mem_of_getElem? HX.out)).nd.e.below (HB.out.trans (hu.mono HB.out.size))) ((HI2.out ye (List.mem_of_getElem? HY.out)).nd.e.below (HB.out.trans (hu.mono HB.out.size))))
      rw [exV_eq, exV_eq] at CE
      have CB := Lib.hid (fun (u : World) (hu : Below wr.heap.size wr u) => HC0.out xe (List.mem_of_getElem? HX.out) ye (List.mem_of_getElem? HY.out) HC.out u (HB.out.trans (hu.mono HB.out.size)))
      clear hx hy HX HY HC q1 q2 q3 q4 q5 hop hss
      go_wp2_with fail
      have HS0 : Hid (Below wr.heap.size wr wr.drew) := Lib.hid ((Below.refl _ _).drew)
      refine Lex.AtS.start (by kernel_rfl) 65 (fun u => Below wr.heap.size wr u) (by kernel_rfl) (by kernel_rfl) ?_
      generalize wr.drew = u0 at *
      refine Lex.at_take 0 17 (.slice (some ⟨b1, o1, none⟩) k c) rfl rfl (by kernel_rfl) (by decide) (by decide) (fun _ _ _ h => h) (by kernel_rfl) HS0.out (fun w' hw' => ?_) ?_
      · go_simp
      go_frame
      refine Lex.at_take 1 18 (.int .i64 j) rfl rfl (by kernel_rfl) (by decide) (by decide) (fun _ _ _ h => h) (by kernel_rfl) HS0.out (fun w' hw' => ?_) ?_
      · go_simp
      go_frame
      refine Lex.at_take 2 19 (.pointer (some ⟨b1, o1 + j * 9, none⟩)) rfl rfl (by kernel_rfl) (by decide) (by decide) (fun _ _ _ h => h) (by kernel_rfl) HS0.out (fun w' hw' => ?_) ?_
      · go_simp
      go_frame
      refine Lex.at_take 3 20 (.pointer (some ⟨b1, o1 + j * 9, none⟩)) rfl rfl (by kernel_rfl) (by decide) (by decide) (fun _ _ _ h => h) (by kernel_rfl) HS0.out (fun w' hw' => ?_) ?_
      · go_simp
      go_frame
      refine Lex.at_take 4 21 (.int .i64 xe.op) rfl rfl (by kernel_rfl) (by decide) (by decide) (fun _ _ _ h => h) (by kernel_rfl) HS0.out (fun w' hw' => ?_) ?_
      · obtain ⟨x0, x1, x2, x3, x4, x5, x6, x7, x8⟩ := HFX.out w' hw'
        go_simp
      go_frame
      refine Lex.at_take 5 22 (.slice (some ⟨b2, o2, none⟩) k c') rfl rfl (by kernel_rfl) (by decide) (by decide) (fun _ _ _ h => h) (by kernel_rfl) HS0.out (fun w' hw' => ?_) ?_
      · go_simp
      go_frame
      refine Lex.at_take 6 23 (.int .i64 j) rfl rfl (by kernel_rfl) (by decide) (by decide) (fun _ _ _ h => h) (by kernel_rfl) HS0.out (fun w' hw' => ?_) ?_
      · go_simp
      go_frame
      refine Lex.at_take 7 24 (.pointer (some ⟨b2, o2 + j * 9, none⟩)) rfl rfl (by kernel_rfl) (by decide) (by decide) (fun _ _ _ h => h) (by kernel_rfl) HS0.out (fun w' hw' => ?_) ?_
      · go_simp
      go_frame
      refine Lex.at_take 8 25 (.pointer (some ⟨b2, o2 + j * 9, none⟩)) rfl rfl (by kernel_rfl) (by decide) (by decide) (fun _ _ _ h => h) (by kernel_rfl) HS0.out (fun w' hw' => ?_) ?_
      · go_simp
      go_frame
      refine Lex.at_take 9 26 (.int .i64 xe.op) rfl rfl (by kernel_rfl) (by decide) (by decide) (fun _ _ _ h => h) (by kernel_rfl) HS0.out (fun w' hw' => ?_) ?_
      · obtain ⟨x0, x1, x2, x3, x4, x5, x6, x7, x8⟩ := HFY.out w' hw'
        go_simp
      go_frame
      refine Lex.at_take 10 27 (.bool false) rfl rfl (by kernel_rfl) (by decide) (by decide) (fun _ _ _ h => h) (by kernel_rfl) HS0.out (fun w' hw' => ?_) ?_
      · go_simp
      go_frame
      refine Lex.at_take 11 28 (.bool false) rfl rfl (by kernel_rfl) (by decide) (by decide) (fun _ _ _ h => h) (by kernel_rfl) HS0.out (fun w' hw' => ?_) ?_
      · go_simp
      go_frame
      refine Lex.at_take 12 29 (.slice (some ⟨b1, o1, none⟩) k c) rfl rfl (by kernel_rfl) (by decide) (by decide) (fun _ _ _ h => h) (by kernel_rfl) HS0.out (fun w' hw' => ?_) ?_
      · go_simp
      go_frame
      refine Lex.at_take 13 30 (.int .i64 j) rfl rfl (by kernel_rfl) (by decide) (by decide) (fun _ _ _ h => h) (by kernel_rfl) HS0.out (fun w' hw' => ?_) ?_
      · go_simp
      go_frame
      refine Lex.at_take 14 31 (.pointer (some ⟨b1, o1 + j * 9, none⟩)) rfl rfl (by kernel_rfl) (by decide) (by decide) (fun _ _ _ h => h) (by kernel_rfl) HS0.out (fun w' hw' => ?_) ?_
      · go_simp
      go_frame
      refine Lex.at_take 15 32 (.pointer (some ⟨b1, o1 + j * 9 + 1, none⟩)) rfl rfl (by kernel_rfl) (by decide) (by decide) (fun _ _ _ h => h) (by kernel_rfl) HS0.out (fun w' hw' => ?_) ?_
      · go_simp
      go_frame
      refine Lex.at_take 16 33 (.string xe.s) rfl rfl (by kernel_rfl) (by decide) (by decide) (fun _ _ _ h => h) (by kernel_rfl) HS0.out (fun w' hw' => ?_) ?_
      · obtain ⟨x0, x1, x2, x3, x4, x5, x6, x7, x8⟩ := HFX.out w' hw'
        go_simp
      go_frame
      refine Lex.at_take 17 34 (.slice (some ⟨b2, o2, none⟩) k c') rfl rfl (by kernel_rfl) (by decide) (by decide) (fun _ _ _ h => h) (by kernel_rfl) HS0.out (fun w' hw' => ?_) ?_
      · go_simp
      go_frame
      refine Lex.at_take 18 35 (.int .i64 j) rfl rfl (by kernel_rfl) (by decide) (by decide) (fun _ _ _ h => h) (by kernel_rfl) HS0.out (fun w' hw' => ?_) ?_
      · go_simp
      go_frame
      refine Lex.at_take 19 36 (.pointer (some ⟨b2, o2 + j * 9, none⟩)) rfl rfl (by kernel_rfl) (by decide) (by decide) (fun _ _ _ h => h) (by kernel_rfl) HS0.out (fun w' hw' => ?_) ?_
      · go_simp
      go_frame
      refine Lex.at_take 20 37 (.pointer (some ⟨b2, o2 + j * 9 + 1, none⟩)) rfl rfl (by kernel_rfl) (by decide) (by decide) (fun _ _ _ h => h) (by kernel_rfl) HS0.out (fun w' hw' => ?_) ?_
      · go_simp
      go_frame
      refine Lex.at_take 21 38 (.string xe.s) rfl rfl (by kernel_rfl) (by decide) (by decide) (fun _ _ _ h => h) (by kernel_rfl) HS0.out (fun w' hw' => ?_) ?_
      · obtain ⟨x0, x1, x2, x3, x4, x5, x6, x7, x8⟩ := HFY.out w' hw'
        go_simp
      go_frame
      refine Lex.at_take 22 39 (.bool false) rfl rfl (by kernel_rfl) (by decide) (by decide) (fun _ _ _ h => h) (by kernel_rfl) HS0.out (fun w' hw' => ?_) ?_
      · go_simp
      go_frame
      refine Lex.at_take 23 40 (.bool false) rfl rfl (by kernel_rfl) (by decide) (by decide) (fun _ _ _ h => h) (by kernel_rfl) HS0.out (fun w' hw' => ?_) ?_
      · go_simp
      go_frame
      refine Lex.at_take 24 41 (.bool false) rfl rfl (by kernel_rfl) (by decide) (by decide) (fun _ _ _ h => h) (by kernel_rfl) HS0.out (fun w' hw' => ?_) ?_
      · go_simp
      go_frame
      refine Lex.at_take 25 42 (.slice (some ⟨b1, o1, none⟩) k c) rfl rfl (by kernel_rfl) (by decide) (by decide) (fun _ _ _ h => h) (by kernel_rfl) HS0.out (fun w' hw' => ?_) ?_
      · go_simp
      go_frame
      refine Lex.at_take 26 43 (.int .i64 j) rfl rfl (by kernel_rfl) (by decide) (by decide) (fun _ _ _ h => h) (by kernel_rfl) HS0.out (fun w' hw' => ?_) ?_
      · go_simp
      go_frame
      refine Lex.at_take 27 44 (.pointer (some ⟨b1, o1 + j * 9, none⟩)) rfl rfl (by kernel_rfl) (by decide) (by decide) (fun _ _ _ h => h) (by kernel_rfl) HS0.out (fun w' hw' => ?_) ?_
      · go_simp
      go_frame
      refine Lex.at_take 28 45 (.pointer (some ⟨b1, o1 + j * 9 + 2, none⟩)) rfl rfl (by kernel_rfl) (by decide) (by decide) (fun _ _ _ h => h) (by kernel_rfl) HS0.out (fun w' hw' => ?_) ?_
      · go_simp
      go_frame
      refine Lex.at_take 29 46 (.agg #[.int .i64 xe.e.op, .int .i64 xe.e.n, .string xe.e.s, .string xe.e.q, .slice xe.e.a xe.e.x.length xe.e.c]) rfl rfl (by kernel_rfl) (by decide) (by decide) (fun _ _ _ h => h) (by kernel_rfl) HS0.out (fun w' hw' => ?_) ?_
      · obtain ⟨x0, x1, x2, x3, x4, x5, x6, x7, x8⟩ := HFX.out w' hw'
        go_simp
      go_frame
      refine Lex.at_take 30 47 (.slice (some ⟨b2, o2, none⟩) k c') rfl rfl (by kernel_rfl) (by decide) (by decide) (fun _ _ _ h => h) (by kernel_rfl) HS0.out (fun w' hw' => ?_) ?_
      · go_simp
      go_frame
      refine Lex.at_take 31 48 (.int .i64 j) rfl rfl (by kernel_rfl) (by decide) (by decide) (fun _ _ _ h => h) (by kernel_rfl) HS0.out (fun w' hw' => ?_) ?_
      · go_simp
      go_frame
      refine Lex.at_take 32 49 (.pointer (some ⟨b2, o2 + j * 9, none⟩)) rfl rfl (by kernel_rfl) (by decide) (by decide) (fun _ _ _ h => h) (by kernel_rfl) HS0.out (fun w' hw' => ?_) ?_
      · go_simp
      go_frame
      refine Lex.at_take 33 50 (.pointer (some ⟨b2, o2 + j * 9 + 2, none⟩)) rfl rfl (by kernel_rfl) (by decide) (by decide) (fun _ _ _ h => h) (by kernel_rfl) HS0.out (fun w' hw' => ?_) ?_
      · go_simp
      go_frame
      refine Lex.at_take 34 51 (.agg #[.int .i64 ye.e.op, .int .i64 ye.e.n, .string ye.e.s, .string ye.e.q, .slice ye.e.a ye.e.x.length ye.e.c]) rfl rfl (by kernel_rfl) (by decide) (by decide) (fun _ _ _ h => h) (by kernel_rfl) HS0.out (fun w' hw' => ?_) ?_
      · obtain ⟨x0, x1, x2, x3, x4, x5, x6, x7, x8⟩ := HFY.out w' hw'
        go_simp
      go_frame
      refine Lex.at_call 35 52 (f := 14) (args := #[.agg #[.int .i64 xe.e.op, .int .i64 xe.e.n, .string xe.e.s, .string xe.e.q, .slice xe.e.a xe.e.x.length xe.e.c], .agg #[.int .i64 ye.e.op, .int .i64 ye.e.n, .string ye.e.s, .string ye.e.q, .slice ye.e.a ye.e.x.length ye.e.c]]) rfl rfl (by kernel_rfl) (by decide) (by kernel_rfl) ?_ ?_
      · go_simp
      refine (CE.out u0 HS0.out).mono ?_
      rintro e u1 ⟨rfl, hb1⟩
      have HS1 : Hid (Below wr.heap.size wr u1) := Lib.hid (HS0.out.trans (hb1.mono HS0.out.size))
      refine ⟨_, rfl, HS1.out, ?_⟩
      clear hb1
      go_frame
      refine Lex.at_take 36 53 (.bool false) rfl rfl (by kernel_rfl) (by decide) (by decide) (fun _ _ _ h => h) (by kernel_rfl) HS1.out (fun w' hw' => ?_) ?_
      · go_simp
      go_frame
      refine Lex.at_take 37 54 (.bool false) rfl rfl (by kernel_rfl) (by decide) (by decide) (fun _ _ _ h => h) (by kernel_rfl) HS1.out (fun w' hw' => ?_) ?_
      · go_simp
      go_frame
      refine Lex.at_take 38 55 (.bool false) rfl rfl (by kernel_rfl) (by decide) (by decide) (fun _ _ _ h => h) (by kernel_rfl) HS1.out (fun w' hw' => ?_) ?_
      · go_simp
      go_frame
      refine Lex.at_take 39 56 (.slice (some ⟨b1, o1, none⟩) k c) rfl rfl (by kernel_rfl) (by decide) (by decide) (fun _ _ _ h => h) (by kernel_rfl) HS1.out (fun w' hw' => ?_) ?_
      · go_simp
      go_frame
      refine Lex.at_take 40 57 (.int .i64 j) rfl rfl (by kernel_rfl) (by decide) (by decide) (fun _ _ _ h => h) (by kernel_rfl) HS1.out (fun w' hw' => ?_) ?_
      · go_simp
      go_frame
      refine Lex.at_take 41 58 (.pointer (some ⟨b1, o1 + j * 9, none⟩)) rfl rfl (by kernel_rfl) (by decide) (by decide) (fun _ _ _ h => h) (by kernel_rfl) HS1.out (fun w' hw' => ?_) ?_
      · go_simp
      go_frame
      refine Lex.at_take 42 59 (.pointer (some ⟨b1, o1 + j * 9 + 7, none⟩)) rfl rfl (by kernel_rfl) (by decide) (by decide) (fun _ _ _ h => h) (by kernel_rfl) HS1.out (fun w' hw' => ?_) ?_
      · go_simp
      go_frame
      refine Lex.at_take 43 60 (.slice xe.a xe.b.length xe.c) rfl rfl (by kernel_rfl) (by decide) (by decide) (fun _ _ _ h => h) (by kernel_rfl) HS1.out (fun w' hw' => ?_) ?_
      · obtain ⟨x0, x1, x2, x3, x4, x5, x6, x7, x8⟩ := HFX.out w' hw'
        go_simp
      go_frame
      refine Lex.at_take 44 61 (.slice (some ⟨b2, o2, none⟩) k c') rfl rfl (by kernel_rfl) (by decide) (by decide) (fun _ _ _ h => h) (by kernel_rfl) HS1.out (fun w' hw' => ?_) ?_
      · go_simp
      go_frame
      refine Lex.at_take 45 62 (.int .i64 j) rfl rfl (by kernel_rfl) (by decide) (by decide) (fun _ _ _ h => h) (by kernel_rfl) HS1.out (fun w' hw' => ?_) ?_
      · go_simp
      go_frame
      refine Lex.at_take 46 63 (.pointer (some ⟨b2, o2 + j * 9, none⟩)) rfl rfl (by kernel_rfl) (by decide) (by decide) (fun _ _ _ h => h) (by kernel_rfl) HS1.out (fun w' hw' => ?_) ?_
      · go_simp
      go_frame
      refine Lex.at_take 47 64 (.pointer (some ⟨b2, o2 + j * 9 + 7, none⟩)) rfl rfl (by kernel_rfl) (by decide) (by decide) (fun _ _ _ h => h) (by kernel_rfl) HS1.out (fun w' hw' => ?_) ?_
      · go_simp
      go_frame
      refine Lex.at_take 48 65 (.slice ye.a ye.b.length ye.c) rfl rfl (by kernel_rfl) (by decide) (by decide) (fun _ _ _ h => h) (by kernel_rfl) HS1.out (fun w' hw' => ?_) ?_
      · obtain ⟨x0, x1, x2, x3, x4, x5, x6, x7, x8⟩ := HFY.out w' hw'
        go_simp
      go_frame
      refine Lex.at_call 49 66 (f := 27) (args := #[.slice xe.a xe.b.length xe.c, .slice ye.a ye.b.length ye.c]) rfl rfl (by kernel_rfl) (by decide) (by kernel_rfl) ?_ ?_
      · go_simp
      refine ((CB.out u1 HS1.out).1).mono ?_
      rintro e u2 ⟨rfl, hb1⟩
      have HS2 : Hid (Below wr.heap.size wr u2) := Lib.hid (HS1.out.trans (hb1.mono HS1.out.size))
      refine ⟨_, rfl, HS2.out, ?_⟩
      clear hb1
      go_frame
      refine Lex.at_take 50 67 (.bool false) rfl rfl (by kernel_rfl) (by decide) (by decide) (fun _ _ _ h => h) (by kernel_rfl) HS2.out (fun w' hw' => ?_) ?_
      · go_simp
      go_frame
      refine Lex.at_take 51 68 (.bool false) rfl rfl (by kernel_rfl) (by decide) (by decide) (fun _ _ _ h => h) (by kernel_rfl) HS2.out (fun w' hw' => ?_) ?_
      · go_simp
      go_frame
      refine Lex.at_take 52 69 (.bool false) rfl rfl (by kernel_rfl) (by decide) (by decide) (fun _ _ _ h => h) (by kernel_rfl) HS2.out (fun w' hw' => ?_) ?_
      · go_simp
      go_frame
      refine Lex.at_take 53 70 (.slice (some ⟨b1, o1, none⟩) k c) rfl rfl (by kernel_rfl) (by decide) (by decide) (fun _ _ _ h => h) (by kernel_rfl) HS2.out (fun w' hw' => ?_) ?_
      · go_simp
      go_frame
      refine Lex.at_take 54 71 (.int .i64 j) rfl rfl (by kernel_rfl) (by decide) (by decide) (fun _ _ _ h => h) (by kernel_rfl) HS2.out (fun w' hw' => ?_) ?_
      · go_simp
      go_frame
      refine Lex.at_take 55 72 (.pointer (some ⟨b1, o1 + j * 9, none⟩)) rfl rfl (by kernel_rfl) (by decide) (by decide) (fun _ _ _ h => h) (by kernel_rfl) HS2.out (fun w' hw' => ?_) ?_
      · go_simp
      go_frame
      refine Lex.at_take 56 73 (.pointer (some ⟨b1, o1 + j * 9 + 8, none⟩)) rfl rfl (by kernel_rfl) (by decide) (by decide) (fun _ _ _ h => h) (by kernel_rfl) HS2.out (fun w' hw' => ?_) ?_
      · go_simp
      go_frame
      refine Lex.at_take 57 74 (.slice xe.a2 xe.b2.length xe.c2) rfl rfl (by kernel_rfl) (by decide) (by decide) (fun _ _ _ h => h) (by kernel_rfl) HS2.out (fun w' hw' => ?_) ?_
      · obtain ⟨x0, x1, x2, x3, x4, x5, x6, x7, x8⟩ := HFX.out w' hw'
        go_simp
      go_frame
      refine Lex.at_take 58 75 (.slice (some ⟨b2, o2, none⟩) k c') rfl rfl (by kernel_rfl) (by decide) (by decide) (fun _ _ _ h => h) (by kernel_rfl) HS2.out (fun w' hw' => ?_) ?_
      · go_simp
      go_frame
      refine Lex.at_take 59 76 (.int .i64 j) rfl rfl (by kernel_rfl) (by decide) (by decide) (fun _ _ _ h => h) (by kernel_rfl) HS2.out (fun w' hw' => ?_) ?_
      · go_simp
      go_frame
      refine Lex.at_take 60 77 (.pointer (some ⟨b2, o2 + j * 9, none⟩)) rfl rfl (by kernel_rfl) (by decide) (by decide) (fun _ _ _ h => h) (by kernel_rfl) HS2.out (fun w' hw' => ?_) ?_
      · go_simp
      go_frame
      refine Lex.at_take 61 78 (.pointer (some ⟨b2, o2 + j * 9 + 8, none⟩)) rfl rfl (by kernel_rfl) (by decide) (by decide) (fun _ _ _ h => h) (by kernel_rfl) HS2.out (fun w' hw' => ?_) ?_
      · go_simp
      go_frame
      refine Lex.at_take 62 79 (.slice ye.a2 ye.b2.length ye.c2) rfl rfl (by kernel_rfl) (by decide) (by decide) (fun _ _ _ h => h) (by kernel_rfl) HS2.out (fun w' hw' => ?_) ?_
      · obtain ⟨x0, x1, x2, x3, x4, x5, x6, x7, x8⟩ := HFY.out w' hw'
        go_simp
      go_frame
      refine Lex.at_call 63 80 (f := 27) (args := #[.slice xe.a2 xe.b2.length xe.c2, .slice ye.a2 ye.b2.length ye.c2]) rfl rfl (by kernel_rfl) (by decide) (by kernel_rfl) ?_ ?_
      · go_simp
      refine ((CB.out u2 HS2.out).2).mono ?_
      rintro e u3 ⟨rfl, hb1⟩
      have HS3 : Hid (Below wr.heap.size wr u3) := Lib.hid (HS2.out.trans (hb1.mono HS2.out.size))
      refine ⟨_, rfl, HS3.out, ?_⟩
      clear hb1
      go_frame
      refine Lex.at_take 64 81 (.bool false) rfl rfl (by kernel_rfl) (by decide) (by decide) (fun _ _ _ h => h) (by kernel_rfl) HS3.out (fun w' hw' => ?_) ?_
      · go_simp
      go_frame
      refine Lex.AtS.lastv 65 82 (.bool false) u3 rfl rfl (by kernel_rfl) (by kernel_rfl) (by decide) (by kernel_rfl) ?_ ?_
      · go_simp
      go_frame
      clear CB CE HFX HFY
      go_wp2_with fail
      go_roundw
      case rel => exact ⟨j + 1, by omega, by go_num, Lib.hid (HB.out.trans (HS3.out.mono HB.out.size))⟩
      case measure => simp [intOf]; omega
    · obtain rfl : j = k := by omega
      clear hlt hj
      go_wp2_with fail
      go_ret
      exact ⟨rfl, HB.out⟩
theorem same_body_upto : ∀ (m : Nat) (l1 l2 : List St) (A A' : Option Addr) (c c' : Nat) (w : World), (∀ s ∈ l1, sizeS s ≤ m) → l1.map coreS = l2.map coreS → Row 9 stC w A l1 → Row 9 stC w A' l2 → (∀ s ∈ l1, StIn w s) → (∀ s ∈ l2, StIn w s) → l1.length ≤ most → Calls Tryz.prog 27 #[.slice A l1.length c, .slice A' l2.length c'] w (EndsB (.bool true) w)
  | 0, l1, l2, A, A', c, c', w, hm, h, h1, h2, hi1, hi2, hl => same_body_step l1 l2 A A' c c' w h h1 h2 hi1 hi2 hl (fun x hx => by have := hm x hx; rw [sizeS_eq] at this; omega)
  | m + 1, l1, l2, A, A', c, c', w, hm, h, h1, h2, hi1, hi2, hl => same_body_step l1 l2 A A' c c' w h h1 h2 hi1 hi2 hl (fun x hx y hy hc w' hb => by
    rw [coreS_eq, coreS_eq] at hc
    injection hc with q1 q2 q3 q4 q5
    have nx := (hi1 x hx).nd
    have ny := (hi2 y hy).nd
    exact ⟨same_body_upto m _ _ _ _ _ _ w' (fun s hs => by have := hm x hx; have := sizeS_part (s := x) (x := s) (.inl hs); omega) q4 (nx.row.below hb) (ny.row.below hb) (fun s hs => ((hi1 x hx).part (.inl hs)).below hb) (fun s hs => ((hi2 y hy).part (.inl hs)).below hb) nx.len,
      same_body_upto m _ _ _ _ _ _ w' (fun s hs => by have := hm x hx; have := sizeS_part (s := x) (x := s) (.inr hs); omega) q5 (nx.row2.below hb) (ny.row2.below hb) (fun s hs => ((hi1 x hx).part (.inr hs)).below hb) (fun s hs => ((hi2 y hy).part (.inr hs)).below hb) nx.len2⟩)
theorem same_body (l1 l2 : List St) (A A' : Option Addr) (c c' : Nat) (w : World) (h : l1.map coreS = l2.map coreS) (h1 : Row 9 stC w A l1) (h2 : Row 9 stC w A' l2) (hi1 : ∀ s ∈ l1, StIn w s) (hi2 : ∀ s ∈ l2, StIn w s) (hl : l1.length ≤ most) : Calls Tryz.prog 27 #[.slice A l1.length c, .slice A' l2.length c'] w (EndsB (.bool true) w) := by
  obtain ⟨m, hm⟩ : ∃ m, ∀ s ∈ l1, sizeS s ≤ m := by
    clear h h1 hi1 hl
    induction l1 with
    | nil => exact ⟨0, fun s hs => by simp at hs⟩
    | cons x r ih =>
      obtain ⟨m, hm⟩ := ih
      exact ⟨max m (sizeS x), fun s hs => by
        rcases List.mem_cons.1 hs with rfl | hs
        · omega
        · have := hm s hs; omega⟩
  exact same_body_upto m l1 l2 A A' c c' w hm h h1 h2 hi1 hi2 hl
end Go.Proofs.YtlhbhpdpjidpgaaGreatDoor.Prs
