/-
  The document's countBody: how many nodes a row of statements has, no further than most and one. Conditions: the row lies in memory.
-/
import Derived.Test.YtbhgbgaeaejnhaaQ05
import Derived.Test.YtbhgbgaeaejnhaaQ22
import Derived.Maps.RangeWalk
namespace Go.Proofs.Ytbhgbgaeaejnhaa.Tre
open Go.RowKit
set_option maxRecDepth 100000
def cntB (l : List St) : Nat := ((flatB l).flatMap (nodesS countsB)).length
def ownB (s : St) : Nat := if countsB s = true then size s.e else 0
theorem cntB_cons (s : St) (l : List St) : cntB (s :: l) = 1 + ownB s + cntB s.b + cntB s.b2 + cntB l := by
  unfold cntB
  rw [flatB_cons, flatS_eq, List.flatMap_append, List.length_append, List.flatMap_cons, List.length_append, List.flatMap_append, List.length_append]
  have : (nodesS countsB s).length = 1 + ownB s := by
    unfold nodesS ownB size
    split <;> simp <;> omega
  omega
theorem cntB_app (a b : List St) : cntB (a ++ b) = cntB a + cntB b := by
  unfold cntB
  rw [flatB_app, List.flatMap_append, List.length_append]
theorem cntB_take {l : List St} {j : Nat} {s : St} (h : l[j]? = some s) : cntB (l.take (j + 1)) = cntB (l.take j) + (1 + ownB s + cntB s.b + cntB s.b2) := by
  rw [List.take_add_one, h, cntB_app, show (some s).toList = [s] from rfl, cntB_cons, show cntB [] = 0 from rfl]
  omega
theorem cntB_le (l : List St) (j : Nat) : cntB (l.take j) ≤ cntB l := by
  have : cntB (l.take j) + cntB (l.drop j) = cntB l := by rw [← cntB_app, List.take_append_drop]
  omega
theorem stC_cells {w : World} {b o j : Nat} {x : St} (h : ∀ (r : Nat) (u : Value), (stC x)[r]? = some u → w.cell? ⟨b, o + j * 9 + r, none⟩ = some u) :
    w.cell? ⟨b, o + j * 9, none⟩ = some (.int .i64 x.op) ∧ w.cell? ⟨b, o + j * 9 + 1, none⟩ = some (.string x.s) ∧ w.cell? ⟨b, o + j * 9 + 2, none⟩ = some (.int .i64 x.e.op) ∧ w.cell? ⟨b, o + j * 9 + 3, none⟩ = some (.int .i64 x.e.n) ∧ w.cell? ⟨b, o + j * 9 + 4, none⟩ = some (.string x.e.s) ∧ w.cell? ⟨b, o + j * 9 + 5, none⟩ = some (.string x.e.q) ∧ w.cell? ⟨b, o + j * 9 + 6, none⟩ = some (.slice x.e.a x.e.x.length x.e.c) ∧ w.cell? ⟨b, o + j * 9 + 7, none⟩ = some (.slice x.a x.b.length x.c) ∧ w.cell? ⟨b, o + j * 9 + 8, none⟩ = some (.slice x.a2 x.b2.length x.c2) := by
  obtain ⟨op, s, ⟨eo, en, es, eq, ea, ec, ex⟩, a, c, bb, a2, c2, b2⟩ := x
  exact ⟨h 0 _ rfl, h 1 _ rfl, h 2 _ rfl, h 3 _ rfl, h 4 _ rfl, h 5 _ rfl, h 6 _ rfl, h 7 _ rfl, h 8 _ rfl⟩
set_option maxHeartbeats 16000000 in
theorem cntB_step (l : List St) (A : Option Addr) (c : Nat) (n t : Int) (w : World) (h1 : Row 9 stC w A l) (hi : ∀ s ∈ l, StIn w s) (hlen : l.length ≤ most) (h0 : 0 ≤ n) (hn : n ≤ t + 1) (ht : t ≤ 1000000000)
    (C : ∀ x ∈ l, ∀ (n' : Int) (w' : World), 0 ≤ n' → n' ≤ t + 1 → Below w.heap.size w w' → Calls Try.prog 47 #[.slice x.a x.b.length x.c, .int .i64 n', .int .i64 t] w' (EndsB (.int .i64 (min (n' + cntB x.b) (t + 1))) w') ∧ Calls Try.prog 47 #[.slice x.a2 x.b2.length x.c2, .int .i64 n', .int .i64 t] w' (EndsB (.int .i64 (min (n' + cntB x.b2) (t + 1))) w')) :
    Calls Try.prog 47 #[.slice A l.length c, .int .i64 n, .int .i64 t] w (EndsB (.int .i64 (min (n + cntB l) (t + 1))) w) := by
  have HC := Lib.hid C
  have HR := Lib.hid h1
  have HI := Lib.hid hi
  unfold most at hlen
  obtain ⟨k, hk⟩ : ∃ k, l.length = k := ⟨_, rfl⟩
  rw [hk] at hlen ⊢
  have HK := Lib.hid hk
  have HF : Hid (cntB (l.take k) = cntB l) := Lib.hid (by rw [← hk, List.take_length])
  have HL := Lib.hid (cntB_le l)
  obtain ⟨z, hz⟩ : ∃ z, cntB l = z := ⟨_, rfl⟩
  rw [hz] at HF ⊢
  have HL2 : Hid (∀ j, cntB (l.take j) ≤ z) := Lib.hid (fun j => hz ▸ HL.out j)
  clear C h1 hi hk HL hz
  go_enter Try.func47, Try.ntmps47
  go_wp2_with fail
  go_loopw [1, 7] (fun nv iv wr => ∃ j : Nat, j ≤ k ∧ iv = .int .i64 j ∧ nv = .int .i64 (min (n + cntB (l.take j)) (t + 1)) ∧ Hid (Below w.heap.size w wr)) (fun _ iv _ => k - (intOf iv).toNat)
  case atStart => exact ⟨0, Nat.zero_le _, rfl, by congr 1; simp [cntB, flatB]; omega, Lib.hid (Below.refl _ _)⟩
  case round =>
    obtain ⟨j, hj, rfl, rfl, HB⟩ := hrel
    by_cases hlt : j < k
    · have hle := HL2.out j
      obtain ⟨xe, hx⟩ : ∃ e, l[j]? = some e := ⟨_, List.getElem?_eq_getElem (by rw [HK.out]; exact hlt)⟩
      have hst := cntB_take hx
      generalize hy2 : cntB (l.take (j + 1)) = y2 at *
      obtain ⟨y1, hy1⟩ : ∃ y1, cntB (l.take j) = y1 := ⟨_, rfl⟩
      rw [hy1] at hst hle ⊢
      obtain ⟨p, hp⟩ : ∃ p, min (n + (y1 : Int)) (t + 1) = p := ⟨_, rfl⟩
      rw [hp]
      by_cases hpt : p ≤ t
      · obtain ⟨b, o1, e1, _, hc⟩ := (HR.out.below HB.out) (by rw [HK.out]; omega)
        subst e1
        obtain ⟨x0, x1, x2, x3, x4, x5, x6, x7, x8⟩ := stC_cells (hc j xe hx)
        have HX := Lib.hid (hc j xe hx)
        have hin := HI.out xe (List.mem_of_getElem? hx)
        have CE := Lib.hid (fun (u : World) (hu : Below wr.heap.size wr u) (q : Int) (hq : 0 ≤ q) (hq2 : q ≤ t + 1) => count_upto _ xe.e q t u (Nat.le_refl _) (hin.nd.e.below (HB.out.trans (hu.mono HB.out.size))) hq hq2 ht)
        have CN := Lib.hid (fun (u : World) => none9_any xe.e u hin.nd.e.nd.len)
        rw [exV_agg] at CE CN
        have CB := Lib.hid (fun (u : World) (hu : Below wr.heap.size wr u) (q : Int) (hq : 0 ≤ q) (hq2 : q ≤ t + 1) => HC.out xe (List.mem_of_getElem? hx) q u hq hq2 (HB.out.trans (hu.mono HB.out.size)))
        have hcell : ∀ u : World, Below wr.heap.size wr u → u.cell? ⟨b, o1 + j * 9 + 7, none⟩ = some (.slice xe.a xe.b.length xe.c) ∧ u.cell? ⟨b, o1 + j * 9 + 8, none⟩ = some (.slice xe.a2 xe.b2.length xe.c2) ∧ u.cell? ⟨b, o1 + j * 9 + 2, none⟩ = some (.int .i64 xe.e.op) ∧ u.cell? ⟨b, o1 + j * 9 + 3, none⟩ = some (.int .i64 xe.e.n) ∧ u.cell? ⟨b, o1 + j * 9 + 4, none⟩ = some (.string xe.e.s) ∧ u.cell? ⟨b, o1 + j * 9 + 5, none⟩ = some (.string xe.e.q) ∧ u.cell? ⟨b, o1 + j * 9 + 6, none⟩ = some (.slice xe.e.a xe.e.x.length xe.e.c) := fun u hu => by
          obtain ⟨b', o', e', _, hc'⟩ := (HR.out.below (HB.out.trans (hu.mono HB.out.size))) (by rw [HK.out]; omega)
          injection e' with e'
          injection e' with e1 e2
          subst e1 e2
          obtain ⟨z0, z1, z2, z3, z4, z5, z6, z7, z8⟩ := stC_cells (hc' j xe hx)
          exact ⟨z7, z8, z2, z3, z4, z5, z6⟩
        have HCL := Lib.hid hcell
        have hown : ownB xe = if countsB xe = true then size xe.e else 0 := rfl
        unfold countsB givenB at hown
        clear hc hin hcell HX hx
        generalize ownB xe = ow at *
        generalize size xe.e = sz at *
        generalize cntB xe.b = yb at *
        generalize cntB xe.b2 = yb2 at *
        by_cases hp2 : p + 1 ≤ t
        · rcases Bool.eq_false_or_eq_true (xe.op != 8) with h8 | h8
          · have g8 : (xe.op == 8) = false := by simpa using h8
            rcases Bool.eq_false_or_eq_true (xe.op != 9) with h9 | h9
            · have g9 : (xe.op == 9) = false := by simpa using h9
              rw [g8, g9] at hown
              clear g8 g9
              rcases Bool.eq_false_or_eq_true (xe.op == 5) with h5 | h5
              · rw [h5] at hown
                simp only [Bool.false_eq_true, if_false, if_true] at hown
                obtain ⟨zx, hzx⟩ : ∃ zx, zeroX xe.e = zx := ⟨_, rfl⟩
                rw [hzx] at hown CN
                clear hzx
                go_wp2_with fail
                refine (CN.out wr).mono ?_
                rintro e u0 ⟨rfl, hb0⟩
                have HS0 : Hid (Below wr.heap.size wr u0) := Lib.hid hb0
                clear hb0 x0 x1 x2 x3 x4 x5 x6 x7 x8
                obtain ⟨x7, x8, x2, x3, x4, x5, x6⟩ := HCL.out u0 HS0.out
                cases zx with
                | true =>
                  simp only [Bool.not_true, Bool.false_eq_true, if_false] at hown
                  go_wp2_with fail
                  clear x7 x8 x2 x3 x4 x5 x6
                  clear CE
                  have HT0 : Hid (Below wr.heap.size wr u0.drew) := Lib.hid ((HS0.out).drew)
                  refine Lex.AtS.start (by kernel_rfl) 15 (fun u => Below wr.heap.size wr u) (by kernel_rfl) (by kernel_rfl) ?_
                  generalize u0.drew = d0 at *
                  refine Lex.at_take 0 65 (.slice (some ⟨b, o1, none⟩) k c) rfl rfl (by kernel_rfl) (by decide) (by decide) (fun _ _ _ h => h) (by kernel_rfl) HT0.out (fun w' hw' => ?_) ?_
                  · go_simp
                  go_frame
                  refine Lex.at_take 1 66 (.int .i64 j) rfl rfl (by kernel_rfl) (by decide) (by decide) (fun _ _ _ h => h) (by kernel_rfl) HT0.out (fun w' hw' => ?_) ?_
                  · go_simp
                  go_frame
                  refine Lex.at_take 2 67 (.pointer (some ⟨b, o1 + j * 9, none⟩)) rfl rfl (by kernel_rfl) (by decide) (by decide) (fun _ _ _ h => h) (by kernel_rfl) HT0.out (fun w' hw' => ?_) ?_
                  · go_simp
                  go_frame
                  refine Lex.at_take 3 68 (.pointer (some ⟨b, o1 + j * 9 + 8, none⟩)) rfl rfl (by kernel_rfl) (by decide) (by decide) (fun _ _ _ h => h) (by kernel_rfl) HT0.out (fun w' hw' => ?_) ?_
                  · go_simp
                  go_frame
                  refine Lex.at_take 4 69 (.slice xe.a2 xe.b2.length xe.c2) rfl rfl (by kernel_rfl) (by decide) (by decide) (fun _ _ _ h => h) (by kernel_rfl) HT0.out (fun w' hw' => ?_) ?_
                  · obtain ⟨z7, z8, -⟩ := HCL.out w' hw'
                    go_simp
                  go_frame
                  refine Lex.at_take 5 70 (.slice (some ⟨b, o1, none⟩) k c) rfl rfl (by kernel_rfl) (by decide) (by decide) (fun _ _ _ h => h) (by kernel_rfl) HT0.out (fun w' hw' => ?_) ?_
                  · go_simp
                  go_frame
                  refine Lex.at_take 6 71 (.int .i64 j) rfl rfl (by kernel_rfl) (by decide) (by decide) (fun _ _ _ h => h) (by kernel_rfl) HT0.out (fun w' hw' => ?_) ?_
                  · go_simp
                  go_frame
                  refine Lex.at_take 7 72 (.pointer (some ⟨b, o1 + j * 9, none⟩)) rfl rfl (by kernel_rfl) (by decide) (by decide) (fun _ _ _ h => h) (by kernel_rfl) HT0.out (fun w' hw' => ?_) ?_
                  · go_simp
                  go_frame
                  refine Lex.at_take 8 73 (.pointer (some ⟨b, o1 + j * 9 + 7, none⟩)) rfl rfl (by kernel_rfl) (by decide) (by decide) (fun _ _ _ h => h) (by kernel_rfl) HT0.out (fun w' hw' => ?_) ?_
                  · go_simp
                  go_frame
                  refine Lex.at_take 9 74 (.slice xe.a xe.b.length xe.c) rfl rfl (by kernel_rfl) (by decide) (by decide) (fun _ _ _ h => h) (by kernel_rfl) HT0.out (fun w' hw' => ?_) ?_
                  · obtain ⟨z7, z8, -⟩ := HCL.out w' hw'
                    go_simp
                  go_frame
                  refine Lex.at_take 10 75 (.int .i64 (p + 1)) rfl rfl (by kernel_rfl) (by decide) (by decide) (fun _ _ _ h => h) (by kernel_rfl) HT0.out (fun w' hw' => ?_) ?_
                  · go_simp
                  go_frame
                  refine Lex.at_take 11 76 (.int .i64 t) rfl rfl (by kernel_rfl) (by decide) (by decide) (fun _ _ _ h => h) (by kernel_rfl) HT0.out (fun w' hw' => ?_) ?_
                  · go_simp
                  go_frame
                  refine Lex.at_take 13 78 (.int .i64 t) rfl rfl (by kernel_rfl) (by decide) (by decide) (fun _ _ _ h => h) (by kernel_rfl) HT0.out (fun w' hw' => ?_) ?_
                  · go_simp
                  go_frame
                  refine Lex.at_call 12 77 (f := 47) (args := #[(.slice xe.a xe.b.length xe.c), .int .i64 (p + 1), .int .i64 t]) rfl rfl (by kernel_rfl) (by decide) (by kernel_rfl) ?_ ?_
                  · go_simp
                  refine ((CB.out d0 HT0.out (p + 1) (by omega) (by omega)).1).mono ?_
                  rintro e d1 ⟨rfl, hb1⟩
                  have HT1 : Hid (Below wr.heap.size wr d1) := Lib.hid (HT0.out.trans (hb1.mono HT0.out.size))
                  refine ⟨_, rfl, HT1.out, ?_⟩
                  clear hb1
                  go_frame
                  refine Lex.at_call 14 79 (f := 47) (args := #[(.slice xe.a2 xe.b2.length xe.c2), .int .i64 (min (p + 1 + (yb : Int)) (t + 1)), .int .i64 t]) rfl rfl (by kernel_rfl) (by decide) (by kernel_rfl) ?_ ?_
                  · go_simp
                  refine ((CB.out d1 HT1.out (min (p + 1 + (yb : Int)) (t + 1)) (by omega) (by omega)).2).mono ?_
                  rintro e d2 ⟨rfl, hb1⟩
                  have HT2 : Hid (Below wr.heap.size wr d2) := Lib.hid (HT1.out.trans (hb1.mono HT1.out.size))
                  refine ⟨_, rfl, HT2.out, ?_⟩
                  clear hb1
                  go_frame
                  refine Lex.AtS.lastv 15 1 (.int .i64 (min (min (p + 1 + (yb : Int)) (t + 1) + (yb2 : Int)) (t + 1))) d2 rfl rfl (by kernel_rfl) (by kernel_rfl) (by decide) (by kernel_rfl) ?_ ?_
                  · go_simp
                  go_frame
                  clear CB HCL
                  go_wp2_with fail
                  go_roundw
                  case rel => exact ⟨j + 1, by omega, by go_num, by rw [hy2]; congr 1; omega, Lib.hid (HB.out.trans (HT2.out.mono HB.out.size))⟩
                  case measure => simp [intOf]; omega
                | false =>
                  simp only [Bool.not_false, if_true] at hown
                  go_wp2_with fail
                  refine (CE.out u0 HS0.out _ (by omega) (by omega)).mono ?_
                  rintro e u1 ⟨rfl, hb1⟩
                  have HS1 : Hid (Below wr.heap.size wr u1) := Lib.hid (HS0.out.trans (hb1.mono HS0.out.size))
                  clear hb1 x7 x8 x2 x3 x4 x5 x6
                  obtain ⟨x7, x8, x2, x3, x4, x5, x6⟩ := HCL.out u1 HS1.out
                  go_wp2_with fail
                  clear x7 x8 x2 x3 x4 x5 x6
                  clear CE
                  have HT0 : Hid (Below wr.heap.size wr u1.drew) := Lib.hid ((HS1.out).drew)
                  refine Lex.AtS.start (by kernel_rfl) 15 (fun u => Below wr.heap.size wr u) (by kernel_rfl) (by kernel_rfl) ?_
                  generalize u1.drew = d0 at *
                  refine Lex.at_take 0 65 (.slice (some ⟨b, o1, none⟩) k c) rfl rfl (by kernel_rfl) (by decide) (by decide) (fun _ _ _ h => h) (by kernel_rfl) HT0.out (fun w' hw' => ?_) ?_
                  · go_simp
                  go_frame
                  refine Lex.at_take 1 66 (.int .i64 j) rfl rfl (by kernel_rfl) (by decide) (by decide) (fun _ _ _ h => h) (by kernel_rfl) HT0.out (fun w' hw' => ?_) ?_
                  · go_simp
                  go_frame
                  refine Lex.at_take 2 67 (.pointer (some ⟨b, o1 + j * 9, none⟩)) rfl rfl (by kernel_rfl) (by decide) (by decide) (fun _ _ _ h => h) (by kernel_rfl) HT0.out (fun w' hw' => ?_) ?_
                  · go_simp
                  go_frame
                  refine Lex.at_take 3 68 (.pointer (some ⟨b, o1 + j * 9 + 8, none⟩)) rfl rfl (by kernel_rfl) (by decide) (by decide) (fun _ _ _ h => h) (by kernel_rfl) HT0.out (fun w' hw' => ?_) ?_
                  · go_simp
                  go_frame
                  refine Lex.at_take 4 69 (.slice xe.a2 xe.b2.length xe.c2) rfl rfl (by kernel_rfl) (by decide) (by decide) (fun _ _ _ h => h) (by kernel_rfl) HT0.out (fun w' hw' => ?_) ?_
                  · obtain ⟨z7, z8, -⟩ := HCL.out w' hw'
                    go_simp
                  go_frame
                  refine Lex.at_take 5 70 (.slice (some ⟨b, o1, none⟩) k c) rfl rfl (by kernel_rfl) (by decide) (by decide) (fun _ _ _ h => h) (by kernel_rfl) HT0.out (fun w' hw' => ?_) ?_
                  · go_simp
                  go_frame
                  refine Lex.at_take 6 71 (.int .i64 j) rfl rfl (by kernel_rfl) (by decide) (by decide) (fun _ _ _ h => h) (by kernel_rfl) HT0.out (fun w' hw' => ?_) ?_
                  · go_simp
                  go_frame
                  refine Lex.at_take 7 72 (.pointer (some ⟨b, o1 + j * 9, none⟩)) rfl rfl (by kernel_rfl) (by decide) (by decide) (fun _ _ _ h => h) (by kernel_rfl) HT0.out (fun w' hw' => ?_) ?_
                  · go_simp
                  go_frame
                  refine Lex.at_take 8 73 (.pointer (some ⟨b, o1 + j * 9 + 7, none⟩)) rfl rfl (by kernel_rfl) (by decide) (by decide) (fun _ _ _ h => h) (by kernel_rfl) HT0.out (fun w' hw' => ?_) ?_
                  · go_simp
                  go_frame
                  refine Lex.at_take 9 74 (.slice xe.a xe.b.length xe.c) rfl rfl (by kernel_rfl) (by decide) (by decide) (fun _ _ _ h => h) (by kernel_rfl) HT0.out (fun w' hw' => ?_) ?_
                  · obtain ⟨z7, z8, -⟩ := HCL.out w' hw'
                    go_simp
                  go_frame
                  refine Lex.at_take 10 75 (.int .i64 (min (p + 1 + (sz : Int)) (t + 1))) rfl rfl (by kernel_rfl) (by decide) (by decide) (fun _ _ _ h => h) (by kernel_rfl) HT0.out (fun w' hw' => ?_) ?_
                  · go_simp
                  go_frame
                  refine Lex.at_take 11 76 (.int .i64 t) rfl rfl (by kernel_rfl) (by decide) (by decide) (fun _ _ _ h => h) (by kernel_rfl) HT0.out (fun w' hw' => ?_) ?_
                  · go_simp
                  go_frame
                  refine Lex.at_take 13 78 (.int .i64 t) rfl rfl (by kernel_rfl) (by decide) (by decide) (fun _ _ _ h => h) (by kernel_rfl) HT0.out (fun w' hw' => ?_) ?_
                  · go_simp
                  go_frame
                  refine Lex.at_call 12 77 (f := 47) (args := #[(.slice xe.a xe.b.length xe.c), .int .i64 (min (p + 1 + (sz : Int)) (t + 1)), .int .i64 t]) rfl rfl (by kernel_rfl) (by decide) (by kernel_rfl) ?_ ?_
                  · go_simp
                  refine ((CB.out d0 HT0.out (min (p + 1 + (sz : Int)) (t + 1)) (by omega) (by omega)).1).mono ?_
                  rintro e d1 ⟨rfl, hb1⟩
                  have HT1 : Hid (Below wr.heap.size wr d1) := Lib.hid (HT0.out.trans (hb1.mono HT0.out.size))
                  refine ⟨_, rfl, HT1.out, ?_⟩
                  clear hb1
                  go_frame
                  refine Lex.at_call 14 79 (f := 47) (args := #[(.slice xe.a2 xe.b2.length xe.c2), .int .i64 (min (min (p + 1 + (sz : Int)) (t + 1) + (yb : Int)) (t + 1)), .int .i64 t]) rfl rfl (by kernel_rfl) (by decide) (by kernel_rfl) ?_ ?_
                  · go_simp
                  refine ((CB.out d1 HT1.out (min (min (p + 1 + (sz : Int)) (t + 1) + (yb : Int)) (t + 1)) (by omega) (by omega)).2).mono ?_
                  rintro e d2 ⟨rfl, hb1⟩
                  have HT2 : Hid (Below wr.heap.size wr d2) := Lib.hid (HT1.out.trans (hb1.mono HT1.out.size))
                  refine ⟨_, rfl, HT2.out, ?_⟩
                  clear hb1
                  go_frame
                  refine Lex.AtS.lastv 15 1 (.int .i64 (min (min (min (p + 1 + (sz : Int)) (t + 1) + (yb : Int)) (t + 1) + (yb2 : Int)) (t + 1))) d2 rfl rfl (by kernel_rfl) (by kernel_rfl) (by decide) (by kernel_rfl) ?_ ?_
                  · go_simp
                  go_frame
                  clear CB HCL
                  go_wp2_with fail
                  go_roundw
                  case rel => exact ⟨j + 1, by omega, by go_num, by rw [hy2]; congr 1; omega, Lib.hid (HB.out.trans (HT2.out.mono HB.out.size))⟩
                  case measure => simp [intOf]; omega
              · rw [h5] at hown
                simp only [Bool.false_eq_true, if_false, if_true] at hown
                go_wp2_with fail
                refine (CE.out wr (Below.refl _ _) _ (by omega) (by omega)).mono ?_
                rintro e u1 ⟨rfl, hb1⟩
                have HS1 : Hid (Below wr.heap.size wr u1) := Lib.hid hb1
                clear hb1 x0 x1 x2 x3 x4 x5 x6 x7 x8
                obtain ⟨x7, x8, x2, x3, x4, x5, x6⟩ := HCL.out u1 HS1.out
                go_wp2_with fail
                clear x7 x8 x2 x3 x4 x5 x6
                clear CE
                have HT0 : Hid (Below wr.heap.size wr u1.drew) := Lib.hid ((HS1.out).drew)
                refine Lex.AtS.start (by kernel_rfl) 15 (fun u => Below wr.heap.size wr u) (by kernel_rfl) (by kernel_rfl) ?_
                generalize u1.drew = d0 at *
                refine Lex.at_take 0 65 (.slice (some ⟨b, o1, none⟩) k c) rfl rfl (by kernel_rfl) (by decide) (by decide) (fun _ _ _ h => h) (by kernel_rfl) HT0.out (fun w' hw' => ?_) ?_
                · go_simp
                go_frame
                refine Lex.at_take 1 66 (.int .i64 j) rfl rfl (by kernel_rfl) (by decide) (by decide) (fun _ _ _ h => h) (by kernel_rfl) HT0.out (fun w' hw' => ?_) ?_
                · go_simp
                go_frame
                refine Lex.at_take 2 67 (.pointer (some ⟨b, o1 + j * 9, none⟩)) rfl rfl (by kernel_rfl) (by decide) (by decide) (fun _ _ _ h => h) (by kernel_rfl) HT0.out (fun w' hw' => ?_) ?_
                · go_simp
                go_frame
                refine Lex.at_take 3 68 (.pointer (some ⟨b, o1 + j * 9 + 8, none⟩)) rfl rfl (by kernel_rfl) (by decide) (by decide) (fun _ _ _ h => h) (by kernel_rfl) HT0.out (fun w' hw' => ?_) ?_
                · go_simp
                go_frame
                refine Lex.at_take 4 69 (.slice xe.a2 xe.b2.length xe.c2) rfl rfl (by kernel_rfl) (by decide) (by decide) (fun _ _ _ h => h) (by kernel_rfl) HT0.out (fun w' hw' => ?_) ?_
                · obtain ⟨z7, z8, -⟩ := HCL.out w' hw'
                  go_simp
                go_frame
                refine Lex.at_take 5 70 (.slice (some ⟨b, o1, none⟩) k c) rfl rfl (by kernel_rfl) (by decide) (by decide) (fun _ _ _ h => h) (by kernel_rfl) HT0.out (fun w' hw' => ?_) ?_
                · go_simp
                go_frame
                refine Lex.at_take 6 71 (.int .i64 j) rfl rfl (by kernel_rfl) (by decide) (by decide) (fun _ _ _ h => h) (by kernel_rfl) HT0.out (fun w' hw' => ?_) ?_
                · go_simp
                go_frame
                refine Lex.at_take 7 72 (.pointer (some ⟨b, o1 + j * 9, none⟩)) rfl rfl (by kernel_rfl) (by decide) (by decide) (fun _ _ _ h => h) (by kernel_rfl) HT0.out (fun w' hw' => ?_) ?_
                · go_simp
                go_frame
                refine Lex.at_take 8 73 (.pointer (some ⟨b, o1 + j * 9 + 7, none⟩)) rfl rfl (by kernel_rfl) (by decide) (by decide) (fun _ _ _ h => h) (by kernel_rfl) HT0.out (fun w' hw' => ?_) ?_
                · go_simp
                go_frame
                refine Lex.at_take 9 74 (.slice xe.a xe.b.length xe.c) rfl rfl (by kernel_rfl) (by decide) (by decide) (fun _ _ _ h => h) (by kernel_rfl) HT0.out (fun w' hw' => ?_) ?_
                · obtain ⟨z7, z8, -⟩ := HCL.out w' hw'
                  go_simp
                go_frame
                refine Lex.at_take 10 75 (.int .i64 (min (p + 1 + (sz : Int)) (t + 1))) rfl rfl (by kernel_rfl) (by decide) (by decide) (fun _ _ _ h => h) (by kernel_rfl) HT0.out (fun w' hw' => ?_) ?_
                · go_simp
                go_frame
                refine Lex.at_take 11 76 (.int .i64 t) rfl rfl (by kernel_rfl) (by decide) (by decide) (fun _ _ _ h => h) (by kernel_rfl) HT0.out (fun w' hw' => ?_) ?_
                · go_simp
                go_frame
                refine Lex.at_take 13 78 (.int .i64 t) rfl rfl (by kernel_rfl) (by decide) (by decide) (fun _ _ _ h => h) (by kernel_rfl) HT0.out (fun w' hw' => ?_) ?_
                · go_simp
                go_frame
                refine Lex.at_call 12 77 (f := 47) (args := #[(.slice xe.a xe.b.length xe.c), .int .i64 (min (p + 1 + (sz : Int)) (t + 1)), .int .i64 t]) rfl rfl (by kernel_rfl) (by decide) (by kernel_rfl) ?_ ?_
                · go_simp
                refine ((CB.out d0 HT0.out (min (p + 1 + (sz : Int)) (t + 1)) (by omega) (by omega)).1).mono ?_
                rintro e d1 ⟨rfl, hb1⟩
                have HT1 : Hid (Below wr.heap.size wr d1) := Lib.hid (HT0.out.trans (hb1.mono HT0.out.size))
                refine ⟨_, rfl, HT1.out, ?_⟩
                clear hb1
                go_frame
                refine Lex.at_call 14 79 (f := 47) (args := #[(.slice xe.a2 xe.b2.length xe.c2), .int .i64 (min (min (p + 1 + (sz : Int)) (t + 1) + (yb : Int)) (t + 1)), .int .i64 t]) rfl rfl (by kernel_rfl) (by decide) (by kernel_rfl) ?_ ?_
                · go_simp
                refine ((CB.out d1 HT1.out (min (min (p + 1 + (sz : Int)) (t + 1) + (yb : Int)) (t + 1)) (by omega) (by omega)).2).mono ?_
                rintro e d2 ⟨rfl, hb1⟩
                have HT2 : Hid (Below wr.heap.size wr d2) := Lib.hid (HT1.out.trans (hb1.mono HT1.out.size))
                refine ⟨_, rfl, HT2.out, ?_⟩
                clear hb1
                go_frame
                refine Lex.AtS.lastv 15 1 (.int .i64 (min (min (min (p + 1 + (sz : Int)) (t + 1) + (yb : Int)) (t + 1) + (yb2 : Int)) (t + 1))) d2 rfl rfl (by kernel_rfl) (by kernel_rfl) (by decide) (by kernel_rfl) ?_ ?_
                · go_simp
                go_frame
                clear CB HCL
                go_wp2_with fail
                go_roundw
                case rel => exact ⟨j + 1, by omega, by go_num, by rw [hy2]; congr 1; omega, Lib.hid (HB.out.trans (HT2.out.mono HB.out.size))⟩
                case measure => simp [intOf]; omega
            · have g9 : xe.op = 9 := by simpa using h9
              rw [g9] at hown
              simp at hown
              go_wp2_with fail
              clear x0 x1 x2 x3 x4 x5 x6 x7 x8
              clear CE
              have HT0 : Hid (Below wr.heap.size wr wr.drew) := Lib.hid ((Below.refl _ _).drew)
              refine Lex.AtS.start (by kernel_rfl) 15 (fun u => Below wr.heap.size wr u) (by kernel_rfl) (by kernel_rfl) ?_
              generalize wr.drew = d0 at *
              refine Lex.at_take 0 65 (.slice (some ⟨b, o1, none⟩) k c) rfl rfl (by kernel_rfl) (by decide) (by decide) (fun _ _ _ h => h) (by kernel_rfl) HT0.out (fun w' hw' => ?_) ?_
              · go_simp
              go_frame
              refine Lex.at_take 1 66 (.int .i64 j) rfl rfl (by kernel_rfl) (by decide) (by decide) (fun _ _ _ h => h) (by kernel_rfl) HT0.out (fun w' hw' => ?_) ?_
              · go_simp
              go_frame
              refine Lex.at_take 2 67 (.pointer (some ⟨b, o1 + j * 9, none⟩)) rfl rfl (by kernel_rfl) (by decide) (by decide) (fun _ _ _ h => h) (by kernel_rfl) HT0.out (fun w' hw' => ?_) ?_
              · go_simp
              go_frame
              refine Lex.at_take 3 68 (.pointer (some ⟨b, o1 + j * 9 + 8, none⟩)) rfl rfl (by kernel_rfl) (by decide) (by decide) (fun _ _ _ h => h) (by kernel_rfl) HT0.out (fun w' hw' => ?_) ?_
              · go_simp
              go_frame
              refine Lex.at_take 4 69 (.slice xe.a2 xe.b2.length xe.c2) rfl rfl (by kernel_rfl) (by decide) (by decide) (fun _ _ _ h => h) (by kernel_rfl) HT0.out (fun w' hw' => ?_) ?_
              · obtain ⟨z7, z8, -⟩ := HCL.out w' hw'
                go_simp
              go_frame
              refine Lex.at_take 5 70 (.slice (some ⟨b, o1, none⟩) k c) rfl rfl (by kernel_rfl) (by decide) (by decide) (fun _ _ _ h => h) (by kernel_rfl) HT0.out (fun w' hw' => ?_) ?_
              · go_simp
              go_frame
              refine Lex.at_take 6 71 (.int .i64 j) rfl rfl (by kernel_rfl) (by decide) (by decide) (fun _ _ _ h => h) (by kernel_rfl) HT0.out (fun w' hw' => ?_) ?_
              · go_simp
              go_frame
              refine Lex.at_take 7 72 (.pointer (some ⟨b, o1 + j * 9, none⟩)) rfl rfl (by kernel_rfl) (by decide) (by decide) (fun _ _ _ h => h) (by kernel_rfl) HT0.out (fun w' hw' => ?_) ?_
              · go_simp
              go_frame
              refine Lex.at_take 8 73 (.pointer (some ⟨b, o1 + j * 9 + 7, none⟩)) rfl rfl (by kernel_rfl) (by decide) (by decide) (fun _ _ _ h => h) (by kernel_rfl) HT0.out (fun w' hw' => ?_) ?_
              · go_simp
              go_frame
              refine Lex.at_take 9 74 (.slice xe.a xe.b.length xe.c) rfl rfl (by kernel_rfl) (by decide) (by decide) (fun _ _ _ h => h) (by kernel_rfl) HT0.out (fun w' hw' => ?_) ?_
              · obtain ⟨z7, z8, -⟩ := HCL.out w' hw'
                go_simp
              go_frame
              refine Lex.at_take 10 75 (.int .i64 (p + 1)) rfl rfl (by kernel_rfl) (by decide) (by decide) (fun _ _ _ h => h) (by kernel_rfl) HT0.out (fun w' hw' => ?_) ?_
              · go_simp
              go_frame
              refine Lex.at_take 11 76 (.int .i64 t) rfl rfl (by kernel_rfl) (by decide) (by decide) (fun _ _ _ h => h) (by kernel_rfl) HT0.out (fun w' hw' => ?_) ?_
              · go_simp
              go_frame
              refine Lex.at_take 13 78 (.int .i64 t) rfl rfl (by kernel_rfl) (by decide) (by decide) (fun _ _ _ h => h) (by kernel_rfl) HT0.out (fun w' hw' => ?_) ?_
              · go_simp
              go_frame
              refine Lex.at_call 12 77 (f := 47) (args := #[(.slice xe.a xe.b.length xe.c), .int .i64 (p + 1), .int .i64 t]) rfl rfl (by kernel_rfl) (by decide) (by kernel_rfl) ?_ ?_
              · go_simp
              refine ((CB.out d0 HT0.out (p + 1) (by omega) (by omega)).1).mono ?_
              rintro e d1 ⟨rfl, hb1⟩
              have HT1 : Hid (Below wr.heap.size wr d1) := Lib.hid (HT0.out.trans (hb1.mono HT0.out.size))
              refine ⟨_, rfl, HT1.out, ?_⟩
              clear hb1
              go_frame
              refine Lex.at_call 14 79 (f := 47) (args := #[(.slice xe.a2 xe.b2.length xe.c2), .int .i64 (min (p + 1 + (yb : Int)) (t + 1)), .int .i64 t]) rfl rfl (by kernel_rfl) (by decide) (by kernel_rfl) ?_ ?_
              · go_simp
              refine ((CB.out d1 HT1.out (min (p + 1 + (yb : Int)) (t + 1)) (by omega) (by omega)).2).mono ?_
              rintro e d2 ⟨rfl, hb1⟩
              have HT2 : Hid (Below wr.heap.size wr d2) := Lib.hid (HT1.out.trans (hb1.mono HT1.out.size))
              refine ⟨_, rfl, HT2.out, ?_⟩
              clear hb1
              go_frame
              refine Lex.AtS.lastv 15 1 (.int .i64 (min (min (p + 1 + (yb : Int)) (t + 1) + (yb2 : Int)) (t + 1))) d2 rfl rfl (by kernel_rfl) (by kernel_rfl) (by decide) (by kernel_rfl) ?_ ?_
              · go_simp
              go_frame
              clear CB HCL
              go_wp2_with fail
              go_roundw
              case rel => exact ⟨j + 1, by omega, by go_num, by rw [hy2]; congr 1; omega, Lib.hid (HB.out.trans (HT2.out.mono HB.out.size))⟩
              case measure => simp [intOf]; omega
          · have g8 : xe.op = 8 := by simpa using h8
            rw [g8] at hown
            simp at hown
            go_wp2_with fail
            clear x0 x1 x2 x3 x4 x5 x6 x7 x8
            clear CE
            have HT0 : Hid (Below wr.heap.size wr wr.drew) := Lib.hid ((Below.refl _ _).drew)
            refine Lex.AtS.start (by kernel_rfl) 15 (fun u => Below wr.heap.size wr u) (by kernel_rfl) (by kernel_rfl) ?_
            generalize wr.drew = d0 at *
            refine Lex.at_take 0 65 (.slice (some ⟨b, o1, none⟩) k c) rfl rfl (by kernel_rfl) (by decide) (by decide) (fun _ _ _ h => h) (by kernel_rfl) HT0.out (fun w' hw' => ?_) ?_
            · go_simp
            go_frame
            refine Lex.at_take 1 66 (.int .i64 j) rfl rfl (by kernel_rfl) (by decide) (by decide) (fun _ _ _ h => h) (by kernel_rfl) HT0.out (fun w' hw' => ?_) ?_
            · go_simp
            go_frame
            refine Lex.at_take 2 67 (.pointer (some ⟨b, o1 + j * 9, none⟩)) rfl rfl (by kernel_rfl) (by decide) (by decide) (fun _ _ _ h => h) (by kernel_rfl) HT0.out (fun w' hw' => ?_) ?_
            · go_simp
            go_frame
            refine Lex.at_take 3 68 (.pointer (some ⟨b, o1 + j * 9 + 8, none⟩)) rfl rfl (by kernel_rfl) (by decide) (by decide) (fun _ _ _ h => h) (by kernel_rfl) HT0.out (fun w' hw' => ?_) ?_
            · go_simp
            go_frame
            refine Lex.at_take 4 69 (.slice xe.a2 xe.b2.length xe.c2) rfl rfl (by kernel_rfl) (by decide) (by decide) (fun _ _ _ h => h) (by kernel_rfl) HT0.out (fun w' hw' => ?_) ?_
            · obtain ⟨z7, z8, -⟩ := HCL.out w' hw'
              go_simp
            go_frame
            refine Lex.at_take 5 70 (.slice (some ⟨b, o1, none⟩) k c) rfl rfl (by kernel_rfl) (by decide) (by decide) (fun _ _ _ h => h) (by kernel_rfl) HT0.out (fun w' hw' => ?_) ?_
            · go_simp
            go_frame
            refine Lex.at_take 6 71 (.int .i64 j) rfl rfl (by kernel_rfl) (by decide) (by decide) (fun _ _ _ h => h) (by kernel_rfl) HT0.out (fun w' hw' => ?_) ?_
            · go_simp
            go_frame
            refine Lex.at_take 7 72 (.pointer (some ⟨b, o1 + j * 9, none⟩)) rfl rfl (by kernel_rfl) (by decide) (by decide) (fun _ _ _ h => h) (by kernel_rfl) HT0.out (fun w' hw' => ?_) ?_
            · go_simp
            go_frame
            refine Lex.at_take 8 73 (.pointer (some ⟨b, o1 + j * 9 + 7, none⟩)) rfl rfl (by kernel_rfl) (by decide) (by decide) (fun _ _ _ h => h) (by kernel_rfl) HT0.out (fun w' hw' => ?_) ?_
            · go_simp
            go_frame
            refine Lex.at_take 9 74 (.slice xe.a xe.b.length xe.c) rfl rfl (by kernel_rfl) (by decide) (by decide) (fun _ _ _ h => h) (by kernel_rfl) HT0.out (fun w' hw' => ?_) ?_
            · obtain ⟨z7, z8, -⟩ := HCL.out w' hw'
              go_simp
            go_frame
            refine Lex.at_take 10 75 (.int .i64 (p + 1)) rfl rfl (by kernel_rfl) (by decide) (by decide) (fun _ _ _ h => h) (by kernel_rfl) HT0.out (fun w' hw' => ?_) ?_
            · go_simp
            go_frame
            refine Lex.at_take 11 76 (.int .i64 t) rfl rfl (by kernel_rfl) (by decide) (by decide) (fun _ _ _ h => h) (by kernel_rfl) HT0.out (fun w' hw' => ?_) ?_
            · go_simp
            go_frame
            refine Lex.at_take 13 78 (.int .i64 t) rfl rfl (by kernel_rfl) (by decide) (by decide) (fun _ _ _ h => h) (by kernel_rfl) HT0.out (fun w' hw' => ?_) ?_
            · go_simp
            go_frame
            refine Lex.at_call 12 77 (f := 47) (args := #[(.slice xe.a xe.b.length xe.c), .int .i64 (p + 1), .int .i64 t]) rfl rfl (by kernel_rfl) (by decide) (by kernel_rfl) ?_ ?_
            · go_simp
            refine ((CB.out d0 HT0.out (p + 1) (by omega) (by omega)).1).mono ?_
            rintro e d1 ⟨rfl, hb1⟩
            have HT1 : Hid (Below wr.heap.size wr d1) := Lib.hid (HT0.out.trans (hb1.mono HT0.out.size))
            refine ⟨_, rfl, HT1.out, ?_⟩
            clear hb1
            go_frame
            refine Lex.at_call 14 79 (f := 47) (args := #[(.slice xe.a2 xe.b2.length xe.c2), .int .i64 (min (p + 1 + (yb : Int)) (t + 1)), .int .i64 t]) rfl rfl (by kernel_rfl) (by decide) (by kernel_rfl) ?_ ?_
            · go_simp
            refine ((CB.out d1 HT1.out (min (p + 1 + (yb : Int)) (t + 1)) (by omega) (by omega)).2).mono ?_
            rintro e d2 ⟨rfl, hb1⟩
            have HT2 : Hid (Below wr.heap.size wr d2) := Lib.hid (HT1.out.trans (hb1.mono HT1.out.size))
            refine ⟨_, rfl, HT2.out, ?_⟩
            clear hb1
            go_frame
            refine Lex.AtS.lastv 15 1 (.int .i64 (min (min (p + 1 + (yb : Int)) (t + 1) + (yb2 : Int)) (t + 1))) d2 rfl rfl (by kernel_rfl) (by kernel_rfl) (by decide) (by kernel_rfl) ?_ ?_
            · go_simp
            go_frame
            clear CB HCL
            go_wp2_with fail
            go_roundw
            case rel => exact ⟨j + 1, by omega, by go_num, by rw [hy2]; congr 1; omega, Lib.hid (HB.out.trans (HT2.out.mono HB.out.size))⟩
            case measure => simp [intOf]; omega
        · go_wp2_with fail
          clear x0 x1 x2 x3 x4 x5 x6 x7 x8
          clear CE
          have HT0 : Hid (Below wr.heap.size wr wr.drew) := Lib.hid ((Below.refl _ _).drew)
          refine Lex.AtS.start (by kernel_rfl) 15 (fun u => Below wr.heap.size wr u) (by kernel_rfl) (by kernel_rfl) ?_
          generalize wr.drew = d0 at *
          refine Lex.at_take 0 65 (.slice (some ⟨b, o1, none⟩) k c) rfl rfl (by kernel_rfl) (by decide) (by decide) (fun _ _ _ h => h) (by kernel_rfl) HT0.out (fun w' hw' => ?_) ?_
          · go_simp
          go_frame
          refine Lex.at_take 1 66 (.int .i64 j) rfl rfl (by kernel_rfl) (by decide) (by decide) (fun _ _ _ h => h) (by kernel_rfl) HT0.out (fun w' hw' => ?_) ?_
          · go_simp
          go_frame
          refine Lex.at_take 2 67 (.pointer (some ⟨b, o1 + j * 9, none⟩)) rfl rfl (by kernel_rfl) (by decide) (by decide) (fun _ _ _ h => h) (by kernel_rfl) HT0.out (fun w' hw' => ?_) ?_
          · go_simp
          go_frame
          refine Lex.at_take 3 68 (.pointer (some ⟨b, o1 + j * 9 + 8, none⟩)) rfl rfl (by kernel_rfl) (by decide) (by decide) (fun _ _ _ h => h) (by kernel_rfl) HT0.out (fun w' hw' => ?_) ?_
          · go_simp
          go_frame
          refine Lex.at_take 4 69 (.slice xe.a2 xe.b2.length xe.c2) rfl rfl (by kernel_rfl) (by decide) (by decide) (fun _ _ _ h => h) (by kernel_rfl) HT0.out (fun w' hw' => ?_) ?_
          · obtain ⟨z7, z8, -⟩ := HCL.out w' hw'
            go_simp
          go_frame
          refine Lex.at_take 5 70 (.slice (some ⟨b, o1, none⟩) k c) rfl rfl (by kernel_rfl) (by decide) (by decide) (fun _ _ _ h => h) (by kernel_rfl) HT0.out (fun w' hw' => ?_) ?_
          · go_simp
          go_frame
          refine Lex.at_take 6 71 (.int .i64 j) rfl rfl (by kernel_rfl) (by decide) (by decide) (fun _ _ _ h => h) (by kernel_rfl) HT0.out (fun w' hw' => ?_) ?_
          · go_simp
          go_frame
          refine Lex.at_take 7 72 (.pointer (some ⟨b, o1 + j * 9, none⟩)) rfl rfl (by kernel_rfl) (by decide) (by decide) (fun _ _ _ h => h) (by kernel_rfl) HT0.out (fun w' hw' => ?_) ?_
          · go_simp
          go_frame
          refine Lex.at_take 8 73 (.pointer (some ⟨b, o1 + j * 9 + 7, none⟩)) rfl rfl (by kernel_rfl) (by decide) (by decide) (fun _ _ _ h => h) (by kernel_rfl) HT0.out (fun w' hw' => ?_) ?_
          · go_simp
          go_frame
          refine Lex.at_take 9 74 (.slice xe.a xe.b.length xe.c) rfl rfl (by kernel_rfl) (by decide) (by decide) (fun _ _ _ h => h) (by kernel_rfl) HT0.out (fun w' hw' => ?_) ?_
          · obtain ⟨z7, z8, -⟩ := HCL.out w' hw'
            go_simp
          go_frame
          refine Lex.at_take 10 75 (.int .i64 (p + 1)) rfl rfl (by kernel_rfl) (by decide) (by decide) (fun _ _ _ h => h) (by kernel_rfl) HT0.out (fun w' hw' => ?_) ?_
          · go_simp
          go_frame
          refine Lex.at_take 11 76 (.int .i64 t) rfl rfl (by kernel_rfl) (by decide) (by decide) (fun _ _ _ h => h) (by kernel_rfl) HT0.out (fun w' hw' => ?_) ?_
          · go_simp
          go_frame
          refine Lex.at_take 13 78 (.int .i64 t) rfl rfl (by kernel_rfl) (by decide) (by decide) (fun _ _ _ h => h) (by kernel_rfl) HT0.out (fun w' hw' => ?_) ?_
          · go_simp
          go_frame
          refine Lex.at_call 12 77 (f := 47) (args := #[(.slice xe.a xe.b.length xe.c), .int .i64 (p + 1), .int .i64 t]) rfl rfl (by kernel_rfl) (by decide) (by kernel_rfl) ?_ ?_
          · go_simp
          refine ((CB.out d0 HT0.out (p + 1) (by omega) (by omega)).1).mono ?_
          rintro e d1 ⟨rfl, hb1⟩
          have HT1 : Hid (Below wr.heap.size wr d1) := Lib.hid (HT0.out.trans (hb1.mono HT0.out.size))
          refine ⟨_, rfl, HT1.out, ?_⟩
          clear hb1
          go_frame
          refine Lex.at_call 14 79 (f := 47) (args := #[(.slice xe.a2 xe.b2.length xe.c2), .int .i64 (min (p + 1 + (yb : Int)) (t + 1)), .int .i64 t]) rfl rfl (by kernel_rfl) (by decide) (by kernel_rfl) ?_ ?_
          · go_simp
          refine ((CB.out d1 HT1.out (min (p + 1 + (yb : Int)) (t + 1)) (by omega) (by omega)).2).mono ?_
          rintro e d2 ⟨rfl, hb1⟩
          have HT2 : Hid (Below wr.heap.size wr d2) := Lib.hid (HT1.out.trans (hb1.mono HT1.out.size))
          refine ⟨_, rfl, HT2.out, ?_⟩
          clear hb1
          go_frame
          refine Lex.AtS.lastv 15 1 (.int .i64 (min (min (p + 1 + (yb : Int)) (t + 1) + (yb2 : Int)) (t + 1))) d2 rfl rfl (by kernel_rfl) (by kernel_rfl) (by decide) (by kernel_rfl) ?_ ?_
          · go_simp
          go_frame
          clear CB HCL
          go_wp2_with fail
          go_roundw
          case rel => exact ⟨j + 1, by omega, by go_num, by rw [hy2]; congr 1; omega, Lib.hid (HB.out.trans (HT2.out.mono HB.out.size))⟩
          case measure => simp [intOf]; omega
      · clear hst hy2 hx
        go_wp2_with fail
        go_ret
        have hpz : p = min (n + (z : Int)) (t + 1) := by omega
        exact ⟨by rw [← hpz]; rfl, HB.out⟩
    · obtain rfl : j = k := by omega
      have hf := HF.out
      rw [hf]
      clear hlt hj
      go_wp2_with fail
      go_ret
      exact ⟨rfl, HB.out⟩
theorem cntB_upto : ∀ (m : Nat) (l : List St) (A : Option Addr) (c : Nat) (n t : Int) (w : World), sizeB l ≤ m → Row 9 stC w A l → (∀ s ∈ l, StIn w s) → l.length ≤ most → 0 ≤ n → n ≤ t + 1 → t ≤ 1000000000 → Calls Try.prog 47 #[.slice A l.length c, .int .i64 n, .int .i64 t] w (EndsB (.int .i64 (min (n + cntB l) (t + 1))) w)
  | 0, [], A, c, n, t, w, _, h1, hi, hl, h0, hn, ht => cntB_step [] A c n t w h1 hi hl h0 hn ht (fun x hx => by simp at hx)
  | 0, s :: l, _, _, _, _, _, h, _, _, _, _, _, _ => by rw [sizeB_cons, sizeS_eq] at h; omega
  | m + 1, l, A, c, n, t, w, hm, h1, hi, hl, h0, hn, ht => cntB_step l A c n t w h1 hi hl h0 hn ht (fun x hx n' w' h0' hn' hb => by
    have nx := (hi x hx).nd
    have hs : sizeS x ≤ sizeB l := by
      clear hm h1 hi hl nx
      induction l with
      | nil => simp at hx
      | cons y l ih =>
        rw [sizeB_cons]
        rcases List.mem_cons.1 hx with rfl | hx
        · omega
        · have := ih hx; omega
    rw [sizeS_eq] at hs
    exact ⟨cntB_upto m _ _ _ _ _ _ (by omega) (nx.row.below hb) (fun s hs => ((hi x hx).part (.inl hs)).below hb) nx.len h0' hn' ht, cntB_upto m _ _ _ _ _ _ (by omega) (nx.row2.below hb) (fun s hs => ((hi x hx).part (.inr hs)).below hb) nx.len2 h0' hn' ht⟩)
/-- countBody, of any row of statements. -/
theorem cntB_any (l : List St) (A : Option Addr) (c : Nat) (n t : Int) (w : World) (h1 : Row 9 stC w A l) (hi : ∀ s ∈ l, StIn w s) (hl : l.length ≤ most) (h0 : 0 ≤ n) (hn : n ≤ t + 1) (ht : t ≤ 1000000000) : Calls Try.prog 47 #[.slice A l.length c, .int .i64 n, .int .i64 t] w (EndsB (.int .i64 (min (n + cntB l) (t + 1))) w) := cntB_upto _ l A c n t w (Nat.le_refl _) h1 hi hl h0 hn ht
end Go.Proofs.Ytbhgbgaeaejnhaa.Tre
