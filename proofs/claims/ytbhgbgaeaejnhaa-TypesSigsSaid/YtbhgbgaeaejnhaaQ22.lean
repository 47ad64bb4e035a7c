/-
  The document's countExpr: how many expressions, no further than most and one. Conditions: the tree lies in memory.
-/
import Derived.Test.YtbhgbgaeaejnhaaQ01
import Derived.LoopTactic
import Derived.Deep.QuietTactic
import Derived.BigQuiet
import Derived.Lib.Strings
namespace Go.Proofs.Ytbhgbgaeaejnhaa.Tre
open Go.RowKit
set_option maxRecDepth 100000
theorem cnt_take {l : List Ex} {j : Nat} {x : Ex} (h : l[j]? = some x) : sizeL (l.take (j + 1)) = sizeL (l.take j) + size x := by
  rw [List.take_add_one, h]
  unfold sizeL
  rw [flatL_app, List.length_append]
  congr 1
  rw [show (some x).toList = [x] from rfl, flatL_cons]
  simp [size, flatL]
theorem exC_cells {w : World} {b o j : Nat} {x : Ex} (h : ∀ (r : Nat) (u : Value), (exC x)[r]? = some u → w.cell? ⟨b, o + j * 5 + r, none⟩ = some u) :
    w.cell? ⟨b, o + j * 5, none⟩ = some (.int .i64 x.op) ∧ w.cell? ⟨b, o + j * 5 + 1, none⟩ = some (.int .i64 x.n) ∧ w.cell? ⟨b, o + j * 5 + 2, none⟩ = some (.string x.s) ∧ w.cell? ⟨b, o + j * 5 + 3, none⟩ = some (.string x.q) ∧ w.cell? ⟨b, o + j * 5 + 4, none⟩ = some (.slice x.a x.x.length x.c) := by
  obtain ⟨o', n, s, q, a, c, y⟩ := x
  exact ⟨h 0 _ rfl, h 1 _ rfl, h 2 _ rfl, h 3 _ rfl, h 4 _ rfl⟩
theorem exV_agg (x : Ex) : exV x = .agg #[.int .i64 x.op, .int .i64 x.n, .string x.s, .string x.q, .slice x.a x.x.length x.c] := by cases x; rfl
set_option maxHeartbeats 8000000 in
theorem count_upto : ∀ (m : Nat) (e : Ex) (n t : Int) (w : World), size e ≤ m → ExIn w e → 0 ≤ n → n ≤ t + 1 → t ≤ 1000000000 → Calls Try.prog 54 #[exV e, .int .i64 n, .int .i64 t] w (EndsB (.int .i64 (min (n + size e) (t + 1))) w)
  | 0, e, _, _, w, h, _, _, _, _ => by rw [size_eq] at h; omega
  | m + 1, e, n, t, w, hm, he, h0, hn, ht => by
    by_cases hgt : t < n
    · have hr : min (n + (size e : Int)) (t + 1) = n := by omega
      rw [hr, exV_agg]
      have HB2 := Lib.hid (show Below w.heap.size w (w.alloc (.cells #[.int .i64 e.op, .int .i64 e.n, .string e.s, .string e.q, .slice e.a e.x.length e.c] 90)) from (Below.refl _ w).alloc (Nat.le_refl _) _)
      go_enter Try.func54, Try.ntmps54
      go_wp2_with fail
      go_ret
      exact ⟨rfl, HB2.out⟩
    · have IH := Lib.hid (fun (y : Ex) (n' : Int) (w' : World) (hy : y ∈ e.x) (hb : Below w.heap.size w w') (h1 : 0 ≤ n') (h2 : n' ≤ t + 1) => count_upto m y n' t w' (by have := size_part hy; omega) ((he.part hy).below hb) h1 h2 ht)
      have HR := Lib.hid he.nd.row
      have hlen := he.nd.len
      have hs := size_eq e
      rw [exV_agg]
      generalize size e = z at *
      obtain ⟨o, en, s, q, A, c, x⟩ := e
      simp only [Ex.op, Ex.n, Ex.s, Ex.q, Ex.x, Ex.a, Ex.c, most] at HR IH hlen hs ⊢
      obtain ⟨k, hk⟩ : ∃ k, x.length = k := ⟨_, rfl⟩
      rw [hk] at hlen ⊢
      have HK := Lib.hid hk
      clear he hm hk
      have HB2 := Lib.hid (show Below w.heap.size w (w.alloc (.cells #[.int .i64 o, .int .i64 en, .string s, .string q, .slice A k c] 90)) from (Below.refl _ w).alloc (Nat.le_refl _) _)
      have HN := Lib.hid (new_at w #[.int .i64 o, .int .i64 en, .string s, .string q, .slice A k c] 90)
      obtain ⟨W, hW⟩ : ∃ W, w.alloc (.cells #[.int .i64 o, .int .i64 en, .string s, .string q, .slice A k c] 90) = W := ⟨_, rfl⟩
      rw [hW] at HB2 HN
      have z4 : W.cell? ⟨w.heap.size, 4, none⟩ = some (.slice A k c) := cell_at HN.out 4
      go_enter Try.func54, Try.ntmps54
      go_wp2_with fail
      clear z4 hW
      go_loopw [1, 7] (fun nv iv wr => ∃ j : Nat, j ≤ k ∧ iv = .int .i64 j ∧ nv = .int .i64 (min (n + 1 + sizeL (x.take j)) (t + 1)) ∧ Hid (Below W.heap.size W wr)) (fun _ iv _ => k - (intOf iv).toNat)
      case atStart => exact ⟨0, Nat.zero_le _, rfl, by congr 1; simp [sizeL, flatL]; omega, Lib.hid (Below.refl _ _)⟩
      case round =>
        obtain ⟨j, hj, rfl, rfl, HB⟩ := hrel
        have a4 : wr.cell? ⟨w.heap.size, 4, none⟩ = some (.slice A k c) := cell_at ((HB.out.block _ (by have := HN.out; exact (Array.getElem?_eq_some_iff.1 this).1)).trans HN.out) 4
        by_cases hlt : j < k
        · obtain ⟨xe, hx⟩ : ∃ e, x[j]? = some e := ⟨_, List.getElem?_eq_getElem (by rw [HK.out]; exact hlt)⟩
          obtain ⟨b, o1, e1, _, hc⟩ := (HR.out.below (HB2.out.trans (HB.out.mono HB2.out.size))) (by rw [HK.out]; omega)
          subst e1
          obtain ⟨x0, x1, x2, x3, x4⟩ := exC_cells (hc j xe hx)
          have hst := cnt_take hx
          have CI := Lib.hid (fun (u : World) (hu : Below wr.heap.size wr u) => IH.out xe (min (n + 1 + sizeL (x.take j)) (t + 1)) u (List.mem_of_getElem? hx) (HB2.out.trans ((HB.out.trans (hu.mono HB.out.size)).mono HB2.out.size)) (by omega) (by omega))
          rw [exV_agg] at CI
          clear hc hx
          generalize size xe = z1 at *
          generalize hy2 : sizeL (x.take (j + 1)) = y2 at *
          generalize sizeL (x.take j) = y1 at *
          generalize hp : min (n + 1 + (y1 : Int)) (t + 1) = p at *
          go_wp2_with fail
          refine (CI.out wr (Below.refl _ _)).mono ?_
          rintro e w1 ⟨rfl, hb1⟩
          have HB5 := Lib.hid hb1
          clear hb1 CI x0 x1 x2 x3 x4 a4
          go_wp2_with fail
          go_roundw
          case rel => exact ⟨j + 1, by omega, by go_num, by rw [hy2, hst, ← hp]; congr 1; omega, Lib.hid (HB.out.trans (HB5.out.mono HB.out.size))⟩
          case measure => simp [intOf]; omega
        · obtain rfl : j = k := by omega
          clear hlt hj
          have hfin : min (n + 1 + (sizeL (x.take j) : Int)) (t + 1) = min (n + (z : Int)) (t + 1) := by
            rw [List.take_of_length_le (by rw [HK.out]; exact Nat.le_refl _)]
            omega
          rw [hfin]
          go_wp2_with fail
          go_ret
          exact ⟨rfl, HB2.out.trans (HB.out.mono HB2.out.size)⟩
end Go.Proofs.Ytbhgbgaeaejnhaa.Tre
/- The document's none: is an expression the zero one? Condition: the expression lies in memory. -/
namespace Go.Proofs.Ytbhgbgaeaejnhaa.Tre
open Go.RowKit
set_option maxRecDepth 100000
theorem cell_new (w : World) (cs : Array Value) (T : TypeId) : Below w.heap.size w (w.alloc (.cells cs T)) := (Below.refl _ w).alloc (Nat.le_refl _) _
set_option maxHeartbeats 4000000 in
theorem none9_any (e : Ex) (w : World) (hl : e.x.length ≤ most) : Calls Try.prog 53 #[exV e] w (EndsB (.bool (zeroX e)) w) := by
  unfold zeroX most at *
  rw [exV_agg]
  have HB := Lib.hid (cell_new w #[.int .i64 e.op, .int .i64 e.n, .string e.s, .string e.q, .slice e.a e.x.length e.c] 90)
  generalize e.x.length = k at *
  rcases Bool.eq_false_or_eq_true (e.op == 0) with h1 | h1
  · rcases Bool.eq_false_or_eq_true (e.n == 0) with h2 | h2
    · rcases Bool.eq_false_or_eq_true (e.s.toList == []) with h3 | h3
      · rcases Bool.eq_false_or_eq_true (e.q.toList == []) with h4 | h4
        · rcases Bool.eq_false_or_eq_true (k == 0) with h5 | h5
          · obtain rfl : k = 0 := by simpa using h5
            go_enter Try.func53, Try.ntmps53
            go_wp2_with fail
            go_ret
            exact ends_bool (by simp [*]) HB.out
          · have h6 : ((k : Int) == 0) = false := by simp at h5 ⊢; omega
            go_enter Try.func53, Try.ntmps53
            go_wp2_with fail
            go_ret
            exact ends_bool (by simp [*]) HB.out
        · go_enter Try.func53, Try.ntmps53
          go_wp2_with fail
          go_ret
          exact ends_bool (by simp [*]) HB.out
      · go_enter Try.func53, Try.ntmps53
        go_wp2_with fail
        go_ret
        exact ends_bool (by simp [*]) HB.out
    · go_enter Try.func53, Try.ntmps53
      go_wp2_with fail
      go_ret
      exact ends_bool (by simp [*]) HB.out
  · go_enter Try.func53, Try.ntmps53
    go_wp2_with fail
    go_ret
    exact ends_bool (by simp [*]) HB.out
end Go.Proofs.Ytbhgbgaeaejnhaa.Tre
