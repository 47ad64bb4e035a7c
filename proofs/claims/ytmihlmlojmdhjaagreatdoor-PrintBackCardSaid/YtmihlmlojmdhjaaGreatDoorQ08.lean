/-
  The library's EqualFunc over lists of statements, and over lists of functions, with the package's own sameStmt, sameFunc. Conditions: the trees lie in memory.
-/
import Derived.Test.YtmihlmlojmdhjaaGreatDoorQ07
import Derived.RangeFuncNested
import Derived.RangeFuncBound
import Derived.RangeFuncKeeps
import Derived.RangeFuncBox
import Derived.RangeFuncCalls
import Derived.RangeFuncLeaves
import Derived.Shelf.RegionOpen
import Derived.OwnWalkIn
import Derived.TacticsInMore
import Derived.LoopNIn
import Derived.LoopIn
namespace Go.Proofs.YtmihlmlojmdhjaaGreatDoor.Tre
open Go.RowKit
set_option maxRecDepth 100000
theorem stC_at {e : St} {w : World} {b o : Nat} (h : ∀ (r : Nat) (u : Value), (stC e)[r]? = some u → w.cell? ⟨b, o + r, none⟩ = some u) :
    w.cell? ⟨b, o, none⟩ = some (.int .i64 e.op) ∧ w.cell? ⟨b, o + 1, none⟩ = some (.string e.s) ∧ w.cell? ⟨b, o + 2, none⟩ = some (.int .i64 e.e.op) ∧ w.cell? ⟨b, o + 3, none⟩ = some (.int .i64 e.e.n) ∧ w.cell? ⟨b, o + 4, none⟩ = some (.string e.e.s) ∧ w.cell? ⟨b, o + 5, none⟩ = some (.string e.e.q) ∧ w.cell? ⟨b, o + 6, none⟩ = some (.slice e.e.a e.e.x.length e.e.c) ∧ w.cell? ⟨b, o + 7, none⟩ = some (.slice e.a e.b.length e.c) ∧ w.cell? ⟨b, o + 8, none⟩ = some (.slice e.a2 e.b2.length e.c2) := by
  obtain ⟨o, s, ⟨eo, en, es, eq, ea, ec, ex⟩, a, c, b, a2, c2, b2⟩ := e
  exact ⟨h 0 _ rfl, h 1 _ rfl, h 2 _ rfl, h 3 _ rfl, h 4 _ rfl, h 5 _ rfl, h 6 _ rfl, h 7 _ rfl, h 8 _ rfl⟩
theorem fnC_at {e : Fn} {w : World} {b o : Nat} (h : ∀ (r : Nat) (u : Value), (fnC e)[r]? = some u → w.cell? ⟨b, o + r, none⟩ = some u) :
    w.cell? ⟨b, o, none⟩ = some (.string e.s) ∧ w.cell? ⟨b, o + 1, none⟩ = some (.slice e.pa e.p.length e.pc) ∧ w.cell? ⟨b, o + 2, none⟩ = some (.int .u8 e.r) ∧ w.cell? ⟨b, o + 3, none⟩ = some (.slice e.ba e.b.length e.bc) := by
  cases e
  exact ⟨h 0 _ rfl, h 1 _ rfl, h 2 _ rfl, h 3 _ rfl⟩
theorem stV_eq (e : St) : stV e = .agg #[.int .i64 e.op, .string e.s, .int .i64 e.e.op, .int .i64 e.e.n, .string e.e.s, .string e.e.q, .slice e.e.a e.e.x.length e.e.c, .slice e.a e.b.length e.c, .slice e.a2 e.b2.length e.c2] := by
  obtain ⟨o, s, ⟨eo, en, es, eq, ea, ec, ex⟩, a, c, b, a2, c2, b2⟩ := e
  rfl
theorem fnV_eq (e : Fn) : fnV e = .agg #[.string e.s, .slice e.pa e.p.length e.pc, .int .u8 e.r, .slice e.ba e.b.length e.bc] := rfl
set_option maxHeartbeats 4000000 in
theorem equalS (x y : List St) (A B : Option Addr) (c d : Nat) (w : World) (hx : Row 9 stC w A x) (hy : Row 9 stC w B y) (hl : x.length ≤ most)
    (C : ∀ a ∈ x, ∀ b ∈ y, ∀ w', Below w.heap.size w w' → Hid (Calls Tryz.prog 85 #[stV a, stV b] w' (EndsB (.bool (sameS a b)) w'))) :
    Calls Tryz.prog 84 #[.slice A x.length c, .slice B y.length d, .func (.func 85) #[] #[]] w (EndsB (.bool (allTwo sameS x y)) w) := by
  unfold most at *
  by_cases hne : x.length = y.length
  · have HX := Lib.hid hx
    have HY := Lib.hid hy
    have HC := Lib.hid C
    clear hx hy C
    rw [← hne]
    have HNE := Lib.hid hne
    clear hne
    obtain ⟨n, hn⟩ : ∃ n, x.length = n := ⟨_, rfl⟩
    rw [hn] at hl ⊢
    have HN := Lib.hid hn
    clear hn
    go_enter Tryz.func84, Tryz.ntmps84
    go_wp2
    go_loopw [17] (fun i wr => ∃ k : Nat, k ≤ n ∧ i = .int .i64 k ∧ Below w.heap.size w wr ∧ Hid (∀ (j : Nat) (a b : St), j < k → x[j]? = some a → y[j]? = some b → sameS a b = true)) (fun i _ => n - (intOf i).toNat)
    case atStart => exact ⟨0, Nat.zero_le _, rfl, Below.refl _ _, Lib.hid (fun j a b h => by omega)⟩
    case round =>
      obtain ⟨k, hk, rfl, hb, hs⟩ := hrel
      by_cases hlt : k < n
      · obtain ⟨a, ha⟩ : ∃ a, x[k]? = some a := ⟨_, List.getElem?_eq_getElem (by rw [HN.out]; exact hlt)⟩
        obtain ⟨b, hb2⟩ : ∃ b, y[k]? = some b := ⟨_, List.getElem?_eq_getElem (by rw [← HNE.out, HN.out]; exact hlt)⟩
        have CC := HC.out a (List.mem_of_getElem? ha) b (List.mem_of_getElem? hb2)
        obtain ⟨b1, o1, rfl, hc1⟩ := HX.out.at_ hb ha
        obtain ⟨b2, o2, rfl, hc2⟩ := HY.out.at_ (hb.trans ((ball_new wr #[.int .i64 a.op, .string a.s, .int .i64 a.e.op, .int .i64 a.e.n, .string a.e.s, .string a.e.q, .slice a.e.a a.e.x.length a.e.c, .slice a.a a.b.length a.c, .slice a.a2 a.b2.length a.c2] 47).mono hb.size)) hb2
        have HBL := Lib.hid (hb.trans ((two_new wr #[.int .i64 a.op, .string a.s, .int .i64 a.e.op, .int .i64 a.e.n, .string a.e.s, .string a.e.q, .slice a.e.a a.e.x.length a.e.c, .slice a.a a.b.length a.c, .slice a.a2 a.b2.length a.c2] #[.int .i64 b.op, .string b.s, .int .i64 b.e.op, .int .i64 b.e.n, .string b.e.s, .string b.e.q, .slice b.e.a b.e.x.length b.e.c, .slice b.a b.b.length b.c, .slice b.a2 b.b2.length b.c2] 47).mono hb.size))
        obtain ⟨p0, p1, p2, p3, p4, p5, p6, p7, p8⟩ := stC_at hc1
        obtain ⟨q0, q1, q2, q3, q4, q5, q6, q7, q8⟩ := stC_at hc2
        have HA := Lib.hid ha
        have HB := Lib.hid hb2
        clear hc1 hc2 ha hb2
        rw [stV_eq, stV_eq] at CC
        have C1 := CC _ HBL.out
        have HS := hs
        clear hs CC
        obtain ⟨t, ht0⟩ : ∃ t, sameS a b = t := ⟨_, rfl⟩
        rw [ht0] at C1
        have HT := Lib.hid ht0
        clear ht0
        rcases Bool.eq_false_or_eq_true t with ht | ht
        · subst ht
          go_wp2_with fail
          refine C1.out.mono ?_
          rintro e w1 ⟨rfl, hb1⟩
          have HB1 := Lib.hid (HBL.out.trans (hb1.mono HBL.out.size))
          clear hb1 hb
          go_wp2_with fail
          go_roundw
          case rel => exact ⟨k + 1, by omega, rfl, HB1.out, Lib.hid (two_more HS.out HA.out HB.out HT.out)⟩
          case measure => simp [intOf]; omega
        · subst ht
          go_wp2_with fail
          refine C1.out.mono ?_
          rintro e w1 ⟨rfl, hb1⟩
          have HB1 := Lib.hid (HBL.out.trans (hb1.mono HBL.out.size))
          clear hb1 hb
          go_wp2_with fail
          go_ret
          exact ends_bool (allTwo_no k a b HA.out HB.out HT.out).symm HB1.out
      · obtain rfl : k = n := by omega
        go_wp2_with fail
        go_ret
        exact ends_bool (all_two HNE.out HN.out hs.out).symm hb
  · have HN := Lib.hid (allTwo_len (p := sameS) hne)
    have HB := Lib.hid (Below.refl w.heap.size w)
    generalize allTwo sameS x y = t at *
    have hne' : ((x.length : Int) == (y.length : Int)) = false := by rw [beq_eq_false_iff_ne]; omega
    generalize x.length = n at *
    generalize y.length = n' at *
    clear hx hy C hne
    go_enter Tryz.func84, Tryz.ntmps84
    go_wp2_with fail
    go_ret
    exact ends_bool HN.out.symm HB.out
set_option maxHeartbeats 4000000 in
theorem equalF (x y : List Fn) (A B : Option Addr) (c d : Nat) (w : World) (hx : Row 4 fnC w A x) (hy : Row 4 fnC w B y) (hl : x.length ≤ most)
    (C : ∀ a ∈ x, ∀ b ∈ y, ∀ w', Below w.heap.size w w' → Hid (Calls Tryz.prog 39 #[fnV a, fnV b] w' (EndsB (.bool (sameF a b)) w'))) :
    Calls Tryz.prog 38 #[.slice A x.length c, .slice B y.length d, .func (.func 39) #[] #[]] w (EndsB (.bool (allTwo sameF x y)) w) := by
  unfold most at *
  by_cases hne : x.length = y.length
  · have HX := Lib.hid hx
    have HY := Lib.hid hy
    have HC := Lib.hid C
    clear hx hy C
    rw [← hne]
    have HNE := Lib.hid hne
    clear hne
    obtain ⟨n, hn⟩ : ∃ n, x.length = n := ⟨_, rfl⟩
    rw [hn] at hl ⊢
    have HN := Lib.hid hn
    clear hn
    go_enter Tryz.func38, Tryz.ntmps38
    go_wp2
    go_loopw [17] (fun i wr => ∃ k : Nat, k ≤ n ∧ i = .int .i64 k ∧ Below w.heap.size w wr ∧ Hid (∀ (j : Nat) (a b : Fn), j < k → x[j]? = some a → y[j]? = some b → sameF a b = true)) (fun i _ => n - (intOf i).toNat)
    case atStart => exact ⟨0, Nat.zero_le _, rfl, Below.refl _ _, Lib.hid (fun j a b h => by omega)⟩
    case round =>
      obtain ⟨k, hk, rfl, hb, hs⟩ := hrel
      by_cases hlt : k < n
      · obtain ⟨a, ha⟩ : ∃ a, x[k]? = some a := ⟨_, List.getElem?_eq_getElem (by rw [HN.out]; exact hlt)⟩
        obtain ⟨b, hb2⟩ : ∃ b, y[k]? = some b := ⟨_, List.getElem?_eq_getElem (by rw [← HNE.out, HN.out]; exact hlt)⟩
        have CC := HC.out a (List.mem_of_getElem? ha) b (List.mem_of_getElem? hb2)
        obtain ⟨b1, o1, rfl, hc1⟩ := HX.out.at_ hb ha
        obtain ⟨b2, o2, rfl, hc2⟩ := HY.out.at_ (hb.trans ((ball_new wr #[.string a.s, .slice a.pa a.p.length a.pc, .int .u8 a.r, .slice a.ba a.b.length a.bc] 36).mono hb.size)) hb2
        have HBL := Lib.hid (hb.trans ((two_new wr #[.string a.s, .slice a.pa a.p.length a.pc, .int .u8 a.r, .slice a.ba a.b.length a.bc] #[.string b.s, .slice b.pa b.p.length b.pc, .int .u8 b.r, .slice b.ba b.b.length b.bc] 36).mono hb.size))
        obtain ⟨p0, p1, p2, p3⟩ := fnC_at hc1
        obtain ⟨q0, q1, q2, q3⟩ := fnC_at hc2
        have HA := Lib.hid ha
        have HB := Lib.hid hb2
        clear hc1 hc2 ha hb2
        rw [fnV_eq, fnV_eq] at CC
        have C1 := CC _ HBL.out
        have HS := hs
        clear hs CC
        obtain ⟨t, ht0⟩ : ∃ t, sameF a b = t := ⟨_, rfl⟩
        rw [ht0] at C1
        have HT := Lib.hid ht0
        clear ht0
        rcases Bool.eq_false_or_eq_true t with ht | ht
        · subst ht
          go_wp2_with fail
          refine C1.out.mono ?_
          rintro e w1 ⟨rfl, hb1⟩
          have HB1 := Lib.hid (HBL.out.trans (hb1.mono HBL.out.size))
          clear hb1 hb
          go_wp2_with fail
          go_roundw
          case rel => exact ⟨k + 1, by omega, rfl, HB1.out, Lib.hid (two_more HS.out HA.out HB.out HT.out)⟩
          case measure => simp [intOf]; omega
        · subst ht
          go_wp2_with fail
          refine C1.out.mono ?_
          rintro e w1 ⟨rfl, hb1⟩
          have HB1 := Lib.hid (HBL.out.trans (hb1.mono HBL.out.size))
          clear hb1 hb
          go_wp2_with fail
          go_ret
          exact ends_bool (allTwo_no k a b HA.out HB.out HT.out).symm HB1.out
      · obtain rfl : k = n := by omega
        go_wp2_with fail
        go_ret
        exact ends_bool (all_two HNE.out HN.out hs.out).symm hb
  · have HN := Lib.hid (allTwo_len (p := sameF) hne)
    have HB := Lib.hid (Below.refl w.heap.size w)
    generalize allTwo sameF x y = t at *
    have hne' : ((x.length : Int) == (y.length : Int)) = false := by rw [beq_eq_false_iff_ne]; omega
    generalize x.length = n at *
    generalize y.length = n' at *
    clear hx hy C hne
    go_enter Tryz.func38, Tryz.ntmps38
    go_wp2_with fail
    go_ret
    exact ends_bool HN.out.symm HB.out
end Go.Proofs.YtmihlmlojmdhjaaGreatDoor.Tre
/- Are two statements, two functions the same (the package's own): what sameStmt, sameFunc and the library's Equal over parameters, over texts answer. Conditions: both trees lie in memory. -/
namespace Go.Proofs.YtmihlmlojmdhjaaGreatDoor.Tre
open Go.RowKit
set_option maxRecDepth 100000
/-- The two boxes lie as they lay. -/
theorem box_at {w w1 : World} {cs ds : Array Value} {T : TypeId} (h : Below ((w.alloc (.cells cs T)).alloc (.cells ds T)).heap.size ((w.alloc (.cells cs T)).alloc (.cells ds T)) w1) (i : Nat) :
    w1.cell? ⟨w.heap.size, i, none⟩ = cs[i]? ∧ w1.cell? ⟨w.heap.size + 1, i, none⟩ = ds[i]? := by
  have h0 : ((w.alloc (.cells cs T)).alloc (.cells ds T)).heap[w.heap.size]? = some (.cells cs T (0, 0)) := (Below.heap_alloc _ _ _ (by simp)).trans (new_at w cs T)
  have h1 : ((w.alloc (.cells cs T)).alloc (.cells ds T)).heap[w.heap.size + 1]? = some (.cells ds T (0, 0)) := by
    have := new_at (w.alloc (.cells cs T)) ds T
    rwa [World.size_alloc] at this
  exact ⟨cell_at ((h.block _ (by simp; omega)).trans h0) i, cell_at ((h.block _ (by simp)).trans h1) i⟩
theorem exV_flat (e : Ex) : Value.agg #[.int .i64 e.op, .int .i64 e.n, .string e.s, .string e.q, .slice e.a e.x.length e.c] = exV e := (exV_eq e).symm
set_option maxHeartbeats 4000000 in
theorem sameStmt_step (a b : St) (w : World) (he : ∀ w', Below w.heap.size w w' → Hid (Calls Tryz.prog 86 #[exV a.e, exV b.e] w' (EndsB (.bool (sameX a.e b.e)) w')))
    (C : ∀ w', Below w.heap.size w w' → Hid (Calls Tryz.prog 84 #[.slice a.a a.b.length a.c, .slice b.a b.b.length b.c, .func (.func 85) #[] #[]] w' (EndsB (.bool (sameB a.b b.b)) w')))
    (C2 : ∀ w', Below w.heap.size w w' → Hid (Calls Tryz.prog 84 #[.slice a.a2 a.b2.length a.c2, .slice b.a2 b.b2.length b.c2, .func (.func 85) #[] #[]] w' (EndsB (.bool (sameB a.b2 b.b2)) w'))) :
    Calls Tryz.prog 85 #[stV a, stV b] w (EndsB (.bool (sameS a b)) w) := by
  rw [sameS_eq, stV_eq, stV_eq]
  rw [exV_eq, exV_eq] at he
  have HB := Lib.hid (Tre.two_new w #[.int .i64 a.op, .string a.s, .int .i64 a.e.op, .int .i64 a.e.n, .string a.e.s, .string a.e.q, .slice a.e.a a.e.x.length a.e.c, .slice a.a a.b.length a.c, .slice a.a2 a.b2.length a.c2] #[.int .i64 b.op, .string b.s, .int .i64 b.e.op, .int .i64 b.e.n, .string b.e.s, .string b.e.q, .slice b.e.a b.e.x.length b.e.c, .slice b.a b.b.length b.c, .slice b.a2 b.b2.length b.c2] 47)
  generalize sameX a.e b.e = t1 at *
  generalize sameB a.b b.b = t2 at *
  generalize sameB a.b2 b.b2 = t3 at *
  generalize a.e.x.length = k1 at *
  generalize b.e.x.length = k2 at *
  generalize a.b.length = k3 at *
  generalize b.b.length = k4 at *
  generalize a.b2.length = k5 at *
  generalize b.b2.length = k6 at *
  rcases Bool.eq_false_or_eq_true (a.op == b.op) with h1 | h1
  · rcases Bool.eq_false_or_eq_true (a.s.toList == b.s.toList) with h2 | h2
    · go_enter Tryz.func85, Tryz.ntmps85
      go_wp2_with fail
      refine (he _ HB.out).out.mono ?_
      rintro e w1 ⟨rfl, hb1⟩
      have HB1 := Lib.hid (HB.out.trans (hb1.mono HB.out.size))
      have HX1 := Lib.hid hb1
      obtain ⟨z0, z1⟩ := box_at hb1 7
      simp only [List.getElem?_toArray, List.getElem?_cons_succ, List.getElem?_cons_zero] at z0 z1
      clear hb1
      rcases Bool.eq_false_or_eq_true t1 with ht | ht <;> subst ht
      · go_wp2_with fail
        refine (C _ HB1.out).out.mono ?_
        rintro e w2 ⟨rfl, hb2⟩
        have HB2 := Lib.hid (HB1.out.trans (hb2.mono HB1.out.size))
        obtain ⟨z0, z1⟩ := box_at (HX1.out.trans (hb2.mono HX1.out.size)) 8
        simp only [List.getElem?_toArray, List.getElem?_cons_succ, List.getElem?_cons_zero] at z0 z1
        clear hb2
        rcases Bool.eq_false_or_eq_true t2 with ht | ht <;> subst ht
        · go_wp2_with fail
          refine (C2 _ HB2.out).out.mono ?_
          rintro e w3 ⟨rfl, hb3⟩
          have HB3 := Lib.hid (HB2.out.trans (hb3.mono HB2.out.size))
          clear hb3
          go_wp2_with fail
          go_ret
          exact ends_bool (by simp [*]) HB3.out
        · go_wp2_with fail
          go_ret
          exact ends_bool (by simp [*]) HB2.out
      · go_wp2_with fail
        go_ret
        exact ends_bool (by simp [*]) HB1.out
    · go_enter Tryz.func85, Tryz.ntmps85
      go_wp2_with fail
      go_ret
      exact ends_bool (by simp [*]) HB.out
  · go_enter Tryz.func85, Tryz.ntmps85
    go_wp2_with fail
    go_ret
    exact ends_bool (by simp [*]) HB.out
theorem sameStmt_upto : ∀ (m : Nat) (a b : St) (w : World), sizeS a ≤ m → StIn w a → StIn w b → Calls Tryz.prog 85 #[stV a, stV b] w (EndsB (.bool (sameS a b)) w)
  | 0, a, b, w, h, _, _ => by rw [sizeS_eq] at h; omega
  | m + 1, a, b, w, h, ha, hb => by
    have CC : ∀ x y : St, x ∈ a.b ∨ x ∈ a.b2 → y ∈ b.b ∨ y ∈ b.b2 → ∀ w', Below w.heap.size w w' → Hid (Calls Tryz.prog 85 #[stV x, stV y] w' (EndsB (.bool (sameS x y)) w')) := fun x y hx hy w' hw =>
      Lib.hid (sameStmt_upto m x y w' (by have := sizeS_part hx; omega) ((ha.below hw).part hx) ((hb.below hw).part hy))
    refine sameStmt_step a b w (fun w' hw => Lib.hid (sameExpr_any a.e b.e w' (ha.nd.e.below hw) (hb.nd.e.below hw))) (fun w' hw => Lib.hid ?_) (fun w' hw => Lib.hid ?_)
    · exact equalS a.b b.b a.a b.a a.c b.c w' (ha.nd.row.below hw) (hb.nd.row.below hw) ha.nd.len fun x hx y hy w2 hw2 => CC x y (.inl hx) (.inl hy) w2 (hw.trans (hw2.mono hw.size))
    · exact equalS a.b2 b.b2 a.a2 b.a2 a.c2 b.c2 w' (ha.nd.row2.below hw) (hb.nd.row2.below hw) ha.nd.len2 fun x hx y hy w2 hw2 => CC x y (.inr hx) (.inr hy) w2 (hw.trans (hw2.mono hw.size))
/-- sameStmt: the same. -/
theorem sameStmt_any (a b : St) (w : World) (ha : StIn w a) (hb : StIn w b) : Calls Tryz.prog 85 #[stV a, stV b] w (EndsB (.bool (sameS a b)) w) := sameStmt_upto _ a b w (Nat.le_refl _) ha hb
end Go.Proofs.YtmihlmlojmdhjaaGreatDoor.Tre
/- The library's Equal over lists of parameters, and over lists of texts. Conditions: both lists lie in memory. -/
namespace Go.Proofs.YtmihlmlojmdhjaaGreatDoor.Tre
open Go.RowKit
set_option maxRecDepth 100000
theorem below_drewN (w : World) (m : Nat) : Below w.heap.size w (w.drewN m) := ⟨rfl, rfl, rfl, Nat.le_refl _, fun _ _ => rfl⟩
theorem parC_at {e : Par} {w : World} {b o : Nat} (h : ∀ (r : Nat) (u : Value), (parC e)[r]? = some u → w.cell? ⟨b, o + r, none⟩ = some u) :
    w.cell? ⟨b, o, none⟩ = some (.string e.s) ∧ w.cell? ⟨b, o + 1, none⟩ = some (.int .u8 e.t) := ⟨h 0 _ rfl, h 1 _ rfl⟩
theorem par_neq (a b : ByteArray) (s t : Int) (w : World) : (binOp .neq 38 (.agg #[.string a, .int .u8 s]) (.agg #[.string b, .int .u8 t])).run Tryz.prog w = .ok (.bool (!(a.toList == b.toList && s == t))) w := by
  have u9 := Tryz.underlying9
  have u33 : Tryz.prog.underlying 33 = some (.int .u8) := by kernel_rfl
  have a9 := Tryz.isAgg9
  have a33 := Tryz.isAgg33
  have z9 := Tryz.sizeOf9
  have z33 := Tryz.sizeOf33
  have hS : Tryz.prog.underlying 38 = some (.struct (Tryz.prog.fieldsOf 38)) := by kernel_rfl
  have hp : Tryz.prog.stoodInHeld 38 = false := by kernel_rfl
  rw [run_neq_struct, show (10000 : Nat) = 9999 + 1 from rfl, run_equalIn_agg w 9999 38 _ _ hS hp]
  simp only [Program.fieldsOf, Tryz.underlying38]
  go_simp
  by_cases h1 : a.toList = b.toList <;> by_cases h2 : s = t <;> simp [h1, h2]
theorem par_guard (op : BinOp) (x y : Operand) (xs ys : Array Value) (w : World) : (eqGuard op 38 x y (.agg xs) (.agg ys)).run Tryz.prog w = .ok () w := run_eqGuard_agg w op _ x y xs ys (by kernel_rfl)
set_option maxHeartbeats 4000000 in
theorem equalP (x y : List Par) (A B : Option Addr) (c d : Nat) (w : World) (hx : Row 2 parC w A x) (hy : Row 2 parC w B y) (hl : x.length ≤ most) :
    Calls Tryz.prog 83 #[.slice A x.length c, .slice B y.length d] w (EndsB (.bool (allTwo samePar x y)) w) := by
  unfold most at *
  by_cases hne : x.length = y.length
  · have HX := Lib.hid hx
    have HY := Lib.hid hy
    clear hx hy
    rw [← hne]
    have HNE := Lib.hid hne
    clear hne
    obtain ⟨n, hn⟩ : ∃ n, x.length = n := ⟨_, rfl⟩
    rw [hn] at hl ⊢
    have HN := Lib.hid hn
    clear hn
    go_enter Tryz.func83, Tryz.ntmps83
    go_wp2
    go_loopw [13] (fun i wr => ∃ k m : Nat, k ≤ n ∧ i = .int .i64 k ∧ wr = w.drewN m ∧ Hid (∀ (j : Nat) (a b : Par), j < k → x[j]? = some a → y[j]? = some b → samePar a b = true)) (fun i _ => n - (intOf i).toNat)
    case atStart => exact ⟨0, 0, Nat.zero_le _, rfl, rfl, Lib.hid (fun j a b h => by omega)⟩
    case round =>
      obtain ⟨k, m, hk, rfl, rfl, hs⟩ := hrel
      by_cases hlt : k < n
      · obtain ⟨a, ha⟩ : ∃ a, x[k]? = some a := ⟨_, List.getElem?_eq_getElem (by rw [HN.out]; exact hlt)⟩
        obtain ⟨b, hb2⟩ : ∃ b, y[k]? = some b := ⟨_, List.getElem?_eq_getElem (by rw [← HNE.out, HN.out]; exact hlt)⟩
        obtain ⟨b1, o1, rfl, hc1⟩ := HX.out.at_ (Below.refl _ _) ha
        obtain ⟨b2, o2, rfl, hc2⟩ := HY.out.at_ (Below.refl _ _) hb2
        obtain ⟨p0, p1⟩ := parC_at hc1
        obtain ⟨q0, q1⟩ := parC_at hc2
        have HA := Lib.hid ha
        have HB := Lib.hid hb2
        have HS := hs
        clear hc1 hc2 ha hb2 hs
        obtain ⟨t, ht0⟩ : ∃ t, samePar a b = t := ⟨_, rfl⟩
        have HT := Lib.hid ht0
        unfold samePar at ht0
        obtain ⟨s1, t1⟩ := a
        obtain ⟨s2, t2⟩ := b
        dsimp only at p0 p1 q0 q1 ht0
        have G := fun (x y : Operand) (w' : World) => par_guard .neq x y #[.string s1, .int .u8 t1] #[.string s2, .int .u8 t2] w'
        have N := fun w' => par_neq s1 s2 t1 t2 w'
        rw [ht0] at N
        clear ht0
        rcases Bool.eq_false_or_eq_true t with ht | ht <;> subst ht
        · go_wp2
          go_quiet (fail)
          go_wp2
          go_roundw
          case rel => exact ⟨k + 1, m + nq, by omega, by go_num, rfl, Lib.hid (two_more HS.out HA.out HB.out HT.out)⟩
          case measure => simp [intOf]; omega
        · go_wp2
          go_quiet (fail)
          go_wp2
          go_ret
          exact ends_bool (allTwo_no k _ _ HA.out HB.out HT.out).symm ((below_drewN w m).trans ((below_drewN _ nq).mono (Nat.le_refl _)))
      · obtain rfl : k = n := by omega
        go_wp2_with fail
        go_ret
        exact ends_bool (all_two HNE.out HN.out hs.out).symm (below_drewN w m)
  · have HN := Lib.hid (allTwo_len (p := samePar) hne)
    have HB := Lib.hid (Below.refl w.heap.size w)
    generalize allTwo samePar x y = t at *
    have hne' : ((x.length : Int) == (y.length : Int)) = false := by rw [beq_eq_false_iff_ne]; omega
    generalize x.length = n at *
    generalize y.length = n' at *
    clear hx hy hne
    go_enter Tryz.func83, Tryz.ntmps83
    go_wp2_with fail
    go_ret
    exact ends_bool HN.out.symm HB.out
set_option maxHeartbeats 4000000 in
theorem equalT (x y : List ByteArray) (A B : Option Addr) (c d : Nat) (w : World) (hx : Row 1 txC w A x) (hy : Row 1 txC w B y) (hl : x.length ≤ most) :
    Calls Tryz.prog 37 #[.slice A x.length c, .slice B y.length d] w (EndsB (.bool (allTwo sameT x y)) w) := by
  unfold most at *
  by_cases hne : x.length = y.length
  · have HX := Lib.hid hx
    have HY := Lib.hid hy
    clear hx hy
    rw [← hne]
    have HNE := Lib.hid hne
    clear hne
    obtain ⟨n, hn⟩ : ∃ n, x.length = n := ⟨_, rfl⟩
    rw [hn] at hl ⊢
    have HN := Lib.hid hn
    clear hn
    go_enter Tryz.func37, Tryz.ntmps37
    go_wp2
    go_loopw [13] (fun i wr => ∃ k m : Nat, k ≤ n ∧ i = .int .i64 k ∧ wr = w.drewN m ∧ Hid (∀ (j : Nat) (a b : ByteArray), j < k → x[j]? = some a → y[j]? = some b → sameT a b = true)) (fun i _ => n - (intOf i).toNat)
    case atStart => exact ⟨0, 0, Nat.zero_le _, rfl, rfl, Lib.hid (fun j a b h => by omega)⟩
    case round =>
      obtain ⟨k, m, hk, rfl, rfl, hs⟩ := hrel
      by_cases hlt : k < n
      · obtain ⟨a, ha⟩ : ∃ a, x[k]? = some a := ⟨_, List.getElem?_eq_getElem (by rw [HN.out]; exact hlt)⟩
        obtain ⟨b, hb2⟩ : ∃ b, y[k]? = some b := ⟨_, List.getElem?_eq_getElem (by rw [← HNE.out, HN.out]; exact hlt)⟩
        obtain ⟨b1, o1, rfl, hc1⟩ := HX.out.at_ (Below.refl _ _) ha
        obtain ⟨b2, o2, rfl, hc2⟩ := HY.out.at_ (Below.refl _ _) hb2
        have p0 := hc1 0 _ rfl
        have q0 := hc2 0 _ rfl
        simp only [Nat.add_zero, Nat.mul_one] at p0 q0
        have HA := Lib.hid ha
        have HB := Lib.hid hb2
        have HS := hs
        clear hc1 hc2 ha hb2 hs
        obtain ⟨t, ht0⟩ : ∃ t, sameT a b = t := ⟨_, rfl⟩
        have HT := Lib.hid ht0
        unfold sameT at ht0
        rcases Bool.eq_false_or_eq_true t with ht | ht <;> subst ht
        · go_wp2
          go_quiet (fail)
          go_wp2
          go_roundw
          case rel => exact ⟨k + 1, m + nq, by omega, by go_num, rfl, Lib.hid (two_more HS.out HA.out HB.out HT.out)⟩
          case measure => simp [intOf]; omega
        · go_wp2
          go_quiet (fail)
          go_wp2
          go_ret
          exact ends_bool (allTwo_no k _ _ HA.out HB.out HT.out).symm ((below_drewN w m).trans ((below_drewN _ nq).mono (Nat.le_refl _)))
      · obtain rfl : k = n := by omega
        go_wp2_with fail
        go_ret
        exact ends_bool (all_two HNE.out HN.out hs.out).symm (below_drewN w m)
  · have HN := Lib.hid (allTwo_len (p := sameT) hne)
    have HB := Lib.hid (Below.refl w.heap.size w)
    generalize allTwo sameT x y = t at *
    have hne' : ((x.length : Int) == (y.length : Int)) = false := by rw [beq_eq_false_iff_ne]; omega
    generalize x.length = n at *
    generalize y.length = n' at *
    clear hx hy hne
    go_enter Tryz.func37, Tryz.ntmps37
    go_wp2_with fail
    go_ret
    exact ends_bool HN.out.symm HB.out
end Go.Proofs.YtmihlmlojmdhjaaGreatDoor.Tre
/- Are two functions the same (the package's own): what sameFunc and the library's EqualFunc over it answer. Conditions: both trees lie in memory. -/
namespace Go.Proofs.YtmihlmlojmdhjaaGreatDoor.Tre
open Go.RowKit
set_option maxRecDepth 100000
theorem equalB (x y : List St) (A B : Option Addr) (c d : Nat) (w : World) (hx : Row 9 stC w A x) (hy : Row 9 stC w B y) (hl : x.length ≤ most) (sx : ∀ s ∈ x, StIn w s) (sy : ∀ s ∈ y, StIn w s) :
    Calls Tryz.prog 84 #[.slice A x.length c, .slice B y.length d, .func (.func 85) #[] #[]] w (EndsB (.bool (sameB x y)) w) :=
  equalS x y A B c d w hx hy hl fun a ha b hb w2 hw2 => Lib.hid (sameStmt_any a b w2 ((sx a ha).below hw2) ((sy b hb).below hw2))
set_option maxHeartbeats 4000000 in
theorem sameFunc_any (a b : Fn) (w : World) (ha : FnIn w a) (hb : FnIn w b) : Calls Tryz.prog 39 #[fnV a, fnV b] w (EndsB (.bool (sameF a b)) w) := by
  have CP := fun (w' : World) (hw : Below w.heap.size w w') => Lib.hid (equalP a.p b.p a.pa b.pa a.pc b.pc w' (ha.p.below hw) (hb.p.below hw) ha.plen)
  have CB := fun (w' : World) (hw : Below w.heap.size w w') => Lib.hid (equalB a.b b.b a.ba b.ba a.bc b.bc w' (ha.b.below hw) (hb.b.below hw) ha.blen (fun s hs => (ha.sts s hs).below hw) (fun s hs => (hb.sts s hs).below hw))
  clear ha hb
  unfold sameF
  rw [fnV_eq, fnV_eq]
  have HB := Lib.hid (Tre.two_new w #[.string a.s, .slice a.pa a.p.length a.pc, .int .u8 a.r, .slice a.ba a.b.length a.bc] #[.string b.s, .slice b.pa b.p.length b.pc, .int .u8 b.r, .slice b.ba b.b.length b.bc] 36)
  generalize allTwo samePar a.p b.p = t1 at *
  generalize sameB a.b b.b = t2 at *
  generalize a.p.length = k1 at *
  generalize b.p.length = k2 at *
  generalize a.b.length = k3 at *
  generalize b.b.length = k4 at *
  rcases Bool.eq_false_or_eq_true (a.s.toList == b.s.toList) with h1 | h1
  · rcases Bool.eq_false_or_eq_true (a.r == b.r) with h2 | h2
    all_goals go_enter Tryz.func39, Tryz.ntmps39
    all_goals go_wp2_with fail
    all_goals refine (CP _ HB.out).out.mono ?_
    all_goals rintro e w1 ⟨rfl, hb1⟩
    all_goals have HB1 := Lib.hid (HB.out.trans (hb1.mono HB.out.size))
    all_goals have HX1 := Lib.hid hb1
    all_goals obtain ⟨z2, y2⟩ := box_at hb1 2
    all_goals obtain ⟨z3, y3⟩ := box_at hb1 3
    all_goals simp only [List.getElem?_toArray, List.getElem?_cons_succ, List.getElem?_cons_zero] at z2 z3 y2 y3
    all_goals clear hb1
    · rcases Bool.eq_false_or_eq_true t1 with ht | ht <;> subst ht
      · go_wp2_with fail
        refine (CB _ HB1.out).out.mono ?_
        rintro e w2 ⟨rfl, hb2⟩
        have HB2 := Lib.hid (HB1.out.trans (hb2.mono HB1.out.size))
        clear hb2
        go_wp2_with fail
        go_ret
        exact ends_bool (by simp [*]) HB2.out
      · go_wp2_with fail
        go_ret
        exact ends_bool (by simp [*]) HB1.out
    · rcases Bool.eq_false_or_eq_true t1 with ht | ht <;> subst ht
      all_goals go_wp2_with fail
      all_goals go_ret
      all_goals exact ends_bool (by simp [*]) HB1.out
  · clear CP CB
    go_enter Tryz.func39, Tryz.ntmps39
    go_wp2_with fail
    go_ret
    exact ends_bool (by simp [*]) HB.out
theorem equalFn (x y : List Fn) (A B : Option Addr) (c d : Nat) (w : World) (hx : Row 4 fnC w A x) (hy : Row 4 fnC w B y) (hl : x.length ≤ most) (sx : ∀ s ∈ x, FnIn w s) (sy : ∀ s ∈ y, FnIn w s) :
    Calls Tryz.prog 38 #[.slice A x.length c, .slice B y.length d, .func (.func 39) #[] #[]] w (EndsB (.bool (allTwo sameF x y)) w) :=
  equalF x y A B c d w hx hy hl fun a ha b hb w2 hw2 => Lib.hid (sameFunc_any a b w2 ((sx a ha).below hw2) ((sy b hb).below hw2))
end Go.Proofs.YtmihlmlojmdhjaaGreatDoor.Tre
/- What a round of a loop over a tree keeps: all that lay below lo; all cells that lay from hi on. What a loop over a tree asks of each round. No condition. -/
namespace Go.Proofs.YtmihlmlojmdhjaaGreatDoor.Tre
open Go.RowKit
set_option maxRecDepth 100000
/-- All cells but those of S, and all that is no cells from top on, lie as they lay. -/
structure Keep (S : Nat → Prop) (top : Nat) (W W' : World) : Prop where
  size : W.heap.size ≤ W'.heap.size
  high : ∀ (k : Nat) (o : Obj), ¬ S k → W.heap[k]? = some o → o.isCells = true → W'.heap[k]? = some o
  rest : ∀ (k : Nat) (o : Obj), top ≤ k → W.heap[k]? = some o → o.isCells = false → W'.heap[k]? = some o
section
variable {S : Nat → Prop} {top : Nat} {A B C : World}
theorem Keep.refl (S : Nat → Prop) (top : Nat) (W : World) : Keep S top W W := ⟨Nat.le_refl _, fun _ _ _ h _ => h, fun _ _ _ h _ => h⟩
theorem Keep.trans (h : Keep S top A B) (k : Keep S top B C) : Keep S top A C :=
  ⟨Nat.le_trans h.size k.size, fun i o hi ho hc => k.high i o hi (h.high i o hi ho hc) hc, fun i o hi ho hc => k.rest i o hi (h.rest i o hi ho hc) hc⟩
theorem Keep.below (hb : Below A.heap.size A B) : Keep S top A B :=
  ⟨hb.size, fun k _ _ ho _ => (hb.block k (lt_of_heap ho)).trans ho, fun k _ _ ho _ => (hb.block k (lt_of_heap ho)).trans ho⟩
theorem Keep.alloc (o : Obj) : Keep S top A (A.alloc o) := Keep.below ((Below.refl _ A).alloc (Nat.le_refl _) o)
theorem Keep.drew : Keep S top A A.drew := ⟨Nat.le_refl _, fun _ _ _ h _ => h, fun _ _ _ h _ => h⟩
/-- One's own cells may turn. -/
theorem Keep.set {b i : Nat} {v : Value} (h1 : S b) {cs : Array Value} {T : TypeId} (hc : A.heap[b]? = some (.cells cs T (0, 0))) : Keep S top A (A.setCell ⟨b, i, none⟩ v) :=
  ⟨by simp [World.setCell], fun k o hk ho _ => (Below.heap_setCell A _ v k (by rintro rfl; exact hk h1)).trans ho,
   fun k o _ ho hn => (Below.heap_setCell A _ v k (by rintro rfl; rw [hc] at ho; cases ho; simp [Obj.isCells] at hn)).trans ho⟩
/-- A record that is no cells may turn, below top. -/
theorem Keep.put {l : Nat} {o : Obj} (o' : Obj) (h2 : l < top) (hl : A.heap[l]? = some o) (hn : o.isCells = false) : Keep S top A (A.putObj l o') :=
  ⟨by simp, fun k o2 _ ho hc => (World.putObj_heap_other (by rintro rfl; rw [hl] at ho; cases ho; rw [hn] at hc; cases hc)).trans ho, fun k o2 hk ho _ => (World.putObj_heap_other (by omega)).trans ho⟩
theorem Keep.cell (h : Keep S top A B) {k : Nat} {cs : Array Value} {T : TypeId} (hk : ¬ S k) (hc : A.heap[k]? = some (.cells cs T (0, 0))) : B.heap[k]? = some (.cells cs T (0, 0)) := h.high k _ hk hc rfl
theorem Keep.more {S' : Nat → Prop} {top' : Nat} (h : Keep S top A B) (h1 : ∀ b, S b → S' b) (h3 : top ≤ top') : Keep S' top' A B := ⟨h.size, fun k o hk => h.high k o (fun hs => hk (h1 k hs)), fun k o hk => h.rest k o (by omega)⟩
end
/-- All cells of w0 lie in W. -/
def Low (w0 W : World) : Prop := ∀ (k : Nat) (o : Obj), w0.heap[k]? = some o → o.isCells = true → W.heap[k]? = some o
theorem Low.keep {w0 A B : World} {S : Nat → Prop} {hi top : Nat} (h : Low w0 A) (h0 : ∀ b, S b → w0.heap.size ≤ b ∧ b < hi) (k : Keep S top A B) : Low w0 B := fun i o ho hc => k.high i o (fun hs => by have := (h0 i hs).1; have := lt_of_heap ho; omega) (h i o ho hc) hc
theorem Low.below {w0 A : World} (h : Below w0.heap.size w0 A) : Low w0 A := fun k _ ho _ => (h.block k (lt_of_heap ho)).trans ho
theorem Low.later {w0 A B : World} (h : Low w0 A) (hb : Below A.heap.size A B) : Low w0 B := fun k o ho hc => (hb.block k (lt_of_heap (h k o ho hc))).trans (h k o ho hc)
theorem cells_cell {W : World} {a : Addr} {v : Value} (h : W.cell? a = some v) : ∃ o : Obj, W.heap[a.block]? = some o ∧ o.isCells = true := by
  unfold World.cell? at h
  cases ho : W.heap[a.block]? with
  | none => simp [ho] at h
  | some o => cases o <;> simp [ho, Obj.isCells] at h ⊢
theorem Row.low {α : Type} {k : Nat} {C : α → List Value} {w0 W : World} {A : Option Addr} {l : List α} (h : Row k C w0 A l) (hb : Low w0 W) {j : Nat} {x : α} (hx : l[j]? = some x) :
    ∃ b o, A = some ⟨b, o, none⟩ ∧ b < w0.heap.size ∧ ∀ (r : Nat) (u : Value), (C x)[r]? = some u → W.cell? ⟨b, o + j * k + r, none⟩ = some u := by
  obtain ⟨b, o, e, hlt, hc⟩ := h (by have := (List.getElem?_eq_some_iff.1 hx).1; omega)
  refine ⟨b, o, e, hlt, fun r u hu => ?_⟩
  have h1 := hc j x hx r u hu
  obtain ⟨ob, ho, hcell⟩ := cells_cell h1
  exact (World.cell?_of_block (w := w0) ((hb b ob ho hcell).trans ho.symm)).trans h1
/-- Whatever turns from block B on is nothing to it. -/
def Mine {β : Type} (B : Nat) (J : β → World → Prop) : Prop := ∀ s W W' row, J s W → W.grownBy W' row → (∀ r, row = some r → B ≤ r) → J s W'
section
variable {β : Type} {B : Nat} {J : β → World → Prop}
theorem Mine.own (h : Mine B J) : OwnFrom B J := fun s W W' row hs hg hr => h s W W' row hs hg (fun r e => (hr r e).1)
theorem Mine.alloc (h : Mine B J) {s : β} {W : World} (o : Obj) (hs : J s W) : J s (W.alloc o) := h s W _ none hs (World.grownBy_alloc W o none) (fun r e => by cases e)
theorem Mine.putObj (h : Mine B J) {s : β} {W : World} {l : Nat} (o' : Obj) (hs : J s W) (hB : B ≤ l) : J s (W.putObj l o') := h s W _ (some l) hs (grownBy_putObj' W l o') (fun r e => by cases e; exact hB)
theorem Mine.setCell (h : Mine B J) {s : β} {W : World} {l : Nat} (v : Value) (hs : J s W) (hB : B ≤ l) : J s (W.setCell ⟨l, 0, none⟩ v) := h s W _ (some l) hs (grownBy_setCell' W l v) (fun r e => by cases e; exact hB)
theorem Mine.below (h : Mine B J) {s : β} {X Y : World} (hj : J s X) (hb : Below X.heap.size X Y) : J s Y :=
  h s X Y none hj ⟨hb.os, hb.tape, hb.output, hb.size, fun k hk _ => hb.block k hk⟩ (fun r e => by cases e)
end
/-- How a round ends: on, at the next node; or no more. -/
def Goes (S : Nat → Prop) (top : Nat) (J : Nat → World → Prop) (Jx : World → Prop) (k : Nat) (W : World) (e : Ending) (W' : World) : Prop :=
  (e = .returned (.bool true) ∧ J k W' ∧ Keep S top W W') ∨ (e = .returned (.bool false) ∧ Jx W' ∧ Keep S top W W')
theorem own_alloc {J : Nat → World → Prop} {B : Nat} (h : Mine B J) {k : Nat} {W : World} (hJ : J k W) (o : Obj) : J k (W.alloc o) := h.alloc o hJ
end Go.Proofs.YtmihlmlojmdhjaaGreatDoor.Tre
/- yieldParts: an expression and all that it is made of, one behind the other, each handed to a round. Conditions: the tree lies in memory below lo; a round keeps what lies below lo, and all cells from hi on. -/
namespace Go.Proofs.YtmihlmlojmdhjaaGreatDoor.Tre
open Go.RowKit
set_option maxRecDepth 100000
theorem sizeL_take (x : List Ex) (j : Nat) (a : Ex) (h : x[j]? = some a) : sizeL (x.take (j + 1)) = sizeL (x.take j) + size a := by
  rw [List.take_add_one, h]
  simp [sizeL, size, flatL]
theorem flatL_at : ∀ (x : List Ex) (j i : Nat) (a y : Ex), x[j]? = some a → (flat a)[i]? = some y → (flatL x)[sizeL (x.take j) + i]? = some y
  | [], j, i, a, y, h, _ => by simp at h
  | b :: r, 0, i, a, y, h, hy => by
    obtain rfl : b = a := by simpa using h
    rw [flatL_cons, List.getElem?_append_left (by have := (List.getElem?_eq_some_iff.1 hy).1; simp [sizeL, flatL]; omega)]
    simpa [sizeL, flatL] using hy
  | b :: r, j + 1, i, a, y, h, hy => by
    have ih := flatL_at r j i a y (by simpa using h) hy
    have e : sizeL (List.take (j + 1) (b :: r)) = size b + sizeL (r.take j) := by rw [List.take_succ_cons, sizeL_cons]
    rw [flatL_cons, e, List.getElem?_append_right (by unfold size; omega), show size b + sizeL (r.take j) + i - (flat b).length = sizeL (r.take j) + i by unfold size; omega]
    exact ih
set_option maxHeartbeats 4000000 in
theorem parts_step (w0 : World) (S : Nat → Prop) (hi top l B : Nat) (h00 : ∀ b, S b → w0.heap.size ≤ b ∧ b < hi) (J : Nat → World → Prop) (Jx : World → Prop) (hJ : Mine B J) (e : Ex) (k : Nat) (hin : NdX w0 e)
    (hY : ∀ m W, J k W → YieldAt Fence.wide m Tryz.prog l #[exV e] W (Goes S top J Jx (k + 1) W))
    (hP : ∀ (j : Nat) (x : Ex), e.x[j]? = some x → ∀ m W, hi ≤ W.heap.size → Low w0 W → J (k + 1 + sizeL (e.x.take j)) W → CallsIn Fence.wide m Tryz.prog 100 #[exV x, .func (.yield l) #[] #[]] W (Goes S top J Jx (k + 1 + sizeL (e.x.take (j + 1))) W))
    (m : Nat) (W : World) (hhi : hi ≤ W.heap.size) (hL : Low w0 W) (h0 : J k W) :
    CallsIn Fence.wide m Tryz.prog 100 #[exV e, .func (.yield l) #[] #[]] W (Goes S top J Jx (k + size e) W) := by
  obtain ⟨fn, tmps, assign, body, hy, hR⟩ := hY (m - 1) (W.alloc (.cells #[.int .i64 e.op, .int .i64 e.n, .string e.s, .string e.q, .slice e.a e.x.length e.c] 42)) (own_alloc hJ h0 _)
  rw [exV_eq] at hy ⊢
  rw [size_eq]
  have HP := Lib.hid hP
  have HN := Lib.hid hin
  have HR := Lib.hid hR
  clear hY hP hin hR
  refine callsIn_of_wp Tryz.func100 rfl trivial ?_ rfl
  simp only [Tryz.ntmps100, List.size_toArray, List.length_cons, List.length_nil, Nat.reduceAdd, Nat.reduceSub, Array.replicate_succ, Array.replicate_zero, List.push_toArray, List.append_toArray, List.nil_append, List.cons_append]
  gi_wp2
  refine ⟨(fun h => by cases h), ?_⟩
  refine HR.out.mono ?_
  rintro e' W3 (⟨rfl, hJ3, hk3⟩ | ⟨rfl, hx3, hk3⟩)
  · have z4 := cell_at (hk3.cell (fun hs => by have := (h00 _ hs).2; omega) (new_at W _ _)) 4
    simp only [List.getElem?_toArray, List.getElem?_cons_succ, List.getElem?_cons_zero] at z4
    have HK : Hid (Keep S top W W3) := Lib.hid ((Keep.alloc _).trans hk3)
    have h5 : e.x.length ≤ 9223372036854775807 := HN.out.len
    have HROW := Lib.hid HN.out.row
    have HL3 := Lib.hid (hL.keep h00 HK.out)
    have HHI := Lib.hid (Nat.le_trans hhi HK.out.size)
    clear hk3 HR hy h0 hL hhi HN
    obtain ⟨n, hn⟩ : ∃ n, e.x.length = n := ⟨_, rfl⟩
    rw [hn] at h5 z4 ⊢
    have HN := Lib.hid hn
    clear hn
    gi_wp2
    gi_loopw [14] (fun i wr => ∃ j : Nat, j ≤ n ∧ i = .int .i64 j ∧ J (k + 1 + sizeL (e.x.take j)) wr ∧ Hid (Keep S top W3 wr)) (fun i _ => n - (intOf i).toNat)
    case atStart => exact ⟨0, Nat.zero_le _, rfl, by simpa [sizeL, flatL] using hJ3, Lib.hid (Keep.refl _ _ _)⟩
    case round =>
      obtain ⟨j, hj, rfl, hJj, hKj⟩ := hrel
      by_cases hlt : j < n
      · obtain ⟨x, hx⟩ : ∃ x, e.x[j]? = some x := ⟨_, List.getElem?_eq_getElem (by rw [HN.out]; exact hlt)⟩
        obtain ⟨b1, o1, ha, _, hc1⟩ := HROW.out.low (HL3.out.keep h00 hKj.out) hx
        obtain ⟨p0, p1, p2, p3, p4⟩ := exC_at hc1
        have HK2 := Lib.hid (hKj.out.trans (Keep.alloc (.cells #[.int .i64 x.op, .int .i64 x.n, .string x.s, .string x.q, .slice x.a x.x.length x.c] 42)))
        have CC := HP.out j x hx (m - 1) (wr.alloc (.cells #[.int .i64 x.op, .int .i64 x.n, .string x.s, .string x.q, .slice x.a x.x.length x.c] 42)) (Nat.le_trans HHI.out HK2.out.size) (HL3.out.keep h00 HK2.out) (own_alloc hJ hJj _)
        have CH := Lib.hid CC
        clear CC hc1 hx
        rw [exV_eq] at CH
        rw [ha]
        gi_wp2
        refine ⟨trivial, (fun h => by cases h), ?_⟩
        refine CH.out.mono ?_
        rintro e'' W4 (⟨rfl, hJ4, hk4⟩ | ⟨rfl, hx4, hk4⟩)
        · have HK4 := Lib.hid (HK2.out.trans hk4)
          gi_wp2
          go_roundw
          case rel => exact ⟨j + 1, by omega, rfl, hJ4, HK4⟩
          case measure => simp [intOf]; omega
        · gi_wp2
          go_ret
          exact .inr ⟨rfl, hx4, HK.out.trans (HK2.out.trans hk4)⟩
      · obtain rfl : j = n := by omega
        gi_wp2
        go_ret
        refine .inl ⟨rfl, ?_, HK.out.trans hKj.out⟩
        rw [List.take_of_length_le (Nat.le_of_eq HN.out)] at hJj
        rwa [show k + (1 + sizeL e.x) = k + 1 + sizeL e.x by omega]
  · gi_wp2
    go_ret
    exact .inr ⟨rfl, hx3, (Keep.alloc _).trans hk3⟩
/-- What a list of nodes holds from place k on. -/
def From (L : List Ex) (k : Nat) (e : Ex) : Prop := ∀ i y, (flat e)[i]? = some y → L[k + i]? = some y
theorem From.self {L : List Ex} {k : Nat} {e : Ex} (h : From L k e) : L[k]? = some e := h 0 e (by rw [flat_eq]; rfl)
theorem From.part {L : List Ex} {k : Nat} {e : Ex} (h : From L k e) {j : Nat} {x : Ex} (hx : e.x[j]? = some x) : From L (k + 1 + sizeL (e.x.take j)) x := fun i y hy => by
  have := h (1 + (sizeL (e.x.take j) + i)) y (by rw [flat_eq, Nat.add_comm 1, List.getElem?_cons_succ]; exact flatL_at e.x j i x y hx hy)
  rwa [show k + (1 + (sizeL (e.x.take j) + i)) = k + 1 + sizeL (e.x.take j) + i by omega] at this
theorem parts_upto (w0 : World) (S : Nat → Prop) (hi top l B : Nat) (h00 : ∀ b, S b → w0.heap.size ≤ b ∧ b < hi) (J : Nat → World → Prop) (Jx : World → Prop) (hJ : Mine B J) (L : List Ex)
    (hY : ∀ m k x W, L[k]? = some x → J k W → YieldAt Fence.wide m Tryz.prog l #[exV x] W (Goes S top J Jx (k + 1) W)) :
    ∀ (n : Nat) (e : Ex) (k : Nat), size e ≤ n → ExIn w0 e → From L k e → ∀ (m : Nat) (W : World), hi ≤ W.heap.size → Low w0 W → J k W →
      CallsIn Fence.wide m Tryz.prog 100 #[exV e, .func (.yield l) #[] #[]] W (Goes S top J Jx (k + size e) W)
  | 0, e, k, h, _, _ => by rw [size_eq] at h; omega
  | n + 1, e, k, h, hin, hL => parts_step w0 S hi top l B h00 J Jx hJ e k hin.nd (fun m W hj => hY m k e W hL.self hj) fun j x hx m W h2 h3 h4 => by
    have hm := List.mem_of_getElem? hx
    have := parts_upto w0 S hi top l B h00 J Jx hJ L hY n x (k + 1 + sizeL (e.x.take j)) (by have := size_part hm; omega) (hin.part hm) (hL.part hx) m W h2 h3 h4
    rw [sizeL_take e.x j x hx]
    rwa [Nat.add_assoc] at this
/-- yieldParts: all that the expression is made of comes, in order; or a round has said: no more. -/
theorem parts_in (w0 : World) (S : Nat → Prop) (hi top l B : Nat) (h00 : ∀ b, S b → w0.heap.size ≤ b ∧ b < hi) (J : Nat → World → Prop) (Jx : World → Prop) (hJ : Mine B J) (L : List Ex)
    (hY : ∀ m k x W, L[k]? = some x → J k W → YieldAt Fence.wide m Tryz.prog l #[exV x] W (Goes S top J Jx (k + 1) W))
    (e : Ex) (k : Nat) (hin : ExIn w0 e) (hL : From L k e) (m : Nat) (W : World) (h2 : hi ≤ W.heap.size) (h3 : Low w0 W) (h4 : J k W) :
    CallsIn Fence.wide m Tryz.prog 100 #[exV e, .func (.yield l) #[] #[]] W (Goes S top J Jx (k + size e) W) :=
  parts_upto w0 S hi top l B h00 J Jx hJ L hY _ e k (Nat.le_refl _) hin hL m W h2 h3 h4
end Go.Proofs.YtmihlmlojmdhjaaGreatDoor.Tre
