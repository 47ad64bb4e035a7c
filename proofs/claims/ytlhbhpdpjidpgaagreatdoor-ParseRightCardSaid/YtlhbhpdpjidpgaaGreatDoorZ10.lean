/-
  The library's EqualFunc over lists of expressions, with the package's own sameExpr; so sameExpr of any two expressions. Conditions: both trees lie in memory.
-/
import Derived.Test.YtlhbhpdpjidpgaaGreatDoorZ09
namespace Go.Proofs.YtlhbhpdpjidpgaaGreatDoor.Tre
open Go.RowKit
set_option maxRecDepth 100000
theorem Row.at_ {α : Type} {k : Nat} {C : α → List Value} {w w' : World} {A : Option Addr} {l : List α} (h : Row k C w A l) (hb : Below w.heap.size w w') {j : Nat} {x : α} (hx : l[j]? = some x) :
    ∃ b o, A = some ⟨b, o, none⟩ ∧ ∀ (r : Nat) (u : Value), (C x)[r]? = some u → w'.cell? ⟨b, o + j * k + r, none⟩ = some u := by
  obtain ⟨b, o, e, _, hc⟩ := h.below hb (by have := (List.getElem?_eq_some_iff.1 hx).1; omega)
  exact ⟨b, o, e, fun r u hu => hc j x hx r u hu⟩
theorem exC_at {e : Ex} {w : World} {b o : Nat} (h : ∀ (r : Nat) (u : Value), (exC e)[r]? = some u → w.cell? ⟨b, o + r, none⟩ = some u) :
    w.cell? ⟨b, o, none⟩ = some (.int .i64 e.op) ∧ w.cell? ⟨b, o + 1, none⟩ = some (.int .i64 e.n) ∧ w.cell? ⟨b, o + 2, none⟩ = some (.string e.s) ∧ w.cell? ⟨b, o + 3, none⟩ = some (.string e.q) ∧ w.cell? ⟨b, o + 4, none⟩ = some (.slice e.a e.x.length e.c) := by
  cases e
  exact ⟨h 0 _ rfl, h 1 _ rfl, h 2 _ rfl, h 3 _ rfl, h 4 _ rfl⟩
theorem exV_eq (e : Ex) : exV e = .agg #[.int .i64 e.op, .int .i64 e.n, .string e.s, .string e.q, .slice e.a e.x.length e.c] := by cases e; rfl
theorem two_more {α : Type} {p : α → α → Bool} {x y : List α} {k : Nat} (h : ∀ (j : Nat) (a b : α), j < k → x[j]? = some a → y[j]? = some b → p a b = true) {a b : α} (ha : x[k]? = some a) (hb : y[k]? = some b) (hp : p a b = true) : ∀ (j : Nat) (a b : α), j < k + 1 → x[j]? = some a → y[j]? = some b → p a b = true := fun j a' b' hj h1 h2 => by
  by_cases e : j = k
  · subst e
    obtain rfl : a = a' := Option.some.inj (ha.symm.trans h1)
    obtain rfl : b = b' := Option.some.inj (hb.symm.trans h2)
    exact hp
  · exact h j a' b' (by omega) h1 h2
theorem all_two {α : Type} {p : α → α → Bool} {x y : List α} {n : Nat} (hl : x.length = y.length) (hn : x.length = n) (h : ∀ (j : Nat) (a b : α), j < n → x[j]? = some a → y[j]? = some b → p a b = true) : allTwo p x y = true :=
  allTwo_yes hl fun k a b h1 h2 => h k a b (by have := (List.getElem?_eq_some_iff.1 h1).1; omega) h1 h2
set_option maxHeartbeats 4000000 in
theorem equalX (x y : List Ex) (A B : Option Addr) (c d : Nat) (w : World) (hx : Row 5 exC w A x) (hy : Row 5 exC w B y) (hl : x.length ≤ most)
    (C : ∀ a ∈ x, ∀ b ∈ y, ∀ w', Below w.heap.size w w' → Hid (Calls Tryz.prog 99 #[exV a, exV b] w' (EndsB (.bool (sameX a b)) w'))) :
    Calls Tryz.prog 128 #[.slice A x.length c, .slice B y.length d, .func (.func 99) #[] #[]] w (EndsB (.bool (sameXL x y)) w) := by
  unfold most at *
  rw [sameXL_all]
  by_cases hne : x.length = y.length
  · have HX := Lib.hid hx
    have HY := Lib.hid hy
    have HC := Lib.hid C
    clear hx hy C
    rw [← hne]
    have HNE := Lib.hid hne
    clear hne
    obtain ⟨n, hn⟩ : ∃ n, x.length = n := ⟨_, rfl⟩
    rw [hn] at hl ⊢
    have HN := Lib.hid hn
    clear hn
    go_enter Tryz.func128, Tryz.ntmps128
    go_wp2
    go_loopw [17] (fun i wr => ∃ k : Nat, k ≤ n ∧ i = .int .i64 k ∧ Below w.heap.size w wr ∧ Hid (∀ (j : Nat) (a b : Ex), j < k → x[j]? = some a → y[j]? = some b → sameX a b = true)) (fun i _ => n - (intOf i).toNat)
    case atStart => exact ⟨0, Nat.zero_le _, rfl, Below.refl _ _, Lib.hid (fun j a b h => by omega)⟩
    case round =>
      obtain ⟨k, hk, rfl, hb, hs⟩ := hrel
      by_cases hlt : k < n
      · obtain ⟨a, ha⟩ : ∃ a, x[k]? = some a := ⟨_, List.getElem?_eq_getElem (by rw [HN.out]; exact hlt)⟩
        obtain ⟨b, hb2⟩ : ∃ b, y[k]? = some b := ⟨_, List.getElem?_eq_getElem (by rw [← HNE.out, HN.out]; exact hlt)⟩
        have CC := HC.out a (List.mem_of_getElem? ha) b (List.mem_of_getElem? hb2)
        obtain ⟨b1, o1, rfl, hc1⟩ := HX.out.at_ hb ha
        obtain ⟨b2, o2, rfl, hc2⟩ := HY.out.at_ (hb.trans ((ball_new wr #[.int .i64 a.op, .int .i64 a.n, .string a.s, .string a.q, .slice a.a a.x.length a.c] 36).mono hb.size)) hb2
        have HBL := Lib.hid (hb.trans ((two_new wr #[.int .i64 a.op, .int .i64 a.n, .string a.s, .string a.q, .slice a.a a.x.length a.c] #[.int .i64 b.op, .int .i64 b.n, .string b.s, .string b.q, .slice b.a b.x.length b.c] 36).mono hb.size))
        obtain ⟨p0, p1, p2, p3, p4⟩ := exC_at hc1
        obtain ⟨q0, q1, q2, q3, q4⟩ := exC_at hc2
        have HA := Lib.hid ha
        have HB := Lib.hid hb2
        clear hc1 hc2 ha hb2
        rw [exV_eq, exV_eq] at CC
        have C1 := CC _ HBL.out
        have HS := hs
        clear hs CC
        obtain ⟨t, ht0⟩ : ∃ t, sameX a b = t := ⟨_, rfl⟩
        rw [ht0] at C1
        have HT := Lib.hid ht0
        clear ht0
        rcases Bool.eq_false_or_eq_true t with ht | ht
        · subst ht
          go_wp2_with fail
          refine C1.out.mono ?_
          rintro e w1 ⟨rfl, hb1⟩
          have HB1 := Lib.hid (HBL.out.trans (hb1.mono HBL.out.size))
          clear hb1 hb
          go_wp2_with fail
          go_roundw
          case rel => exact ⟨k + 1, by omega, rfl, HB1.out, Lib.hid (two_more HS.out HA.out HB.out HT.out)⟩
          case measure => simp [intOf]; omega
        · subst ht
          go_wp2_with fail
          refine C1.out.mono ?_
          rintro e w1 ⟨rfl, hb1⟩
          have HB1 := Lib.hid (HBL.out.trans (hb1.mono HBL.out.size))
          clear hb1 hb
          go_wp2_with fail
          go_ret
          exact ends_bool (allTwo_no k a b HA.out HB.out HT.out).symm HB1.out
      · obtain rfl : k = n := by omega
        go_wp2_with fail
        go_ret
        exact ends_bool (all_two HNE.out HN.out hs.out).symm hb
  · have HN := Lib.hid (allTwo_len (p := sameX) hne)
    have HB := Lib.hid (Below.refl w.heap.size w)
    generalize allTwo sameX x y = t at *
    have hne' : ((x.length : Int) == (y.length : Int)) = false := by rw [beq_eq_false_iff_ne]; omega
    generalize x.length = n at *
    generalize y.length = n' at *
    clear hx hy C hne
    go_enter Tryz.func128, Tryz.ntmps128
    go_wp2_with fail
    go_ret
    exact ends_bool HN.out.symm HB.out
theorem sameExpr_upto : ∀ (m : Nat) (a b : Ex) (w : World), size a ≤ m → ExIn w a → ExIn w b → Calls Tryz.prog 99 #[exV a, exV b] w (EndsB (.bool (sameX a b)) w)
  | 0, a, b, w, h, _, _ => by rw [size_eq] at h; omega
  | m + 1, a, b, w, h, ha, hb => sameExpr_step a b w fun w' hw => Lib.hid (equalX a.x b.x a.a b.a a.c b.c w' (ha.nd.row.below hw) (hb.nd.row.below hw) ha.nd.len fun x hx y hy w2 hw2 =>
      Lib.hid (sameExpr_upto m x y w2 (by have := size_part hx; omega) (((ha.below hw).below hw2).part hx) (((hb.below hw).below hw2).part hy)))
/-- sameExpr: the same. -/
theorem sameExpr_any (a b : Ex) (w : World) (ha : ExIn w a) (hb : ExIn w b) : Calls Tryz.prog 99 #[exV a, exV b] w (EndsB (.bool (sameX a b)) w) := sameExpr_upto _ a b w (Nat.le_refl _) ha hb
end Go.Proofs.YtlhbhpdpjidpgaaGreatDoor.Tre
/- The library's EqualFunc over lists of statements, and over lists of functions, with the package's own sameStmt, sameFunc. Conditions: the trees lie in memory. -/
namespace Go.Proofs.YtlhbhpdpjidpgaaGreatDoor.Tre
open Go.RowKit
set_option maxRecDepth 100000
theorem stC_at {e : St} {w : World} {b o : Nat} (h : ∀ (r : Nat) (u : Value), (stC e)[r]? = some u → w.cell? ⟨b, o + r, none⟩ = some u) :
    w.cell? ⟨b, o, none⟩ = some (.int .i64 e.op) ∧ w.cell? ⟨b, o + 1, none⟩ = some (.string e.s) ∧ w.cell? ⟨b, o + 2, none⟩ = some (.int .i64 e.e.op) ∧ w.cell? ⟨b, o + 3, none⟩ = some (.int .i64 e.e.n) ∧ w.cell? ⟨b, o + 4, none⟩ = some (.string e.e.s) ∧ w.cell? ⟨b, o + 5, none⟩ = some (.string e.e.q) ∧ w.cell? ⟨b, o + 6, none⟩ = some (.slice e.e.a e.e.x.length e.e.c) ∧ w.cell? ⟨b, o + 7, none⟩ = some (.slice e.a e.b.length e.c) ∧ w.cell? ⟨b, o + 8, none⟩ = some (.slice e.a2 e.b2.length e.c2) := by
  obtain ⟨o, s, ⟨eo, en, es, eq, ea, ec, ex⟩, a, c, b, a2, c2, b2⟩ := e
  exact ⟨h 0 _ rfl, h 1 _ rfl, h 2 _ rfl, h 3 _ rfl, h 4 _ rfl, h 5 _ rfl, h 6 _ rfl, h 7 _ rfl, h 8 _ rfl⟩
theorem fnC_at {e : Fn} {w : World} {b o : Nat} (h : ∀ (r : Nat) (u : Value), (fnC e)[r]? = some u → w.cell? ⟨b, o + r, none⟩ = some u) :
    w.cell? ⟨b, o, none⟩ = some (.string e.s) ∧ w.cell? ⟨b, o + 1, none⟩ = some (.slice e.pa e.p.length e.pc) ∧ w.cell? ⟨b, o + 2, none⟩ = some (.int .u8 e.r) ∧ w.cell? ⟨b, o + 3, none⟩ = some (.slice e.ba e.b.length e.bc) := by
  cases e
  exact ⟨h 0 _ rfl, h 1 _ rfl, h 2 _ rfl, h 3 _ rfl⟩
theorem stV_eq (e : St) : stV e = .agg #[.int .i64 e.op, .string e.s, .int .i64 e.e.op, .int .i64 e.e.n, .string e.e.s, .string e.e.q, .slice e.e.a e.e.x.length e.e.c, .slice e.a e.b.length e.c, .slice e.a2 e.b2.length e.c2] := by
  obtain ⟨o, s, ⟨eo, en, es, eq, ea, ec, ex⟩, a, c, b, a2, c2, b2⟩ := e
  rfl
theorem fnV_eq (e : Fn) : fnV e = .agg #[.string e.s, .slice e.pa e.p.length e.pc, .int .u8 e.r, .slice e.ba e.b.length e.bc] := rfl
set_option maxHeartbeats 4000000 in
theorem equalS (x y : List St) (A B : Option Addr) (c d : Nat) (w : World) (hx : Row 9 stC w A x) (hy : Row 9 stC w B y) (hl : x.length ≤ most)
    (C : ∀ a ∈ x, ∀ b ∈ y, ∀ w', Below w.heap.size w w' → Hid (Calls Tryz.prog 67 #[stV a, stV b] w' (EndsB (.bool (sameS a b)) w'))) :
    Calls Tryz.prog 66 #[.slice A x.length c, .slice B y.length d, .func (.func 67) #[] #[]] w (EndsB (.bool (allTwo sameS x y)) w) := by
  unfold most at *
  by_cases hne : x.length = y.length
  · have HX := Lib.hid hx
    have HY := Lib.hid hy
    have HC := Lib.hid C
    clear hx hy C
    rw [← hne]
    have HNE := Lib.hid hne
    clear hne
    obtain ⟨n, hn⟩ : ∃ n, x.length = n := ⟨_, rfl⟩
    rw [hn] at hl ⊢
    have HN := Lib.hid hn
    clear hn
    go_enter Tryz.func66, Tryz.ntmps66
    go_wp2
    go_loopw [17] (fun i wr => ∃ k : Nat, k ≤ n ∧ i = .int .i64 k ∧ Below w.heap.size w wr ∧ Hid (∀ (j : Nat) (a b : St), j < k → x[j]? = some a → y[j]? = some b → sameS a b = true)) (fun i _ => n - (intOf i).toNat)
    case atStart => exact ⟨0, Nat.zero_le _, rfl, Below.refl _ _, Lib.hid (fun j a b h => by omega)⟩
    case round =>
      obtain ⟨k, hk, rfl, hb, hs⟩ := hrel
      by_cases hlt : k < n
      · obtain ⟨a, ha⟩ : ∃ a, x[k]? = some a := ⟨_, List.getElem?_eq_getElem (by rw [HN.out]; exact hlt)⟩
        obtain ⟨b, hb2⟩ : ∃ b, y[k]? = some b := ⟨_, List.getElem?_eq_getElem (by rw [← HNE.out, HN.out]; exact hlt)⟩
        have CC := HC.out a (List.mem_of_getElem? ha) b (List.mem_of_getElem? hb2)
        obtain ⟨b1, o1, rfl, hc1⟩ := HX.out.at_ hb ha
        obtain ⟨b2, o2, rfl, hc2⟩ := HY.out.at_ (hb.trans ((ball_new wr #[.int .i64 a.op, .string a.s, .int .i64 a.e.op, .int .i64 a.e.n, .string a.e.s, .string a.e.q, .slice a.e.a a.e.x.length a.e.c, .slice a.a a.b.length a.c, .slice a.a2 a.b2.length a.c2] 47).mono hb.size)) hb2
        have HBL := Lib.hid (hb.trans ((two_new wr #[.int .i64 a.op, .string a.s, .int .i64 a.e.op, .int .i64 a.e.n, .string a.e.s, .string a.e.q, .slice a.e.a a.e.x.length a.e.c, .slice a.a a.b.length a.c, .slice a.a2 a.b2.length a.c2] #[.int .i64 b.op, .string b.s, .int .i64 b.e.op, .int .i64 b.e.n, .string b.e.s, .string b.e.q, .slice b.e.a b.e.x.length b.e.c, .slice b.a b.b.length b.c, .slice b.a2 b.b2.length b.c2] 47).mono hb.size))
        obtain ⟨p0, p1, p2, p3, p4, p5, p6, p7, p8⟩ := stC_at hc1
        obtain ⟨q0, q1, q2, q3, q4, q5, q6, q7, q8⟩ := stC_at hc2
        have HA := Lib.hid ha
        have HB := Lib.hid hb2
        clear hc1 hc2 ha hb2
        rw [stV_eq, stV_eq] at CC
        have C1 := CC _ HBL.out
        have HS := hs
        clear hs CC
        obtain ⟨t, ht0⟩ : ∃ t, sameS a b = t := ⟨_, rfl⟩
        rw [ht0] at C1
        have HT := Lib.hid ht0
        clear ht0
        rcases Bool.eq_false_or_eq_true t with ht | ht
        · subst ht
          go_wp2_with fail
          refine C1.out.mono ?_
          rintro e w1 ⟨rfl, hb1⟩
          have HB1 := Lib.hid (HBL.out.trans (hb1.mono HBL.out.size))
          clear hb1 hb
          go_wp2_with fail
          go_roundw
          case rel => exact ⟨k + 1, by omega, rfl, HB1.out, Lib.hid (two_more HS.out HA.out HB.out HT.out)⟩
          case measure => simp [intOf]; omega
        · subst ht
          go_wp2_with fail
          refine C1.out.mono ?_
          rintro e w1 ⟨rfl, hb1⟩
          have HB1 := Lib.hid (HBL.out.trans (hb1.mono HBL.out.size))
          clear hb1 hb
          go_wp2_with fail
          go_ret
          exact ends_bool (allTwo_no k a b HA.out HB.out HT.out).symm HB1.out
      · obtain rfl : k = n := by omega
        go_wp2_with fail
        go_ret
        exact ends_bool (all_two HNE.out HN.out hs.out).symm hb
  · have HN := Lib.hid (allTwo_len (p := sameS) hne)
    have HB := Lib.hid (Below.refl w.heap.size w)
    generalize allTwo sameS x y = t at *
    have hne' : ((x.length : Int) == (y.length : Int)) = false := by rw [beq_eq_false_iff_ne]; omega
    generalize x.length = n at *
    generalize y.length = n' at *
    clear hx hy C hne
    go_enter Tryz.func66, Tryz.ntmps66
    go_wp2_with fail
    go_ret
    exact ends_bool HN.out.symm HB.out
set_option maxHeartbeats 4000000 in
theorem equalF (x y : List Fn) (A B : Option Addr) (c d : Nat) (w : World) (hx : Row 4 fnC w A x) (hy : Row 4 fnC w B y) (hl : x.length ≤ most)
    (C : ∀ a ∈ x, ∀ b ∈ y, ∀ w', Below w.heap.size w w' → Hid (Calls Tryz.prog 39 #[fnV a, fnV b] w' (EndsB (.bool (sameF a b)) w'))) :
    Calls Tryz.prog 38 #[.slice A x.length c, .slice B y.length d, .func (.func 39) #[] #[]] w (EndsB (.bool (allTwo sameF x y)) w) := by
  unfold most at *
  by_cases hne : x.length = y.length
  · have HX := Lib.hid hx
    have HY := Lib.hid hy
    have HC := Lib.hid C
    clear hx hy C
    rw [← hne]
    have HNE := Lib.hid hne
    clear hne
    obtain ⟨n, hn⟩ : ∃ n, x.length = n := ⟨_, rfl⟩
    rw [hn] at hl ⊢
    have HN := Lib.hid hn
    clear hn
    go_enter Tryz.func38, Tryz.ntmps38
    go_wp2
    go_loopw [17] (fun i wr => ∃ k : Nat, k ≤ n ∧ i = .int .i64 k ∧ Below w.heap.size w wr ∧ Hid (∀ (j : Nat) (a b : Fn), j < k → x[j]? = some a → y[j]? = some b → sameF a b = true)) (fun i _ => n - (intOf i).toNat)
    case atStart => exact ⟨0, Nat.zero_le _, rfl, Below.refl _ _, Lib.hid (fun j a b h => by omega)⟩
    case round =>
      obtain ⟨k, hk, rfl, hb, hs⟩ := hrel
      by_cases hlt : k < n
      · obtain ⟨a, ha⟩ : ∃ a, x[k]? = some a := ⟨_, List.getElem?_eq_getElem (by rw [HN.out]; exact hlt)⟩
        obtain ⟨b, hb2⟩ : ∃ b, y[k]? = some b := ⟨_, List.getElem?_eq_getElem (by rw [← HNE.out, HN.out]; exact hlt)⟩
        have CC := HC.out a (List.mem_of_getElem? ha) b (List.mem_of_getElem? hb2)
        obtain ⟨b1, o1, rfl, hc1⟩ := HX.out.at_ hb ha
        obtain ⟨b2, o2, rfl, hc2⟩ := HY.out.at_ (hb.trans ((ball_new wr #[.string a.s, .slice a.pa a.p.length a.pc, .int .u8 a.r, .slice a.ba a.b.length a.bc] 51).mono hb.size)) hb2
        have HBL := Lib.hid (hb.trans ((two_new wr #[.string a.s, .slice a.pa a.p.length a.pc, .int .u8 a.r, .slice a.ba a.b.length a.bc] #[.string b.s, .slice b.pa b.p.length b.pc, .int .u8 b.r, .slice b.ba b.b.length b.bc] 51).mono hb.size))
        obtain ⟨p0, p1, p2, p3⟩ := fnC_at hc1
        obtain ⟨q0, q1, q2, q3⟩ := fnC_at hc2
        have HA := Lib.hid ha
        have HB := Lib.hid hb2
        clear hc1 hc2 ha hb2
        rw [fnV_eq, fnV_eq] at CC
        have C1 := CC _ HBL.out
        have HS := hs
        clear hs CC
        obtain ⟨t, ht0⟩ : ∃ t, sameF a b = t := ⟨_, rfl⟩
        rw [ht0] at C1
        have HT := Lib.hid ht0
        clear ht0
        rcases Bool.eq_false_or_eq_true t with ht | ht
        · subst ht
          go_wp2_with fail
          refine C1.out.mono ?_
          rintro e w1 ⟨rfl, hb1⟩
          have HB1 := Lib.hid (HBL.out.trans (hb1.mono HBL.out.size))
          clear hb1 hb
          go_wp2_with fail
          go_roundw
          case rel => exact ⟨k + 1, by omega, rfl, HB1.out, Lib.hid (two_more HS.out HA.out HB.out HT.out)⟩
          case measure => simp [intOf]; omega
        · subst ht
          go_wp2_with fail
          refine C1.out.mono ?_
          rintro e w1 ⟨rfl, hb1⟩
          have HB1 := Lib.hid (HBL.out.trans (hb1.mono HBL.out.size))
          clear hb1 hb
          go_wp2_with fail
          go_ret
          exact ends_bool (allTwo_no k a b HA.out HB.out HT.out).symm HB1.out
      · obtain rfl : k = n := by omega
        go_wp2_with fail
        go_ret
        exact ends_bool (all_two HNE.out HN.out hs.out).symm hb
  · have HN := Lib.hid (allTwo_len (p := sameF) hne)
    have HB := Lib.hid (Below.refl w.heap.size w)
    generalize allTwo sameF x y = t at *
    have hne' : ((x.length : Int) == (y.length : Int)) = false := by rw [beq_eq_false_iff_ne]; omega
    generalize x.length = n at *
    generalize y.length = n' at *
    clear hx hy C hne
    go_enter Tryz.func38, Tryz.ntmps38
    go_wp2_with fail
    go_ret
    exact ends_bool HN.out.symm HB.out
end Go.Proofs.YtlhbhpdpjidpgaaGreatDoor.Tre
/- Are two statements, two functions the same (the package's own): what sameStmt, sameFunc and the library's Equal over parameters, over texts answer. Conditions: both trees lie in memory. -/
namespace Go.Proofs.YtlhbhpdpjidpgaaGreatDoor.Tre
open Go.RowKit
set_option maxRecDepth 100000
/-- The two boxes lie as they lay. -/
theorem box_at {w w1 : World} {cs ds : Array Value} {T : TypeId} (h : Below ((w.alloc (.cells cs T)).alloc (.cells ds T)).heap.size ((w.alloc (.cells cs T)).alloc (.cells ds T)) w1) (i : Nat) :
    w1.cell? ⟨w.heap.size, i, none⟩ = cs[i]? ∧ w1.cell? ⟨w.heap.size + 1, i, none⟩ = ds[i]? := by
  have h0 : ((w.alloc (.cells cs T)).alloc (.cells ds T)).heap[w.heap.size]? = some (.cells cs T (0, 0)) := (Below.heap_alloc _ _ _ (by simp)).trans (new_at w cs T)
  have h1 : ((w.alloc (.cells cs T)).alloc (.cells ds T)).heap[w.heap.size + 1]? = some (.cells ds T (0, 0)) := by
    have := new_at (w.alloc (.cells cs T)) ds T
    rwa [World.size_alloc] at this
  exact ⟨cell_at ((h.block _ (by simp; omega)).trans h0) i, cell_at ((h.block _ (by simp)).trans h1) i⟩
theorem exV_flat (e : Ex) : Value.agg #[.int .i64 e.op, .int .i64 e.n, .string e.s, .string e.q, .slice e.a e.x.length e.c] = exV e := (exV_eq e).symm
set_option maxHeartbeats 4000000 in
theorem sameStmt_step (a b : St) (w : World) (he : ∀ w', Below w.heap.size w w' → Hid (Calls Tryz.prog 99 #[exV a.e, exV b.e] w' (EndsB (.bool (sameX a.e b.e)) w')))
    (C : ∀ w', Below w.heap.size w w' → Hid (Calls Tryz.prog 66 #[.slice a.a a.b.length a.c, .slice b.a b.b.length b.c, .func (.func 67) #[] #[]] w' (EndsB (.bool (sameB a.b b.b)) w')))
    (C2 : ∀ w', Below w.heap.size w w' → Hid (Calls Tryz.prog 66 #[.slice a.a2 a.b2.length a.c2, .slice b.a2 b.b2.length b.c2, .func (.func 67) #[] #[]] w' (EndsB (.bool (sameB a.b2 b.b2)) w'))) :
    Calls Tryz.prog 67 #[stV a, stV b] w (EndsB (.bool (sameS a b)) w) := by
  rw [sameS_eq, stV_eq, stV_eq]
  rw [exV_eq, exV_eq] at he
  have HB := Lib.hid (two_new w #[.int .i64 a.op, .string a.s, .int .i64 a.e.op, .int .i64 a.e.n, .string a.e.s, .string a.e.q, .slice a.e.a a.e.x.length a.e.c, .slice a.a a.b.length a.c, .slice a.a2 a.b2.length a.c2] #[.int .i64 b.op, .string b.s, .int .i64 b.e.op, .int .i64 b.e.n, .string b.e.s, .string b.e.q, .slice b.e.a b.e.x.length b.e.c, .slice b.a b.b.length b.c, .slice b.a2 b.b2.length b.c2] 47)
  generalize sameX a.e b.e = t1 at *
  generalize sameB a.b b.b = t2 at *
  generalize sameB a.b2 b.b2 = t3 at *
  generalize a.e.x.length = k1 at *
  generalize b.e.x.length = k2 at *
  generalize a.b.length = k3 at *
  generalize b.b.length = k4 at *
  generalize a.b2.length = k5 at *
  generalize b.b2.length = k6 at *
  rcases Bool.eq_false_or_eq_true (a.op == b.op) with h1 | h1
  · rcases Bool.eq_false_or_eq_true (a.s.toList == b.s.toList) with h2 | h2
    · go_enter Tryz.func67, Tryz.ntmps67
      go_wp2_with fail
      refine (he _ HB.out).out.mono ?_
      rintro e w1 ⟨rfl, hb1⟩
      have HB1 := Lib.hid (HB.out.trans (hb1.mono HB.out.size))
      have HX1 := Lib.hid hb1
      obtain ⟨z0, z1⟩ := box_at hb1 7
      simp only [List.getElem?_toArray, List.getElem?_cons_succ, List.getElem?_cons_zero] at z0 z1
      clear hb1
      rcases Bool.eq_false_or_eq_true t1 with ht | ht <;> subst ht
      · go_wp2_with fail
        refine (C _ HB1.out).out.mono ?_
        rintro e w2 ⟨rfl, hb2⟩
        have HB2 := Lib.hid (HB1.out.trans (hb2.mono HB1.out.size))
        obtain ⟨z0, z1⟩ := box_at (HX1.out.trans (hb2.mono HX1.out.size)) 8
        simp only [List.getElem?_toArray, List.getElem?_cons_succ, List.getElem?_cons_zero] at z0 z1
        clear hb2
        rcases Bool.eq_false_or_eq_true t2 with ht | ht <;> subst ht
        · go_wp2_with fail
          refine (C2 _ HB2.out).out.mono ?_
          rintro e w3 ⟨rfl, hb3⟩
          have HB3 := Lib.hid (HB2.out.trans (hb3.mono HB2.out.size))
          clear hb3
          go_wp2_with fail
          go_ret
          exact ends_bool (by simp [*]) HB3.out
        · go_wp2_with fail
          go_ret
          exact ends_bool (by simp [*]) HB2.out
      · go_wp2_with fail
        go_ret
        exact ends_bool (by simp [*]) HB1.out
    · go_enter Tryz.func67, Tryz.ntmps67
      go_wp2_with fail
      go_ret
      exact ends_bool (by simp [*]) HB.out
  · go_enter Tryz.func67, Tryz.ntmps67
    go_wp2_with fail
    go_ret
    exact ends_bool (by simp [*]) HB.out
theorem sameStmt_upto : ∀ (m : Nat) (a b : St) (w : World), sizeS a ≤ m → StIn w a → StIn w b → Calls Tryz.prog 67 #[stV a, stV b] w (EndsB (.bool (sameS a b)) w)
  | 0, a, b, w, h, _, _ => by rw [sizeS_eq] at h; omega
  | m + 1, a, b, w, h, ha, hb => by
    have CC : ∀ x y : St, x ∈ a.b ∨ x ∈ a.b2 → y ∈ b.b ∨ y ∈ b.b2 → ∀ w', Below w.heap.size w w' → Hid (Calls Tryz.prog 67 #[stV x, stV y] w' (EndsB (.bool (sameS x y)) w')) := fun x y hx hy w' hw =>
      Lib.hid (sameStmt_upto m x y w' (by have := sizeS_part hx; omega) ((ha.below hw).part hx) ((hb.below hw).part hy))
    refine sameStmt_step a b w (fun w' hw => Lib.hid (sameExpr_any a.e b.e w' (ha.nd.e.below hw) (hb.nd.e.below hw))) (fun w' hw => Lib.hid ?_) (fun w' hw => Lib.hid ?_)
    · exact equalS a.b b.b a.a b.a a.c b.c w' (ha.nd.row.below hw) (hb.nd.row.below hw) ha.nd.len fun x hx y hy w2 hw2 => CC x y (.inl hx) (.inl hy) w2 (hw.trans (hw2.mono hw.size))
    · exact equalS a.b2 b.b2 a.a2 b.a2 a.c2 b.c2 w' (ha.nd.row2.below hw) (hb.nd.row2.below hw) ha.nd.len2 fun x hx y hy w2 hw2 => CC x y (.inr hx) (.inr hy) w2 (hw.trans (hw2.mono hw.size))
/-- sameStmt: the same. -/
theorem sameStmt_any (a b : St) (w : World) (ha : StIn w a) (hb : StIn w b) : Calls Tryz.prog 67 #[stV a, stV b] w (EndsB (.bool (sameS a b)) w) := sameStmt_upto _ a b w (Nat.le_refl _) ha hb
end Go.Proofs.YtlhbhpdpjidpgaaGreatDoor.Tre
/- The library's Equal over lists of parameters, and over lists of texts. Conditions: both lists lie in memory. -/
namespace Go.Proofs.YtlhbhpdpjidpgaaGreatDoor.Tre
open Go.RowKit
set_option maxRecDepth 100000
theorem below_drewN (w : World) (m : Nat) : Below w.heap.size w (w.drewN m) := ⟨rfl, rfl, rfl, Nat.le_refl _, fun _ _ => rfl⟩
theorem parC_at {e : Par} {w : World} {b o : Nat} (h : ∀ (r : Nat) (u : Value), (parC e)[r]? = some u → w.cell? ⟨b, o + r, none⟩ = some u) :
    w.cell? ⟨b, o, none⟩ = some (.string e.s) ∧ w.cell? ⟨b, o + 1, none⟩ = some (.int .u8 e.t) := ⟨h 0 _ rfl, h 1 _ rfl⟩
theorem par_neq (a b : ByteArray) (s t : Int) (w : World) : (binOp .neq 67 (.agg #[.string a, .int .u8 s]) (.agg #[.string b, .int .u8 t])).run Tryz.prog w = .ok (.bool (!(a.toList == b.toList && s == t))) w := by
  have u9 := Tryz.underlying9
  have u33 : Tryz.prog.underlying 49 = some (.int .u8) := by kernel_rfl
  have a9 := Tryz.isAgg9
  have a33 := Tryz.isAgg49
  have z9 := Tryz.sizeOf9
  have z33 := Tryz.sizeOf49
  have hS : Tryz.prog.underlying 67 = some (.struct (Tryz.prog.fieldsOf 67)) := by kernel_rfl
  have hp : Tryz.prog.stoodInHeld 67 = false := by kernel_rfl
  rw [run_neq_struct, show (10000 : Nat) = 9999 + 1 from rfl, run_equalIn_agg w 9999 67 _ _ hS hp]
  simp only [Program.fieldsOf, Tryz.underlying67]
  go_simp
  by_cases h1 : a.toList = b.toList <;> by_cases h2 : s = t <;> simp [h1, h2]
theorem par_guard (op : BinOp) (x y : Operand) (xs ys : Array Value) (w : World) : (eqGuard op 67 x y (.agg xs) (.agg ys)).run Tryz.prog w = .ok () w := run_eqGuard_agg w op _ x y xs ys (by kernel_rfl)
set_option maxHeartbeats 4000000 in
theorem equalP (x y : List Par) (A B : Option Addr) (c d : Nat) (w : World) (hx : Row 2 parC w A x) (hy : Row 2 parC w B y) (hl : x.length ≤ most) :
    Calls Tryz.prog 65 #[.slice A x.length c, .slice B y.length d] w (EndsB (.bool (allTwo samePar x y)) w) := by
  unfold most at *
  by_cases hne : x.length = y.length
  · have HX := Lib.hid hx
    have HY := Lib.hid hy
    clear hx hy
    rw [← hne]
    have HNE := Lib.hid hne
    clear hne
    obtain ⟨n, hn⟩ : ∃ n, x.length = n := ⟨_, rfl⟩
    rw [hn] at hl ⊢
    have HN := Lib.hid hn
    clear hn
    go_enter Tryz.func65, Tryz.ntmps65
    go_wp2
    go_loopw [13] (fun i wr => ∃ k m : Nat, k ≤ n ∧ i = .int .i64 k ∧ wr = w.drewN m ∧ Hid (∀ (j : Nat) (a b : Par), j < k → x[j]? = some a → y[j]? = some b → samePar a b = true)) (fun i _ => n - (intOf i).toNat)
    case atStart => exact ⟨0, 0, Nat.zero_le _, rfl, rfl, Lib.hid (fun j a b h => by omega)⟩
    case round =>
      obtain ⟨k, m, hk, rfl, rfl, hs⟩ := hrel
      by_cases hlt : k < n
      · obtain ⟨a, ha⟩ : ∃ a, x[k]? = some a := ⟨_, List.getElem?_eq_getElem (by rw [HN.out]; exact hlt)⟩
        obtain ⟨b, hb2⟩ : ∃ b, y[k]? = some b := ⟨_, List.getElem?_eq_getElem (by rw [← HNE.out, HN.out]; exact hlt)⟩
        obtain ⟨b1, o1, rfl, hc1⟩ := HX.out.at_ (Below.refl _ _) ha
        obtain ⟨b2, o2, rfl, hc2⟩ := HY.out.at_ (Below.refl _ _) hb2
        obtain ⟨p0, p1⟩ := parC_at hc1
        obtain ⟨q0, q1⟩ := parC_at hc2
        have HA := Lib.hid ha
        have HB := Lib.hid hb2
        have HS := hs
        clear hc1 hc2 ha hb2 hs
        obtain ⟨t, ht0⟩ : ∃ t, samePar a b = t := ⟨_, rfl⟩
        have HT := Lib.hid ht0
        unfold samePar at ht0
        obtain ⟨s1, t1⟩ := a
        obtain ⟨s2, t2⟩ := b
        dsimp only at p0 p1 q0 q1 ht0
        have G := fun (x y : Operand) (w' : World) => par_guard .neq x y #[.string s1, .int .u8 t1] #[.string s2, .int .u8 t2] w'
        have N := fun w' => par_neq s1 s2 t1 t2 w'
        rw [ht0] at N
        clear ht0
        rcases Bool.eq_false_or_eq_true t with ht | ht <;> subst ht
        · go_wp2
          go_quiet (fail)
          go_wp2
          go_roundw
          case rel => exact ⟨k + 1, m + nq, by omega, by go_num, rfl, Lib.hid (two_more HS.out HA.out HB.out HT.out)⟩
          case measure => simp [intOf]; omega
        · go_wp2
          go_quiet (fail)
          go_wp2
          go_ret
          exact ends_bool (allTwo_no k _ _ HA.out HB.out HT.out).symm ((below_drewN w m).trans ((below_drewN _ nq).mono (Nat.le_refl _)))
      · obtain rfl : k = n := by omega
        go_wp2_with fail
        go_ret
        exact ends_bool (all_two HNE.out HN.out hs.out).symm (below_drewN w m)
  · have HN := Lib.hid (allTwo_len (p := samePar) hne)
    have HB := Lib.hid (Below.refl w.heap.size w)
    generalize allTwo samePar x y = t at *
    have hne' : ((x.length : Int) == (y.length : Int)) = false := by rw [beq_eq_false_iff_ne]; omega
    generalize x.length = n at *
    generalize y.length = n' at *
    clear hx hy hne
    go_enter Tryz.func65, Tryz.ntmps65
    go_wp2_with fail
    go_ret
    exact ends_bool HN.out.symm HB.out
set_option maxHeartbeats 4000000 in
theorem equalT (x y : List ByteArray) (A B : Option Addr) (c d : Nat) (w : World) (hx : Row 1 txC w A x) (hy : Row 1 txC w B y) (hl : x.length ≤ most) :
    Calls Tryz.prog 37 #[.slice A x.length c, .slice B y.length d] w (EndsB (.bool (allTwo sameT x y)) w) := by
  unfold most at *
  by_cases hne : x.length = y.length
  · have HX := Lib.hid hx
    have HY := Lib.hid hy
    clear hx hy
    rw [← hne]
    have HNE := Lib.hid hne
    clear hne
    obtain ⟨n, hn⟩ : ∃ n, x.length = n := ⟨_, rfl⟩
    rw [hn] at hl ⊢
    have HN := Lib.hid hn
    clear hn
    go_enter Tryz.func37, Tryz.ntmps37
    go_wp2
    go_loopw [13] (fun i wr => ∃ k m : Nat, k ≤ n ∧ i = .int .i64 k ∧ wr = w.drewN m ∧ Hid (∀ (j : Nat) (a b : ByteArray), j < k → x[j]? = some a → y[j]? = some b → sameT a b = true)) (fun i _ => n - (intOf i).toNat)
    case atStart => exact ⟨0, 0, Nat.zero_le _, rfl, rfl, Lib.hid (fun j a b h => by omega)⟩
    case round =>
      obtain ⟨k, m, hk, rfl, rfl, hs⟩ := hrel
      by_cases hlt : k < n
      · obtain ⟨a, ha⟩ : ∃ a, x[k]? = some a := ⟨_, List.getElem?_eq_getElem (by rw [HN.out]; exact hlt)⟩
        obtain ⟨b, hb2⟩ : ∃ b, y[k]? = some b := ⟨_, List.getElem?_eq_getElem (by rw [← HNE.out, HN.out]; exact hlt)⟩
        obtain ⟨b1, o1, rfl, hc1⟩ := HX.out.at_ (Below.refl _ _) ha
        obtain ⟨b2, o2, rfl, hc2⟩ := HY.out.at_ (Below.refl _ _) hb2
        have p0 := hc1 0 _ rfl
        have q0 := hc2 0 _ rfl
        simp only [Nat.add_zero, Nat.mul_one] at p0 q0
        have HA := Lib.hid ha
        have HB := Lib.hid hb2
        have HS := hs
        clear hc1 hc2 ha hb2 hs
        obtain ⟨t, ht0⟩ : ∃ t, sameT a b = t := ⟨_, rfl⟩
        have HT := Lib.hid ht0
        unfold sameT at ht0
        rcases Bool.eq_false_or_eq_true t with ht | ht <;> subst ht
        · go_wp2
          go_quiet (fail)
          go_wp2
          go_roundw
          case rel => exact ⟨k + 1, m + nq, by omega, by go_num, rfl, Lib.hid (two_more HS.out HA.out HB.out HT.out)⟩
          case measure => simp [intOf]; omega
        · go_wp2
          go_quiet (fail)
          go_wp2
          go_ret
          exact ends_bool (allTwo_no k _ _ HA.out HB.out HT.out).symm ((below_drewN w m).trans ((below_drewN _ nq).mono (Nat.le_refl _)))
      · obtain rfl : k = n := by omega
        go_wp2_with fail
        go_ret
        exact ends_bool (all_two HNE.out HN.out hs.out).symm (below_drewN w m)
  · have HN := Lib.hid (allTwo_len (p := sameT) hne)
    have HB := Lib.hid (Below.refl w.heap.size w)
    generalize allTwo sameT x y = t at *
    have hne' : ((x.length : Int) == (y.length : Int)) = false := by rw [beq_eq_false_iff_ne]; omega
    generalize x.length = n at *
    generalize y.length = n' at *
    clear hx hy hne
    go_enter Tryz.func37, Tryz.ntmps37
    go_wp2_with fail
    go_ret
    exact ends_bool HN.out.symm HB.out
end Go.Proofs.YtlhbhpdpjidpgaaGreatDoor.Tre
