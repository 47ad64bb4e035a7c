/-
  Signatures in memory; the document's sameTypes, Same, Takes. Conditions: what is compared lies in memory.
-/
import Derived.Test.YtofadlenblobnaaTPar
import Derived.Test.YtofadlenblobnaaTCore
namespace Go.Proofs.Ytofadlenblobnaa.Typ
open Go.RowKit Tre
set_option maxRecDepth 100000
/-- A signature; a and c: where its parameters' types lie, how many could lie there. -/
structure Sg where
  s : ByteArray
  a : Option Addr
  c : Nat
  p : List Int
  r : Int
/-- .. without where they lie. -/
structure Sp where
  s : List UInt8
  p : List Int
  r : Int
def coreG (g : Sg) : Sp := ⟨g.s.data.toList, g.p, g.r⟩
def sgC (g : Sg) : List Value := [.string g.s, .slice g.a g.p.length g.c, .int .u8 g.r]
def sgV (g : Sg) : Value := .agg #[.string g.s, .slice g.a g.p.length g.c, .int .u8 g.r]
def tyC (t : Int) : List Value := [.int .u8 t]
theorem sgV_eq (g : Sg) : sgV g = .agg #[.string g.s, .slice g.a g.p.length g.c, .int .u8 g.r] := rfl
structure SgIn (w : World) (g : Sg) : Prop where
  row : Row 1 tyC w g.a g.p
  len : g.p.length ≤ most
  s : g.s.size ≤ maxLen
theorem SgIn.below {w w' : World} {g : Sg} (h : SgIn w g) (hb : Below w.heap.size w w') : SgIn w' g := ⟨h.row.below hb, h.len, h.s⟩
/-- What a call leaves that only reads: an answer; draws. -/
def EndsQ (v : Value) (w : World) (e : Ending) (w' : World) : Prop := e = .returned v ∧ ∃ m, w' = w.drewN m
theorem ends_q {a b : Bool} {w : World} {m : Nat} (h : a = b) : EndsQ (.bool b) w (.returned (.bool a)) (w.drewN m) := ⟨by rw [h], m, rfl⟩
theorem ends_q2 {a b : Bool} {w : World} {m n : Nat} (h : a = b) : EndsQ (.bool b) w (.returned (.bool a)) ((w.drewN m).drewN n) := ⟨by rw [h], m + n, by rw [World.drewN_drewN]⟩
theorem ends_q3 {a b : Bool} {w wr : World} {n : Nat} (hm : ∃ m, wr = w.drewN m) (h : a = b) : EndsQ (.bool b) w (.returned (.bool a)) (wr.drewN n) := by
  obtain ⟨m, rfl⟩ := hm
  exact ⟨by rw [h], m + n, by rw [World.drewN_drewN]⟩
theorem ends_q4 {a b : Bool} {w wr : World} (hm : ∃ m, wr = w.drewN m) (h : a = b) : EndsQ (.bool b) w (.returned (.bool a)) wr := ⟨by rw [h], hm⟩
theorem more_drewN {w wr : World} (n : Nat) (hm : ∃ m, wr = w.drewN m) : ∃ m, wr.drewN n = w.drewN m := by
  obtain ⟨m, rfl⟩ := hm
  exact ⟨m + n, by rw [World.drewN_drewN]⟩
theorem below_of {w wr : World} (hm : ∃ m, wr = w.drewN m) : Below w.heap.size w wr := by
  obtain ⟨m, rfl⟩ := hm
  exact below_drewN w m
def sameI (a b : Int) : Bool := a == b
def sameP (a b : List Int) : Bool := allTwo sameI a b
def sameG (a b : Sg) : Bool := a.s.toList == b.s.toList && a.r == b.r && sameP a.p b.p
def sameL (a b : List Sg) : Bool := allTwo sameG a b
theorem Row.drewN {α : Type} {k : Nat} {C : α → List Value} {w : World} {A : Option Addr} {l : List α} (h : Row k C w A l) (m : Nat) : Row k C (w.drewN m) A l := h.below (below_drewN w m)
set_option maxHeartbeats 4000000 in
theorem sameTypes_any (x y : List Int) (A B : Option Addr) (c d : Nat) (w : World) (hx : Row 1 tyC w A x) (hy : Row 1 tyC w B y) (hl : x.length ≤ most) :
    Calls Try.prog 25 #[.slice A x.length c, .slice B y.length d] w (EndsQ (.bool (sameP x y)) w) := by
  unfold most at *
  unfold sameP
  by_cases hne : x.length = y.length
  · have HX := Lib.hid hx
    have HY := Lib.hid hy
    clear hx hy
    rw [← hne]
    have HNE := Lib.hid hne
    clear hne
    obtain ⟨n, hn⟩ : ∃ n, x.length = n := ⟨_, rfl⟩
    rw [hn] at hl ⊢
    have HN := Lib.hid hn
    clear hn
    go_enter Try.func25, Try.ntmps25
    go_wp2
    go_loopw [5] (fun i wr => ∃ k m : Nat, k ≤ n ∧ i = .int .i64 k ∧ wr = w.drewN m ∧ Hid (∀ (j : Nat) (a b : Int), j < k → x[j]? = some a → y[j]? = some b → sameI a b = true)) (fun i _ => n - (intOf i).toNat)
    case atStart => exact ⟨0, 0, Nat.zero_le _, rfl, rfl, Lib.hid (fun j a b h => by omega)⟩
    case round =>
      obtain ⟨k, m, hk, rfl, rfl, hs⟩ := hrel
      by_cases hlt : k < n
      · obtain ⟨a, ha⟩ : ∃ a, x[k]? = some a := ⟨_, List.getElem?_eq_getElem (by rw [HN.out]; exact hlt)⟩
        obtain ⟨b, hb2⟩ : ∃ b, y[k]? = some b := ⟨_, List.getElem?_eq_getElem (by rw [← HNE.out, HN.out]; exact hlt)⟩
        obtain ⟨b1, o1, rfl, hc1⟩ := HX.out.at_ (Below.refl _ _) ha
        obtain ⟨b2, o2, rfl, hc2⟩ := HY.out.at_ (Below.refl _ _) hb2
        have p0 := hc1 0 _ rfl
        have q0 := hc2 0 _ rfl
        simp only [Nat.add_zero, Nat.mul_one] at p0 q0
        have HA := Lib.hid ha
        have HB := Lib.hid hb2
        have HS := hs
        clear hc1 hc2 ha hb2 hs
        rcases Bool.eq_false_or_eq_true (a == b) with ht | ht
        case' inr =>
          have HT : Hid (sameI a b = false) := Lib.hid ht
          have ht2 : (a != b) = true := by rw [bne, ht]; rfl
        case' inl =>
          have HT : Hid (sameI a b = true) := Lib.hid ht
          have ht2 : (a != b) = false := by rw [bne, ht]; rfl
        case inr =>
          go_wp2
          go_quiet (fail)
          go_wp2
          go_ret
          exact ends_q2 (allTwo_no k _ _ HA.out HB.out HT.out).symm
        case inl =>
          go_wp2
          go_quiet (fail)
          go_wp2
          go_roundw
          case rel => exact ⟨k + 1, m + nq, by omega, by go_num, rfl, Lib.hid (two_more HS.out HA.out HB.out HT.out)⟩
          case measure => simp [intOf]; omega
      · obtain rfl : k = n := by omega
        go_wp2_with fail
        go_ret
        exact ends_q (all_two HNE.out HN.out hs.out).symm
  · have HN := Lib.hid (allTwo_len (p := sameI) hne)
    generalize allTwo sameI x y = t at *
    have hne' : ((x.length : Int) == (y.length : Int)) = false := by rw [beq_eq_false_iff_ne]; omega
    generalize x.length = n at *
    generalize y.length = n' at *
    clear hx hy hne
    go_enter Try.func25, Try.ntmps25
    go_wp2_with fail
    go_ret
    exact ends_q (m := 0) HN.out.symm
theorem sgC_at {g : Sg} {w : World} {b o : Nat} (h : ∀ (r : Nat) (u : Value), (sgC g)[r]? = some u → w.cell? ⟨b, o + r, none⟩ = some u) :
    w.cell? ⟨b, o, none⟩ = some (.string g.s) ∧ w.cell? ⟨b, o + 1, none⟩ = some (.slice g.a g.p.length g.c) ∧ w.cell? ⟨b, o + 2, none⟩ = some (.int .u8 g.r) := ⟨h 0 _ rfl, h 1 _ rfl, h 2 _ rfl⟩
set_option maxHeartbeats 8000000 in
theorem sameSigs_any (x y : List Sg) (A B : Option Addr) (c d : Nat) (w : World) (hx : Row 3 sgC w A x) (hy : Row 3 sgC w B y) (hl : x.length ≤ most) (ix : ∀ g ∈ x, SgIn w g) (iy : ∀ g ∈ y, SgIn w g) :
    Calls Try.prog 12 #[.slice A x.length c, .slice B y.length d] w (EndsQ (.bool (sameL x y)) w) := by
  unfold most at hl
  unfold sameL
  by_cases hne : x.length = y.length
  · have HX := Lib.hid hx
    have HY := Lib.hid hy
    have IX := Lib.hid ix
    have IY := Lib.hid iy
    clear hx hy ix iy
    rw [← hne]
    have HNE := Lib.hid hne
    clear hne
    obtain ⟨n, hn⟩ : ∃ n, x.length = n := ⟨_, rfl⟩
    rw [hn] at hl ⊢
    have HN := Lib.hid hn
    clear hn
    go_enter Try.func12, Try.ntmps12
    go_wp2
    go_loopw [5] (fun i wr => ∃ k : Nat, k ≤ n ∧ i = .int .i64 k ∧ Hid (∃ m, wr = w.drewN m) ∧ Hid (∀ (j : Nat) (a b : Sg), j < k → x[j]? = some a → y[j]? = some b → sameG a b = true)) (fun i _ => n - (intOf i).toNat)
    case atStart => exact ⟨0, Nat.zero_le _, rfl, Lib.hid ⟨0, rfl⟩, Lib.hid (fun j a b h => by omega)⟩
    case round =>
      obtain ⟨k, hk, rfl, HM, hs⟩ := hrel
      by_cases hlt : k < n
      · obtain ⟨a, ha⟩ : ∃ a, x[k]? = some a := ⟨_, List.getElem?_eq_getElem (by rw [HN.out]; exact hlt)⟩
        obtain ⟨b, hb2⟩ : ∃ b, y[k]? = some b := ⟨_, List.getElem?_eq_getElem (by rw [← HNE.out, HN.out]; exact hlt)⟩
        obtain ⟨b1, o1, rfl, hc1⟩ := HX.out.at_ (below_of HM.out) ha
        obtain ⟨b2, o2, rfl, hc2⟩ := HY.out.at_ (below_of HM.out) hb2
        obtain ⟨p0, p1, p2⟩ := sgC_at hc1
        obtain ⟨q0, q1, q2⟩ := sgC_at hc2
        have ia := IX.out a (List.mem_of_getElem? ha)
        have ib := IY.out b (List.mem_of_getElem? hb2)
        have CT := fun n' => Lib.hid (sameTypes_any a.p b.p a.a b.a a.c b.c (wr.drewN n') (Row.drewN (ia.row.below (below_of HM.out)) n') (Row.drewN (ib.row.below (below_of HM.out)) n') ia.len)
        have HA := Lib.hid ha
        have HB := Lib.hid hb2
        have HS := hs
        clear hc1 hc2 ha hb2 hs ia ib
        obtain ⟨t3, ht3⟩ : ∃ t, sameP a.p b.p = t := ⟨_, rfl⟩
        rw [ht3] at CT
        have HG : Hid (sameG a b = (a.s.toList == b.s.toList && a.r == b.r && t3)) := Lib.hid (by unfold sameG; rw [ht3])
        clear ht3
        generalize hpl : a.p.length = pl at *
        generalize hql : b.p.length = ql at *
        clear hpl hql
        obtain ⟨t1, ht1⟩ : ∃ t, (a.s.toList == b.s.toList) = t := ⟨_, rfl⟩
        obtain ⟨t2, ht2⟩ : ∃ t, (a.r == b.r) = t := ⟨_, rfl⟩
        rw [ht1, ht2] at HG
        have ht1' : (a.s.toList != b.s.toList) = !t1 := by rw [bne, ht1]
        have ht2' : (a.r != b.r) = !t2 := by rw [bne, ht2]
        cases t1 with
        | false =>
          go_wp2
          go_quiet (fail)
          go_wp2
          go_ret
          exact ends_q3 HM.out (allTwo_no k _ _ HA.out HB.out HG.out).symm
        | true =>
          cases t2 with
          | false =>
            go_wp2
            go_quiet (fail)
            go_wp2
            go_ret
            exact ends_q3 HM.out (allTwo_no k _ _ HA.out HB.out HG.out).symm
          | true =>
            cases t3 with
            | false =>
              go_wp2
              go_quiet ((go_at_call 25; exact Calls.quiet_of (CT _).out))
              go_wp2
              go_ret
              exact ends_q3 HM.out (allTwo_no k _ _ HA.out HB.out HG.out).symm
            | true =>
              go_wp2
              go_quiet ((go_at_call 25; exact Calls.quiet_of (CT _).out))
              go_wp2
              go_roundw
              case rel => exact ⟨k + 1, by omega, by go_num, Lib.hid (more_drewN nq HM.out), Lib.hid (two_more HS.out HA.out HB.out HG.out)⟩
              case measure => simp [intOf]; omega
      · obtain rfl : k = n := by omega
        go_wp2_with fail
        go_ret
        exact ends_q4 HM.out (all_two HNE.out HN.out hs.out).symm
  · have HN := Lib.hid (allTwo_len (p := sameG) hne)
    generalize allTwo sameG x y = t at *
    have hne' : ((x.length : Int) == (y.length : Int)) = false := by rw [beq_eq_false_iff_ne]; omega
    generalize x.length = n at *
    generalize y.length = n' at *
    clear hx hy hne
    go_enter Try.func12, Try.ntmps12
    go_wp2_with fail
    go_ret
    exact ends_q (m := 0) HN.out.symm
end Go.Proofs.Ytofadlenblobnaa.Typ
