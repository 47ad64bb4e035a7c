/-
  Trees without where they lie; the same trees have the same core. No condition.
-/
import Derived.Test.YtbhgbgaeaejnhaaQ02
namespace Go.Proofs.Ytbhgbgaeaejnhaa.Tre
set_option maxRecDepth 100000
inductive Tx where
  | mk (op n : Int) (s q : List UInt8) (x : List Tx)
inductive Ts where
  | mk (op : Int) (s : List UInt8) (e : Tx) (b b2 : List Ts)
structure Tp where
  s : List UInt8
  t : Int
structure Tf where
  s : List UInt8
  p : List Tp
  r : Int
  b : List Ts
structure Tl where
  s : List UInt8
  i : List (List UInt8)
  f : List Tf
def core (e : Ex) : Tx := .mk e.op e.n e.s.data.toList e.q.data.toList (e.x.attach.map (fun ⟨y, _⟩ => core y))
termination_by SizeOf.sizeOf e
decreasing_by exact part_lt _ (by assumption)
def coreS (s : St) : Ts := .mk s.op s.s.data.toList (core s.e) (s.b.attach.map (fun ⟨y, _⟩ => coreS y)) (s.b2.attach.map (fun ⟨y, _⟩ => coreS y))
termination_by SizeOf.sizeOf s
decreasing_by
  · exact partS_lt _ (.inl (by assumption))
  · exact partS_lt _ (.inr (by assumption))
def coreP (p : Par) : Tp := ⟨p.s.data.toList, p.t⟩
def coreF (f : Fn) : Tf := ⟨f.s.data.toList, f.p.map coreP, f.r, f.b.map coreS⟩
def coreL (f : Fl) : Tl := ⟨f.s.data.toList, f.i.map (·.data.toList), f.f.map coreF⟩
theorem core_eq (e : Ex) : core e = .mk e.op e.n e.s.data.toList e.q.data.toList (e.x.map core) := by
  rw [core]
  congr 1
  exact List.map_subtype (fun _ _ => rfl) |>.trans (by simp)
theorem coreS_eq (s : St) : coreS s = .mk s.op s.s.data.toList (core s.e) (s.b.map coreS) (s.b2.map coreS) := by
  rw [coreS]
  congr 1
  · exact List.map_subtype (fun _ _ => rfl) |>.trans (by simp)
  · exact List.map_subtype (fun _ _ => rfl) |>.trans (by simp)
theorem text_beq {s t : ByteArray} (h : s.data.toList = t.data.toList) : (s.toList == t.toList) = true := by
  rw [ByteArray.toList_eq, ByteArray.toList_eq, h]
  exact beq_self_eq_true _
theorem allTwo_map {α β : Type} {p : α → α → Bool} {c : α → β} : ∀ {a b : List α}, a.map c = b.map c → (∀ x ∈ a, ∀ y ∈ b, c x = c y → p x y = true) → allTwo p a b = true
  | [], [], _, _ => rfl
  | [], _ :: _, h, _ => by simp at h
  | _ :: _, [], h, _ => by simp at h
  | a :: r, b :: t, h, hp => by
    simp only [List.map_cons, List.cons.injEq] at h
    have h1 := hp a (by simp) b (by simp) h.1
    have h2 := allTwo_map (p := p) h.2 (fun x hx y hy => hp x (by simp [hx]) y (by simp [hy]))
    simp [allTwo, h1, h2]
theorem same_core_upto : ∀ (m : Nat) (a b : Ex), size a ≤ m → core a = core b → sameX a b = true
  | 0, a, b, h, _ => by rw [size_eq] at h; omega
  | m + 1, a, b, h, he => by
    rw [core_eq, core_eq] at he
    injection he with h1 h2 h3 h4 h5
    rw [sameX_eq, h1, h2, text_beq h3, text_beq h4, sameXL_all, allTwo_map h5 (fun x hx y _ hc => same_core_upto m x y (by have := size_part hx; omega) hc)]
    simp
theorem same_core {a b : Ex} (h : core a = core b) : sameX a b = true := same_core_upto _ a b (Nat.le_refl _) h
theorem sameS_core_upto : ∀ (m : Nat) (a b : St), sizeS a ≤ m → coreS a = coreS b → sameS a b = true
  | 0, a, b, h, _ => by rw [sizeS_eq] at h; omega
  | m + 1, a, b, h, he => by
    rw [coreS_eq, coreS_eq] at he
    injection he with h1 h2 h3 h4 h5
    rw [sameS_eq, h1, text_beq h2, same_core h3, sameB_all, sameB_all, allTwo_map h4 (fun x hx y _ hc => sameS_core_upto m x y (by have := sizeS_part (s := a) (x := x) (.inl hx); omega) hc), allTwo_map h5 (fun x hx y _ hc => sameS_core_upto m x y (by have := sizeS_part (s := a) (x := x) (.inr hx); omega) hc)]
    simp
theorem sameS_core {a b : St} (h : coreS a = coreS b) : sameS a b = true := sameS_core_upto _ a b (Nat.le_refl _) h
theorem sameF_core {a b : Fn} (h : coreF a = coreF b) : sameF a b = true := by
  unfold coreF at h
  injection h with h1 h2 h3 h4
  unfold sameF
  rw [text_beq h1, h3, sameB_all, allTwo_map h4 (fun x _ y _ hc => sameS_core hc), allTwo_map h2 (fun x _ y _ hc => by unfold coreP at hc; injection hc with g1 g2; unfold samePar; rw [text_beq g1, g2]; simp)]
  simp
/-- Files of one core are the same. -/
theorem sameFl_core {a b : Fl} (h : coreL a = coreL b) : sameFl a b = true := by
  unfold coreL at h
  injection h with h1 h2 h3
  unfold sameFl
  rw [text_beq h1, allTwo_map h3 (fun x _ y _ hc => sameF_core hc), allTwo_map h2 (fun x _ y _ hc => by unfold sameT; exact text_beq hc)]
  simp
end Go.Proofs.Ytbhgbgaeaejnhaa.Tre
/- Signatures in memory; the document's sameTypes, Same, Takes. Conditions: what is compared lies in memory. -/
namespace Go.Proofs.Ytbhgbgaeaejnhaa.Typ
open Go.RowKit Tre
set_option maxRecDepth 100000
/-- A signature; a and c: where its parameters' types lie, how many could lie there. -/
structure Sg where
  s : ByteArray
  a : Option Addr
  c : Nat
  p : List Int
  r : Int
/-- .. without where they lie. -/
structure Sp where
  s : List UInt8
  p : List Int
  r : Int
def coreG (g : Sg) : Sp := ⟨g.s.data.toList, g.p, g.r⟩
def sgC (g : Sg) : List Value := [.string g.s, .slice g.a g.p.length g.c, .int .u8 g.r]
def sgV (g : Sg) : Value := .agg #[.string g.s, .slice g.a g.p.length g.c, .int .u8 g.r]
def tyC (t : Int) : List Value := [.int .u8 t]
theorem sgV_eq (g : Sg) : sgV g = .agg #[.string g.s, .slice g.a g.p.length g.c, .int .u8 g.r] := rfl
structure SgIn (w : World) (g : Sg) : Prop where
  row : Row 1 tyC w g.a g.p
  len : g.p.length ≤ most
  s : g.s.size ≤ maxLen
theorem SgIn.below {w w' : World} {g : Sg} (h : SgIn w g) (hb : Below w.heap.size w w') : SgIn w' g := ⟨h.row.below hb, h.len, h.s⟩
/-- What a call leaves that only reads: an answer; draws. -/
def EndsQ (v : Value) (w : World) (e : Ending) (w' : World) : Prop := e = .returned v ∧ ∃ m, w' = w.drewN m
theorem ends_q {a b : Bool} {w : World} {m : Nat} (h : a = b) : EndsQ (.bool b) w (.returned (.bool a)) (w.drewN m) := ⟨by rw [h], m, rfl⟩
theorem ends_q2 {a b : Bool} {w : World} {m n : Nat} (h : a = b) : EndsQ (.bool b) w (.returned (.bool a)) ((w.drewN m).drewN n) := ⟨by rw [h], m + n, by rw [World.drewN_drewN]⟩
theorem ends_q3 {a b : Bool} {w wr : World} {n : Nat} (hm : ∃ m, wr = w.drewN m) (h : a = b) : EndsQ (.bool b) w (.returned (.bool a)) (wr.drewN n) := by
  obtain ⟨m, rfl⟩ := hm
  exact ⟨by rw [h], m + n, by rw [World.drewN_drewN]⟩
theorem ends_q4 {a b : Bool} {w wr : World} (hm : ∃ m, wr = w.drewN m) (h : a = b) : EndsQ (.bool b) w (.returned (.bool a)) wr := ⟨by rw [h], hm⟩
theorem more_drewN {w wr : World} (n : Nat) (hm : ∃ m, wr = w.drewN m) : ∃ m, wr.drewN n = w.drewN m := by
  obtain ⟨m, rfl⟩ := hm
  exact ⟨m + n, by rw [World.drewN_drewN]⟩
theorem below_of {w wr : World} (hm : ∃ m, wr = w.drewN m) : Below w.heap.size w wr := by
  obtain ⟨m, rfl⟩ := hm
  exact below_drewN w m
def sameI (a b : Int) : Bool := a == b
def sameP (a b : List Int) : Bool := allTwo sameI a b
def sameG (a b : Sg) : Bool := a.s.toList == b.s.toList && a.r == b.r && sameP a.p b.p
def sameL (a b : List Sg) : Bool := allTwo sameG a b
theorem Row.drewN {α : Type} {k : Nat} {C : α → List Value} {w : World} {A : Option Addr} {l : List α} (h : Row k C w A l) (m : Nat) : Row k C (w.drewN m) A l := h.below (below_drewN w m)
set_option maxHeartbeats 4000000 in
theorem sameTypes_any (x y : List Int) (A B : Option Addr) (c d : Nat) (w : World) (hx : Row 1 tyC w A x) (hy : Row 1 tyC w B y) (hl : x.length ≤ most) :
    Calls Try.prog 39 #[.slice A x.length c, .slice B y.length d] w (EndsQ (.bool (sameP x y)) w) := by
  unfold most at *
  unfold sameP
  by_cases hne : x.length = y.length
  · have HX := Lib.hid hx
    have HY := Lib.hid hy
    clear hx hy
    rw [← hne]
    have HNE := Lib.hid hne
    clear hne
    obtain ⟨n, hn⟩ : ∃ n, x.length = n := ⟨_, rfl⟩
    rw [hn] at hl ⊢
    have HN := Lib.hid hn
    clear hn
    go_enter Try.func39, Try.ntmps39
    go_wp2
    go_loopw [5] (fun i wr => ∃ k m : Nat, k ≤ n ∧ i = .int .i64 k ∧ wr = w.drewN m ∧ Hid (∀ (j : Nat) (a b : Int), j < k → x[j]? = some a → y[j]? = some b → sameI a b = true)) (fun i _ => n - (intOf i).toNat)
    case atStart => exact ⟨0, 0, Nat.zero_le _, rfl, rfl, Lib.hid (fun j a b h => by omega)⟩
    case round =>
      obtain ⟨k, m, hk, rfl, rfl, hs⟩ := hrel
      by_cases hlt : k < n
      · obtain ⟨a, ha⟩ : ∃ a, x[k]? = some a := ⟨_, List.getElem?_eq_getElem (by rw [HN.out]; exact hlt)⟩
        obtain ⟨b, hb2⟩ : ∃ b, y[k]? = some b := ⟨_, List.getElem?_eq_getElem (by rw [← HNE.out, HN.out]; exact hlt)⟩
        obtain ⟨b1, o1, rfl, hc1⟩ := HX.out.at_ (Below.refl _ _) ha
        obtain ⟨b2, o2, rfl, hc2⟩ := HY.out.at_ (Below.refl _ _) hb2
        have p0 := hc1 0 _ rfl
        have q0 := hc2 0 _ rfl
        simp only [Nat.add_zero, Nat.mul_one] at p0 q0
        have HA := Lib.hid ha
        have HB := Lib.hid hb2
        have HS := hs
        clear hc1 hc2 ha hb2 hs
        rcases Bool.eq_false_or_eq_true (a == b) with ht | ht
        case' inr =>
          have HT : Hid (sameI a b = false) := Lib.hid ht
          have ht2 : (a != b) = true := by rw [bne, ht]; rfl
        case' inl =>
          have HT : Hid (sameI a b = true) := Lib.hid ht
          have ht2 : (a != b) = false := by rw [bne, ht]; rfl
        case inr =>
          go_wp2
          go_quiet (fail)
          go_wp2
          go_ret
          exact ends_q2 (allTwo_no k _ _ HA.out HB.out HT.out).symm
        case inl =>
          go_wp2
          go_quiet (fail)
          go_wp2
          go_roundw
          case rel => exact ⟨k + 1, m + nq, by omega, by go_num, rfl, Lib.hid (two_more HS.out HA.out HB.out HT.out)⟩
          case measure => simp [intOf]; omega
      · obtain rfl : k = n := by omega
        go_wp2_with fail
        go_ret
        exact ends_q (all_two HNE.out HN.out hs.out).symm
  · have HN := Lib.hid (allTwo_len (p := sameI) hne)
    generalize allTwo sameI x y = t at *
    have hne' : ((x.length : Int) == (y.length : Int)) = false := by rw [beq_eq_false_iff_ne]; omega
    generalize x.length = n at *
    generalize y.length = n' at *
    clear hx hy hne
    go_enter Try.func39, Try.ntmps39
    go_wp2_with fail
    go_ret
    exact ends_q (m := 0) HN.out.symm
theorem sgC_at {g : Sg} {w : World} {b o : Nat} (h : ∀ (r : Nat) (u : Value), (sgC g)[r]? = some u → w.cell? ⟨b, o + r, none⟩ = some u) :
    w.cell? ⟨b, o, none⟩ = some (.string g.s) ∧ w.cell? ⟨b, o + 1, none⟩ = some (.slice g.a g.p.length g.c) ∧ w.cell? ⟨b, o + 2, none⟩ = some (.int .u8 g.r) := ⟨h 0 _ rfl, h 1 _ rfl, h 2 _ rfl⟩
set_option maxHeartbeats 8000000 in
theorem sameSigs_any (x y : List Sg) (A B : Option Addr) (c d : Nat) (w : World) (hx : Row 3 sgC w A x) (hy : Row 3 sgC w B y) (hl : x.length ≤ most) (ix : ∀ g ∈ x, SgIn w g) (iy : ∀ g ∈ y, SgIn w g) :
    Calls Try.prog 13 #[.slice A x.length c, .slice B y.length d] w (EndsQ (.bool (sameL x y)) w) := by
  unfold most at hl
  unfold sameL
  by_cases hne : x.length = y.length
  · have HX := Lib.hid hx
    have HY := Lib.hid hy
    have IX := Lib.hid ix
    have IY := Lib.hid iy
    clear hx hy ix iy
    rw [← hne]
    have HNE := Lib.hid hne
    clear hne
    obtain ⟨n, hn⟩ : ∃ n, x.length = n := ⟨_, rfl⟩
    rw [hn] at hl ⊢
    have HN := Lib.hid hn
    clear hn
    go_enter Try.func13, Try.ntmps13
    go_wp2
    go_loopw [5] (fun i wr => ∃ k : Nat, k ≤ n ∧ i = .int .i64 k ∧ Hid (∃ m, wr = w.drewN m) ∧ Hid (∀ (j : Nat) (a b : Sg), j < k → x[j]? = some a → y[j]? = some b → sameG a b = true)) (fun i _ => n - (intOf i).toNat)
    case atStart => exact ⟨0, Nat.zero_le _, rfl, Lib.hid ⟨0, rfl⟩, Lib.hid (fun j a b h => by omega)⟩
    case round =>
      obtain ⟨k, hk, rfl, HM, hs⟩ := hrel
      by_cases hlt : k < n
      · obtain ⟨a, ha⟩ : ∃ a, x[k]? = some a := ⟨_, List.getElem?_eq_getElem (by rw [HN.out]; exact hlt)⟩
        obtain ⟨b, hb2⟩ : ∃ b, y[k]? = some b := ⟨_, List.getElem?_eq_getElem (by rw [← HNE.out, HN.out]; exact hlt)⟩
        obtain ⟨b1, o1, rfl, hc1⟩ := HX.out.at_ (below_of HM.out) ha
        obtain ⟨b2, o2, rfl, hc2⟩ := HY.out.at_ (below_of HM.out) hb2
        obtain ⟨p0, p1, p2⟩ := sgC_at hc1
        obtain ⟨q0, q1, q2⟩ := sgC_at hc2
        have ia := IX.out a (List.mem_of_getElem? ha)
        have ib := IY.out b (List.mem_of_getElem? hb2)
        have CT := fun n' => Lib.hid (sameTypes_any a.p b.p a.a b.a a.c b.c (wr.drewN n') (Row.drewN (ia.row.below (below_of HM.out)) n') (Row.drewN (ib.row.below (below_of HM.out)) n') ia.len)
        have HA := Lib.hid ha
        have HB := Lib.hid hb2
        have HS := hs
        clear hc1 hc2 ha hb2 hs ia ib
        obtain ⟨t3, ht3⟩ : ∃ t, sameP a.p b.p = t := ⟨_, rfl⟩
        rw [ht3] at CT
        have HG : Hid (sameG a b = (a.s.toList == b.s.toList && a.r == b.r && t3)) := Lib.hid (by unfold sameG; rw [ht3])
        clear ht3
        generalize hpl : a.p.length = pl at *
        generalize hql : b.p.length = ql at *
        clear hpl hql
        obtain ⟨t1, ht1⟩ : ∃ t, (a.s.toList == b.s.toList) = t := ⟨_, rfl⟩
        obtain ⟨t2, ht2⟩ : ∃ t, (a.r == b.r) = t := ⟨_, rfl⟩
        rw [ht1, ht2] at HG
        have ht1' : (a.s.toList != b.s.toList) = !t1 := by rw [bne, ht1]
        have ht2' : (a.r != b.r) = !t2 := by rw [bne, ht2]
        cases t1 with
        | false =>
          go_wp2
          go_quiet (fail)
          go_wp2
          go_ret
          exact ends_q3 HM.out (allTwo_no k _ _ HA.out HB.out HG.out).symm
        | true =>
          cases t2 with
          | false =>
            go_wp2
            go_quiet (fail)
            go_wp2
            go_ret
            exact ends_q3 HM.out (allTwo_no k _ _ HA.out HB.out HG.out).symm
          | true =>
            cases t3 with
            | false =>
              go_wp2
              go_quiet ((go_at_call 39; exact Calls.quiet_of (CT _).out))
              go_wp2
              go_ret
              exact ends_q3 HM.out (allTwo_no k _ _ HA.out HB.out HG.out).symm
            | true =>
              go_wp2
              go_quiet ((go_at_call 39; exact Calls.quiet_of (CT _).out))
              go_wp2
              go_roundw
              case rel => exact ⟨k + 1, by omega, by go_num, Lib.hid (more_drewN nq HM.out), Lib.hid (two_more HS.out HA.out HB.out HG.out)⟩
              case measure => simp [intOf]; omega
      · obtain rfl : k = n := by omega
        go_wp2_with fail
        go_ret
        exact ends_q4 HM.out (all_two HNE.out HN.out hs.out).symm
  · have HN := Lib.hid (allTwo_len (p := sameG) hne)
    generalize allTwo sameG x y = t at *
    have hne' : ((x.length : Int) == (y.length : Int)) = false := by rw [beq_eq_false_iff_ne]; omega
    generalize x.length = n at *
    generalize y.length = n' at *
    clear hx hy hne
    go_enter Try.func13, Try.ntmps13
    go_wp2_with fail
    go_ret
    exact ends_q (m := 0) HN.out.symm
set_option maxHeartbeats 4000000 in
/-- Takes: boxes its signature. -/
theorem takes_any (g : Sg) (y : List Int) (B : Option Addr) (d : Nat) (w : World) (hg : SgIn w g) (hy : Row 1 tyC w B y) :
    Calls Try.prog 16 #[sgV g, .slice B y.length d] w (EndsB (.bool (sameP g.p y)) w) := by
  have hb0 := ball_new w #[.string g.s, .slice g.a g.p.length g.c, .int .u8 g.r] 33
  have n0 := new_at w #[.string g.s, .slice g.a g.p.length g.c, .int .u8 g.r] 33
  have CT := sameTypes_any g.p y g.a B g.c d _ (hg.below hb0).row (hy.below hb0) hg.len
  rw [sgV_eq]
  obtain ⟨W0, hW0⟩ : ∃ W0, w.alloc (.cells #[.string g.s, .slice g.a g.p.length g.c, .int .u8 g.r] 33) = W0 := ⟨_, rfl⟩
  rw [hW0] at hb0 n0 CT
  have CT := Lib.hid CT
  have HB := Lib.hid hb0
  have z1 : W0.cell? ⟨w.heap.size, 1, none⟩ = some (.slice g.a g.p.length g.c) := cell_at n0 1
  generalize sameP g.p y = t at *
  generalize g.p.length = pl at *
  generalize y.length = yl at *
  clear hb0 n0 hg hy
  go_enter Try.func16, Try.ntmps16
  go_wp2_with fail
  refine CT.out.mono ?_
  rintro e1 w1 ⟨rfl, m, rfl⟩
  go_wp2_with fail
  go_ret
  exact EndsB.of rfl (HB.out.trans ((below_drewN W0 m).mono HB.out.size))
end Go.Proofs.Ytbhgbgaeaejnhaa.Typ
