/-
  The document's scopes in memory: a struct behind a pointer, its variables a row. Open, Find.
-/
import Derived.Test.YtbhgbgaeaejnhaaYLook
import Derived.OwnWalk
namespace Go.Proofs.Ytbhgbgaeaejnhaa.Typ
open Go.RowKit Tre
set_option maxRecDepth 100000
set_option linter.unusedSimpArgs false
/-- A variable. -/
structure Vr where
  s : ByteArray
  t : Int
  n : Int
  k : Int
def vrC (v : Vr) : List Value := [.string v.s, .int .u8 v.t, .int .i64 v.n, .int .i64 v.k]
def isV (s : ByteArray) (v : Vr) : Bool := v.s.toList == s.toList
/-- A scope that lies at block g. -/
structure ScIn (w : World) (g : Nat) (A : Option Addr) (c : Nat) (l : List Vr) (D N : Int) : Prop where
  box : w.heap[g]? = some (.cells #[.slice A l.length c, .int .i64 D, .int .i64 N] 53 (0, 0))
  row : Row 4 vrC w A l
  cap : l.length ≤ c
  apart : ∀ b o, A = some ⟨b, o, none⟩ → b ≠ g
  form : (A = none ∧ c = 0) ∨ ∃ b o, A = some ⟨b, o, none⟩
theorem ScIn.below {w w' : World} {g : Nat} {A : Option Addr} {c : Nat} {l : List Vr} {D N : Int} (h : ScIn w g A c l D N) (hb : Below w.heap.size w w') : ScIn w' g A c l D N :=
  ⟨(hb.block g (lt_of_heap h.box)).trans h.box, h.row.below hb, h.cap, h.apart, h.form⟩
theorem row_apart {α : Type} {k : Nat} {C : α → List Value} {w : World} {A : Option Addr} {l : List α} (h : Row k C w A l) {g : Nat} (ha : ∀ b o, A = some ⟨b, o, none⟩ → b ≠ g) (i : Nat) (u : Value) : Row k C (w.setCell ⟨g, i, none⟩ u) A l := fun h0 => by
  obtain ⟨b, o, e, hlt, hc⟩ := h h0
  exact ⟨b, o, e, by rw [World.size_setCell]; exact hlt, fun j x hx r v hv => (World.cell?_of_block (Below.heap_setCell w ⟨g, i, none⟩ u b (ha b o e))).trans (hc j x hx r v hv)⟩
theorem vrC_at {v : Vr} {w : World} {b o : Nat} (h : ∀ (r : Nat) (u : Value), (vrC v)[r]? = some u → w.cell? ⟨b, o + r, none⟩ = some u) :
    w.cell? ⟨b, o, none⟩ = some (.string v.s) ∧ w.cell? ⟨b, o + 1, none⟩ = some (.int .u8 v.t) ∧ w.cell? ⟨b, o + 2, none⟩ = some (.int .i64 v.n) ∧ w.cell? ⟨b, o + 3, none⟩ = some (.int .i64 v.k) := ⟨h 0 _ rfl, h 1 _ rfl, h 2 _ rfl, h 3 _ rfl⟩
/-- A field is written. -/
theorem ScIn.deep {w : World} {g : Nat} {A : Option Addr} {c : Nat} {l : List Vr} {D N : Int} (h : ScIn w g A c l D N) (D' : Int) : ScIn (w.setCell ⟨g, 1, none⟩ (.int .i64 D')) g A c l D' N :=
  ⟨(setc_at h.box _).trans (by rfl), row_apart h.row h.apart _ _, h.cap, h.apart, h.form⟩
set_option maxHeartbeats 4000000 in
theorem open_any {w : World} {g : Nat} {A : Option Addr} {c : Nat} {l : List Vr} {D N : Int} (h : ScIn w g A c l D N) (hd : 0 ≤ D) (hd2 : D ≤ 1000) :
    Calls Try.prog 20 #[.pointer (some ⟨g, 0, none⟩)] w (fun e w' => e = .returned (.tuple #[]) ∧ w' = w.setCell ⟨g, 1, none⟩ (.int .i64 (D + 1))) := by
  have f1 : w.frozen? ⟨g, 1, none⟩ = false := by simp [World.frozen?, h.box]
  have z1 : w.cell? ⟨g, 1, none⟩ = some (.int .i64 D) := cell_at h.box 1
  clear h
  go_enter Try.func20, Try.ntmps20
  go_wp2_with fail
  go_end0
  exact ⟨rfl, rfl⟩
/-- Find's answer. -/
def findA (l : List Vr) (s : ByteArray) : Value := match l.reverse.find? (isV s) with
  | some v => .tuple #[.int .u8 v.t, .int .i64 v.n, .bool true]
  | none => .tuple #[.int .u8 0, .int .i64 0, .bool false]
theorem findA_hit {l : List Vr} {s : ByteArray} {k : Nat} {v : Vr} (hk : l[k]? = some v) (hv : isV s v = true) (ho : ∀ (j : Nat) (a : Vr), k < j → l[j]? = some a → isV s a = false) : findA l s = .tuple #[.int .u8 v.t, .int .i64 v.n, .bool true] := by
  have hlt := (List.getElem?_eq_some_iff.1 hk).1
  unfold findA
  rw [find_hit l.reverse (l.length - 1 - k) v (by rw [List.getElem?_reverse (by omega), show l.length - 1 - (l.length - 1 - k) = k by omega]; exact hk) hv (fun j a hj e => ho (l.length - 1 - j) a (by omega) (by rw [List.getElem?_reverse (by omega)] at e; exact e))]
theorem findA_miss {l : List Vr} {s : ByteArray} (ho : ∀ (j : Nat) (a : Vr), 0 ≤ j → l[j]? = some a → isV s a = false) : findA l s = .tuple #[.int .u8 0, .int .i64 0, .bool false] := by
  unfold findA
  rw [find_miss l.reverse (fun j a hj e => ho (l.length - 1 - j) a (by omega) (by rw [List.getElem?_reverse (by simpa using hj)] at e; exact e))]
set_option maxHeartbeats 8000000 in
theorem find_any {w : World} {g : Nat} {A : Option Addr} {c : Nat} {l : List Vr} {D N : Int} (h : ScIn w g A c l D N) (hl : l.length ≤ 1000) (s : ByteArray) :
    Calls Try.prog 26 #[.pointer (some ⟨g, 0, none⟩), .string s] w (EndsQ (findA l s) w) := by
  have z0 : w.cell? ⟨g, 0, none⟩ = some (.slice A l.length c) := cell_at h.box 0
  have HR := Lib.hid h.row
  clear h
  obtain ⟨n, hn⟩ : ∃ n, l.length = n := ⟨_, rfl⟩
  rw [hn] at hl z0
  have HN := Lib.hid hn
  clear hn
  go_enter Try.func26, Try.ntmps26
  go_wp2_with fail
  go_loopw [7] (fun i wr => ∃ k : Nat, k ≤ n ∧ i = .int .i64 ((k : Int) - 1) ∧ Hid (wr = w) ∧ Hid (∀ (j : Nat) (a : Vr), k ≤ j → l[j]? = some a → isV s a = false)) (fun i _ => (intOf i + 1).toNat)
  case atStart => exact ⟨n, Nat.le_refl _, rfl, Lib.hid (by trivial), Lib.hid (fun j a h e => by have := (List.getElem?_eq_some_iff.1 e).1; have := HN.out; omega)⟩
  case round =>
    obtain ⟨k, hk, rfl, hw, HS⟩ := hrel
    obtain rfl := hw.out
    by_cases hlt : 0 < k
    · obtain ⟨m, rfl⟩ : ∃ m, k = m + 1 := ⟨k - 1, by omega⟩
      obtain ⟨a, ha⟩ : ∃ a, l[m]? = some a := ⟨_, List.getElem?_eq_getElem (by rw [HN.out]; omega)⟩
      obtain ⟨b1, o1, rfl, hc1⟩ := HR.out.at_ (Below.refl _ _) ha
      obtain ⟨p0, p1, p2, p3⟩ := vrC_at hc1
      have HA := Lib.hid ha
      clear hc1 ha hw
      rw [show (((m + 1 : Nat) : Int) - 1) = (m : Int) by omega]
      obtain ⟨t1, ht1⟩ : ∃ t, (a.s.toList == s.toList) = t := ⟨_, rfl⟩
      have HG : Hid (isV s a = t1) := Lib.hid ht1
      cases t1 with
      | false =>
        go_wp2_with fail
        go_roundw
        case rel => exact ⟨m, by omega, rfl, Lib.hid (by trivial), Lib.hid (fun j b hj e => by
          rcases Nat.lt_or_ge m j with h | h
          · exact HS.out j b h e
          · obtain rfl : j = m := by omega
            have := HA.out.symm.trans e
            injection this with this
            rw [← this]
            exact HG.out)⟩
        case measure => simp [intOf]
      | true =>
        go_wp2_with fail
        go_quiet (fail)
        go_wp2_with fail
        go_ret3
        exact ⟨by rw [findA_hit HA.out HG.out HS.out]; rfl, _, rfl⟩
    · obtain rfl : k = 0 := by omega
      go_wp2_with fail
      go_ret3
      exact ⟨by rw [findA_miss HS.out]; rfl, 0, rfl⟩
end Go.Proofs.Ytbhgbgaeaejnhaa.Typ
