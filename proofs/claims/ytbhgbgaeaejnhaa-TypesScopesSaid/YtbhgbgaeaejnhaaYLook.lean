/-
  The document's Look: the first signature of a name; else the empty one.
-/
import Derived.Test.YtbhgbgaeaejnhaaYOf
namespace Go.Proofs.Ytbhgbgaeaejnhaa.Typ
open Go.RowKit Tre
set_option maxRecDepth 100000
set_option linter.unusedSimpArgs false
theorem find_hit {α : Type} {p : α → Bool} : ∀ (l : List α) (k : Nat) (g : α), l[k]? = some g → p g = true → (∀ (j : Nat) (h : α), j < k → l[j]? = some h → p h = false) → l.find? p = some g
  | [], k, g, h, _, _ => by simp at h
  | a :: l, 0, g, h, hp, _ => by
    simp only [List.getElem?_cons_zero, Option.some.injEq] at h
    subst h
    simp only [List.find?_cons, hp]
  | a :: l, k + 1, g, h, hp, hq => by
    have h0 := hq 0 a (by omega) rfl
    simp only [List.find?_cons, h0]
    exact find_hit l k g (by simpa using h) hp fun j b hj e => hq (j + 1) b (by omega) (by simpa using e)
theorem find_miss {α : Type} {p : α → Bool} (l : List α) (hq : ∀ (j : Nat) (h : α), j < l.length → l[j]? = some h → p h = false) : l.find? p = none := by
  rw [List.find?_eq_none]
  intro a ha
  obtain ⟨j, hj, e⟩ := List.getElem_of_mem ha
  rw [hq j a hj (by rw [List.getElem?_eq_getElem hj, e])]
  decide
def nilG : Sg := ⟨⟨#[]⟩, none, 0, [], 0⟩
def isG (s : ByteArray) (g : Sg) : Bool := g.s.toList == s.toList
/-- Its answer. -/
def lookA (x : List Sg) (s : ByteArray) : Value := match x.find? (isG s) with
  | some g => .tuple #[sgV g, .bool true]
  | none => .tuple #[sgV nilG, .bool false]
theorem results_sig2 {fn : Func} {p q : Tmp} (h : fn.results = #[.cell p 33, .tmp q]) (tmps : Array Value) (w : World) (g : Nat) (v0 v1 v2 u : Value) (hv : tmps.getD p undef = .pointer (some ⟨g, 0, none⟩)) (hu : tmps.getD q undef = u) (hc : w.heap[g]? = some (.cells #[v0, v1, v2] 33 (0, 0))) :
    (results fn tmps).run Try.prog w = .ok (.tuple #[.agg #[v0, v1, v2], u]) w := by
  have a4 := Try.isAgg33
  have z4 := Try.sizeOf33
  have c0 := cell_at hc 0
  have c1 := cell_at hc 1
  have c2 := cell_at hc 2
  simp only [List.getElem?_toArray, List.getElem?_cons_succ, List.getElem?_cons_zero] at c0 c1 c2
  simp only [Array.getD_eq_getD_getElem?] at hv hu
  unfold results
  rw [h]
  go_simp
/-- What its loop knows of the world. -/
structure LookIn (w W : World) : Prop where
  res : W.heap[w.heap.size]? = some (.cells #[.string ⟨#[]⟩, .slice none 0 0, .int .u8 0] 33 (0, 0))
  low : Below w.heap.size w W
theorem LookIn.put {w W : World} (h : LookIn w W) (v0 v1 v2 : Value) :
    (((W.setCell ⟨w.heap.size, 0, none⟩ v0).setCell ⟨w.heap.size, 1, none⟩ v1).setCell ⟨w.heap.size, 2, none⟩ v2).heap[w.heap.size]? = some (.cells #[v0, v1, v2] 33 (0, 0)) ∧
    Below w.heap.size w (((W.setCell ⟨w.heap.size, 0, none⟩ v0).setCell ⟨w.heap.size, 1, none⟩ v1).setCell ⟨w.heap.size, 2, none⟩ v2) :=
  ⟨(setc_at (setc_at (setc_at h.res _) _) _).trans (by rfl), ((h.low.setCell (p := ⟨w.heap.size, 0, none⟩) (by simp) _).setCell (p := ⟨w.heap.size, 1, none⟩) (by simp) _).setCell (p := ⟨w.heap.size, 2, none⟩) (by simp) _⟩
set_option maxHeartbeats 8000000 in
theorem look_any (x : List Sg) (A : Option Addr) (c : Nat) (s : ByteArray) (w : World) (hx : Row 3 sgC w A x) (hl : x.length ≤ most) :
    Calls Try.prog 11 #[.slice A x.length c, .string s] w (fun e w' => e = .returned (lookA x s) ∧ Below w.heap.size w w') := by
  unfold most at hl
  have HX := Lib.hid hx
  have H0 : Hid (LookIn w (w.alloc (.cells #[.string ⟨#[]⟩, .slice none 0 0, .int .u8 0] 33))) := Lib.hid ⟨new_at w _ _, ball_new w _ _⟩
  obtain ⟨n, hn⟩ : ∃ n, x.length = n := ⟨_, rfl⟩
  rw [hn] at hl ⊢
  have HN := Lib.hid hn
  clear hn hx
  go_enter Try.func11, Try.ntmps11
  go_wp2_with fail
  obtain ⟨X, hX⟩ : ∃ X, w.alloc (.cells #[.string ⟨#[]⟩, .slice none 0 0, .int .u8 0] 33) = X := ⟨_, rfl⟩
  rw [hX] at H0 ⊢
  clear hX
  go_loopw [6] (fun i wr => ∃ k : Nat, k ≤ n ∧ i = .int .i64 k ∧ Hid (LookIn w wr) ∧ Hid (∀ (j : Nat) (a : Sg), j < k → x[j]? = some a → isG s a = false)) (fun i _ => n - (intOf i).toNat)
  case atStart => exact ⟨0, Nat.zero_le _, rfl, H0, Lib.hid (fun j a h => by omega)⟩
  case round =>
    obtain ⟨k, hk, rfl, H, HS⟩ := hrel
    have f0 : ∀ i, wr.frozen? ⟨w.heap.size, i, none⟩ = false := fun i => by simp [World.frozen?, H.out.res]
    have r0 : wr.cell? ⟨w.heap.size, 0, none⟩ = some (.string ⟨#[]⟩) := cell_at H.out.res 0
    have r1 : wr.cell? ⟨w.heap.size, 1, none⟩ = some (.slice none 0 0) := cell_at H.out.res 1
    have r2 : wr.cell? ⟨w.heap.size, 2, none⟩ = some (.int .u8 0) := cell_at H.out.res 2
    by_cases hlt : k < n
    · obtain ⟨a, ha⟩ : ∃ a, x[k]? = some a := ⟨_, List.getElem?_eq_getElem (by rw [HN.out]; exact hlt)⟩
      obtain ⟨b1, o1, rfl, hc1⟩ := HX.out.at_ H.out.low ha
      obtain ⟨p0, p1, p2⟩ := sgC_at hc1
      have HA := Lib.hid ha
      clear hc1 ha
      obtain ⟨pl, hpl⟩ : ∃ l, a.p.length = l := ⟨_, rfl⟩
      rw [hpl] at p1
      have HPL := Lib.hid hpl
      obtain ⟨t1, ht1⟩ : ∃ t, (a.s.toList == s.toList) = t := ⟨_, rfl⟩
      have HG : Hid (isG s a = t1) := Lib.hid ht1
      clear hpl
      cases t1 with
      | false =>
        go_wp2_with fail
        go_roundw
        case rel => exact ⟨k + 1, by omega, by go_num, H, Lib.hid (fun j b hj e => by
          rcases Nat.lt_or_ge j k with h | h
          · exact HS.out j b h e
          · obtain rfl : j = k := by omega
            have := HA.out.symm.trans e
            injection this with this
            rw [← this]
            exact HG.out)⟩
        case measure => simp [intOf]; omega
      | true =>
        go_wp2_with fail
        have hp := H.out.put (.string a.s) (.slice a.a pl a.c) (.int .u8 a.r)
        refine bodyPost_ret (results_sig2 rfl _ _ w.heap.size _ _ _ (.bool true) rfl rfl hp.1) rfl ⟨?_, hp.2⟩
        rw [show lookA x s = .tuple #[sgV a, .bool true] by unfold lookA; rw [find_hit x k a HA.out HG.out HS.out], sgV_eq, HPL.out]
    · obtain rfl : k = n := by omega
      go_wp2_with fail
      have hp := H.out.put (.string ⟨#[]⟩) (.slice none 0 0) (.int .u8 0)
      refine bodyPost_ret (results_sig2 rfl _ _ w.heap.size _ _ _ (.bool false) rfl rfl hp.1) rfl ⟨?_, hp.2⟩
      rw [show lookA x s = .tuple #[sgV nilG, .bool false] by unfold lookA; rw [find_miss x (by rw [HN.out]; exact HS.out)]]
      rfl
end Go.Proofs.Ytbhgbgaeaejnhaa.Typ
