/-
  Rows of the call's own, of any element: what they read as; one more element behind the others. Conditions: sizes.
-/
import Derived.Test.YtofadlenblobnaaTOpen
import Derived.Maps.AppendAt
import Derived.Deep.AppendLies
namespace Go.Proofs.Ytofadlenblobnaa.OwnR
open Go.RowKit Tre
set_option maxRecDepth 100000
set_option linter.unusedSimpArgs false
variable {lo : Nat} {α : Type} {k : Nat} {C : α → List Value} {T : TypeId}
/-- A row of the call's own, from block lo on. -/
def OwnG (k : Nat) (C : α → List Value) (T : TypeId) (w : World) (lo : Nat) (v : Value) (l : List α) : Prop := w.ownsRow lo T k v l.length (l.flatMap C)
theorem OwnG.nil (w : World) (lo : Nat) : OwnG k C T w lo (.slice none 0 0) [] := World.ownsRow_nil _ _ _ _
theorem OwnG.form {w : World} {v : Value} {l : List α} (h : OwnG k C T w lo v l) : ∃ A c, v = .slice A l.length c ∧ l.length ≤ c ∧ ∀ ad, A = some ad → ∃ b, ad = ⟨b, 0, none⟩ := by
  rcases h.2 with ⟨e1, e2⟩ | ⟨g, cap, cur, e, _, _, hc, _⟩
  · exact ⟨none, 0, by rw [e1, e2], by omega, fun ad e => by cases e⟩
  · exact ⟨_, cap, e, hc, fun ad e => by injection e with e; exact ⟨g, e.symm⟩⟩
theorem flat_get (hC : ∀ x, (C x).length = k) : ∀ (l : List α) (p r : Nat), r < k → (l.flatMap C)[p * k + r]? = (l[p]?).bind fun x => (C x)[r]?
  | [], p, r, _ => by simp
  | x :: l, 0, r, hr => by
    rw [List.flatMap_cons, List.getElem?_append_left (by rw [hC]; omega)]
    simp
  | x :: l, p + 1, r, hr => by
    rw [List.flatMap_cons, List.getElem?_append_right (by rw [hC, Nat.add_mul]; omega), hC, show (p + 1) * k + r - k = p * k + r by rw [Nat.add_mul]; omega, flat_get hC l p r hr]
    simp
theorem OwnG.row (hC : ∀ x, (C x).length = k) {w : World} {A : Option Addr} {n c : Nat} {l : List α} (h : OwnG k C T w lo (.slice A n c) l) : Row k C w A l := fun h0 => by
  obtain ⟨g, cap, hv, _, hlt⟩ := World.ownsRow.form h h0
  injection hv with e1 e2 e3
  subst e1
  have hc := World.ownsRow.cells h (g := g) rfl
  refine ⟨g, 0, rfl, hlt, fun j x hx r u hu => ?_⟩
  have hr : r < k := by have := (List.getElem?_eq_some_iff.1 hu).1; rwa [hC] at this
  have := hc (j * k + r) u (by rw [flat_get hC l j r hr, hx]; exact hu)
  rw [plain_at] at this
  rwa [Nat.add_assoc]
theorem OwnG.keep {w w' : World} {v : Value} {l : List α} (h : OwnG k C T w lo v l) (hb : ∀ g, v.ownBlock = some g → w'.heap[g]? = w.heap[g]?) : OwnG k C T w' lo v l := by
  refine ⟨h.1, ?_⟩
  rcases h.2 with h2 | ⟨g, cap, cur, e, hlo, hh, r⟩
  · exact .inl h2
  · exact .inr ⟨g, cap, cur, e, hlo, (hb g (by rw [e]; rfl)).trans hh, r⟩
theorem OwnG.lt {w : World} {v : Value} {l : List α} (h : OwnG k C T w lo v l) : ∀ b, v.ownBlock = some b → lo ≤ b ∧ b < w.heap.size := World.ownsRow.lt h
/-- One more behind a row. -/
theorem OwnG.app {P : Program} {L : TypeId} {i : TypeInfo} {z : Value} {bytes : Nat} (hL : P.underlying L = some (.slice T)) (hi : P.info? T = some i) (hz : i.zero = some z) (hk : i.size = k) (hby : i.bytes = bytes) (hzs : z.cells.size = k) (h0 : 0 < k)
    (hC : ∀ x, (C x).length = k) (h1 : ∀ x, ∀ u ∈ C x, u.oneCell' = true) (w : World) (v : Value) (l : List α) (x : α) (eb : Nat) (h : OwnG k C T w lo v l) (he : w.heap[eb]? = some (.cells (C x).toArray T (0, 0))) (hl : l.length ≤ 1000000) (hb : bytes ≤ 10000) (hlo : lo ≤ w.heap.size) :
    ∃ v2 w2, (∀ ty, (Builtin.append_ #[L, L] ty #[v, .slice (some ⟨eb, 0, none⟩) 1 1]).run P w = .ok v2 w2) ∧ OwnG k C T w2 lo v2 (l ++ [x]) ∧ w.grownBy w2 v.ownBlock ∧ (v2.ownBlock = v.ownBlock ∨ v2.ownBlock = some w.heap.size) := by
  have hm : (l.length + 1) * bytes ≤ 1000001 * 10000 := Nat.mul_le_mul (by omega) hb
  obtain ⟨v2, w2, hrun, r1, r2, _, r4⟩ := run_append_own_at (P := P) (w := w) lo L T T i z k bytes hL hi hz hk hby hzs h0 v l.length (l.flatMap C) h ⟨eb, 0, none⟩ 1 1 (C x) (by rw [hC]; omega) (fun j u hu => by
    rw [plain_at, Nat.zero_add, cell_at he]
    simpa using hu) (h1 x) (by unfold maxLen; omega) (by omega) hlo
  exact ⟨v2, w2, fun _ => hrun, by unfold OwnG; rw [List.flatMap_append, List.length_append]; simpa using r1, r2, r4⟩
/-- A whole row behind a row. -/
theorem OwnG.apps {P : Program} {L : TypeId} {i : TypeInfo} {z : Value} {bytes : Nat} (hL : P.underlying L = some (.slice T)) (hi : P.info? T = some i) (hz : i.zero = some z) (hk : i.size = k) (hby : i.bytes = bytes) (hzs : z.cells.size = k) (h0 : 0 < k)
    (hC : ∀ x, (C x).length = k) (h1 : ∀ x, ∀ u ∈ C x, u.oneCell' = true) (w : World) (v : Value) (l m : List α) (b o c : Nat) (h : OwnG k C T w lo v l) (he : Row k C w (some ⟨b, o, none⟩) m) (hl : l.length + m.length ≤ 1000000) (hb : bytes ≤ 10000) (hlo : lo ≤ w.heap.size) :
    ∃ v2 w2, (∀ ty, (Builtin.append_ #[L, L] ty #[v, .slice (some ⟨b, o, none⟩) m.length c]).run P w = .ok v2 w2) ∧ OwnG k C T w2 lo v2 (l ++ m) ∧ w.grownBy w2 v.ownBlock ∧ (v2.ownBlock = v.ownBlock ∨ v2.ownBlock = some w.heap.size) := by
  have hm : (l.length + m.length) * bytes ≤ 1000000 * 10000 := Nat.mul_le_mul hl hb
  have hlen : (m.flatMap C).length = m.length * k := by
    clear he hl hm
    induction m with
    | nil => simp
    | cons x m ih => rw [List.flatMap_cons, List.length_append, hC, ih, List.length_cons, Nat.add_mul]; omega
  obtain ⟨v2, w2, hrun, r1, r2, _, r4⟩ := run_append_own_at (P := P) (w := w) lo L T T i z k bytes hL hi hz hk hby hzs h0 v l.length (l.flatMap C) h ⟨b, o, none⟩ m.length c (m.flatMap C) hlen (fun j u hu => by
    have hj : j < m.length * k := by have := (List.getElem?_eq_some_iff.1 hu).1; rwa [hlen] at this
    have hr : j % k < k := Nat.mod_lt _ h0
    have hq : j / k < m.length := (Nat.div_lt_iff_lt_mul h0).2 hj
    obtain ⟨b', o', e, _, hc⟩ := he (Nat.lt_of_le_of_lt (Nat.zero_le _) hq)
    injection e with e
    injection e with e1 e2
    subst e1 e2
    have hd : j / k * k + j % k = j := by rw [Nat.mul_comm]; exact Nat.div_add_mod j k
    rw [← hd, flat_get hC m (j / k) (j % k) hr, List.getElem?_eq_getElem hq] at hu
    have := hc (j / k) _ (List.getElem?_eq_getElem hq) (j % k) u hu
    rw [plain_at]
    rwa [Nat.add_assoc, hd] at this) (fun u hu => by
      rw [List.mem_flatMap] at hu
      obtain ⟨x, _, hx⟩ := hu
      exact h1 x u hx) (by unfold maxLen; omega) (by omega) hlo
  exact ⟨v2, w2, fun _ => hrun, by unfold OwnG; rw [List.flatMap_append, List.length_append]; exact r1, r2, r4⟩
end Go.Proofs.Ytofadlenblobnaa.OwnR
