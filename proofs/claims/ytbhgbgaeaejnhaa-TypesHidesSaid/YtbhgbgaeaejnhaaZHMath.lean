/-
  TypesHides: its mathematics.
-/
import Derived.Test.YtbhgbgaeaejnhaaZBase
namespace Go.Proofs.Ytbhgbgaeaejnhaa.Typ
set_option linter.unusedSimpArgs false
/-- Names are defined one behind the other, in the innermost block. -/
def defF (LL : List (List Vr)) (t : Int) (st : List Vr × Int) (s : ByteArray) : List Vr × Int := (defB LL st.1 st.2 s t, defN st.1 st.2 s)
def defs (LL : List (List Vr)) (t : Int) (N : Int) (l : List ByteArray) : List Vr × Int := l.foldl (defF LL t) ([], N)
theorem defs_succ {LL : List (List Vr)} {t N : Int} {l : List ByteArray} {i : Nat} {s : ByteArray} (h : l[i]? = some s) : defs LL t N (l.take (i + 1)) = defF LL t (defs LL t N (l.take i)) s := by
  unfold defs
  have e : l.take (i + 1) = l.take i ++ [s] := by rw [List.take_add_one, h]; rfl
  rw [e, List.foldl_append]
  rfl
theorem defs_zero (LL : List (List Vr)) (t N : Int) (l : List ByteArray) : defs LL t N (l.take 0) = ([], N) := rfl
/-- What a block holds. -/
structure Dfd (t N : Int) (l : List ByteArray) (st : List Vr × Int) : Prop where
  has : ∀ s ∈ l, (fnd st.1 s).isSome = true
  is : ∀ v ∈ st.1, v.t = t ∧ N ≤ v.n
  lo : N ≤ st.2
  hi : st.2 ≤ N + l.length
  len : st.1.length ≤ l.length
theorem fnd_grow {L : List Vr} {x : ByteArray} {v : Vr} (h : (fnd L x).isSome = true) : (fnd (L ++ [v]) x).isSome = true := by
  rw [fnd_one]
  split
  · rfl
  · exact h
theorem Dfd.step {LL : List (List Vr)} {t N : Int} {l : List ByteArray} {st : List Vr × Int} (h : Dfd t N l st) (s : ByteArray) : Dfd t N (l ++ [s]) (defF LL t st s) := by
  obtain ⟨L, M⟩ := st
  have h1 := h.lo
  have h2 := h.hi
  have h3 := h.len
  unfold defF defB defN
  simp only at h1 h2 h3 ⊢
  cases hf : (fnd L s).isSome with
  | true =>
    refine ⟨fun x hx => ?_, h.is, h1, ?_, ?_⟩
    · simp only [if_true]
      rcases List.mem_append.1 hx with hx | hx
      · exact h.has x hx
      · obtain rfl : x = s := by simpa using hx
        exact hf
    · simp only [if_true, List.length_append, List.length_singleton]
      push_cast
      omega
    · simp only [if_true, List.length_append, List.length_singleton]
      omega
  | false =>
    simp only [Bool.false_eq_true, if_false]
    refine ⟨fun x hx => ?_, fun v hv => ?_, ?_, ?_, ?_⟩
    · rcases List.mem_append.1 hx with hx | hx
      · exact fnd_grow (h.has x hx)
      · obtain rfl : x = s := by simpa using hx
        rw [fnd_one, if_pos rfl]
        rfl
    · rcases List.mem_append.1 hv with hv | hv
      · exact h.is v hv
      · obtain rfl : v = _ := by simpa using hv
        exact ⟨rfl, h1⟩
    · simp only
      omega
    · simp only [List.length_append, List.length_singleton]
      push_cast
      omega
    · simp only [List.length_append, List.length_singleton]
      omega
theorem Dfd.zero (t N : Int) : Dfd t N [] ([], N) := ⟨fun s h => by simp at h, fun v h => by simp at h, Int.le_refl _, by simp, Nat.le_refl _⟩
theorem dfd_take (LL : List (List Vr)) (t N : Int) (l : List ByteArray) : ∀ i, i ≤ l.length → Dfd t N (l.take i) (defs LL t N (l.take i))
  | 0, _ => Dfd.zero t N
  | i + 1, h => by
    have hi : l[i]? = some (l[i]'(by omega)) := List.getElem?_eq_getElem (by omega)
    have e : l.take (i + 1) = l.take i ++ [l[i]'(by omega)] := by rw [List.take_add_one, hi]; rfl
    rw [defs_succ hi, e]
    exact (dfd_take LL t N l i (by omega)).step _
theorem len_take (LL : List (List Vr)) (t N : Int) (l : List ByteArray) (i : Nat) (h : i ≤ l.length) : (defs LL t N (l.take i)).1.length ≤ i ∧ N ≤ (defs LL t N (l.take i)).2 ∧ (defs LL t N (l.take i)).2 ≤ N + i := by
  have := dfd_take LL t N l i h
  have h1 := this.len
  have h2 := this.lo
  have h3 := this.hi
  rw [List.length_take, Nat.min_eq_left h] at h1 h3
  exact ⟨h1, h2, h3⟩
/-- What is found of an inner name. -/
theorem find_in {L : List Vr} {t N : Int} {l : List ByteArray} {i : Nat} {s : ByteArray} (hi : l[i]? = some s) :
    ∃ k, findA ([L] ++ [(defs [L] t N (l.take (i + 1))).1]).flatten s = .tuple #[.int .u8 t, .int .i64 k, .bool true] ∧ N ≤ k := by
  have hlt := (List.getElem?_eq_some_iff.1 hi).1
  have h := dfd_take [L] t N l (i + 1) (by omega)
  have hs : s ∈ l.take (i + 1) := by
    rw [List.take_add_one, hi]
    simp
  have h1 := h.has s hs
  cases hf : fnd (defs [L] t N (l.take (i + 1))).1 s with
  | none =>
    rw [hf] at h1
    cases h1
  | some v =>
    have h2 := h.is v (fnd_some hf).1
    refine ⟨v.n, ?_, h2.2⟩
    rw [findA_some (v := v), h2.1]
    have e : ([L] ++ [(defs [L] t N (l.take (i + 1))).1]).flatten = L ++ (defs [L] t N (l.take (i + 1))).1 := by simp
    rw [e, fnd_app, hf]
    rfl
/-- What is found of an outer name, behind the Close. -/
theorem find_out {t N : Int} {l : List ByteArray} {i : Nat} {s : ByteArray} (hi : l[i]? = some s) (hw : Wf [(defs [] t N l).1] (defs [] t N l).2) :
    ∃ k, findA [(defs [] t N l).1].flatten s = .tuple #[.int .u8 t, .int .i64 k, .bool true] ∧ 0 ≤ k ∧ k < (defs [] t N l).2 := by
  have h := dfd_take [] t N l l.length (Nat.le_refl _)
  rw [List.take_length] at h
  have h1 := h.has s (List.mem_of_getElem? hi)
  cases hf : fnd (defs [] t N l).1 s with
  | none =>
    rw [hf] at h1
    cases h1
  | some v =>
    have hv := (fnd_some hf).1
    have h2 := h.is v hv
    refine ⟨v.n, ?_, hw.n v (by simpa using hv)⟩
    rw [findA_some (v := v), h2.1]
    simpa using hf
end Go.Proofs.Ytbhgbgaeaejnhaa.Typ
