/-
  What names stand for, block by block: plain mathematics.
-/
import Derived.Test.YtbhgbgaeaejnhaaYClose
namespace Go.Proofs.Ytbhgbgaeaejnhaa.Typ
set_option linter.unusedSimpArgs false
theorem toList_inj' {a b : ByteArray} (h : a.toList = b.toList) : a = b := by
  rw [ByteArray.toList_eq, ByteArray.toList_eq] at h
  exact ByteArray.ext (Array.toList_inj.1 h)
theorem isV_iff {s : ByteArray} {v : Vr} : isV s v = true ↔ v.s = s := by
  unfold isV
  rw [beq_iff_eq]
  exact ⟨toList_inj', fun h => by rw [h]⟩
/-- What a name stands for. -/
def fnd (l : List Vr) (s : ByteArray) : Option Vr := l.reverse.find? (isV s)
theorem fnd_nil (s : ByteArray) : fnd [] s = none := rfl
theorem fnd_app (l m : List Vr) (s : ByteArray) : fnd (l ++ m) s = (fnd m s).or (fnd l s) := by
  unfold fnd
  rw [List.reverse_append, List.find?_append]
theorem fnd_one (l : List Vr) (v : Vr) (s : ByteArray) : fnd (l ++ [v]) s = if v.s = s then some v else fnd l s := by
  rw [fnd_app]
  unfold fnd
  by_cases h : v.s = s
  · rw [if_pos h]
    have := isV_iff.2 h
    simp [this]
  · rw [if_neg h]
    have : isV s v = false := by
      cases hv : isV s v with
      | false => rfl
      | true => exact absurd (isV_iff.1 hv) h
    simp [this]
theorem fnd_some {l : List Vr} {s : ByteArray} {v : Vr} (h : fnd l s = some v) : v ∈ l ∧ v.s = s := by
  unfold fnd at h
  exact ⟨List.mem_reverse.1 (List.mem_of_find?_eq_some h), isV_iff.1 (List.find?_some h)⟩
theorem fnd_none {l : List Vr} {s : ByteArray} (h : fnd l s = none) : ∀ v ∈ l, v.s ≠ s := fun v hv e => by
  unfold fnd at h
  rw [List.find?_eq_none] at h
  exact h v (List.mem_reverse.2 hv) (isV_iff.2 e)
theorem fnd_is {l : List Vr} {s : ByteArray} (h : ∀ v ∈ l, v.s ≠ s) : fnd l s = none := by
  unfold fnd
  rw [List.find?_eq_none]
  intro v hv e
  exact h v (List.mem_reverse.1 hv) (isV_iff.1 e)
/-- Each block's variables bear its depth; numbers are what they must be. -/
structure Wf (LL : List (List Vr)) (N : Int) : Prop where
  k : ∀ (i : Nat) (L : List Vr), LL[i]? = some L → ∀ v ∈ L, v.k = (i : Int) + 1
  n : ∀ v ∈ LL.flatten, 0 ≤ v.n ∧ v.n < N
  pos : 0 ≤ N
  s : ∀ v ∈ LL.flatten, v.s.size ≤ maxLen
theorem Wf.nil : Wf [] 0 := ⟨fun i L h => by simp at h, fun v h => by simp at h, Int.le_refl _, fun v h => by simp at h⟩
theorem Wf.open_ {LL : List (List Vr)} {N : Int} (h : Wf LL N) : Wf (LL ++ [[]]) N := by
  refine ⟨fun i L hL v hv => ?_, fun v hv => h.n v (by simpa using hv), h.pos, fun v hv => h.s v (by simpa using hv)⟩
  rw [List.getElem?_append] at hL
  split at hL
  · exact h.k i L hL v hv
  · rename_i hi
    obtain ⟨hlt, he⟩ := List.getElem?_eq_some_iff.1 hL
    simp at hlt
    have : i - LL.length = 0 := by omega
    simp [this] at he
    subst he
    simp at hv
theorem Wf.close {LL : List (List Vr)} {L : List Vr} {N : Int} (h : Wf (LL ++ [L]) N) : Wf LL N := by
  refine ⟨fun i M hM v hv => h.k i M ?_ v hv, fun v hv => h.n v (by rw [List.flatten_append]; exact List.mem_append_left _ hv), h.pos, fun v hv => h.s v (by rw [List.flatten_append]; exact List.mem_append_left _ hv)⟩
  rw [List.getElem?_append_left (List.getElem?_eq_some_iff.1 hM).1]
  exact hM
theorem Wf.def_ {LL : List (List Vr)} {L : List Vr} {N : Int} (h : Wf (LL ++ [L]) N) (s : ByteArray) (t : Int) (hs : s.size ≤ maxLen) : Wf (LL ++ [L ++ [⟨s, t, N, (LL.length : Int) + 1⟩]]) (N + 1) := by
  have hp := h.pos
  refine ⟨fun i M hM v hv => ?_, fun v hv => ?_, by omega, fun v hv => ?_⟩
  · rcases Nat.lt_or_ge i LL.length with hi | hi
    · rw [List.getElem?_append_left hi] at hM
      exact h.k i M (by rw [List.getElem?_append_left hi]; exact hM) v hv
    · rw [List.getElem?_append_right hi] at hM
      obtain ⟨hlt, he⟩ := List.getElem?_eq_some_iff.1 hM
      simp at hlt
      obtain rfl : i = LL.length := by omega
      simp at he
      subst he
      rcases List.mem_append.1 hv with hv | hv
      · exact h.k LL.length L (by simp) v hv
      · obtain rfl : v = _ := by simpa using hv
        rfl
  · simp only [List.flatten_append, List.flatten_cons, List.flatten_nil, List.append_nil, List.mem_append, List.mem_singleton] at hv
    rcases hv with hv | hv | hv
    · have := h.n v (by simp [hv])
      omega
    · have := h.n v (by simp [hv])
      omega
    · subst hv
      exact ⟨hp, Int.lt_succ N⟩
  · simp only [List.flatten_append, List.flatten_cons, List.flatten_nil, List.append_nil, List.mem_append, List.mem_singleton] at hv
    rcases hv with hv | hv | hv
    · exact h.s v (by simp [hv])
    · exact h.s v (by simp [hv])
    · subst hv
      exact hs
/-- Has the innermost block the name? -/
def hasD (l : List Vr) (s : ByteArray) (D : Int) : Bool := match fnd l s with
  | some v => v.k == D
  | none => false
theorem Wf.deep {LL : List (List Vr)} {N : Int} (h : Wf LL N) {v : Vr} (hv : v ∈ LL.flatten) : 1 ≤ v.k ∧ v.k ≤ LL.length := by
  rw [List.mem_flatten] at hv
  obtain ⟨L, hL, hv⟩ := hv
  obtain ⟨i, hi, rfl⟩ := List.getElem_of_mem hL
  have := h.k i _ (List.getElem?_eq_getElem hi) v hv
  omega
theorem hasD_last {LL : List (List Vr)} {L : List Vr} {N : Int} (h : Wf (LL ++ [L]) N) (s : ByteArray) : hasD (LL ++ [L]).flatten s ((LL.length : Int) + 1) = (fnd L s).isSome := by
  have e : (LL ++ [L]).flatten = LL.flatten ++ L := by simp
  unfold hasD
  rw [e, fnd_app]
  cases hL : fnd L s with
  | some v =>
    have := h.k LL.length L (by simp) v (fnd_some hL).1
    simp [this]
  | none =>
    cases hK : fnd LL.flatten s with
    | none => simp
    | some v =>
      have := h.close.deep (fnd_some hK).1
      have e : (v.k == (LL.length : Int) + 1) = false := by rw [beq_eq_false_iff_ne]; omega
      simp [e]
/-- A block's names, and what each hides. -/
def nms (K : List Vr) (L : List Vr) : List (ByteArray × Option Vr) := L.map fun v => (v.s, fnd K v.s)
/-- .. with one name turned. -/
def upF (f : ByteArray → Option Vr) (s : ByteArray) (u : Option Vr) : ByteArray → Option Vr := fun x => if x = s then u else f x
theorem fnd_def (l : List Vr) (v : Vr) : fnd (l ++ [v]) = upF (fnd l) v.s (some v) := by
  funext s
  rw [fnd_one]
  unfold upF
  by_cases h : v.s = s
  · rw [if_pos h, if_pos h.symm]
  · rw [if_neg h, if_neg (fun e => h e.symm)]
/-- While a block's names go: the first j have gone. -/
def backF (K L : List Vr) (j : Nat) : ByteArray → Option Vr := fun x => match fnd (L.take j) x with
  | some _ => fnd K x
  | none => fnd (K ++ L) x
theorem backF_zero (K L : List Vr) : backF K L 0 = fnd (K ++ L) := by
  funext x
  simp [backF, fnd_nil]
theorem backF_succ (K L : List Vr) (j : Nat) (v : Vr) (h : L[j]? = some v) : backF K L (j + 1) = upF (backF K L j) v.s (fnd K v.s) := by
  funext x
  unfold backF upF
  have e : L.take (j + 1) = L.take j ++ [v] := by rw [List.take_add_one, h]; rfl
  rw [e, fnd_one]
  by_cases hx : x = v.s
  · subst hx
    simp
  · have : ¬ v.s = x := fun e => hx e.symm
    simp [hx, this]
theorem backF_all (K L : List Vr) (j : Nat) (h : L.length ≤ j) : backF K L j = fnd K := by
  funext x
  unfold backF
  rw [List.take_of_length_le h, fnd_app]
  cases hL : fnd L x with
  | some v => simp
  | none => simp
end Go.Proofs.Ytbhgbgaeaejnhaa.Typ
