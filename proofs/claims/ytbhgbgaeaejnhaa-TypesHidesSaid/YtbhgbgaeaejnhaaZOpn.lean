/-
  A row of texts that comes in: each of a size that a process can hold. No condition beyond the form's own.
-/
import Derived.Test.YtbhgbgaeaejnhaaTOpen
import Derived.SizedLaws
namespace Go.Proofs.Ytbhgbgaeaejnhaa
open Go.Joins Go.RowKit Go.ChangeShapes Go.WideShapes Go.ChangeAt Go.Deep Tre
set_option maxRecDepth 100000
namespace Typ
section
variable {H : Type} {enc : TypeId × Value → H} {w : World} {base : Nat} {spare : Nat → Bool} {held : Bool}
theorem weights_all {P : Program} {e : TypeId} : ∀ {l : List (DataW H)} {d : DataW H}, d ∈ l → ∀ n ∈ d.weights P e, n ∈ DataW.weightsAll P e l
  | x :: l, d, hd, n, hn => by
    rw [DataW.weightsAll, List.mem_append]
    rcases List.mem_cons.1 hd with rfl | hd
    · exact .inl hn
    · exact .inr (weights_all hd n hn)
theorem open_strs {r : Reach} {b0 : Nat} {v : Value} {d : DataW H} {p : List MemPlace} (hv : Value.okWide Try.prog w r b0 22 v) (h : DataW.Trod enc Try.prog w base spare held 22 v d p) (hw : ∀ n ∈ d.weights Try.prog 22, n ≤ reachBytes) :
    ∃ (a : Option Addr) (c : Nat) (l : List ByteArray), v = .slice a l.length c ∧ Row 1 txC w a l ∧ l.length ≤ most ∧ ∀ s ∈ l, s.size ≤ 140737488355327 := by
  obtain ⟨A, n, c, rfl⟩ := okWide_slice Try.underlying22 hv
  obtain ⟨fuel, h⟩ := h
  obtain ⟨a, c', l, e1, hrow, hlm, _, _⟩ := open_row (⟨#[]⟩ : ByteArray) Try.underlying22 cellsStr (by decide) (fun x => rfl) h (fun m cs y _ hy => open_tx m cs y hy)
  refine ⟨a, c', l, e1, hrow, hlm, fun s hs => ?_⟩
  obtain ⟨i, hi, rfl⟩ := List.getElem_of_mem hs
  injection e1 with e1 e2 e3
  subst e1 e2 e3
  rcases DataW.trod_slice Try.underlying22 h with ⟨e, _⟩ | ⟨a', len, cap, elems, rest, k, hf, e, hx, _, _, _, hel, hat, _, _⟩
  · have e : l.length = 0 := by
      have : Value.slice A l.length c = .slice none 0 0 := by simpa [Value.cells] using e
      injection this
    omega
  · have e : Value.slice A l.length c = .slice (some a') len cap := by simpa [Value.cells] using e
    injection e with e1 e2 e3
    subst e1 e2 e3
    have h1 := hat i hi
    rw [List.getElem?_eq_getElem (by omega)] at h1
    obtain ⟨cs, h2, h3⟩ := Option.bind_eq_some_iff.1 h1
    rw [cellsStr] at h2
    obtain ⟨_, hcl, hcc⟩ := World.cells?_some h2
    obtain ⟨s0, g0, g1, _⟩ := DataW.trod_string Try.underlying9 h3
    subst g0
    have hc0 := hcc 0 (by decide)
    obtain ⟨b, o, ea, _, hcell⟩ := hrow (Nat.lt_of_le_of_lt (Nat.zero_le _) hi)
    injection ea with ea
    subst ea
    have := hcell i _ (List.getElem?_eq_getElem hi) 0 (.string l[i]) rfl
    rw [plain_at, plain_at] at hc0
    have hse : s0 = l[i] := by
      rw [this] at hc0
      simpa using hc0.symm
    subst hse
    have hmem : (elems[i]'(by omega)).1 ∈ elems.map (·.1) := List.mem_map.2 ⟨_, List.getElem_mem _, rfl⟩
    have hsz : l[i].data.toList.length ≤ reachBytes := hw _ (by
      injection hx with hx _
      rw [hx]
      unfold DataW.weights
      rw [Try.underlying22]
      refine List.mem_cons_of_mem _ (List.mem_append_left _ (weights_all hmem _ ?_))
      rw [g1]
      simp [DataW.weights])
    have hb : reachBytes < 2 ^ 47 := reachBytes_lt
    have : l[i].size = l[i].data.toList.length := (Array.length_toList).symm
    omega
end
end Typ
end Go.Proofs.Ytbhgbgaeaejnhaa
