/-
  What the program's Waiting does. Condition: the disk is known.
-/
import Derived.Test.YthphcidpdjopeaaNew
import Derived.Test.YthphcidpdjopeaaIter
namespace Go.Proofs.Ythphcidpdjopeaa
open Go.RowKit Go.Maps
/-- A new slice of these numbers. -/
def Listed (w : World) (ks : List Nat) (e : Ending) (w' : World) : Prop :=
  ∃ v, e = .returned v ∧ w'.ownsRow w.heap.size 3 1 v ks.length (ks.map fun k : Nat => encZ (k : Int)) ∧ Below w.heap.size w w'
theorem owns_lower {w : World} {base base' size : Nat} {e : TypeId} {v : Value} {n : Nat} {xs : List Value} (h : w.ownsRow base e size v n xs) (hb : base' ≤ base) : w.ownsRow base' e size v n xs := by
  refine ⟨h.1, ?_⟩
  rcases h.2 with h0 | ⟨g, cap, cur, hv, hg, r⟩
  · exact .inl h0
  · exact .inr ⟨g, cap, cur, hv, by omega, r⟩
set_option maxHeartbeats 400000 in
theorem waiting_disk (w : World) (g gs gm : Nat) (d : Dsk) (h : Dk w g gs gm d) : Calls Try.prog 16 #[ptr g] w (Listed w (waitsOf d.n d.waits)) := by
  obtain ⟨nn, D, hown, hnn, hT⟩ := h.mp
  have hti := hown.tidy key3
  have hin := ints_of hown
  have hsz := hT.size hti hin
  have h3 := h.ok.2.1
  have HK := fun W => Lib.hid (keys_any (some gm) W)
  have HS := Lib.hid (sorted_keys gm nn D R0 w hown (by unfold maxLen; omega) (by omega))
  have hsort : ∀ ss : List Int, ss.Perm (intKeys D) → ss.mergeSort (fun x y => decide (x ≤ y)) = (waitsOf d.n d.waits).map fun i : Nat => (i : Int) := fun ss hs => hT.sorted hti hin hs
  have hlen : ∀ ss : List Int, ss.Perm (intKeys D) → ss.length = (waitsOf d.n d.waits).length := fun ss hs => by
    have h1 := hs.length_eq
    have h2 := (hT.keys hti hin).length_eq
    rw [List.length_map] at h2
    omega
  have HSO := Lib.hid (And.intro hsort hlen)
  obtain ⟨z, hz⟩ := h.six
  have c1 := hz.c1
  clear hz h hown hnn hT hti hin hsz h3 hsort hlen
  generalize waitsOf d.n d.waits = ks at *
  unfold ptr
  go_enter Try.func16, Try.ntmps16
  go_wp2_with (first
    | (go_at_call 22; refine (HK _).out.mono ?_; rintro e w1 ⟨rfl, rfl⟩)
    | (go_at_call 21; refine HS.out.mono ?_; rintro e w2 ⟨v, ss, rfl, hp, hrow, hnil, hb⟩))
  go_ret
  refine ⟨v, rfl, ?_, ((Below.refl _ w).alloc (Nat.le_refl _) _).trans (hb.mono (by simp))⟩
  have h1 := HSO.out.1 ss hp
  have h2 := HSO.out.2 ss hp
  rw [h1, h2, List.map_map] at hrow
  exact owns_lower hrow (by simp)
theorem waiting_none (w : World) (p : Value) (h : Nobody w p) : Calls Try.prog 16 #[p] w fun e w' => e = .returned (.slice none 0 0) ∧ Below w.heap.size w w' := by
  rcases h with rfl | ⟨g, rfl, hz⟩
  · go_enter Try.func16, Try.ntmps16
    go_wp2
    go_ret
    exact ⟨rfl, Below.refl _ _⟩
  · have c1 : w.cell? ⟨g, 1, none⟩ = some (.map none) := cell_at hz 1
    have HK := fun W => Lib.hid (keys_any none W)
    have HS := Lib.hid (sorted_nil w)
    clear hz
    unfold ptr
    go_enter Try.func16, Try.ntmps16
    go_wp2_with (first
      | (go_at_call 22; refine (HK _).out.mono ?_; rintro e w1 ⟨rfl, rfl⟩)
      | (go_at_call 21; refine HS.out.mono ?_; rintro e w2 ⟨rfl, hb⟩))
    go_ret
    exact ⟨rfl, ((Below.refl _ w).alloc (Nat.le_refl _) _).trans (hb.mono (by simp))⟩
end Go.Proofs.Ythphcidpdjopeaa
