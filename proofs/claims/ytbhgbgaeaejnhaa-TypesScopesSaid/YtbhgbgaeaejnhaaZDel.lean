/-
  slices.Delete of a row's last element, a row of rows.
-/
import Derived.Test.YtbhgbgaeaejnhaaZBring
import Derived.Lib.SliceRun
import Derived.Deep.Upon
namespace Go.Proofs.Ytbhgbgaeaejnhaa.Typ
open Go.RowKit Tre
open OwnR (OwnG)
set_option maxRecDepth 100000
set_option linter.unusedSimpArgs false
theorem slC_flat : ∀ vs : List Value, vs.flatMap slC = vs
  | [] => rfl
  | v :: vs => by rw [List.flatMap_cons, slC_flat vs]; rfl
/-- The last element of a row of rows is cleared, the row is cut. -/
theorem pop_row {w : World} {b n c : Nat} {us : List Value} {v : Value} (h : OwnG 1 slC 77 w 0 (.slice (some ⟨b, 0, none⟩) (n + 1) c) (us ++ [v])) (hn : us.length = n) :
    ∃ W2, (∀ ty d, (Builtin.clear_ #[47] ty #[.slice (some ⟨b, n, none⟩) 1 d]).run Try.prog w.drew = .ok (.tuple #[]) W2) ∧ OwnG 1 slC 77 W2 0 (.slice (some ⟨b, 0, none⟩) n c) us ∧ TurnS (fun k => k = b) w W2 := by
  subst hn
  obtain ⟨hl, h2⟩ := h
  rw [slC_flat] at h2 hl
  rcases h2 with ⟨e, _⟩ | ⟨g, cap, cur, e, _, hh, hc, hm, hs, ht⟩
  · cases e
  injection e with e1 e2 e3
  injection e1 with e1
  injection e1 with e1
  subst e1 e3
  rw [List.length_append, List.length_singleton, Nat.mul_one] at ht
  have hc : us.length + 1 ≤ c := by simpa using hc
  rw [Nat.mul_one] at hs
  have hlt : us.length < cur.size := by omega
  have hd : w.drew.heap[b]? = some (.cells cur 77 (0, 0)) := hh
  refine ⟨w.drew.setCells b us.length (List.replicate 1 (.slice none 0 0)), fun ty d => Lib.run_clear_slice w.drew _ 77 ty (.slice none 0 0) und_out (fun w => by
    obtain ⟨i, hi, hz, _⟩ := infoO_of
    simp [zeroValue, typeInfo, hi, hz]) rfl rfl b us.length 1 d (by decide) (fun j hj => by
      obtain rfl : j = 0 := by omega
      rw [Nat.add_zero, cell_at hd]
      simp [hlt]) (fun j hj => by simp [World.frozen?, hd]), ?_, ?_⟩
  · refine ⟨by rw [slC_flat, Nat.mul_one], .inr ⟨b, c, cur.set! us.length (.slice none 0 0), rfl, Nat.zero_le _, ?_, by omega, hm, by simpa using hs, ?_⟩⟩
    · exact setc_at hd _
    · rw [slC_flat, Nat.mul_one]
      have e := congrArg (List.take us.length) ht
      rw [List.take_take, Nat.min_eq_left (by omega), List.take_append_of_le_length (Nat.le_refl _), List.take_length] at e
      rw [← e]
      simp only [Array.set!_eq_setIfInBounds, Array.toList_setIfInBounds, List.length_take, Array.length_toList]
      rw [Nat.min_eq_left (by omega), List.take_set_of_le (Nat.le_refl _)]
  · exact ((TurnS.refl (fun k => k = b) w).below (Below.refl _ w).drew).set (b := b) (.inl rfl) _ _
set_option maxHeartbeats 4000000 in
theorem pdel_any {w : World} {b n c : Nat} {us : List Value} {v : Value} (h : OwnG 1 slC 77 w 0 (.slice (some ⟨b, 0, none⟩) (n + 1) c) (us ++ [v])) (hn : us.length = n) (hc : n + 1 ≤ c) (hn2 : n ≤ 100000) :
    Calls Try.prog 46 #[.slice (some ⟨b, 0, none⟩) (n + 1) c, .int .i64 n, .int .i64 (n + 1)] w (fun e w' => e = .returned (.slice (some ⟨b, 0, none⟩) n c) ∧ OwnG 1 slC 77 w' 0 (.slice (some ⟨b, 0, none⟩) n c) us ∧ TurnS (fun k => k = b) w w') := by
  obtain ⟨W2, hcl, ho2, ht2⟩ := pop_row h hn
  have HO := Lib.hid (And.intro ho2 ht2)
  have hc' : n ≤ c := by omega
  have HR : Hid (∀ (a : Addr) (d : Nat) (X : World) (ty : TypeId), (Builtin.append_ #[47, 47] ty #[.slice (some ⟨b, 0, none⟩) n c, .slice (some a) 0 d]).run Try.prog X = .ok (.slice (some ⟨b, 0, none⟩) n c) X) := Lib.hid (fun a d X ty => by
    obtain ⟨i, hi, _⟩ := infoO_of
    exact run_append_nothing X _ _ ty _ i und_out hi (some ⟨b, 0, none⟩) n c hc' _ (Src.ofSlice X und_out a 0 d [] (by simp) (fun j u hu => by simp at hu) (by simp)))
  clear h hn ho2 ht2
  have h0 : (0 : Int) ≤ (n : Int) + 1 := by omega
  have h1 : (n : Int) ≤ (n : Int) + 1 := by omega
  by_cases hcc : c = n + 1
  · subst hcc
    go_enter Try.func46, Try.ntmps46
    go_wp2_with fail
    refine wp_region_still_tail 6 (by kernel_rfl) (by kernel_rfl) ?_
    simp only [List.take_succ_cons, List.take_zero, List.drop_succ_cons, List.drop_zero]
    iterate 6 still_step
    refine wpStill_nil ?_
    change wpList _ _ _ _ _ w.drew
    refine wp_appG 47 rfl (.tmp 22) (.tmp 25) rfl _ _ _ rfl rfl (HR.out _ _ _) ?_
    go_wp2_with fail
    go_ret
    exact ⟨rfl, HO.out.1, HO.out.2⟩
  · go_enter Try.func46, Try.ntmps46
    go_wp2_with fail
    refine wp_region_still_tail 6 (by kernel_rfl) (by kernel_rfl) ?_
    simp only [List.take_succ_cons, List.take_zero, List.drop_succ_cons, List.drop_zero]
    iterate 6 still_step
    refine wpStill_nil ?_
    change wpList _ _ _ _ _ w.drew
    refine wp_appG 47 rfl (.tmp 22) (.tmp 25) rfl _ _ _ rfl rfl (HR.out _ _ _) ?_
    go_wp2_with fail
    go_ret
    exact ⟨rfl, HO.out.1, HO.out.2⟩
end Go.Proofs.Ytbhgbgaeaejnhaa.Typ
