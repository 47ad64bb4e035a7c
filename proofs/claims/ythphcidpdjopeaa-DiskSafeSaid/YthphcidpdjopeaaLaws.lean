/-
  A step of a range over the sectors that wait; a map that is cleared; a sector that is stored among others.
-/
import Derived.Test.YthphcidpdjopeaaSurv
namespace Go.Proofs.Ythphcidpdjopeaa
open Go.RowKit Go.Maps Go.ChangeMaps Go.MapKept
section
variable {ops : Array Oper} {rest : List Oper} {o : Oper} {a : Act} {Q : Exit → Act → World → Prop}
theorem wpList_next_sec (w : World) (gm r n nn : Nat) (f : Nat → Option (List UInt8)) (D : DataW Value) (left : Lit → Bool) (cnt : Nat) (hT : Told D n f) (h : w.ranges Try.prog 3 R0 gm r nn D left cnt)
    (ho : o.guard = none ∧ ∃ it, o.op = Op.next it false ∧ a.eval it = .pointer (some ⟨r, 0, none⟩))
    (hDone : (∀ kl, left kl = false) → wpList Try.prog ops Q rest (a.put o.dst (.tuple #[.bool false])) w)
    (hMore : ∀ (i : Nat) (s : List UInt8) (w' : World) (cnt' : Nat), i < n → f i = some s → left (ky i) = true → w'.ranges Try.prog 3 R0 gm r nn D (fun z => left z && !z.sameKey (ky i)) cnt' → cnt' < cnt →
      w.grownBy w' (some r) → w'.heap.size = w.heap.size → (Instr.entry (.pointer (some ⟨r, 0, none⟩))).run Try.prog w' = .ok (.tuple #[.int .i64 i, .agg (cel s).toArray]) w' →
      wpList Try.prog ops Q rest (a.put o.dst (.tuple #[.bool true, .int .i64 i, .agg (cel s).toArray])) w') :
    wpList Try.prog ops Q (o :: rest) a w := by
  obtain ⟨hg, it, hop, hit⟩ := ho
  refine wpList_plain hg fun K' hK' => ?_
  unfold Oper.wp
  rcases h.next key3 o.type with ⟨h0, hl, hrun⟩ | ⟨key, v, kl, y, w', cnt', hkey, hlk, hv, hat, hrun, hrg, hlt, hgr, hsz, hen⟩
  · simp [execOp, hop, hit, hrun, Result.andThen]
    exact hK' _ _ (hDone hl)
  · have hhas := Maps.has_true_of_atKey hat
    obtain ⟨i, hi, rfl⟩ := hT.1 kl hhas
    obtain ⟨x, rfl, hx, _⟩ := Maps.keyOf_i64 Try.underlying3 hkey
    have hxi : x = (i : Int) := by simpa [ky] using hx.symm
    subst hxi
    have hs := (hT.has hi).symm.trans hhas
    obtain ⟨s, hs⟩ := Option.isSome_iff_exists.1 hs
    have e1 := (hT.2 i hi).2 s hs .nil
    rw [hat .nil] at e1
    have e2 : y = (.held v, []) := by simpa [R0] using hv.symm
    rw [e2] at e1
    have e3 : v = secV s := by simpa using e1
    subst e3
    simp [execOp, hop, hit, hrun, Result.andThen]
    exact hK' _ _ (hMore i s w' cnt' hi hs hlk hrg hlt hgr hsz hen)
theorem wpList_clear (w : World) (gm n : Nat) (f : Nat → Option (List UInt8)) (h : Mp w gm n f) (ho : o.guard = none ∧ ∃ x, o.op = .call { callee := .builtin .clear, args := #[x], argTypes := #[44] } ∧ a.eval x = .map (some gm))
    (hK : ∀ w', Mp w' gm n (fun _ => none) → w.grownBy w' (some gm) → wpList Try.prog ops Q rest (a.put o.dst (.tuple #[])) w') : wpList Try.prog ops Q (o :: rest) a w := by
  obtain ⟨hg, x, hop, hx⟩ := ho
  obtain ⟨nn, D, ⟨es, clock, hb, F, hs, hD⟩, hnn, hT⟩ := h
  have e : (Builtin.clear_ #[44] o.type #[.map (some gm)]).run Try.prog w = .ok (.tuple #[]) (setBlock w gm (.map #[] clock)) := by
    simp [Builtin.clear_, run_underlying Try.underlying44, MapKept.run_getObj_map hb, MapKept.run_setObj_map _ hb, Result.andThen, setBlock]
  refine wpList_plain hg fun _ hK' => ?_
  unfold Oper.wp execOp
  simp only [hop, resolve, invoke, builtin, Sem.run_bind, Sem.run_pure, Result.andThen_ok, List.map_toArray, List.map_cons, List.map_nil, hx, e]
  refine hK' _ _ (hK _ ⟨0, .map [], ⟨#[], clock, heap_setBlock_same hb _, ⟨by simp, stamped_empty clock, by simp⟩, Nat.le_refl _, rfl⟩, Nat.zero_le _, Told.empty n⟩ ?_)
  exact ⟨rfl, rfl, rfl, by simp [setBlock], fun i _ hi => heap_setBlock_other hb _ (fun e => hi (by rw [e]))⟩
theorem wpList_storeMid (w : World) (b off : Nat) (s : List UInt8) (h : w.there b off 64) (hs : s.length = 64) (ho : IsStore o a (.pointer (some ⟨b, off, none⟩)) (.agg (cel s).toArray))
    (hK : wpList Try.prog ops Q rest (a.put o.dst undef) (w.setCells b off (cel s))) : wpList Try.prog ops Q (o :: rest) a w := by
  obtain ⟨hg, x, y, ho, hx, hy⟩ := ho
  have hc : (cel s).toArray.size = 64 := by rw [List.size_toArray, cel_length, hs]
  exact wpList_store_mid hg 49 x y ho b off (cel s).toArray hx hy (hc ▸ h) (hc ▸ size49) (cel_all s) hK
end
end Go.Proofs.Ythphcidpdjopeaa
