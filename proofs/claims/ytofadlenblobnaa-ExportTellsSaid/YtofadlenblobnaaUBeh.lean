/-
  A region that draws its order, whose callees make memory: walked once, in whatever world has what there was. What a row of signatures reads as in all of these.
-/
import Derived.Test.YtofadlenblobnaaUBack
import Derived.BigQuiet
import Derived.Deep.QuietTactic
namespace Go.Proofs.Ytofadlenblobnaa.Exp
open Go.RowKit Codec Typ Tre
set_option maxRecDepth 100000
/-- A world that has what w0 had. -/
structure BehW (w0 : World) where
  w : World
  h : Below w0.heap.size w0 w
instance (w0 : World) : Inhabited (BehW w0) := ⟨⟨w0, Below.refl _ _⟩⟩
theorem wp_region_beh {P : Program} {id : Nat} {Q : Exit → Act → World → Prop} {a : Act} {w : World} {l : List Oper} (hm : P.follows .mixedOrders = true) (hB : Region.lexB .any l.toArray = true)
    (h : wpQuiet P l.toArray (fun w' => ∃ p : BehW w, w' = p.w) (fun a' => ∀ w', (∃ p : BehW w, w' = p.w) → Q .normal a' w') l a) : (Code.region id l.toArray true).wp P Q a w :=
  wp_region_quiet (C := fun w' => ∃ p : BehW w, w' = p.w) hm hB ⟨⟨w.drew, (Below.refl _ _).drew⟩, rfl⟩ (by simpa using h)
theorem beh_call {P : Program} {f : FuncId} {args : Array Value} {w0 : World} {p : BehW w0} {v : Value} (h : Calls P f args p.w (EndsB v p.w)) : Calls P f args p.w fun e w'' => e = .returned v ∧ ∃ q : BehW w0, w'' = q.w :=
  h.mono fun _ w2 ⟨he, hb⟩ => ⟨he, ⟨w2, p.h.trans (hb.mono p.h.size)⟩, rfl⟩
/-- One signature of a row, in every later world. -/
theorem row_all {w : World} {A : Option Addr} {l : List Sg} (h : Row 3 sgC w A l) (h0 : 0 < l.length) : ∃ b o, A = some ⟨b, o, none⟩ ∧ ∀ w', Below w.heap.size w w' → ∀ (j : Nat) (x : Sg), l[j]? = some x →
    w'.cell? ⟨b, o + j * 3, none⟩ = some (.string x.s) ∧ w'.cell? ⟨b, o + j * 3 + 1, none⟩ = some (.slice x.a x.p.length x.c) ∧ w'.cell? ⟨b, o + j * 3 + 2, none⟩ = some (.int .u8 x.r) := by
  obtain ⟨b, o, e, hlt, hc⟩ := h h0
  refine ⟨b, o, e, fun w' hb j x hx => ?_⟩
  have hk : ∀ a : Addr, a.block = b → w'.cell? a = w.cell? a := fun a ha => World.cell?_of_block (w := w) (by rw [ha]; exact hb.block b hlt)
  exact ⟨(hk _ rfl).trans (hc j x hx 0 _ rfl), (hk _ rfl).trans (hc j x hx 1 _ rfl), (hk _ rfl).trans (hc j x hx 2 _ rfl)⟩
/-- One type of a row, in every later world. -/
theorem row_ty {w : World} {A : Option Addr} {l : List Int} (h : Row 1 tyC w A l) (h0 : 0 < l.length) : ∃ b o, A = some ⟨b, o, none⟩ ∧ ∀ w', Below w.heap.size w w' → ∀ (j : Nat) (x : Int), l[j]? = some x → w'.cell? ⟨b, o + j, none⟩ = some (.int .u8 x) := by
  obtain ⟨b, o, e, hlt, hc⟩ := h h0
  refine ⟨b, o, e, fun w' hb j x hx => ?_⟩
  have := (World.cell?_of_block (w := w) (a := ⟨b, o + j * 1 + 0, none⟩) (hb.block b hlt)).trans (hc j x hx 0 _ rfl)
  rwa [Nat.mul_one, Nat.add_zero] at this
/-- The name ahead of place k. -/
def ahL (l : List Sg) (k : Nat) : List UInt8 := if k = 0 then [] else match l[k - 1]? with
  | some x => x.s.data.toList
  | none => []
theorem ahL_zero (l : List Sg) : ahL l 0 = [] := rfl
theorem ahL_succ {l : List Sg} {k : Nat} {x : Sg} (h : l[k]? = some x) : ahL l (k + 1) = x.s.data.toList := by
  unfold ahL
  rw [if_neg (by omega), Nat.add_sub_cancel, h]
theorem less_nil {s : List UInt8} (h : Lex.nameOk s = true) : Op.bytesLess [] s = true := by
  cases s with
  | nil => simp [Lex.nameOk] at h
  | cons a l => rfl
theorem typed_split (x : Sg) (h0 : 0 ≤ x.r) : typedP (coreG x) = (!decide (4 < x.p.length) && (!decide (2 < x.r) && x.p.all valT)) := by
  have e : resT x.r = !decide (2 < x.r) := by
    unfold resT valT
    by_cases h : 2 < x.r
    · rw [decide_eq_true h]
      have e0 : (x.r == 0) = false := by simp; omega
      have e1 : (x.r == 1) = false := by simp; omega
      have e2 : (x.r == 2) = false := by simp; omega
      rw [e0, e1, e2]
      rfl
    · rw [decide_eq_false h]
      rcases (show x.r = 0 ∨ x.r = 1 ∨ x.r = 2 by omega) with e | e | e <;> rw [e] <;> rfl
  unfold typedP
  show (!decide (4 < x.p.length) && (x.p.all valT && resT x.r)) = _
  rw [e, Bool.and_comm (x.p.all valT)]
/-- What the chain comes to at place k. -/
theorem chain_k {l : List Sg} {k : Nat} {x : Sg} {R : Bool} (hR : R = chainP (ahL l k) ((l.drop k).map coreG)) (hx : l[k]? = some x) (h0 : 0 ≤ x.r) :
    R = (Lex.nameOk x.s.data.toList && Op.bytesLess (ahL l k) x.s.data.toList && (!decide (4 < x.p.length) && (!decide (2 < x.r) && x.p.all valT)) && chainP (ahL l (k + 1)) ((l.drop (k + 1)).map coreG)) := by
  rw [hR, chain_at _ hx, ahL_succ hx, typed_split x h0]
  rfl
end Go.Proofs.Ytofadlenblobnaa.Exp
