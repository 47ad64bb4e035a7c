/-
  Trees without where they lie; the same trees have the same core. No condition.
-/
import Derived.Test.YtofadlenblobnaaTRMath
namespace Go.Proofs.Ytofadlenblobnaa.Tre
set_option maxRecDepth 100000
inductive Tx where
  | mk (op n : Int) (s q : List UInt8) (x : List Tx)
inductive Ts where
  | mk (op : Int) (s : List UInt8) (e : Tx) (b b2 : List Ts)
structure Tp where
  s : List UInt8
  t : Int
structure Tf where
  s : List UInt8
  p : List Tp
  r : Int
  b : List Ts
structure Tl where
  s : List UInt8
  i : List (List UInt8)
  f : List Tf
def core (e : Ex) : Tx := .mk e.op e.n e.s.data.toList e.q.data.toList (e.x.attach.map (fun ⟨y, _⟩ => core y))
termination_by SizeOf.sizeOf e
decreasing_by exact part_lt _ (by assumption)
def coreS (s : St) : Ts := .mk s.op s.s.data.toList (core s.e) (s.b.attach.map (fun ⟨y, _⟩ => coreS y)) (s.b2.attach.map (fun ⟨y, _⟩ => coreS y))
termination_by SizeOf.sizeOf s
decreasing_by
  · exact partS_lt _ (.inl (by assumption))
  · exact partS_lt _ (.inr (by assumption))
def coreP (p : Par) : Tp := ⟨p.s.data.toList, p.t⟩
def coreF (f : Fn) : Tf := ⟨f.s.data.toList, f.p.map coreP, f.r, f.b.map coreS⟩
def coreL (f : Fl) : Tl := ⟨f.s.data.toList, f.i.map (·.data.toList), f.f.map coreF⟩
theorem core_eq (e : Ex) : core e = .mk e.op e.n e.s.data.toList e.q.data.toList (e.x.map core) := by
  rw [core]
  congr 1
  exact List.map_subtype (fun _ _ => rfl) |>.trans (by simp)
theorem coreS_eq (s : St) : coreS s = .mk s.op s.s.data.toList (core s.e) (s.b.map coreS) (s.b2.map coreS) := by
  rw [coreS]
  congr 1
  · exact List.map_subtype (fun _ _ => rfl) |>.trans (by simp)
  · exact List.map_subtype (fun _ _ => rfl) |>.trans (by simp)
theorem text_beq {s t : ByteArray} (h : s.data.toList = t.data.toList) : (s.toList == t.toList) = true := by
  rw [ByteArray.toList_eq, ByteArray.toList_eq, h]
  exact beq_self_eq_true _
theorem allTwo_map {α β : Type} {p : α → α → Bool} {c : α → β} : ∀ {a b : List α}, a.map c = b.map c → (∀ x ∈ a, ∀ y ∈ b, c x = c y → p x y = true) → allTwo p a b = true
  | [], [], _, _ => rfl
  | [], _ :: _, h, _ => by simp at h
  | _ :: _, [], h, _ => by simp at h
  | a :: r, b :: t, h, hp => by
    simp only [List.map_cons, List.cons.injEq] at h
    have h1 := hp a (by simp) b (by simp) h.1
    have h2 := allTwo_map (p := p) h.2 (fun x hx y hy => hp x (by simp [hx]) y (by simp [hy]))
    simp [allTwo, h1, h2]
theorem same_core_upto : ∀ (m : Nat) (a b : Ex), size a ≤ m → core a = core b → sameX a b = true
  | 0, a, b, h, _ => by rw [size_eq] at h; omega
  | m + 1, a, b, h, he => by
    rw [core_eq, core_eq] at he
    injection he with h1 h2 h3 h4 h5
    rw [sameX_eq, h1, h2, text_beq h3, text_beq h4, sameXL_all, allTwo_map h5 (fun x hx y _ hc => same_core_upto m x y (by have := size_part hx; omega) hc)]
    simp
theorem same_core {a b : Ex} (h : core a = core b) : sameX a b = true := same_core_upto _ a b (Nat.le_refl _) h
theorem sameS_core_upto : ∀ (m : Nat) (a b : St), sizeS a ≤ m → coreS a = coreS b → sameS a b = true
  | 0, a, b, h, _ => by rw [sizeS_eq] at h; omega
  | m + 1, a, b, h, he => by
    rw [coreS_eq, coreS_eq] at he
    injection he with h1 h2 h3 h4 h5
    rw [sameS_eq, h1, text_beq h2, same_core h3, sameB_all, sameB_all, allTwo_map h4 (fun x hx y _ hc => sameS_core_upto m x y (by have := sizeS_part (s := a) (x := x) (.inl hx); omega) hc), allTwo_map h5 (fun x hx y _ hc => sameS_core_upto m x y (by have := sizeS_part (s := a) (x := x) (.inr hx); omega) hc)]
    simp
theorem sameS_core {a b : St} (h : coreS a = coreS b) : sameS a b = true := sameS_core_upto _ a b (Nat.le_refl _) h
theorem sameF_core {a b : Fn} (h : coreF a = coreF b) : sameF a b = true := by
  unfold coreF at h
  injection h with h1 h2 h3 h4
  unfold sameF
  rw [text_beq h1, h3, sameB_all, allTwo_map h4 (fun x _ y _ hc => sameS_core hc), allTwo_map h2 (fun x _ y _ hc => by unfold coreP at hc; injection hc with g1 g2; unfold samePar; rw [text_beq g1, g2]; simp)]
  simp
/-- Files of one core are the same. -/
theorem sameFl_core {a b : Fl} (h : coreL a = coreL b) : sameFl a b = true := by
  unfold coreL at h
  injection h with h1 h2 h3
  unfold sameFl
  rw [text_beq h1, allTwo_map h3 (fun x _ y _ hc => sameF_core hc), allTwo_map h2 (fun x _ y _ hc => by unfold sameT; exact text_beq hc)]
  simp
end Go.Proofs.Ytofadlenblobnaa.Tre
