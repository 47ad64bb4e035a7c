/-
  A row of variables of the call's own: what Def appends. The scope behind it.
-/
import Derived.Test.YtbhgbgaeaejnhaaYClose
import Derived.Test.YtbhgbgaeaejnhaaOwn
import Derived.Deep.Upon
namespace Go.Proofs.Ytbhgbgaeaejnhaa.Typ
open Go.RowKit Tre
open OwnR (OwnG)
set_option maxRecDepth 100000
set_option linter.unusedSimpArgs false
theorem und_vl : Try.prog.underlying 51 = some (.slice 85) := by kernel_rfl
theorem infoV : (Try.prog.info? 85).map (fun i => (i.zero, i.size, decide (i.bytes ≤ 10000))) = some (some (.agg #[.string ⟨#[]⟩, .int .u8 0, .int .i64 0, .int .i64 0]), 4, true) := by kernel_rfl
theorem infoV_of : ∃ i, Try.prog.info? 85 = some i ∧ i.zero = some (.agg #[.string ⟨#[]⟩, .int .u8 0, .int .i64 0, .int .i64 0]) ∧ i.size = 4 ∧ i.bytes ≤ 10000 := by
  have h := infoV
  cases hi : Try.prog.info? 85 with
  | none => rw [hi] at h; simp at h
  | some i => rw [hi] at h; simp at h; exact ⟨i, rfl, h.1, h.2.1, h.2.2⟩
theorem vr_one (x : Vr) : ∀ u ∈ vrC x, u.oneCell' = true := fun u hu => by
  simp [vrC] at hu
  rcases hu with rfl | rfl | rfl | rfl <;> rfl
structure DAt (X0 X : World) (v : Value) (l : List Vr) : Prop where
  own : OwnG 4 vrC 85 X X0.heap.size v l
  low : Below X0.heap.size X0 X
theorem DAt.alloc {X0 X : World} {v : Value} {l : List Vr} (h : DAt X0 X v l) (cs : Array Value) (T : TypeId) : DAt X0 (X.alloc (.cells cs T)) v l :=
  ⟨h.own.keep fun g hg => (ball_new X cs T).block g (h.own.lt g hg).2, h.low.trans ((ball_new X cs T).mono h.low.size)⟩
theorem DAt.made {X0 X : World} (hb : Below X0.heap.size X0 X) : DAt X0 (X.alloc (.cells #[] 85)) (.slice (some ⟨X.heap.size, 0, none⟩) 0 0) [] :=
  ⟨World.ownsRow_made X #[] 0 hb.size (by decide) (by simp), hb.trans ((ball_new X #[] _).mono hb.size)⟩
theorem DAt.far {X0 X X2 : World} {v v2 : Value} {l l2 : List Vr} (h : DAt X0 X v l) (hg : X.grownBy X2 v.ownBlock) (ho : OwnG 4 vrC 85 X2 X0.heap.size v2 l2) (hn : v2.ownBlock = v.ownBlock ∨ v2.ownBlock = some X.heap.size) :
    DAt X0 X2 v2 l2 ∧ ∀ eb, eb < X.heap.size → v.ownBlock ≠ some eb → X2.heap[eb]? = X.heap[eb]? ∧ v2.ownBlock ≠ some eb :=
  ⟨⟨ho, h.low.grown hg h.low.size fun k hk => (h.own.lt k hk).1⟩, fun eb he hne => ⟨hg.block eb he fun e => hne e.symm, fun e => by
    rcases hn with e2 | e2
    · exact hne (e2.symm.trans e)
    · rw [e2] at e
      injection e with e
      omega⟩⟩
theorem append_none {X : World} {v : Value} {A : Option Addr} {n c : Nat} (hv : v = .slice A n c) (hn : n ≤ c) : ∀ ty, (Builtin.append_ #[51, 51] ty #[v, .slice none 0 0]).run Try.prog X = .ok v X := fun ty => by
  subst hv
  obtain ⟨i, hi, _⟩ := infoV_of
  exact run_append_nothing X _ _ ty _ i und_vl hi A n c hn _ (Src.ofNil X und_vl 0)
theorem DAt.one {X0 X : World} {v : Value} {l : List Vr} (h : DAt X0 X v l) (x : Vr) (eb : Nat) (he : X.heap[eb]? = some (.cells #[.string x.s, .int .u8 x.t, .int .i64 x.n, .int .i64 x.k] 85 (0, 0))) (hl : l.length ≤ 1000) :
    ∃ v2 X2, (∀ ty, (Builtin.append_ #[51, 51] ty #[v, .slice (some ⟨eb, 0, none⟩) 1 1]).run Try.prog X = .ok v2 X2) ∧ DAt X0 X2 v2 (l ++ [x]) := by
  obtain ⟨i, hi, hz, hs, hb⟩ := infoV_of
  obtain ⟨v2, X2, hr, ho, hg, hn⟩ := OwnG.app und_vl hi hz hs rfl rfl (by decide) (fun _ => rfl) vr_one X v l x eb h.own he (by omega) hb h.low.size
  exact ⟨v2, X2, hr, (h.far hg ho hn).1⟩
theorem DAt.rows {X0 X : World} {v : Value} (h : DAt X0 X v []) {A : Option Addr} {c n : Nat} {l : List Vr} (hr : Row 4 vrC X0 A l) (hf : (A = none ∧ c = 0) ∨ ∃ b o, A = some ⟨b, o, none⟩) (hn : l.length = n) (hl : n ≤ 1000) (hc : n ≤ c) :
    ∃ v2 X2, (∀ ty, (Builtin.append_ #[51, 51] ty #[v, .slice A n c]).run Try.prog X = .ok v2 X2) ∧ DAt X0 X2 v2 l ∧ ∀ eb, eb < X.heap.size → v.ownBlock ≠ some eb → X2.heap[eb]? = X.heap[eb]? ∧ v2.ownBlock ≠ some eb := by
  subst hn
  rcases hf with ⟨rfl, rfl⟩ | ⟨b, o, rfl⟩
  · obtain rfl : l = [] := List.eq_nil_of_length_eq_zero (by omega)
    obtain ⟨A, c, e, hc', _⟩ := h.own.form
    exact ⟨v, X, append_none e hc', h, fun eb _ hne => ⟨rfl, hne⟩⟩
  · obtain ⟨i, hi, hz, hs, hb⟩ := infoV_of
    obtain ⟨v2, X2, hrun, ho, hg, hn⟩ := OwnG.apps und_vl hi hz hs rfl rfl (by decide) (fun _ => rfl) vr_one X v [] l b o c h.own (hr.below h.low) (by simp; omega) hb h.low.size
    have := h.far hg ho hn
    exact ⟨v2, X2, hrun, this.1, this.2⟩
/-- The scope behind a Def. -/
theorem ScIn.more {X0 X : World} {g : Nat} {A : Option Addr} {c : Nat} {l l2 : List Vr} {D N : Int} (h : ScIn X0 g A c l D N) {v : Value} (hd : DAt X0 X v l2) (N' : Int) :
    (∃ A' c', ScIn ((X.setCell ⟨g, 0, none⟩ v).setCell ⟨g, 2, none⟩ (.int .i64 N')) g A' c' l2 D N' ∧ ∀ b o, A' = some ⟨b, o, none⟩ → X0.heap.size ≤ b) ∧ Chg g X0 ((X.setCell ⟨g, 0, none⟩ v).setCell ⟨g, 2, none⟩ (.int .i64 N')) := by
  have hlt := lt_of_heap h.box
  have hbox := (hd.low.block g hlt).trans h.box
  refine ⟨?_, (((Chg.refl g X0).below hd.low).set 0 _).set 2 _⟩
  obtain ⟨A', c', e, hc, hp⟩ := hd.own.form
  subst e
  have hap : ∀ b o, A' = some ⟨b, o, none⟩ → b ≠ g := fun b o e => by
    have := (hd.own.lt b (by rw [e]; rfl)).1
    omega
  refine ⟨A', c', ⟨(setc_at (setc_at hbox _) _).trans (by rfl), row_apart (row_apart (OwnG.row (C := vrC) (k := 4) (fun _ => rfl) hd.own) hap _ _) hap _ _, hc, hap, ?_⟩, fun b o e => (hd.own.lt b (by rw [e]; rfl)).1⟩
  cases A' with
  | none =>
    rcases hd.own.2 with ⟨e, _⟩ | ⟨_, _, _, e, _⟩
    · injection e with _ _ e
      exact .inl ⟨rfl, e⟩
    · injection e with e
      cases e
  | some ad =>
    obtain ⟨b, rfl⟩ := hp ad rfl
    exact .inr ⟨b, 0, rfl⟩
/-- What Def's append reads. -/
def DS (g : Nat) (A : Option Addr) (k c : Nat) (D N : Int) (W : World) : Prop := W.cell? ⟨g, 0, none⟩ = some (.slice A k c) ∧ W.cell? ⟨g, 1, none⟩ = some (.int .i64 D) ∧ W.cell? ⟨g, 2, none⟩ = some (.int .i64 N)
theorem DS.of {X0 X : World} {g : Nat} {A : Option Addr} {k c : Nat} {D N : Int} (h : DS g A k c D N X0) (hlt : g < X0.heap.size) (hb : Below X0.heap.size X0 X) : DS g A k c D N X := by
  have e : ∀ i, X.cell? ⟨g, i, none⟩ = X0.cell? ⟨g, i, none⟩ := fun i => World.cell?_of_block (hb.block g hlt)
  exact ⟨(e 0).trans h.1, (e 1).trans h.2.1, (e 2).trans h.2.2⟩
end Go.Proofs.Ytbhgbgaeaejnhaa.Typ
