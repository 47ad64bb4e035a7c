/-
  The program's Exports. Conditions: the file lies in memory; it has at most 100 functions, each at most 100 parameters.
-/
import Derived.Test.YtbhgbgaeaejnhaaQ19
import Derived.Deep.Upon
namespace Go.Proofs.Ytbhgbgaeaejnhaa.Typ
open Go.RowKit Tre Go.Sort Go.Shelf
open OwnR (OwnG)
set_option maxRecDepth 100000
set_option linter.unusedSimpArgs false
/-- What the loop knows. -/
structure ExAt (l : List Tre.Fn) (k : Nat) (w1 wr : World) (v : Value) (D : List El) : Prop where
  own : OwnG 3 sgC 33 wr w1.heap.size v (D.map (·.1))
  low : Below w1.heap.size w1 wr
  tag : ∀ x ∈ D, Tag l x ∧ SgIn w1 x.1
  ix : D.map (·.2) = upsI l k
theorem ups_len (l : List Tre.Fn) (k : Nat) : (upsI l k).length ≤ k := by
  unfold upsI
  exact Nat.le_trans (List.length_filter_le _ _) (by simp)
theorem ExAt.ups {l : List Tre.Fn} {k : Nat} {w1 wr : World} {v : Value} {D : List El} (h : ExAt l k w1 wr v D) : Ups D := by
  have h1 : (D.map (·.2)).Pairwise (· < ·) := by
    rw [h.ix]
    unfold upsI
    exact List.pairwise_lt_range.filter _
  exact List.pairwise_map.1 h1
theorem ExAt.len {l : List Tre.Fn} {k : Nat} {w1 wr : World} {v : Value} {D : List El} (h : ExAt l k w1 wr v D) : D.length ≤ k := by
  have := congrArg List.length h.ix
  rw [List.length_map] at this
  rw [this]
  exact ups_len l k
theorem ExAt.skip {l : List Tre.Fn} {k : Nat} {w1 wr : World} {v : Value} {D : List El} (h : ExAt l k w1 wr v D) (hn : Up.upperB (nmF l k) = false) (cs : Array Value) (T : TypeId) : ExAt l (k + 1) w1 (wr.alloc (.cells cs T)) v D :=
  ⟨h.own.keep fun b hb => (ball_new wr cs T).block b (h.own.lt b hb).2, h.low.trans ((ball_new wr cs T).mono h.low.size), h.tag, by rw [h.ix, upsI_no hn]⟩
theorem ExAt.more {l : List Tre.Fn} {k : Nat} {w1 wr : World} {v : Value} {D : List El} {g : Sg} (h : ExAt l k w1 wr v D) (hn : Up.upperB (nmF l k) = true) (ht : Tag l (g, k)) (hi : SgIn w1 g) (hk : k ≤ 100) (cs : Array Value) (T : TypeId) :
    ∃ A n c w4, (∀ ty, (Builtin.append_ #[29, 29] ty #[v, .slice (some ⟨wr.heap.size + 1, 0, none⟩) 1 1]).run Try.prog ((wr.alloc (.cells cs T)).alloc (.cells #[.string g.s, .slice g.a g.p.length g.c, .int .u8 g.r] 33)) = .ok (.slice A n c) w4) ∧ ExAt l (k + 1) w1 w4 (.slice A n c) (D ++ [(g, k)]) := by
  have b1 := ball_new wr cs T
  have z1 : (wr.alloc (.cells cs T)).heap.size = wr.heap.size + 1 := World.size_alloc _ _
  generalize wr.alloc (.cells cs T) = X at *
  have b2 := ball_new X #[.string g.s, .slice g.a g.p.length g.c, .int .u8 g.r] 33
  have n2 := new_at X #[.string g.s, .slice g.a g.p.length g.c, .int .u8 g.r] 33
  have z2 : (X.alloc (.cells #[.string g.s, .slice g.a g.p.length g.c, .int .u8 g.r] 33)).heap.size = X.heap.size + 1 := World.size_alloc _ _
  generalize X.alloc (.cells #[.string g.s, .slice g.a g.p.length g.c, .int .u8 g.r] 33) = Y at *
  have hb : Below wr.heap.size wr Y := b1.trans (b2.mono b1.size)
  have own1 : OwnG 3 sgC 33 Y w1.heap.size v (D.map (·.1)) := h.own.keep fun b hb' => hb.block b (h.own.lt b hb').2
  have hlo := h.low.size
  have hl := h.len
  obtain ⟨v2, w4, hr, ho, hg, hn2⟩ := app_sg Y v (D.map (·.1)) g X.heap.size own1 n2 (by rw [List.length_map]; omega) (by omega)
  obtain ⟨A, c, rfl, _⟩ := ho.form
  have hlow : Below w1.heap.size w1 Y := h.low.trans (hb.mono h.low.size)
  refine ⟨A, _, c, w4, by rw [← z1]; exact hr, ⟨by rw [List.map_append]; exact ho, hlow.grown hg hlow.size (fun b e => (own1.lt b e).1), ?_, ?_⟩⟩
  · intro x hx
    rcases List.mem_append.1 hx with hx | hx
    · exact h.tag x hx
    · obtain rfl : x = (g, k) := by simpa using hx
      exact ⟨ht, hi⟩
  · rw [List.map_append, h.ix, upsI_yes hn]
    rfl
/-- What a row of exports is. -/
def ExQ (l : List Tre.Fn) (w : World) (e : Ending) (w' : World) : Prop := ∃ A c t, e = .returned (.slice A t.length c) ∧ ExpT l l.length t ∧ Row 3 sgC w' A (t.map (·.1)) ∧ (∀ x ∈ t, SgIn w' x.1) ∧ Below w.heap.size w w'
theorem ExAt.sort {l : List Tre.Fn} {k n b c : Nat} {w1 wr w' : World} {D t : List El} (h : ExAt l k w1 wr (.slice (some ⟨b, 0, none⟩) n c) D) (hp : t.Perm D) (hs : Srt t) (hb : SB wr b n t w') : ExpT l k t ∧ Row 3 sgC w' (some ⟨b, 0, none⟩) (t.map (·.1)) ∧ (∀ x ∈ t, SgIn w' x.1) ∧ Below w1.heap.size w1 w' := by
  have hlow : Below w1.heap.size w1 w' := h.low.grown hb.grownBy h.low.size (fun k e => by
    injection e with e
    subst e
    exact (h.own.lt b rfl).1)
  refine ⟨⟨fun x hx => (h.tag x (hp.mem_iff.1 hx)).1, hs, by rw [← h.ix]; exact hp.map _⟩, hb.row, fun x hx => (h.tag x (hp.mem_iff.1 hx)).2.below hlow, hlow⟩
set_option maxHeartbeats 8000000 in
theorem pexp_any (f : Fl) (w : World) (hf : FlIn w f) (hn : f.f.length ≤ 100) (hp : ∀ g ∈ f.f, g.p.length ≤ 100) (hs : ∀ g ∈ f.f, g.s.size ≤ 281474976710656) :
    Calls Try.prog 9 #[flV f] w (ExQ f.f w) := by
  have a1 := ball_new w #[.string f.s, .slice f.ia f.i.length f.ic, .slice f.fa f.f.length f.fc] 25
  have CA := Lib.hid (pall_any f (w.alloc (.cells #[.string f.s, .slice f.ia f.i.length f.ic, .slice f.fa f.f.length f.fc] 25)) (hf.below a1) hn hp hs)
  have HA1 := Lib.hid a1
  obtain ⟨l, hl⟩ : ∃ l, f.f = l := ⟨_, rfl⟩
  rw [flV_is] at CA ⊢
  rw [hl] at CA hn HA1 ⊢
  obtain ⟨m, hm⟩ : ∃ m, l.length = m := ⟨_, rfl⟩
  rw [hm] at hn CA HA1 ⊢
  have HM := Lib.hid hm
  clear hf hp hs a1 hm hl
  go_enter Try.func9, Try.ntmps9
  go_wp2_with fail
  refine CA.out.mono ?_
  rintro e1 w1 ⟨A, c, gs, rfl, hcore, hrow, hsin, hlow⟩
  have hgm : gs.length = m := by
    have := congrArg List.length hcore
    simp only [List.length_map] at this
    rw [this, HM.out]
  rw [hgm]
  have HLOW := Lib.hid hlow
  have HROW := Lib.hid hrow
  have HSIN := Lib.hid hsin
  have HCORE := Lib.hid hcore
  have HGM := Lib.hid hgm
  have H0 : Hid (ExAt l 0 w1 w1 (.slice none 0 0) []) := Lib.hid ⟨OwnG.nil _ _, Below.refl _ _, by simp, rfl⟩
  clear hcore hrow hsin hlow CA hgm
  go_wp2_with fail
  go_loopw [3, 9] (fun v i wr => ∃ (k : Nat) (A2 : Option Addr) (n2 c2 : Nat) (D : List El), k ≤ m ∧ v = .slice A2 n2 c2 ∧ i = .int .i64 k ∧ Hid (ExAt l k w1 wr (.slice A2 n2 c2) D)) (fun _ i _ => m - (intOf i).toNat)
  case atStart => exact ⟨0, none, 0, 0, [], Nat.zero_le _, rfl, rfl, H0⟩
  case round =>
    obtain ⟨k, A2, n2, c2, D, hk, rfl, rfl, H⟩ := hrel
    clear H0
    by_cases hlt : k < m
    · obtain ⟨x, hx⟩ : ∃ x, gs[k]? = some x := ⟨_, List.getElem?_eq_getElem (by rw [HGM.out]; exact hlt)⟩
      obtain ⟨b1, o1, rfl, hc1⟩ := HROW.out.at_ H.out.low hx
      obtain ⟨p0, p1, p2⟩ := sgC_at hc1
      have HT : Hid (Tag l (x, k)) := Lib.hid (by
        have := congrArg (·[k]?) HCORE.out
        simp only [List.getElem?_map, hx] at this
        obtain ⟨y, hy, e⟩ := Option.map_eq_some_iff.1 this.symm
        exact ⟨y, hy, e.symm⟩)
      have HXI : Hid (SgIn w1 x) := Lib.hid (HSIN.out x (List.mem_of_getElem? hx))
      have CU := fun w => Lib.hid (Up.upper_any x.s w)
      obtain ⟨t, ht⟩ : ∃ t, Up.upperB x.s.data.toList = t := ⟨_, rfl⟩
      have HUT : Hid (Up.upperB (nmF l k) = t) := Lib.hid (by rw [← ht]; exact congrArg _ HT.out.nm)
      rw [ht] at CU
      clear hc1 hx ht
      go_wp2_with fail
      refine (CU _).out.mono ?_
      rintro e2 w2 ⟨rfl, rfl⟩
      cases t with
      | false =>
        have HN := Lib.hid (H.out.skip HUT.out #[.string x.s, .slice x.a x.p.length x.c, .int .u8 x.r] 33)
        go_wp2_with fail
        go_roundw
        case rel => exact ⟨k + 1, A2, n2, c2, D, by omega, rfl, by go_num, HN⟩
        case measure => simp [intOf]; omega
      | true =>
        obtain ⟨A4, n4, c4, w4, hr, hat⟩ := H.out.more HUT.out HT.out HXI.out (by omega) #[.string x.s, .slice x.a x.p.length x.c, .int .u8 x.r] 33
        have HR := Lib.hid hr
        have HAT := Lib.hid hat
        clear hr hat
        go_wp2_with (at_builtin; refine wpList_appG 29 rfl (.tmp 16) (.tmp 18) rfl (.slice A2 n2 c2) (.slice (some ⟨wr.heap.size + 1, 0, none⟩) 1 1) _ rfl rfl HR.out ?_)
        go_wp2_with fail
        go_roundw
        case rel => exact ⟨k + 1, A4, n4, c4, _, by omega, rfl, by go_num, HAT⟩
        case measure => simp [intOf]; omega
    · obtain rfl : k = m := by omega
      have HW : Hid (Below w.heap.size w w1) := Lib.hid (HA1.out.trans (HLOW.out.mono HA1.out.size))
      obtain ⟨A', c', e', _, hform⟩ := H.out.own.form
      rw [List.length_map] at e'
      injection e' with e1 e2 e3
      subst e1 e2 e3
      clear hk hlt
      cases A2 with
      | none =>
        have hd0 : D = [] := by
          rcases H.out.own.2 with ⟨e, h0⟩ | ⟨g, cap, cur, e, _⟩
          · rw [List.length_map] at h0
            exact List.eq_nil_of_length_eq_zero h0
          · injection e with e
            cases e
        subst hd0
        have CS := Lib.hid (sort_nil c2 wr)
        have HF : Hid (ExpT l k [] ∧ Below w.heap.size w wr) := Lib.hid ⟨⟨fun x hx => absurd hx List.not_mem_nil, List.Pairwise.nil, by rw [← H.out.ix]⟩, HW.out.trans (H.out.low.mono HW.out.size)⟩
        go_wp2_with fail
        refine CS.out.mono ?_
        rintro e2 w2 ⟨rfl, rfl⟩
        go_wp2_with fail
        go_ret
        refine ⟨none, c2, [], rfl, by rw [HM.out]; exact HF.out.1, fun h => ?_, fun x hx => absurd hx List.not_mem_nil, HF.out.2⟩
        simp at h
      | some ad =>
        obtain ⟨b, rfl⟩ := hform ad rfl
        have CS := Lib.hid (sort_any (c := c2) (SB.start H.out.own rfl) H.out.ups (by have := H.out.len; omega))
        obtain ⟨n, hnn⟩ : ∃ n, D.length = n := ⟨_, rfl⟩
        have HNN := Lib.hid hnn
        rw [hnn] at CS H ⊢
        clear hform hnn
        go_wp2_with fail
        refine CS.out.mono ?_
        rintro e2 w2 ⟨rfl, t, ht, hs2, hb⟩
        have HF := Lib.hid (H.out.sort ht hs2 hb)
        have HTL : Hid (n = t.length) := Lib.hid (by rw [ht.length_eq, HNN.out])
        clear ht hs2 hb
        go_wp2_with fail
        go_ret
        refine ⟨some ⟨b, 0, none⟩, c2, t, by show Ending.returned (.slice (some ⟨b, 0, none⟩) n c2) = _; rw [HTL.out], by rw [HM.out]; exact HF.out.1, HF.out.2.1, HF.out.2.2.1, HW.out.trans (HF.out.2.2.2.mono HW.out.size)⟩
end Go.Proofs.Ytbhgbgaeaejnhaa.Typ
/- Rows of signatures that grow in new memory; what the document's Exports knows. Conditions: sizes. -/
namespace Go.Proofs.Ytbhgbgaeaejnhaa.Typ
open Go.RowKit Tre Go.Sort Go.Shelf
open OwnR (OwnG)
open Lib (compareBytes)
set_option maxRecDepth 100000
set_option linter.unusedSimpArgs false
theorem less_eq : ∀ a b : List UInt8, Op.bytesLess a b = decide (compareBytes a b < 0)
  | [], [] => rfl
  | [], _ :: _ => rfl
  | _ :: _, [] => rfl
  | a :: l, b :: m => by
    unfold Op.bytesLess compareBytes
    by_cases h1 : a < b
    · simp [h1]
    · by_cases h2 : b < a
      · have h3 : (a == b) = false := by
          rw [beq_eq_false_iff_ne]
          intro e
          subst e
          exact h1 h2
        simp [h1, h2, h3]
      · have h3 : a = b := by
          apply UInt8.toNat_inj.1
          simp only [UInt8.lt_iff_toNat_lt] at h1 h2
          omega
        simp [h1, h2, h3, less_eq l m]
theorem sg_one (x : Sg) : ∀ u ∈ sgC x, u.oneCell' = true := fun u hu => by
  simp [sgC] at hu
  rcases hu with rfl | rfl | rfl <;> rfl
structure GAt (X0 X : World) (v : Value) (l : List Sg) : Prop where
  own : OwnG 3 sgC 33 X X0.heap.size v l
  low : Below X0.heap.size X0 X
theorem GAt.made {X0 X : World} (hb : Below X0.heap.size X0 X) : GAt X0 (X.alloc (.cells #[] 33)) (.slice (some ⟨X.heap.size, 0, none⟩) 0 0) [] :=
  ⟨World.ownsRow_made X #[] 0 hb.size (by decide) (by simp), hb.trans ((ball_new X #[] _).mono hb.size)⟩
theorem GAt.call {X0 X X2 : World} {v : Value} {l : List Sg} (h : GAt X0 X v l) (hb : Below X.heap.size X X2) : GAt X0 X2 v l :=
  ⟨h.own.keep fun g hg => hb.block g (h.own.lt g hg).2, h.low.trans (hb.mono h.low.size)⟩
/-- A block that the row does not lie in stays. -/
def Far (X X2 : World) (v v2 : Value) : Prop := ∀ eb, eb < X.heap.size → v.ownBlock ≠ some eb → X2.heap[eb]? = X.heap[eb]? ∧ v2.ownBlock ≠ some eb
theorem GAt.far {X0 X X2 : World} {v v2 : Value} {l l2 : List Sg} (h : GAt X0 X v l) (hg : X.grownBy X2 v.ownBlock) (ho : OwnG 3 sgC 33 X2 X0.heap.size v2 l2) (hn : v2.ownBlock = v.ownBlock ∨ v2.ownBlock = some X.heap.size) :
    GAt X0 X2 v2 l2 ∧ Far X X2 v v2 ∧ X.heap.size ≤ X2.heap.size :=
  ⟨⟨ho, h.low.grown hg h.low.size fun k hk => (h.own.lt k hk).1⟩, fun eb he hne => ⟨hg.block eb he fun e => hne e.symm, fun e => by
    rcases hn with e2 | e2
    · exact hne (e2.symm.trans e)
    · rw [e2] at e
      injection e with e
      omega⟩, hg.size⟩
theorem appendG_none {X : World} {v : Value} {A : Option Addr} {n c : Nat} (hv : v = .slice A n c) (hn : n ≤ c) (B : Option Addr) (d : Nat) : ∀ ty, (Builtin.append_ #[29, 29] ty #[v, .slice B 0 d]).run Try.prog X = .ok v X := fun ty => by
  subst hv
  obtain ⟨i, hi, _⟩ := infoG_of
  cases B with
  | none => exact run_append_nothing X _ _ ty _ i und_sl hi A n c hn _ (Src.ofNil X und_sl d)
  | some a => exact run_append_nothing X _ _ ty _ i und_sl hi A n c hn _ (Src.ofSlice X und_sl a 0 d [] (by simp) (fun j u hu => by simp at hu) (by simp))
theorem GAt.one {X0 X : World} {v : Value} {l : List Sg} (h : GAt X0 X v l) (x : Sg) (eb : Nat) (he : X.heap[eb]? = some (.cells #[.string x.s, .slice x.a x.p.length x.c, .int .u8 x.r] 33 (0, 0))) (hl : l.length ≤ 1000) :
    ∃ v2 X2, (∀ ty, (Builtin.append_ #[29, 29] ty #[v, .slice (some ⟨eb, 0, none⟩) 1 1]).run Try.prog X = .ok v2 X2) ∧ GAt X0 X2 v2 (l ++ [x]) ∧ Far X X2 v v2 ∧ X.heap.size ≤ X2.heap.size := by
  obtain ⟨v2, X2, hr, ho, hg, hn⟩ := app_sg X v l x eb h.own he (by omega) h.low.size
  exact ⟨v2, X2, hr, h.far hg ho hn⟩
theorem GAt.rows {X0 X : World} {v : Value} {l m : List Sg} (h : GAt X0 X v l) {A : Option Addr} {c n : Nat} (hr : Row 3 sgC X0 A m) (hn : m.length = n) (hl : l.length + n ≤ 1000) :
    ∃ v2 X2, (∀ ty, (Builtin.append_ #[29, 29] ty #[v, .slice A n c]).run Try.prog X = .ok v2 X2) ∧ GAt X0 X2 v2 (l ++ m) ∧ Far X X2 v v2 ∧ X.heap.size ≤ X2.heap.size := by
  subst hn
  cases m with
  | nil =>
    obtain ⟨B, d, e, hd, _⟩ := h.own.form
    exact ⟨v, X, appendG_none e hd A c, by rw [List.append_nil]; exact h, fun eb _ hne => ⟨rfl, hne⟩, Nat.le_refl _⟩
  | cons x m =>
    obtain ⟨b, o, rfl, hlt, hc⟩ := hr (by simp)
    obtain ⟨i, hi, hz, hs, hb⟩ := infoG_of
    obtain ⟨v2, X2, hrun, ho, hg, hn⟩ := OwnG.apps und_sl hi hz hs rfl rfl (by decide) (fun _ => rfl) sg_one X v l (x :: m) b o c h.own (Row.below (w := X0) (fun h0 => ⟨b, o, rfl, hlt, hc⟩) h.low) (by omega) hb h.low.size
    exact ⟨v2, X2, hrun, h.far hg ho hn⟩
/-- A row's head and its rest. -/
theorem row_takeG {w : World} {A : Option Addr} {l : List Sg} (h : Row 3 sgC w A l) (K : Nat) : Row 3 sgC w A (l.take K) := fun h0 => by
  obtain ⟨b, o, e, hlt, hc⟩ := h (by rw [List.length_take] at h0; omega)
  refine ⟨b, o, e, hlt, fun j x hx => hc j x ?_⟩
  rw [List.getElem?_take] at hx
  split at hx
  · exact hx
  · cases hx
theorem row_drop {w : World} {b : Nat} {l : List Sg} (h : Row 3 sgC w (some ⟨b, 0, none⟩) l) (K o : Nat) (ho : o = K * 3) : Row 3 sgC w (some ⟨b, o, none⟩) (l.drop K) := fun h0 => by
  obtain ⟨b', o', e, hlt, hc⟩ := h (by rw [List.length_drop] at h0; omega)
  injection e with e
  injection e with e1 e2
  subst e1 e2 ho
  refine ⟨b, K * 3, rfl, hlt, fun j x hx r u hu => ?_⟩
  rw [List.getElem?_drop] at hx
  have := hc _ x hx r u hu
  rw [Nat.zero_add, Nat.add_mul] at this
  exact this
/-- What the document's loop knows. -/
structure RxAt (f : Fl) (k : Nat) (w wr : World) (v : Value) (t : List El) : Prop where
  own : OwnG 3 sgC 33 wr (w.heap.size + 1) v (t.map (·.1))
  exp : ExpT f.f k t
  sin : ∀ x ∈ t, SgIn wr x.1
  low : Below w.heap.size w wr
  box : wr.heap[w.heap.size]? = some (.cells #[.string f.s, .slice f.ia f.i.length f.ic, .slice f.fa f.f.length f.fc] 25 (0, 0))
theorem RxAt.len {f : Fl} {k : Nat} {w wr : World} {v : Value} {t : List El} (h : RxAt f k w wr v t) : t.length ≤ k := by
  have := h.exp.ix.length_eq
  rw [List.length_map] at this
  rw [this]
  exact ups_len _ k
theorem RxAt.skip {f : Fl} {k : Nat} {w wr : World} {v : Value} {t : List El} (h : RxAt f k w wr v t) (hn : Up.upperB (nmF f.f k) = false) : RxAt f (k + 1) w wr v t :=
  ⟨h.own, ⟨h.exp.tag, h.exp.srt, by rw [upsI_no hn]; exact h.exp.ix⟩, h.sin, h.low, h.box⟩
theorem RxAt.drewN {f : Fl} {k : Nat} {w wr : World} {v : Value} {t : List El} (h : RxAt f k w wr v t) (m : Nat) : RxAt f k w (wr.drewN m) v t :=
  ⟨h.own, h.exp, fun x hx => (h.sin x hx).below (Tre.below_drewN wr m), h.low.trans ((Tre.below_drewN wr m).mono h.low.size), h.box⟩
/-- One more is put where it must stand. -/
theorem RxAt.put {f : Fl} {k K : Nat} {w X0 X : World} {v v2 : Value} {t : List El} {g : Sg} (h : RxAt f k w X0 v t) (hn : Up.upperB (nmF f.f k) = true) (ht : Tag f.f (g, k)) (hi : SgIn X g) (hK : ∀ z ∈ t.drop K, cfE (g, k) z < 0) (hK2 : K = 0 ∨ ∃ z, t[K - 1]? = some z ∧ ¬ cfE (g, k) z < 0) (hd : GAt X0 X v2 ((t.take K).map (·.1) ++ [g] ++ (t.drop K).map (·.1))) :
    RxAt f (k + 1) w X v2 (t.take K ++ (g, k) :: t.drop K) := by
  have hb0 := lt_of_heap h.box
  have hlt : ∀ x ∈ t, x.2 < k := fun x hx => upsI_lt (h.exp.ix.mem_iff.1 (List.mem_map_of_mem hx))
  have hmem : ∀ x ∈ t.take K ++ (g, k) :: t.drop K, x = (g, k) ∨ x ∈ t := fun x hx => by
    rcases List.mem_append.1 hx with hx | hx
    · exact .inr (List.mem_of_mem_take hx)
    · rcases List.mem_cons.1 hx with hx | hx
      · exact .inl hx
      · exact .inr (List.mem_of_mem_drop hx)
  refine ⟨?_, ⟨fun x hx => ?_, ?_, ?_⟩, fun x hx => ?_, h.low.trans (hd.low.mono h.low.size), (hd.low.block _ hb0).trans h.box⟩
  · have := hd.own
    unfold OwnG World.ownsRow at this ⊢
    simp only [List.map_append, List.map_cons, List.append_assoc, List.singleton_append] at this ⊢
    refine ⟨this.1, ?_⟩
    rcases this.2 with h1 | ⟨g1, cap, cur, e, h2, h3⟩
    · exact .inl h1
    · exact .inr ⟨g1, cap, cur, e, by omega, h3⟩
  · rcases hmem x hx with rfl | hx
    · exact ht
    · exact h.exp.tag x hx
  · refine ins_mid (by rw [List.take_append_drop]; exact h.exp.srt) ?_ (fun z hz => cmp_yes (hK z hz))
    rcases hK2 with rfl | ⟨z, hz, hz2⟩
    · exact .inl rfl
    · by_cases h0 : K = 0
      · subst h0; exact .inl rfl
      · refine .inr ⟨t.take (K - 1), z, ?_, cmp_no hz2 (hlt z (List.mem_of_getElem? hz))⟩
        have := List.take_add_one (l := t) (i := K - 1)
        rw [show K - 1 + 1 = K by omega, hz] at this
        exact this
  · rw [upsI_yes hn]
    have h1 : (t.take K ++ (g, k) :: t.drop K).Perm ((g, k) :: t) := by
      have := List.perm_middle (l₁ := t.take K) (l₂ := t.drop K) (a := (g, k))
      rwa [List.take_append_drop] at this
    have h2 := h1.map (·.2)
    rw [List.map_cons] at h2
    exact (h2.trans (List.Perm.cons k h.exp.ix)).trans (List.perm_append_comm (l₁ := [k]))
  · rcases hmem x hx with rfl | hx
    · exact hi
    · exact (h.sin x hx).below hd.low
end Go.Proofs.Ytbhgbgaeaejnhaa.Typ
