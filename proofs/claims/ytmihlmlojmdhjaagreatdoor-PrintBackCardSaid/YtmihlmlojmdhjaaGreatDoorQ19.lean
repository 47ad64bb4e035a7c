/-
  A statement that the program's parser builds, cell by cell. No condition.
-/
import Derived.Test.YtmihlmlojmdhjaaGreatDoorQ18
namespace Go.Proofs.YtmihlmlojmdhjaaGreatDoor.Prg
open Go.RowKit Tre Prs
open Lex (Wd wdC wdV bs str Turn)
set_option maxRecDepth 100000
set_option linter.unusedSimpArgs false
variable {lo : Nat}
/-- What a call leaves that tells a statement. -/
def EvGS (lo : Nat) (w : World) (g : Nat) (q : List Ts × PS) (e : Ending) (w' : World) : Prop := ∃ (s : St) (r' : PS), e = .returned (stV s) ∧ Ag q [coreS s] r' ∧ StIn w' s ∧ NewS w.heap.size s ∧ RdG lo w' g r' ∧ Turn [g] w w'
/-- What a call leaves that tells a row of statements. -/
def EvGB (lo : Nat) (w : World) (g : Nat) (q : List Ts × PS) (e : Ending) (w' : World) : Prop := ∃ (A : Option Addr) (c : Nat) (l : List St) (r' : PS), e = .returned (.slice A l.length c) ∧ Ag q (l.map coreS) r' ∧ Row 9 stC w' A l ∧ l.length ≤ 200000 ∧ (∀ ad, A = some ad → w.heap.size ≤ ad.block) ∧ (∀ s ∈ l, StIn w' s) ∧ (∀ s ∈ l, NewS w.heap.size s) ∧ RdG lo w' g r' ∧ Turn [g] w w'
/-- The statement in block sb, and the result's cells. -/
structure Bld (lo : Nat) (w W : World) (g sb : Nat) (r : PS) (o : Int) (S : ByteArray) (x : Ex) (A : Option Addr) (c : Nat) (b : List St) (A2 : Option Addr) (c2 : Nat) (b2 : List St) : Prop where
  rd : InG lo W g r
  at_ : W.heap[sb]? = some (.cells #[.int .i64 o, .string S, .int .i64 x.op, .int .i64 x.n, .string x.s, .string x.q, .slice x.a x.x.length x.c, .slice A b.length c, .slice A2 b2.length c2] 47 (0, 0))
  res : W.heap[w.heap.size]? = some (.cells #[.int .i64 0, .string ⟨#[]⟩, .int .i64 0, .int .i64 0, .string ⟨#[]⟩, .string ⟨#[]⟩, .slice none 0 0, .slice none 0 0, .slice none 0 0] 47 (0, 0))
  st : StIn W (.mk o S x A c b A2 c2 b2)
  off : OffS [sb] (.mk o S x A c b A2 c2 b2)
  new : NewS (w.heap.size + 1) (.mk o S x A c b A2 c2 b2)
  turn : Turn [g] w W
  hi : w.heap.size < sb
  g : g < w.heap.size
  lo : lo ≤ w.heap.size
section
variable {w W : World} {g sb : Nat} {r : PS} {o : Int} {S : ByteArray} {x : Ex} {A : Option Addr} {c : Nat} {b : List St} {A2 : Option Addr} {c2 : Nat} {b2 : List St}
theorem Bld.turned {W' : World} {r' : PS} (h : Bld lo w W g sb r o S x A c b A2 c2 b2) (ht : Turn [g] W W') (hr : RdG lo W' g r') : Bld lo w W' g sb r' o S x A c b A2 c2 b2 := by
  have hg := h.g
  have hh := h.hi
  exact ⟨h.rd.step ht hr, (ht.block _ (lt_of_heap h.at_) (by simp; omega)).trans h.at_, (ht.block _ (lt_of_heap h.res) (by simp; omega)).trans h.res, StIn.off h.st (NewS.off h.new (fun k hk => by simp at hk; omega)) ht, h.off, h.new, h.turn.trans ht, hh, hg, h.lo⟩
theorem Bld.below {W' : World} (h : Bld lo w W g sb r o S x A c b A2 c2 b2) (hb : Below W.heap.size W W') : Bld lo w W' g sb r o S x A c b A2 c2 b2 := h.turned ((Turn.refl [g] W).below hb) (h.rd.rd.below hb)
theorem StIn.build (hx : ExIn W x) (hb : Row 9 stC W A b) (hb2 : Row 9 stC W A2 b2) (hl : b.length ≤ most) (hl2 : b2.length ≤ most) (hs : S.size ≤ maxLen) (hi : ∀ s ∈ b, StIn W s) (hi2 : ∀ s ∈ b2, StIn W s) : StIn W (.mk o S x A c b A2 c2 b2) :=
  StIn.mk ⟨hx, hb, hb2, hl, hl2, hs⟩ (fun y hy => hy.elim (fun h => hi y h) (fun h => hi2 y h))
theorem mem_stmt {y : St} (hy : y ∈ flatS (.mk o S x A c b A2 c2 b2)) : y = .mk o S x A c b A2 c2 b2 ∨ (∃ s ∈ b, y ∈ flatS s) ∨ (∃ s ∈ b2, y ∈ flatS s) := by
  rw [flatS_eq] at hy
  rcases List.mem_cons.1 hy with rfl | hy
  · exact .inl rfl
  · rcases List.mem_append.1 hy with hy | hy
    · obtain ⟨s, h1, h2⟩ := List.mem_flatMap.1 hy
      exact .inr (.inl ⟨s, h1, h2⟩)
    · obtain ⟨s, h1, h2⟩ := List.mem_flatMap.1 hy
      exact .inr (.inr ⟨s, h1, h2⟩)
theorem NewS.build {n : Nat} (hx : New n x) (hA : ∀ ad, A = some ad → n ≤ ad.block) (hA2 : ∀ ad, A2 = some ad → n ≤ ad.block) (hi : ∀ s ∈ b, NewS n s) (hi2 : ∀ s ∈ b2, NewS n s) : NewS n (.mk o S x A c b A2 c2 b2) := fun y hy => by
  rcases mem_stmt hy with rfl | ⟨s, h1, h2⟩ | ⟨s, h1, h2⟩
  · exact ⟨hx, hA, hA2⟩
  · exact hi s h1 y h2
  · exact hi2 s h1 y h2
theorem OffS.build {L : List Nat} (hx : Off L x) (hA : 0 < b.length → ∀ k o, A = some ⟨k, o, none⟩ → k ∉ L) (hA2 : 0 < b2.length → ∀ k o, A2 = some ⟨k, o, none⟩ → k ∉ L) (hi : ∀ s ∈ b, OffS L s) (hi2 : ∀ s ∈ b2, OffS L s) : OffS L (.mk o S x A c b A2 c2 b2) := fun y hy => by
  rcases mem_stmt hy with rfl | ⟨s, h1, h2⟩ | ⟨s, h1, h2⟩
  · exact ⟨hx, hA, hA2⟩
  · exact hi s h1 y h2
  · exact hi2 s h1 y h2
theorem Bld.parts (h : Bld lo w W g sb r o S x A c b A2 c2 b2) : ExIn W x ∧ Row 9 stC W A b ∧ Row 9 stC W A2 b2 ∧ b.length ≤ most ∧ b2.length ≤ most ∧ S.size ≤ maxLen ∧ (∀ s ∈ b, StIn W s) ∧ (∀ s ∈ b2, StIn W s) :=
  ⟨h.st.nd.e, h.st.nd.row, h.st.nd.row2, h.st.nd.len, h.st.nd.len2, h.st.nd.s, fun _ hs => h.st.part (.inl hs), fun _ hs => h.st.part (.inr hs)⟩
theorem Bld.offs (h : Bld lo w W g sb r o S x A c b A2 c2 b2) : Off [sb] x ∧ (0 < b.length → ∀ k o, A = some ⟨k, o, none⟩ → k ∉ [sb]) ∧ (0 < b2.length → ∀ k o, A2 = some ⟨k, o, none⟩ → k ∉ [sb]) ∧ (∀ s ∈ b, OffS [sb] s) ∧ (∀ s ∈ b2, OffS [sb] s) := by
  have h0 := h.off _ (mem_flatS _)
  exact ⟨h0.1, h0.2.1, h0.2.2, fun s hs y hy => h.off y (flatS_sub (.inl hs) hy), fun s hs y hy => h.off y (flatS_sub (.inr hs) hy)⟩
theorem Bld.news (h : Bld lo w W g sb r o S x A c b A2 c2 b2) : New (w.heap.size + 1) x ∧ (∀ ad, A = some ad → w.heap.size + 1 ≤ ad.block) ∧ (∀ ad, A2 = some ad → w.heap.size + 1 ≤ ad.block) ∧ (∀ s ∈ b, NewS (w.heap.size + 1) s) ∧ (∀ s ∈ b2, NewS (w.heap.size + 1) s) := by
  have h0 := h.new _ (mem_flatS _)
  exact ⟨h0.1, h0.2.1, h0.2.2, fun s hs y hy => h.new y (flatS_sub (.inl hs) hy), fun s hs y hy => h.new y (flatS_sub (.inr hs) hy)⟩
/-- An expression that was told is stored. -/
theorem Bld.setE {W2 : World} {r' : PS} {y : Ex} (h : Bld lo w W g sb r o S x A c b A2 c2 b2) (hy2 : ExIn W2 y) (hy3 : New W.heap.size y) (hr : RdG lo W2 g r') (ht : Turn [g] W W2) :
    Bld lo w (((((W2.setCell ⟨sb, 2, none⟩ (.int .i64 y.op)).setCell ⟨sb, 3, none⟩ (.int .i64 y.n)).setCell ⟨sb, 4, none⟩ (.string y.s)).setCell ⟨sb, 5, none⟩ (.string y.q)).setCell ⟨sb, 6, none⟩ (.slice y.a y.x.length y.c)) g sb r' o S y A c b A2 c2 b2 := by
  have hg := h.g
  have hh := h.hi
  have hsb := lt_of_heap h.at_
  have h2 := h.turned ht hr
  obtain ⟨_, p2, p3, p4, p5, p6, p7, p8⟩ := h2.parts
  obtain ⟨_, q2, q3, q4, q5⟩ := h2.offs
  obtain ⟨_, n2, n3, n4, n5⟩ := h2.news
  have T : Turn [sb] W2 (((((W2.setCell ⟨sb, 2, none⟩ (.int .i64 y.op)).setCell ⟨sb, 3, none⟩ (.int .i64 y.n)).setCell ⟨sb, 4, none⟩ (.string y.s)).setCell ⟨sb, 5, none⟩ (.string y.q)).setCell ⟨sb, 6, none⟩ (.slice y.a y.x.length y.c)) := (((((Turn.refl _ W2).setCell (.inl (by simp)) _).setCell (.inl (by simp)) _).setCell (.inl (by simp)) _).setCell (.inl (by simp)) _).setCell (.inl (by simp)) _
  have hoff : OffS [sb] (.mk o S y A c b A2 c2 b2) := OffS.build (New.off hy3 (fun k hk => by simp at hk; omega)) q2 q3 q4 q5
  refine ⟨h2.rd.but T (by have := h.lo; omega), ?_, (T.block _ (lt_of_heap h2.res) (by simp; omega)).trans h2.res, StIn.off (StIn.build hy2 p2 p3 p4 p5 p6 p7 p8) hoff T, hoff, NewS.build (hy3.mono (by omega)) n2 n3 n4 n5, h2.turn.then_ T (fun k hk => by simp at hk; subst hk; exact .inr (by omega)), hh, hg, h.lo⟩
  have e := set_at (set_at (set_at (set_at (set_at h2.at_ 2 (.int .i64 y.op)) 3 (.int .i64 y.n)) 4 (.string y.s)) 5 (.string y.q)) 6 (.slice y.a y.x.length y.c)
  rw [e]
  simp only [List.setIfInBounds_toArray, List.set_cons_zero, List.set_cons_succ]
/-- A row of statements that was told is stored. -/
theorem Bld.setB {W2 : World} {r' : PS} {B : Option Addr} {d : Nat} {l : List St} (h : Bld lo w W g sb r o S x A c b A2 c2 b2) (hrow : Row 9 stC W2 B l) (hlen : l.length ≤ 200000) (hnew : ∀ ad, B = some ad → W.heap.size ≤ ad.block) (hin : ∀ s ∈ l, StIn W2 s) (hn : ∀ s ∈ l, NewS W.heap.size s) (hr : RdG lo W2 g r') (ht : Turn [g] W W2) :
    Bld lo w (W2.setCell ⟨sb, 7, none⟩ (.slice B l.length d)) g sb r' o S x B d l A2 c2 b2 := by
  have hg := h.g
  have hh := h.hi
  have hsb := lt_of_heap h.at_
  have h2 := h.turned ht hr
  obtain ⟨p1, _, p3, _, p5, p6, _, p8⟩ := h2.parts
  obtain ⟨q1, _, q3, _, q5⟩ := h2.offs
  obtain ⟨n1, _, n3, _, n5⟩ := h2.news
  have T : Turn [sb] W2 (W2.setCell ⟨sb, 7, none⟩ (.slice B l.length d)) := (Turn.refl _ W2).setCell (.inl (by simp)) _
  have hoff : OffS [sb] (.mk o S x B d l A2 c2 b2) := OffS.build q1 (fun _ k o e => by have := hnew _ e; simp at this ⊢; omega) q3 (fun s hs => (hn s hs).off (fun k hk => by simp at hk; omega)) q5
  refine ⟨h2.rd.but T (by have := h.lo; omega), ?_, (T.block _ (lt_of_heap h2.res) (by simp; omega)).trans h2.res, StIn.off (StIn.build p1 hrow p3 (by unfold most; omega) p5 p6 hin p8) hoff T, hoff, NewS.build n1 (fun ad e => by have := hnew _ e; omega) n3 (fun s hs => (hn s hs).mono (by omega)) n5, h2.turn.then_ T (fun k hk => by simp at hk; subst hk; exact .inr (by omega)), hh, hg, h.lo⟩
  have e := set_at h2.at_ 7 (.slice B l.length d)
  rw [e]
  simp only [List.setIfInBounds_toArray, List.set_cons_zero, List.set_cons_succ]
theorem Bld.setB2 {W2 : World} {r' : PS} {B : Option Addr} {d : Nat} {l : List St} (h : Bld lo w W g sb r o S x A c b A2 c2 b2) (hrow : Row 9 stC W2 B l) (hlen : l.length ≤ 200000) (hnew : ∀ ad, B = some ad → W.heap.size ≤ ad.block) (hin : ∀ s ∈ l, StIn W2 s) (hn : ∀ s ∈ l, NewS W.heap.size s) (hr : RdG lo W2 g r') (ht : Turn [g] W W2) :
    Bld lo w (W2.setCell ⟨sb, 8, none⟩ (.slice B l.length d)) g sb r' o S x A c b B d l := by
  have hg := h.g
  have hh := h.hi
  have hsb := lt_of_heap h.at_
  have h2 := h.turned ht hr
  obtain ⟨p1, p2, _, p4, _, p6, p7, _⟩ := h2.parts
  obtain ⟨q1, q2, _, q4, _⟩ := h2.offs
  obtain ⟨n1, n2, _, n4, _⟩ := h2.news
  have T : Turn [sb] W2 (W2.setCell ⟨sb, 8, none⟩ (.slice B l.length d)) := (Turn.refl _ W2).setCell (.inl (by simp)) _
  have hoff : OffS [sb] (.mk o S x A c b B d l) := OffS.build q1 q2 (fun _ k o e => by have := hnew _ e; simp at this ⊢; omega) q4 (fun s hs => (hn s hs).off (fun k hk => by simp at hk; omega))
  refine ⟨h2.rd.but T (by have := h.lo; omega), ?_, (T.block _ (lt_of_heap h2.res) (by simp; omega)).trans h2.res, StIn.off (StIn.build p1 p2 hrow p4 (by unfold most; omega) p6 p7 hin) hoff T, hoff, NewS.build n1 n2 (fun ad e => by have := hnew _ e; omega) n4 (fun s hs => (hn s hs).mono (by omega)), h2.turn.then_ T (fun k hk => by simp at hk; subst hk; exact .inr (by omega)), hh, hg, h.lo⟩
  have e := set_at h2.at_ 8 (.slice B l.length d)
  rw [e]
  simp only [List.setIfInBounds_toArray, List.set_cons_zero, List.set_cons_succ]
theorem stV_mk : stV (.mk o S x A c b A2 c2 b2) = .agg #[.int .i64 o, .string S, .int .i64 x.op, .int .i64 x.n, .string x.s, .string x.q, .slice x.a x.x.length x.c, .slice A b.length c, .slice A2 b2.length c2] := by
  obtain ⟨o, n, s, q, a, c, xs⟩ := x
  rfl
theorem coreS_mk : coreS (.mk o S x A c b A2 c2 b2) = .mk o S.data.toList (core x) (b.map coreS) (b2.map coreS) := by
  rw [coreS_eq]
  rfl
/-- The statement is through. -/
theorem Bld.done {W' : World} {q : List Ts × PS} (h : Bld lo w W g sb r o S x A c b A2 c2 b2) (ht : Turn [w.heap.size] W W') (hq : Ag q [.mk o S.data.toList (core x) (b.map coreS) (b2.map coreS)] r) : EvGS lo w g q (.returned (.agg #[.int .i64 o, .string S, .int .i64 x.op, .int .i64 x.n, .string x.s, .string x.q, .slice x.a x.x.length x.c, .slice A b.length c, .slice A2 b2.length c2])) W' :=
  ⟨.mk o S x A c b A2 c2 b2, r, by rw [stV_mk], by rw [coreS_mk]; exact hq, StIn.off h.st (NewS.off h.new (fun k hk => by simp at hk; omega)) ht, h.new.mono (by omega), h.rd.rd.but ht h.lo, h.turn.then_ ht (fun k hk => by simp at hk; subst hk; exact .inr (Nat.le_refl _))⟩
/-- A statement of one expression is laid. -/
theorem Bld.start {W1 : World} (hg : g < w.heap.size) (hlo : lo ≤ w.heap.size) (hr : InG lo W1 g r) (hres : W1.heap[w.heap.size]? = some (.cells #[.int .i64 0, .string ⟨#[]⟩, .int .i64 0, .int .i64 0, .string ⟨#[]⟩, .string ⟨#[]⟩, .slice none 0 0, .slice none 0 0, .slice none 0 0] 47 (0, 0))) (ht : Turn [g] w W1) (hx : ExIn W1 x) (hn : New (w.heap.size + 1) x) (hs : S.size ≤ maxLen) :
    Bld lo w (W1.alloc (.cells #[.int .i64 o, .string S, .int .i64 x.op, .int .i64 x.n, .string x.s, .string x.q, .slice x.a x.x.length x.c, .slice none 0 0, .slice none 0 0] 47)) g W1.heap.size r o S x none 0 [] none 0 [] := by
  have hb := ball_new W1 #[.int .i64 o, .string S, .int .i64 x.op, .int .i64 x.n, .string x.s, .string x.q, .slice x.a x.x.length x.c, .slice none 0 0, .slice none 0 0] 47
  have hsz := lt_of_heap hres
  refine ⟨hr.below hb, new_at W1 _ _, (hb.block _ hsz).trans hres, StIn.build (Tre.ExIn.below hx hb) (Row.nil _ _ _ _) (Row.nil _ _ _ _) (by simp [most]) (by simp [most]) hs (fun s hs => by simp at hs) (fun s hs => by simp at hs), OffS.build (ExIn.fresh hx) (fun h => by simp at h) (fun h => by simp at h) (fun s hs => by simp at hs) (fun s hs => by simp at hs), NewS.build hn (fun ad e => by cases e) (fun ad e => by cases e) (fun s hs => by simp at hs) (fun s hs => by simp at hs), ht.below hb, hsz, hg, hlo⟩
end
end Go.Proofs.YtmihlmlojmdhjaaGreatDoor.Prg
/- The program's statements that return, and its loops. Conditions: the reader is known; what they call tells what the plain grammar says. -/
namespace Go.Proofs.YtmihlmlojmdhjaaGreatDoor.Prg
open Go.RowKit Tre Prs
open Lex (Wd wdC wdV bs str Turn)
set_option maxRecDepth 100000
set_option linter.unusedSimpArgs false
variable {lo : Nat}
set_option maxHeartbeats 8000000 in
theorem back_semi (w : World) (g : Nat) (r : PS) (q : List Ts × PS) (h : InG lo w g r) (i1 : isW r [59] = true) (HQ : Ag q [.mk 5 [] nilT [] []] r) :
    Calls Tryz.prog 142 #[.pointer (some ⟨g, 0, none⟩)] w (EvGS lo w g q) := by
  have A1 := Lib.hid (fun w' (h' : RdG lo w' g r) => at_yes h' i1)
  have HQQ := Lib.hid HQ
  clear i1 HQ
  have HG := Lib.hid h.rd.lt
  have HLO := Lib.hid h.rd.wlo
  have HB := Lib.hid (ball_new w #[.int .i64 0, .string ⟨#[]⟩, .int .i64 0, .int .i64 0, .string ⟨#[]⟩, .string ⟨#[]⟩, .slice none 0 0, .slice none 0 0, .slice none 0 0] 47)
  have HN := Lib.hid (new_at w #[.int .i64 0, .string ⟨#[]⟩, .int .i64 0, .int .i64 0, .string ⟨#[]⟩, .string ⟨#[]⟩, .slice none 0 0, .slice none 0 0, .slice none 0 0] 47)
  have HI := Lib.hid (h.below HB.out)
  have HT0 : Hid (Turn [g] w (w.alloc (.cells #[.int .i64 0, .string ⟨#[]⟩, .int .i64 0, .int .i64 0, .string ⟨#[]⟩, .string ⟨#[]⟩, .slice none 0 0, .slice none 0 0, .slice none 0 0] 47))) := Lib.hid ((Turn.refl [g] w).below HB.out)
  clear h
  go_enter Tryz.func142, Tryz.ntmps142
  go_wp2_with fail
  have B0 : Hid (Bld lo w ((w.alloc (.cells #[.int .i64 0, .string ⟨#[]⟩, .int .i64 0, .int .i64 0, .string ⟨#[]⟩, .string ⟨#[]⟩, .slice none 0 0, .slice none 0 0, .slice none 0 0] 47)).alloc (.cells #[.int .i64 5, .string ⟨#[]⟩, .int .i64 0, .int .i64 0, .string ⟨#[]⟩, .string ⟨#[]⟩, .slice none 0 0, .slice none 0 0, .slice none 0 0] 47)) g (w.alloc (.cells #[.int .i64 0, .string ⟨#[]⟩, .int .i64 0, .int .i64 0, .string ⟨#[]⟩, .string ⟨#[]⟩, .slice none 0 0, .slice none 0 0, .slice none 0 0] 47)).heap.size r 5 ⟨#[]⟩ nilX none 0 [] none 0 []) := Lib.hid (Bld.start HG.out HLO.out HI.out HN.out HT0.out (leaf_in _ 0 0 ⟨#[]⟩ (by unfold maxLen; simp [ByteArray.size])) (leaf_new _ 0 0 ⟨#[]⟩) (by show (⟨#[]⟩ : ByteArray).size ≤ maxLen; unfold maxLen; simp [ByteArray.size]))
  have hsz : (w.alloc (.cells #[.int .i64 0, .string ⟨#[]⟩, .int .i64 0, .int .i64 0, .string ⟨#[]⟩, .string ⟨#[]⟩, .slice none 0 0, .slice none 0 0, .slice none 0 0] 47)).heap.size = w.heap.size + 1 := by simp
  rw [hsz] at B0
  clear hsz HN HB HI HT0
  refine (A1.out _ B0.out.rd.rd).mono ?_
  rintro e w2 ⟨rfl, hb2⟩
  have B2 := Lib.hid (B0.out.below hb2)
  clear hb2 B0
  obtain ⟨x0, x1, x2, x3, x4, x5, x6, x7, x8⟩ := Prs.nine_at B2.out.at_
  try simp only [List.length_nil, nilX, Ex.op, Ex.n, Ex.s, Ex.q, Ex.a, Ex.x, Ex.c] at x2 x3 x4 x5 x6 x7 x8
  obtain ⟨y0, y1, y2, y3, y4, y5, y6, y7, y8⟩ := Prs.nine_at B2.out.res
  have f0 := free_at B2.out.res 0
  have f1 := free_at B2.out.res 1
  have f2 := free_at B2.out.res 2
  have f3 := free_at B2.out.res 3
  have f4 := free_at B2.out.res 4
  have f5 := free_at B2.out.res 5
  have f6 := free_at B2.out.res 6
  have f7 := free_at B2.out.res 7
  have f8 := free_at B2.out.res 8
  go_wp2_with fail
  have HT := Lib.hid (turn9 w2 w.heap.size (.int .i64 5) (.string ⟨#[]⟩) (.int .i64 0) (.int .i64 0) (.string ⟨#[]⟩) (.string ⟨#[]⟩) (.slice none 0 0) (.slice none 0 0) (.slice none 0 0))
  refine bodyPost_ret (results_stmt rfl _ _ w.heap.size _ _ _ _ _ _ _ _ _ rfl (set9 B2.out.res)) rfl ?_
  exact B2.out.done HT.out (by have := HQQ.out; rw [show core nilX = nilT by rw [core_eq]; rfl]; exact this)
set_option maxHeartbeats 8000000 in
theorem back_brace (w : World) (g : Nat) (r : PS) (q : List Ts × PS) (h : InG lo w g r) (i1 : isW r [59] = false) (i2 : isW r [125] = true) (HQ : Ag q [.mk 5 [] nilT [] []] r) :
    Calls Tryz.prog 142 #[.pointer (some ⟨g, 0, none⟩)] w (EvGS lo w g q) := by
  have A1 := Lib.hid (fun w' (h' : RdG lo w' g r) => at_no h' i1)
  have A2 := Lib.hid (fun w' (h' : RdG lo w' g r) => at_yes h' i2)
  have HQQ := Lib.hid HQ
  clear i1 HQ i2
  have HG := Lib.hid h.rd.lt
  have HLO := Lib.hid h.rd.wlo
  have HB := Lib.hid (ball_new w #[.int .i64 0, .string ⟨#[]⟩, .int .i64 0, .int .i64 0, .string ⟨#[]⟩, .string ⟨#[]⟩, .slice none 0 0, .slice none 0 0, .slice none 0 0] 47)
  have HN := Lib.hid (new_at w #[.int .i64 0, .string ⟨#[]⟩, .int .i64 0, .int .i64 0, .string ⟨#[]⟩, .string ⟨#[]⟩, .slice none 0 0, .slice none 0 0, .slice none 0 0] 47)
  have HI := Lib.hid (h.below HB.out)
  have HT0 : Hid (Turn [g] w (w.alloc (.cells #[.int .i64 0, .string ⟨#[]⟩, .int .i64 0, .int .i64 0, .string ⟨#[]⟩, .string ⟨#[]⟩, .slice none 0 0, .slice none 0 0, .slice none 0 0] 47))) := Lib.hid ((Turn.refl [g] w).below HB.out)
  clear h
  go_enter Tryz.func142, Tryz.ntmps142
  go_wp2_with fail
  have B0 : Hid (Bld lo w ((w.alloc (.cells #[.int .i64 0, .string ⟨#[]⟩, .int .i64 0, .int .i64 0, .string ⟨#[]⟩, .string ⟨#[]⟩, .slice none 0 0, .slice none 0 0, .slice none 0 0] 47)).alloc (.cells #[.int .i64 5, .string ⟨#[]⟩, .int .i64 0, .int .i64 0, .string ⟨#[]⟩, .string ⟨#[]⟩, .slice none 0 0, .slice none 0 0, .slice none 0 0] 47)) g (w.alloc (.cells #[.int .i64 0, .string ⟨#[]⟩, .int .i64 0, .int .i64 0, .string ⟨#[]⟩, .string ⟨#[]⟩, .slice none 0 0, .slice none 0 0, .slice none 0 0] 47)).heap.size r 5 ⟨#[]⟩ nilX none 0 [] none 0 []) := Lib.hid (Bld.start HG.out HLO.out HI.out HN.out HT0.out (leaf_in _ 0 0 ⟨#[]⟩ (by unfold maxLen; simp [ByteArray.size])) (leaf_new _ 0 0 ⟨#[]⟩) (by show (⟨#[]⟩ : ByteArray).size ≤ maxLen; unfold maxLen; simp [ByteArray.size]))
  have hsz : (w.alloc (.cells #[.int .i64 0, .string ⟨#[]⟩, .int .i64 0, .int .i64 0, .string ⟨#[]⟩, .string ⟨#[]⟩, .slice none 0 0, .slice none 0 0, .slice none 0 0] 47)).heap.size = w.heap.size + 1 := by simp
  rw [hsz] at B0
  clear hsz HN HB HI HT0
  refine (A1.out _ B0.out.rd.rd).mono ?_
  rintro e w2 ⟨rfl, hb2⟩
  have B2 := Lib.hid (B0.out.below hb2)
  clear hb2 B0
  go_wp2_with fail
  refine (A2.out _ B2.out.rd.rd).mono ?_
  rintro e w3 ⟨rfl, hb3⟩
  have B3 := Lib.hid (B2.out.below hb3)
  clear hb3 B2
  obtain ⟨x0, x1, x2, x3, x4, x5, x6, x7, x8⟩ := Prs.nine_at B3.out.at_
  try simp only [List.length_nil, nilX, Ex.op, Ex.n, Ex.s, Ex.q, Ex.a, Ex.x, Ex.c] at x2 x3 x4 x5 x6 x7 x8
  obtain ⟨y0, y1, y2, y3, y4, y5, y6, y7, y8⟩ := Prs.nine_at B3.out.res
  have f0 := free_at B3.out.res 0
  have f1 := free_at B3.out.res 1
  have f2 := free_at B3.out.res 2
  have f3 := free_at B3.out.res 3
  have f4 := free_at B3.out.res 4
  have f5 := free_at B3.out.res 5
  have f6 := free_at B3.out.res 6
  have f7 := free_at B3.out.res 7
  have f8 := free_at B3.out.res 8
  go_wp2_with fail
  have HT := Lib.hid (turn9 w3 w.heap.size (.int .i64 5) (.string ⟨#[]⟩) (.int .i64 0) (.int .i64 0) (.string ⟨#[]⟩) (.string ⟨#[]⟩) (.slice none 0 0) (.slice none 0 0) (.slice none 0 0))
  refine bodyPost_ret (results_stmt rfl _ _ w.heap.size _ _ _ _ _ _ _ _ _ rfl (set9 B3.out.res)) rfl ?_
  exact B3.out.done HT.out (by have := HQQ.out; rw [show core nilX = nilT by rw [core_eq]; rfl]; exact this)
set_option maxHeartbeats 8000000 in
theorem back_expr (w : World) (g : Nat) (r : PS) (q : List Ts × PS) (h : InG lo w g r) (i1 : isW r [59] = false) (i2 : isW r [125] = false) (HQ : ∀ (x : Tx) (r1 : PS), Ag (tell (.row 0) r) x r1 → Ag q [.mk 5 [] x [] []] r1) :
    Calls Tryz.prog 142 #[.pointer (some ⟨g, 0, none⟩)] w (EvGS lo w g q) := by
  have A1 := Lib.hid (fun w' (h' : RdG lo w' g r) => at_no h' i1)
  have A2 := Lib.hid (fun w' (h' : RdG lo w' g r) => at_no h' i2)
  have HQQ := Lib.hid HQ
  clear i1 HQ i2
  have HG := Lib.hid h.rd.lt
  have HLO := Lib.hid h.rd.wlo
  have HB := Lib.hid (ball_new w #[.int .i64 0, .string ⟨#[]⟩, .int .i64 0, .int .i64 0, .string ⟨#[]⟩, .string ⟨#[]⟩, .slice none 0 0, .slice none 0 0, .slice none 0 0] 47)
  have HN := Lib.hid (new_at w #[.int .i64 0, .string ⟨#[]⟩, .int .i64 0, .int .i64 0, .string ⟨#[]⟩, .string ⟨#[]⟩, .slice none 0 0, .slice none 0 0, .slice none 0 0] 47)
  have HI := Lib.hid (h.below HB.out)
  have HT0 : Hid (Turn [g] w (w.alloc (.cells #[.int .i64 0, .string ⟨#[]⟩, .int .i64 0, .int .i64 0, .string ⟨#[]⟩, .string ⟨#[]⟩, .slice none 0 0, .slice none 0 0, .slice none 0 0] 47))) := Lib.hid ((Turn.refl [g] w).below HB.out)
  clear h
  go_enter Tryz.func142, Tryz.ntmps142
  go_wp2_with fail
  have B0 : Hid (Bld lo w ((w.alloc (.cells #[.int .i64 0, .string ⟨#[]⟩, .int .i64 0, .int .i64 0, .string ⟨#[]⟩, .string ⟨#[]⟩, .slice none 0 0, .slice none 0 0, .slice none 0 0] 47)).alloc (.cells #[.int .i64 5, .string ⟨#[]⟩, .int .i64 0, .int .i64 0, .string ⟨#[]⟩, .string ⟨#[]⟩, .slice none 0 0, .slice none 0 0, .slice none 0 0] 47)) g (w.alloc (.cells #[.int .i64 0, .string ⟨#[]⟩, .int .i64 0, .int .i64 0, .string ⟨#[]⟩, .string ⟨#[]⟩, .slice none 0 0, .slice none 0 0, .slice none 0 0] 47)).heap.size r 5 ⟨#[]⟩ nilX none 0 [] none 0 []) := Lib.hid (Bld.start HG.out HLO.out HI.out HN.out HT0.out (leaf_in _ 0 0 ⟨#[]⟩ (by unfold maxLen; simp [ByteArray.size])) (leaf_new _ 0 0 ⟨#[]⟩) (by show (⟨#[]⟩ : ByteArray).size ≤ maxLen; unfold maxLen; simp [ByteArray.size]))
  have hsz : (w.alloc (.cells #[.int .i64 0, .string ⟨#[]⟩, .int .i64 0, .int .i64 0, .string ⟨#[]⟩, .string ⟨#[]⟩, .slice none 0 0, .slice none 0 0, .slice none 0 0] 47)).heap.size = w.heap.size + 1 := by simp
  rw [hsz] at B0
  clear hsz HN HB HI HT0
  refine (A1.out _ B0.out.rd.rd).mono ?_
  rintro e w2 ⟨rfl, hb2⟩
  have B2 := Lib.hid (B0.out.below hb2)
  clear hb2 B0
  go_wp2_with fail
  refine (A2.out _ B2.out.rd.rd).mono ?_
  rintro e w3 ⟨rfl, hb3⟩
  have B3 := Lib.hid (B2.out.below hb3)
  clear hb3 B2
  go_wp2_with fail
  have CX := Lib.hid (exprG w3 g r B3.out.rd)
  refine CX.out.mono ?_
  rintro e w4 ⟨x, r', rfl, hx1, hx2, hx3, hx4, hx5⟩
  rw [exV_eq]
  have hB4 := B3.out.turned hx5 hx4
  have B5 := Lib.hid (B3.out.setE hx2 hx3 hx4 hx5)
  have HX1 := Lib.hid hx1
  have HB4 := Lib.hid hB4
  clear hx1 hx2 hx3 hx4 hx5 hB4 B3 CX
  have e2 := free_at HB4.out.at_ 2
  have e3 := free_at HB4.out.at_ 3
  have e4 := free_at HB4.out.at_ 4
  have e5 := free_at HB4.out.at_ 5
  have e6 := free_at HB4.out.at_ 6
  obtain ⟨z0, z1, z2, z3, z4, z5, z6, z7, z8⟩ := Prs.nine_at HB4.out.at_
  try simp only [List.length_nil, nilX, Ex.op, Ex.n, Ex.s, Ex.q, Ex.a, Ex.x, Ex.c] at z2 z3 z4 z5 z6 z7 z8
  obtain ⟨x0, x1, x2, x3, x4, x5, x6, x7, x8⟩ := Prs.nine_at B5.out.at_
  try simp only [List.length_nil] at x2 x3 x4 x5 x6 x7 x8
  obtain ⟨y0, y1, y2, y3, y4, y5, y6, y7, y8⟩ := Prs.nine_at HB4.out.res
  have f0 := free_at HB4.out.res 0
  have f1 := free_at HB4.out.res 1
  have f2 := free_at HB4.out.res 2
  have f3 := free_at HB4.out.res 3
  have f4 := free_at HB4.out.res 4
  have f5 := free_at HB4.out.res 5
  have f6 := free_at HB4.out.res 6
  have f7 := free_at HB4.out.res 7
  have f8 := free_at HB4.out.res 8
  have r0 := HB4.out.hi
  have rs := HB4.out.g
  go_wp2_with fail
  have HT := Lib.hid (turn9 (((((w4.setCell ⟨(w.heap.size + 1), 2, none⟩ (.int .i64 x.op)).setCell ⟨(w.heap.size + 1), 3, none⟩ (.int .i64 x.n)).setCell ⟨(w.heap.size + 1), 4, none⟩ (.string x.s)).setCell ⟨(w.heap.size + 1), 5, none⟩ (.string x.q)).setCell ⟨(w.heap.size + 1), 6, none⟩ (.slice x.a x.x.length x.c)) w.heap.size (.int .i64 5) (.string ⟨#[]⟩) (.int .i64 x.op) (.int .i64 x.n) (.string x.s) (.string x.q) (.slice x.a x.x.length x.c) (.slice none 0 0) (.slice none 0 0))
  refine bodyPost_ret (results_stmt rfl _ _ w.heap.size _ _ _ _ _ _ _ _ _ rfl (set9 B5.out.res)) rfl ?_
  exact B5.out.done HT.out (HQQ.out _ _ HX1.out)
end Go.Proofs.YtmihlmlojmdhjaaGreatDoor.Prg
/- The program's loops and choices. Conditions: the reader is known; what they call tells what the plain grammar says. -/
namespace Go.Proofs.YtmihlmlojmdhjaaGreatDoor.Prg
open Go.RowKit Tre Prs
open Lex (Wd wdC wdV bs str Turn)
set_option maxRecDepth 100000
set_option linter.unusedSimpArgs false
variable {lo : Nat}
def oneX : Ex := .mk 2 1 ⟨#[]⟩ ⟨#[]⟩ none 0 []
theorem core_one : core oneX = .mk 2 1 [] [] [] := by rw [core_eq]; rfl
theorem nil_max : (⟨#[]⟩ : ByteArray).size ≤ maxLen := by unfold maxLen; simp [ByteArray.size]
theorem row_one {w : World} {b : Nat} {s : St} (h : w.heap[b]? = some (.cells (stC s).toArray 47 (0, 0))) : Row 9 stC w (some ⟨b, 0, none⟩) [s] := fun _ => by
  refine ⟨b, 0, rfl, lt_of_heap h, fun j x hx r u hu => ?_⟩
  cases j with
  | zero =>
    obtain rfl : s = x := by simpa using hx
    rw [cell_at h]
    simpa using hu
  | succ j => simp at hx
set_option maxHeartbeats 8000000 in
theorem loop_none (w : World) (g : Nat) (r : PS) (q : List Ts × PS) (h : InG lo w g r) (i1 : isW r [123] = true) (CB : ∀ w' r1, InG lo w' g r1 → lenB r1 ≤ lenB r → Hid (Calls Tryz.prog 119 #[.pointer (some ⟨g, 0, none⟩)] w' (EvGB lo w' g (tellS .block r1))))
    (HQ : ∀ (x : Tx) (r1 : PS) (b : List Ts) (r2 : PS), Ag (forX r) x r1 → Ag (tellS .block r1) b r2 → Ag q [.mk 4 [] x b []] r2) :
    Calls Tryz.prog 141 #[.pointer (some ⟨g, 0, none⟩)] w (EvGS lo w g q) := by
  have A1 := Lib.hid (fun w' (h' : RdG lo w' g r) => at_yes h' i1)
  have CT := Lib.hid (fun w' => truth_any w' 1)
  have HQQ := Lib.hid HQ
  have HCB := Lib.hid CB
  have HFX := Lib.hid (ag_forn i1)
  clear i1 HQ CB
  have HG := Lib.hid h.rd.lt
  have HLO := Lib.hid h.rd.wlo
  have HB := Lib.hid (ball_new w #[.int .i64 0, .string ⟨#[]⟩, .int .i64 0, .int .i64 0, .string ⟨#[]⟩, .string ⟨#[]⟩, .slice none 0 0, .slice none 0 0, .slice none 0 0] 47)
  have HN := Lib.hid (new_at w #[.int .i64 0, .string ⟨#[]⟩, .int .i64 0, .int .i64 0, .string ⟨#[]⟩, .string ⟨#[]⟩, .slice none 0 0, .slice none 0 0, .slice none 0 0] 47)
  have HI := Lib.hid (h.below HB.out)
  have HT0 : Hid (Turn [g] w (w.alloc (.cells #[.int .i64 0, .string ⟨#[]⟩, .int .i64 0, .int .i64 0, .string ⟨#[]⟩, .string ⟨#[]⟩, .slice none 0 0, .slice none 0 0, .slice none 0 0] 47))) := Lib.hid ((Turn.refl [g] w).below HB.out)
  clear h
  go_enter Tryz.func141, Tryz.ntmps141
  go_wp2_with fail
  refine (CT.out _).mono ?_
  rintro e w1 ⟨rfl, hb1⟩
  have B0 : Hid (Bld lo w (w1.alloc (.cells #[.int .i64 4, .string ⟨#[]⟩, .int .i64 2, .int .i64 1, .string ⟨#[]⟩, .string ⟨#[]⟩, .slice none 0 0, .slice none 0 0, .slice none 0 0] 47)) g w1.heap.size r 4 ⟨#[]⟩ oneX none 0 [] none 0 []) := Lib.hid (Bld.start HG.out HLO.out (HI.out.below hb1) ((hb1.block _ (lt_of_heap HN.out)).trans HN.out) (HT0.out.below hb1) (leaf_in _ 2 1 ⟨#[]⟩ nil_max) (leaf_new _ 2 1 ⟨#[]⟩) nil_max)
  clear hb1 HN HB HI HT0 CT
  go_wp2_with fail
  generalize w1.heap.size = sb at *
  refine (A1.out _ B0.out.rd.rd).mono ?_
  rintro e w2 ⟨rfl, hb2⟩
  have B2 := Lib.hid (B0.out.below hb2)
  clear hb2 B0
  go_wp2_with fail
  have HF := HFX
  have CBW := HCB.out w2 r B2.out.rd (Nat.le_refl _)
  have B5 := B2
  refine CBW.out.mono ?_
  rintro e w6 ⟨A7, c7, l7, r7, rfl, ha, hrow, hlen, hnew, hin, hnn, hr, ht⟩
  have HA7 := Lib.hid ha
  have B7 := Lib.hid (B5.out.setB (d := c7) hrow hlen hnew hin hnn hr ht)
  have B7o := Lib.hid (B5.out.turned ht hr)
  clear ha hrow hlen hnew hin hnn hr ht
  have e7 := free_at B7o.out.at_ 7
  obtain ⟨z0, z1, z2, z3, z4, z5, z6, z7, z8⟩ := Prs.nine_at B7o.out.at_
  obtain ⟨x0, x1, x2, x3, x4, x5, x6, x7, x8⟩ := Prs.nine_at B7.out.at_
  try simp only [List.length_nil] at x2 x3 x4 x5 x6 x7 x8
  simp only [oneX, Ex.op, Ex.n, Ex.s, Ex.q, Ex.a, Ex.x, Ex.c, List.length_nil] at z2 z3 z4 z5 z6 z7 z8 x2 x3 x4 x5 x6
  obtain ⟨y0, y1, y2, y3, y4, y5, y6, y7, y8⟩ := Prs.nine_at B7o.out.res
  have f0 := free_at B7o.out.res 0
  have f1 := free_at B7o.out.res 1
  have f2 := free_at B7o.out.res 2
  have f3 := free_at B7o.out.res 3
  have f4 := free_at B7o.out.res 4
  have f5 := free_at B7o.out.res 5
  have f6 := free_at B7o.out.res 6
  have f7 := free_at B7o.out.res 7
  have f8 := free_at B7o.out.res 8
  have rr := B7o.out.hi
  go_wp2_with fail
  have HT := Lib.hid (turn9 (w6.setCell ⟨sb, 7, none⟩ (.slice A7 l7.length c7)) w.heap.size (.int .i64 4) (.string ⟨#[]⟩) (.int .i64 2) (.int .i64 1) (.string ⟨#[]⟩) (.string ⟨#[]⟩) (.slice none 0 0) (.slice A7 l7.length c7) (.slice none 0 0))
  refine bodyPost_ret (results_stmt rfl _ _ w.heap.size _ _ _ _ _ _ _ _ _ rfl (set9 B7.out.res)) rfl ?_
  exact B7.out.done HT.out (by rw [core_one]; exact HQQ.out _ _ _ _ HF.out HA7.out)
set_option maxHeartbeats 8000000 in
theorem loop_expr (w : World) (g : Nat) (r : PS) (q : List Ts × PS) (h : InG lo w g r) (i1 : isW r [123] = false) (CB : ∀ w' r1, InG lo w' g r1 → lenB r1 ≤ lenB r → Hid (Calls Tryz.prog 119 #[.pointer (some ⟨g, 0, none⟩)] w' (EvGB lo w' g (tellS .block r1))))
    (HQ : ∀ (x : Tx) (r1 : PS) (b : List Ts) (r2 : PS), Ag (forX r) x r1 → Ag (tellS .block r1) b r2 → Ag q [.mk 4 [] x b []] r2) :
    Calls Tryz.prog 141 #[.pointer (some ⟨g, 0, none⟩)] w (EvGS lo w g q) := by
  have A1 := Lib.hid (fun w' (h' : RdG lo w' g r) => at_no h' i1)
  have CT := Lib.hid (fun w' => truth_any w' 1)
  have HQQ := Lib.hid HQ
  have HCB := Lib.hid CB
  have HFX := Lib.hid (fun (x : Tx) (r1 : PS) (h : Ag (tell (.row 0) r) x r1) => ag_forx i1 h)
  clear i1 HQ CB
  have HG := Lib.hid h.rd.lt
  have HLO := Lib.hid h.rd.wlo
  have HB := Lib.hid (ball_new w #[.int .i64 0, .string ⟨#[]⟩, .int .i64 0, .int .i64 0, .string ⟨#[]⟩, .string ⟨#[]⟩, .slice none 0 0, .slice none 0 0, .slice none 0 0] 47)
  have HN := Lib.hid (new_at w #[.int .i64 0, .string ⟨#[]⟩, .int .i64 0, .int .i64 0, .string ⟨#[]⟩, .string ⟨#[]⟩, .slice none 0 0, .slice none 0 0, .slice none 0 0] 47)
  have HI := Lib.hid (h.below HB.out)
  have HT0 : Hid (Turn [g] w (w.alloc (.cells #[.int .i64 0, .string ⟨#[]⟩, .int .i64 0, .int .i64 0, .string ⟨#[]⟩, .string ⟨#[]⟩, .slice none 0 0, .slice none 0 0, .slice none 0 0] 47))) := Lib.hid ((Turn.refl [g] w).below HB.out)
  clear h
  go_enter Tryz.func141, Tryz.ntmps141
  go_wp2_with fail
  refine (CT.out _).mono ?_
  rintro e w1 ⟨rfl, hb1⟩
  have B0 : Hid (Bld lo w (w1.alloc (.cells #[.int .i64 4, .string ⟨#[]⟩, .int .i64 2, .int .i64 1, .string ⟨#[]⟩, .string ⟨#[]⟩, .slice none 0 0, .slice none 0 0, .slice none 0 0] 47)) g w1.heap.size r 4 ⟨#[]⟩ oneX none 0 [] none 0 []) := Lib.hid (Bld.start HG.out HLO.out (HI.out.below hb1) ((hb1.block _ (lt_of_heap HN.out)).trans HN.out) (HT0.out.below hb1) (leaf_in _ 2 1 ⟨#[]⟩ nil_max) (leaf_new _ 2 1 ⟨#[]⟩) nil_max)
  clear hb1 HN HB HI HT0 CT
  go_wp2_with fail
  generalize w1.heap.size = sb at *
  refine (A1.out _ B0.out.rd.rd).mono ?_
  rintro e w2 ⟨rfl, hb2⟩
  have B2 := Lib.hid (B0.out.below hb2)
  clear hb2 B0
  go_wp2_with fail
  have CX := Lib.hid (exprG w2 g r B2.out.rd)
  refine CX.out.mono ?_
  rintro e w4 ⟨x, r', rfl, hx1, hx2, hx3, hx4, hx5⟩
  rw [exV_eq]
  have HB4 := Lib.hid (B2.out.turned hx5 hx4)
  have B5 := Lib.hid (B2.out.setE hx2 hx3 hx4 hx5)
  have HX1 := Lib.hid hx1
  have HF := Lib.hid (HFX.out _ _ hx1)
  clear hx1 hx2 hx3 hx4 hx5 B2 CX
  obtain ⟨W, hW⟩ : ∃ W, (((((w4.setCell ⟨sb, 2, none⟩ (.int .i64 x.op)).setCell ⟨sb, 3, none⟩ (.int .i64 x.n)).setCell ⟨sb, 4, none⟩ (.string x.s)).setCell ⟨sb, 5, none⟩ (.string x.q)).setCell ⟨sb, 6, none⟩ (.slice x.a x.x.length x.c)) = W := ⟨_, rfl⟩
  rw [hW] at B5
  have e2 := free_at HB4.out.at_ 2
  have e3 := free_at HB4.out.at_ 3
  have e4 := free_at HB4.out.at_ 4
  have e5 := free_at HB4.out.at_ 5
  have e6 := free_at HB4.out.at_ 6
  obtain ⟨z0, z1, z2, z3, z4, z5, z6, z7, z8⟩ := Prs.nine_at HB4.out.at_
  simp only [oneX, Ex.op, Ex.n, Ex.s, Ex.q, Ex.a, Ex.x, Ex.c, List.length_nil] at z2 z3 z4 z5 z6 z7 z8
  have CBW := HCB.out W r' B5.out.rd (ag_lenB HX1.out)
  go_wp2_with fail
  clear e2 e3 e4 e5 e6 z0 z1 z2 z3 z4 z5 z6 z7 z8 HB4 hW
  refine CBW.out.mono ?_
  rintro e w6 ⟨A7, c7, l7, r7, rfl, ha, hrow, hlen, hnew, hin, hnn, hr, ht⟩
  have HA7 := Lib.hid ha
  have B7 := Lib.hid (B5.out.setB (d := c7) hrow hlen hnew hin hnn hr ht)
  have B7o := Lib.hid (B5.out.turned ht hr)
  clear ha hrow hlen hnew hin hnn hr ht
  have e7 := free_at B7o.out.at_ 7
  obtain ⟨z0, z1, z2, z3, z4, z5, z6, z7, z8⟩ := Prs.nine_at B7o.out.at_
  obtain ⟨x0, x1, x2, x3, x4, x5, x6, x7, x8⟩ := Prs.nine_at B7.out.at_
  try simp only [List.length_nil] at x2 x3 x4 x5 x6 x7 x8
  simp only [List.length_nil] at z7 z8
  obtain ⟨y0, y1, y2, y3, y4, y5, y6, y7, y8⟩ := Prs.nine_at B7o.out.res
  have f0 := free_at B7o.out.res 0
  have f1 := free_at B7o.out.res 1
  have f2 := free_at B7o.out.res 2
  have f3 := free_at B7o.out.res 3
  have f4 := free_at B7o.out.res 4
  have f5 := free_at B7o.out.res 5
  have f6 := free_at B7o.out.res 6
  have f7 := free_at B7o.out.res 7
  have f8 := free_at B7o.out.res 8
  have rr := B7o.out.hi
  go_wp2_with fail
  have HT := Lib.hid (turn9 (w6.setCell ⟨sb, 7, none⟩ (.slice A7 l7.length c7)) w.heap.size (.int .i64 4) (.string ⟨#[]⟩) (.int .i64 x.op) (.int .i64 x.n) (.string x.s) (.string x.q) (.slice x.a x.x.length x.c) (.slice A7 l7.length c7) (.slice none 0 0))
  refine bodyPost_ret (results_stmt rfl _ _ w.heap.size _ _ _ _ _ _ _ _ _ rfl (set9 B7.out.res)) rfl ?_
  exact B7.out.done HT.out (HQQ.out _ _ _ _ HF.out HA7.out)
end Go.Proofs.YtmihlmlojmdhjaaGreatDoor.Prg
