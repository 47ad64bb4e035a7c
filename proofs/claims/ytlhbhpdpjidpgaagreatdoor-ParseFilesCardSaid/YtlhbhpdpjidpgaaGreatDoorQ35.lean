/-
  What must come comes: the law's knows. Conditions: the tables lie as the program's text lays them.
-/
import Derived.Test.YtlhbhpdpjidpgaaGreatDoorQ22
import Derived.Test.YtlhbhpdpjidpgaaGreatDoorQ34
namespace Go.Proofs.YtlhbhpdpjidpgaaGreatDoor.Prg
open Go.RowKit Tre Prs
open Lex (bs str)
set_option maxRecDepth 100000
set_option linter.unusedSimpArgs false
theorem num_any (a : Int) (w : World) : Calls Tryz.prog 10 #[.int .i64 a] w fun e w' => e = .returned (.int .i64 a) ∧ w' = w := by
  go_enter Tryz.func10, Tryz.ntmps10
  go_wp2_with fail
  go_ret
  exact ⟨rfl, rfl⟩
/-- The sum's tree, as its cells lie. -/
theorem sum_cells {x : Ex} {w : World} (hc : core x = (exprTP sumB).1) (hx : ExIn w x) : ∃ (b o : Nat), exV x = .agg #[.int .i64 10, .int .i64 x.n, .string x.s, .string x.q, .slice (some ⟨b, o, none⟩) 2 x.c] ∧ w.cell? ⟨b, o + 5, none⟩ = some (.int .i64 7) ∧ b < w.heap.size := by
  obtain ⟨h1, y, z, h2, h3⟩ := sum_tree hc
  obtain ⟨b, o, e, hb, hr⟩ := hx.nd.row (by rw [h2]; exact Nat.succ_pos _)
  have h4 := hr 1 z (by rw [h2]; rfl) 0 (.int .i64 z.op) (by cases z; rfl)
  rw [h3] at h4
  exact ⟨b, o, by rw [exV_eq, h1, h2, e]; rfl, h4, hb⟩
/-- The file's tree, as its cells lie. -/
theorem fil_cells {f : Fl} {w : World} (hc : coreL f = (fileT filB).1) (hf : FlIn w f) : ∃ (b o d u : Nat) (k : Nat), flV f = .agg #[.string ⟨#[112]⟩, .slice f.ia f.i.length f.ic, .slice (some ⟨b, o, none⟩) 1 f.fc] ∧ w.cell? ⟨b, o + 3, none⟩ = some (.slice (some ⟨d, u, none⟩) 1 k) ∧ w.cell? ⟨d, u + 5, none⟩ = some (.string ⟨#[120]⟩) ∧ b < w.heap.size ∧ d < w.heap.size := by
  obtain ⟨h1, g, h2, s, h3, h4⟩ := fil_tree hc
  obtain ⟨b, o, e, hb, hr⟩ := hf.frow (by rw [h2]; exact Nat.succ_pos _)
  have hg := hf.fns g (by rw [h2]; exact List.mem_singleton.2 rfl)
  obtain ⟨d, u, e2, hd, hr2⟩ := hg.b (by rw [h3]; exact Nat.succ_pos _)
  have h5 := hr 0 g (by rw [h2]; rfl) 3 (.slice g.ba g.b.length g.bc) rfl
  have h6 := hr2 0 s (by rw [h3]; rfl) 5 (.string s.e.q) (by obtain ⟨_, _, ⟨_, _, _, _, _, _, _⟩, _, _, _, _, _, _⟩ := s; rfl)
  rw [Nat.zero_mul, Nat.add_zero] at h5 h6
  rw [e2, h3] at h5
  have e3 : f.s = ⟨#[112]⟩ := by cases hs : f.s; rw [hs] at h1; rw [← h1]
  have e4 : s.e.q = ⟨#[120]⟩ := by cases hs : s.e.q; rw [hs] at h4; rw [← h4]
  rw [e4] at h6
  exact ⟨b, o, d, u, g.bc, by unfold flV; rw [e3, h2, e]; rfl, h5, h6, hb, hd⟩
set_option maxHeartbeats 4000000 in
theorem knows_any (w : World) (hT : Tabs w) : Calls Tryz.prog 6 #[] w (EndsB (.bool true) w) := by
  have CX : Hid (Calls Tryz.prog 11 #[.string ⟨#[49, 43, 50, 42, 51]⟩] w (TellX sumB w)) := Lib.hid (parseExpr_any sumB w hT)
  have CF : Hid (∀ w', Below w.heap.size w w' → Calls Tryz.prog 7 #[.string ⟨#[112, 97, 99, 107, 97, 103, 101, 32, 112, 10, 102, 117, 110, 99, 32, 102, 40, 41, 32, 123, 32, 112, 114, 105, 110, 116, 40, 120, 46, 89, 40, 49, 41, 41, 32, 125, 10]⟩] w' (TellF filB w')) := Lib.hid (fun w' hb => parseFile_any filB w' (hT.below hb))
  have CN := fun e w' => Lib.hid (num_any e w')
  clear hT
  go_enter Tryz.func6, Tryz.ntmps6
  go_wp2_with fail
  refine CX.out.mono ?_
  rintro e w1 ⟨x, rfl, hc, hin, hnn, hb⟩
  obtain ⟨xb, xo, hv, hcell, hlt⟩ := sum_cells hc hin
  rw [hv, sum_told]
  dsimp only
  have HB1 := Lib.hid hb
  have HL1 := Lib.hid hlt
  have HC1 := Lib.hid hcell
  generalize x.n = xn at *
  generalize x.s = xs at *
  generalize x.q = xq at *
  generalize x.c = xc at *
  clear hc hin hnn hb hv hlt hcell CX
  have HBA := Lib.hid (ball_new w1 #[.int .i64 10, .int .i64 xn, .string xs, .string xq, .slice (some ⟨xb, xo, none⟩) 2 xc] 36)
  have HNA := Lib.hid (new_at w1 #[.int .i64 10, .int .i64 xn, .string xs, .string xq, .slice (some ⟨xb, xo, none⟩) 2 xc] 36)
  have HB2 := Lib.hid (HB1.out.trans (HBA.out.mono HB1.out.size))
  have CF2 := Lib.hid (CF.out _ HB2.out)
  clear CF
  go_wp2_with fail
  refine CF2.out.mono ?_
  rintro e w2 ⟨f, rfl, hc, hin, hnn, hb⟩
  obtain ⟨fb, fo, sb, so, k, hv, hcell, hcell2, hlt, hlt2⟩ := fil_cells hc hin
  rw [hv, fil_told]
  dsimp only
  have HB3 := Lib.hid (HB2.out.trans (hb.mono HB2.out.size))
  have HNX := Lib.hid ((hb.block _ (lt_of_heap HNA.out)).trans HNA.out)
  have HC2 : Hid (w2.cell? ⟨xb, xo + 5, none⟩ = some (.int .i64 7)) := Lib.hid ((World.cell?_of_block ((HBA.out.mono (Nat.le_refl _) |>.trans (hb.mono HBA.out.size)).block _ HL1.out)).trans HC1.out)
  have HL2 : Hid (xb < w2.heap.size) := Lib.hid (Nat.lt_of_lt_of_le HL1.out (Nat.le_trans HBA.out.size hb.size))
  have HBF := Lib.hid (ball_new w2 #[.string ⟨#[112]⟩, .slice f.ia f.i.length f.ic, .slice (some ⟨fb, fo, none⟩) 1 f.fc] 26)
  have HNF := Lib.hid (new_at w2 #[.string ⟨#[112]⟩, .slice f.ia f.i.length f.ic, .slice (some ⟨fb, fo, none⟩) 1 f.fc] 26)
  have HNX2 := Lib.hid ((HBF.out.block _ (lt_of_heap HNX.out)).trans HNX.out)
  have HB4 := Lib.hid (HB3.out.trans (HBF.out.mono HB3.out.size))
  have z1 := (World.cell?_of_block (HBF.out.block _ HL2.out)).trans HC2.out
  have z2 := (World.cell?_of_block (HBF.out.block _ hlt)).trans hcell
  have z3 := (World.cell?_of_block (HBF.out.block _ hlt2)).trans hcell2
  generalize f.ia = fi at *
  generalize f.i.length = fl at *
  generalize f.ic = fc at *
  generalize f.fc = fd at *
  clear hc hin hnn hb hv hlt hlt2 hcell hcell2 CF2 HC2 HC1 HL1 HL2 HB1 HB2 HB3 HBA HNA HNX HBF
  obtain ⟨y0, y1, y2, y3, y4⟩ := five_at HNX2.out
  obtain ⟨u0, u1, u2⟩ := three_at HNF.out
  go_wp2_with (go_at_call 10; refine (CN _ _).out.mono ?_; rintro e w' ⟨rfl, rfl⟩)
  go_ret
  exact EndsB.of rfl HB4.out
end Go.Proofs.YtlhbhpdpjidpgaaGreatDoor.Prg
/- A statement that the document's parser builds, cell by cell. No condition. -/
namespace Go.Proofs.YtlhbhpdpjidpgaaGreatDoor.Prs
open Go.RowKit Tre
open Lex (Wd wdC wdV bs str Turn)
set_option maxRecDepth 100000
set_option linter.unusedSimpArgs false
variable {lo : Nat}
/-- The statement in block sb, and the result's cells. -/
structure Bld (lo : Nat) (w W : World) (g sb : Nat) (r : PS) (o : Int) (S : ByteArray) (x : Ex) (A : Option Addr) (c : Nat) (b : List St) (A2 : Option Addr) (c2 : Nat) (b2 : List St) : Prop where
  rd : RdM lo W g r
  at_ : W.heap[sb]? = some (.cells #[.int .i64 o, .string S, .int .i64 x.op, .int .i64 x.n, .string x.s, .string x.q, .slice x.a x.x.length x.c, .slice A b.length c, .slice A2 b2.length c2] 47 (0, 0))
  res : W.heap[w.heap.size]? = some (.cells #[.int .i64 0, .string ⟨#[]⟩, .int .i64 0, .int .i64 0, .string ⟨#[]⟩, .string ⟨#[]⟩, .slice none 0 0, .slice none 0 0, .slice none 0 0] 47 (0, 0))
  st : StIn W (.mk o S x A c b A2 c2 b2)
  off : OffS [sb] (.mk o S x A c b A2 c2 b2)
  new : NewS (w.heap.size + 1) (.mk o S x A c b A2 c2 b2)
  turn : Turn [g] w W
  hi : w.heap.size < sb
  g : g < w.heap.size
  lo : lo ≤ w.heap.size
section
variable {w W : World} {g sb : Nat} {r : PS} {o : Int} {S : ByteArray} {x : Ex} {A : Option Addr} {c : Nat} {b : List St} {A2 : Option Addr} {c2 : Nat} {b2 : List St}
theorem Bld.turned {W' : World} {r' : PS} (h : Bld lo w W g sb r o S x A c b A2 c2 b2) (ht : Turn [g] W W') (hr : RdM lo W' g r') : Bld lo w W' g sb r' o S x A c b A2 c2 b2 := by
  have hg := h.g
  have hh := h.hi
  exact ⟨hr, (ht.block _ (lt_of_heap h.at_) (by simp; omega)).trans h.at_, (ht.block _ (lt_of_heap h.res) (by simp; omega)).trans h.res, StIn.off h.st (NewS.off h.new (fun k hk => by simp at hk; omega)) ht, h.off, h.new, h.turn.trans ht, hh, hg, h.lo⟩
theorem Bld.below {W' : World} (h : Bld lo w W g sb r o S x A c b A2 c2 b2) (hb : Below W.heap.size W W') : Bld lo w W' g sb r o S x A c b A2 c2 b2 := h.turned ((Turn.refl [g] W).below hb) (h.rd.below hb)
theorem StIn.build (hx : ExIn W x) (hb : Row 9 stC W A b) (hb2 : Row 9 stC W A2 b2) (hl : b.length ≤ most) (hl2 : b2.length ≤ most) (hs : S.size ≤ maxLen) (hi : ∀ s ∈ b, StIn W s) (hi2 : ∀ s ∈ b2, StIn W s) : StIn W (.mk o S x A c b A2 c2 b2) :=
  StIn.mk ⟨hx, hb, hb2, hl, hl2, hs⟩ (fun y hy => hy.elim (fun h => hi y h) (fun h => hi2 y h))
theorem mem_stmt {y : St} (hy : y ∈ flatS (.mk o S x A c b A2 c2 b2)) : y = .mk o S x A c b A2 c2 b2 ∨ (∃ s ∈ b, y ∈ flatS s) ∨ (∃ s ∈ b2, y ∈ flatS s) := by
  rw [flatS_eq] at hy
  rcases List.mem_cons.1 hy with rfl | hy
  · exact .inl rfl
  · rcases List.mem_append.1 hy with hy | hy
    · obtain ⟨s, h1, h2⟩ := List.mem_flatMap.1 hy
      exact .inr (.inl ⟨s, h1, h2⟩)
    · obtain ⟨s, h1, h2⟩ := List.mem_flatMap.1 hy
      exact .inr (.inr ⟨s, h1, h2⟩)
theorem NewS.build {n : Nat} (hx : New n x) (hA : ∀ ad, A = some ad → n ≤ ad.block) (hA2 : ∀ ad, A2 = some ad → n ≤ ad.block) (hi : ∀ s ∈ b, NewS n s) (hi2 : ∀ s ∈ b2, NewS n s) : NewS n (.mk o S x A c b A2 c2 b2) := fun y hy => by
  rcases mem_stmt hy with rfl | ⟨s, h1, h2⟩ | ⟨s, h1, h2⟩
  · exact ⟨hx, hA, hA2⟩
  · exact hi s h1 y h2
  · exact hi2 s h1 y h2
theorem OffS.build {L : List Nat} (hx : Off L x) (hA : 0 < b.length → ∀ k o, A = some ⟨k, o, none⟩ → k ∉ L) (hA2 : 0 < b2.length → ∀ k o, A2 = some ⟨k, o, none⟩ → k ∉ L) (hi : ∀ s ∈ b, OffS L s) (hi2 : ∀ s ∈ b2, OffS L s) : OffS L (.mk o S x A c b A2 c2 b2) := fun y hy => by
  rcases mem_stmt hy with rfl | ⟨s, h1, h2⟩ | ⟨s, h1, h2⟩
  · exact ⟨hx, hA, hA2⟩
  · exact hi s h1 y h2
  · exact hi2 s h1 y h2
theorem Bld.parts (h : Bld lo w W g sb r o S x A c b A2 c2 b2) : ExIn W x ∧ Row 9 stC W A b ∧ Row 9 stC W A2 b2 ∧ b.length ≤ most ∧ b2.length ≤ most ∧ S.size ≤ maxLen ∧ (∀ s ∈ b, StIn W s) ∧ (∀ s ∈ b2, StIn W s) :=
  ⟨h.st.nd.e, h.st.nd.row, h.st.nd.row2, h.st.nd.len, h.st.nd.len2, h.st.nd.s, fun _ hs => h.st.part (.inl hs), fun _ hs => h.st.part (.inr hs)⟩
theorem Bld.offs (h : Bld lo w W g sb r o S x A c b A2 c2 b2) : Off [sb] x ∧ (0 < b.length → ∀ k o, A = some ⟨k, o, none⟩ → k ∉ [sb]) ∧ (0 < b2.length → ∀ k o, A2 = some ⟨k, o, none⟩ → k ∉ [sb]) ∧ (∀ s ∈ b, OffS [sb] s) ∧ (∀ s ∈ b2, OffS [sb] s) := by
  have h0 := h.off _ (mem_flatS _)
  exact ⟨h0.1, h0.2.1, h0.2.2, fun s hs y hy => h.off y (flatS_sub (.inl hs) hy), fun s hs y hy => h.off y (flatS_sub (.inr hs) hy)⟩
theorem Bld.news (h : Bld lo w W g sb r o S x A c b A2 c2 b2) : New (w.heap.size + 1) x ∧ (∀ ad, A = some ad → w.heap.size + 1 ≤ ad.block) ∧ (∀ ad, A2 = some ad → w.heap.size + 1 ≤ ad.block) ∧ (∀ s ∈ b, NewS (w.heap.size + 1) s) ∧ (∀ s ∈ b2, NewS (w.heap.size + 1) s) := by
  have h0 := h.new _ (mem_flatS _)
  exact ⟨h0.1, h0.2.1, h0.2.2, fun s hs y hy => h.new y (flatS_sub (.inl hs) hy), fun s hs y hy => h.new y (flatS_sub (.inr hs) hy)⟩
/-- An expression that was told is stored. -/
theorem Bld.setE {W2 : World} {r' : PS} {y : Ex} (h : Bld lo w W g sb r o S x A c b A2 c2 b2) (hy2 : ExIn W2 y) (hy3 : New W.heap.size y) (hr : RdM lo W2 g r') (ht : Turn [g] W W2) :
    Bld lo w (((((W2.setCell ⟨sb, 2, none⟩ (.int .i64 y.op)).setCell ⟨sb, 3, none⟩ (.int .i64 y.n)).setCell ⟨sb, 4, none⟩ (.string y.s)).setCell ⟨sb, 5, none⟩ (.string y.q)).setCell ⟨sb, 6, none⟩ (.slice y.a y.x.length y.c)) g sb r' o S y A c b A2 c2 b2 := by
  have hg := h.g
  have hh := h.hi
  have hsb := lt_of_heap h.at_
  have h2 := h.turned ht hr
  obtain ⟨_, p2, p3, p4, p5, p6, p7, p8⟩ := h2.parts
  obtain ⟨_, q2, q3, q4, q5⟩ := h2.offs
  obtain ⟨_, n2, n3, n4, n5⟩ := h2.news
  have T : Turn [sb] W2 (((((W2.setCell ⟨sb, 2, none⟩ (.int .i64 y.op)).setCell ⟨sb, 3, none⟩ (.int .i64 y.n)).setCell ⟨sb, 4, none⟩ (.string y.s)).setCell ⟨sb, 5, none⟩ (.string y.q)).setCell ⟨sb, 6, none⟩ (.slice y.a y.x.length y.c)) := (((((Turn.refl _ W2).setCell (.inl (by simp)) _).setCell (.inl (by simp)) _).setCell (.inl (by simp)) _).setCell (.inl (by simp)) _).setCell (.inl (by simp)) _
  have hoff : OffS [sb] (.mk o S y A c b A2 c2 b2) := OffS.build (New.off hy3 (fun k hk => by simp at hk; omega)) q2 q3 q4 q5
  refine ⟨h2.rd.but T (by have := h.lo; omega), ?_, (T.block _ (lt_of_heap h2.res) (by simp; omega)).trans h2.res, StIn.off (StIn.build hy2 p2 p3 p4 p5 p6 p7 p8) hoff T, hoff, NewS.build (hy3.mono (by omega)) n2 n3 n4 n5, h2.turn.then_ T (fun k hk => by simp at hk; subst hk; exact .inr (by omega)), hh, hg, h.lo⟩
  have e := set_at (set_at (set_at (set_at (set_at h2.at_ 2 (.int .i64 y.op)) 3 (.int .i64 y.n)) 4 (.string y.s)) 5 (.string y.q)) 6 (.slice y.a y.x.length y.c)
  rw [e]
  simp only [List.setIfInBounds_toArray, List.set_cons_zero, List.set_cons_succ]
/-- A row of statements that was told is stored. -/
theorem Bld.setB {W2 : World} {r' : PS} {B : Option Addr} {d : Nat} {l : List St} (h : Bld lo w W g sb r o S x A c b A2 c2 b2) (hrow : Row 9 stC W2 B l) (hlen : l.length ≤ most) (hnew : ∀ ad, B = some ad → W.heap.size ≤ ad.block) (hin : ∀ s ∈ l, StIn W2 s) (hn : ∀ s ∈ l, NewS W.heap.size s) (hr : RdM lo W2 g r') (ht : Turn [g] W W2) :
    Bld lo w (W2.setCell ⟨sb, 7, none⟩ (.slice B l.length d)) g sb r' o S x B d l A2 c2 b2 := by
  have hg := h.g
  have hh := h.hi
  have hsb := lt_of_heap h.at_
  have h2 := h.turned ht hr
  obtain ⟨p1, _, p3, _, p5, p6, _, p8⟩ := h2.parts
  obtain ⟨q1, _, q3, _, q5⟩ := h2.offs
  obtain ⟨n1, _, n3, _, n5⟩ := h2.news
  have T : Turn [sb] W2 (W2.setCell ⟨sb, 7, none⟩ (.slice B l.length d)) := (Turn.refl _ W2).setCell (.inl (by simp)) _
  have hoff : OffS [sb] (.mk o S x B d l A2 c2 b2) := OffS.build q1 (fun _ k o e => by have := hnew _ e; simp at this ⊢; omega) q3 (fun s hs => (hn s hs).off (fun k hk => by simp at hk; omega)) q5
  refine ⟨h2.rd.but T (by have := h.lo; omega), ?_, (T.block _ (lt_of_heap h2.res) (by simp; omega)).trans h2.res, StIn.off (StIn.build p1 hrow p3 (hlen) p5 p6 hin p8) hoff T, hoff, NewS.build n1 (fun ad e => by have := hnew _ e; omega) n3 (fun s hs => (hn s hs).mono (by omega)) n5, h2.turn.then_ T (fun k hk => by simp at hk; subst hk; exact .inr (by omega)), hh, hg, h.lo⟩
  have e := set_at h2.at_ 7 (.slice B l.length d)
  rw [e]
  simp only [List.setIfInBounds_toArray, List.set_cons_zero, List.set_cons_succ]
theorem Bld.setB2 {W2 : World} {r' : PS} {B : Option Addr} {d : Nat} {l : List St} (h : Bld lo w W g sb r o S x A c b A2 c2 b2) (hrow : Row 9 stC W2 B l) (hlen : l.length ≤ most) (hnew : ∀ ad, B = some ad → W.heap.size ≤ ad.block) (hin : ∀ s ∈ l, StIn W2 s) (hn : ∀ s ∈ l, NewS W.heap.size s) (hr : RdM lo W2 g r') (ht : Turn [g] W W2) :
    Bld lo w (W2.setCell ⟨sb, 8, none⟩ (.slice B l.length d)) g sb r' o S x A c b B d l := by
  have hg := h.g
  have hh := h.hi
  have hsb := lt_of_heap h.at_
  have h2 := h.turned ht hr
  obtain ⟨p1, p2, _, p4, _, p6, p7, _⟩ := h2.parts
  obtain ⟨q1, q2, _, q4, _⟩ := h2.offs
  obtain ⟨n1, n2, _, n4, _⟩ := h2.news
  have T : Turn [sb] W2 (W2.setCell ⟨sb, 8, none⟩ (.slice B l.length d)) := (Turn.refl _ W2).setCell (.inl (by simp)) _
  have hoff : OffS [sb] (.mk o S x A c b B d l) := OffS.build q1 q2 (fun _ k o e => by have := hnew _ e; simp at this ⊢; omega) q4 (fun s hs => (hn s hs).off (fun k hk => by simp at hk; omega))
  refine ⟨h2.rd.but T (by have := h.lo; omega), ?_, (T.block _ (lt_of_heap h2.res) (by simp; omega)).trans h2.res, StIn.off (StIn.build p1 p2 hrow p4 (hlen) p6 p7 hin) hoff T, hoff, NewS.build n1 n2 (fun ad e => by have := hnew _ e; omega) n4 (fun s hs => (hn s hs).mono (by omega)), h2.turn.then_ T (fun k hk => by simp at hk; subst hk; exact .inr (by omega)), hh, hg, h.lo⟩
  have e := set_at h2.at_ 8 (.slice B l.length d)
  rw [e]
  simp only [List.setIfInBounds_toArray, List.set_cons_zero, List.set_cons_succ]
theorem stV_mk : stV (.mk o S x A c b A2 c2 b2) = .agg #[.int .i64 o, .string S, .int .i64 x.op, .int .i64 x.n, .string x.s, .string x.q, .slice x.a x.x.length x.c, .slice A b.length c, .slice A2 b2.length c2] := by
  obtain ⟨o, n, s, q, a, c, xs⟩ := x
  rfl
theorem coreS_mk : coreS (.mk o S x A c b A2 c2 b2) = .mk o S.data.toList (core x) (b.map coreS) (b2.map coreS) := by
  rw [coreS_eq]
  rfl
/-- The statement is through. -/
theorem Bld.done {W' : World} {q : List Ts × PS} (h : Bld lo w W g sb r o S x A c b A2 c2 b2) (ht : Turn [w.heap.size] W W') (hq : q = ([.mk o S.data.toList (core x) (b.map coreS) (b2.map coreS)], r)) : EvT lo w g q (.returned (.agg #[.int .i64 o, .string S, .int .i64 x.op, .int .i64 x.n, .string x.s, .string x.q, .slice x.a x.x.length x.c, .slice A b.length c, .slice A2 b2.length c2])) W' := by
  subst hq
  exact ⟨_, rfl, .mk o S x A c b A2 c2 b2, by rw [stV_mk], by rw [coreS_mk], StIn.off h.st (NewS.off h.new (fun k hk => by simp at hk; omega)) ht, h.new.mono (by omega), h.rd.but ht h.lo, h.turn.then_ ht (fun k hk => by simp at hk; subst hk; exact .inr (Nat.le_refl _))⟩
/-- A statement of one expression is laid. -/
theorem Bld.start {W1 : World} (hg : g < w.heap.size) (hlo : lo ≤ w.heap.size) (hr : RdM lo W1 g r) (hres : W1.heap[w.heap.size]? = some (.cells #[.int .i64 0, .string ⟨#[]⟩, .int .i64 0, .int .i64 0, .string ⟨#[]⟩, .string ⟨#[]⟩, .slice none 0 0, .slice none 0 0, .slice none 0 0] 47 (0, 0))) (ht : Turn [g] w W1) (hx : ExIn W1 x) (hn : New (w.heap.size + 1) x) (hs : S.size ≤ maxLen) :
    Bld lo w (W1.alloc (.cells #[.int .i64 o, .string S, .int .i64 x.op, .int .i64 x.n, .string x.s, .string x.q, .slice x.a x.x.length x.c, .slice none 0 0, .slice none 0 0] 47)) g W1.heap.size r o S x none 0 [] none 0 [] := by
  have hb := ball_new W1 #[.int .i64 o, .string S, .int .i64 x.op, .int .i64 x.n, .string x.s, .string x.q, .slice x.a x.x.length x.c, .slice none 0 0, .slice none 0 0] 47
  have hsz := lt_of_heap hres
  refine ⟨hr.below hb, new_at W1 _ _, (hb.block _ hsz).trans hres, StIn.build (Tre.ExIn.below hx hb) (Row.nil _ _ _ _) (Row.nil _ _ _ _) (by simp [most]) (by simp [most]) hs (fun s hs => by simp at hs) (fun s hs => by simp at hs), OffS.build (ExIn.fresh hx) (fun h => by simp at h) (fun h => by simp at h) (fun s hs => by simp at hs) (fun s hs => by simp at hs), NewS.build hn (fun ad e => by cases e) (fun ad e => by cases e) (fun s hs => by simp at hs) (fun s hs => by simp at hs), ht.below hb, hsz, hg, hlo⟩
end
end Go.Proofs.YtlhbhpdpjidpgaaGreatDoor.Prs
/- The document's for. Conditions: the reader is known; a block tells what the plain grammar says. -/
namespace Go.Proofs.YtlhbhpdpjidpgaaGreatDoor.Prs
open Go.RowKit Tre
open Lex (Wd wdC wdV bs str Turn)
set_option maxRecDepth 100000
set_option linter.unusedSimpArgs false
variable {lo : Nat}
def oneX : Ex := .mk 2 1 ⟨#[]⟩ ⟨#[]⟩ none 0 []
theorem core_one : core oneX = .mk 2 1 [] [] [] := by rw [core_eq]; rfl
theorem nil_max : (⟨#[]⟩ : ByteArray).size ≤ maxLen := by unfold maxLen; simp [ByteArray.size]
set_option maxHeartbeats 8000000 in
theorem stmt_for_none (w : World) (g : Nat) (r : PS) (h : RdM lo w g r) (n0 : isW r [105, 102] = false) (hi : isW r [102, 111, 114] = true) (i1 : isW (tl r) [123] = true) (CB : ∀ w' r1, RdM lo w' g r1 → lenR r1 < lenR r → Hid (Calls Tryz.prog 53 #[.pointer (some ⟨g, 0, none⟩)] w' (EvB lo w' g (tellS .block r1)))) :
    Calls Tryz.prog 88 #[.pointer (some ⟨g, 0, none⟩)] w (EvT lo w g (one1 (.mk 4 [] (forX (tl r)).1 (tellS .block (forX (tl r)).2).1 []) (tellS .block (forX (tl r)).2).2)) := by
  have HCB := Lib.hid CB
  have HLP := Lib.hid (show lenR (tl r) < lenR r by have := lenR_pos hi; have := lenR_tl r; omega)
  have I1 := fun w' (h' : RdM lo w' g (tl r)) => (by have := is_any w' g (tl r) [123] h'; rw [i1] at this; exact Lib.hid this : Hid (Calls Tryz.prog 51 #[.pointer (some ⟨g, 0, none⟩), .string (bs [123])] w' (EndsB (.bool true) w')))
  have HF : forX (tl r) = (.mk 2 1 [] [] [], tl r) := by unfold forX; rw [if_pos i1]
  rw [HF]
  dsimp only
  clear HF
  clear i1 CB
  have HG := Lib.hid h.lt
  have HLO := Lib.hid h.wlo
  have HB := Lib.hid (ball_new w #[.int .i64 0, .string ⟨#[]⟩, .int .i64 0, .int .i64 0, .string ⟨#[]⟩, .string ⟨#[]⟩, .slice none 0 0, .slice none 0 0, .slice none 0 0] 47)
  have H0 := Lib.hid (h.below HB.out)
  have N0 := fun w' (h' : RdM lo w' g r) => Lib.hid (skip_no w' g r [105, 102] h' n0)
  have Y := fun w' (h' : RdM lo w' g r) => Lib.hid (skip_yes w' g r [102, 111, 114] h' hi)
  clear h n0 hi
  go_enter Tryz.func88, Tryz.ntmps88
  go_wp2_with fail
  refine (N0 _ H0.out).out.mono ?_
  rintro e v0 ⟨rfl, h1, h2⟩
  have P0 := Lib.hid h1
  have T0 := Lib.hid h2
  clear h1 h2
  go_wp2_with fail
  refine (Y _ P0.out).out.mono ?_
  rintro e w1 ⟨rfl, h1, h2⟩
  have H1 := Lib.hid h1
  have H2 := Lib.hid (T0.out.trans h2)
  clear h1 h2 N0 Y P0 T0
  have HR1 := Lib.hid (res_keep9 HG.out H2.out)
  have B0 : Hid (Bld lo w (w1.alloc (.cells #[.int .i64 4, .string ⟨#[]⟩, .int .i64 2, .int .i64 1, .string ⟨#[]⟩, .string ⟨#[]⟩, .slice none 0 0, .slice none 0 0, .slice none 0 0] 47)) g w1.heap.size (tl r) 4 ⟨#[]⟩ oneX none 0 [] none 0 []) := Lib.hid (Bld.start HG.out HLO.out H1.out HR1.out (((Turn.refl [g] w).below HB.out).trans H2.out) (leaf_in _ 2 1 ⟨#[]⟩ nil_max) (leaf_new _ 2 1 ⟨#[]⟩) nil_max)
  clear HB H0 H1 H2 HR1
  have C1 := I1 _ B0.out.rd
  clear I1
  go_wp2_with fail
  generalize w1.heap.size = sb at *
  refine C1.out.mono ?_
  rintro e w2 ⟨rfl, hb2⟩
  have B2 := Lib.hid (B0.out.below hb2)
  clear hb2 B0 C1
  have CBW := HCB.out w2 (tl r) B2.out.rd HLP.out
  have B5 := B2
  clear B2
  go_wp2_with fail
  refine CBW.out.mono ?_
  rintro e w6 ⟨A7, c7, l7, rfl, ha, hrow, hlen, hnew, hin, hnn, hr, ht⟩
  have HA7 := Lib.hid ha
  have B7 := Lib.hid (B5.out.setB (d := c7) hrow hlen hnew hin hnn hr ht)
  have B7o := Lib.hid (B5.out.turned ht hr)
  clear ha hrow hlen hnew hin hnn hr ht
  have e7 := free_at B7o.out.at_ 7
  obtain ⟨z0, z1, z2, z3, z4, z5, z6, z7, z8⟩ := Prs.nine_at B7o.out.at_
  obtain ⟨x0, x1, x2, x3, x4, x5, x6, x7, x8⟩ := Prs.nine_at B7.out.at_
  try simp only [List.length_nil] at x2 x3 x4 x5 x6 x7 x8
  simp only [oneX, Ex.op, Ex.n, Ex.s, Ex.q, Ex.a, Ex.x, Ex.c, List.length_nil] at z2 z3 z4 z5 z6 z7 z8 x2 x3 x4 x5 x6
  obtain ⟨y0, y1, y2, y3, y4, y5, y6, y7, y8⟩ := Prs.nine_at B7o.out.res
  have f0 := free_at B7o.out.res 0
  have f1 := free_at B7o.out.res 1
  have f2 := free_at B7o.out.res 2
  have f3 := free_at B7o.out.res 3
  have f4 := free_at B7o.out.res 4
  have f5 := free_at B7o.out.res 5
  have f6 := free_at B7o.out.res 6
  have f7 := free_at B7o.out.res 7
  have f8 := free_at B7o.out.res 8
  have rr := B7o.out.hi
  clear HCB CBW B5
  go_wp2_with fail
  have HT := Lib.hid (turn9 (w6.setCell ⟨sb, 7, none⟩ (.slice A7 l7.length c7)) w.heap.size (.int .i64 4) (.string ⟨#[]⟩) (.int .i64 2) (.int .i64 1) (.string ⟨#[]⟩) (.string ⟨#[]⟩) (.slice none 0 0) (.slice A7 l7.length c7) (.slice none 0 0))
  refine bodyPost_ret (results_stmt rfl _ _ w.heap.size _ _ _ _ _ _ _ _ _ rfl (set9 B7.out.res)) rfl ?_
  exact B7.out.done HT.out (by rw [core_one, HA7.out]; rfl)
set_option maxHeartbeats 8000000 in
theorem stmt_for_expr (w : World) (g : Nat) (r : PS) (h : RdM lo w g r) (n0 : isW r [105, 102] = false) (hi : isW r [102, 111, 114] = true) (i1 : isW (tl r) [123] = false) (CB : ∀ w' r1, RdM lo w' g r1 → lenR r1 < lenR r → Hid (Calls Tryz.prog 53 #[.pointer (some ⟨g, 0, none⟩)] w' (EvB lo w' g (tellS .block r1)))) :
    Calls Tryz.prog 88 #[.pointer (some ⟨g, 0, none⟩)] w (EvT lo w g (one1 (.mk 4 [] (forX (tl r)).1 (tellS .block (forX (tl r)).2).1 []) (tellS .block (forX (tl r)).2).2)) := by
  have HCB := Lib.hid CB
  have HLP := Lib.hid (show lenR (tl r) < lenR r by have := lenR_pos hi; have := lenR_tl r; omega)
  have I1 := fun w' (h' : RdM lo w' g (tl r)) => (by have := is_any w' g (tl r) [123] h'; rw [i1] at this; exact Lib.hid this : Hid (Calls Tryz.prog 51 #[.pointer (some ⟨g, 0, none⟩), .string (bs [123])] w' (EndsB (.bool false) w')))
  have HF : forX (tl r) = tell (.row 0) (tl r) := by unfold forX; rw [if_neg (by simp [i1])]
  rw [HF]
  have CX := fun w' (h' : RdM lo w' g (tl r)) => Lib.hid (expr_any w' g (tl r) h')
  have HLT := Lib.hid (tell_lenR (.row 0) (tl r))
  clear HF
  obtain ⟨p, hp⟩ : ∃ p, tell (.row 0) (tl r) = p := ⟨_, rfl⟩
  rw [hp] at CX HLT ⊢
  clear hp
  clear i1 CB
  have HG := Lib.hid h.lt
  have HLO := Lib.hid h.wlo
  have HB := Lib.hid (ball_new w #[.int .i64 0, .string ⟨#[]⟩, .int .i64 0, .int .i64 0, .string ⟨#[]⟩, .string ⟨#[]⟩, .slice none 0 0, .slice none 0 0, .slice none 0 0] 47)
  have H0 := Lib.hid (h.below HB.out)
  have N0 := fun w' (h' : RdM lo w' g r) => Lib.hid (skip_no w' g r [105, 102] h' n0)
  have Y := fun w' (h' : RdM lo w' g r) => Lib.hid (skip_yes w' g r [102, 111, 114] h' hi)
  clear h n0 hi
  go_enter Tryz.func88, Tryz.ntmps88
  go_wp2_with fail
  refine (N0 _ H0.out).out.mono ?_
  rintro e v0 ⟨rfl, h1, h2⟩
  have P0 := Lib.hid h1
  have T0 := Lib.hid h2
  clear h1 h2
  go_wp2_with fail
  refine (Y _ P0.out).out.mono ?_
  rintro e w1 ⟨rfl, h1, h2⟩
  have H1 := Lib.hid h1
  have H2 := Lib.hid (T0.out.trans h2)
  clear h1 h2 N0 Y P0 T0
  have HR1 := Lib.hid (res_keep9 HG.out H2.out)
  have B0 : Hid (Bld lo w (w1.alloc (.cells #[.int .i64 4, .string ⟨#[]⟩, .int .i64 2, .int .i64 1, .string ⟨#[]⟩, .string ⟨#[]⟩, .slice none 0 0, .slice none 0 0, .slice none 0 0] 47)) g w1.heap.size (tl r) 4 ⟨#[]⟩ oneX none 0 [] none 0 []) := Lib.hid (Bld.start HG.out HLO.out H1.out HR1.out (((Turn.refl [g] w).below HB.out).trans H2.out) (leaf_in _ 2 1 ⟨#[]⟩ nil_max) (leaf_new _ 2 1 ⟨#[]⟩) nil_max)
  clear HB H0 H1 H2 HR1
  have C1 := I1 _ B0.out.rd
  clear I1
  go_wp2_with fail
  generalize w1.heap.size = sb at *
  refine C1.out.mono ?_
  rintro e w2 ⟨rfl, hb2⟩
  have B2 := Lib.hid (B0.out.below hb2)
  clear hb2 B0 C1
  have CX1 := CX _ B2.out.rd
  clear CX
  go_wp2_with fail
  refine CX1.out.mono ?_
  rintro e w4 ⟨x, rfl, hx1, hx2, hx3, hx4, hx5⟩
  rw [exV_eq]
  have HB4 := Lib.hid (B2.out.turned hx5 hx4)
  have B5 := Lib.hid (B2.out.setE hx2 hx3 hx4 hx5)
  have HX1 := Lib.hid hx1
  clear hx1 hx2 hx3 hx4 hx5 B2 CX1
  obtain ⟨W, hW⟩ : ∃ W, (((((w4.setCell ⟨sb, 2, none⟩ (.int .i64 x.op)).setCell ⟨sb, 3, none⟩ (.int .i64 x.n)).setCell ⟨sb, 4, none⟩ (.string x.s)).setCell ⟨sb, 5, none⟩ (.string x.q)).setCell ⟨sb, 6, none⟩ (.slice x.a x.x.length x.c)) = W := ⟨_, rfl⟩
  rw [hW] at B5
  have e2 := free_at HB4.out.at_ 2
  have e3 := free_at HB4.out.at_ 3
  have e4 := free_at HB4.out.at_ 4
  have e5 := free_at HB4.out.at_ 5
  have e6 := free_at HB4.out.at_ 6
  obtain ⟨z0, z1, z2, z3, z4, z5, z6, z7, z8⟩ := Prs.nine_at HB4.out.at_
  simp only [oneX, Ex.op, Ex.n, Ex.s, Ex.q, Ex.a, Ex.x, Ex.c, List.length_nil] at z2 z3 z4 z5 z6 z7 z8
  have CBW := HCB.out W p.2 B5.out.rd (by have := HLT.out; have := HLP.out; omega)
  go_wp2_with fail
  clear e2 e3 e4 e5 e6 z0 z1 z2 z3 z4 z5 z6 z7 z8 HB4 hW
  refine CBW.out.mono ?_
  rintro e w6 ⟨A7, c7, l7, rfl, ha, hrow, hlen, hnew, hin, hnn, hr, ht⟩
  have HA7 := Lib.hid ha
  have B7 := Lib.hid (B5.out.setB (d := c7) hrow hlen hnew hin hnn hr ht)
  have B7o := Lib.hid (B5.out.turned ht hr)
  clear ha hrow hlen hnew hin hnn hr ht
  have e7 := free_at B7o.out.at_ 7
  obtain ⟨z0, z1, z2, z3, z4, z5, z6, z7, z8⟩ := Prs.nine_at B7o.out.at_
  obtain ⟨x0, x1, x2, x3, x4, x5, x6, x7, x8⟩ := Prs.nine_at B7.out.at_
  try simp only [List.length_nil] at x2 x3 x4 x5 x6 x7 x8
  simp only [List.length_nil] at z7 z8
  obtain ⟨y0, y1, y2, y3, y4, y5, y6, y7, y8⟩ := Prs.nine_at B7o.out.res
  have f0 := free_at B7o.out.res 0
  have f1 := free_at B7o.out.res 1
  have f2 := free_at B7o.out.res 2
  have f3 := free_at B7o.out.res 3
  have f4 := free_at B7o.out.res 4
  have f5 := free_at B7o.out.res 5
  have f6 := free_at B7o.out.res 6
  have f7 := free_at B7o.out.res 7
  have f8 := free_at B7o.out.res 8
  have rr := B7o.out.hi
  clear HCB CBW B5
  go_wp2_with fail
  have HT := Lib.hid (turn9 (w6.setCell ⟨sb, 7, none⟩ (.slice A7 l7.length c7)) w.heap.size (.int .i64 4) (.string ⟨#[]⟩) (.int .i64 x.op) (.int .i64 x.n) (.string x.s) (.string x.q) (.slice x.a x.x.length x.c) (.slice A7 l7.length c7) (.slice none 0 0))
  refine bodyPost_ret (results_stmt rfl _ _ w.heap.size _ _ _ _ _ _ _ _ _ rfl (set9 B7.out.res)) rfl ?_
  exact B7.out.done HT.out (by rw [HX1.out, HA7.out]; rfl)
end Go.Proofs.YtlhbhpdpjidpgaaGreatDoor.Prs
/- The document's when. Conditions: the reader is known; a block, and another when, tell what the plain grammar says. -/
namespace Go.Proofs.YtlhbhpdpjidpgaaGreatDoor.Prs
open Go.RowKit Tre
open Lex (Wd wdC wdV bs str Turn)
set_option maxRecDepth 100000
set_option linter.unusedSimpArgs false
variable {lo : Nat}
theorem row_one {w : World} {b : Nat} {s : St} (h : w.heap[b]? = some (.cells (stC s).toArray 47 (0, 0))) : Row 9 stC w (some ⟨b, 0, none⟩) [s] := fun _ => by
  refine ⟨b, 0, rfl, lt_of_heap h, fun j x hx r u hu => ?_⟩
  cases j with
  | zero =>
    obtain rfl : s = x := by simpa using hx
    rw [cell_at h]
    simpa using hu
  | succ j => simp at hx
theorem when_none (r : PS) (h : isW (tellS .block (tell (.row 0) r).2).2 wElse = false) : tellS .when r = one1 (.mk 3 [] (tell (.row 0) r).1 (tellS .block (tell (.row 0) r).2).1 []) (tellS .block (tell (.row 0) r).2).2 := by
  rw [tellS_when, if_neg (by simp [h])]
theorem when_block (r : PS) (h : isW (tellS .block (tell (.row 0) r).2).2 wElse = true) (h2 : isW (tl (tellS .block (tell (.row 0) r).2).2) wIf = false) : tellS .when r = one1 (.mk 3 [] (tell (.row 0) r).1 (tellS .block (tell (.row 0) r).2).1 (tellS .block (tl (tellS .block (tell (.row 0) r).2).2)).1) (tellS .block (tl (tellS .block (tell (.row 0) r).2).2)).2 := by
  rw [tellS_when, if_pos h, if_neg (by simp [h2])]
theorem when_when (r : PS) (h : isW (tellS .block (tell (.row 0) r).2).2 wElse = true) (h2 : isW (tl (tellS .block (tell (.row 0) r).2).2) wIf = true) : tellS .when r = one1 (.mk 3 [] (tell (.row 0) r).1 (tellS .block (tell (.row 0) r).2).1 (tellS .when (tl (tl (tellS .block (tell (.row 0) r).2).2))).1) (tellS .when (tl (tl (tellS .block (tell (.row 0) r).2).2))).2 := by
  rw [tellS_when, if_pos h, if_pos h2]
set_option maxHeartbeats 16000000 in
theorem when_any (w : World) (g : Nat) (r : PS) (h : RdM lo w g r) (CB : ∀ w' r1, RdM lo w' g r1 → lenR r1 ≤ lenR r → Hid (Calls Tryz.prog 53 #[.pointer (some ⟨g, 0, none⟩)] w' (EvB lo w' g (tellS .block r1)))) (CW : ∀ w' r1, RdM lo w' g r1 → lenR r1 < lenR r → Hid (Calls Tryz.prog 126 #[.pointer (some ⟨g, 0, none⟩)] w' (EvT lo w' g (tellS .when r1)))) :
    Calls Tryz.prog 126 #[.pointer (some ⟨g, 0, none⟩)] w (EvT lo w g (tellS .when r)) := by
  have HCB := Lib.hid CB
  have HCW := Lib.hid CW
  have HLT := Lib.hid (tell_lenR (.row 0) r)
  have HL7 := Lib.hid (tellS_lenR .block (tell (.row 0) r).2)
  have W0 := Lib.hid (when_none r)
  have W1 := Lib.hid (when_block r)
  have W2 := Lib.hid (when_when r)
  clear CB CW
  have HG := Lib.hid h.lt
  have HLO := Lib.hid h.wlo
  have HB := Lib.hid (ball_new w #[.int .i64 0, .string ⟨#[]⟩, .int .i64 0, .int .i64 0, .string ⟨#[]⟩, .string ⟨#[]⟩, .slice none 0 0, .slice none 0 0, .slice none 0 0] 47)
  have H0 := Lib.hid (h.below HB.out)
  have CX := Lib.hid (expr_any _ g r H0.out)
  clear h H0
  generalize tellS .when r = q at *
  generalize tell (.row 0) r = p at *
  go_enter Tryz.func126, Tryz.ntmps126
  go_wp2_with fail
  refine CX.out.mono ?_
  rintro e w1 ⟨x, rfl, hx1, hx2, hx3, hx4, hx5⟩
  rw [exV_eq]
  have HR1 := Lib.hid (res_keep9 HG.out hx5)
  have B0 : Hid (Bld lo w (w1.alloc (.cells #[.int .i64 3, .string ⟨#[]⟩, .int .i64 x.op, .int .i64 x.n, .string x.s, .string x.q, .slice x.a x.x.length x.c, .slice none 0 0, .slice none 0 0] 47)) g w1.heap.size p.2 3 ⟨#[]⟩ x none 0 [] none 0 []) := Lib.hid (Bld.start HG.out HLO.out hx4 HR1.out (((Turn.refl [g] w).below HB.out).trans hx5) hx2 (hx3.mono (by simp)) nil_max)
  have HX1 := Lib.hid hx1
  clear HB HR1 hx1 hx2 hx3 hx4 hx5 CX
  have CBW := HCB.out _ p.2 B0.out.rd HLT.out
  go_wp2_with fail
  generalize w1.heap.size = sb at *
  refine CBW.out.mono ?_
  rintro e w6 ⟨A7, c7, l7, rfl, ha, hrow, hlen, hnew, hin, hnn, hr, ht⟩
  have HA7 := Lib.hid ha
  have B7 := Lib.hid (B0.out.setB (d := c7) hrow hlen hnew hin hnn hr ht)
  have B7o := Lib.hid (B0.out.turned ht hr)
  clear ha hrow hlen hnew hin hnn hr ht
  clear B0 CBW
  generalize tellS .block p.2 = p7 at *
  have e7 := free_at B7o.out.at_ 7
  obtain ⟨z0, z1, z2, z3, z4, z5, z6, z7, z8⟩ := Prs.nine_at B7o.out.at_
  simp only [List.length_nil] at z7 z8
  have rr := B7o.out.hi
  obtain ⟨V2, hV2⟩ : ∃ V2, w6.setCell ⟨sb, 7, none⟩ (.slice A7 l7.length c7) = V2 := ⟨_, rfl⟩
  rw [hV2] at B7
  rcases Bool.eq_false_or_eq_true (isW p7.2 wElse) with ie | ie
  · have CE := Lib.hid (skip_yes V2 g p7.2 [101, 108, 115, 101] B7.out.rd ie)
    have HIE := Lib.hid ie
    have HTL := Lib.hid (lenR_tl p7.2)
    have HPS := Lib.hid (lenR_pos ie)
    clear ie W0
    go_wp2_with fail
    clear e7 z0 z1 z2 z3 z4 z5 z6 z7 z8 B7o hV2
    refine CE.out.mono ?_
    rintro e v1 ⟨rfl, h1, h2⟩
    have B8 := Lib.hid (B7.out.turned h2 h1)
    clear h1 h2 CE B7
    rcases Bool.eq_false_or_eq_true (isW (tl p7.2) wIf) with ii | ii
    · have CI := Lib.hid (skip_yes v1 g (tl p7.2) [105, 102] B8.out.rd ii)
      have HDQ0 := Lib.hid (W2.out HIE.out ii)
      have HTL2 := Lib.hid (lenR_tl (tl p7.2))
      clear ii W1 W2
      go_wp2_with fail
      refine CI.out.mono ?_
      rintro e v2 ⟨rfl, h1, h2⟩
      have B9 := Lib.hid (B8.out.turned h2 h1)
      clear h1 h2 CI B8
      have CC := HCW.out v2 _ B9.out.rd (by have := HLT.out; have := HL7.out; have := HTL.out; have := HTL2.out; have := HPS.out; omega)
      generalize tellS .when (tl (tl p7.2)) = p8 at *
      go_wp2_with fail
      refine CC.out.mono ?_
      rintro e v3 ⟨t, ht, s, rfl, hs1, hs2, hs3, hs4, hs5⟩
      have HBR := Lib.hid (ball_new v3 (stC s).toArray 47)
      have HNR := Lib.hid (new_at v3 (stC s).toArray 47)
      have B10o := Lib.hid ((B9.out.turned hs5 hs4).below HBR.out)
      have B10 : Hid (Bld lo w ((v3.alloc (.cells (stC s).toArray 47)).setCell ⟨sb, 8, none⟩ (.slice (some ⟨v3.heap.size, 0, none⟩) [s].length 1)) g sb p8.2 3 ⟨#[]⟩ x A7 c7 l7 (some ⟨v3.heap.size, 0, none⟩) 1 [s]) := Lib.hid (B9.out.setB2 (row_one HNR.out) (by simp [most]) (fun ad e => by injection e with e; rw [← e]; exact hs5.size) (fun y hy => by simp at hy; subst hy; exact Tre.StIn.below hs2 HBR.out) (fun y hy => by simp at hy; subst hy; exact hs3) (hs4.below HBR.out) (hs5.below HBR.out))
      have HDQ : Hid (q = ([.mk 3 (⟨#[]⟩ : ByteArray).data.toList (core x) (l7.map coreS) ([s].map coreS)], p8.2)) := Lib.hid (by rw [HDQ0.out, HX1.out, HA7.out, List.map_cons, List.map_nil, hs1, ← ht]; rfl)
      clear ht hs1 hs2 hs3 hs4 hs5 CC B9 HBR HNR HDQ0
      obtain ⟨so, ss, ⟨eo, en, es, eq, ea, ec, ex⟩, ya, yc, yb, ya2, yc2, yb2⟩ := s
      unfold stV
      simp only [stC] at B10o B10
      have e8 := free_at B10o.out.at_ 8
      obtain ⟨z0, z1, z2, z3, z4, z5, z6, z7, z8⟩ := Prs.nine_at B10o.out.at_
      obtain ⟨x0, x1, x2, x3, x4, x5, x6, x7, x8⟩ := Prs.nine_at B10.out.at_
      simp only [List.length_cons, List.length_nil, Nat.zero_add] at x8 z8
      obtain ⟨y0, y1, y2, y3, y4, y5, y6, y7, y8⟩ := Prs.nine_at B10o.out.res
      have f0 := free_at B10o.out.res 0
      have f1 := free_at B10o.out.res 1
      have f2 := free_at B10o.out.res 2
      have f3 := free_at B10o.out.res 3
      have f4 := free_at B10o.out.res 4
      have f5 := free_at B10o.out.res 5
      have f6 := free_at B10o.out.res 6
      have f7 := free_at B10o.out.res 7
      have f8 := free_at B10o.out.res 8
      go_wp2_with fail
      have HT := Lib.hid (turn9 ((v3.alloc (.cells #[.int .i64 so, .string ss, .int .i64 eo, .int .i64 en, .string es, .string eq, .slice ea ex.length ec, .slice ya yb.length yc, .slice ya2 yb2.length yc2] 47)).setCell ⟨sb, 8, none⟩ (.slice (some ⟨v3.heap.size, 0, none⟩) 1 1)) w.heap.size (.int .i64 3) (.string ⟨#[]⟩) (.int .i64 x.op) (.int .i64 x.n) (.string x.s) (.string x.q) (.slice x.a x.x.length x.c) (.slice A7 l7.length c7) (.slice (some ⟨v3.heap.size, 0, none⟩) 1 1))
      refine bodyPost_ret (results_stmt rfl _ _ w.heap.size _ _ _ _ _ _ _ _ _ rfl (set9 B10.out.res)) rfl ?_
      exact B10.out.done HT.out HDQ.out
    · have CI := Lib.hid (skip_no v1 g (tl p7.2) [105, 102] B8.out.rd ii)
      have HDQ0 := Lib.hid (W1.out HIE.out ii)
      clear ii W1 W2
      go_wp2_with fail
      refine CI.out.mono ?_
      rintro e v2 ⟨rfl, h1, h2⟩
      have B9 := Lib.hid (B8.out.turned h2 h1)
      clear h1 h2 CI B8
      have CBV := HCB.out v2 _ B9.out.rd (by have := HLT.out; have := HL7.out; have := HTL.out; omega)
      generalize tellS .block (tl p7.2) = p8 at *
      go_wp2_with fail
      refine CBV.out.mono ?_
      rintro e v3 ⟨A8, c8, l8, rfl, ha, hrow, hlen, hnew, hin, hnn, hr, ht⟩
      have HA8 := Lib.hid ha
      have B10 := Lib.hid (B9.out.setB2 (d := c8) hrow hlen hnew hin hnn hr ht)
      have B10o := Lib.hid (B9.out.turned ht hr)
      clear ha hrow hlen hnew hin hnn hr ht
      have HDQ : Hid (q = ([.mk 3 (⟨#[]⟩ : ByteArray).data.toList (core x) (l7.map coreS) (l8.map coreS)], p8.2)) := Lib.hid (by rw [HDQ0.out, HX1.out, HA7.out, HA8.out]; rfl)
      have e8 := free_at B10o.out.at_ 8
      obtain ⟨z0, z1, z2, z3, z4, z5, z6, z7, z8⟩ := Prs.nine_at B10o.out.at_
      simp only [List.length_nil] at z8
      obtain ⟨x0, x1, x2, x3, x4, x5, x6, x7, x8⟩ := Prs.nine_at B10.out.at_
      obtain ⟨y0, y1, y2, y3, y4, y5, y6, y7, y8⟩ := Prs.nine_at B10o.out.res
      have f0 := free_at B10o.out.res 0
      have f1 := free_at B10o.out.res 1
      have f2 := free_at B10o.out.res 2
      have f3 := free_at B10o.out.res 3
      have f4 := free_at B10o.out.res 4
      have f5 := free_at B10o.out.res 5
      have f6 := free_at B10o.out.res 6
      have f7 := free_at B10o.out.res 7
      have f8 := free_at B10o.out.res 8
      go_wp2_with fail
      have HT := Lib.hid (turn9 (v3.setCell ⟨sb, 8, none⟩ (.slice A8 l8.length c8)) w.heap.size (.int .i64 3) (.string ⟨#[]⟩) (.int .i64 x.op) (.int .i64 x.n) (.string x.s) (.string x.q) (.slice x.a x.x.length x.c) (.slice A7 l7.length c7) (.slice A8 l8.length c8))
      refine bodyPost_ret (results_stmt rfl _ _ w.heap.size _ _ _ _ _ _ _ _ _ rfl (set9 B10.out.res)) rfl ?_
      exact B10.out.done HT.out HDQ.out
  · have CE := Lib.hid (skip_no V2 g p7.2 [101, 108, 115, 101] B7.out.rd ie)
    have HDQ : Hid (q = ([.mk 3 (⟨#[]⟩ : ByteArray).data.toList (core x) (l7.map coreS) (([] : List St).map coreS)], p7.2)) := Lib.hid (by rw [W0.out ie, HX1.out, HA7.out]; rfl)
    clear ie W0 W1 W2
    go_wp2_with fail
    clear e7 z0 z1 z2 z3 z4 z5 z6 z7 z8 B7o hV2
    refine CE.out.mono ?_
    rintro e v1 ⟨rfl, h1, h2⟩
    have B8 := Lib.hid (B7.out.turned h2 h1)
    clear h1 h2 CE B7
    obtain ⟨x0, x1, x2, x3, x4, x5, x6, x7, x8⟩ := Prs.nine_at B8.out.at_
    try simp only [List.length_nil] at x2 x3 x4 x5 x6 x7 x8
    obtain ⟨y0, y1, y2, y3, y4, y5, y6, y7, y8⟩ := Prs.nine_at B8.out.res
    have f0 := free_at B8.out.res 0
    have f1 := free_at B8.out.res 1
    have f2 := free_at B8.out.res 2
    have f3 := free_at B8.out.res 3
    have f4 := free_at B8.out.res 4
    have f5 := free_at B8.out.res 5
    have f6 := free_at B8.out.res 6
    have f7 := free_at B8.out.res 7
    have f8 := free_at B8.out.res 8
    go_wp2_with fail
    have HT := Lib.hid (turn9 v1 w.heap.size (.int .i64 3) (.string ⟨#[]⟩) (.int .i64 x.op) (.int .i64 x.n) (.string x.s) (.string x.q) (.slice x.a x.x.length x.c) (.slice A7 l7.length c7) (.slice none 0 0))
    refine bodyPost_ret (results_stmt rfl _ _ w.heap.size _ _ _ _ _ _ _ _ _ rfl (set9 B8.out.res)) rfl ?_
    exact B8.out.done HT.out HDQ.out
end Go.Proofs.YtlhbhpdpjidpgaaGreatDoor.Prs
/- The document's statements, whole: block, when and stmt tell what the plain grammar tells. Condition: the reader is known. -/
namespace Go.Proofs.YtlhbhpdpjidpgaaGreatDoor.Prs
open Go.RowKit Tre
open Lex (Wd wdC wdV bs str Turn)
set_option maxRecDepth 100000
set_option linter.unusedSimpArgs false
variable {lo : Nat}
theorem stmt_one (w : World) (g : Nat) (r : PS) (h : RdM lo w g r) (CB : ∀ w' r1, RdM lo w' g r1 → lenR r1 < lenR r → Hid (Calls Tryz.prog 53 #[.pointer (some ⟨g, 0, none⟩)] w' (EvB lo w' g (tellS .block r1)))) (CW : ∀ w', RdM lo w' g (tl r) → isW r wIf = true → Hid (Calls Tryz.prog 126 #[.pointer (some ⟨g, 0, none⟩)] w' (EvT lo w' g (tellS .when (tl r))))) :
    Calls Tryz.prog 88 #[.pointer (some ⟨g, 0, none⟩)] w (EvT lo w g (tellS .stmt r)) := by
  rw [tellS_stmt]
  rcases Bool.eq_false_or_eq_true (isW r wIf) with n0 | n0
  · rw [if_pos n0]
    exact stmt_if w g r h n0 _ (fun w' h' => CW w' h' n0)
  rw [if_neg (by simp [n0])]
  rcases Bool.eq_false_or_eq_true (isW r wFor) with n1 | n1
  · rw [if_pos n1]
    rcases Bool.eq_false_or_eq_true (isW (tl r) [123]) with i1 | i1
    · exact stmt_for_none w g r h n0 n1 i1 CB
    · exact stmt_for_expr w g r h n0 n1 i1 CB
  rw [if_neg (by simp [n1])]
  rcases Bool.eq_false_or_eq_true (isW r wReturn) with n2 | n2
  · rw [if_pos n2]
    rcases Bool.eq_false_or_eq_true (isW (tl r) [59]) with i1 | i1
    · exact stmt_ret_semi w g r h n0 n1 n2 i1
    rcases Bool.eq_false_or_eq_true (isW (tl r) [125]) with i2 | i2
    · exact stmt_ret_brace w g r h n0 n1 n2 i1 i2
    · exact stmt_ret_expr w g r h n0 n1 n2 i1 i2
  rw [if_neg (by simp [n2])]
  rcases Bool.eq_false_or_eq_true (isW r wPrint) with n3 | n3
  · rw [if_pos n3]
    exact stmt_print w g r h n0 n1 n2 n3
  rw [if_neg (by simp [n3])]
  rcases Bool.eq_false_or_eq_true (isW r wBreak) with n4 | n4
  · rw [if_pos n4]
    exact stmt_break w g r h n0 n1 n2 n3 n4
  rw [if_neg (by simp [n4])]
  rcases Bool.eq_false_or_eq_true (isW r wNext) with n5 | n5
  · rw [if_pos n5]
    exact stmt_next w g r h n0 n1 n2 n3 n4 n5
  rw [if_neg (by simp [n5])]
  unfold nameS
  rcases Bool.eq_false_or_eq_true (isW (wordR r 1 false) [58, 61]) with i1 | i1
  · rw [if_pos i1]
    exact stmt_def w g r h n0 n1 n2 n3 n4 n5 i1
  rw [if_neg (by simp [i1])]
  rcases Bool.eq_false_or_eq_true (isW (wordR r 1 false) [61]) with i2 | i2
  · rw [if_pos i2]
    exact stmt_set w g r h n0 n1 n2 n3 n4 n5 i1 i2
  rw [if_neg (by simp [i2])]
  exact stmt_call w g r h n0 n1 n2 n3 n4 n5 i1 i2
/-- All three, as far as N words. -/
theorem sts_upto (g : Nat) : ∀ (N : Nat),
    (∀ (r : PS) (w : World), 3 * lenR r + 1 ≤ N → RdM lo w g r → Calls Tryz.prog 88 #[.pointer (some ⟨g, 0, none⟩)] w (EvT lo w g (tellS .stmt r))) ∧
    (∀ (r : PS) (w : World), 3 * lenR r + 2 ≤ N → RdM lo w g r → Calls Tryz.prog 53 #[.pointer (some ⟨g, 0, none⟩)] w (EvB lo w g (tellS .block r))) ∧
    (∀ (r : PS) (w : World), 3 * lenR r + 3 ≤ N → RdM lo w g r → Calls Tryz.prog 126 #[.pointer (some ⟨g, 0, none⟩)] w (EvT lo w g (tellS .when r)))
  | 0 => ⟨fun r w h _ => by omega, fun r w h _ => by omega, fun r w h _ => by omega⟩
  | N + 1 => by
    obtain ⟨IS, IB, IW⟩ := sts_upto g N
    refine ⟨fun r w h hr => ?_, fun r w h hr => ?_, fun r w h hr => ?_⟩
    · exact stmt_one w g r hr (fun w' r1 h1 hl => Lib.hid (IB r1 w' (by omega) h1)) (fun w' h1 hi => Lib.hid (IW _ w' (by have := lenR_pos hi; have := lenR_tl r; omega) h1))
    · exact block_any w g r hr (fun w' r1 h1 hl => Lib.hid (IS r1 w' (by omega) h1))
    · exact when_any w g r hr (fun w' r1 h1 hl => Lib.hid (IB r1 w' (by omega) h1)) (fun w' r1 h1 hl => Lib.hid (IW r1 w' (by omega) h1))
theorem blockD (w : World) (g : Nat) (r : PS) (h : RdM lo w g r) : Calls Tryz.prog 53 #[.pointer (some ⟨g, 0, none⟩)] w (EvB lo w g (tellS .block r)) := (sts_upto g _).2.1 r w (Nat.le_refl _) h
end Go.Proofs.YtlhbhpdpjidpgaaGreatDoor.Prs
