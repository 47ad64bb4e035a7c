/-
  A file that the program's parser builds, cell by cell. Condition: the reader is known.
-/
import Derived.Test.YtlhbhpdpjidpgaaGreatDoorZ35
namespace Go.Proofs.YtlhbhpdpjidpgaaGreatDoor.Prg
open Go.RowKit Tre Prs
open Lex (Wd wdC wdV bs str Turn)
set_option maxRecDepth 100000
set_option linter.unusedSimpArgs false
variable {lo : Nat}
def txCT (s : List UInt8) : List Value := [.string (bs s)]
theorem txCT_len (s : List UInt8) : (txCT s).length = 1 := rfl
theorem txCT_one (s : List UInt8) : ∀ u ∈ txCT s, u.oneCell' = true := fun u hu => by
  simp only [txCT, List.mem_cons, List.not_mem_nil, or_false] at hu
  subst hu
  rfl
theorem infoT : (Tryz.prog.info? 9).map (fun i => (i.zero, i.size, i.bytes)) = some (some (.string ⟨#[]⟩), 1, 16) := by kernel_rfl
theorem infoF : (Tryz.prog.info? 51).map (fun i => (i.zero, i.size, i.bytes)) = some (some (.agg #[.string ⟨#[]⟩, .slice none 0 0, .int .u8 0, .slice none 0 0]), 4, 72) := by kernel_rfl
theorem fnC_len (f : Tre.Fn) : (fnC f).length = 4 := rfl
theorem fnC_one (f : Tre.Fn) : ∀ u ∈ fnC f, u.oneCell' = true := fun u hu => by
  simp only [fnC, List.mem_cons, List.not_mem_nil, or_false] at hu
  rcases hu with rfl | rfl | rfl | rfl <;> rfl
theorem app_tx (w : World) (b0 : Nat) (v : Value) (l : List (List UInt8)) (x : List UInt8) (eb : Nat) (h : OwnG 1 txCT 9 w b0 v l) (he : w.heap[eb]? = some (.cells #[.string (bs x)] 9 (0, 0))) (hl : l.length ≤ 1000000) (hlo : b0 ≤ w.heap.size) :
    ∃ v2 w2, (∀ ty, (Builtin.append_ #[23, 23] ty #[v, .slice (some ⟨eb, 0, none⟩) 1 1]).run Tryz.prog w = .ok v2 w2) ∧ OwnG 1 txCT 9 w2 b0 v2 (l ++ [x]) ∧ w.grownBy w2 v.ownBlock ∧ (v2.ownBlock = v.ownBlock ∨ v2.ownBlock = some w.heap.size) := by
  obtain ⟨i0, hi0, hz0, hz1, hz2⟩ := Lex.info_of infoT
  exact OwnG.app Tryz.underlying23 hi0 hz0 hz1 hz2 rfl (by decide) txCT_len txCT_one w v l x eb h he hl (by decide) hlo
theorem app_fn (w : World) (b0 : Nat) (v : Value) (l : List Tre.Fn) (x : Tre.Fn) (eb : Nat) (h : OwnG 4 fnC 51 w b0 v l) (he : w.heap[eb]? = some (.cells #[.string x.s, .slice x.pa x.p.length x.pc, .int .u8 x.r, .slice x.ba x.b.length x.bc] 51 (0, 0))) (hl : l.length ≤ 1000000) (hlo : b0 ≤ w.heap.size) :
    ∃ v2 w2, (∀ ty, (Builtin.append_ #[24, 24] ty #[v, .slice (some ⟨eb, 0, none⟩) 1 1]).run Tryz.prog w = .ok v2 w2) ∧ OwnG 4 fnC 51 w2 b0 v2 (l ++ [x]) ∧ w.grownBy w2 v.ownBlock ∧ (v2.ownBlock = v.ownBlock ∨ v2.ownBlock = some w.heap.size) := by
  obtain ⟨i0, hi0, hz0, hz1, hz2⟩ := Lex.info_of infoF
  exact OwnG.app Tryz.underlying24 hi0 hz0 hz1 hz2 rfl (by decide) fnC_len fnC_one w v l x eb h he hl (by decide) hlo
theorem row_tx {w : World} {A : Option Addr} {xs : List (List UInt8)} (h : Row 1 txCT w A xs) : Row 1 txC w A (xs.map bs) := fun h0 => by
  obtain ⟨b, o, e, hlt, hc⟩ := h (by simpa using h0)
  refine ⟨b, o, e, hlt, fun j x hx r u hu => ?_⟩
  rw [List.getElem?_map] at hx
  obtain ⟨t, ht, rfl⟩ := Option.map_eq_some_iff.1 hx
  exact hc j t ht r u hu
theorem core_tx (xs : List (List UInt8)) : (xs.map bs).map (·.data.toList) = xs := by
  rw [List.map_map]
  conv => rhs; rw [← List.map_id xs]
  exact List.map_congr_left fun t _ => Lex.bs_data t
def OffF (L : List Nat) (f : Tre.Fn) : Prop := (0 < f.p.length → ∀ k o, f.pa = some ⟨k, o, none⟩ → k ∉ L) ∧ (0 < f.b.length → ∀ k o, f.ba = some ⟨k, o, none⟩ → k ∉ L) ∧ ∀ s ∈ f.b, OffS L s
theorem FnIn.off {L : List Nat} {w w' : World} {f : Tre.Fn} (h : FnIn w f) (ho : OffF L f) (ht : Turn L w w') : FnIn w' f :=
  ⟨fun h0 => Row.kept h.p ht.size (fun k o e hlt => ht.block k hlt (ho.1 h0 k o e)) h0, fun h0 => Row.kept h.b ht.size (fun k o e hlt => ht.block k hlt (ho.2.1 h0 k o e)) h0, fun s hs => StIn.off (h.sts s hs) (ho.2.2 s hs) ht, h.plen, h.blen, h.s, h.ps⟩
theorem NewF.off {n : Nat} {L : List Nat} {f : Tre.Fn} (h : NewF n f) (hL : ∀ k ∈ L, k < n) : OffF L f :=
  ⟨fun _ k o e hm => by have := h.1 _ e; have := hL _ hm; simp at *; omega, fun _ k o e hm => by have := h.2.1 _ e; have := hL _ hm; simp at *; omega, fun s hs => (h.2.2 s hs).off hL⟩
theorem FnIn.fresh {w : World} {f : Tre.Fn} (h : FnIn w f) : OffF [w.heap.size] f := by
  refine ⟨fun h0 k o e hm => ?_, fun h0 k o e hm => ?_, fun s hs => StIn.fresh (h.sts s hs)⟩
  · obtain ⟨b', o', e', hlt, _⟩ := h.p h0
    rw [e] at e'
    injection e' with e'
    injection e' with e1
    simp at hm
    omega
  · obtain ⟨b', o', e', hlt, _⟩ := h.b h0
    rw [e] at e'
    injection e' with e'
    injection e' with e1
    simp at hm
    omega
/-- All of the file's rows lie from block n on. -/
def NewFl (n : Nat) (f : Fl) : Prop := (∀ ad, f.ia = some ad → n ≤ ad.block) ∧ (∀ ad, f.fa = some ad → n ≤ ad.block) ∧ ∀ g ∈ f.f, NewF n g
theorem FlIn.off {n : Nat} {L : List Nat} {w w' : World} {f : Fl} (h : FlIn w f) (hn : NewFl n f) (hL : ∀ k ∈ L, k < n) (ht : Turn L w w') : FlIn w' f :=
  ⟨Row.kept h.irow ht.size (fun k o e hlt => ht.block k hlt (fun hm => by have := hn.1 _ e; have := hL _ hm; simp at *; omega)), Row.kept h.frow ht.size (fun k o e hlt => ht.block k hlt (fun hm => by have := hn.2.1 _ e; have := hL _ hm; simp at *; omega)), fun g hg => FnIn.off (h.fns g hg) ((hn.2.2 g hg).off hL) ht, h.ilen, h.flen, h.s, h.is⟩
def EvGL (lo : Nat) (w : World) (g : Nat) (q : Tl × PS) (e : Ending) (w' : World) : Prop := ∃ (f : Fl) (r' : PS), e = .returned (flV f) ∧ AgE q (coreL f) r' ∧ FlIn w' f ∧ NewFl w.heap.size f ∧ RdG lo w' g r' ∧ Turn [g] w w'
/-- The file in the block behind the result's. -/
structure FlB (lo : Nat) (w W : World) (g : Nat) (r : PS) (S : ByteArray) (ia : Option Addr) (ic : Nat) (is : List (List UInt8)) (fa : Option Addr) (fc : Nat) (fs : List Tre.Fn) : Prop where
  rd : InG lo W g r
  at_ : W.heap[w.heap.size + 1]? = some (.cells #[.string S, .slice ia is.length ic, .slice fa fs.length fc] 26 (0, 0))
  res : W.heap[w.heap.size]? = some (.cells #[.string ⟨#[]⟩, .slice none 0 0, .slice none 0 0] 26 (0, 0))
  iown : OwnG 1 txCT 9 W (w.heap.size + 2) (.slice ia is.length ic) is
  fown : OwnG 4 fnC 51 W (w.heap.size + 2) (.slice fa fs.length fc) fs
  apart : ∀ b, (Value.slice fa fs.length fc).ownBlock = some b → (Value.slice ia is.length ic).ownBlock ≠ some b
  fin : ∀ f ∈ fs, FnIn W f
  fnew : ∀ f ∈ fs, NewF (w.heap.size + 2) f
  foff : ∀ f ∈ fs, ∀ b, (Value.slice fa fs.length fc).ownBlock = some b → OffF [b] f
  itxt : ∀ s ∈ is, s.length ≤ 1000000
  turn : Turn [g] w W
  hs : S.size ≤ maxLen
  g : g < w.heap.size
  lo : lo ≤ w.heap.size
section
variable {w W : World} {g : Nat} {r : PS} {S : ByteArray} {ia : Option Addr} {ic : Nat} {is : List (List UInt8)} {fa : Option Addr} {fc : Nat} {fs : List Tre.Fn}
theorem FlB.keep {W' : World} {L : List Nat} (h : FlB lo w W g r S ia ic is fa fc fs) (ht : Turn L W W') (hL : ∀ k ∈ L, k < w.heap.size + 2) : OwnG 1 txCT 9 W' (w.heap.size + 2) (.slice ia is.length ic) is ∧ OwnG 4 fnC 51 W' (w.heap.size + 2) (.slice fa fs.length fc) fs ∧ ∀ f ∈ fs, FnIn W' f :=
  ⟨h.iown.keep fun b hb => ht.block b (h.iown.lt b hb).2 (fun hm => by have := (h.iown.lt b hb).1; have := hL _ hm; omega), h.fown.keep fun b hb => ht.block b (h.fown.lt b hb).2 (fun hm => by have := (h.fown.lt b hb).1; have := hL _ hm; omega), fun f hf => FnIn.off (h.fin f hf) ((h.fnew f hf).off hL) ht⟩
theorem FlB.turned {W' : World} {r' : PS} (h : FlB lo w W g r S ia ic is fa fc fs) (ht : Turn [g] W W') (hr : RdG lo W' g r') : FlB lo w W' g r' S ia ic is fa fc fs := by
  have hg := h.g
  obtain ⟨k1, k2, k3⟩ := h.keep ht (fun k hk => by simp at hk; omega)
  exact ⟨h.rd.step ht hr, (ht.block _ (lt_of_heap h.at_) (by simp; omega)).trans h.at_, (ht.block _ (lt_of_heap h.res) (by simp; omega)).trans h.res, k1, k2, h.apart, k3, h.fnew, h.foff, h.itxt, h.turn.trans ht, h.hs, hg, h.lo⟩
theorem FlB.below {W' : World} (h : FlB lo w W g r S ia ic is fa fc fs) (hb : Below W.heap.size W W') : FlB lo w W' g r S ia ic is fa fc fs := h.turned ((Turn.refl [g] W).below hb) (h.rd.rd.below hb)
theorem FlB.setS {S' : ByteArray} (h : FlB lo w W g r S ia ic is fa fc fs) (hs : S'.size ≤ maxLen) : FlB lo w (W.setCell ⟨w.heap.size + 1, 0, none⟩ (.string S')) g r S' ia ic is fa fc fs := by
  have hg := h.g
  have ht := turn1 W (w.heap.size + 1) 0 (.string S')
  obtain ⟨k1, k2, k3⟩ := h.keep ht (fun k hk => by simp at hk; omega)
  exact ⟨h.rd.but ht (by have := h.lo; omega), set_at h.at_ 0 (.string S'), (ht.block _ (lt_of_heap h.res) (by simp)).trans h.res, k1, k2, h.apart, k3, h.fnew, h.foff, h.itxt, h.turn.then_ ht (fun k hk => by simp at hk; subst hk; exact .inr (by omega)), hs, hg, h.lo⟩
/-- One import more. -/
theorem FlB.pushI {y : List UInt8} (h : FlB lo w W g r S ia ic is none 0 []) (hy : y.length ≤ 1000000) (hl : is.length ≤ 1000000) :
    ∃ A2 c2 u2, (∀ ty, (Builtin.append_ #[23, 23] ty #[.slice ia is.length ic, .slice (some ⟨W.heap.size, 0, none⟩) 1 1]).run Tryz.prog (W.alloc (.cells #[.string (bs y)] 9)) = .ok (.slice A2 (is ++ [y]).length c2) u2) ∧
      u2.heap[w.heap.size + 1]? = some (.cells #[.string S, .slice ia is.length ic, .slice none 0 0] 26 (0, 0)) ∧ FlB lo w (u2.setCell ⟨w.heap.size + 1, 1, none⟩ (.slice A2 (is ++ [y]).length c2)) g r S A2 c2 (is ++ [y]) none 0 [] := by
  have hb3 := ball_new W #[.string (bs y)] 9
  have hn3 := new_at W #[.string (bs y)] 9
  have h3 := h.below hb3
  have hsz := lt_of_heap h3.at_
  obtain ⟨vv, u2, hap, how, hgr, hbo⟩ := app_tx _ (w.heap.size + 2) (.slice ia is.length ic) is y W.heap.size h3.iown hn3 hl (by omega)
  obtain ⟨A2, c2, rfl, -⟩ := how.form
  have T2 : Turn (Value.slice ia is.length ic).ownBlock.toList (W.alloc (.cells #[.string (bs y)] 9)) u2 := (Turn.refl _ _).grown hgr (fun k hk => .inl (by simp [hk]))
  have hlo2 : ∀ b ∈ (Value.slice ia is.length ic).ownBlock.toList, w.heap.size + 2 ≤ b := fun b hb => (h3.iown.lt b (by simpa using hb)).1
  have ha := (T2.block _ (lt_of_heap h3.at_) (fun hm => by have := hlo2 _ hm; omega)).trans h3.at_
  have hr := (T2.block _ (lt_of_heap h3.res) (fun hm => by have := hlo2 _ hm; omega)).trans h3.res
  have t1 := turn1 u2 (w.heap.size + 1) 1 (.slice A2 (is ++ [y]).length c2)
  have hg := h.g
  have hlo := h.lo
  refine ⟨A2, c2, u2, hap, ha, (h3.rd.buts T2 (fun b hb => by have := hlo2 b hb; omega)).but t1 (by omega), set_at ha 1 _, (t1.block _ (lt_of_heap hr) (by simp)).trans hr, how.keep fun b hb => t1.block b (how.lt b hb).2 (by have := (how.lt b hb).1; simp; omega), OwnG.nil _ _, (fun b e => by cases e), (fun f hf => by simp at hf), (fun f hf => by simp at hf), (fun f hf => by simp at hf), fun s hs => ?_, (h3.turn.then_ T2 (fun k hk => .inr (by have := hlo2 k hk; omega))).then_ t1 (fun k hk => by simp at hk; subst hk; exact .inr (by omega)), h.hs, hg, hlo⟩
  rcases List.mem_append.1 hs with hs | hs
  · exact h.itxt s hs
  · obtain rfl : s = y := by simpa using hs
    exact hy
/-- One function more. -/
theorem FlB.pushF {y : Tre.Fn} {n0 : Nat} (h : FlB lo w W g r S ia ic is fa fc fs) (hy : FnIn W y) (hn : NewF n0 y) (hn0 : ∀ b, (Value.slice fa fs.length fc).ownBlock = some b → b < n0) (hw : w.heap.size + 2 ≤ n0) (hl : fs.length ≤ 1000000) :
    ∃ A2 c2 u2, (∀ ty, (Builtin.append_ #[24, 24] ty #[.slice fa fs.length fc, .slice (some ⟨W.heap.size, 0, none⟩) 1 1]).run Tryz.prog (W.alloc (.cells #[.string y.s, .slice y.pa y.p.length y.pc, .int .u8 y.r, .slice y.ba y.b.length y.bc] 51)) = .ok (.slice A2 (fs ++ [y]).length c2) u2) ∧
      u2.heap[w.heap.size + 1]? = some (.cells #[.string S, .slice ia is.length ic, .slice fa fs.length fc] 26 (0, 0)) ∧ FlB lo w (u2.setCell ⟨w.heap.size + 1, 2, none⟩ (.slice A2 (fs ++ [y]).length c2)) g r S ia ic is A2 c2 (fs ++ [y]) := by
  have hb3 := ball_new W #[.string y.s, .slice y.pa y.p.length y.pc, .int .u8 y.r, .slice y.ba y.b.length y.bc] 51
  have hn3 := new_at W #[.string y.s, .slice y.pa y.p.length y.pc, .int .u8 y.r, .slice y.ba y.b.length y.bc] 51
  have h3 := h.below hb3
  have hsz := lt_of_heap h3.at_
  obtain ⟨vv, u2, hap, how, hgr, hbo⟩ := app_fn _ (w.heap.size + 2) (.slice fa fs.length fc) fs y W.heap.size h3.fown hn3 hl (by omega)
  obtain ⟨A2, c2, rfl, -⟩ := how.form
  have T2 : Turn (Value.slice fa fs.length fc).ownBlock.toList (W.alloc (.cells #[.string y.s, .slice y.pa y.p.length y.pc, .int .u8 y.r, .slice y.ba y.b.length y.bc] 51)) u2 := (Turn.refl _ _).grown hgr (fun k hk => .inl (by simp [hk]))
  have hlo2 : ∀ b ∈ (Value.slice fa fs.length fc).ownBlock.toList, w.heap.size + 2 ≤ b := fun b hb => (h3.fown.lt b (by simpa using hb)).1
  have ha := (T2.block _ (lt_of_heap h3.at_) (fun hm => by have := hlo2 _ hm; omega)).trans h3.at_
  have hr := (T2.block _ (lt_of_heap h3.res) (fun hm => by have := hlo2 _ hm; omega)).trans h3.res
  have t1 := turn1 u2 (w.heap.size + 1) 2 (.slice A2 (fs ++ [y]).length c2)
  have hg := h.g
  have hlo := h.lo
  have hy3 : FnIn (W.alloc (.cells #[.string y.s, .slice y.pa y.p.length y.pc, .int .u8 y.r, .slice y.ba y.b.length y.bc] 51)) y := Tre.FnIn.below hy hb3
  have hin : ∀ f ∈ fs ++ [y], FnIn (W.alloc (.cells #[.string y.s, .slice y.pa y.p.length y.pc, .int .u8 y.r, .slice y.ba y.b.length y.bc] 51)) f := fun f hf => by
    rcases List.mem_append.1 hf with hf | hf
    · exact h3.fin f hf
    · obtain rfl : f = y := by simpa using hf
      exact hy3
  have hnew : ∀ f ∈ fs ++ [y], NewF (w.heap.size + 2) f := fun f hf => by
    rcases List.mem_append.1 hf with hf | hf
    · exact h3.fnew f hf
    · obtain rfl : f = y := by simpa using hf
      exact hn.mono hw
  have hoff : ∀ f ∈ fs ++ [y], ∀ b, (Value.slice fa fs.length fc).ownBlock = some b → OffF [b] f := fun f hf b e => by
    rcases List.mem_append.1 hf with hf | hf
    · exact h3.foff f hf b e
    · obtain rfl : f = y := by simpa using hf
      exact hn.off (fun k hk => by simp at hk; subst hk; exact hn0 _ e)
  have hoffL : ∀ f ∈ fs ++ [y], OffF (Value.slice fa fs.length fc).ownBlock.toList f := fun f hf => by
    cases ho : (Value.slice fa fs.length fc).ownBlock with
    | none => exact ⟨fun _ _ _ _ hm => by simp at hm, fun _ _ _ _ hm => by simp at hm, fun s hs y hy => ⟨fun _ _ _ _ _ _ h => by simp at h, fun _ _ _ _ h => by simp at h, fun _ _ _ _ h => by simp at h⟩⟩
    | some b => exact hoff f hf b ho
  have hin2 : ∀ f ∈ fs ++ [y], FnIn u2 f := fun f hf => FnIn.off (hin f hf) (hoffL f hf) T2
  have hi2 : OwnG 1 txCT 9 u2 (w.heap.size + 2) (.slice ia is.length ic) is := h3.iown.keep fun b hb => T2.block b (h3.iown.lt b hb).2 (fun hm => h.apart b (by simpa using hm) hb)
  refine ⟨A2, c2, u2, hap, ha, (h3.rd.buts T2 (fun b hb => by have := hlo2 b hb; omega)).but t1 (by omega), set_at ha 2 _, (t1.block _ (lt_of_heap hr) (by simp)).trans hr, hi2.keep fun b hb => t1.block b (hi2.lt b hb).2 (by have := (hi2.lt b hb).1; simp; omega), how.keep fun b hb => t1.block b (how.lt b hb).2 (by have := (how.lt b hb).1; simp; omega), fun b e => ?_, fun f hf => FnIn.off (hin2 f hf) ((hnew f hf).off (fun k hk => by simp at hk; omega)) t1, hnew, fun f hf b e => ?_, h.itxt, (h3.turn.then_ T2 (fun k hk => .inr (by have := hlo2 k hk; omega))).then_ t1 (fun k hk => by simp at hk; subst hk; exact .inr (by omega)), h.hs, hg, hlo⟩
  · rcases hbo with e2 | e2
    · exact h.apart b (e2.symm.trans e)
    · rw [e2] at e
      injection e with e
      subst e
      intro e3
      have := (h3.iown.lt _ e3).2
      omega
  · rcases hbo with e2 | e2
    · exact hoff f hf b (e2.symm.trans e)
    · rw [e2] at e
      injection e with e
      subst e
      exact FnIn.fresh (hin f hf)
theorem FlB.done {W' : World} {q : Tl × PS} (h : FlB lo w W g r S ia ic is fa fc fs) (ht : Turn [w.heap.size] W W') (hi : is.length ≤ 200000) (hf : fs.length ≤ 200000) (hq : AgE q ⟨S.data.toList, is, fs.map coreF⟩ r) : EvGL lo w g q (.returned (.agg #[.string S, .slice ia is.length ic, .slice fa fs.length fc])) W' := by
  obtain ⟨k1, k2, k3⟩ := h.keep ht (fun k hk => by simp at hk; omega)
  refine ⟨⟨S, ia, ic, is.map bs, fa, fc, fs⟩, r, by simp [flV], ?_, ⟨row_tx (k1.row txCT_len), k2.row fnC_len, k3, by rw [List.length_map]; unfold most; omega, by show fs.length ≤ most; unfold most; omega, h.hs, fun s hs => ?_⟩, ⟨fun ad e => ?_, fun ad e => ?_, fun f hf => (h.fnew f hf).mono (by omega)⟩, h.rd.rd.but ht h.lo, h.turn.then_ ht (fun k hk => by simp at hk; subst hk; exact .inr (Nat.le_refl _))⟩
  · unfold coreL
    rw [core_tx]
    exact hq
  · obtain ⟨t, ht, rfl⟩ := List.mem_map.1 hs
    show (bs t).size ≤ maxLen
    rw [Lex.bs_size]
    have := h.itxt t ht
    unfold maxLen
    omega
  · dsimp only at e
    subst e
    have := (h.iown.lt ad.block rfl).1
    omega
  · dsimp only at e
    subst e
    have := (h.fown.lt ad.block rfl).1
    omega
end
theorem results_fl {fn : Func} {p : Tmp} (h : fn.results = #[.cell p 26]) (tmps : Array Value) (w : World) (g : Nat) (v0 v1 v2 : Value) (hv : tmps.getD p undef = .pointer (some ⟨g, 0, none⟩)) (hc : w.heap[g]? = some (.cells #[v0, v1, v2] 26 (0, 0))) :
    (results fn tmps).run Tryz.prog w = .ok (.agg #[v0, v1, v2]) w := by
  have a4 := Tryz.isAgg26
  have z4 := Tryz.sizeOf26
  obtain ⟨c0, c1, c2⟩ := three_at hc
  simp only [Array.getD_eq_getD_getElem?] at hv
  unfold results
  rw [h]
  go_simp
theorem at_appG (L : TypeId) {P : Program} {ops : Array Oper} {Q : Exit → Act → World → Prop} {md : Region.Mode} {S : World → Prop} {nn fuel : Nat} {listed : Array Bool} {a : Act} {w : World} {oi : Oper} (i d : Nat) (v2 : Value) (w' : World) (hi : ops[i]? = some oi) (hd : oi.dst = some d) (hr : Region.ready md ops listed = [i]) (hin : i < nn) (hw : Region.wanted oi (yielded ops a.tmps) = true) (s x : Operand)
    (ho : oi.op = .call { callee := .builtin .append, args := #[s, x], argTypes := #[L, L] }) (v u : Value) (hs : a.eval s = v) (hx : a.eval x = u) (hrun : ∀ ty, (Builtin.append_ #[L, L] ty #[v, u]).run P w = .ok v2 w') (hS : S w')
    (h : Lex.AtS P md ops Q S nn fuel (listed.setIfInBounds i true) (a.put (some d) v2) w') : Lex.AtS P md ops Q S nn (fuel + 1) listed a w := by
  refine Lex.at_run i d v2 w' hi hd hr hin hw ?_ hS h
  unfold execOp
  simp only [ho, resolve, invoke, builtin, Sem.run_bind, Sem.run_pure, Result.andThen_ok, List.map_toArray, List.map_cons, List.map_nil, hs, hx, hrun]
end Go.Proofs.YtlhbhpdpjidpgaaGreatDoor.Prg
