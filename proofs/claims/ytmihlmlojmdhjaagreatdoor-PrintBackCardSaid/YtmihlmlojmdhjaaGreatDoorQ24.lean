/-
  A function that the program's parser builds, cell by cell. Condition: the reader is known.
-/
import Derived.Test.YtmihlmlojmdhjaaGreatDoorQ17
import Derived.Test.YtmihlmlojmdhjaaGreatDoorQ23
namespace Go.Proofs.YtmihlmlojmdhjaaGreatDoor.Prg
open Go.RowKit Tre Prs
open Lex (Wd wdC wdV bs str Turn)
set_option maxRecDepth 100000
set_option linter.unusedSimpArgs false
variable {lo : Nat}
def toPar (t : Tp) : Par := ⟨bs t.s, t.t⟩
theorem row_par {w : World} {A : Option Addr} {xs : List Tp} (h : Row 2 parCT w A xs) : Row 2 parC w A (xs.map toPar) := fun h0 => by
  obtain ⟨b, o, e, hlt, hc⟩ := h (by simpa using h0)
  refine ⟨b, o, e, hlt, fun j x hx r u hu => ?_⟩
  rw [List.getElem?_map] at hx
  obtain ⟨t, ht, rfl⟩ := Option.map_eq_some_iff.1 hx
  exact hc j t ht r u hu
theorem core_par (xs : List Tp) : (xs.map toPar).map coreP = xs := by
  rw [List.map_map]
  conv => rhs; rw [← List.map_id xs]
  refine List.map_congr_left fun t _ => ?_
  show (⟨(bs t.s).data.toList, t.t⟩ : Tp) = t
  rw [Lex.bs_data]
/-- All of the function's rows lie from block n on. -/
def NewF (n : Nat) (f : Tre.Fn) : Prop := (∀ ad, f.pa = some ad → n ≤ ad.block) ∧ (∀ ad, f.ba = some ad → n ≤ ad.block) ∧ ∀ s ∈ f.b, NewS n s
theorem NewF.mono {n m : Nat} {f : Tre.Fn} (h : NewF n f) (hm : m ≤ n) : NewF m f := ⟨fun ad e => Nat.le_trans hm (h.1 ad e), fun ad e => Nat.le_trans hm (h.2.1 ad e), fun s hs => (h.2.2 s hs).mono hm⟩
def EvGF (lo : Nat) (w : World) (g : Nat) (q : Tf × PS) (e : Ending) (w' : World) : Prop := ∃ (f : Tre.Fn) (r' : PS), e = .returned (fnV f) ∧ Ag q (coreF f) r' ∧ FnIn w' f ∧ NewF w.heap.size f ∧ RdG lo w' g r' ∧ Turn [g] w w'
/-- The function in the block behind the result's. -/
structure FB (lo : Nat) (w W : World) (g : Nat) (r : PS) (S : ByteArray) (pa : Option Addr) (pc : Nat) (xs : List Tp) (T : Int) (ba : Option Addr) (bc : Nat) (b : List St) : Prop where
  rd : InG lo W g r
  at_ : W.heap[w.heap.size + 1]? = some (.cells #[.string S, .slice pa xs.length pc, .int .u8 T, .slice ba b.length bc] 36 (0, 0))
  res : W.heap[w.heap.size]? = some (.cells #[.string ⟨#[]⟩, .slice none 0 0, .int .u8 0, .slice none 0 0] 36 (0, 0))
  prow : Row 2 parCT W pa xs
  plen : xs.length ≤ 200000
  pnew : ∀ ad, pa = some ad → w.heap.size + 2 ≤ ad.block
  ptxt : ∀ x ∈ xs, x.s.length ≤ 1000000
  brow : Row 9 stC W ba b
  blen : b.length ≤ 200000
  bnew : ∀ ad, ba = some ad → w.heap.size + 2 ≤ ad.block
  bin : ∀ s ∈ b, StIn W s
  bn : ∀ s ∈ b, NewS (w.heap.size + 2) s
  turn : Turn [g] w W
  hs : S.size ≤ maxLen
  g : g < w.heap.size
  lo : lo ≤ w.heap.size
section
variable {w W : World} {g : Nat} {r : PS} {S : ByteArray} {pa : Option Addr} {pc : Nat} {xs : List Tp} {T : Int} {ba : Option Addr} {bc : Nat} {b : List St}
theorem FB.keep {W' : World} {L : List Nat} (h : FB lo w W g r S pa pc xs T ba bc b) (ht : Turn L W W') (hL : ∀ k ∈ L, k < w.heap.size + 2) : Row 2 parCT W' pa xs ∧ Row 9 stC W' ba b ∧ ∀ s ∈ b, StIn W' s :=
  ⟨Row.kept h.prow ht.size (fun k o e hlt => ht.block k hlt (fun hm => by have := h.pnew _ e; have := hL _ hm; simp at *; omega)), Row.kept h.brow ht.size (fun k o e hlt => ht.block k hlt (fun hm => by have := h.bnew _ e; have := hL _ hm; simp at *; omega)), fun s hs => StIn.off (h.bin s hs) (NewS.off (h.bn s hs) hL) ht⟩
theorem FB.turned {W' : World} {r' : PS} (h : FB lo w W g r S pa pc xs T ba bc b) (ht : Turn [g] W W') (hr : RdG lo W' g r') : FB lo w W' g r' S pa pc xs T ba bc b := by
  have hg := h.g
  obtain ⟨k1, k2, k3⟩ := h.keep ht (fun k hk => by simp at hk; omega)
  exact ⟨h.rd.step ht hr, (ht.block _ (lt_of_heap h.at_) (by simp; omega)).trans h.at_, (ht.block _ (lt_of_heap h.res) (by simp; omega)).trans h.res, k1, h.plen, h.pnew, h.ptxt, k2, h.blen, h.bnew, k3, h.bn, h.turn.trans ht, h.hs, hg, h.lo⟩
theorem FB.below {W' : World} (h : FB lo w W g r S pa pc xs T ba bc b) (hb : Below W.heap.size W W') : FB lo w W' g r S pa pc xs T ba bc b := h.turned ((Turn.refl [g] W).below hb) (h.rd.rd.below hb)
theorem turn1 (W : World) (k i : Nat) (v : Value) : Turn [k] W (W.setCell ⟨k, i, none⟩ v) := (Turn.refl _ W).setCell (.inl (by simp)) _
theorem FB.setS {S' : ByteArray} (h : FB lo w W g r S pa pc xs T ba bc b) (hs : S'.size ≤ maxLen) : FB lo w (W.setCell ⟨w.heap.size + 1, 0, none⟩ (.string S')) g r S' pa pc xs T ba bc b := by
  have hg := h.g
  have ht := turn1 W (w.heap.size + 1) 0 (.string S')
  obtain ⟨k1, k2, k3⟩ := h.keep ht (fun k hk => by simp at hk; omega)
  exact ⟨h.rd.but ht (by have := h.lo; omega), set_at h.at_ 0 (.string S'), (ht.block _ (lt_of_heap h.res) (by simp)).trans h.res, k1, h.plen, h.pnew, h.ptxt, k2, h.blen, h.bnew, k3, h.bn, h.turn.then_ ht (fun k hk => by simp at hk; subst hk; exact .inr (by omega)), hs, hg, h.lo⟩
theorem FB.setT {T' : Int} (h : FB lo w W g r S pa pc xs T ba bc b) : FB lo w (W.setCell ⟨w.heap.size + 1, 2, none⟩ (.int .u8 T')) g r S pa pc xs T' ba bc b := by
  have hg := h.g
  have ht := turn1 W (w.heap.size + 1) 2 (.int .u8 T')
  obtain ⟨k1, k2, k3⟩ := h.keep ht (fun k hk => by simp at hk; omega)
  exact ⟨h.rd.but ht (by have := h.lo; omega), set_at h.at_ 2 (.int .u8 T'), (ht.block _ (lt_of_heap h.res) (by simp)).trans h.res, k1, h.plen, h.pnew, h.ptxt, k2, h.blen, h.bnew, k3, h.bn, h.turn.then_ ht (fun k hk => by simp at hk; subst hk; exact .inr (by omega)), h.hs, hg, h.lo⟩
theorem FB.setP {W2 : World} {r' : PS} {B : Option Addr} {d : Nat} {ys : List Tp} (h : FB lo w W g r S pa pc xs T ba bc b) (hrow : Row 2 parCT W2 B ys) (hlen : ys.length ≤ 200000) (hnew : ∀ ad, B = some ad → W.heap.size ≤ ad.block) (htxt : ∀ x ∈ ys, x.s.length ≤ 1000000) (hr : RdG lo W2 g r') (ht : Turn [g] W W2) :
    FB lo w (W2.setCell ⟨w.heap.size + 1, 1, none⟩ (.slice B ys.length d)) g r' S B d ys T ba bc b := by
  have hg := h.g
  have hsz := lt_of_heap h.at_
  have h2 := h.turned ht hr
  have t1 := turn1 W2 (w.heap.size + 1) 1 (.slice B ys.length d)
  obtain ⟨_, k2, k3⟩ := h2.keep t1 (fun k hk => by simp at hk; omega)
  exact ⟨h2.rd.but t1 (by have := h.lo; omega), set_at h2.at_ 1 (.slice B ys.length d), (t1.block _ (lt_of_heap h2.res) (by simp)).trans h2.res, Row.kept hrow t1.size (fun k o e hlt => t1.block k hlt (by have := hnew _ e; simp at this ⊢; omega)), hlen, fun ad e => by have := hnew _ e; omega, htxt, k2, h.blen, h.bnew, k3, h.bn, h2.turn.then_ t1 (fun k hk => by simp at hk; subst hk; exact .inr (by omega)), h.hs, hg, h.lo⟩
theorem FB.setB {W2 : World} {r' : PS} {B : Option Addr} {d : Nat} {l : List St} (h : FB lo w W g r S pa pc xs T ba bc b) (hrow : Row 9 stC W2 B l) (hlen : l.length ≤ 200000) (hnew : ∀ ad, B = some ad → W.heap.size ≤ ad.block) (hin : ∀ s ∈ l, StIn W2 s) (hn : ∀ s ∈ l, NewS W.heap.size s) (hr : RdG lo W2 g r') (ht : Turn [g] W W2) :
    FB lo w (W2.setCell ⟨w.heap.size + 1, 3, none⟩ (.slice B l.length d)) g r' S pa pc xs T B d l := by
  have hg := h.g
  have hsz := lt_of_heap h.at_
  have h2 := h.turned ht hr
  have t1 := turn1 W2 (w.heap.size + 1) 3 (.slice B l.length d)
  obtain ⟨k1, _, _⟩ := h2.keep t1 (fun k hk => by simp at hk; omega)
  exact ⟨h2.rd.but t1 (by have := h.lo; omega), set_at h2.at_ 3 (.slice B l.length d), (t1.block _ (lt_of_heap h2.res) (by simp)).trans h2.res, k1, h.plen, h.pnew, h.ptxt, Row.kept hrow t1.size (fun k o e hlt => t1.block k hlt (by have := hnew _ e; simp at this ⊢; omega)), hlen, fun ad e => by have := hnew _ e; omega, fun s hs => StIn.off (hin s hs) (NewS.off (hn s hs) (fun k hk => by simp at hk; omega)) t1, fun s hs => (hn s hs).mono (by omega), h2.turn.then_ t1 (fun k hk => by simp at hk; subst hk; exact .inr (by omega)), h.hs, hg, h.lo⟩
theorem FB.done {W' : World} {q : Tf × PS} (h : FB lo w W g r S pa pc xs T ba bc b) (ht : Turn [w.heap.size] W W') (hq : Ag q ⟨S.data.toList, xs, T, b.map coreS⟩ r) : EvGF lo w g q (.returned (.agg #[.string S, .slice pa xs.length pc, .int .u8 T, .slice ba b.length bc])) W' := by
  obtain ⟨k1, k2, k3⟩ := h.keep ht (fun k hk => by simp at hk; omega)
  refine ⟨⟨S, pa, pc, xs.map toPar, T, ba, bc, b⟩, r, by simp [fnV], ?_, ⟨row_par k1, k2, k3, by rw [List.length_map]; have := h.plen; unfold most; omega, by have := h.blen; show b.length ≤ most; unfold most; omega, h.hs, fun p hp => ?_⟩, ⟨fun ad e => by have := h.pnew ad e; omega, fun ad e => by have := h.bnew ad e; omega, fun s hs => (h.bn s hs).mono (by omega)⟩, h.rd.rd.but ht h.lo, h.turn.then_ ht (fun k hk => by simp at hk; subst hk; exact .inr (Nat.le_refl _))⟩
  · unfold coreF
    rw [core_par]
    exact hq
  · obtain ⟨t, ht, rfl⟩ := List.mem_map.1 hp
    show (bs t.s).size ≤ maxLen
    rw [Lex.bs_size]
    have := h.ptxt t ht
    unfold maxLen
    omega
end
theorem results_fn {fn : Func} {p : Tmp} (h : fn.results = #[.cell p 36]) (tmps : Array Value) (w : World) (g : Nat) (v0 v1 v2 v3 : Value) (hv : tmps.getD p undef = .pointer (some ⟨g, 0, none⟩)) (hc : w.heap[g]? = some (.cells #[v0, v1, v2, v3] 36 (0, 0))) :
    (results fn tmps).run Tryz.prog w = .ok (.agg #[v0, v1, v2, v3]) w := by
  have a4 := Tryz.isAgg36
  have z4 := Tryz.sizeOf36
  have c0 := cell_at hc 0
  have c1 := cell_at hc 1
  have c2 := cell_at hc 2
  have c3 := cell_at hc 3
  simp only [List.getElem?_toArray, List.getElem?_cons_succ, List.getElem?_cons_zero] at c0 c1 c2 c3
  simp only [Array.getD_eq_getD_getElem?] at hv
  unfold results
  rw [h]
  go_simp
theorem four_at {w : World} {b : Nat} {v0 v1 v2 v3 : Value} {T : TypeId} (h : w.heap[b]? = some (.cells #[v0, v1, v2, v3] T (0, 0))) : w.cell? ⟨b, 0, none⟩ = some v0 ∧ w.cell? ⟨b, 1, none⟩ = some v1 ∧ w.cell? ⟨b, 2, none⟩ = some v2 ∧ w.cell? ⟨b, 3, none⟩ = some v3 := ⟨cell_at h 0, cell_at h 1, cell_at h 2, cell_at h 3⟩
theorem set4 {w : World} {b : Nat} {a0 a1 a2 a3 v0 v1 v2 v3 : Value} {T : TypeId} (h : w.heap[b]? = some (.cells #[a0, a1, a2, a3] T (0, 0))) : ((((w.setCell ⟨b, 0, none⟩ v0).setCell ⟨b, 1, none⟩ v1).setCell ⟨b, 2, none⟩ v2).setCell ⟨b, 3, none⟩ v3).heap[b]? = some (.cells #[v0, v1, v2, v3] T (0, 0)) := set_at (set_at (set_at (set_at h 0 v0) 1 v1) 2 v2) 3 v3
theorem turn4 (w : World) (b : Nat) (v0 v1 v2 v3 : Value) : Turn [b] w ((((w.setCell ⟨b, 0, none⟩ v0).setCell ⟨b, 1, none⟩ v1).setCell ⟨b, 2, none⟩ v2).setCell ⟨b, 3, none⟩ v3) := ((((Turn.refl [b] w).setCell (.inl (by simp)) v0).setCell (.inl (by simp)) v1).setCell (.inl (by simp)) v2).setCell (.inl (by simp)) v3
theorem typR_res {r : PS} (h : isW r [123] = false) : resR r = typR r ∧ resN r = typN r := by unfold resR resN; simp [h]
theorem typR_brace {r : PS} (h : isW r [123] = true) : resR r = r ∧ resN r = 0 := by unfold resR resN; simp [h]
end Go.Proofs.YtmihlmlojmdhjaaGreatDoor.Prg
/- The program's functions, walked. Condition: the reader is known. -/
namespace Go.Proofs.YtmihlmlojmdhjaaGreatDoor.Prg
open Go.RowKit Tre Prs
open Lex (Wd wdC wdV bs str Turn)
set_option maxRecDepth 100000
set_option linter.unusedSimpArgs false
variable {lo : Nat}
set_option maxHeartbeats 16000000 in
theorem function_any (w : World) (g : Nat) (r : PS) (h : InG lo w g r) :
    Calls Tryz.prog 81 #[.pointer (some ⟨g, 0, none⟩)] w (EvGF lo w g (fnD (mustP r wFunc))) := by
  have HG := Lib.hid h.rd.lt
  have HLO := Lib.hid h.rd.wlo
  have HB2 := Lib.hid (two_below w #[.string ⟨#[]⟩, .slice none 0 0, .int .u8 0, .slice none 0 0] #[.string ⟨#[]⟩, .slice none 0 0, .int .u8 0, .slice none 0 0] 36 36)
  have HN2 := Lib.hid (two_new_at w #[.string ⟨#[]⟩, .slice none 0 0, .int .u8 0, .slice none 0 0] #[.string ⟨#[]⟩, .slice none 0 0, .int .u8 0, .slice none 0 0] 36 36)
  have HI := Lib.hid (h.below HB2.out)
  have B0 : Hid (FB lo w ((w.alloc (.cells #[.string ⟨#[]⟩, .slice none 0 0, .int .u8 0, .slice none 0 0] 36)).alloc (.cells #[.string ⟨#[]⟩, .slice none 0 0, .int .u8 0, .slice none 0 0] 36)) g r ⟨#[]⟩ none 0 [] 0 none 0 []) := Lib.hid ⟨HI.out, HN2.out.2, HN2.out.1, Row.nil _ _ _ _, by simp, fun ad e => (by cases e), fun x hx => by simp at hx, Row.nil _ _ _ _, by simp, fun ad e => (by cases e), fun s hs => by simp at hs, fun s hs => by simp at hs, (Turn.refl [g] w).below HB2.out, nil_max, HG.out, HLO.out⟩
  have CM := Lib.hid (must_any _ g r [102, 117, 110, 99] HI.out.rd)
  obtain ⟨r1, hr1⟩ : ∃ r1, mustP r [102, 117, 110, 99] = r1 := ⟨_, rfl⟩
  rw [show mustP r wFunc = r1 from hr1]
  rw [hr1] at CM
  clear h HB2 HN2 HI hr1
  go_enter Tryz.func81, Tryz.ntmps81
  go_wp2_with fail
  refine CM.out.mono ?_
  rintro e w1 ⟨rfl, h1, h2⟩
  have B1 := Lib.hid (B0.out.turned h2 h1)
  clear h1 h2 CM B0
  have CN := Lib.hid (name_any w1 g r1 B1.out.rd.rd)
  have HSZ := Lib.hid (takeS_size B1.out.rd.rd [1]).1
  have HSD : Hid ((bs (takeW r1 [1]).s).data.toList = (takeW r1 [1]).s) := Lib.hid (Lex.bs_data _)
  obtain ⟨S, hS⟩ : ∃ S, bs (takeW r1 [1]).s = S := ⟨_, rfl⟩
  rw [hS] at CN HSZ HSD
  clear hS
  go_wp2_with fail
  refine CN.out.mono ?_
  rintro e w2 ⟨rfl, h1, h2⟩
  have B2 := Lib.hid (B1.out.turned h2 h1)
  have B3 := Lib.hid (B2.out.setS HSZ.out)
  clear h1 h2 CN B1
  have fe0 := free_at B2.out.at_ 0
  obtain ⟨z0, z1, z2, z3⟩ := four_at B2.out.at_
  try simp only [List.length_nil] at z1 z3
  obtain ⟨W3, hW3⟩ : ∃ W, w2.setCell ⟨w.heap.size + 1, 0, none⟩ (.string S) = W := ⟨_, rfl⟩
  rw [hW3] at B3
  have CL := Lib.hid (listp_any W3 g _ B3.out.rd.rd)
  go_wp2_with fail
  clear fe0 z0 z1 z2 z3 B2 hW3
  refine CL.out.mono ?_
  rintro e w4 ⟨pa, pc, xs, r4, rfl, ha, hrow, hlen, hnew, htxt, hr4, ht4⟩
  have HA := Lib.hid ha
  have HLEN := Lib.hid hlen
  have B4 := Lib.hid (B3.out.turned ht4 hr4)
  have B5 := Lib.hid (B3.out.setP (d := pc) hrow hlen hnew htxt hr4 ht4)
  clear ha hrow hnew htxt hr4 ht4 CL B3
  have fe1 := free_at B4.out.at_ 1
  obtain ⟨z0, z1, z2, z3⟩ := four_at B4.out.at_
  try simp only [List.length_nil] at z1 z3
  obtain ⟨W5, hW5⟩ : ∃ W, w4.setCell ⟨w.heap.size + 1, 1, none⟩ (.slice pa xs.length pc) = W := ⟨_, rfl⟩
  rw [hW5] at B5
  have CB := Lib.hid (bound_any W5 g r4 xs.length 4 4 rfl B5.out.rd.rd)
  obtain ⟨x0, x1, x2, x3⟩ := four_at B5.out.at_
  try simp only [List.length_nil] at x1 x3
  go_wp2_with fail
  clear fe1 z0 z1 z2 z3 x0 x1 x2 x3 B4 hW5
  refine CB.out.mono ?_
  rintro e w6 ⟨rfl, h1, h2⟩
  have B6 := Lib.hid (B5.out.turned h2 h1)
  clear h1 h2 CB B5
  have HQ := Lib.hid (fun (b : List Ts) (r6 : PS) (h' : Ag (tellS .block (resR (boundR r4 xs.length 4))) b r6) => ag_fn HA.out h')
  obtain ⟨r6, hr6⟩ : ∃ r6, boundR r4 xs.length 4 = r6 := ⟨_, rfl⟩
  rw [hr6] at B6 HQ
  clear hr6
  rcases Bool.eq_false_or_eq_true (isW r6 [123]) with hi | hi
  · have CA := Lib.hid (at_yes B6.out.rd.rd hi)
    rw [(typR_brace hi).1, (typR_brace hi).2] at HQ
    clear hi
    go_wp2_with fail
    refine CA.out.mono ?_
    rintro e v7 ⟨rfl, hb7⟩
    have B7 := Lib.hid (B6.out.below hb7)
    clear hb7 CA B6
    have CK := Lib.hid (blockG _ g _ B7.out.rd)
    go_wp2_with fail
    refine CK.out.mono ?_
    rintro e v8 ⟨ba, bc, l, r8, rfl, ha, hrow, hlen, hnew, hin, hnn, hr, ht⟩
    have HA8 := Lib.hid (HQ.out _ _ ha)
    have B9 := Lib.hid (B7.out.turned ht hr)
    have B10 := Lib.hid (B7.out.setB (d := bc) hrow hlen hnew hin hnn hr ht)
    clear ha hrow hlen hnew hin hnn hr ht CK B7
    have fe3 := free_at B9.out.at_ 3
    obtain ⟨z0, z1, z2, z3⟩ := four_at B9.out.at_
    try simp only [List.length_nil] at z1 z3
    obtain ⟨x0, x1, x2, x3⟩ := four_at B10.out.at_
    obtain ⟨y0, y1, y2, y3⟩ := four_at B9.out.res
    have f0 := free_at B9.out.res 0
    have f1 := free_at B9.out.res 1
    have f2 := free_at B9.out.res 2
    have f3 := free_at B9.out.res 3
    go_wp2_with fail
    have HT := Lib.hid (turn4 (v8.setCell ⟨w.heap.size + 1, 3, none⟩ (.slice ba l.length bc)) w.heap.size (.string S) (.slice pa xs.length pc) (.int .u8 0) (.slice ba l.length bc))
    refine bodyPost_ret (results_fn rfl _ _ w.heap.size _ _ _ _ rfl (set4 B10.out.res)) rfl ?_
    exact B10.out.done HT.out (by rw [HSD.out]; exact HA8.out)
  · have CA := Lib.hid (at_no B6.out.rd.rd hi)
    rw [(typR_res hi).1, (typR_res hi).2] at HQ
    clear hi
    go_wp2_with fail
    refine CA.out.mono ?_
    rintro e v6 ⟨rfl, hb7⟩
    have B7' := Lib.hid (B6.out.below hb7)
    clear hb7 CA B6
    have CT := Lib.hid (typed_any v6 g r6 B7'.out.rd.rd)
    go_wp2_with fail
    refine CT.out.mono ?_
    rintro e v5 ⟨rfl, h1, h2⟩
    have B7o := Lib.hid (B7'.out.turned h2 h1)
    have B7 := Lib.hid (B7o.out.setT (T' := typN r6))
    clear h1 h2 CT B7'
    have fe2 := free_at B7o.out.at_ 2
    obtain ⟨z0, z1, z2, z3⟩ := four_at B7o.out.at_
    try simp only [List.length_nil] at z1 z3
    obtain ⟨v7, hv7⟩ : ∃ W, v5.setCell ⟨w.heap.size + 1, 2, none⟩ (.int .u8 (typN r6)) = W := ⟨_, rfl⟩
    rw [hv7] at B7
    generalize typN r6 = T at *
    have CK := Lib.hid (blockG _ g _ B7.out.rd)
    go_wp2_with fail
    refine CK.out.mono ?_
    rintro e v8 ⟨ba, bc, l, r8, rfl, ha, hrow, hlen, hnew, hin, hnn, hr, ht⟩
    have HA8 := Lib.hid (HQ.out _ _ ha)
    have B9 := Lib.hid (B7.out.turned ht hr)
    have B10 := Lib.hid (B7.out.setB (d := bc) hrow hlen hnew hin hnn hr ht)
    clear ha hrow hlen hnew hin hnn hr ht CK B7
    have fe3 := free_at B9.out.at_ 3
    obtain ⟨z0, z1, z2, z3⟩ := four_at B9.out.at_
    try simp only [List.length_nil] at z1 z3
    obtain ⟨x0, x1, x2, x3⟩ := four_at B10.out.at_
    obtain ⟨y0, y1, y2, y3⟩ := four_at B9.out.res
    have f0 := free_at B9.out.res 0
    have f1 := free_at B9.out.res 1
    have f2 := free_at B9.out.res 2
    have f3 := free_at B9.out.res 3
    go_wp2_with fail
    have HT := Lib.hid (turn4 (v8.setCell ⟨w.heap.size + 1, 3, none⟩ (.slice ba l.length bc)) w.heap.size (.string S) (.slice pa xs.length pc) (.int .u8 T) (.slice ba l.length bc))
    refine bodyPost_ret (results_fn rfl _ _ w.heap.size _ _ _ _ rfl (set4 B10.out.res)) rfl ?_
    exact B10.out.done HT.out (by rw [HSD.out]; exact HA8.out)
end Go.Proofs.YtmihlmlojmdhjaaGreatDoor.Prg
/- A file that the program's parser builds, cell by cell. Condition: the reader is known. -/
namespace Go.Proofs.YtmihlmlojmdhjaaGreatDoor.Prg
open Go.RowKit Tre Prs
open Lex (Wd wdC wdV bs str Turn)
set_option maxRecDepth 100000
set_option linter.unusedSimpArgs false
variable {lo : Nat}
def txCT (s : List UInt8) : List Value := [.string (bs s)]
theorem txCT_len (s : List UInt8) : (txCT s).length = 1 := rfl
theorem txCT_one (s : List UInt8) : ∀ u ∈ txCT s, u.oneCell' = true := fun u hu => by
  simp only [txCT, List.mem_cons, List.not_mem_nil, or_false] at hu
  subst hu
  rfl
theorem infoT : (Tryz.prog.info? 9).map (fun i => (i.zero, i.size, i.bytes)) = some (some (.string ⟨#[]⟩), 1, 16) := by kernel_rfl
theorem infoF : (Tryz.prog.info? 36).map (fun i => (i.zero, i.size, i.bytes)) = some (some (.agg #[.string ⟨#[]⟩, .slice none 0 0, .int .u8 0, .slice none 0 0]), 4, 72) := by kernel_rfl
theorem fnC_len (f : Tre.Fn) : (fnC f).length = 4 := rfl
theorem fnC_one (f : Tre.Fn) : ∀ u ∈ fnC f, u.oneCell' = true := fun u hu => by
  simp only [fnC, List.mem_cons, List.not_mem_nil, or_false] at hu
  rcases hu with rfl | rfl | rfl | rfl <;> rfl
theorem app_tx (w : World) (b0 : Nat) (v : Value) (l : List (List UInt8)) (x : List UInt8) (eb : Nat) (h : OwnG 1 txCT 9 w b0 v l) (he : w.heap[eb]? = some (.cells #[.string (bs x)] 9 (0, 0))) (hl : l.length ≤ 1000000) (hlo : b0 ≤ w.heap.size) :
    ∃ v2 w2, (∀ ty, (Builtin.append_ #[22, 22] ty #[v, .slice (some ⟨eb, 0, none⟩) 1 1]).run Tryz.prog w = .ok v2 w2) ∧ OwnG 1 txCT 9 w2 b0 v2 (l ++ [x]) ∧ w.grownBy w2 v.ownBlock ∧ (v2.ownBlock = v.ownBlock ∨ v2.ownBlock = some w.heap.size) := by
  obtain ⟨i0, hi0, hz0, hz1, hz2⟩ := Lex.info_of infoT
  exact OwnG.app Tryz.underlying22 hi0 hz0 hz1 hz2 rfl (by decide) txCT_len txCT_one w v l x eb h he hl (by decide) hlo
theorem app_fn (w : World) (b0 : Nat) (v : Value) (l : List Tre.Fn) (x : Tre.Fn) (eb : Nat) (h : OwnG 4 fnC 36 w b0 v l) (he : w.heap[eb]? = some (.cells #[.string x.s, .slice x.pa x.p.length x.pc, .int .u8 x.r, .slice x.ba x.b.length x.bc] 36 (0, 0))) (hl : l.length ≤ 1000000) (hlo : b0 ≤ w.heap.size) :
    ∃ v2 w2, (∀ ty, (Builtin.append_ #[23, 23] ty #[v, .slice (some ⟨eb, 0, none⟩) 1 1]).run Tryz.prog w = .ok v2 w2) ∧ OwnG 4 fnC 36 w2 b0 v2 (l ++ [x]) ∧ w.grownBy w2 v.ownBlock ∧ (v2.ownBlock = v.ownBlock ∨ v2.ownBlock = some w.heap.size) := by
  obtain ⟨i0, hi0, hz0, hz1, hz2⟩ := Lex.info_of infoF
  exact OwnG.app Tryz.underlying23 hi0 hz0 hz1 hz2 rfl (by decide) fnC_len fnC_one w v l x eb h he hl (by decide) hlo
theorem row_tx {w : World} {A : Option Addr} {xs : List (List UInt8)} (h : Row 1 txCT w A xs) : Row 1 txC w A (xs.map bs) := fun h0 => by
  obtain ⟨b, o, e, hlt, hc⟩ := h (by simpa using h0)
  refine ⟨b, o, e, hlt, fun j x hx r u hu => ?_⟩
  rw [List.getElem?_map] at hx
  obtain ⟨t, ht, rfl⟩ := Option.map_eq_some_iff.1 hx
  exact hc j t ht r u hu
theorem core_tx (xs : List (List UInt8)) : (xs.map bs).map (·.data.toList) = xs := by
  rw [List.map_map]
  conv => rhs; rw [← List.map_id xs]
  exact List.map_congr_left fun t _ => Lex.bs_data t
def OffF (L : List Nat) (f : Tre.Fn) : Prop := (0 < f.p.length → ∀ k o, f.pa = some ⟨k, o, none⟩ → k ∉ L) ∧ (0 < f.b.length → ∀ k o, f.ba = some ⟨k, o, none⟩ → k ∉ L) ∧ ∀ s ∈ f.b, OffS L s
theorem FnIn.off {L : List Nat} {w w' : World} {f : Tre.Fn} (h : FnIn w f) (ho : OffF L f) (ht : Turn L w w') : FnIn w' f :=
  ⟨fun h0 => Row.kept h.p ht.size (fun k o e hlt => ht.block k hlt (ho.1 h0 k o e)) h0, fun h0 => Row.kept h.b ht.size (fun k o e hlt => ht.block k hlt (ho.2.1 h0 k o e)) h0, fun s hs => StIn.off (h.sts s hs) (ho.2.2 s hs) ht, h.plen, h.blen, h.s, h.ps⟩
theorem NewF.off {n : Nat} {L : List Nat} {f : Tre.Fn} (h : NewF n f) (hL : ∀ k ∈ L, k < n) : OffF L f :=
  ⟨fun _ k o e hm => by have := h.1 _ e; have := hL _ hm; simp at *; omega, fun _ k o e hm => by have := h.2.1 _ e; have := hL _ hm; simp at *; omega, fun s hs => (h.2.2 s hs).off hL⟩
theorem FnIn.fresh {w : World} {f : Tre.Fn} (h : FnIn w f) : OffF [w.heap.size] f := by
  refine ⟨fun h0 k o e hm => ?_, fun h0 k o e hm => ?_, fun s hs => StIn.fresh (h.sts s hs)⟩
  · obtain ⟨b', o', e', hlt, _⟩ := h.p h0
    rw [e] at e'
    injection e' with e'
    injection e' with e1
    simp at hm
    omega
  · obtain ⟨b', o', e', hlt, _⟩ := h.b h0
    rw [e] at e'
    injection e' with e'
    injection e' with e1
    simp at hm
    omega
/-- All of the file's rows lie from block n on. -/
def NewFl (n : Nat) (f : Fl) : Prop := (∀ ad, f.ia = some ad → n ≤ ad.block) ∧ (∀ ad, f.fa = some ad → n ≤ ad.block) ∧ ∀ g ∈ f.f, NewF n g
theorem FlIn.off {n : Nat} {L : List Nat} {w w' : World} {f : Fl} (h : FlIn w f) (hn : NewFl n f) (hL : ∀ k ∈ L, k < n) (ht : Turn L w w') : FlIn w' f :=
  ⟨Row.kept h.irow ht.size (fun k o e hlt => ht.block k hlt (fun hm => by have := hn.1 _ e; have := hL _ hm; simp at *; omega)), Row.kept h.frow ht.size (fun k o e hlt => ht.block k hlt (fun hm => by have := hn.2.1 _ e; have := hL _ hm; simp at *; omega)), fun g hg => FnIn.off (h.fns g hg) ((hn.2.2 g hg).off hL) ht, h.ilen, h.flen, h.s, h.is⟩
def EvGL (lo : Nat) (w : World) (g : Nat) (q : Tl × PS) (e : Ending) (w' : World) : Prop := ∃ (f : Fl) (r' : PS), e = .returned (flV f) ∧ AgE q (coreL f) r' ∧ FlIn w' f ∧ NewFl w.heap.size f ∧ RdG lo w' g r' ∧ Turn [g] w w'
/-- The file in the block behind the result's. -/
structure FlB (lo : Nat) (w W : World) (g : Nat) (r : PS) (S : ByteArray) (ia : Option Addr) (ic : Nat) (is : List (List UInt8)) (fa : Option Addr) (fc : Nat) (fs : List Tre.Fn) : Prop where
  rd : InG lo W g r
  at_ : W.heap[w.heap.size + 1]? = some (.cells #[.string S, .slice ia is.length ic, .slice fa fs.length fc] 25 (0, 0))
  res : W.heap[w.heap.size]? = some (.cells #[.string ⟨#[]⟩, .slice none 0 0, .slice none 0 0] 25 (0, 0))
  iown : OwnG 1 txCT 9 W (w.heap.size + 2) (.slice ia is.length ic) is
  fown : OwnG 4 fnC 36 W (w.heap.size + 2) (.slice fa fs.length fc) fs
  apart : ∀ b, (Value.slice fa fs.length fc).ownBlock = some b → (Value.slice ia is.length ic).ownBlock ≠ some b
  fin : ∀ f ∈ fs, FnIn W f
  fnew : ∀ f ∈ fs, NewF (w.heap.size + 2) f
  foff : ∀ f ∈ fs, ∀ b, (Value.slice fa fs.length fc).ownBlock = some b → OffF [b] f
  itxt : ∀ s ∈ is, s.length ≤ 1000000
  turn : Turn [g] w W
  hs : S.size ≤ maxLen
  g : g < w.heap.size
  lo : lo ≤ w.heap.size
section
variable {w W : World} {g : Nat} {r : PS} {S : ByteArray} {ia : Option Addr} {ic : Nat} {is : List (List UInt8)} {fa : Option Addr} {fc : Nat} {fs : List Tre.Fn}
theorem FlB.keep {W' : World} {L : List Nat} (h : FlB lo w W g r S ia ic is fa fc fs) (ht : Turn L W W') (hL : ∀ k ∈ L, k < w.heap.size + 2) : OwnG 1 txCT 9 W' (w.heap.size + 2) (.slice ia is.length ic) is ∧ OwnG 4 fnC 36 W' (w.heap.size + 2) (.slice fa fs.length fc) fs ∧ ∀ f ∈ fs, FnIn W' f :=
  ⟨h.iown.keep fun b hb => ht.block b (h.iown.lt b hb).2 (fun hm => by have := (h.iown.lt b hb).1; have := hL _ hm; omega), h.fown.keep fun b hb => ht.block b (h.fown.lt b hb).2 (fun hm => by have := (h.fown.lt b hb).1; have := hL _ hm; omega), fun f hf => FnIn.off (h.fin f hf) ((h.fnew f hf).off hL) ht⟩
theorem FlB.turned {W' : World} {r' : PS} (h : FlB lo w W g r S ia ic is fa fc fs) (ht : Turn [g] W W') (hr : RdG lo W' g r') : FlB lo w W' g r' S ia ic is fa fc fs := by
  have hg := h.g
  obtain ⟨k1, k2, k3⟩ := h.keep ht (fun k hk => by simp at hk; omega)
  exact ⟨h.rd.step ht hr, (ht.block _ (lt_of_heap h.at_) (by simp; omega)).trans h.at_, (ht.block _ (lt_of_heap h.res) (by simp; omega)).trans h.res, k1, k2, h.apart, k3, h.fnew, h.foff, h.itxt, h.turn.trans ht, h.hs, hg, h.lo⟩
theorem FlB.below {W' : World} (h : FlB lo w W g r S ia ic is fa fc fs) (hb : Below W.heap.size W W') : FlB lo w W' g r S ia ic is fa fc fs := h.turned ((Turn.refl [g] W).below hb) (h.rd.rd.below hb)
theorem FlB.setS {S' : ByteArray} (h : FlB lo w W g r S ia ic is fa fc fs) (hs : S'.size ≤ maxLen) : FlB lo w (W.setCell ⟨w.heap.size + 1, 0, none⟩ (.string S')) g r S' ia ic is fa fc fs := by
  have hg := h.g
  have ht := turn1 W (w.heap.size + 1) 0 (.string S')
  obtain ⟨k1, k2, k3⟩ := h.keep ht (fun k hk => by simp at hk; omega)
  exact ⟨h.rd.but ht (by have := h.lo; omega), set_at h.at_ 0 (.string S'), (ht.block _ (lt_of_heap h.res) (by simp)).trans h.res, k1, k2, h.apart, k3, h.fnew, h.foff, h.itxt, h.turn.then_ ht (fun k hk => by simp at hk; subst hk; exact .inr (by omega)), hs, hg, h.lo⟩
/-- One import more. -/
theorem FlB.pushI {y : List UInt8} (h : FlB lo w W g r S ia ic is none 0 []) (hy : y.length ≤ 1000000) (hl : is.length ≤ 1000000) :
    ∃ A2 c2 u2, (∀ ty, (Builtin.append_ #[22, 22] ty #[.slice ia is.length ic, .slice (some ⟨W.heap.size, 0, none⟩) 1 1]).run Tryz.prog (W.alloc (.cells #[.string (bs y)] 9)) = .ok (.slice A2 (is ++ [y]).length c2) u2) ∧
      u2.heap[w.heap.size + 1]? = some (.cells #[.string S, .slice ia is.length ic, .slice none 0 0] 25 (0, 0)) ∧ FlB lo w (u2.setCell ⟨w.heap.size + 1, 1, none⟩ (.slice A2 (is ++ [y]).length c2)) g r S A2 c2 (is ++ [y]) none 0 [] := by
  have hb3 := ball_new W #[.string (bs y)] 9
  have hn3 := new_at W #[.string (bs y)] 9
  have h3 := h.below hb3
  have hsz := lt_of_heap h3.at_
  obtain ⟨vv, u2, hap, how, hgr, hbo⟩ := app_tx _ (w.heap.size + 2) (.slice ia is.length ic) is y W.heap.size h3.iown hn3 hl (by omega)
  obtain ⟨A2, c2, rfl, -⟩ := how.form
  have T2 : Turn (Value.slice ia is.length ic).ownBlock.toList (W.alloc (.cells #[.string (bs y)] 9)) u2 := (Turn.refl _ _).grown hgr (fun k hk => .inl (by simp [hk]))
  have hlo2 : ∀ b ∈ (Value.slice ia is.length ic).ownBlock.toList, w.heap.size + 2 ≤ b := fun b hb => (h3.iown.lt b (by simpa using hb)).1
  have ha := (T2.block _ (lt_of_heap h3.at_) (fun hm => by have := hlo2 _ hm; omega)).trans h3.at_
  have hr := (T2.block _ (lt_of_heap h3.res) (fun hm => by have := hlo2 _ hm; omega)).trans h3.res
  have t1 := turn1 u2 (w.heap.size + 1) 1 (.slice A2 (is ++ [y]).length c2)
  have hg := h.g
  have hlo := h.lo
  refine ⟨A2, c2, u2, hap, ha, (h3.rd.buts T2 (fun b hb => by have := hlo2 b hb; omega)).but t1 (by omega), set_at ha 1 _, (t1.block _ (lt_of_heap hr) (by simp)).trans hr, how.keep fun b hb => t1.block b (how.lt b hb).2 (by have := (how.lt b hb).1; simp; omega), OwnG.nil _ _, (fun b e => by cases e), (fun f hf => by simp at hf), (fun f hf => by simp at hf), (fun f hf => by simp at hf), fun s hs => ?_, (h3.turn.then_ T2 (fun k hk => .inr (by have := hlo2 k hk; omega))).then_ t1 (fun k hk => by simp at hk; subst hk; exact .inr (by omega)), h.hs, hg, hlo⟩
  rcases List.mem_append.1 hs with hs | hs
  · exact h.itxt s hs
  · obtain rfl : s = y := by simpa using hs
    exact hy
/-- One function more. -/
theorem FlB.pushF {y : Tre.Fn} {n0 : Nat} (h : FlB lo w W g r S ia ic is fa fc fs) (hy : FnIn W y) (hn : NewF n0 y) (hn0 : ∀ b, (Value.slice fa fs.length fc).ownBlock = some b → b < n0) (hw : w.heap.size + 2 ≤ n0) (hl : fs.length ≤ 1000000) :
    ∃ A2 c2 u2, (∀ ty, (Builtin.append_ #[23, 23] ty #[.slice fa fs.length fc, .slice (some ⟨W.heap.size, 0, none⟩) 1 1]).run Tryz.prog (W.alloc (.cells #[.string y.s, .slice y.pa y.p.length y.pc, .int .u8 y.r, .slice y.ba y.b.length y.bc] 36)) = .ok (.slice A2 (fs ++ [y]).length c2) u2) ∧
      u2.heap[w.heap.size + 1]? = some (.cells #[.string S, .slice ia is.length ic, .slice fa fs.length fc] 25 (0, 0)) ∧ FlB lo w (u2.setCell ⟨w.heap.size + 1, 2, none⟩ (.slice A2 (fs ++ [y]).length c2)) g r S ia ic is A2 c2 (fs ++ [y]) := by
  have hb3 := ball_new W #[.string y.s, .slice y.pa y.p.length y.pc, .int .u8 y.r, .slice y.ba y.b.length y.bc] 36
  have hn3 := new_at W #[.string y.s, .slice y.pa y.p.length y.pc, .int .u8 y.r, .slice y.ba y.b.length y.bc] 36
  have h3 := h.below hb3
  have hsz := lt_of_heap h3.at_
  obtain ⟨vv, u2, hap, how, hgr, hbo⟩ := app_fn _ (w.heap.size + 2) (.slice fa fs.length fc) fs y W.heap.size h3.fown hn3 hl (by omega)
  obtain ⟨A2, c2, rfl, -⟩ := how.form
  have T2 : Turn (Value.slice fa fs.length fc).ownBlock.toList (W.alloc (.cells #[.string y.s, .slice y.pa y.p.length y.pc, .int .u8 y.r, .slice y.ba y.b.length y.bc] 36)) u2 := (Turn.refl _ _).grown hgr (fun k hk => .inl (by simp [hk]))
  have hlo2 : ∀ b ∈ (Value.slice fa fs.length fc).ownBlock.toList, w.heap.size + 2 ≤ b := fun b hb => (h3.fown.lt b (by simpa using hb)).1
  have ha := (T2.block _ (lt_of_heap h3.at_) (fun hm => by have := hlo2 _ hm; omega)).trans h3.at_
  have hr := (T2.block _ (lt_of_heap h3.res) (fun hm => by have := hlo2 _ hm; omega)).trans h3.res
  have t1 := turn1 u2 (w.heap.size + 1) 2 (.slice A2 (fs ++ [y]).length c2)
  have hg := h.g
  have hlo := h.lo
  have hy3 : FnIn (W.alloc (.cells #[.string y.s, .slice y.pa y.p.length y.pc, .int .u8 y.r, .slice y.ba y.b.length y.bc] 36)) y := Tre.FnIn.below hy hb3
  have hin : ∀ f ∈ fs ++ [y], FnIn (W.alloc (.cells #[.string y.s, .slice y.pa y.p.length y.pc, .int .u8 y.r, .slice y.ba y.b.length y.bc] 36)) f := fun f hf => by
    rcases List.mem_append.1 hf with hf | hf
    · exact h3.fin f hf
    · obtain rfl : f = y := by simpa using hf
      exact hy3
  have hnew : ∀ f ∈ fs ++ [y], NewF (w.heap.size + 2) f := fun f hf => by
    rcases List.mem_append.1 hf with hf | hf
    · exact h3.fnew f hf
    · obtain rfl : f = y := by simpa using hf
      exact hn.mono hw
  have hoff : ∀ f ∈ fs ++ [y], ∀ b, (Value.slice fa fs.length fc).ownBlock = some b → OffF [b] f := fun f hf b e => by
    rcases List.mem_append.1 hf with hf | hf
    · exact h3.foff f hf b e
    · obtain rfl : f = y := by simpa using hf
      exact hn.off (fun k hk => by simp at hk; subst hk; exact hn0 _ e)
  have hoffL : ∀ f ∈ fs ++ [y], OffF (Value.slice fa fs.length fc).ownBlock.toList f := fun f hf => by
    cases ho : (Value.slice fa fs.length fc).ownBlock with
    | none => exact ⟨fun _ _ _ _ hm => by simp at hm, fun _ _ _ _ hm => by simp at hm, fun s hs y hy => ⟨fun _ _ _ _ _ _ h => by simp at h, fun _ _ _ _ h => by simp at h, fun _ _ _ _ h => by simp at h⟩⟩
    | some b => exact hoff f hf b ho
  have hin2 : ∀ f ∈ fs ++ [y], FnIn u2 f := fun f hf => FnIn.off (hin f hf) (hoffL f hf) T2
  have hi2 : OwnG 1 txCT 9 u2 (w.heap.size + 2) (.slice ia is.length ic) is := h3.iown.keep fun b hb => T2.block b (h3.iown.lt b hb).2 (fun hm => h.apart b (by simpa using hm) hb)
  refine ⟨A2, c2, u2, hap, ha, (h3.rd.buts T2 (fun b hb => by have := hlo2 b hb; omega)).but t1 (by omega), set_at ha 2 _, (t1.block _ (lt_of_heap hr) (by simp)).trans hr, hi2.keep fun b hb => t1.block b (hi2.lt b hb).2 (by have := (hi2.lt b hb).1; simp; omega), how.keep fun b hb => t1.block b (how.lt b hb).2 (by have := (how.lt b hb).1; simp; omega), fun b e => ?_, fun f hf => FnIn.off (hin2 f hf) ((hnew f hf).off (fun k hk => by simp at hk; omega)) t1, hnew, fun f hf b e => ?_, h.itxt, (h3.turn.then_ T2 (fun k hk => .inr (by have := hlo2 k hk; omega))).then_ t1 (fun k hk => by simp at hk; subst hk; exact .inr (by omega)), h.hs, hg, hlo⟩
  · rcases hbo with e2 | e2
    · exact h.apart b (e2.symm.trans e)
    · rw [e2] at e
      injection e with e
      subst e
      intro e3
      have := (h3.iown.lt _ e3).2
      omega
  · rcases hbo with e2 | e2
    · exact hoff f hf b (e2.symm.trans e)
    · rw [e2] at e
      injection e with e
      subst e
      exact FnIn.fresh (hin f hf)
theorem FlB.done {W' : World} {q : Tl × PS} (h : FlB lo w W g r S ia ic is fa fc fs) (ht : Turn [w.heap.size] W W') (hi : is.length ≤ 200000) (hf : fs.length ≤ 200000) (hq : AgE q ⟨S.data.toList, is, fs.map coreF⟩ r) : EvGL lo w g q (.returned (.agg #[.string S, .slice ia is.length ic, .slice fa fs.length fc])) W' := by
  obtain ⟨k1, k2, k3⟩ := h.keep ht (fun k hk => by simp at hk; omega)
  refine ⟨⟨S, ia, ic, is.map bs, fa, fc, fs⟩, r, by simp [flV], ?_, ⟨row_tx (k1.row txCT_len), k2.row fnC_len, k3, by rw [List.length_map]; unfold most; omega, by show fs.length ≤ most; unfold most; omega, h.hs, fun s hs => ?_⟩, ⟨fun ad e => ?_, fun ad e => ?_, fun f hf => (h.fnew f hf).mono (by omega)⟩, h.rd.rd.but ht h.lo, h.turn.then_ ht (fun k hk => by simp at hk; subst hk; exact .inr (Nat.le_refl _))⟩
  · unfold coreL
    rw [core_tx]
    exact hq
  · obtain ⟨t, ht, rfl⟩ := List.mem_map.1 hs
    show (bs t).size ≤ maxLen
    rw [Lex.bs_size]
    have := h.itxt t ht
    unfold maxLen
    omega
  · dsimp only at e
    subst e
    have := (h.iown.lt ad.block rfl).1
    omega
  · dsimp only at e
    subst e
    have := (h.fown.lt ad.block rfl).1
    omega
end
theorem results_fl {fn : Func} {p : Tmp} (h : fn.results = #[.cell p 25]) (tmps : Array Value) (w : World) (g : Nat) (v0 v1 v2 : Value) (hv : tmps.getD p undef = .pointer (some ⟨g, 0, none⟩)) (hc : w.heap[g]? = some (.cells #[v0, v1, v2] 25 (0, 0))) :
    (results fn tmps).run Tryz.prog w = .ok (.agg #[v0, v1, v2]) w := by
  have a4 := Tryz.isAgg25
  have z4 := Tryz.sizeOf25
  obtain ⟨c0, c1, c2⟩ := three_at hc
  simp only [Array.getD_eq_getD_getElem?] at hv
  unfold results
  rw [h]
  go_simp
theorem at_appG (L : TypeId) {P : Program} {ops : Array Oper} {Q : Exit → Act → World → Prop} {md : Region.Mode} {S : World → Prop} {nn fuel : Nat} {listed : Array Bool} {a : Act} {w : World} {oi : Oper} (i d : Nat) (v2 : Value) (w' : World) (hi : ops[i]? = some oi) (hd : oi.dst = some d) (hr : Region.ready md ops listed = [i]) (hin : i < nn) (hw : Region.wanted oi (yielded ops a.tmps) = true) (s x : Operand)
    (ho : oi.op = .call { callee := .builtin .append, args := #[s, x], argTypes := #[L, L] }) (v u : Value) (hs : a.eval s = v) (hx : a.eval x = u) (hrun : ∀ ty, (Builtin.append_ #[L, L] ty #[v, u]).run P w = .ok v2 w') (hS : S w')
    (h : Lex.AtS P md ops Q S nn fuel (listed.setIfInBounds i true) (a.put (some d) v2) w') : Lex.AtS P md ops Q S nn (fuel + 1) listed a w := by
  refine Lex.at_run i d v2 w' hi hd hr hin hw ?_ hS h
  unfold execOp
  simp only [ho, resolve, invoke, builtin, Sem.run_bind, Sem.run_pure, Result.andThen_ok, List.map_toArray, List.map_cons, List.map_nil, hs, hx, hrun]
end Go.Proofs.YtmihlmlojmdhjaaGreatDoor.Prg
