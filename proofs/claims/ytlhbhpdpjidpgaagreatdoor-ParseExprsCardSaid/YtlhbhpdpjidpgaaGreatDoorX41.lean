/-
  A file that the document's parser builds, cell by cell. No condition.
-/
import Derived.Test.YtlhbhpdpjidpgaaGreatDoorX31
import Derived.Test.YtlhbhpdpjidpgaaGreatDoorX37
import Derived.Test.YtlhbhpdpjidpgaaGreatDoorX39
import Derived.Test.YtlhbhpdpjidpgaaGreatDoorX40
import Derived.Deep.DeepCutAuto
namespace Go.Proofs.YtlhbhpdpjidpgaaGreatDoor.Prs
open Go.RowKit Tre Prg
open Lex (Wd wdC wdV bs str Turn)
set_option maxRecDepth 100000
set_option linter.unusedSimpArgs false
variable {lo : Nat}
/-- The file in block fb. -/
structure LD (lo : Nat) (w W : World) (g fb : Nat) (r : PS) (S : ByteArray) (ia : Option Addr) (ic : Nat) (is : List (List UInt8)) (fa : Option Addr) (fc : Nat) (fs : List Tre.Fn) : Prop where
  rd : RdM lo W g r
  at_ : W.heap[fb]? = some (.cells #[.string S, .slice ia is.length ic, .slice fa fs.length fc] 26 (0, 0))
  res : W.heap[w.heap.size]? = some (.cells #[.string ⟨#[]⟩, .slice none 0 0, .slice none 0 0] 26 (0, 0))
  iown : OwnG 1 txCT 9 W (fb + 1) (.slice ia is.length ic) is
  fown : OwnG 4 fnC 51 W (fb + 1) (.slice fa fs.length fc) fs
  apart : ∀ b, (Value.slice fa fs.length fc).ownBlock = some b → (Value.slice ia is.length ic).ownBlock ≠ some b
  fin : ∀ f ∈ fs, FnIn W f
  fnew : ∀ f ∈ fs, NewF (fb + 1) f
  foff : ∀ f ∈ fs, ∀ b, (Value.slice fa fs.length fc).ownBlock = some b → OffF [b] f
  itxt : ∀ s ∈ is, s.length ≤ 1000000
  low : Below w.heap.size w W
  hs : S.size ≤ maxLen
  hg : w.heap.size < g
  hi : g < fb
  lo : lo ≤ fb
theorem below_turn {w W W' : World} {L : List Nat} (h : Below w.heap.size w W) (ht : Turn L W W') (hL : ∀ k ∈ L, w.heap.size ≤ k) : Below w.heap.size w W' :=
  ⟨ht.os.trans h.os, ht.tape.trans h.tape, ht.output.trans h.output, Nat.le_trans h.size ht.size, fun b hb => (ht.block b (Nat.lt_of_lt_of_le hb h.size) (fun hm => by have := hL b hm; omega)).trans (h.block b hb)⟩
section
variable {w W : World} {g fb : Nat} {r : PS} {S : ByteArray} {ia : Option Addr} {ic : Nat} {is : List (List UInt8)} {fa : Option Addr} {fc : Nat} {fs : List Tre.Fn}
theorem LD.keep {W' : World} {L : List Nat} (h : LD lo w W g fb r S ia ic is fa fc fs) (ht : Turn L W W') (hL : ∀ k ∈ L, k < fb + 1) : OwnG 1 txCT 9 W' (fb + 1) (.slice ia is.length ic) is ∧ OwnG 4 fnC 51 W' (fb + 1) (.slice fa fs.length fc) fs ∧ ∀ f ∈ fs, FnIn W' f :=
  ⟨h.iown.keep fun b hb => ht.block b (h.iown.lt b hb).2 (fun hm => by have := (h.iown.lt b hb).1; have := hL _ hm; omega), h.fown.keep fun b hb => ht.block b (h.fown.lt b hb).2 (fun hm => by have := (h.fown.lt b hb).1; have := hL _ hm; omega), fun f hf => FnIn.off (h.fin f hf) ((h.fnew f hf).off hL) ht⟩
theorem LD.turned {W' : World} {r' : PS} (h : LD lo w W g fb r S ia ic is fa fc fs) (ht : Turn [g] W W') (hr : RdM lo W' g r') : LD lo w W' g fb r' S ia ic is fa fc fs := by
  have hg := h.hg
  have hi := h.hi
  obtain ⟨k1, k2, k3⟩ := h.keep ht (fun k hk => by simp at hk; omega)
  exact ⟨hr, (ht.block _ (lt_of_heap h.at_) (by simp; omega)).trans h.at_, (ht.block _ (lt_of_heap h.res) (by simp; omega)).trans h.res, k1, k2, h.apart, k3, h.fnew, h.foff, h.itxt, below_turn h.low ht (fun k hk => by simp at hk; omega), h.hs, hg, hi, h.lo⟩
theorem LD.below {W' : World} (h : LD lo w W g fb r S ia ic is fa fc fs) (hb : Below W.heap.size W W') : LD lo w W' g fb r S ia ic is fa fc fs := h.turned ((Turn.refl [g] W).below hb) (h.rd.below hb)
theorem LD.setS {S' : ByteArray} (h : LD lo w W g fb r S ia ic is fa fc fs) (hs : S'.size ≤ maxLen) : LD lo w (W.setCell ⟨fb, 0, none⟩ (.string S')) g fb r S' ia ic is fa fc fs := by
  have hg := h.hg
  have hi := h.hi
  have ht := turn1 W fb 0 (.string S')
  obtain ⟨k1, k2, k3⟩ := h.keep ht (fun k hk => by simp at hk; omega)
  exact ⟨h.rd.but ht h.lo, set_at h.at_ 0 (.string S'), (ht.block _ (lt_of_heap h.res) (by simp; omega)).trans h.res, k1, k2, h.apart, k3, h.fnew, h.foff, h.itxt, below_turn h.low ht (fun k hk => by simp at hk; omega), hs, hg, hi, h.lo⟩
/-- One import more. -/
theorem LD.pushI {y : List UInt8} (h : LD lo w W g fb r S ia ic is none 0 []) (hy : y.length ≤ 1000000) (hl : is.length ≤ 1000000) :
    ∃ A2 c2 u2, (∀ ty, (Builtin.append_ #[23, 23] ty #[.slice ia is.length ic, .slice (some ⟨W.heap.size, 0, none⟩) 1 1]).run Tryz.prog (W.alloc (.cells #[.string (bs y)] 9)) = .ok (.slice A2 (is ++ [y]).length c2) u2) ∧
      u2.heap[fb]? = some (.cells #[.string S, .slice ia is.length ic, .slice none 0 0] 26 (0, 0)) ∧ LD lo w (u2.setCell ⟨fb, 1, none⟩ (.slice A2 (is ++ [y]).length c2)) g fb r S A2 c2 (is ++ [y]) none 0 [] := by
  have hb3 := ball_new W #[.string (bs y)] 9
  have hn3 := new_at W #[.string (bs y)] 9
  have h3 := h.below hb3
  have hsz := lt_of_heap h3.at_
  obtain ⟨vv, u2, hap, how, hgr, hbo⟩ := app_tx _ (fb + 1) (.slice ia is.length ic) is y W.heap.size h3.iown hn3 hl (by omega)
  obtain ⟨A2, c2, rfl, -⟩ := how.form
  have T2 : Turn (Value.slice ia is.length ic).ownBlock.toList (W.alloc (.cells #[.string (bs y)] 9)) u2 := (Turn.refl _ _).grown hgr (fun k hk => .inl (by simp [hk]))
  have hlo2 : ∀ b ∈ (Value.slice ia is.length ic).ownBlock.toList, fb + 1 ≤ b := fun b hb => (h3.iown.lt b (by simpa using hb)).1
  have ha := (T2.block _ (lt_of_heap h3.at_) (fun hm => by have := hlo2 _ hm; omega)).trans h3.at_
  have hg := h.hg
  have hi := h.hi
  have hlo := h.lo
  have hr := (T2.block _ (lt_of_heap h3.res) (fun hm => by have := hlo2 _ hm; omega)).trans h3.res
  have t1 := turn1 u2 fb 1 (.slice A2 (is ++ [y]).length c2)
  refine ⟨A2, c2, u2, hap, ha, (h3.rd.buts T2 (fun b hb => by have := hlo2 b hb; omega)).but t1 (by omega), set_at ha 1 _, (t1.block _ (lt_of_heap hr) (by simp; omega)).trans hr, how.keep fun b hb => t1.block b (how.lt b hb).2 (by have := (how.lt b hb).1; simp; omega), OwnG.nil _ _, (fun b e => by cases e), (fun f hf => by simp at hf), (fun f hf => by simp at hf), (fun f hf => by simp at hf), fun s hs => ?_, below_turn (below_turn h3.low T2 (fun k hk => by have := hlo2 k hk; omega)) t1 (fun k hk => by simp at hk; omega), h.hs, hg, hi, hlo⟩
  rcases List.mem_append.1 hs with hs | hs
  · exact h.itxt s hs
  · obtain rfl : s = y := by simpa using hs
    exact hy
/-- One function more. -/
theorem LD.pushF {y : Tre.Fn} {n0 : Nat} (h : LD lo w W g fb r S ia ic is fa fc fs) (hy : FnIn W y) (hn : NewF n0 y) (hn0 : ∀ b, (Value.slice fa fs.length fc).ownBlock = some b → b < n0) (hw : fb + 1 ≤ n0) (hl : fs.length ≤ 1000000) :
    ∃ A2 c2 u2, (∀ ty, (Builtin.append_ #[24, 24] ty #[.slice fa fs.length fc, .slice (some ⟨W.heap.size, 0, none⟩) 1 1]).run Tryz.prog (W.alloc (.cells #[.string y.s, .slice y.pa y.p.length y.pc, .int .u8 y.r, .slice y.ba y.b.length y.bc] 51)) = .ok (.slice A2 (fs ++ [y]).length c2) u2) ∧
      u2.heap[fb]? = some (.cells #[.string S, .slice ia is.length ic, .slice fa fs.length fc] 26 (0, 0)) ∧ LD lo w (u2.setCell ⟨fb, 2, none⟩ (.slice A2 (fs ++ [y]).length c2)) g fb r S ia ic is A2 c2 (fs ++ [y]) := by
  have hb3 := ball_new W #[.string y.s, .slice y.pa y.p.length y.pc, .int .u8 y.r, .slice y.ba y.b.length y.bc] 51
  have hn3 := new_at W #[.string y.s, .slice y.pa y.p.length y.pc, .int .u8 y.r, .slice y.ba y.b.length y.bc] 51
  have h3 := h.below hb3
  have hsz := lt_of_heap h3.at_
  obtain ⟨vv, u2, hap, how, hgr, hbo⟩ := app_fn _ (fb + 1) (.slice fa fs.length fc) fs y W.heap.size h3.fown hn3 hl (by omega)
  obtain ⟨A2, c2, rfl, -⟩ := how.form
  have T2 : Turn (Value.slice fa fs.length fc).ownBlock.toList (W.alloc (.cells #[.string y.s, .slice y.pa y.p.length y.pc, .int .u8 y.r, .slice y.ba y.b.length y.bc] 51)) u2 := (Turn.refl _ _).grown hgr (fun k hk => .inl (by simp [hk]))
  have hlo2 : ∀ b ∈ (Value.slice fa fs.length fc).ownBlock.toList, fb + 1 ≤ b := fun b hb => (h3.fown.lt b (by simpa using hb)).1
  have ha := (T2.block _ (lt_of_heap h3.at_) (fun hm => by have := hlo2 _ hm; omega)).trans h3.at_
  have hg := h.hg
  have hi := h.hi
  have hlo := h.lo
  have hr := (T2.block _ (lt_of_heap h3.res) (fun hm => by have := hlo2 _ hm; omega)).trans h3.res
  have t1 := turn1 u2 fb 2 (.slice A2 (fs ++ [y]).length c2)
  have hin : ∀ f ∈ fs ++ [y], FnIn (W.alloc (.cells #[.string y.s, .slice y.pa y.p.length y.pc, .int .u8 y.r, .slice y.ba y.b.length y.bc] 51)) f := fun f hf => by
    rcases List.mem_append.1 hf with hf | hf
    · exact h3.fin f hf
    · obtain rfl : f = y := by simpa using hf
      exact Tre.FnIn.below hy hb3
  have hnew : ∀ f ∈ fs ++ [y], NewF (fb + 1) f := fun f hf => by
    rcases List.mem_append.1 hf with hf | hf
    · exact h3.fnew f hf
    · obtain rfl : f = y := by simpa using hf
      exact hn.mono hw
  have hoff : ∀ f ∈ fs ++ [y], ∀ b, (Value.slice fa fs.length fc).ownBlock = some b → OffF [b] f := fun f hf b e => by
    rcases List.mem_append.1 hf with hf | hf
    · exact h3.foff f hf b e
    · obtain rfl : f = y := by simpa using hf
      exact hn.off (fun k hk => by simp at hk; subst hk; exact hn0 _ e)
  have hoffL : ∀ f ∈ fs ++ [y], OffF (Value.slice fa fs.length fc).ownBlock.toList f := fun f hf => by
    cases ho : (Value.slice fa fs.length fc).ownBlock with
    | none => exact ⟨fun _ _ _ _ hm => by simp at hm, fun _ _ _ _ hm => by simp at hm, fun s hs y hy => ⟨fun _ _ _ _ _ _ h => by simp at h, fun _ _ _ _ h => by simp at h, fun _ _ _ _ h => by simp at h⟩⟩
    | some b => exact hoff f hf b ho
  have hin2 : ∀ f ∈ fs ++ [y], FnIn u2 f := fun f hf => FnIn.off (hin f hf) (hoffL f hf) T2
  have hi2 : OwnG 1 txCT 9 u2 (fb + 1) (.slice ia is.length ic) is := h3.iown.keep fun b hb => T2.block b (h3.iown.lt b hb).2 (fun hm => h.apart b (by simpa using hm) hb)
  refine ⟨A2, c2, u2, hap, ha, (h3.rd.buts T2 (fun b hb => by have := hlo2 b hb; omega)).but t1 (by omega), set_at ha 2 _, (t1.block _ (lt_of_heap hr) (by simp; omega)).trans hr, hi2.keep fun b hb => t1.block b (hi2.lt b hb).2 (by have := (hi2.lt b hb).1; simp; omega), how.keep fun b hb => t1.block b (how.lt b hb).2 (by have := (how.lt b hb).1; simp; omega), fun b e => ?_, fun f hf => FnIn.off (hin2 f hf) ((hnew f hf).off (fun k hk => by simp at hk; omega)) t1, hnew, fun f hf b e => ?_, h.itxt, below_turn (below_turn h3.low T2 (fun k hk => by have := hlo2 k hk; omega)) t1 (fun k hk => by simp at hk; omega), h.hs, hg, hi, hlo⟩
  · rcases hbo with e2 | e2
    · exact h.apart b (e2.symm.trans e)
    · rw [e2] at e
      injection e with e
      subst e
      intro e3
      have := (h3.iown.lt _ e3).2
      omega
  · rcases hbo with e2 | e2
    · exact hoff f hf b (e2.symm.trans e)
    · rw [e2] at e
      injection e with e
      subst e
      exact FnIn.fresh (hin f hf)
theorem LD.done {W' : World} {t : List UInt8} (h : LD lo w W g fb r S ia ic is fa fc fs) (ht : Turn [w.heap.size] W W') (hi : is.length ≤ 200000) (hf : fs.length ≤ 200000) (hq : fileT t = (⟨S.data.toList, is, fs.map coreF⟩, 0)) : TellF t w (.returned (.tuple #[.agg #[.string S, .slice ia is.length ic, .slice fa fs.length fc], .int .i64 0])) W' := by
  have hh := h.hg
  have hh2 := h.hi
  obtain ⟨k1, k2, k3⟩ := h.keep ht (fun k hk => by simp at hk; omega)
  refine ⟨⟨S, ia, ic, is.map bs, fa, fc, fs⟩, by rw [hq]; simp [flV], ?_, ⟨row_tx (k1.row txCT_len), k2.row fnC_len, k3, by rw [List.length_map]; unfold most; omega, by show fs.length ≤ most; unfold most; omega, h.hs, fun s hs => ?_⟩, ⟨fun ad e => ?_, fun ad e => ?_, fun f hf => (h.fnew f hf).mono (by omega)⟩, below_turn h.low ht (fun k hk => by simp at hk; omega)⟩
  · unfold coreL
    rw [core_tx, hq]
  · obtain ⟨t, ht, rfl⟩ := List.mem_map.1 hs
    show (bs t).size ≤ maxLen
    rw [Lex.bs_size]
    have := h.itxt t ht
    unfold maxLen
    omega
  · dsimp only at e
    subst e
    have := (h.iown.lt ad.block rfl).1
    omega
  · dsimp only at e
    subst e
    have := (h.fown.lt ad.block rfl).1
    omega
end
theorem tell_zero {t : List UInt8} {w W' : World} {n : Int} (hb : Below w.heap.size w W') (hq : fileT t = (zeroL, n)) : TellF t w (.returned (.tuple #[.agg #[.string ⟨#[]⟩, .slice none 0 0, .slice none 0 0], .int .i64 n])) W' :=
  ⟨nilFl, by rw [hq]; rfl, by rw [hq]; rfl, nilFl_in _, nilFl_new _, hb⟩
theorem fileT_we {t : List UInt8} {n : Int} (h : wordsE t = n) (hn : n ≠ 0) : fileT t = (zeroL, n) := by
  unfold wordsE at h
  unfold fileT
  split at h
  · next h1 => rw [if_pos h1, h]
  · next h1 =>
    rw [if_neg h1]
    split at h
    · next h2 => rw [if_pos h2, h]
    · exact absurd h.symm hn
theorem fileT_of {t : List UInt8} (h : wordsE t = 0) : fileT t = if endE (fileD ⟨(Lex.words t).1, false, false⟩).2 ≠ 0 then (zeroL, endE (fileD ⟨(Lex.words t).1, false, false⟩).2) else ((fileD ⟨(Lex.words t).1, false, false⟩).1, 0) := by
  unfold wordsE at h
  split at h
  · next h1 => exact absurd h h1
  · next h1 =>
    split at h
    · next h2 => exact absurd h (by decide)
    · next h2 =>
      unfold fileT
      rw [if_neg h1, if_neg h2]
end Go.Proofs.YtlhbhpdpjidpgaaGreatDoor.Prs
/- The document's File: the tree of a text, or why not. No condition. -/
namespace Go.Proofs.YtlhbhpdpjidpgaaGreatDoor.Prs
open Go.RowKit Tre Prg
open Lex (Wd wdC wdV bs str Turn)
set_option maxRecDepth 100000
set_option linter.unusedSimpArgs false
variable {lo : Nat}
structure ImD (lo : Nat) (w wr : World) (g fb : Nat) (S : ByteArray) (r r' : PS) (ia : Option Addr) (ic : Nat) (is : List (List UInt8)) : Prop where
  b : LD lo w wr g fb r' S ia ic is none 0 []
  told : tellI [] r = tellI is r'
  len : is.length + lenR r' ≤ 100000
structure FsD (lo : Nat) (w wr : World) (g fb : Nat) (S : ByteArray) (ia : Option Addr) (ic : Nat) (is : List (List UInt8)) (r r' : PS) (fa : Option Addr) (fc : Nat) (fs : List Tre.Fn) : Prop where
  b : LD lo w wr g fb r' S ia ic is fa fc fs
  told : tellF [] r = tellF (fs.map coreF) r'
  len : fs.length + lenR r' ≤ 100000
theorem imp_more {r r' : PS} {is : List (List UInt8)} (h : tellI [] r = tellI is r') (hi : isW r' wImport = true) : tellI [] r = tellI (is ++ [wordS (tl r') 3 false]) (mustW (wordR (tl r') 3 false) [59]) := by rw [h, tellI_eq, if_pos hi]
theorem imp_end {r r' : PS} {is : List (List UInt8)} (h : tellI [] r = tellI is r') (hi : isW r' wImport = false) : tellI [] r = (is, r') := by rw [h, tellI_eq, if_neg (by simp [hi])]
theorem fun_more {r r' : PS} {fs : List Tf} (h : tellF [] r = tellF fs r') (hi : isW r' wFunc = true) : tellF [] r = tellF (fs ++ [(fnD (tl r')).1]) (mustW (fnD (tl r')).2 [59]) := by rw [h, tellF_eq, if_pos hi]
theorem fun_end {r r' : PS} {fs : List Tf} (h : tellF [] r = tellF fs r') (hi : isW r' wFunc = false) : tellF [] r = (fs, r') := by rw [h, tellF_eq, if_neg (by simp [hi])]
theorem imp_len {r : PS} (hi : isW r wImport = true) : lenR (mustW (wordR (tl r) 3 false) [59]) < lenR r := by
  have h1 := lenR_pos hi
  have h2 := lenR_tl r
  have h3 := lenR_wordR (tl r) 3 false
  have h4 := lenR_mustW (wordR (tl r) 3 false) [59]
  omega
theorem fun_len {r : PS} (hi : isW r wFunc = true) : lenR (mustW (fnD (tl r)).2 [59]) < lenR r := by
  have h1 := lenR_pos hi
  have h2 := lenR_tl r
  have h3 := fnD_lenR (tl r)
  have h4 := lenR_mustW (fnD (tl r)).2 [59]
  omega
set_option maxHeartbeats 16000000 in
theorem rfile_any (t : List UInt8) (w : World) : Calls Tryz.prog 8 #[.string (bs t)] w (TellF t w) := by
  have HB0 := Lib.hid (ball_new w #[.string ⟨#[]⟩, .slice none 0 0, .slice none 0 0] 26)
  have HN0 := Lib.hid (new_at w #[.string ⟨#[]⟩, .slice none 0 0, .slice none 0 0] 26)
  have CW := Lib.hid (rwordsM_any t (w.alloc (.cells #[.string ⟨#[]⟩, .slice none 0 0, .slice none 0 0] 26)))
  generalize bs t = TX at *
  go_enter Tryz.func8, Tryz.ntmps8
  go_wp2_with fail
  refine CW.out.mono ?_
  rintro e w1 ⟨g, rfl, hb1, hrd⟩
  have HR1 : Hid (w1.heap[w.heap.size]? = some (.cells #[.string ⟨#[]⟩, .slice none 0 0, .slice none 0 0] 26 (0, 0))) := Lib.hid ((hb1.block _ (lt_of_heap HN0.out)).trans HN0.out)
  have HB1 : Hid (Below w.heap.size w w1) := Lib.hid (HB0.out.trans (hb1.mono HB0.out.size))
  have HRD : Hid (wordsE t = 0 → w.heap.size < g ∧ RdM w1.heap.size w1 g ⟨(Lex.words t).1, false, false⟩) := Lib.hid (fun h => ⟨by have := (hrd h).1; simp at this; omega, (hrd h).2⟩)
  clear hb1 hrd CW HB0 HN0
  by_cases he : wordsE t = 0
  · obtain ⟨hg1, hr1⟩ := HRD.out he
    have HFT := Lib.hid (fileT_of he)
    rw [he]
    clear HRD he
    have B0 : Hid (LD w1.heap.size w (w1.alloc (.cells #[.string ⟨#[]⟩, .slice none 0 0, .slice none 0 0] 26)) g w1.heap.size ⟨(Lex.words t).1, false, false⟩ ⟨#[]⟩ none 0 [] none 0 []) := Lib.hid ⟨hr1.below (ball_new w1 _ _), new_at w1 _ _, ((ball_new w1 _ _).block _ (lt_of_heap HR1.out)).trans HR1.out, OwnG.nil _ _, OwnG.nil _ _, (fun b e => by cases e), (fun f hf => by simp at hf), (fun f hf => by simp at hf), (fun f hf => by simp at hf), (fun f hf => by simp at hf), HB1.out.alloc HB1.out.size _, nil_max, hg1, hr1.lt, Nat.le_refl _⟩
    have HLR := Lib.hid (lenR_le hr1)
    clear hg1 hr1 HR1 HB1
    generalize (⟨(Lex.words t).1, false, false⟩ : PS) = r0 at *
    have HQ : Hid (fileD r0 = (⟨wordS (mustW r0 [112, 97, 99, 107, 97, 103, 101]) 1 true, (tellI [] (mustW (wordR (mustW r0 [112, 97, 99, 107, 97, 103, 101]) 1 true) [59])).1, (tellF [] (tellI [] (mustW (wordR (mustW r0 [112, 97, 99, 107, 97, 103, 101]) 1 true) [59])).2).1⟩,
      ⟨(tellF [] (tellI [] (mustW (wordR (mustW r0 [112, 97, 99, 107, 97, 103, 101]) 1 true) [59])).2).2.l, (tellF [] (tellI [] (mustW (wordR (mustW r0 [112, 97, 99, 107, 97, 103, 101]) 1 true) [59])).2).2.bad, (tellF [] (tellI [] (mustW (wordR (mustW r0 [112, 97, 99, 107, 97, 103, 101]) 1 true) [59])).2).2.big || (decide (8 < (tellI [] (mustW (wordR (mustW r0 [112, 97, 99, 107, 97, 103, 101]) 1 true) [59])).1.length) || decide (32 < (tellF [] (tellI [] (mustW (wordR (mustW r0 [112, 97, 99, 107, 97, 103, 101]) 1 true) [59])).2).1.length))⟩)) := Lib.hid rfl
    have HL1 := Lib.hid (lenR_mustW r0 [112, 97, 99, 107, 97, 103, 101])
    have CM := Lib.hid (must_any _ g r0 [112, 97, 99, 107, 97, 103, 101] B0.out.rd)
    generalize fileD r0 = q at *
    generalize mustW r0 [112, 97, 99, 107, 97, 103, 101] = r1 at *
    go_wp2_with fail
    generalize w1.heap.size = fb at *
    refine CM.out.mono ?_
    rintro e w2 ⟨rfl, h1, h2⟩
    have B1 := Lib.hid (B0.out.turned h2 h1)
    clear h1 h2 CM B0
    have CW := Lib.hid (word_any w2 g r1 1 true (by decide) B1.out.rd)
    have HSS := Lib.hid (wordS_size B1.out.rd 1 true)
    have HSD : Hid ((bs (wordS r1 1 true)).data.toList = wordS r1 1 true) := Lib.hid (Lex.bs_data _)
    have HL2 := Lib.hid (lenR_wordR r1 1 true)
    generalize wordR r1 1 true = r2 at *
    generalize wordS r1 1 true = ss at *
    generalize bs ss = S at *
    go_wp2_with fail
    refine CW.out.mono ?_
    rintro e w3 ⟨rfl, h1, h2⟩
    have B2 := Lib.hid (B1.out.turned h2 h1)
    have B3 := Lib.hid (B2.out.setS HSS.out)
    clear h1 h2 CW B1
    have fe0 := free_at B2.out.at_ 0
    obtain ⟨z0, z1, z2⟩ := three_at B2.out.at_
    try simp only [List.length_nil] at z1 z2
    obtain ⟨W3, hW3⟩ : ∃ W, w3.setCell ⟨fb, 0, none⟩ (.string S) = W := ⟨_, rfl⟩
    rw [hW3] at B3
    have CM := Lib.hid (must_any W3 g r2 [59] B3.out.rd)
    have HL3 := Lib.hid (lenR_mustW r2 [59])
    generalize mustW r2 [59] = r3 at *
    go_wp2_with fail
    clear fe0 z0 z1 z2 B2 hW3
    refine CM.out.mono ?_
    rintro e w4 ⟨rfl, h1, h2⟩
    have START : Hid (ImD fb w w4 g fb S r3 r3 none 0 []) := Lib.hid ⟨B3.out.turned h2 h1, rfl, by
      have := HLR.out
      have := HL1.out
      have := HL2.out
      have := HL3.out
      simp
      omega⟩
    clear h1 h2 CM B3 HL1 HL2 HL3 HLR
    go_wp2_with fail
    go_loopw [] (fun wr => ∃ (r' : PS) (ia : Option Addr) (ic : Nat) (is : List (List UInt8)), Hid (ImD fb w wr g fb S r3 r' ia ic is)) (fun wr => remW wr g)
    case atStart => exact ⟨r3, none, 0, [], START⟩
    case round =>
      clear START
      obtain ⟨r', ia, ic, is, HC⟩ := hrel
      have HM : Hid (remW wr g = lenR r') := Lib.hid HC.out.b.rd.rem
      rcases Bool.eq_false_or_eq_true (isW r' [105, 109, 112, 111, 114, 116]) with hi | hi
      · have CH := Lib.hid (skip_yes wr g r' [105, 109, 112, 111, 114, 116] HC.out.b.rd hi)
        have HAG := Lib.hid (imp_more HC.out.told hi)
        have HLI := Lib.hid (imp_len hi)
        clear hi
        go_wp2_with fail
        refine CH.out.mono ?_
        rintro e v1 ⟨rfl, h1, h2⟩
        have BI := Lib.hid ((HC.out.b.turned h2 h1).below (Below.refl _ _).drew)
        have HLEN := Lib.hid HC.out.len
        clear h1 h2 CH HC
        go_wp2_with fail
        refine Lex.AtS.start (by kernel_rfl) 7 (fun u => u.heap[fb]? = some (.cells #[.string S, .slice ia is.length ic, .slice none 0 0] 26 (0, 0))) (by kernel_rfl) (by kernel_rfl) ?_
        generalize v1.drew = u0 at *
        refine Lex.at_take 0 25 (.pointer (some ⟨fb, 1, none⟩)) rfl rfl (by kernel_rfl) (by decide) (by decide) (fun _ _ _ h => h) rfl BI.out.at_ (fun w' hw' => ?_) ?_
        · go_simp
        go_frame
        refine Lex.at_take 1 26 (.slice ia is.length ic) rfl rfl (by kernel_rfl) (by decide) (by decide) (fun _ _ _ h => h) rfl BI.out.at_ (fun w' hw' => ?_) ?_
        · obtain ⟨x0, x1, x2⟩ := three_at hw'
          go_simp
        go_frame
        refine Lex.at_take 2 27 (.pointer (some ⟨g, 0, none⟩)) rfl rfl (by kernel_rfl) (by decide) (by decide) (fun _ _ _ h => h) rfl BI.out.at_ (fun w' hw' => ?_) ?_
        · exact rfl
        go_frame
        have CT := Lib.hid (word_any u0 g (tl r') 3 false (by decide) BI.out.rd)
        have HTX := Lib.hid (wordS_len BI.out.rd 3 false)
        generalize wordR (tl r') 3 false = r5 at *
        generalize wordS (tl r') 3 false = y at *
        refine Lex.AtS.call (i := 3) (f := 23) (args := #[.pointer (some ⟨g, 0, none⟩), .int .i64 3, .bool false]) rfl (by kernel_rfl) (by decide) rfl ?_ ?_
        · go_simp
        refine CT.out.mono ?_
        rintro e v2 ⟨rfl, h1, h2⟩
        have BI3 := Lib.hid (BI.out.turned h2 h1)
        refine ⟨_, rfl, BI3.out.at_, ?_⟩
        clear h1 h2 CT BI
        go_frame
        obtain ⟨A2, c2, u2, hap, hat, hb⟩ := BI3.out.pushI HTX.out (by have := HLEN.out; omega)
        have BI4 := Lib.hid (BI3.out.below (ball_new v2 #[.string (bs y)] 9))
        have HAP := Lib.hid hap
        have HAT := Lib.hid hat
        obtain ⟨n4, hn4⟩ : ∃ n, (is ++ [y]).length = n := ⟨_, rfl⟩
        have HN4 : Hid (n4 = is.length + 1) := Lib.hid (by rw [← hn4, List.length_append]; rfl)
        have B6 := Lib.hid hb
        rw [hn4] at HAP B6
        clear hap hat hb
        refine Lex.at_run 4 29 (.slice (some ⟨v2.heap.size, 0, none⟩) 1 1) (v2.alloc (.cells #[.string (bs y)] 9)) rfl rfl (by kernel_rfl) (by decide) rfl ?_ ?_ ?_
        · go_simp
        · exact BI4.out.at_
        go_frame
        refine at_appG 23 5 30 (.slice A2 n4 c2) u2 rfl rfl (by kernel_rfl) (by decide) rfl (.tmp 26) (.tmp 29) rfl (.slice ia is.length ic) (.slice (some ⟨v2.heap.size, 0, none⟩) 1 1) rfl rfl HAP.out HAT.out ?_
        go_frame
        clear HAP BI3 BI4
        refine Lex.at_take 6 31 (.pointer (some ⟨fb, 1, none⟩)) rfl rfl (by kernel_rfl) (by decide) (by decide) (fun _ _ _ h => h) rfl HAT.out (fun w' hw' => ?_) ?_
        · go_simp
        go_frame
        obtain ⟨x0, x1, x2⟩ := three_at HAT.out
        have f1 := free_at HAT.out 1
        refine Lex.AtS.last (i := 7) (w' := u2.setCell ⟨fb, 1, none⟩ (.slice A2 n4 c2)) rfl (by kernel_rfl) (by kernel_rfl) (by decide) rfl ?_ ?_
        · go_simp
        go_frame
        clear x0 x1 x2 f1 HAT
        generalize u2.setCell ⟨fb, 1, none⟩ (.slice A2 n4 c2) = u4 at *
        have CM := Lib.hid (must_any u4 g r5 [59] B6.out.rd)
        go_wp2_with fail
        refine CM.out.mono ?_
        rintro e v5 ⟨rfl, h1, h2⟩
        have HN : Hid (ImD fb w v5 g fb S r3 (mustW r5 [59]) A2 c2 (is ++ [y])) := Lib.hid ⟨B6.out.turned h2 h1, HAG.out, by
          have := HLEN.out
          have := HLI.out
          rw [List.length_append]
          simp
          omega⟩
        clear h1 h2 CM B6 HAG
        go_wp2_with fail
        go_roundw
        case rel => exact ⟨_, A2, c2, _, HN⟩
        case measure =>
          rw [HN.out.b.rd.rem, HM.out]
          exact HLI.out
      · have CH := Lib.hid (skip_no wr g r' [105, 109, 112, 111, 114, 116] HC.out.b.rd hi)
        have HIM := Lib.hid (imp_end HC.out.told hi)
        have HIL : Hid (is.length ≤ 200000) := Lib.hid (by have := HC.out.len; omega)
        have HL4 : Hid (lenR r' ≤ 100000) := Lib.hid (by have := HC.out.len; omega)
        clear hi
        rw [HIM.out] at HQ
        dsimp only at HQ
        go_wp2_with fail
        refine CH.out.mono ?_
        rintro e v1 ⟨rfl, h1, h2⟩
        have START : Hid (FsD fb w v1 g fb S ia ic is r' r' none 0 []) := Lib.hid ⟨HC.out.b.turned h2 h1, rfl, by have := HL4.out; simp; omega⟩
        clear h1 h2 CH HC HM HIM
        obtain ⟨wo, rfl⟩ : ∃ wo : World, wo = wr := ⟨_, rfl⟩
        go_wp2_with fail
        go_loopw [] (fun wr => ∃ (r6 : PS) (fa : Option Addr) (fc : Nat) (fs : List Tre.Fn), Hid (FsD fb w wr g fb S ia ic is r' r6 fa fc fs)) (fun wr => remW wr g)
        case atStart => exact ⟨r', none, 0, [], START⟩
        case round =>
          clear START
          obtain ⟨r6, fa, fc, fs, HC⟩ := hrel
          have HM : Hid (remW wr g = lenR r6) := Lib.hid HC.out.b.rd.rem
          rcases Bool.eq_false_or_eq_true (isW r6 [102, 117, 110, 99]) with hi | hi
          · have CH := Lib.hid (skip_yes wr g r6 [102, 117, 110, 99] HC.out.b.rd hi)
            have HAG := Lib.hid (fun_more HC.out.told hi)
            have HLI := Lib.hid (fun_len hi)
            have HLEN := Lib.hid HC.out.len
            clear hi HQ
            go_wp2_with fail
            refine CH.out.mono ?_
            rintro e v2 ⟨rfl, h1, h2⟩
            have BI := Lib.hid ((HC.out.b.turned h2 h1).below (Below.refl _ _).drew)
            clear h1 h2 CH HC
            go_wp2_with fail
            refine Lex.AtS.start (by kernel_rfl) 7 (fun u => u.heap[fb]? = some (.cells #[.string S, .slice ia is.length ic, .slice fa fs.length fc] 26 (0, 0))) (by kernel_rfl) (by kernel_rfl) ?_
            generalize v2.drew = u0 at *
            refine Lex.at_take 0 36 (.pointer (some ⟨fb, 2, none⟩)) rfl rfl (by kernel_rfl) (by decide) (by decide) (fun _ _ _ h => h) rfl BI.out.at_ (fun w' hw' => ?_) ?_
            · go_simp
            go_frame
            refine Lex.at_take 1 37 (.slice fa fs.length fc) rfl rfl (by kernel_rfl) (by decide) (by decide) (fun _ _ _ h => h) rfl BI.out.at_ (fun w' hw' => ?_) ?_
            · obtain ⟨x0, x1, x2⟩ := three_at hw'
              go_simp
            go_frame
            refine Lex.at_take 2 38 (.pointer (some ⟨g, 0, none⟩)) rfl rfl (by kernel_rfl) (by decide) (by decide) (fun _ _ _ h => h) rfl BI.out.at_ (fun w' hw' => ?_) ?_
            · exact rfl
            go_frame
            have CF := Lib.hid (fn_any u0 g (tl r6) BI.out.rd)
            generalize fnD (tl r6) = pf at *
            refine Lex.AtS.call (i := 3) (f := 25) (args := #[.pointer (some ⟨g, 0, none⟩)]) rfl (by kernel_rfl) (by decide) rfl ?_ ?_
            · go_simp
            refine CF.out.mono ?_
            rintro e v3 ⟨y, rfl, hf1, hf2, hf3, hf4, hf5⟩
            have BI3 := Lib.hid (BI.out.turned hf5 hf4)
            obtain ⟨A2, c2, u2, hap, hat, hb⟩ := BI3.out.pushF hf2 hf3 (fun b hb => (BI.out.fown.lt b hb).2) (by have := lt_of_heap BI.out.at_; omega) (by have := HLEN.out; omega)
            refine ⟨_, rfl, BI3.out.at_, ?_⟩
            have BI4 := Lib.hid (BI3.out.below (ball_new v3 #[.string y.s, .slice y.pa y.p.length y.pc, .int .u8 y.r, .slice y.ba y.b.length y.bc] 51))
            have HAP := Lib.hid hap
            have HAT := Lib.hid hat
            have HF1 := Lib.hid hf1
            obtain ⟨zs, hzs⟩ : ∃ zs, fs ++ [y] = zs := ⟨_, rfl⟩
            have HZ : Hid (zs.map coreF = fs.map coreF ++ [coreF y] ∧ zs.length = fs.length + 1) := Lib.hid (by rw [← hzs]; simp)
            have B6 := Lib.hid hb
            rw [hzs] at HAP B6
            obtain ⟨n4, hn4⟩ : ∃ n, zs.length = n := ⟨_, rfl⟩
            rw [hn4] at HAP B6
            clear hap hat hb hf1 hf2 hf3 hf4 hf5 CF BI hzs
            unfold fnV
            go_frame
            refine Lex.at_run 4 40 (.slice (some ⟨v3.heap.size, 0, none⟩) 1 1) (v3.alloc (.cells #[.string y.s, .slice y.pa y.p.length y.pc, .int .u8 y.r, .slice y.ba y.b.length y.bc] 51)) rfl rfl (by kernel_rfl) (by decide) rfl ?_ ?_ ?_
            · go_simp
            · exact BI4.out.at_
            go_frame
            refine at_appG 24 5 41 (.slice A2 n4 c2) u2 rfl rfl (by kernel_rfl) (by decide) rfl (.tmp 37) (.tmp 40) rfl (.slice fa fs.length fc) (.slice (some ⟨v3.heap.size, 0, none⟩) 1 1) rfl rfl HAP.out HAT.out ?_
            go_frame
            clear HAP BI3 BI4
            refine Lex.at_take 6 42 (.pointer (some ⟨fb, 2, none⟩)) rfl rfl (by kernel_rfl) (by decide) (by decide) (fun _ _ _ h => h) rfl HAT.out (fun w' hw' => ?_) ?_
            · go_simp
            go_frame
            obtain ⟨x0, x1, x2⟩ := three_at HAT.out
            have f2 := free_at HAT.out 2
            refine Lex.AtS.last (i := 7) (w' := u2.setCell ⟨fb, 2, none⟩ (.slice A2 n4 c2)) rfl (by kernel_rfl) (by kernel_rfl) (by decide) rfl ?_ ?_
            · go_simp
            go_frame
            clear x0 x1 x2 f2 HAT
            generalize u2.setCell ⟨fb, 2, none⟩ (.slice A2 n4 c2) = u4 at *
            have CM := Lib.hid (must_any u4 g pf.2 [59] B6.out.rd)
            go_wp2_with fail
            refine CM.out.mono ?_
            rintro e v5 ⟨rfl, h1, h2⟩
            have HN : Hid (FsD fb w v5 g fb S ia ic is r' (mustW pf.2 [59]) A2 c2 zs) := Lib.hid ⟨B6.out.turned h2 h1, by rw [HZ.out.1, HF1.out]; exact HAG.out, by
              have := HLEN.out
              have := HLI.out
              have := HZ.out.2
              omega⟩
            clear h1 h2 CM B6
            go_wp2_with fail
            go_roundw
            case rel => exact ⟨_, A2, c2, zs, HN⟩
            case measure =>
              rw [HN.out.b.rd.rem, HM.out]
              exact HLI.out
          · have CH := Lib.hid (skip_no wr g r6 [102, 117, 110, 99] HC.out.b.rd hi)
            have HFM := Lib.hid (fun_end HC.out.told hi)
            have HFL : Hid (fs.length ≤ 200000) := Lib.hid (by have := HC.out.len; omega)
            have B := Lib.hid HC.out.b
            clear hi HC HM
            rw [HFM.out] at HQ
            dsimp only at HQ
            rw [List.length_map] at HQ
            clear HFM
            go_wp2_with fail
            refine CH.out.mono ?_
            rintro e v1 ⟨rfl, h1, h2⟩
            have B1 := Lib.hid (B.out.turned h2 h1)
            clear h1 h2 CH B
            obtain ⟨x0, x1, x2⟩ := three_at B1.out.at_
            obtain ⟨a6, c6, hrd6, -⟩ := B1.out.rd.at_
            have b2 := cell_at hrd6 2
            have fb2 := free_at hrd6 2
            simp only [List.getElem?_toArray, List.getElem?_cons_succ, List.getElem?_cons_zero] at b2
            clear hrd6
            obtain ⟨BB, hBB⟩ : ∃ B, (r6.big || (decide (8 < is.length) || decide (32 < fs.length))) = B := ⟨_, rfl⟩
            rw [hBB] at HQ
            have HBB := Lib.hid hBB
            clear hBB
            obtain ⟨W9, hW9⟩ : ∃ W, v1.setCell ⟨g, 2, none⟩ (.bool BB) = W := ⟨_, rfl⟩
            have B9 : Hid (LD fb w W9 g fb ⟨r6.l, r6.bad, BB⟩ S ia ic is fa fc fs) := Lib.hid (by rw [← hW9]; exact B1.out.turned (turn1 _ g 2 _) (B1.out.rd.bigged BB))
            have CE : Hid (Calls Tryz.prog 26 #[.pointer (some ⟨g, 0, none⟩)] W9 (EndsB (.int .i64 (endE ⟨r6.l, r6.bad, BB⟩)) W9)) := Lib.hid (end_any W9 g ⟨r6.l, r6.bad, BB⟩ B9.out.rd)
            rw [HQ.out] at HFT
            dsimp only at HFT
            clear HQ
            have HIL2 := HIL.out
            have HFL2 := HFL.out
            rcases Bool.eq_false_or_eq_true r6.big with hb | hb
            · rw [hb] at b2
              have hBB : BB = true := by rw [← HBB.out, hb]; rfl
              rw [hBB] at hW9
              clear hBB
              go_wp2_with fail
              refine CE.out.mono ?_
              rintro e v4 ⟨rfl, hb4⟩
              have B10 := Lib.hid (B9.out.below hb4)
              clear hb4 CE B9 x0 x1 x2 b2 fb2 hW9
              obtain ⟨x0, x1, x2⟩ := three_at B10.out.at_
              obtain ⟨y0, y1, y2⟩ := three_at B10.out.res
              have f0 := free_at B10.out.res 0
              have f1 := free_at B10.out.res 1
              have f2 := free_at B10.out.res 2
              by_cases hE : endE ⟨r6.l, r6.bad, BB⟩ = 0
              · rw [hE]
                have HF : Hid (fileT t = (⟨S.data.toList, is, fs.map coreF⟩, 0)) := Lib.hid (by rw [HFT.out, if_neg (by simp [hE]), HSD.out])
                clear hE HFT
                have HT := Lib.hid (turn3 v4 w.heap.size (.string S) (.slice ia is.length ic) (.slice fa fs.length fc))
                have HS3 := Lib.hid (set3 (v0 := .string S) (v1 := .slice ia is.length ic) (v2 := .slice fa fs.length fc) B10.out.res)
                go_wp2_with fail
                refine bodyPost_ret (results_fl2 rfl _ _ w.heap.size _ _ _ _ rfl rfl HS3.out) rfl ?_
                exact B10.out.done HT.out HIL.out HFL.out HF.out
              · have HF : Hid (fileT t = (zeroL, endE ⟨r6.l, r6.bad, BB⟩)) := Lib.hid (by rw [HFT.out, if_pos hE])
                have e1 : (endE ⟨r6.l, r6.bad, BB⟩ != 0) = true := by simpa using hE
                clear hE HFT
                have HT := Lib.hid (turn3 v4 w.heap.size (.string ⟨#[]⟩) (.slice none 0 0) (.slice none 0 0))
                have HS3 := Lib.hid (set3 (v0 := .string ⟨#[]⟩) (v1 := .slice none 0 0) (v2 := .slice none 0 0) B10.out.res)
                generalize endE ⟨r6.l, r6.bad, BB⟩ = E at *
                go_wp2_with fail
                refine bodyPost_ret (results_fl2 rfl _ _ w.heap.size _ _ _ _ rfl rfl HS3.out) rfl ?_
                exact tell_zero (below_turn B10.out.low HT.out (fun k hk => by simp at hk; omega)) HF.out
            · rw [hb] at b2
              by_cases h8 : 8 < is.length
              · have h8d : decide ((8 : Int) < (is.length : Int)) = true := by simp only [decide_eq_true_eq]; omega
                have hBB : BB = true := by rw [← HBB.out, hb, decide_eq_true h8]; rfl
                rw [hBB] at hW9
                clear hBB h8
                go_wp2_with fail
                refine CE.out.mono ?_
                rintro e v4 ⟨rfl, hb4⟩
                have B10 := Lib.hid (B9.out.below hb4)
                clear hb4 CE B9 x0 x1 x2 b2 fb2 hW9
                obtain ⟨x0, x1, x2⟩ := three_at B10.out.at_
                obtain ⟨y0, y1, y2⟩ := three_at B10.out.res
                have f0 := free_at B10.out.res 0
                have f1 := free_at B10.out.res 1
                have f2 := free_at B10.out.res 2
                by_cases hE : endE ⟨r6.l, r6.bad, BB⟩ = 0
                · rw [hE]
                  have HF : Hid (fileT t = (⟨S.data.toList, is, fs.map coreF⟩, 0)) := Lib.hid (by rw [HFT.out, if_neg (by simp [hE]), HSD.out])
                  clear hE HFT
                  have HT := Lib.hid (turn3 v4 w.heap.size (.string S) (.slice ia is.length ic) (.slice fa fs.length fc))
                  have HS3 := Lib.hid (set3 (v0 := .string S) (v1 := .slice ia is.length ic) (v2 := .slice fa fs.length fc) B10.out.res)
                  go_wp2_with fail
                  refine bodyPost_ret (results_fl2 rfl _ _ w.heap.size _ _ _ _ rfl rfl HS3.out) rfl ?_
                  exact B10.out.done HT.out HIL.out HFL.out HF.out
                · have HF : Hid (fileT t = (zeroL, endE ⟨r6.l, r6.bad, BB⟩)) := Lib.hid (by rw [HFT.out, if_pos hE])
                  have e1 : (endE ⟨r6.l, r6.bad, BB⟩ != 0) = true := by simpa using hE
                  clear hE HFT
                  have HT := Lib.hid (turn3 v4 w.heap.size (.string ⟨#[]⟩) (.slice none 0 0) (.slice none 0 0))
                  have HS3 := Lib.hid (set3 (v0 := .string ⟨#[]⟩) (v1 := .slice none 0 0) (v2 := .slice none 0 0) B10.out.res)
                  generalize endE ⟨r6.l, r6.bad, BB⟩ = E at *
                  go_wp2_with fail
                  refine bodyPost_ret (results_fl2 rfl _ _ w.heap.size _ _ _ _ rfl rfl HS3.out) rfl ?_
                  exact tell_zero (below_turn B10.out.low HT.out (fun k hk => by simp at hk; omega)) HF.out
              · have h8d : decide ((8 : Int) < (is.length : Int)) = false := by simp; omega
                have hBB : BB = decide ((32 : Int) < (fs.length : Int)) := by rw [← HBB.out, hb, decide_eq_false h8, Bool.false_or, Bool.false_or]; exact Bool.eq_iff_iff.2 (by simp only [decide_eq_true_eq]; omega)
                rw [hBB] at hW9
                clear hBB h8
                go_wp2_with fail
                refine CE.out.mono ?_
                rintro e v4 ⟨rfl, hb4⟩
                have B10 := Lib.hid (B9.out.below hb4)
                clear hb4 CE B9 x0 x1 x2 b2 fb2 hW9
                obtain ⟨x0, x1, x2⟩ := three_at B10.out.at_
                obtain ⟨y0, y1, y2⟩ := three_at B10.out.res
                have f0 := free_at B10.out.res 0
                have f1 := free_at B10.out.res 1
                have f2 := free_at B10.out.res 2
                by_cases hE : endE ⟨r6.l, r6.bad, BB⟩ = 0
                · rw [hE]
                  have HF : Hid (fileT t = (⟨S.data.toList, is, fs.map coreF⟩, 0)) := Lib.hid (by rw [HFT.out, if_neg (by simp [hE]), HSD.out])
                  clear hE HFT
                  have HT := Lib.hid (turn3 v4 w.heap.size (.string S) (.slice ia is.length ic) (.slice fa fs.length fc))
                  have HS3 := Lib.hid (set3 (v0 := .string S) (v1 := .slice ia is.length ic) (v2 := .slice fa fs.length fc) B10.out.res)
                  go_wp2_with fail
                  refine bodyPost_ret (results_fl2 rfl _ _ w.heap.size _ _ _ _ rfl rfl HS3.out) rfl ?_
                  exact B10.out.done HT.out HIL.out HFL.out HF.out
                · have HF : Hid (fileT t = (zeroL, endE ⟨r6.l, r6.bad, BB⟩)) := Lib.hid (by rw [HFT.out, if_pos hE])
                  have e1 : (endE ⟨r6.l, r6.bad, BB⟩ != 0) = true := by simpa using hE
                  clear hE HFT
                  have HT := Lib.hid (turn3 v4 w.heap.size (.string ⟨#[]⟩) (.slice none 0 0) (.slice none 0 0))
                  have HS3 := Lib.hid (set3 (v0 := .string ⟨#[]⟩) (v1 := .slice none 0 0) (v2 := .slice none 0 0) B10.out.res)
                  generalize endE ⟨r6.l, r6.bad, BB⟩ = E at *
                  go_wp2_with fail
                  refine bodyPost_ret (results_fl2 rfl _ _ w.heap.size _ _ _ _ rfl rfl HS3.out) rfl ?_
                  exact tell_zero (below_turn B10.out.low HT.out (fun k hk => by simp at hk; omega)) HF.out
  · have HF := Lib.hid (fileT_we rfl he)
    have e1 : (wordsE t != 0) = true := by simpa using he
    clear he HRD
    obtain ⟨y0, y1, y2⟩ := three_at HR1.out
    have f0 := free_at HR1.out 0
    have f1 := free_at HR1.out 1
    have f2 := free_at HR1.out 2
    have HT := Lib.hid (turn3 w1 w.heap.size (.string ⟨#[]⟩) (.slice none 0 0) (.slice none 0 0))
    have HS3 := Lib.hid (set3 (v0 := .string ⟨#[]⟩) (v1 := .slice none 0 0) (v2 := .slice none 0 0) HR1.out)
    generalize wordsE t = E at *
    go_wp2_with fail
    refine bodyPost_ret (results_fl2 rfl _ _ w.heap.size _ _ _ _ rfl rfl HS3.out) rfl ?_
    exact tell_zero (below_turn HB1.out HT.out (fun k hk => by simp at hk; omega)) HF.out
end Go.Proofs.YtlhbhpdpjidpgaaGreatDoor.Prs
