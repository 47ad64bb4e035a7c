/-
  The document's Expr: the tree of an expression's text, or why not. No condition.
-/
import Derived.Test.YtlhbhpdpjidpgaaGreatDoorX05
import Derived.Test.YtlhbhpdpjidpgaaGreatDoorX07
import Derived.Test.YtlhbhpdpjidpgaaGreatDoorX14
import Derived.Test.YtlhbhpdpjidpgaaGreatDoorX39
import Derived.Test.YtlhbhpdpjidpgaaGreatDoorX41
import Derived.Deep.DeepCutAuto
namespace Go.Proofs.YtlhbhpdpjidpgaaGreatDoor.Prs
open Go.RowKit Tre Prg
open Lex (Wd wdC wdV bs str Turn)
set_option maxRecDepth 100000
set_option linter.unusedSimpArgs false
def TellE (t : List UInt8) (w : World) (e : Ending) (w' : World) : Prop := ∃ x : Ex, e = .returned (.tuple #[exV x, .int .i64 (exprT t).2]) ∧ core x = (exprT t).1 ∧ ExIn w' x ∧ Below w.heap.size w w'
theorem exprT_we {t : List UInt8} {n : Int} (h : wordsE t = n) (hn : n ≠ 0) : exprT t = (nilT, n) := by
  unfold wordsE at h
  unfold exprT
  split at h
  · next h1 => rw [if_pos h1, h]
  · next h1 =>
    rw [if_neg h1]
    split at h
    · next h2 => rw [if_pos h2, h]
    · exact absurd h.symm hn
theorem exprT_of {t : List UInt8} (h : wordsE t = 0) : exprT t = if endE (exprD ⟨(Lex.words t).1, false, false⟩).2 ≠ 0 then (nilT, endE (exprD ⟨(Lex.words t).1, false, false⟩).2) else ((exprD ⟨(Lex.words t).1, false, false⟩).1, 0) := by
  unfold wordsE at h
  split at h
  · next h1 => exact absurd h h1
  · next h1 =>
    split at h
    · next h2 => exact absurd h (by decide)
    · next h2 =>
      unfold exprT
      rw [if_neg h1, if_neg h2]
theorem results_ex9 {fn : Func} {p q : Tmp} (h : fn.results = #[.cell p 36, .tmp q]) (tmps : Array Value) (w : World) (g : Nat) (v0 v1 v2 v3 v4 u : Value) (hv : tmps.getD p undef = .pointer (some ⟨g, 0, none⟩)) (hu : tmps.getD q undef = u) (hc : w.heap[g]? = some (.cells #[v0, v1, v2, v3, v4] 36 (0, 0))) :
    (results fn tmps).run Tryz.prog w = .ok (.tuple #[.agg #[v0, v1, v2, v3, v4], u]) w := results_ex2 h tmps w g v0 v1 v2 v3 v4 u hv hu hc
theorem tell_nil {t : List UInt8} {w W' : World} {n : Int} (hb : Below w.heap.size w W') (hq : exprT t = (nilT, n)) : TellE t w (.returned (.tuple #[.agg #[.int .i64 0, .int .i64 0, .string ⟨#[]⟩, .string ⟨#[]⟩, .slice none 0 0], .int .i64 n])) W' :=
  ⟨.mk 0 0 ⟨#[]⟩ ⟨#[]⟩ none 0 [], by rw [hq]; rfl, by rw [hq, core_eq]; rfl, leaf_in _ 0 0 ⟨#[]⟩ nil_max, hb⟩
set_option maxHeartbeats 16000000 in
theorem rexpr_any (t : List UInt8) (w : World) : Calls Tryz.prog 12 #[.string (bs t)] w (TellE t w) := by
  have HB0 := Lib.hid (ball_new w #[.int .i64 0, .int .i64 0, .string ⟨#[]⟩, .string ⟨#[]⟩, .slice none 0 0] 36)
  have HN0 := Lib.hid (new_at w #[.int .i64 0, .int .i64 0, .string ⟨#[]⟩, .string ⟨#[]⟩, .slice none 0 0] 36)
  have CW := Lib.hid (rwordsM_any t (w.alloc (.cells #[.int .i64 0, .int .i64 0, .string ⟨#[]⟩, .string ⟨#[]⟩, .slice none 0 0] 36)))
  generalize bs t = TX at *
  go_enter Tryz.func12, Tryz.ntmps12
  go_wp2_with fail
  refine CW.out.mono ?_
  rintro e w1 ⟨g, rfl, hb1, hrd⟩
  have HR1 : Hid (w1.heap[w.heap.size]? = some (.cells #[.int .i64 0, .int .i64 0, .string ⟨#[]⟩, .string ⟨#[]⟩, .slice none 0 0] 36 (0, 0))) := Lib.hid ((hb1.block _ (lt_of_heap HN0.out)).trans HN0.out)
  have HB1 : Hid (Below w.heap.size w w1) := Lib.hid (HB0.out.trans (hb1.mono HB0.out.size))
  have HRD : Hid (wordsE t = 0 → w.heap.size < g ∧ RdM w1.heap.size w1 g ⟨(Lex.words t).1, false, false⟩) := Lib.hid (fun h => ⟨by have := (hrd h).1; simp at this; omega, (hrd h).2⟩)
  clear hb1 hrd CW HB0 HN0
  by_cases he : wordsE t = 0
  · obtain ⟨hg1, hr1⟩ := HRD.out he
    have HFT := Lib.hid (exprT_of he)
    rw [he]
    clear HRD he
    generalize (⟨(Lex.words t).1, false, false⟩ : PS) = r0 at *
    have HQ : Hid (exprD r0 = ((tell (.row 0) r0).1, skipW (tell (.row 0) r0).2 [59])) := Lib.hid rfl
    have CX := Lib.hid (expr_any w1 g r0 hr1)
    have HG1 := Lib.hid hg1
    clear hr1 hg1
    generalize exprD r0 = q at *
    generalize tell (.row 0) r0 = p at *
    go_wp2_with fail
    refine CX.out.mono ?_
    rintro e w2 ⟨x, rfl, hx1, hx2, hx3, hx4, hx5⟩
    rw [exV_eq]
    have hb2 := ball_new w2 #[.int .i64 x.op, .int .i64 x.n, .string x.s, .string x.q, .slice x.a x.x.length x.c] 36
    have HX1 := Lib.hid hx1
    have HX2 := Lib.hid (Tre.ExIn.below hx2 hb2)
    have HX3 := Lib.hid hx3
    have HN2 := Lib.hid (new_at w2 #[.int .i64 x.op, .int .i64 x.n, .string x.s, .string x.q, .slice x.a x.x.length x.c] 36)
    have HR2 : Hid ((w2.alloc (.cells #[.int .i64 x.op, .int .i64 x.n, .string x.s, .string x.q, .slice x.a x.x.length x.c] 36)).heap[w.heap.size]? = some (.cells #[.int .i64 0, .int .i64 0, .string ⟨#[]⟩, .string ⟨#[]⟩, .slice none 0 0] 36 (0, 0))) := Lib.hid ((hb2.block _ (by have := lt_of_heap HR1.out; have := hx5.size; omega)).trans ((hx5.block _ (lt_of_heap HR1.out) (by have := HG1.out; simp; omega)).trans HR1.out))
    have HB2 : Hid (Below w.heap.size w (w2.alloc (.cells #[.int .i64 x.op, .int .i64 x.n, .string x.s, .string x.q, .slice x.a x.x.length x.c] 36))) := Lib.hid ((below_turn HB1.out hx5 (fun k hk => by have := HG1.out; simp at hk; omega)).trans (hb2.mono (below_turn HB1.out hx5 (fun k hk => by have := HG1.out; simp at hk; omega)).size))
    have HRE := Lib.hid (hx4.below hb2)
    have HSB : Hid (w1.heap.size ≤ w2.heap.size) := Lib.hid hx5.size
    have CS := Lib.hid (skip_any _ g p.2 [59] HRE.out)
    clear hx1 hx2 hx3 hx4 hx5 CX hb2 HR1 HB1
    obtain ⟨sb, hsb⟩ : ∃ sb, sb = w2.heap.size := ⟨_, rfl⟩
    rw [← hsb] at HN2 HSB
    have HSG : Hid (g < w1.heap.size) := Lib.hid (by have := HRE.out.glo; omega)
    go_wp2_with fail
    rw [← hsb]
    clear hsb HRE
    generalize w2.alloc (.cells #[.int .i64 x.op, .int .i64 x.n, .string x.s, .string x.q, .slice x.a x.x.length x.c] 36) = W2 at *
    refine CS.out.mono ?_
    rintro e w3 ⟨rfl, h1, h2⟩
    have HN3 : Hid (w3.heap[sb]? = some (.cells #[.int .i64 x.op, .int .i64 x.n, .string x.s, .string x.q, .slice x.a x.x.length x.c] 36 (0, 0))) := Lib.hid ((h2.block _ (lt_of_heap HN2.out) (by have := HSG.out; have := HSB.out; simp; omega)).trans HN2.out)
    have HR3 : Hid (w3.heap[w.heap.size]? = some (.cells #[.int .i64 0, .int .i64 0, .string ⟨#[]⟩, .string ⟨#[]⟩, .slice none 0 0] 36 (0, 0))) := Lib.hid ((h2.block _ (lt_of_heap HR2.out) (by have := HG1.out; simp; omega)).trans HR2.out)
    have HX4 : Hid (ExIn w3 x) := Lib.hid (ExIn.turn HX2.out (b := w1.heap.size) (g := g) HX3.out HSG.out h2)
    have HB3 : Hid (Below w.heap.size w w3) := Lib.hid (below_turn HB2.out h2 (fun k hk => by have := HG1.out; simp at hk; omega))
    have CE : Hid (Calls Tryz.prog 26 #[.pointer (some ⟨g, 0, none⟩)] w3 (EndsB (.int .i64 (endE (skipW p.2 [59]))) w3)) := Lib.hid (end_any w3 g (skipW p.2 [59]) h1)
    clear h1 h2 CS HN2 HR2 HX2 HB2
    rw [HQ.out] at HFT
    dsimp only at HFT
    clear HQ
    generalize skipW p.2 [59] = r6 at *
    go_wp2_with fail
    refine CE.out.mono ?_
    rintro e w4 ⟨rfl, hb4⟩
    have HN4 := Lib.hid ((hb4.block _ (lt_of_heap HN3.out)).trans HN3.out)
    have HR4 := Lib.hid ((hb4.block _ (lt_of_heap HR3.out)).trans HR3.out)
    have HX5 := Lib.hid (Tre.ExIn.below HX4.out hb4)
    have HB4 : Hid (Below w.heap.size w w4) := Lib.hid (HB3.out.trans (hb4.mono HB3.out.size))
    have HX6 : Hid (New (w.heap.size + 1) x) := Lib.hid (HX3.out.mono (by have := HSG.out; have := HG1.out; omega))
    clear hb4 CE HN3 HR3 HX4 HB3
    obtain ⟨x0, x1, x2, x3, x4⟩ := five_at HN4.out
    obtain ⟨y0, y1, y2, y3, y4⟩ := five_at HR4.out
    have f0 := free_at HR4.out 0
    have f1 := free_at HR4.out 1
    have f2 := free_at HR4.out 2
    have f3 := free_at HR4.out 3
    have f4 := free_at HR4.out 4
    by_cases hE : endE r6 = 0
    · rw [hE]
      have HF : Hid (exprT t = (p.1, 0)) := Lib.hid (by rw [HFT.out, if_neg (by simp [hE])])
      clear hE HFT
      have HT := Lib.hid (turn5 w4 w.heap.size (.int .i64 x.op) (.int .i64 x.n) (.string x.s) (.string x.q) (.slice x.a x.x.length x.c))
      have HS5 := Lib.hid (set5 (v0 := .int .i64 x.op) (v1 := .int .i64 x.n) (v2 := .string x.s) (v3 := .string x.q) (v4 := .slice x.a x.x.length x.c) HR4.out)
      go_wp2_with fail
      refine bodyPost_ret (results_ex9 rfl _ _ w.heap.size _ _ _ _ _ _ rfl rfl HS5.out) rfl ?_
      exact ⟨x, by rw [HF.out, exV_eq]; rfl, by rw [HF.out, HX1.out], ExIn.turn HX5.out (b := w.heap.size + 1) (g := w.heap.size) HX6.out (by omega) HT.out, below_turn HB4.out HT.out (fun k hk => by simp at hk; omega)⟩
    · have HF : Hid (exprT t = (nilT, endE r6)) := Lib.hid (by rw [HFT.out, if_pos hE])
      have e1 : (endE r6 != 0) = true := by simpa using hE
      clear hE HFT
      have HT := Lib.hid (turn5 w4 w.heap.size (.int .i64 0) (.int .i64 0) (.string ⟨#[]⟩) (.string ⟨#[]⟩) (.slice none 0 0))
      have HS5 := Lib.hid (set5 (v0 := .int .i64 0) (v1 := .int .i64 0) (v2 := .string ⟨#[]⟩) (v3 := .string ⟨#[]⟩) (v4 := .slice none 0 0) HR4.out)
      generalize endE r6 = E at *
      go_wp2_with fail
      refine bodyPost_ret (results_ex9 rfl _ _ w.heap.size _ _ _ _ _ _ rfl rfl HS5.out) rfl ?_
      exact tell_nil (below_turn HB4.out HT.out (fun k hk => by simp at hk; omega)) HF.out
  · have HF := Lib.hid (exprT_we rfl he)
    have e1 : (wordsE t != 0) = true := by simpa using he
    clear he HRD
    obtain ⟨y0, y1, y2, y3, y4⟩ := five_at HR1.out
    have f0 := free_at HR1.out 0
    have f1 := free_at HR1.out 1
    have f2 := free_at HR1.out 2
    have f3 := free_at HR1.out 3
    have f4 := free_at HR1.out 4
    have HT := Lib.hid (turn5 w1 w.heap.size (.int .i64 0) (.int .i64 0) (.string ⟨#[]⟩) (.string ⟨#[]⟩) (.slice none 0 0))
    have HS5 := Lib.hid (set5 (v0 := .int .i64 0) (v1 := .int .i64 0) (v2 := .string ⟨#[]⟩) (v3 := .string ⟨#[]⟩) (v4 := .slice none 0 0) HR1.out)
    generalize wordsE t = E at *
    go_wp2_with fail
    refine bodyPost_ret (results_ex9 rfl _ _ w.heap.size _ _ _ _ _ _ rfl rfl HS5.out) rfl ?_
    exact tell_nil (below_turn HB1.out HT.out (fun k hk => by simp at hk; omega)) HF.out
end Go.Proofs.YtlhbhpdpjidpgaaGreatDoor.Prs
/- The document's SameExpr, of two expressions that are the same. Conditions: both lie in memory. -/
namespace Go.Proofs.YtlhbhpdpjidpgaaGreatDoor.Prs
open Go.RowKit Tre
open Lex (Wd wdC wdV bs str Turn)
set_option maxRecDepth 100000
set_option linter.unusedSimpArgs false
theorem bytes_same {s t : ByteArray} (h : s.data.toList = t.data.toList) : s = t := by
  cases s; cases t
  congr 1
  exact Array.toList_inj.1 h
theorem flat_lt {e x : Ex} (h : x ∈ e.x) : size x < size e := size_part h
set_option maxHeartbeats 8000000 in
theorem same_upto : ∀ (m : Nat) (a b : Ex) (w : World), size a ≤ m → core a = core b → ExIn w a → ExIn w b → Calls Tryz.prog 14 #[exV a, exV b] w (EndsB (.bool true) w)
  | 0, a, b, w, h, _, _, _ => by rw [size_eq] at h; omega
  | m + 1, a, b, w, hm, he, ha, hb => by
    have IH := Lib.hid (fun (x y : Ex) (w' : World) (hx : x ∈ a.x) (hy : y ∈ b.x) (hc : core x = core y) (hb' : Below w.heap.size w w') => same_upto m x y w' (by have := size_part hx; omega) hc ((ha.part hx).below hb') ((hb.part hy).below hb'))
    have HRA := Lib.hid ha.nd.row
    have HRB := Lib.hid hb.nd.row
    have hlen := ha.nd.len
    obtain ⟨o, n, s, q, A, c, x⟩ := a
    obtain ⟨o', n', s', q', A', c', y⟩ := b
    rw [core_eq, core_eq] at he
    injection he with h1 h2 h3 h4 h5
    dsimp only [Ex.op, Ex.n, Ex.s, Ex.q, Ex.x] at h1 h2 h3 h4 h5
    obtain rfl := h1
    obtain rfl := h2
    obtain rfl := bytes_same h3
    obtain rfl := bytes_same h4
    have hl : y.length = x.length := by have := congrArg List.length h5; simpa using this.symm
    have HXY := Lib.hid h5
    simp only [Ex.x, Ex.a, most] at HRA HRB IH hlen
    rw [exV_eq, exV_eq]
    dsimp only [Ex.op, Ex.n, Ex.s, Ex.q, Ex.x, Ex.a, Ex.c]
    rw [hl]
    obtain ⟨k, hk⟩ : ∃ k, x.length = k := ⟨_, rfl⟩
    rw [hk] at hlen
    rw [hk]
    have HK := Lib.hid hk
    have HKY : Hid (y.length = k) := Lib.hid (hl.trans hk)
    clear ha hb hm h3 h4 h5 hl hk
    have HB2 := Lib.hid (Tre.two_new w #[.int .i64 o, .int .i64 n, .string s, .string q, .slice A k c] #[.int .i64 o, .int .i64 n, .string s, .string q, .slice A' k c'] 36)
    have HN1 : Hid (((w.alloc (.cells #[.int .i64 o, .int .i64 n, .string s, .string q, .slice A k c] 36)).alloc (.cells #[.int .i64 o, .int .i64 n, .string s, .string q, .slice A' k c'] 36)).heap[w.heap.size]? = some (.cells #[.int .i64 o, .int .i64 n, .string s, .string q, .slice A k c] 36 (0, 0))) := Lib.hid (((ball_new _ _ _).block _ (by simp)).trans (new_at w _ _))
    have HN2 : Hid (((w.alloc (.cells #[.int .i64 o, .int .i64 n, .string s, .string q, .slice A k c] 36)).alloc (.cells #[.int .i64 o, .int .i64 n, .string s, .string q, .slice A' k c'] 36)).heap[w.heap.size + 1]? = some (.cells #[.int .i64 o, .int .i64 n, .string s, .string q, .slice A' k c'] 36 (0, 0))) := Lib.hid (by have := new_at (w.alloc (.cells #[.int .i64 o, .int .i64 n, .string s, .string q, .slice A k c] 36)) #[.int .i64 o, .int .i64 n, .string s, .string q, .slice A' k c'] 36; simpa using this)
    obtain ⟨W, hW⟩ : ∃ W, (w.alloc (.cells #[.int .i64 o, .int .i64 n, .string s, .string q, .slice A k c] 36)).alloc (.cells #[.int .i64 o, .int .i64 n, .string s, .string q, .slice A' k c'] 36) = W := ⟨_, rfl⟩
    rw [hW] at HB2 HN1 HN2
    obtain ⟨y0, y1, y2, y3, y4⟩ := five_at HN1.out
    obtain ⟨z0, z1, z2, z3, z4⟩ := five_at HN2.out
    go_enter Tryz.func14, Tryz.ntmps14
    go_wp2_with fail
    clear y0 y1 y2 y3 y4 z0 z1 z2 z3 z4 hW
    go_loopw [5] (fun iv wr => ∃ j : Nat, j ≤ k ∧ iv = .int .i64 j ∧ Hid (Below W.heap.size W wr)) (fun iv _ => k - (intOf iv).toNat)
    case atStart => exact ⟨0, Nat.zero_le _, rfl, Lib.hid (Below.refl _ _)⟩
    case round =>
      obtain ⟨j, hj, rfl, HB⟩ := hrel
      have a4 : wr.cell? ⟨w.heap.size, 4, none⟩ = some (.slice A k c) := cell_at ((HB.out.block _ (lt_of_heap HN1.out)).trans HN1.out) 4
      by_cases hlt : j < k
      · obtain ⟨xe, hx⟩ : ∃ e, x[j]? = some e := ⟨_, List.getElem?_eq_getElem (by rw [HK.out]; exact hlt)⟩
        obtain ⟨ye, hy⟩ : ∃ e, y[j]? = some e := ⟨_, List.getElem?_eq_getElem (by rw [HKY.out]; exact hlt)⟩
        obtain ⟨b1, o1, rfl, -⟩ := HRA.out.at_ (Below.refl _ _) hx
        obtain ⟨b2, o2, rfl, -⟩ := HRB.out.at_ (Below.refl _ _) hy
        have HC : Hid (core xe = core ye) := Lib.hid (by
          have h1 : (x.map core)[j]? = (y.map core)[j]? := by rw [HXY.out]
          rw [List.getElem?_map, List.getElem?_map, hx, hy] at h1
          simpa using h1)
        have HX := Lib.hid hx
        have HY := Lib.hid hy
        have HF : Hid (∀ u : World, Below wr.heap.size wr u → u.cell? ⟨w.heap.size, 4, none⟩ = some (.slice (some ⟨b1, o1, none⟩) k c) ∧ u.cell? ⟨w.heap.size + 1, 4, none⟩ = some (.slice (some ⟨b2, o2, none⟩) k c')) := Lib.hid (fun u hu => by
          have hb := HB.out.trans (hu.mono HB.out.size)
          exact ⟨cell_at ((hb.block _ (lt_of_heap HN1.out)).trans HN1.out) 4, cell_at ((hb.block _ (lt_of_heap HN2.out)).trans HN2.out) 4⟩)
        have HFX : Hid (∀ u : World, Below wr.heap.size wr u → u.cell? ⟨b1, o1 + j * 5, none⟩ = some (.int .i64 xe.op) ∧ u.cell? ⟨b1, o1 + j * 5 + 1, none⟩ = some (.int .i64 xe.n) ∧ u.cell? ⟨b1, o1 + j * 5 + 2, none⟩ = some (.string xe.s) ∧ u.cell? ⟨b1, o1 + j * 5 + 3, none⟩ = some (.string xe.q) ∧ u.cell? ⟨b1, o1 + j * 5 + 4, none⟩ = some (.slice xe.a xe.x.length xe.c)) := Lib.hid (fun u hu => by
          obtain ⟨b', o', e, hc⟩ := HRA.out.at_ (HB2.out.trans ((HB.out.trans (hu.mono HB.out.size)).mono HB2.out.size)) HX.out
          injection e with e
          injection e with e1 e2
          subst e1 e2
          exact exC_at hc)
        have HFY : Hid (∀ u : World, Below wr.heap.size wr u → u.cell? ⟨b2, o2 + j * 5, none⟩ = some (.int .i64 ye.op) ∧ u.cell? ⟨b2, o2 + j * 5 + 1, none⟩ = some (.int .i64 ye.n) ∧ u.cell? ⟨b2, o2 + j * 5 + 2, none⟩ = some (.string ye.s) ∧ u.cell? ⟨b2, o2 + j * 5 + 3, none⟩ = some (.string ye.q) ∧ u.cell? ⟨b2, o2 + j * 5 + 4, none⟩ = some (.slice ye.a ye.x.length ye.c)) := Lib.hid (fun u hu => by
          obtain ⟨b', o', e, hc⟩ := HRB.out.at_ (HB2.out.trans ((HB.out.trans (hu.mono HB.out.size)).mono HB2.out.size)) HY.out
          injection e with e
          injection e with e1 e2
          subst e1 e2
          exact exC_at hc)
        have CI := Lib.hid (fun (u : World) (hu : Below wr.heap.size wr u) => IH.out xe ye u (List.mem_of_getElem? HX.out) (List.mem_of_getElem? HY.out) HC.out (HB2.out.trans ((HB.out.trans (hu.mono HB.out.size)).mono HB2.out.size)))
        rw [exV_eq, exV_eq] at CI
        clear hx hy HX HY HC
        go_wp2_with fail
        clear a4
        have HS0 : Hid (Below wr.heap.size wr wr.drew) := Lib.hid ((Below.refl _ _).drew)
        refine Lex.AtS.start (by kernel_rfl) 11 (fun u => Below wr.heap.size wr u) (by kernel_rfl) (by kernel_rfl) ?_
        generalize wr.drew = u0 at *
        refine Lex.at_take 0 48 (.pointer (some ⟨w.heap.size, 4, none⟩)) rfl rfl (by kernel_rfl) (by decide) (by decide) (fun _ _ _ h => h) (by kernel_rfl) HS0.out (fun w' hw' => ?_) ?_
        · go_simp
        go_frame
        refine Lex.at_take 1 49 (.slice (some ⟨b1, o1, none⟩) k c) rfl rfl (by kernel_rfl) (by decide) (by decide) (fun _ _ _ h => h) (by kernel_rfl) HS0.out (fun w' hw' => ?_) ?_
        · obtain ⟨x0, x1⟩ := HF.out w' hw'
          go_simp
        go_frame
        refine Lex.at_take 2 50 (.int .i64 j) rfl rfl (by kernel_rfl) (by decide) (by decide) (fun _ _ _ h => h) (by kernel_rfl) HS0.out (fun w' hw' => ?_) ?_
        · go_simp
        go_frame
        refine Lex.at_take 3 51 (.pointer (some ⟨b1, o1 + j * 5, none⟩)) rfl rfl (by kernel_rfl) (by decide) (by decide) (fun _ _ _ h => h) (by kernel_rfl) HS0.out (fun w' hw' => ?_) ?_
        · go_simp
        go_frame
        refine Lex.at_take 4 52 (.agg #[.int .i64 xe.op, .int .i64 xe.n, .string xe.s, .string xe.q, .slice xe.a xe.x.length xe.c]) rfl rfl (by kernel_rfl) (by decide) (by decide) (fun _ _ _ h => h) (by kernel_rfl) HS0.out (fun w' hw' => ?_) ?_
        · obtain ⟨x0, x1, x2, x3, x4⟩ := HFX.out w' hw'
          go_simp
        go_frame
        refine Lex.at_take 5 53 (.pointer (some ⟨w.heap.size + 1, 4, none⟩)) rfl rfl (by kernel_rfl) (by decide) (by decide) (fun _ _ _ h => h) (by kernel_rfl) HS0.out (fun w' hw' => ?_) ?_
        · go_simp
        go_frame
        refine Lex.at_take 6 54 (.slice (some ⟨b2, o2, none⟩) k c') rfl rfl (by kernel_rfl) (by decide) (by decide) (fun _ _ _ h => h) (by kernel_rfl) HS0.out (fun w' hw' => ?_) ?_
        · obtain ⟨x0, x1⟩ := HF.out w' hw'
          go_simp
        go_frame
        refine Lex.at_take 7 55 (.int .i64 j) rfl rfl (by kernel_rfl) (by decide) (by decide) (fun _ _ _ h => h) (by kernel_rfl) HS0.out (fun w' hw' => ?_) ?_
        · go_simp
        go_frame
        refine Lex.at_take 8 56 (.pointer (some ⟨b2, o2 + j * 5, none⟩)) rfl rfl (by kernel_rfl) (by decide) (by decide) (fun _ _ _ h => h) (by kernel_rfl) HS0.out (fun w' hw' => ?_) ?_
        · go_simp
        go_frame
        refine Lex.at_take 9 57 (.agg #[.int .i64 ye.op, .int .i64 ye.n, .string ye.s, .string ye.q, .slice ye.a ye.x.length ye.c]) rfl rfl (by kernel_rfl) (by decide) (by decide) (fun _ _ _ h => h) (by kernel_rfl) HS0.out (fun w' hw' => ?_) ?_
        · obtain ⟨x0, x1, x2, x3, x4⟩ := HFY.out w' hw'
          go_simp
        go_frame
        refine Lex.at_call 10 58 (f := 14) (args := #[.agg #[.int .i64 xe.op, .int .i64 xe.n, .string xe.s, .string xe.q, .slice xe.a xe.x.length xe.c], .agg #[.int .i64 ye.op, .int .i64 ye.n, .string ye.s, .string ye.q, .slice ye.a ye.x.length ye.c]]) rfl rfl (by kernel_rfl) (by decide) (by kernel_rfl) ?_ ?_
        · go_simp
        refine (CI.out u0 HS0.out).mono ?_
        rintro e u1 ⟨rfl, hb1⟩
        have HB5 : Hid (Below wr.heap.size wr u1) := Lib.hid (HS0.out.trans (hb1.mono HS0.out.size))
        refine ⟨_, rfl, HB5.out, ?_⟩
        clear hb1 CI HF HFX HFY
        go_frame
        refine Lex.AtS.lastv 11 59 (.bool false) u1 rfl rfl (by kernel_rfl) (by kernel_rfl) (by decide) (by kernel_rfl) ?_ ?_
        · go_simp
        go_frame
        go_wp2_with fail
        go_roundw
        case rel => exact ⟨j + 1, by omega, by go_num, Lib.hid (HB.out.trans (HB5.out.mono HB.out.size))⟩
        case measure => simp [intOf]; omega
      · obtain rfl : j = k := by omega
        clear hlt hj
        go_wp2_with fail
        go_ret
        exact ⟨rfl, HB2.out.trans (HB.out.mono HB2.out.size)⟩
theorem same_ex (a b : Ex) (w : World) (h : core a = core b) (ha : ExIn w a) (hb : ExIn w b) : Calls Tryz.prog 14 #[exV a, exV b] w (EndsB (.bool true) w) := same_upto _ a b w (Nat.le_refl _) h ha hb
end Go.Proofs.YtlhbhpdpjidpgaaGreatDoor.Prs
/- The document's sameBody, of two rows of statements that are the same. Conditions: both lie in memory. -/
namespace Go.Proofs.YtlhbhpdpjidpgaaGreatDoor.Prs
open Go.RowKit Tre
open Lex (Wd wdC wdV bs str Turn)
set_option maxRecDepth 100000
set_option linter.unusedSimpArgs false
end Go.Proofs.YtlhbhpdpjidpgaaGreatDoor.Prs
