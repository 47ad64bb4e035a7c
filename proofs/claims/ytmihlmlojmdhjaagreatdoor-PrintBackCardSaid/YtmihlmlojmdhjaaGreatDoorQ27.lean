/-
  A text, whole: what the program's parser tells of it, file or expression. Conditions: the tables lie as the program's text lays them.
-/
import Derived.Test.YtmihlmlojmdhjaaGreatDoorQ02
import Derived.Test.YtmihlmlojmdhjaaGreatDoorQ03
import Derived.Test.YtmihlmlojmdhjaaGreatDoorQ07
import Derived.Test.YtmihlmlojmdhjaaGreatDoorQ26
import Derived.Lib.Builder
import Derived.Lib.AppendStr
import Derived.Lib.UnsafeStr
import Derived.Maps.RangeWalk
namespace Go.Proofs.YtmihlmlojmdhjaaGreatDoor.Prg
open Go.RowKit Tre Prs
open Lex (Wd wdC wdV bs str Turn)
set_option maxRecDepth 100000
set_option linter.unusedSimpArgs false
variable {lo : Nat}
/-- To the end of the words. -/
def AgW {α : Type} (p : α × PS) (t : α) (r : PS) : Prop := ((p.2.bad = true ∨ p.2.l ≠ []) ∧ (r.bad = true ∨ r.l ≠ [])) ∨ (p.2.bad = false ∧ p.2.l = [] ∧ t = p.1 ∧ r = p.2)
theorem AgE.w {α : Type} {p : α × PS} {t : α} {r : PS} (h : AgE p t r) : AgW p t r := h.elim (fun h => .inl ⟨h.1, .inl h.2⟩) .inr
theorem Ag.w {α : Type} {p : α × PS} {t : α} {r : PS} (h : Ag p t r) : AgW p t r := by
  rcases h with ⟨h1, h2⟩ | ⟨h1, h2, h3⟩
  · exact .inl ⟨.inl h1, .inl h2⟩
  · by_cases hl : p.2.l = []
    · exact .inr ⟨h1, hl, h2, h3⟩
    · exact .inl ⟨.inr hl, .inr (by rw [h3]; exact hl)⟩
theorem endE_bad {r : PS} (h : r.bad = true ∨ r.l ≠ []) : endE r = 7 := by
  unfold endE
  rw [if_pos]
  rcases h with h | h
  · simp [h]
  · have := List.length_pos_iff.2 h
    simp [this]
theorem endE_ok {r : PS} (h : r.bad = false) (hl : r.l = []) : endE r = if r.big then 11 else 0 := by
  unfold endE
  rw [h, hl]
  rfl
/-- What the program's parser tells of a text that is one expression. -/
def exprP (r : PS) : Tx × PS := ((tell (.row 0) r).1, mustW (tell (.row 0) r).2 [59])
def exprTP (t : List UInt8) : Tx × Int :=
  if (Lex.words t).2 ≠ 0 then (nilT, (Lex.words t).2)
  else if 24 < nestD (Lex.words t).1 then (nilT, 11)
  else if endE (exprP ⟨(Lex.words t).1, false, false⟩).2 ≠ 0 then (nilT, endE (exprP ⟨(Lex.words t).1, false, false⟩).2)
  else ((exprP ⟨(Lex.words t).1, false, false⟩).1, 0)
/-- The tables. -/
structure Tabs (w : World) : Prop where
  lex : Lex.Signs w
  par : Sigs w
theorem Tabs.below {w w' : World} (h : Tabs w) (hb : Below w.heap.size w w') : Tabs w' := ⟨h.lex.below h.lex.pos hb, h.par.below h.par.pos hb⟩
def nilFl : Fl := ⟨⟨#[]⟩, none, 0, [], none, 0, []⟩
theorem nilFl_in (w : World) : FlIn w nilFl := ⟨Row.nil _ _ _ _, Row.nil _ _ _ _, (fun g hg => by simp [nilFl] at hg), by simp [nilFl, most], by simp [nilFl, most], nil_max, (fun s hs => by simp [nilFl] at hs)⟩
theorem nilFl_new (n : Nat) : NewFl n nilFl := ⟨(fun ad e => by cases e), (fun ad e => by cases e), (fun g hg => by simp [nilFl] at hg)⟩
theorem nilFl_core : coreL nilFl = zeroL := rfl
def TellF (t : List UInt8) (w : World) (e : Ending) (w' : World) : Prop := ∃ f : Fl, e = .returned (.tuple #[flV f, .int .i64 (fileT t).2]) ∧ coreL f = (fileT t).1 ∧ FlIn w' f ∧ NewFl w.heap.size f ∧ Below w.heap.size w w'
def TellX (t : List UInt8) (w : World) (e : Ending) (w' : World) : Prop := ∃ x : Ex, e = .returned (.tuple #[exV x, .int .i64 (exprTP t).2]) ∧ core x = (exprTP t).1 ∧ ExIn w' x ∧ New w.heap.size x ∧ Below w.heap.size w w'
theorem nilX_core : core nilX = nilT := by rw [core_eq]; rfl
def EvGX (lo : Nat) (w : World) (g : Nat) (q : Tx × PS) (e : Ending) (w' : World) : Prop := ∃ (x : Ex) (r' : PS), e = .returned (exV x) ∧ AgW q (core x) r' ∧ ExIn w' x ∧ New w.heap.size x ∧ RdG lo w' g r' ∧ Turn [g] w w'
def EvGW (lo : Nat) (w : World) (g : Nat) (q : Tl × PS) (e : Ending) (w' : World) : Prop := ∃ (f : Fl) (r' : PS), e = .returned (flV f) ∧ AgW q (coreL f) r' ∧ FlIn w' f ∧ NewFl w.heap.size f ∧ RdG lo w' g r' ∧ Turn [g] w w'
/-- The reader of a text's words. -/
theorem new_reader {w : World} {v : Value} {l : List Wd} {n : Nat} (hv : Lex.OwnW w n v l) (hg : ∀ x ∈ l, Lex.Good x) (hl : l.length ≤ 2048) (hT : Tabs w) (hn : 4 < n) (hnw : n ≤ w.heap.size) :
    InG (w.heap.size + 1) (w.alloc (.cells #[v, .bool false, .bool false] 118)) w.heap.size ⟨l, false, false⟩ := by
  have hb := ball_new w #[v, .bool false, .bool false] 118
  obtain ⟨A, c, rfl, hc, hA⟩ := OwnW.cap hv
  have hrow : Row 3 wdC w A l := OwnW.row hv
  refine ⟨⟨⟨A, c, new_at w _ _, hc, hrow.below hb, fun b o e => ?_⟩, by show l.length ≤ 100000; omega, Nat.lt_succ_self _, by simp, fun x hx => ⟨good_len (hg x hx), good_ks (hg x hx)⟩, fun h => by cases h⟩, (hT.below hb).par, by omega, by omega⟩
  subst e
  have := (hv.lt b rfl).2
  omega
theorem NewFl.mono {n m : Nat} {f : Fl} (h : NewFl n f) (hm : m ≤ n) : NewFl m f := ⟨fun ad e => Nat.le_trans hm (h.1 ad e), fun ad e => Nat.le_trans hm (h.2.1 ad e), fun g hg => (h.2.2 g hg).mono hm⟩
theorem fileT_err {t : List UInt8} (h : (Lex.words t).2 ≠ 0) : fileT t = (zeroL, (Lex.words t).2) := by unfold fileT; rw [if_pos h]
theorem fileT_deep {t : List UInt8} (h : (Lex.words t).2 = 0) (h2 : 24 < nestD (Lex.words t).1) : fileT t = (zeroL, 11) := by unfold fileT; rw [if_neg (by simp [h]), if_pos h2]
theorem fileT_end {t : List UInt8} {n : Int} (h : (Lex.words t).2 = 0) (h2 : ¬ 24 < nestD (Lex.words t).1) (h3 : endE (fileD ⟨(Lex.words t).1, false, false⟩).2 = n) (hn : n ≠ 0) : fileT t = (zeroL, n) := by unfold fileT; rw [if_neg (by simp [h]), if_neg h2, h3, if_pos hn]
theorem fileT_ok {t : List UInt8} (h : (Lex.words t).2 = 0) (h2 : ¬ 24 < nestD (Lex.words t).1) (h3 : endE (fileD ⟨(Lex.words t).1, false, false⟩).2 = 0) : fileT t = ((fileD ⟨(Lex.words t).1, false, false⟩).1, 0) := by unfold fileT; rw [if_neg (by simp [h]), if_neg h2, h3, if_neg (by simp)]
set_option maxHeartbeats 16000000 in
theorem wholeFile_any (t : List UInt8) (w : World) (hT : Tabs w) (CR : ∀ (lo : Nat) (w' : World) (g : Nat) (r : PS), InG lo w' g r → Hid (Calls Tryz.prog 36 #[.pointer (some ⟨g, 0, none⟩)] w' (EvGW lo w' g (fileD r)))) :
    Calls Tryz.prog 35 #[.string (bs t), .func (.func 36) #[] #[]] w (TellF t w) := by
  have HB2 := Lib.hid (two_below w #[.string ⟨#[]⟩, .slice none 0 0, .slice none 0 0] #[.string ⟨#[]⟩, .slice none 0 0, .slice none 0 0] 25 25)
  have HN2 := Lib.hid (two_new_at w #[.string ⟨#[]⟩, .slice none 0 0, .slice none 0 0] #[.string ⟨#[]⟩, .slice none 0 0, .slice none 0 0] 25 25)
  have HTB := Lib.hid (hT.below HB2.out)
  have HG0 : Hid (4 < w.heap.size) := Lib.hid hT.par.pos
  have HSZ : Hid (((w.alloc (.cells #[.string ⟨#[]⟩, .slice none 0 0, .slice none 0 0] 25)).alloc (.cells #[.string ⟨#[]⟩, .slice none 0 0, .slice none 0 0] 25)).heap.size = w.heap.size + 2) := Lib.hid (by simp)
  have CW := Lib.hid (Lex.words_any t _ HTB.out.lex)
  have HCR := Lib.hid CR
  clear hT CR
  have HBS : Hid (bs t = bs t) := Lib.hid rfl
  generalize bs t = TX at *
  go_enter Tryz.func35, Tryz.ntmps35
  go_wp2_with fail
  refine CW.out.mono ?_
  rintro e w1 ⟨v, rfl, hv, hb1⟩
  have HV := Lib.hid hv
  have HT1 := Lib.hid (HTB.out.below hb1)
  have T1 : Hid (Turn [] w w1) := Lib.hid (((Turn.refl [] w).below HB2.out).below hb1)
  have HR1 : Hid (w1.heap[w.heap.size]? = some (.cells #[.string ⟨#[]⟩, .slice none 0 0, .slice none 0 0] 25 (0, 0))) := Lib.hid ((hb1.block _ (lt_of_heap HN2.out.1)).trans HN2.out.1)
  have HN1 : Hid (w1.heap[w.heap.size + 1]? = some (.cells #[.string ⟨#[]⟩, .slice none 0 0, .slice none 0 0] 25 (0, 0))) := Lib.hid ((hb1.block _ (lt_of_heap HN2.out.2)).trans HN2.out.2)
  have HZ1 : Hid (w.heap.size + 2 ≤ w1.heap.size) := Lib.hid (by have := hb1.size; rw [HSZ.out] at this; exact this)
  clear hv hb1 CW HTB HB2 HN2
  by_cases he : (Lex.words t).2 = 0
  · have HE := Lib.hid he
    have HW0 := Lib.hid (words_ok0 he)
    rw [he]
    clear he
    obtain ⟨A, c, rfl, hc, hA⟩ := OwnW.cap HV.out
    have hrow : Row 3 wdC w1 A (Lex.words t).1 := OwnW.row HV.out
    have CN := Lib.hid (nestg_any (Lex.words t).1 A c w1 hrow (by have := HW0.out.2.2; omega))
    have HNG : Hid (nestG (Lex.words t).1 = nestD (Lex.words t).1) := Lib.hid (nestG_good HW0.out.1)
    rw [HNG.out] at CN
    clear hrow hc hA HNG
    go_wp2_with fail
    refine CN.out.mono ?_
    rintro e w2 ⟨rfl, hb2⟩
    have HT2 := Lib.hid (HT1.out.below hb2)
    have T2 := Lib.hid (T1.out.below hb2)
    have HR2 := Lib.hid ((hb2.block _ (lt_of_heap HR1.out)).trans HR1.out)
    have HN2 := Lib.hid ((hb2.block _ (lt_of_heap HN1.out)).trans HN1.out)
    have HZ2 : Hid (w.heap.size + 2 ≤ w2.heap.size) := Lib.hid (by have := hb2.size; have := HZ1.out; omega)
    have HV2 := Lib.hid (Lex.OwnW.keep HV.out fun b hb => hb2.block b (HV.out.lt b hb).2)
    have HV3 : Hid (w.heap.size + 2 ≤ w2.heap.size) := HZ2
    clear hb2 CN HT1 T1 HR1 HN1
    by_cases hd : 24 < nestD (Lex.words t).1
    · have HEQ := Lib.hid (fileT_deep HE.out hd)
      have hq : (24 : Int) < (nestD (Lex.words t).1 : Nat) := by omega
      generalize nestD (Lex.words t).1 = d at hq ⊢
      clear hd
      obtain ⟨z0, z1, z2⟩ := three_at HN2.out
      obtain ⟨y0, y1, y2⟩ := three_at HR2.out
      have f0 := free_at HR2.out 0
      have f1 := free_at HR2.out 1
      have f2 := free_at HR2.out 2
      go_wp2_with fail
      have HT := Lib.hid (turn3 w2 w.heap.size (.string ⟨#[]⟩) (.slice none 0 0) (.slice none 0 0))
      refine bodyPost_ret (results_fl2 rfl _ _ w.heap.size _ _ _ (.int .i64 11) rfl rfl (set3 HR2.out)) rfl ?_
      exact ⟨nilFl, by rw [HEQ.out]; rfl, by rw [HEQ.out]; exact nilFl_core, nilFl_in _, nilFl_new _, (T2.out.then_ HT.out (fun k hk => by simp at hk; subst hk; exact .inr (Nat.le_refl _))).low (by simp) (Nat.le_refl _)⟩
    · have HD := Lib.hid hd
      have hq : ¬ (24 : Int) < (nestD (Lex.words t).1 : Nat) := by omega
      generalize nestD (Lex.words t).1 = d at hq ⊢
      clear hd
      have HIN := Lib.hid (new_reader HV2.out HW0.out.1 HW0.out.2.2 HT2.out (by have := HG0.out; rw [HSZ.out]; omega) (by rw [HSZ.out]; exact HZ2.out))
      have HB3 := Lib.hid (ball_new w2 #[.slice A (Lex.words t).1.length c, .bool false, .bool false] 118)
      have T3 := Lib.hid (T2.out.below HB3.out)
      have HR3 := Lib.hid ((HB3.out.block _ (lt_of_heap HR2.out)).trans HR2.out)
      have HN3 := Lib.hid ((HB3.out.block _ (lt_of_heap HN2.out)).trans HN2.out)
      have HZ3 : Hid ((w2.alloc (.cells #[.slice A (Lex.words t).1.length c, .bool false, .bool false] 118)).heap.size = w2.heap.size + 1) := Lib.hid (by simp)
      have hcf : ∀ w', (callFunc 36 #[.pointer (some ⟨w2.heap.size, 0, none⟩)]).run Tryz.prog w' = .ok (.enter 36 #[.pointer (some ⟨w2.heap.size, 0, none⟩)]) w' := fun w' => by kernel_rfl
      have CC := HCR.out _ _ _ _ HIN.out
      go_wp2_with fail
      clear hq HV HV2 HT2 HB3 T2 HR2 HN2 hcf
      refine CC.out.mono ?_
      rintro e w4 ⟨x, r', rfl, ha, hin, hnn, hr, ht⟩
      unfold flV
      have HGN : Hid (w.heap.size + 2 ≤ w2.heap.size) := HZ2
      have HA := Lib.hid ha
      have HI4 := Lib.hid hin
      have HNN := Lib.hid hnn
      have T4 := Lib.hid (T3.out.then_ ht (fun k hk => by simp at hk; subst hk; exact .inr (by have := HGN.out; omega)))
      have HR4 := Lib.hid ((ht.block _ (lt_of_heap HR3.out) (by have := HGN.out; simp; omega)).trans HR3.out)
      have HN4 := Lib.hid ((ht.block _ (lt_of_heap HN3.out) (by have := HGN.out; simp; omega)).trans HN3.out)
      have HR := Lib.hid hr
      have HB5 := Lib.hid (ball_new w4 #[.string x.s, .slice x.ia x.i.length x.ic, .slice x.fa x.f.length x.fc] 25)
      have HX5 := Lib.hid (new_at w4 #[.string x.s, .slice x.ia x.i.length x.ic, .slice x.fa x.f.length x.fc] 25)
      have T5 := Lib.hid (T4.out.below HB5.out)
      have HR5 := Lib.hid ((HB5.out.block _ (lt_of_heap HR4.out)).trans HR4.out)
      have HN5 := Lib.hid ((HB5.out.block _ (lt_of_heap HN4.out)).trans HN4.out)
      have HRD5 := Lib.hid (HR.out.below HB5.out)
      have HI5 := Lib.hid (Tre.FlIn.below hin HB5.out)
      clear ha hin hnn hr ht CC T3 T4 HR3 HN3 HR4 HN4 HR
      obtain ⟨a5, c5, hrd, -⟩ := HRD5.out.at_
      have g1 := cell_at hrd 1
      have g2 := cell_at hrd 2
      simp only [List.getElem?_toArray, List.getElem?_cons_succ, List.getElem?_cons_zero] at g1 g2
      clear hrd
      obtain ⟨W5, hW5⟩ : ∃ W5, w4.alloc (.cells #[.string x.s, .slice x.ia x.i.length x.ic, .slice x.fa x.f.length x.fc] 25) = W5 := ⟨_, rfl⟩
      rw [hW5] at HB5 HX5 T5 HR5 HN5 HRD5 HI5 g1 g2
      rcases HA.out with ⟨h1, h2⟩ | ⟨h1, hl, h3, h4⟩
      · have HEQ := Lib.hid (fileT_end HE.out HD.out (endE_bad h1) (by decide))
        clear h1
        rcases Bool.eq_false_or_eq_true r'.bad with hb | hb
        · rw [hb] at g1
          clear h2 hb
          obtain ⟨z0, z1, z2⟩ := three_at HN5.out
          obtain ⟨y0, y1, y2⟩ := three_at HR5.out
          have f0 := free_at HR5.out 0
          have f1 := free_at HR5.out 1
          have f2 := free_at HR5.out 2
          go_wp2_with fail
          have HT := Lib.hid (turn3 W5 w.heap.size (.string ⟨#[]⟩) (.slice none 0 0) (.slice none 0 0))
          refine bodyPost_ret (results_fl2 rfl _ _ w.heap.size _ _ _ (.int .i64 7) rfl rfl (set3 HR5.out)) rfl ?_
          exact ⟨nilFl, by rw [HEQ.out]; rfl, by rw [HEQ.out]; exact nilFl_core, nilFl_in _, nilFl_new _, (T5.out.then_ HT.out (fun k hk => by simp at hk; subst hk; exact .inr (Nat.le_refl _))).low (by simp) (Nat.le_refl _)⟩
        · have hl : 0 < r'.l.length := List.length_pos_iff.2 (h2.elim (fun h => by rw [hb] at h; cases h) id)
          have CE := Lib.hid (ended_no HRD5.out hl)
          rw [hb] at g1
          clear h2 hb hl
          obtain ⟨z0, z1, z2⟩ := three_at HN5.out
          obtain ⟨y0, y1, y2⟩ := three_at HR5.out
          have f0 := free_at HR5.out 0
          have f1 := free_at HR5.out 1
          have f2 := free_at HR5.out 2
          go_wp2_with fail
          refine CE.out.mono ?_
          rintro e w6 ⟨rfl, rfl⟩
          go_wp2_with fail
          have HT := Lib.hid (turn3 w6 w.heap.size (.string ⟨#[]⟩) (.slice none 0 0) (.slice none 0 0))
          refine bodyPost_ret (results_fl2 rfl _ _ w.heap.size _ _ _ (.int .i64 7) rfl rfl (set3 HR5.out)) rfl ?_
          exact ⟨nilFl, by rw [HEQ.out]; rfl, by rw [HEQ.out]; exact nilFl_core, nilFl_in _, nilFl_new _, (T5.out.then_ HT.out (fun k hk => by simp at hk; subst hk; exact .inr (Nat.le_refl _))).low (by simp) (Nat.le_refl _)⟩
      · have HEN := Lib.hid (endE_ok h1 hl)
        have CE := Lib.hid (ended_yes HRD5.out (by rw [h4]; exact hl))
        have HC := Lib.hid h3
        rw [h4] at g1 g2
        rw [h1] at g1
        clear h1 hl h3 h4
        rcases Bool.eq_false_or_eq_true (fileD ⟨(Lex.words t).1, false, false⟩).2.big with hbig | hbig
        · rw [hbig] at g2 HEN
          have HEQ := Lib.hid (fileT_end HE.out HD.out HEN.out (by simp))
          clear hbig
          obtain ⟨z0, z1, z2⟩ := three_at HN5.out
          obtain ⟨y0, y1, y2⟩ := three_at HR5.out
          have f0 := free_at HR5.out 0
          have f1 := free_at HR5.out 1
          have f2 := free_at HR5.out 2
          go_wp2_with fail
          refine CE.out.mono ?_
          rintro e w6 ⟨rfl, rfl⟩
          go_wp2_with fail
          have HT := Lib.hid (turn3 w6 w.heap.size (.string ⟨#[]⟩) (.slice none 0 0) (.slice none 0 0))
          refine bodyPost_ret (results_fl2 rfl _ _ w.heap.size _ _ _ (.int .i64 11) rfl rfl (set3 HR5.out)) rfl ?_
          exact ⟨nilFl, by rw [HEQ.out]; rfl, by rw [HEQ.out]; exact nilFl_core, nilFl_in _, nilFl_new _, (T5.out.then_ HT.out (fun k hk => by simp at hk; subst hk; exact .inr (Nat.le_refl _))).low (by simp) (Nat.le_refl _)⟩
        · rw [hbig] at g2 HEN
          have HEQ := Lib.hid (fileT_ok HE.out HD.out HEN.out)
          clear hbig
          obtain ⟨x0, x1, x2⟩ := three_at HX5.out
          obtain ⟨y0, y1, y2⟩ := three_at HR5.out
          have f0 := free_at HR5.out 0
          have f1 := free_at HR5.out 1
          have f2 := free_at HR5.out 2
          go_wp2_with fail
          refine CE.out.mono ?_
          rintro e w6 ⟨rfl, rfl⟩
          go_wp2_with fail
          have HT := Lib.hid (turn3 w6 w.heap.size (.string x.s) (.slice x.ia x.i.length x.ic) (.slice x.fa x.f.length x.fc))
          refine bodyPost_ret (results_fl2 rfl _ _ w.heap.size _ _ _ (.int .i64 0) rfl rfl (set3 HR5.out)) rfl ?_
          have hin := HI5.out
          have hnn : NewFl (w.heap.size + 1) x := NewFl.mono HNN.out (by have := HGN.out; rw [HZ3.out]; omega)
          exact ⟨x, by rw [HEQ.out]; rfl, by rw [HEQ.out]; exact HC.out, FlIn.off hin hnn (fun k hk => by simp at hk; omega) HT.out, NewFl.mono hnn (by omega), (T5.out.then_ HT.out (fun k hk => by simp at hk; subst hk; exact .inr (Nat.le_refl _))).low (by simp) (Nat.le_refl _)⟩
  · have HEQ := Lib.hid (fileT_err he)
    have heb : ((Lex.words t).2 != 0) = true := by simpa using he
    clear he HV HT1
    obtain ⟨er, her⟩ : ∃ er, (Lex.words t).2 = er := ⟨_, rfl⟩
    rw [her] at heb HEQ ⊢
    clear her
    obtain ⟨z0, z1, z2⟩ := three_at HN1.out
    obtain ⟨y0, y1, y2⟩ := three_at HR1.out
    have f0 := free_at HR1.out 0
    have f1 := free_at HR1.out 1
    have f2 := free_at HR1.out 2
    go_wp2_with fail
    have HT := Lib.hid (turn3 w1 w.heap.size (.string ⟨#[]⟩) (.slice none 0 0) (.slice none 0 0))
    refine bodyPost_ret (results_fl2 rfl _ _ w.heap.size _ _ _ (.int .i64 er) rfl rfl (set3 HR1.out)) rfl ?_
    exact ⟨nilFl, by rw [HEQ.out]; rfl, by rw [HEQ.out]; exact nilFl_core, nilFl_in _, nilFl_new _, (T1.out.then_ HT.out (fun k hk => by simp at hk; subst hk; exact .inr (Nat.le_refl _))).low (by simp) (Nat.le_refl _)⟩
theorem exprTP_err {t : List UInt8} (h : (Lex.words t).2 ≠ 0) : exprTP t = (nilT, (Lex.words t).2) := by unfold exprTP; rw [if_pos h]
theorem exprTP_deep {t : List UInt8} (h : (Lex.words t).2 = 0) (h2 : 24 < nestD (Lex.words t).1) : exprTP t = (nilT, 11) := by unfold exprTP; rw [if_neg (by simp [h]), if_pos h2]
theorem exprTP_end {t : List UInt8} {n : Int} (h : (Lex.words t).2 = 0) (h2 : ¬ 24 < nestD (Lex.words t).1) (h3 : endE (exprP ⟨(Lex.words t).1, false, false⟩).2 = n) (hn : n ≠ 0) : exprTP t = (nilT, n) := by unfold exprTP; rw [if_neg (by simp [h]), if_neg h2, h3, if_pos hn]
theorem exprTP_ok {t : List UInt8} (h : (Lex.words t).2 = 0) (h2 : ¬ 24 < nestD (Lex.words t).1) (h3 : endE (exprP ⟨(Lex.words t).1, false, false⟩).2 = 0) : exprTP t = ((exprP ⟨(Lex.words t).1, false, false⟩).1, 0) := by unfold exprTP; rw [if_neg (by simp [h]), if_neg h2, h3, if_neg (by simp)]
end Go.Proofs.YtmihlmlojmdhjaaGreatDoor.Prg
/- The writer (a builder, and how many blocks are open) in memory: what a call on it leaves. Conditions: sizes. -/
namespace Go.Proofs.YtmihlmlojmdhjaaGreatDoor.Wr
open Go.RowKit Tre
set_option maxRecDepth 100000
/-- Only new blocks, and the writer's own, have turned; blocks of other things than bytes are as they were. -/
structure Stp (lo b : Nat) (w w' : World) : Prop where
  below : Below lo w w'
  keep : ∀ (k : Nat) (cs : Array Value) (T : TypeId), T ≠ 5 → k ≠ b → w.heap[k]? = some (.cells cs T (0, 0)) → w'.heap[k]? = some (.cells cs T (0, 0))
theorem Stp.refl (lo b : Nat) (w : World) : Stp lo b w w := ⟨Below.refl _ _, fun _ _ _ _ _ h => h⟩
theorem Stp.trans {lo b : Nat} {u v w : World} (h : Stp lo b u v) (k : Stp lo b v w) : Stp lo b u w := ⟨h.below.trans k.below, fun i _ _ hT hi hc => k.keep i _ _ hT hi (h.keep i _ _ hT hi hc)⟩
theorem Stp.new {lo b : Nat} {w w' : World} (h : Below w.heap.size w w') (hl : lo ≤ w.heap.size) : Stp lo b w w' := ⟨h.mono hl, fun k _ _ _ _ hc => (h.block k (lt_of_heap hc)).trans hc⟩
theorem Stp.alloc {lo b : Nat} (w : World) (o : Obj) (hl : lo ≤ w.heap.size) : Stp lo b w (w.alloc o) := Stp.new ((Below.refl _ w).alloc (Nat.le_refl _) o) hl
theorem Stp.size {lo b : Nat} {w w' : World} (h : Stp lo b w w') : w.heap.size ≤ w'.heap.size := h.below.size
/-- The writer in block b: n blocks are open, the bytes l are written. -/
def Wt (w : World) (lo b : Nat) (n : Int) (l : List UInt8) : Prop :=
  lo ≤ b ∧ ∃ p v, (p = .pointer none ∨ p = .pointer (some ⟨b, 0, none⟩)) ∧ w.heap[b]? = some (.cells #[p, v, .int .i64 n] 66 (0, 0)) ∧ w.ownsRow lo 5 1 v l.length (Lib.byteCells l)
theorem Wt.lt {w : World} {lo b : Nat} {n : Int} {l : List UInt8} (h : Wt w lo b n l) : b < w.heap.size := by
  obtain ⟨_, p, v, _, hb, _⟩ := h
  exact lt_of_heap hb
theorem Wt.lo {w : World} {lo b : Nat} {n : Int} {l : List UInt8} (h : Wt w lo b n l) : lo ≤ w.heap.size := Nat.le_trans h.1 (Nat.le_of_lt h.lt)
theorem own_keep {w w' : World} {lo : Nat} {T : TypeId} {k n : Nat} {v : Value} {xs : List Value} (h : w.ownsRow lo T k v n xs) (hb : ∀ g, v.ownBlock = some g → w'.heap[g]? = w.heap[g]?) : w'.ownsRow lo T k v n xs := by
  refine ⟨h.1, ?_⟩
  rcases h.2 with h2 | ⟨g, cap, cur, e, hlo, hh, r⟩
  · exact .inl h2
  · exact .inr ⟨g, cap, cur, e, hlo, (hb g (by rw [e]; rfl)).trans hh, r⟩
theorem Wt.new {w w' : World} {lo b : Nat} {n : Int} {l : List UInt8} (h : Wt w lo b n l) (hb : Below w.heap.size w w') : Wt w' lo b n l := by
  obtain ⟨h0, p, v, hp, hc, ho⟩ := h
  exact ⟨h0, p, v, hp, (hb.block b (lt_of_heap hc)).trans hc, own_keep ho fun g hg => hb.block g (World.ownsRow.lt ho g hg).2⟩
theorem Wt.alloc {w : World} {lo b : Nat} {n : Int} {l : List UInt8} (h : Wt w lo b n l) (o : Obj) : Wt (w.alloc o) lo b n l := h.new ((Below.refl _ w).alloc (Nat.le_refl _) o)
theorem own_ne {w : World} {lo : Nat} {v : Value} {n : Nat} {xs : List Value} {k : Nat} {cs : Array Value} {T : TypeId} (h : w.ownsRow lo 5 1 v n xs) (hc : w.heap[k]? = some (.cells cs T (0, 0))) (hT : T ≠ 5) : v.ownBlock ≠ some k := Lib.ownBlock_ne h hc hT
/-- What a call on the writer leaves. -/
def Wrote (lo b : Nat) (n : Int) (l : List UInt8) (w : World) (e : Ending) (w' : World) : Prop := e = .returned (.tuple #[]) ∧ Wt w' lo b n l ∧ Stp lo b w w'
abbrev pb (b : Nat) : Value := .pointer (some ⟨b, 0, none⟩)
/-- How long a text may be. -/
abbrev room : Nat := 140737488355328
theorem set_at {w : World} {b i : Nat} {cs : Array Value} {T : TypeId} (h : w.heap[b]? = some (.cells cs T (0, 0))) (u : Value) : (w.setCell ⟨b, i, none⟩ u).heap[b]? = some (.cells (cs.set! i u) T (0, 0)) := by
  simp [World.setCell, Array.getElem?_modify, h]
theorem set_ne (w : World) (b i k : Nat) (u : Value) (h : k ≠ b) : (w.setCell ⟨b, i, none⟩ u).heap[k]? = w.heap[k]? := Below.heap_setCell _ _ _ _ h
theorem Stp.set {lo b : Nat} (w : World) (i : Nat) (u : Value) (h : lo ≤ b) : Stp lo b w (w.setCell ⟨b, i, none⟩ u) :=
  ⟨(Below.refl _ w).setCell (p := ⟨b, i, none⟩) h u, fun k _ _ _ hk hc => (set_ne w b i k u hk).trans hc⟩
theorem info8 : (Tryz.prog.info? 5).map (fun i => (i.zero, i.size, i.bytes)) = some (some (.int .u8 0), 1, 1) := by kernel_rfl
theorem info8_of : ∃ i, Tryz.prog.info? 5 = some i ∧ i.zero = some (.int .u8 0) ∧ i.size = 1 ∧ i.bytes = 1 := by
  have h := info8
  cases hi : Tryz.prog.info? 5 with
  | none => rw [hi] at h; simp at h
  | some i => rw [hi] at h; simp at h; exact ⟨i, rfl, h.1, h.2.1, h.2.2⟩
theorem infoB : (Tryz.prog.info? 64).map (fun i => i.size) = some 2 := by kernel_rfl
theorem infoB_of : ∃ i, Tryz.prog.info? 64 = some i ∧ i.size = 2 := by
  have h := infoB
  cases hi : Tryz.prog.info? 64 with
  | none => rw [hi] at h; simp at h
  | some i => rw [hi] at h; simp at h; exact ⟨i, rfl, h⟩
theorem lies_b : liesAt Tryz.prog Tryz.prog.depth 66 (3 / Tryz.prog.cellsOf 66) 0 64 1 = true := by kernel_rfl
theorem und_p : Tryz.prog.underlying 61 = some (.pointer 64) := by kernel_rfl
theorem und_u : Tryz.prog.underlying 162 = some .unsafePointer := by kernel_rfl
theorem und_s : Tryz.prog.underlying 9 = some .string := by kernel_rfl
theorem und_l : Tryz.prog.underlying 62 = some (.slice 5) := by kernel_rfl
set_option maxHeartbeats 2000000 in
theorem check_used (b : Nat) (w : World) (h0 : w.cell? ⟨b, 0, none⟩ = some (pb b)) : Calls Tryz.prog 122 #[pb b] w (fun e w' => e = .returned (.tuple #[]) ∧ w' = w) := by
  obtain ⟨j, hj, _⟩ := infoB_of
  have HK := Lib.hid (Lib.run_neq_ptr_same (P := Tryz.prog) w ⟨b, 0, none⟩ und_p hj)
  go_enter Tryz.func122, Tryz.ntmps122
  go_wp2
  rw [HK.out]
  go_wp2
  go_end0
  exact ⟨rfl, rfl⟩
set_option maxHeartbeats 2000000 in
theorem check_fresh (b : Nat) (w : World) (h0 : w.cell? ⟨b, 0, none⟩ = some (.pointer none)) (hsh : w.shape? b = some (66, 3)) (hfz : w.frozen? ⟨b, 0, none⟩ = false) :
    Calls Tryz.prog 122 #[pb b] w (fun e w' => e = .returned (.tuple #[]) ∧ w' = w.setCell ⟨b, 0, none⟩ (pb b)) := by
  obtain ⟨j, hj, hjs⟩ := infoB_of
  have HSH := Lib.hid hsh
  clear hsh
  go_enter Tryz.func122, Tryz.ntmps122
  go_wp2
  rw [Lib.run_to_unsafe w ⟨b, 0, none⟩ und_p und_u hj (by rw [hjs]; decide) HSH.out (show 0 < 3 by decide)]
  simp only [Result.andThen]
  rw [Oper.upon_value]
  go_wp2
  rw [run_callFunc_extern Tryz.func131 (by kernel_rfl) (by kernel_rfl) (by kernel_rfl) (e := Extern.AbiNoEscape.same) (by kernel_rfl)]
  rw [Lib.run_noEscape]
  simp only [Result.andThen]
  rw [Oper.upon_value]
  go_wp2
  rw [Lib.run_from_unsafe w ⟨b, 0, none⟩ und_u und_p hj HSH.out lies_b]
  simp only [Result.andThen]
  rw [Oper.upon_value]
  go_wp2
  go_end0
  exact ⟨rfl, rfl⟩
/-- copyCheck: behind it the writer is used. -/
def Used (lo b : Nat) (n : Int) (l : List UInt8) (w : World) (e : Ending) (w' : World) : Prop :=
  e = .returned (.tuple #[]) ∧ Stp lo b w w' ∧ lo ≤ b ∧ ∃ v, w'.heap[b]? = some (.cells #[pb b, v, .int .i64 n] 66 (0, 0)) ∧ w'.ownsRow lo 5 1 v l.length (Lib.byteCells l)
theorem check_any {lo b : Nat} {n : Int} {l : List UInt8} {w : World} (h : Wt w lo b n l) : Calls Tryz.prog 122 #[pb b] w (Used lo b n l w) := by
  obtain ⟨h0, p, v, hp, hc, ho⟩ := h
  have hne : v.ownBlock ≠ some b := own_ne ho hc (by decide)
  rcases hp with rfl | rfl
  · refine (check_fresh b w (cell_at hc 0) (by simp [World.shape?, hc]) (by simp [World.frozen?, hc])).mono ?_
    rintro e w' ⟨rfl, rfl⟩
    refine ⟨rfl, Stp.set w 0 _ h0, h0, v, (set_at hc _).trans (by rfl), own_keep ho fun g hg => set_ne _ _ _ _ _ (fun e => hne (by rw [hg, e]))⟩
  · refine (check_used b w (cell_at hc 0)).mono ?_
    rintro e w' ⟨rfl, rfl⟩
    exact ⟨rfl, Stp.refl _ _ _, h0, v, hc, ho⟩
theorem cells_str (s : ByteArray) : Lib.strCells s = Lib.byteCells s.data.toList := by rfl
set_option maxHeartbeats 2000000 in
/-- WriteString through the writer. -/
theorem write_any {lo b : Nat} {n : Int} {l : List UInt8} {w : World} (h : Wt w lo b n l) (s : ByteArray) (hs : l.length + s.size ≤ room) :
    Calls Tryz.prog 88 #[pb b, .string s] w (fun e w' => e = .returned (.tuple #[.int .i64 s.size, .nilIface]) ∧ Wt w' lo b n (l ++ s.data.toList) ∧ Stp lo b w w') := by
  obtain ⟨i0, hi, hz0, hz1, hz2⟩ := info8_of
  have HLO := Lib.hid h.lo
  have HC := Lib.hid (check_any h)
  have HS := Lib.hid hs
  clear h hs
  go_enter Tryz.func88, Tryz.ntmps88
  go_wp2_with fail
  refine HC.out.mono ?_
  rintro e w1 ⟨rfl, hst, h0, v, hc, ho⟩
  have c1 : w1.cell? ⟨b, 1, none⟩ = some v := cell_at hc 1
  have HST := Lib.hid hst
  have HB := Lib.hid hc
  have HO := Lib.hid ho
  clear hst hc ho
  go_wp2_with (at_builtin; refine Lib.wpList_append_own_string _ rfl _ _ 62 9 rfl lo 5 i0 und_l und_s hi hz0 hz1 hz2 _ _ _ rfl HO.out s rfl ?c3 ?c4 ?c5 ?_)
  case c3 => have := HS.out; unfold maxLen; unfold room at *; omega
  case c4 => exact HS.out
  case c5 => exact Nat.le_trans HLO.out HST.out.size
  intro v' w2 hown' hgrow _
  have hne : v.ownBlock ≠ some b := own_ne HO.out HB.out (by decide)
  have hb2 : w2.heap[b]? = some (.cells #[pb b, v, .int .i64 n] 66 (0, 0)) := (hgrow.block b (lt_of_heap HB.out) (fun e => hne e.symm)).trans HB.out
  have d1 : w2.cell? ⟨b, 1, none⟩ = some v := cell_at hb2 1
  have f1 : w2.frozen? ⟨b, 1, none⟩ = false := by simp [World.frozen?, hb2]
  have hne2 : v'.ownBlock ≠ some b := own_ne hown' hb2 (by decide)
  have HB2 := Lib.hid hb2
  have HW := Lib.hid hown'
  have HN2 := Lib.hid hne2
  have HK : Hid (Stp lo b w w2) := Lib.hid (HST.out.trans ⟨(Below.refl lo w1).grown hgrow (Nat.le_trans HLO.out HST.out.size) (fun k hk => (World.ownsRow.lt HO.out k hk).1), fun k _ _ hT _ hk => (hgrow.block k (lt_of_heap hk) (fun e => own_ne HO.out hk hT e.symm)).trans hk⟩)
  obtain ⟨ao, n', cap, rfl⟩ : ∃ ao n' cap, v' = .slice ao n' cap := by
    rcases hown'.2 with ⟨hv, _⟩ | ⟨g, cap, cur, hv, _⟩
    · exact ⟨_, _, _, hv⟩
    · exact ⟨_, _, _, hv⟩
  clear hb2 hown' hne2 hgrow hne c1
  go_wp2
  go_ret2
  refine ⟨rfl, ⟨h0, pb b, _, .inr rfl, (set_at HB2.out _).trans (by rfl), ?_⟩, HK.out.trans (Stp.set _ 1 _ h0)⟩
  have := HW.out
  rw [cells_str] at this
  rw [show Lib.byteCells (l ++ s.data.toList) = Lib.byteCells l ++ Lib.byteCells s.data.toList by simp [Lib.byteCells], List.length_append, show s.data.toList.length = s.size by simp]
  exact own_keep this fun g hg => set_ne _ _ _ _ _ (fun e => HN2.out (by rw [hg, e]))
end Go.Proofs.YtmihlmlojmdhjaaGreatDoor.Wr
/- A region that draws its order: a store once nothing else may come up; a last operation that yields. No condition. -/
namespace Go.Proofs.YtmihlmlojmdhjaaGreatDoor.Lex
set_option maxRecDepth 100000
section
variable {P : Program} {ops : Array Oper} {Q : Exit → Act → World → Prop} {md : Region.Mode} {S : World → Prop} {n fuel : Nat} {a : Act} {w w' : World} {oi : Oper} {listed : Array Bool}
theorem at_call (i d : Nat) {f : Nat} {args : Array Value} (hi : ops[i]? = some oi) (hd : oi.dst = some d) (hr : Region.ready md ops listed = [i]) (hin : i < n) (hw : Region.wanted oi (yielded ops a.tmps) = true)
    (hrun : (execOp a.eval oi).run P w = .ok (.enter f args) w) (hc : Calls P f args w fun e w' => ∃ v, e = .returned v ∧ S w' ∧ AtS P md ops Q S n fuel (listed.setIfInBounds i true) (a.put (some d) v) w') :
    AtS P md ops Q S n (fuel + 1) listed a w := AtS.call hi hr hin hw hrun (by rw [hd]; exact hc)
theorem AtS.lastv (i d : Nat) (v : Value) (w' : World) (hi : ops[i]? = some oi) (hd : oi.dst = some d) (hr : Region.ready md ops listed = [i]) (hr2 : Region.ready md ops (listed.setIfInBounds i true) = []) (hni : n ≤ i) (hw : Region.wanted oi (yielded ops a.tmps) = true)
    (hrun : (execOp a.eval oi).run P w = .ok (.value v) w') (h : Q .normal (a.put (some d) v) w') : AtS P md ops Q S n (fuel + 1) listed a w := fun _ _ _ => by
  refine ⟨fun h0 => (by rw [h0] at hr; cases hr), fun j hj => ?_⟩
  rw [hr] at hj
  obtain rfl : j = i := by simpa using hj
  unfold wpOp
  simp only [hi, hw, if_true]
  refine .inl ?_
  unfold Oper.wp
  rw [hrun]
  simp only [Oper.upon, hd]
  refine ⟨fun h => by omega, ?_⟩
  cases fuel with
  | zero => exact ⟨hr2, h⟩
  | succ fuel => exact ⟨fun _ => h, by rw [hr2]; simp⟩
end
end Go.Proofs.YtmihlmlojmdhjaaGreatDoor.Lex
/- lay, tabs, String on the writer. Conditions: sizes. -/
namespace Go.Proofs.YtmihlmlojmdhjaaGreatDoor.Wr
open Go.RowKit Tre
set_option maxRecDepth 100000
def catS (ss : List ByteArray) : List UInt8 := ss.flatMap fun s => s.data.toList
theorem catS_take {ss : List ByteArray} {k : Nat} {s : ByteArray} (h : ss[k]? = some s) : catS (ss.take (k + 1)) = catS (ss.take k) ++ s.data.toList := by
  rw [List.take_add_one, h]
  simp [catS]
theorem catS_len {ss : List ByteArray} {k : Nat} {s : ByteArray} (h : ss[k]? = some s) : (catS (ss.take k)).length + s.size ≤ (catS ss).length := by
  have e : catS ss = catS (ss.take (k + 1)) ++ catS (ss.drop (k + 1)) := by unfold catS; rw [← List.flatMap_append, List.take_append_drop]
  rw [e, catS_take h]
  simp only [List.length_append, Array.length_toList, show s.data.size = s.size from rfl]
  omega
set_option maxHeartbeats 4000000 in
/-- lay: all of them, one behind the other. -/
theorem lay_any {lo b : Nat} {n : Int} {l : List UInt8} {w : World} (h : Wt w lo b n l) (ss : List ByteArray) (r c : Nat) (hr : w.heap[r]? = some (.cells (ss.map Value.string).toArray 9 (0, 0))) (hne : r ≠ b) (hl : ss.length ≤ most) (hs : l.length + (catS ss).length ≤ room) :
    Calls Tryz.prog 44 #[pb b, .slice (some ⟨r, 0, none⟩) ss.length c] w (Wrote lo b n (l ++ catS ss) w) := by
  unfold most at hl
  have HR := Lib.hid hr
  have HNE := Lib.hid hne
  have HW := Lib.hid h
  have HS := Lib.hid hs
  obtain ⟨m, hm⟩ : ∃ m, ss.length = m := ⟨_, rfl⟩
  rw [hm] at hl ⊢
  have HM := Lib.hid hm
  clear h hr hne hs hm
  go_enter Tryz.func44, Tryz.ntmps44
  go_wp2
  go_loopw [8] (fun i wr => ∃ k : Nat, k ≤ m ∧ i = .int .i64 k ∧ Hid (Wt wr lo b n (l ++ catS (ss.take k))) ∧ Hid (Stp lo b w wr)) (fun i _ => m - (intOf i).toNat)
  case atStart => exact ⟨0, Nat.zero_le _, rfl, Lib.hid (by simpa [catS] using HW.out), Lib.hid (Stp.refl _ _ _)⟩
  case round =>
    obtain ⟨k, hk, rfl, H1, H2⟩ := hrel
    by_cases hlt : k < m
    · obtain ⟨s, hx⟩ : ∃ s, ss[k]? = some s := ⟨_, List.getElem?_eq_getElem (by rw [HM.out]; exact hlt)⟩
      have p0 : wr.cell? ⟨r, k, none⟩ = some (.string s) := by
        have := cell_at (H2.out.keep r _ _ (by decide) HNE.out HR.out) k
        rw [this]
        simp [hx]
      have CW := Lib.hid (write_any H1.out s (by have := catS_len hx; have := HS.out; rw [List.length_append]; omega))
      have HX := Lib.hid hx
      clear hx
      go_wp2_with fail
      refine CW.out.mono ?_
      rintro e w1 ⟨rfl, h1, h2⟩
      have G1 := Lib.hid h1
      have G2 := Lib.hid (H2.out.trans h2)
      clear h1 h2
      go_wp2_with fail
      go_roundw
      case rel =>
        refine ⟨k + 1, by omega, rfl, Lib.hid ?_, G2⟩
        have := G1.out
        rwa [List.append_assoc, ← catS_take HX.out] at this
      case measure => simp [intOf]; omega
    · obtain rfl : k = m := by omega
      go_wp2_with fail
      go_end0
      have := H1.out
      rw [List.take_of_length_le (Nat.le_of_eq HM.out)] at this
      exact ⟨rfl, this, H2.out⟩
theorem Wrote.of {lo b : Nat} {n : Int} {l : List UInt8} {w w1 : World} (h : Stp lo b w w1) {e : Ending} {w' : World} (k : Wrote lo b n l w1 e w') : Wrote lo b n l w e w' := ⟨k.1, k.2.1, h.trans k.2.2⟩
theorem new_row (w : World) (ss : List ByteArray) : (w.alloc (.cells (ss.map Value.string).toArray 9)).heap[w.heap.size]? = some (.cells (ss.map Value.string).toArray 9 (0, 0)) := World.alloc_heap_new w _
theorem lay_row {lo b : Nat} {n : Int} {l : List UInt8} {w : World} (h : Wt w lo b n l) (ss : List ByteArray) (c : Nat) (hl : ss.length ≤ most) (hs : l.length + (catS ss).length ≤ room) :
    Calls Tryz.prog 44 #[pb b, .slice (some ⟨w.heap.size, 0, none⟩) ss.length c] (w.alloc (.cells (ss.map Value.string).toArray 9)) (Wrote lo b n (l ++ catS ss) w) :=
  (lay_any (h.alloc _) ss w.heap.size c (new_row w ss) (by have := h.lt; omega) hl hs).mono fun _ _ k => k.of (Stp.alloc w _ h.lo)
/-- lay of one, two, three strings. -/
theorem lay1 {lo b : Nat} {n : Int} {l : List UInt8} {w : World} (h : Wt w lo b n l) (s : ByteArray) (hs : l.length + s.size ≤ room) :
    Calls Tryz.prog 44 #[pb b, .slice (some ⟨w.heap.size, 0, none⟩) 1 1] (w.alloc (.cells #[.string s] 9)) (Wrote lo b n (l ++ s.data.toList) w) := by
  have := lay_row h [s] 1 (by simp [most]) (by simpa [catS] using hs)
  simpa [catS] using this
theorem lay2 {lo b : Nat} {n : Int} {l : List UInt8} {w : World} (h : Wt w lo b n l) (s t : ByteArray) (hs : l.length + (s.size + t.size) ≤ room) :
    Calls Tryz.prog 44 #[pb b, .slice (some ⟨w.heap.size, 0, none⟩) 2 2] (w.alloc (.cells #[.string s, .string t] 9)) (Wrote lo b n (l ++ (s.data.toList ++ t.data.toList)) w) := by
  have := lay_row h [s, t] 2 (by simp [most]) (by simpa [catS] using hs)
  simpa [catS] using this
theorem lay3 {lo b : Nat} {n : Int} {l : List UInt8} {w : World} (h : Wt w lo b n l) (s t u : ByteArray) (hs : l.length + (s.size + (t.size + u.size)) ≤ room) :
    Calls Tryz.prog 44 #[pb b, .slice (some ⟨w.heap.size, 0, none⟩) 3 3] (w.alloc (.cells #[.string s, .string t, .string u] 9)) (Wrote lo b n (l ++ (s.data.toList ++ (t.data.toList ++ u.data.toList))) w) := by
  have := lay_row h [s, t, u] 3 (by simp [most]) (by simpa [catS] using hs)
  simpa [catS] using this
end Go.Proofs.YtmihlmlojmdhjaaGreatDoor.Wr
/- tabs: as many tabs as blocks are open; String: what was written. Conditions: sizes; that something was written. -/
namespace Go.Proofs.YtmihlmlojmdhjaaGreatDoor.Wr
open Go.RowKit Tre
open Lex (AtS at_take at_call)
set_option maxRecDepth 100000
section
variable {P : Program} {ops : Array Oper} {Q : Exit → Act → World → Prop} {md : Region.Mode} {S : World → Prop} {n fuel : Nat} {a : Act} {w : World} {oi : Oper} {listed : Array Bool}
/-- A call behind all else. -/
theorem at_lastc (i d : Nat) {f : Nat} {args : Array Value} (hi : ops[i]? = some oi) (hd : oi.dst = some d) (hr : Region.ready md ops listed = [i]) (hr2 : Region.ready md ops (listed.setIfInBounds i true) = []) (hni : n ≤ i) (hw : Region.wanted oi (yielded ops a.tmps) = true)
    (hrun : (execOp a.eval oi).run P w = .ok (.enter f args) w) (hc : Calls P f args w fun e w' => ∃ v, e = .returned v ∧ Q .normal (a.put (some d) v) w') :
    AtS P md ops Q S n (fuel + 1) listed a w := fun _ _ _ => by
  refine ⟨fun h0 => (by rw [h0] at hr; cases hr), fun j hj => ?_⟩
  rw [hr] at hj
  obtain rfl : j = i := by simpa using hj
  unfold wpOp
  simp only [hi, hw, if_true]
  refine .inl ?_
  unfold Oper.wp
  rw [hrun]
  simp only [Oper.upon]
  refine Calls.mono hc ?_
  rintro e w' ⟨v, rfl, h⟩
  rw [hd]
  refine ⟨fun h => by omega, ?_⟩
  cases fuel with
  | zero => exact ⟨hr2, h⟩
  | succ fuel => exact ⟨fun _ => h, by rw [hr2]; simp⟩
end
theorem repeat_tab (c : Nat) : Lib.repeatL [9] c = List.replicate c 9 := by
  induction c with
  | zero => rfl
  | succ c ih => rw [List.replicate_succ, ← ih]; rfl
set_option maxHeartbeats 4000000 in
theorem tabs_any {lo b : Nat} {k : Nat} {l : List UInt8} {w : World} (h : Wt w lo b k l) (hs : l.length + k ≤ room) :
    Calls Tryz.prog 125 #[pb b] w (Wrote lo b k (l ++ List.replicate k 9) w) := by
  have HREP := Lib.hid (fun (u : World) => Tryz.strings_Repeat ⟨#[9]⟩ k u (by unfold room at hs; omega) (by rw [show (⟨#[9]⟩ : ByteArray).size = 1 from rfl, Nat.one_mul]; unfold room at hs; omega))
  have HS := Lib.hid hs
  have HLO := Lib.hid h.lo
  have hc : w.drew.cell? ⟨b, 2, none⟩ = some (.int .i64 k) := by
    obtain ⟨_, p, v, _, hb, _⟩ := h
    exact cell_at (w := w.drew) hb 2
  have H0 : Hid (Wt w.drew lo b k l) := Lib.hid h
  have HC := Lib.hid hc
  clear h hs hc
  go_enter Tryz.func125, Tryz.ntmps125
  refine AtS.start rfl 8 (fun W => W.cell? ⟨b, 2, none⟩ = some (.int .i64 k)) (by kernel_rfl) (by kernel_rfl) ?_
  have hX := HC.out
  generalize hX0 : w.drew = X at *
  have HX0 := Lib.hid hX0
  clear hX0
  refine at_take 0 2 (pb b) rfl rfl (by kernel_rfl) (by decide) (by decide) (fun _ _ _ h => h) (by kernel_rfl) hX (fun w' hw' => ?_) ?_
  · go_simp
  go_frame
  refine at_take 1 3 (pb b) rfl rfl (by kernel_rfl) (by decide) (by decide) (fun _ _ _ h => h) (by kernel_rfl) hX (fun w' hw' => ?_) ?_
  · go_simp
  go_frame
  refine at_take 2 4 (pb b) rfl rfl (by kernel_rfl) (by decide) (by decide) (fun _ _ _ h => h) (by kernel_rfl) hX (fun w' hw' => ?_) ?_
  · go_simp
  go_frame
  refine at_take 3 5 (pb b) rfl rfl (by kernel_rfl) (by decide) (by decide) (fun _ _ _ h => h) (by kernel_rfl) hX (fun w' hw' => ?_) ?_
  · go_simp
  go_frame
  refine at_take 4 6 (pb b) rfl rfl (by kernel_rfl) (by decide) (by decide) (fun _ _ _ h => h) (by kernel_rfl) hX (fun w' hw' => ?_) ?_
  · go_simp
  go_frame
  refine at_take 5 7 (.pointer (some ⟨b, 2, none⟩)) rfl rfl (by kernel_rfl) (by decide) (by decide) (fun _ _ _ h => h) (by kernel_rfl) hX (fun w' hw' => ?_) ?_
  · go_simp
  go_frame
  refine at_take 6 8 (.int .i64 k) rfl rfl (by kernel_rfl) (by decide) (by decide) (fun _ _ _ h => h) (by kernel_rfl) hX (fun w' hw' => ?_) ?_
  · go_simp
  go_frame
  refine at_call 7 9 rfl rfl (by kernel_rfl) (by decide) (by kernel_rfl) (f := 133) (args := #[.string ⟨#[9]⟩, .int .i64 k]) ?_ ?_
  · go_simp
  refine (HREP.out X).mono ?_
  rintro e w1 ⟨rfl, hb⟩
  have H1 := H0.out.new hb
  refine ⟨_, rfl, ?_, ?_⟩
  · obtain ⟨_, p, v, _, hb, _⟩ := H1
    exact cell_at hb 2
  go_frame
  have HW := Lib.hid (write_any H1 ⟨(Lib.repeatL [9] k).toArray⟩ (by
    rw [repeat_tab]
    have := HS.out
    simpa [ByteArray.size] using this))
  refine at_lastc 8 10 rfl rfl (by kernel_rfl) (by kernel_rfl) (by decide) (by kernel_rfl) (f := 88) (args := #[pb b, .string ⟨(Lib.repeatL [9] k).toArray⟩]) ?_ ?_
  · go_simp
  refine HW.out.mono ?_
  rintro e w2 ⟨rfl, h1, h2⟩
  refine ⟨_, rfl, ?_⟩
  rw [repeat_tab] at h1
  have e1 := HX0.out
  subst e1
  have HF : Hid (Wrote lo b k (l ++ List.replicate k 9) w (.returned (.tuple #[])) w2) := Lib.hid ⟨rfl, by simpa using h1, (Stp.new (Below.refl _ w).drew HLO.out).trans ((Stp.new hb HLO.out).trans h2)⟩
  clear h1 h2 hb H1
  go_wp2
  go_end0
  exact HF.out
set_option maxHeartbeats 4000000 in
/-- String: the bytes. -/
theorem string_any {lo b : Nat} {n : Int} {l : List UInt8} {w : World} (h : Wt w lo b n l) (h0 : l ≠ []) :
    Calls Tryz.prog 23 #[pb b] w (fun e w' => e = .returned (.string ⟨l.toArray⟩) ∧ Below lo w w') := by
  obtain ⟨hB, p, v, _, hbk, hown⟩ := h
  have hl0 : l.length ≠ 0 := by simpa using h0
  obtain ⟨g, cap, cur, rfl, hbg, hg, hnc, hcm, hcs, htake⟩ : ∃ g cap cur, v = .slice (some ⟨g, 0, none⟩) l.length cap ∧ lo ≤ g ∧ w.heap[g]? = some (.cells cur 5 (0, 0)) ∧ l.length ≤ cap ∧ cap ≤ maxLen ∧ cur.size = cap * 1 ∧ cur.toList.take (l.length * 1) = Lib.byteCells l := by
    rcases hown.2 with ⟨_, hz⟩ | ⟨g, cap, cur, hv, r⟩
    · exact absurd hz hl0
    · exact ⟨g, cap, cur, hv, r⟩
  have c1 : w.drew.cell? ⟨b, 1, none⟩ = some (.slice (some ⟨g, 0, none⟩) l.length cap) := cell_at (w := w.drew) hbk 1
  have hSD : (Builtin.unsafeSliceData_ #[62] 98 #[.slice (some ⟨g, 0, none⟩) l.length cap]).run Tryz.prog w.drew = .ok (.pointer (some ⟨g, 0, none⟩)) w.drew :=
    Lib.run_unsafeSliceData_row _ _ _ _ _ _ (by omega)
  have hUS : (Builtin.unsafeString_ #[98, 3] 9 #[.pointer (some ⟨g, 0, none⟩), .int .i64 l.length]).run Tryz.prog w.drew = .ok (.string ⟨l.toArray⟩) (w.drew.freeze ⟨g, 0, none⟩ l.length) := by
    refine Lib.run_unsafeString_row w.drew 98 3 9 5 (by kernel_rfl) (by kernel_rfl) g cur.size (by have hg' : w.drew.heap[g]? = some (.cells cur 5 (0, 0)) := hg; simp [World.shape?, hg']) l h0 (by omega) (by unfold maxLen at hcm; omega) ?_
    intro j x hx
    exact hown.cells (g := g) rfl j (.int .u8 x.toNat) (by simp [Lib.byteCells, hx])
  clear hown hbk htake hcs hnc hcm hg
  go_enter Tryz.func23, Tryz.ntmps23
  go_wp2
  go_region
  all_goals (go_wp2; go_ret; exact ⟨rfl, Lib.below_freeze (Below.drew (Below.refl lo w)) (p := ⟨g, 0, none⟩) hbg _⟩)
end Go.Proofs.YtmihlmlojmdhjaaGreatDoor.Wr
