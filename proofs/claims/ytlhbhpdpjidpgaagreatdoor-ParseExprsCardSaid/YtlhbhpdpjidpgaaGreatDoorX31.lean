/-
  A text, whole: what the program's parser tells of it, file or expression. Conditions: the tables lie as the program's text lays them.
-/
import Derived.Test.YtlhbhpdpjidpgaaGreatDoorX04
import Derived.Test.YtlhbhpdpjidpgaaGreatDoorX30
import Derived.Test.YtlhbhpdpjidpgaaGreatDoorCards
import Derived.Test.YtlhbhpdpjidpgaaGreatDoorTie
import Derived.Deep.Strs
import Derived.LaidMore
import Derived.MakeChecks
import Derived.Stop.LaidErr
import Derived.WalkKit
import Derived.ProofKit
import Derived.OpenShut
import Derived.Deep.DeepHandedRow
import Derived.Lib.LaidTab
namespace Go.Proofs.YtlhbhpdpjidpgaaGreatDoor.Prg
open Go.RowKit Tre Prs
open Lex (Wd wdC wdV bs str Turn)
set_option maxRecDepth 100000
set_option linter.unusedSimpArgs false
variable {lo : Nat}
/-- To the end of the words. -/
def AgW {α : Type} (p : α × PS) (t : α) (r : PS) : Prop := ((p.2.bad = true ∨ p.2.l ≠ []) ∧ (r.bad = true ∨ r.l ≠ [])) ∨ (p.2.bad = false ∧ p.2.l = [] ∧ t = p.1 ∧ r = p.2)
theorem AgE.w {α : Type} {p : α × PS} {t : α} {r : PS} (h : AgE p t r) : AgW p t r := h.elim (fun h => .inl ⟨h.1, .inl h.2⟩) .inr
theorem Ag.w {α : Type} {p : α × PS} {t : α} {r : PS} (h : Ag p t r) : AgW p t r := by
  rcases h with ⟨h1, h2⟩ | ⟨h1, h2, h3⟩
  · exact .inl ⟨.inl h1, .inl h2⟩
  · by_cases hl : p.2.l = []
    · exact .inr ⟨h1, hl, h2, h3⟩
    · exact .inl ⟨.inr hl, .inr (by rw [h3]; exact hl)⟩
theorem endE_bad {r : PS} (h : r.bad = true ∨ r.l ≠ []) : endE r = 7 := by
  unfold endE
  rw [if_pos]
  rcases h with h | h
  · simp [h]
  · have := List.length_pos_iff.2 h
    simp [this]
theorem endE_ok {r : PS} (h : r.bad = false) (hl : r.l = []) : endE r = if r.big then 11 else 0 := by
  unfold endE
  rw [h, hl]
  rfl
/-- What the program's parser tells of a text that is one expression. -/
def exprP (r : PS) : Tx × PS := ((tell (.row 0) r).1, mustW (tell (.row 0) r).2 [59])
def exprTP (t : List UInt8) : Tx × Int :=
  if (Lex.words t).2 ≠ 0 then (nilT, (Lex.words t).2)
  else if 24 < nestD (Lex.words t).1 then (nilT, 11)
  else if endE (exprP ⟨(Lex.words t).1, false, false⟩).2 ≠ 0 then (nilT, endE (exprP ⟨(Lex.words t).1, false, false⟩).2)
  else ((exprP ⟨(Lex.words t).1, false, false⟩).1, 0)
/-- The tables. -/
structure Tabs (w : World) : Prop where
  lex : Lex.Signs w
  par : Sigs w
theorem Tabs.below {w w' : World} (h : Tabs w) (hb : Below w.heap.size w w') : Tabs w' := ⟨h.lex.below h.lex.pos hb, h.par.below h.par.pos hb⟩
def nilFl : Fl := ⟨⟨#[]⟩, none, 0, [], none, 0, []⟩
theorem nilFl_in (w : World) : FlIn w nilFl := ⟨Row.nil _ _ _ _, Row.nil _ _ _ _, (fun g hg => by simp [nilFl] at hg), by simp [nilFl, most], by simp [nilFl, most], nil_max, (fun s hs => by simp [nilFl] at hs)⟩
theorem nilFl_new (n : Nat) : NewFl n nilFl := ⟨(fun ad e => by cases e), (fun ad e => by cases e), (fun g hg => by simp [nilFl] at hg)⟩
theorem nilFl_core : coreL nilFl = zeroL := rfl
def TellF (t : List UInt8) (w : World) (e : Ending) (w' : World) : Prop := ∃ f : Fl, e = .returned (.tuple #[flV f, .int .i64 (fileT t).2]) ∧ coreL f = (fileT t).1 ∧ FlIn w' f ∧ NewFl w.heap.size f ∧ Below w.heap.size w w'
def TellX (t : List UInt8) (w : World) (e : Ending) (w' : World) : Prop := ∃ x : Ex, e = .returned (.tuple #[exV x, .int .i64 (exprTP t).2]) ∧ core x = (exprTP t).1 ∧ ExIn w' x ∧ New w.heap.size x ∧ Below w.heap.size w w'
theorem nilX_core : core nilX = nilT := by rw [core_eq]; rfl
def EvGX (lo : Nat) (w : World) (g : Nat) (q : Tx × PS) (e : Ending) (w' : World) : Prop := ∃ (x : Ex) (r' : PS), e = .returned (exV x) ∧ AgW q (core x) r' ∧ ExIn w' x ∧ New w.heap.size x ∧ RdG lo w' g r' ∧ Turn [g] w w'
def EvGW (lo : Nat) (w : World) (g : Nat) (q : Tl × PS) (e : Ending) (w' : World) : Prop := ∃ (f : Fl) (r' : PS), e = .returned (flV f) ∧ AgW q (coreL f) r' ∧ FlIn w' f ∧ NewFl w.heap.size f ∧ RdG lo w' g r' ∧ Turn [g] w w'
/-- The reader of a text's words. -/
theorem new_reader {w : World} {v : Value} {l : List Wd} {n : Nat} (hv : Lex.OwnW w n v l) (hg : ∀ x ∈ l, Lex.Good x) (hl : l.length ≤ 2048) (hT : Tabs w) (hn : 0 < n) (hnw : n ≤ w.heap.size) :
    InG (w.heap.size + 1) (w.alloc (.cells #[v, .bool false, .bool false] 88)) w.heap.size ⟨l, false, false⟩ := by
  have hb := ball_new w #[v, .bool false, .bool false] 88
  obtain ⟨A, c, rfl, hc, hA⟩ := OwnW.cap hv
  have hrow : Row 3 wdC w A l := OwnW.row hv
  refine ⟨⟨⟨A, c, new_at w _ _, hc, hrow.below hb, fun b o e => ?_⟩, by show l.length ≤ 100000; omega, Nat.lt_succ_self _, by simp, fun x hx => ⟨good_len (hg x hx), good_ks (hg x hx)⟩, fun h => by cases h⟩, (hT.below hb).par, by omega, by omega⟩
  subst e
  have := (hv.lt b rfl).2
  omega
theorem NewFl.mono {n m : Nat} {f : Fl} (h : NewFl n f) (hm : m ≤ n) : NewFl m f := ⟨fun ad e => Nat.le_trans hm (h.1 ad e), fun ad e => Nat.le_trans hm (h.2.1 ad e), fun g hg => (h.2.2 g hg).mono hm⟩
theorem fileT_err {t : List UInt8} (h : (Lex.words t).2 ≠ 0) : fileT t = (zeroL, (Lex.words t).2) := by unfold fileT; rw [if_pos h]
theorem fileT_deep {t : List UInt8} (h : (Lex.words t).2 = 0) (h2 : 24 < nestD (Lex.words t).1) : fileT t = (zeroL, 11) := by unfold fileT; rw [if_neg (by simp [h]), if_pos h2]
theorem fileT_end {t : List UInt8} {n : Int} (h : (Lex.words t).2 = 0) (h2 : ¬ 24 < nestD (Lex.words t).1) (h3 : endE (fileD ⟨(Lex.words t).1, false, false⟩).2 = n) (hn : n ≠ 0) : fileT t = (zeroL, n) := by unfold fileT; rw [if_neg (by simp [h]), if_neg h2, h3, if_pos hn]
theorem fileT_ok {t : List UInt8} (h : (Lex.words t).2 = 0) (h2 : ¬ 24 < nestD (Lex.words t).1) (h3 : endE (fileD ⟨(Lex.words t).1, false, false⟩).2 = 0) : fileT t = ((fileD ⟨(Lex.words t).1, false, false⟩).1, 0) := by unfold fileT; rw [if_neg (by simp [h]), if_neg h2, h3, if_neg (by simp)]
set_option maxHeartbeats 16000000 in
theorem wholeFile_any (t : List UInt8) (w : World) (hT : Tabs w) (CR : ∀ (lo : Nat) (w' : World) (g : Nat) (r : PS), InG lo w' g r → Hid (Calls Tryz.prog 20 #[.pointer (some ⟨g, 0, none⟩)] w' (EvGW lo w' g (fileD r)))) :
    Calls Tryz.prog 19 #[.string (bs t), .func (.func 20) #[] #[]] w (TellF t w) := by
  have HB2 := Lib.hid (two_below w #[.string ⟨#[]⟩, .slice none 0 0, .slice none 0 0] #[.string ⟨#[]⟩, .slice none 0 0, .slice none 0 0] 26 26)
  have HN2 := Lib.hid (two_new_at w #[.string ⟨#[]⟩, .slice none 0 0, .slice none 0 0] #[.string ⟨#[]⟩, .slice none 0 0, .slice none 0 0] 26 26)
  have HTB := Lib.hid (hT.below HB2.out)
  have HG0 : Hid (0 < w.heap.size) := Lib.hid hT.par.pos
  have HSZ : Hid (((w.alloc (.cells #[.string ⟨#[]⟩, .slice none 0 0, .slice none 0 0] 26)).alloc (.cells #[.string ⟨#[]⟩, .slice none 0 0, .slice none 0 0] 26)).heap.size = w.heap.size + 2) := Lib.hid (by simp)
  have CW := Lib.hid (Lex.words_any t _ HTB.out.lex)
  have HCR := Lib.hid CR
  clear hT CR
  have HBS : Hid (bs t = bs t) := Lib.hid rfl
  generalize bs t = TX at *
  go_enter Tryz.func19, Tryz.ntmps19
  go_wp2_with fail
  refine CW.out.mono ?_
  rintro e w1 ⟨v, rfl, hv, hb1⟩
  have HV := Lib.hid hv
  have HT1 := Lib.hid (HTB.out.below hb1)
  have T1 : Hid (Turn [] w w1) := Lib.hid (((Turn.refl [] w).below HB2.out).below hb1)
  have HR1 : Hid (w1.heap[w.heap.size]? = some (.cells #[.string ⟨#[]⟩, .slice none 0 0, .slice none 0 0] 26 (0, 0))) := Lib.hid ((hb1.block _ (lt_of_heap HN2.out.1)).trans HN2.out.1)
  have HN1 : Hid (w1.heap[w.heap.size + 1]? = some (.cells #[.string ⟨#[]⟩, .slice none 0 0, .slice none 0 0] 26 (0, 0))) := Lib.hid ((hb1.block _ (lt_of_heap HN2.out.2)).trans HN2.out.2)
  have HZ1 : Hid (w.heap.size + 2 ≤ w1.heap.size) := Lib.hid (by have := hb1.size; rw [HSZ.out] at this; exact this)
  clear hv hb1 CW HTB HB2 HN2
  by_cases he : (Lex.words t).2 = 0
  · have HE := Lib.hid he
    have HW0 := Lib.hid (words_ok0 he)
    rw [he]
    clear he
    obtain ⟨A, c, rfl, hc, hA⟩ := OwnW.cap HV.out
    have hrow : Row 3 wdC w1 A (Lex.words t).1 := OwnW.row HV.out
    have CN := Lib.hid (nestg_any (Lex.words t).1 A c w1 hrow (by have := HW0.out.2.2; omega))
    have HNG : Hid (nestG (Lex.words t).1 = nestD (Lex.words t).1) := Lib.hid (nestG_good HW0.out.1)
    rw [HNG.out] at CN
    clear hrow hc hA HNG
    go_wp2_with fail
    refine CN.out.mono ?_
    rintro e w2 ⟨rfl, hb2⟩
    have HT2 := Lib.hid (HT1.out.below hb2)
    have T2 := Lib.hid (T1.out.below hb2)
    have HR2 := Lib.hid ((hb2.block _ (lt_of_heap HR1.out)).trans HR1.out)
    have HN2 := Lib.hid ((hb2.block _ (lt_of_heap HN1.out)).trans HN1.out)
    have HZ2 : Hid (w.heap.size + 2 ≤ w2.heap.size) := Lib.hid (by have := hb2.size; have := HZ1.out; omega)
    have HV2 := Lib.hid (Lex.OwnW.keep HV.out fun b hb => hb2.block b (HV.out.lt b hb).2)
    have HV3 : Hid (w.heap.size + 2 ≤ w2.heap.size) := HZ2
    clear hb2 CN HT1 T1 HR1 HN1
    by_cases hd : 24 < nestD (Lex.words t).1
    · have HEQ := Lib.hid (fileT_deep HE.out hd)
      have hq : (24 : Int) < (nestD (Lex.words t).1 : Nat) := by omega
      generalize nestD (Lex.words t).1 = d at hq ⊢
      clear hd
      obtain ⟨z0, z1, z2⟩ := three_at HN2.out
      obtain ⟨y0, y1, y2⟩ := three_at HR2.out
      have f0 := free_at HR2.out 0
      have f1 := free_at HR2.out 1
      have f2 := free_at HR2.out 2
      go_wp2_with fail
      have HT := Lib.hid (turn3 w2 w.heap.size (.string ⟨#[]⟩) (.slice none 0 0) (.slice none 0 0))
      refine bodyPost_ret (results_fl2 rfl _ _ w.heap.size _ _ _ (.int .i64 11) rfl rfl (set3 HR2.out)) rfl ?_
      exact ⟨nilFl, by rw [HEQ.out]; rfl, by rw [HEQ.out]; exact nilFl_core, nilFl_in _, nilFl_new _, (T2.out.then_ HT.out (fun k hk => by simp at hk; subst hk; exact .inr (Nat.le_refl _))).low (by simp) (Nat.le_refl _)⟩
    · have HD := Lib.hid hd
      have hq : ¬ (24 : Int) < (nestD (Lex.words t).1 : Nat) := by omega
      generalize nestD (Lex.words t).1 = d at hq ⊢
      clear hd
      have HIN := Lib.hid (new_reader HV2.out HW0.out.1 HW0.out.2.2 HT2.out (by have := HG0.out; rw [HSZ.out]; omega) (by rw [HSZ.out]; exact HZ2.out))
      have HB3 := Lib.hid (ball_new w2 #[.slice A (Lex.words t).1.length c, .bool false, .bool false] 88)
      have T3 := Lib.hid (T2.out.below HB3.out)
      have HR3 := Lib.hid ((HB3.out.block _ (lt_of_heap HR2.out)).trans HR2.out)
      have HN3 := Lib.hid ((HB3.out.block _ (lt_of_heap HN2.out)).trans HN2.out)
      have HZ3 : Hid ((w2.alloc (.cells #[.slice A (Lex.words t).1.length c, .bool false, .bool false] 88)).heap.size = w2.heap.size + 1) := Lib.hid (by simp)
      have hcf : ∀ w', (callFunc 20 #[.pointer (some ⟨w2.heap.size, 0, none⟩)]).run Tryz.prog w' = .ok (.enter 20 #[.pointer (some ⟨w2.heap.size, 0, none⟩)]) w' := fun w' => by kernel_rfl
      have CC := HCR.out _ _ _ _ HIN.out
      go_wp2_with fail
      clear hq HV HV2 HT2 HB3 T2 HR2 HN2 hcf
      refine CC.out.mono ?_
      rintro e w4 ⟨x, r', rfl, ha, hin, hnn, hr, ht⟩
      unfold flV
      have HGN : Hid (w.heap.size + 2 ≤ w2.heap.size) := HZ2
      have HA := Lib.hid ha
      have HI4 := Lib.hid hin
      have HNN := Lib.hid hnn
      have T4 := Lib.hid (T3.out.then_ ht (fun k hk => by simp at hk; subst hk; exact .inr (by have := HGN.out; omega)))
      have HR4 := Lib.hid ((ht.block _ (lt_of_heap HR3.out) (by have := HGN.out; simp; omega)).trans HR3.out)
      have HN4 := Lib.hid ((ht.block _ (lt_of_heap HN3.out) (by have := HGN.out; simp; omega)).trans HN3.out)
      have HR := Lib.hid hr
      have HB5 := Lib.hid (ball_new w4 #[.string x.s, .slice x.ia x.i.length x.ic, .slice x.fa x.f.length x.fc] 26)
      have HX5 := Lib.hid (new_at w4 #[.string x.s, .slice x.ia x.i.length x.ic, .slice x.fa x.f.length x.fc] 26)
      have T5 := Lib.hid (T4.out.below HB5.out)
      have HR5 := Lib.hid ((HB5.out.block _ (lt_of_heap HR4.out)).trans HR4.out)
      have HN5 := Lib.hid ((HB5.out.block _ (lt_of_heap HN4.out)).trans HN4.out)
      have HRD5 := Lib.hid (HR.out.below HB5.out)
      have HI5 := Lib.hid (Tre.FlIn.below hin HB5.out)
      clear ha hin hnn hr ht CC T3 T4 HR3 HN3 HR4 HN4 HR
      obtain ⟨a5, c5, hrd, -⟩ := HRD5.out.at_
      have g1 := cell_at hrd 1
      have g2 := cell_at hrd 2
      simp only [List.getElem?_toArray, List.getElem?_cons_succ, List.getElem?_cons_zero] at g1 g2
      clear hrd
      obtain ⟨W5, hW5⟩ : ∃ W5, w4.alloc (.cells #[.string x.s, .slice x.ia x.i.length x.ic, .slice x.fa x.f.length x.fc] 26) = W5 := ⟨_, rfl⟩
      rw [hW5] at HB5 HX5 T5 HR5 HN5 HRD5 HI5 g1 g2
      rcases HA.out with ⟨h1, h2⟩ | ⟨h1, hl, h3, h4⟩
      · have HEQ := Lib.hid (fileT_end HE.out HD.out (endE_bad h1) (by decide))
        clear h1
        rcases Bool.eq_false_or_eq_true r'.bad with hb | hb
        · rw [hb] at g1
          clear h2 hb
          obtain ⟨z0, z1, z2⟩ := three_at HN5.out
          obtain ⟨y0, y1, y2⟩ := three_at HR5.out
          have f0 := free_at HR5.out 0
          have f1 := free_at HR5.out 1
          have f2 := free_at HR5.out 2
          go_wp2_with fail
          have HT := Lib.hid (turn3 W5 w.heap.size (.string ⟨#[]⟩) (.slice none 0 0) (.slice none 0 0))
          refine bodyPost_ret (results_fl2 rfl _ _ w.heap.size _ _ _ (.int .i64 7) rfl rfl (set3 HR5.out)) rfl ?_
          exact ⟨nilFl, by rw [HEQ.out]; rfl, by rw [HEQ.out]; exact nilFl_core, nilFl_in _, nilFl_new _, (T5.out.then_ HT.out (fun k hk => by simp at hk; subst hk; exact .inr (Nat.le_refl _))).low (by simp) (Nat.le_refl _)⟩
        · have hl : 0 < r'.l.length := List.length_pos_iff.2 (h2.elim (fun h => by rw [hb] at h; cases h) id)
          have CE := Lib.hid (ended_no HRD5.out hl)
          rw [hb] at g1
          clear h2 hb hl
          obtain ⟨z0, z1, z2⟩ := three_at HN5.out
          obtain ⟨y0, y1, y2⟩ := three_at HR5.out
          have f0 := free_at HR5.out 0
          have f1 := free_at HR5.out 1
          have f2 := free_at HR5.out 2
          go_wp2_with fail
          refine CE.out.mono ?_
          rintro e w6 ⟨rfl, rfl⟩
          go_wp2_with fail
          have HT := Lib.hid (turn3 w6 w.heap.size (.string ⟨#[]⟩) (.slice none 0 0) (.slice none 0 0))
          refine bodyPost_ret (results_fl2 rfl _ _ w.heap.size _ _ _ (.int .i64 7) rfl rfl (set3 HR5.out)) rfl ?_
          exact ⟨nilFl, by rw [HEQ.out]; rfl, by rw [HEQ.out]; exact nilFl_core, nilFl_in _, nilFl_new _, (T5.out.then_ HT.out (fun k hk => by simp at hk; subst hk; exact .inr (Nat.le_refl _))).low (by simp) (Nat.le_refl _)⟩
      · have HEN := Lib.hid (endE_ok h1 hl)
        have CE := Lib.hid (ended_yes HRD5.out (by rw [h4]; exact hl))
        have HC := Lib.hid h3
        rw [h4] at g1 g2
        rw [h1] at g1
        clear h1 hl h3 h4
        rcases Bool.eq_false_or_eq_true (fileD ⟨(Lex.words t).1, false, false⟩).2.big with hbig | hbig
        · rw [hbig] at g2 HEN
          have HEQ := Lib.hid (fileT_end HE.out HD.out HEN.out (by simp))
          clear hbig
          obtain ⟨z0, z1, z2⟩ := three_at HN5.out
          obtain ⟨y0, y1, y2⟩ := three_at HR5.out
          have f0 := free_at HR5.out 0
          have f1 := free_at HR5.out 1
          have f2 := free_at HR5.out 2
          go_wp2_with fail
          refine CE.out.mono ?_
          rintro e w6 ⟨rfl, rfl⟩
          go_wp2_with fail
          have HT := Lib.hid (turn3 w6 w.heap.size (.string ⟨#[]⟩) (.slice none 0 0) (.slice none 0 0))
          refine bodyPost_ret (results_fl2 rfl _ _ w.heap.size _ _ _ (.int .i64 11) rfl rfl (set3 HR5.out)) rfl ?_
          exact ⟨nilFl, by rw [HEQ.out]; rfl, by rw [HEQ.out]; exact nilFl_core, nilFl_in _, nilFl_new _, (T5.out.then_ HT.out (fun k hk => by simp at hk; subst hk; exact .inr (Nat.le_refl _))).low (by simp) (Nat.le_refl _)⟩
        · rw [hbig] at g2 HEN
          have HEQ := Lib.hid (fileT_ok HE.out HD.out HEN.out)
          clear hbig
          obtain ⟨x0, x1, x2⟩ := three_at HX5.out
          obtain ⟨y0, y1, y2⟩ := three_at HR5.out
          have f0 := free_at HR5.out 0
          have f1 := free_at HR5.out 1
          have f2 := free_at HR5.out 2
          go_wp2_with fail
          refine CE.out.mono ?_
          rintro e w6 ⟨rfl, rfl⟩
          go_wp2_with fail
          have HT := Lib.hid (turn3 w6 w.heap.size (.string x.s) (.slice x.ia x.i.length x.ic) (.slice x.fa x.f.length x.fc))
          refine bodyPost_ret (results_fl2 rfl _ _ w.heap.size _ _ _ (.int .i64 0) rfl rfl (set3 HR5.out)) rfl ?_
          have hin := HI5.out
          have hnn : NewFl (w.heap.size + 1) x := NewFl.mono HNN.out (by have := HGN.out; rw [HZ3.out]; omega)
          exact ⟨x, by rw [HEQ.out]; rfl, by rw [HEQ.out]; exact HC.out, FlIn.off hin hnn (fun k hk => by simp at hk; omega) HT.out, NewFl.mono hnn (by omega), (T5.out.then_ HT.out (fun k hk => by simp at hk; subst hk; exact .inr (Nat.le_refl _))).low (by simp) (Nat.le_refl _)⟩
  · have HEQ := Lib.hid (fileT_err he)
    have heb : ((Lex.words t).2 != 0) = true := by simpa using he
    clear he HV HT1
    obtain ⟨er, her⟩ : ∃ er, (Lex.words t).2 = er := ⟨_, rfl⟩
    rw [her] at heb HEQ ⊢
    clear her
    obtain ⟨z0, z1, z2⟩ := three_at HN1.out
    obtain ⟨y0, y1, y2⟩ := three_at HR1.out
    have f0 := free_at HR1.out 0
    have f1 := free_at HR1.out 1
    have f2 := free_at HR1.out 2
    go_wp2_with fail
    have HT := Lib.hid (turn3 w1 w.heap.size (.string ⟨#[]⟩) (.slice none 0 0) (.slice none 0 0))
    refine bodyPost_ret (results_fl2 rfl _ _ w.heap.size _ _ _ (.int .i64 er) rfl rfl (set3 HR1.out)) rfl ?_
    exact ⟨nilFl, by rw [HEQ.out]; rfl, by rw [HEQ.out]; exact nilFl_core, nilFl_in _, nilFl_new _, (T1.out.then_ HT.out (fun k hk => by simp at hk; subst hk; exact .inr (Nat.le_refl _))).low (by simp) (Nat.le_refl _)⟩
theorem exprTP_err {t : List UInt8} (h : (Lex.words t).2 ≠ 0) : exprTP t = (nilT, (Lex.words t).2) := by unfold exprTP; rw [if_pos h]
theorem exprTP_deep {t : List UInt8} (h : (Lex.words t).2 = 0) (h2 : 24 < nestD (Lex.words t).1) : exprTP t = (nilT, 11) := by unfold exprTP; rw [if_neg (by simp [h]), if_pos h2]
theorem exprTP_end {t : List UInt8} {n : Int} (h : (Lex.words t).2 = 0) (h2 : ¬ 24 < nestD (Lex.words t).1) (h3 : endE (exprP ⟨(Lex.words t).1, false, false⟩).2 = n) (hn : n ≠ 0) : exprTP t = (nilT, n) := by unfold exprTP; rw [if_neg (by simp [h]), if_neg h2, h3, if_pos hn]
theorem exprTP_ok {t : List UInt8} (h : (Lex.words t).2 = 0) (h2 : ¬ 24 < nestD (Lex.words t).1) (h3 : endE (exprP ⟨(Lex.words t).1, false, false⟩).2 = 0) : exprTP t = ((exprP ⟨(Lex.words t).1, false, false⟩).1, 0) := by unfold exprTP; rw [if_neg (by simp [h]), if_neg h2, h3, if_neg (by simp)]
set_option maxHeartbeats 16000000 in
theorem wholeExpr_any (t : List UInt8) (w : World) (hT : Tabs w) (CR : ∀ (lo : Nat) (w' : World) (g : Nat) (r : PS), InG lo w' g r → Hid (Calls Tryz.prog 29 #[.pointer (some ⟨g, 0, none⟩)] w' (EvGX lo w' g (exprP r)))) :
    Calls Tryz.prog 28 #[.string (bs t), .func (.func 29) #[] #[]] w (TellX t w) := by
  have HB2 := Lib.hid (two_below w #[.int .i64 0, .int .i64 0, .string ⟨#[]⟩, .string ⟨#[]⟩, .slice none 0 0] #[.int .i64 0, .int .i64 0, .string ⟨#[]⟩, .string ⟨#[]⟩, .slice none 0 0] 36 36)
  have HN2 := Lib.hid (two_new_at w #[.int .i64 0, .int .i64 0, .string ⟨#[]⟩, .string ⟨#[]⟩, .slice none 0 0] #[.int .i64 0, .int .i64 0, .string ⟨#[]⟩, .string ⟨#[]⟩, .slice none 0 0] 36 36)
  have HTB := Lib.hid (hT.below HB2.out)
  have HG0 : Hid (0 < w.heap.size) := Lib.hid hT.par.pos
  have HSZ : Hid (((w.alloc (.cells #[.int .i64 0, .int .i64 0, .string ⟨#[]⟩, .string ⟨#[]⟩, .slice none 0 0] 36)).alloc (.cells #[.int .i64 0, .int .i64 0, .string ⟨#[]⟩, .string ⟨#[]⟩, .slice none 0 0] 36)).heap.size = w.heap.size + 2) := Lib.hid (by simp)
  have CW := Lib.hid (Lex.words_any t _ HTB.out.lex)
  have HCR := Lib.hid CR
  clear hT CR
  have HBS : Hid (bs t = bs t) := Lib.hid rfl
  generalize bs t = TX at *
  go_enter Tryz.func28, Tryz.ntmps28
  go_wp2_with fail
  refine CW.out.mono ?_
  rintro e w1 ⟨v, rfl, hv, hb1⟩
  have HV := Lib.hid hv
  have HT1 := Lib.hid (HTB.out.below hb1)
  have T1 : Hid (Turn [] w w1) := Lib.hid (((Turn.refl [] w).below HB2.out).below hb1)
  have HR1 : Hid (w1.heap[w.heap.size]? = some (.cells #[.int .i64 0, .int .i64 0, .string ⟨#[]⟩, .string ⟨#[]⟩, .slice none 0 0] 36 (0, 0))) := Lib.hid ((hb1.block _ (lt_of_heap HN2.out.1)).trans HN2.out.1)
  have HN1 : Hid (w1.heap[w.heap.size + 1]? = some (.cells #[.int .i64 0, .int .i64 0, .string ⟨#[]⟩, .string ⟨#[]⟩, .slice none 0 0] 36 (0, 0))) := Lib.hid ((hb1.block _ (lt_of_heap HN2.out.2)).trans HN2.out.2)
  have HZ1 : Hid (w.heap.size + 2 ≤ w1.heap.size) := Lib.hid (by have := hb1.size; rw [HSZ.out] at this; exact this)
  clear hv hb1 CW HTB HB2 HN2
  by_cases he : (Lex.words t).2 = 0
  · have HE := Lib.hid he
    have HW0 := Lib.hid (words_ok0 he)
    rw [he]
    clear he
    obtain ⟨A, c, rfl, hc, hA⟩ := OwnW.cap HV.out
    have hrow : Row 3 wdC w1 A (Lex.words t).1 := OwnW.row HV.out
    have CN := Lib.hid (nestg_any (Lex.words t).1 A c w1 hrow (by have := HW0.out.2.2; omega))
    have HNG : Hid (nestG (Lex.words t).1 = nestD (Lex.words t).1) := Lib.hid (nestG_good HW0.out.1)
    rw [HNG.out] at CN
    clear hrow hc hA HNG
    go_wp2_with fail
    refine CN.out.mono ?_
    rintro e w2 ⟨rfl, hb2⟩
    have HT2 := Lib.hid (HT1.out.below hb2)
    have T2 := Lib.hid (T1.out.below hb2)
    have HR2 := Lib.hid ((hb2.block _ (lt_of_heap HR1.out)).trans HR1.out)
    have HN2 := Lib.hid ((hb2.block _ (lt_of_heap HN1.out)).trans HN1.out)
    have HZ2 : Hid (w.heap.size + 2 ≤ w2.heap.size) := Lib.hid (by have := hb2.size; have := HZ1.out; omega)
    have HV2 := Lib.hid (Lex.OwnW.keep HV.out fun b hb => hb2.block b (HV.out.lt b hb).2)
    have HV3 : Hid (w.heap.size + 2 ≤ w2.heap.size) := HZ2
    clear hb2 CN HT1 T1 HR1 HN1
    by_cases hd : 24 < nestD (Lex.words t).1
    · have HEQ := Lib.hid (exprTP_deep HE.out hd)
      have hq : (24 : Int) < (nestD (Lex.words t).1 : Nat) := by omega
      generalize nestD (Lex.words t).1 = d at hq ⊢
      clear hd
      obtain ⟨z0, z1, z2, z3, z4⟩ := five_at HN2.out
      obtain ⟨y0, y1, y2, y3, y4⟩ := five_at HR2.out
      have f0 := free_at HR2.out 0
      have f1 := free_at HR2.out 1
      have f2 := free_at HR2.out 2
      have f3 := free_at HR2.out 3
      have f4 := free_at HR2.out 4
      go_wp2_with fail
      have HT := Lib.hid (turn5 w2 w.heap.size (.int .i64 0) (.int .i64 0) (.string ⟨#[]⟩) (.string ⟨#[]⟩) (.slice none 0 0))
      refine bodyPost_ret (results_ex2 rfl _ _ w.heap.size _ _ _ _ _ (.int .i64 11) rfl rfl (set5 HR2.out)) rfl ?_
      exact ⟨nilX, by rw [HEQ.out]; rfl, by rw [HEQ.out]; exact nilX_core, (fun w => leaf_in w 0 0 ⟨#[]⟩ nil_max) _, (fun n => leaf_new n 0 0 ⟨#[]⟩) _, (T2.out.then_ HT.out (fun k hk => by simp at hk; subst hk; exact .inr (Nat.le_refl _))).low (by simp) (Nat.le_refl _)⟩
    · have HD := Lib.hid hd
      have hq : ¬ (24 : Int) < (nestD (Lex.words t).1 : Nat) := by omega
      generalize nestD (Lex.words t).1 = d at hq ⊢
      clear hd
      have HIN := Lib.hid (new_reader HV2.out HW0.out.1 HW0.out.2.2 HT2.out (by have := HG0.out; rw [HSZ.out]; omega) (by rw [HSZ.out]; exact HZ2.out))
      have HB3 := Lib.hid (ball_new w2 #[.slice A (Lex.words t).1.length c, .bool false, .bool false] 88)
      have T3 := Lib.hid (T2.out.below HB3.out)
      have HR3 := Lib.hid ((HB3.out.block _ (lt_of_heap HR2.out)).trans HR2.out)
      have HN3 := Lib.hid ((HB3.out.block _ (lt_of_heap HN2.out)).trans HN2.out)
      have HZ3 : Hid ((w2.alloc (.cells #[.slice A (Lex.words t).1.length c, .bool false, .bool false] 88)).heap.size = w2.heap.size + 1) := Lib.hid (by simp)
      have hcf : ∀ w', (callFunc 29 #[.pointer (some ⟨w2.heap.size, 0, none⟩)]).run Tryz.prog w' = .ok (.enter 29 #[.pointer (some ⟨w2.heap.size, 0, none⟩)]) w' := fun w' => by kernel_rfl
      have CC := HCR.out _ _ _ _ HIN.out
      go_wp2_with fail
      clear hq HV HV2 HT2 HB3 T2 HR2 HN2 hcf
      refine CC.out.mono ?_
      rintro e w4 ⟨x, r', rfl, ha, hin, hnn, hr, ht⟩
      rw [exV_eq]
      have HGN : Hid (w.heap.size + 2 ≤ w2.heap.size) := HZ2
      have HA := Lib.hid ha
      have HI4 := Lib.hid hin
      have HNN := Lib.hid hnn
      have T4 := Lib.hid (T3.out.then_ ht (fun k hk => by simp at hk; subst hk; exact .inr (by have := HGN.out; omega)))
      have HR4 := Lib.hid ((ht.block _ (lt_of_heap HR3.out) (by have := HGN.out; simp; omega)).trans HR3.out)
      have HN4 := Lib.hid ((ht.block _ (lt_of_heap HN3.out) (by have := HGN.out; simp; omega)).trans HN3.out)
      have HR := Lib.hid hr
      have HB5 := Lib.hid (ball_new w4 #[.int .i64 x.op, .int .i64 x.n, .string x.s, .string x.q, .slice x.a x.x.length x.c] 36)
      have HX5 := Lib.hid (new_at w4 #[.int .i64 x.op, .int .i64 x.n, .string x.s, .string x.q, .slice x.a x.x.length x.c] 36)
      have T5 := Lib.hid (T4.out.below HB5.out)
      have HR5 := Lib.hid ((HB5.out.block _ (lt_of_heap HR4.out)).trans HR4.out)
      have HN5 := Lib.hid ((HB5.out.block _ (lt_of_heap HN4.out)).trans HN4.out)
      have HRD5 := Lib.hid (HR.out.below HB5.out)
      have HI5 := Lib.hid (Tre.ExIn.below hin HB5.out)
      clear ha hin hnn hr ht CC T3 T4 HR3 HN3 HR4 HN4 HR
      obtain ⟨a5, c5, hrd, -⟩ := HRD5.out.at_
      have g1 := cell_at hrd 1
      have g2 := cell_at hrd 2
      simp only [List.getElem?_toArray, List.getElem?_cons_succ, List.getElem?_cons_zero] at g1 g2
      clear hrd
      obtain ⟨W5, hW5⟩ : ∃ W5, w4.alloc (.cells #[.int .i64 x.op, .int .i64 x.n, .string x.s, .string x.q, .slice x.a x.x.length x.c] 36) = W5 := ⟨_, rfl⟩
      rw [hW5] at HB5 HX5 T5 HR5 HN5 HRD5 HI5 g1 g2
      rcases HA.out with ⟨h1, h2⟩ | ⟨h1, hl, h3, h4⟩
      · have HEQ := Lib.hid (exprTP_end HE.out HD.out (endE_bad h1) (by decide))
        clear h1
        rcases Bool.eq_false_or_eq_true r'.bad with hb | hb
        · rw [hb] at g1
          clear h2 hb
          obtain ⟨z0, z1, z2, z3, z4⟩ := five_at HN5.out
          obtain ⟨y0, y1, y2, y3, y4⟩ := five_at HR5.out
          have f0 := free_at HR5.out 0
          have f1 := free_at HR5.out 1
          have f2 := free_at HR5.out 2
          have f3 := free_at HR5.out 3
          have f4 := free_at HR5.out 4
          go_wp2_with fail
          have HT := Lib.hid (turn5 W5 w.heap.size (.int .i64 0) (.int .i64 0) (.string ⟨#[]⟩) (.string ⟨#[]⟩) (.slice none 0 0))
          refine bodyPost_ret (results_ex2 rfl _ _ w.heap.size _ _ _ _ _ (.int .i64 7) rfl rfl (set5 HR5.out)) rfl ?_
          exact ⟨nilX, by rw [HEQ.out]; rfl, by rw [HEQ.out]; exact nilX_core, (fun w => leaf_in w 0 0 ⟨#[]⟩ nil_max) _, (fun n => leaf_new n 0 0 ⟨#[]⟩) _, (T5.out.then_ HT.out (fun k hk => by simp at hk; subst hk; exact .inr (Nat.le_refl _))).low (by simp) (Nat.le_refl _)⟩
        · have hl : 0 < r'.l.length := List.length_pos_iff.2 (h2.elim (fun h => by rw [hb] at h; cases h) id)
          have CE := Lib.hid (ended_no HRD5.out hl)
          rw [hb] at g1
          clear h2 hb hl
          obtain ⟨z0, z1, z2, z3, z4⟩ := five_at HN5.out
          obtain ⟨y0, y1, y2, y3, y4⟩ := five_at HR5.out
          have f0 := free_at HR5.out 0
          have f1 := free_at HR5.out 1
          have f2 := free_at HR5.out 2
          have f3 := free_at HR5.out 3
          have f4 := free_at HR5.out 4
          go_wp2_with fail
          refine CE.out.mono ?_
          rintro e w6 ⟨rfl, rfl⟩
          go_wp2_with fail
          have HT := Lib.hid (turn5 w6 w.heap.size (.int .i64 0) (.int .i64 0) (.string ⟨#[]⟩) (.string ⟨#[]⟩) (.slice none 0 0))
          refine bodyPost_ret (results_ex2 rfl _ _ w.heap.size _ _ _ _ _ (.int .i64 7) rfl rfl (set5 HR5.out)) rfl ?_
          exact ⟨nilX, by rw [HEQ.out]; rfl, by rw [HEQ.out]; exact nilX_core, (fun w => leaf_in w 0 0 ⟨#[]⟩ nil_max) _, (fun n => leaf_new n 0 0 ⟨#[]⟩) _, (T5.out.then_ HT.out (fun k hk => by simp at hk; subst hk; exact .inr (Nat.le_refl _))).low (by simp) (Nat.le_refl _)⟩
      · have HEN := Lib.hid (endE_ok h1 hl)
        have CE := Lib.hid (ended_yes HRD5.out (by rw [h4]; exact hl))
        have HC := Lib.hid h3
        rw [h4] at g1 g2
        rw [h1] at g1
        clear h1 hl h3 h4
        rcases Bool.eq_false_or_eq_true (exprP ⟨(Lex.words t).1, false, false⟩).2.big with hbig | hbig
        · rw [hbig] at g2 HEN
          have HEQ := Lib.hid (exprTP_end HE.out HD.out HEN.out (by simp))
          clear hbig
          obtain ⟨z0, z1, z2, z3, z4⟩ := five_at HN5.out
          obtain ⟨y0, y1, y2, y3, y4⟩ := five_at HR5.out
          have f0 := free_at HR5.out 0
          have f1 := free_at HR5.out 1
          have f2 := free_at HR5.out 2
          have f3 := free_at HR5.out 3
          have f4 := free_at HR5.out 4
          go_wp2_with fail
          refine CE.out.mono ?_
          rintro e w6 ⟨rfl, rfl⟩
          go_wp2_with fail
          have HT := Lib.hid (turn5 w6 w.heap.size (.int .i64 0) (.int .i64 0) (.string ⟨#[]⟩) (.string ⟨#[]⟩) (.slice none 0 0))
          refine bodyPost_ret (results_ex2 rfl _ _ w.heap.size _ _ _ _ _ (.int .i64 11) rfl rfl (set5 HR5.out)) rfl ?_
          exact ⟨nilX, by rw [HEQ.out]; rfl, by rw [HEQ.out]; exact nilX_core, (fun w => leaf_in w 0 0 ⟨#[]⟩ nil_max) _, (fun n => leaf_new n 0 0 ⟨#[]⟩) _, (T5.out.then_ HT.out (fun k hk => by simp at hk; subst hk; exact .inr (Nat.le_refl _))).low (by simp) (Nat.le_refl _)⟩
        · rw [hbig] at g2 HEN
          have HEQ := Lib.hid (exprTP_ok HE.out HD.out HEN.out)
          clear hbig
          obtain ⟨x0, x1, x2, x3, x4⟩ := five_at HX5.out
          obtain ⟨y0, y1, y2, y3, y4⟩ := five_at HR5.out
          have f0 := free_at HR5.out 0
          have f1 := free_at HR5.out 1
          have f2 := free_at HR5.out 2
          have f3 := free_at HR5.out 3
          have f4 := free_at HR5.out 4
          go_wp2_with fail
          refine CE.out.mono ?_
          rintro e w6 ⟨rfl, rfl⟩
          go_wp2_with fail
          have HT := Lib.hid (turn5 w6 w.heap.size (.int .i64 x.op) (.int .i64 x.n) (.string x.s) (.string x.q) (.slice x.a x.x.length x.c))
          refine bodyPost_ret (results_ex2 rfl _ _ w.heap.size _ _ _ _ _ (.int .i64 0) rfl rfl (set5 HR5.out)) rfl ?_
          have hin := HI5.out
          have hnn : New (w.heap.size + 1) x := New.mono HNN.out (by have := HGN.out; rw [HZ3.out]; omega)
          exact ⟨x, by rw [HEQ.out]; rw [exV_eq], by rw [HEQ.out]; exact HC.out, ExIn.off hin (New.off hnn (fun k hk => by simp at hk; omega)) HT.out, New.mono hnn (by omega), (T5.out.then_ HT.out (fun k hk => by simp at hk; subst hk; exact .inr (Nat.le_refl _))).low (by simp) (Nat.le_refl _)⟩
  · have HEQ := Lib.hid (exprTP_err he)
    have heb : ((Lex.words t).2 != 0) = true := by simpa using he
    clear he HV HT1
    obtain ⟨er, her⟩ : ∃ er, (Lex.words t).2 = er := ⟨_, rfl⟩
    rw [her] at heb HEQ ⊢
    clear her
    obtain ⟨z0, z1, z2, z3, z4⟩ := five_at HN1.out
    obtain ⟨y0, y1, y2, y3, y4⟩ := five_at HR1.out
    have f0 := free_at HR1.out 0
    have f1 := free_at HR1.out 1
    have f2 := free_at HR1.out 2
    have f3 := free_at HR1.out 3
    have f4 := free_at HR1.out 4
    go_wp2_with fail
    have HT := Lib.hid (turn5 w1 w.heap.size (.int .i64 0) (.int .i64 0) (.string ⟨#[]⟩) (.string ⟨#[]⟩) (.slice none 0 0))
    refine bodyPost_ret (results_ex2 rfl _ _ w.heap.size _ _ _ _ _ (.int .i64 er) rfl rfl (set5 HR1.out)) rfl ?_
    exact ⟨nilX, by rw [HEQ.out]; rfl, by rw [HEQ.out]; exact nilX_core, (fun w => leaf_in w 0 0 ⟨#[]⟩ nil_max) _, (fun n => leaf_new n 0 0 ⟨#[]⟩) _, (T1.out.then_ HT.out (fun k hk => by simp at hk; subst hk; exact .inr (Nat.le_refl _))).low (by simp) (Nat.le_refl _)⟩
end Go.Proofs.YtlhbhpdpjidpgaaGreatDoor.Prg
/- The two tables of signs, as the rows list them. -/
namespace Go.Proofs.YtlhbhpdpjidpgaaGreatDoor
open Go.ChangeShapes Go.WideShapes Go.ChangeAt Go.ChangeMaps Go.WideMaps Go.WideElems Go.RowKit

theorem gSigns : Tryz.prog.globalNamed "treadmill/lex.signs" = some 1 := by kernel_rfl
theorem gSignsType : (Tryz.prog.globals[1]?).map (·.type) = some 149 := by kernel_rfl
theorem gSigs : Tryz.prog.globalNamed "treadmill/parse.signs" = some 0 := by kernel_rfl
theorem gSigsType : (Tryz.prog.globals[0]?).map (·.type) = some 141 := by kernel_rfl
theorem cells64 : Tryz.prog.cellsOf 149 = 23 := by kernel_rfl
theorem cells9 : Tryz.prog.cellsOf 9 = 1 := by kernel_rfl
theorem cells3 : Tryz.prog.cellsOf 3 = 1 := by kernel_rfl
theorem cells140 : Tryz.prog.cellsOf 140 = 3 := by kernel_rfl
theorem cells141 : Tryz.prog.cellsOf 141 = 39 := by kernel_rfl
def textData {H : Type} (zs : List (List UInt8)) : DataW H := .agg (zs.map fun z => .lit (.string z))
/-- An array of texts that reads as the table holds the table's texts, cell for cell. -/
theorem cells_of_texts {H : Type} {enc : TypeId × Value → H} {P : Program} {w : World} {base : Nat} {sp : Nat → Bool} {held : Bool} {fuel : Nat} {t e : TypeId} {n : Nat} {cs : List Value} {zs : List (List UInt8)} {p : List MemPlace}
    (ht : P.underlying t = some (.array n e)) (he : P.underlying e = some .string) (hce : P.cellsOf e = 1) (hct : P.cellsOf t = n)
    (h : DataW.trod enc P w base sp held fuel t cs = some (textData zs, p)) : cs = zs.map Lex.str := by
  cases fuel with
  | zero => simp [DataW.trod] at h
  | succ fuel =>
    simp only [DataW.trod, ht, hce, hct, Nat.mul_one] at h
    split at h
    · rename_i hl
      obtain ⟨xs, hm, hx⟩ := Option.map_eq_some_iff.1 h
      have hxs : xs.map (·.1) = zs.map fun z => (DataW.lit (.string z) : DataW H) := by
        have := congrArg Prod.fst hx
        simpa [textData] using this
      have hxl : xs.length = n := by simpa using Lib.mapM_length hm
      have hzl : zs.length = n := by
        have := congrArg List.length hxs
        simp at this
        omega
      apply List.ext_getElem?
      intro i
      by_cases hi : i < n
      · obtain ⟨b, hb, hf⟩ := Lib.mapM_at hm i i (by simp [hi])
        obtain ⟨z, hc, rfl, _⟩ := DataW.trod_string he hf
        have h1 : cs[i]? = some (.string z) := by
          have := congrArg (·[0]?) hc
          simpa [List.getElem?_take, List.getElem?_drop] using this
        have h2 : (xs.map (·.1))[i]? = some (DataW.lit (.string z.data.toList) : DataW H) := by simp [hb]
        rw [hxs] at h2
        simp only [List.getElem?_map, Option.map_eq_some_iff, DataW.lit.injEq, Lit.string.injEq] at h2
        obtain ⟨z', hz', e⟩ := h2
        rw [h1, List.getElem?_map, hz', Option.map_some, e]
        unfold Lex.str
        rw [Lex.bs_of]
      · rw [List.getElem?_eq_none (by omega), List.getElem?_eq_none (by simp; omega)]
    · cases h
theorem signs_of_head {W : World} {rest : List (String × DataW Unit)} (h : laidMet Tryz.prog (("treadmill/lex.signs", textData Lex.signsL) :: rest) W) : Lex.Signs W := by
  obtain ⟨ps, ⟨g', t', cs, fuel, p, q, hg', ht', hvar, hd, _, _⟩, _⟩ := h
  obtain rfl := Option.some.inj (gSigns.symm.trans hg')
  obtain rfl := Option.some.inj (gSignsType.symm.trans ht')
  have hc := cells_of_texts Tryz.underlying149 Tryz.underlying9 cells9 cells64 hd
  intro i hi
  have h2 := World.var?_cell gSigns hvar i
  rw [h2]
  have h3 : Lex.signsL[i]? = some (Lex.signsL.getD i []) := by
    rw [List.getD_eq_getElem?_getD, List.getElem?_eq_getElem (show i < Lex.signsL.length from hi)]; rfl
  have h4 : cs[i]? = some (Lex.str (Lex.signsL.getD i [])) := by
    rw [← Array.getElem?_toList, hc, List.getElem?_map, h3]; rfl
  simpa using h4
set_option maxRecDepth 100000
open Prg (sigsL sigV sig)
def sigData {H : Type} (l : List (List UInt8 × Int × Int)) : DataW H := .agg (l.map fun e => .agg [.lit (.string e.1), .lit (.int .i64 e.2.1), .lit (.int .i64 e.2.2)])
section
variable {H : Type} {enc : TypeId × Value → H} {w : World} {base : Nat} {sp : Nat → Bool} {held : Bool}
/-- A row of the table. -/
theorem row_of_sig {fuel : Nat} {cs : List Value} {e : List UInt8 × Int × Int} {p : List MemPlace} (h : DataW.trod enc Tryz.prog w base sp held fuel 140 cs = some (.agg [.lit (.string e.1), .lit (.int .i64 e.2.1), .lit (.int .i64 e.2.2)], p)) : cs = [.string (Lex.bs e.1), .int .i64 e.2.1, .int .i64 e.2.2] := by
  obtain ⟨y0, y1, y2, n, hx, hl, h0, h1, h2⟩ := Deep.trod_struct3 Tryz.underlying140 h
  rw [cells140] at hl
  match cs, hl with
  | [c0, c1, c2], _ =>
    simp only [cells9, cells3, List.drop, List.take] at h0 h1 h2
    obtain ⟨s, e0, g0, _⟩ := DataW.trod_string Tryz.underlying9 h0
    obtain ⟨a, e1, g1, _⟩ := DataW.trod_int Tryz.underlying3 h1
    obtain ⟨b, e2, g2, _⟩ := DataW.trod_int Tryz.underlying3 h2
    subst g0 g1 g2
    simp only [Prod.mk.injEq, DataW.agg.injEq, List.cons.injEq, DataW.lit.injEq, Lit.string.injEq, Lit.int.injEq, true_and, and_true] at hx
    obtain ⟨⟨k0, k1, k2⟩, _⟩ := hx
    injection e0 with e0
    injection e1 with e1
    injection e2 with e2
    subst e0 e1 e2
    rw [k0, k1, k2, Lex.bs_of]
theorem sig_at : ∀ i, i < 13 → ∀ r, r < 3 → sigV[i * 3 + r]? = ([.string (Lex.bs (sig i).1), .int .i64 (sig i).2.1, .int .i64 (sig i).2.2] : List Value)[r]? := by
  intro i hi r hr
  obtain rfl | rfl | rfl | rfl | rfl | rfl | rfl | rfl | rfl | rfl | rfl | rfl | rfl : i = 0 ∨ i = 1 ∨ i = 2 ∨ i = 3 ∨ i = 4 ∨ i = 5 ∨ i = 6 ∨ i = 7 ∨ i = 8 ∨ i = 9 ∨ i = 10 ∨ i = 11 ∨ i = 12 := by omega
  all_goals (obtain rfl | rfl | rfl : r = 0 ∨ r = 1 ∨ r = 2 := by omega)
  all_goals rfl
/-- The table, cell for cell. -/
theorem cells_of_sigs {fuel : Nat} {cs : List Value} {p : List MemPlace} (h : DataW.trod enc Tryz.prog w base sp held fuel 141 cs = some (sigData sigsL, p)) : cs = sigV := by
  cases fuel with
  | zero => simp [DataW.trod] at h
  | succ fuel =>
    simp only [DataW.trod, Tryz.underlying141, cells140, cells141] at h
    split at h
    · rename_i hl
      obtain ⟨xs, hm, hx⟩ := Option.map_eq_some_iff.1 h
      have hxs : xs.map (·.1) = sigsL.map fun e => (DataW.agg [.lit (.string e.1), .lit (.int .i64 e.2.1), .lit (.int .i64 e.2.2)] : DataW H) := by
        have := congrArg Prod.fst hx
        simpa [sigData] using this
      apply List.ext_getElem?
      intro j
      by_cases hj : j < 39
      · obtain ⟨i, r, hi, hr, rfl⟩ : ∃ i r, i < 13 ∧ r < 3 ∧ j = i * 3 + r := ⟨j / 3, j % 3, by omega, by omega, by omega⟩
        obtain ⟨b, hb, hf⟩ := Lib.mapM_at hm i i (by simp [hi])
        have h2 : (xs.map (·.1))[i]? = some b.1 := by rw [List.getElem?_map, hb]; rfl
        have h3 : sigsL[i]? = some (sig i) := by
          unfold sig
          rw [List.getD_eq_getElem?_getD, List.getElem?_eq_getElem (show i < sigsL.length from hi)]
          rfl
        rw [hxs, List.getElem?_map, h3] at h2
        have hb1 := Option.some.inj h2
        have h4 := row_of_sig (e := sig i) (p := b.2) (hf.trans (congrArg some (Prod.ext hb1.symm rfl)))
        rw [sig_at i hi r hr, ← h4, List.getElem?_take, if_pos hr, List.getElem?_drop]
      · rw [List.getElem?_eq_none (by omega), List.getElem?_eq_none (by show 39 ≤ j; omega)]
    · cases h
end
theorem sigs_of_head {W : World} {rest : List (String × DataW Unit)} (h : laidMet Tryz.prog (("treadmill/parse.signs", sigData sigsL) :: rest) W) : Prg.Sigs W := by
  obtain ⟨ps, ⟨g', t', cs, fuel, p, q, hg', ht', hvar, hd, _, _⟩, _⟩ := h
  obtain rfl := Option.some.inj (gSigs.symm.trans hg')
  obtain rfl := Option.some.inj (gSigsType.symm.trans ht')
  have hc := cells_of_sigs hd
  intro j v hv
  have h2 := World.var?_cell gSigs hvar j
  rw [Nat.zero_add]
  rw [h2, ← Array.getElem?_toList, hc]
  exact hv
theorem tabs_of {W : World} {l : List (String × DataW Unit)} (hl : l = [("treadmill/lex.signs", Rows.laid_treadmill_lex_signs), ("treadmill/parse.signs", Rows.laid_treadmill_parse_signs)]) (h : laidMetH Tryz.prog l W) : Prg.Tabs W := by
  subst hl
  rw [MakeChecks.laidMetH_plain _ _ _ (by kernel_rfl)] at h
  exact ⟨signs_of_head (rest := [("treadmill/parse.signs", Rows.laid_treadmill_parse_signs)]) h, sigs_of_head (rest := []) h.tail⟩
theorem fits {a : Int} (h : (Lit.int .i64 a).wf = true) : -9223372036854775808 ≤ a ∧ a ≤ 9223372036854775807 := by
  simpa [Lit.wf, IntKind.min, IntKind.max, IntKind.signed, IntKind.bits] using h
noncomputable def laidWorld (os : Os) : World := World.doorLaid Tryz.prog 600 os
end Go.Proofs.YtlhbhpdpjidpgaaGreatDoor
