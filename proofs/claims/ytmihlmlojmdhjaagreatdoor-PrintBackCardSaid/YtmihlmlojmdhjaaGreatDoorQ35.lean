/-
  The program's writer writes a function. Conditions: it is right and lies in memory below the writer; sizes.
-/
import Derived.Test.YtmihlmlojmdhjaaGreatDoorQ13
import Derived.Test.YtmihlmlojmdhjaaGreatDoorQ27
import Derived.Test.YtmihlmlojmdhjaaGreatDoorQ32
import Derived.Test.YtmihlmlojmdhjaaGreatDoorQ34
namespace Go.Proofs.YtmihlmlojmdhjaaGreatDoor.Wr
open Go.RowKit Tre
open Lex (Ch textC textC_cons textC_app textC_nil chT)
open Prg (cw bl sg nm kw nu chX chS chP chF blockC opOf LoX OkX LoS OkS OkF LoF resC commasC)
set_option maxRecDepth 100000
set_option linter.unusedSimpArgs false
def resT (r : Int) : List UInt8 := if r = 0 then [] else [32] ++ TT r
def TFn (f : Tre.Fn) : List UInt8 := [102, 117, 110, 99, 32] ++ (f.s.data.toList ++ (TLPar f.p ++ (resT f.r ++ TB 0 f.b)))
theorem text_fn (f : Tre.Fn) (r : List Ch) : textC (cw (kw Prs.wFunc) :: bl :: (chF (coreF f) ++ r)) = TFn f ++ textC r := by
  have hP : (f.p.map coreP).map chP = f.p.map (fun x => chP (coreP x)) := by rw [List.map_map]; rfl
  have hB : 32 :: textC (blockC 0 ((f.b.map coreS).map (chS 1))) = TB 0 f.b := text_block 0 f.b
  unfold TFn chF TLPar TCPar resT
  simp only [coreF]
  rw [text_w, text_bl, textC_app, text_w, text_w, textC_app, text_w, text_bl, textC_app, shown_kw, shown_nm, shown_sg, shown_sg, hP, ← hB]
  unfold resC TT
  split
  · simp [textC_nil]; rfl
  · rw [textC_app, text_bl, textC_nil]; simp; rfl
theorem x4 {w : World} {g : Nat} {a0 a1 a2 a3 : Value} {T : TypeId} (h : w.heap[g]? = some (.cells #[a0, a1, a2, a3] T (0, 0))) :
    w.cell? ⟨g, 0, none⟩ = some a0 ∧ w.cell? ⟨g, 1, none⟩ = some a1 ∧ w.cell? ⟨g, 2, none⟩ = some a2 ∧ w.cell? ⟨g, 3, none⟩ = some a3 :=
  ⟨cell_at h 0, cell_at h 1, cell_at h 2, cell_at h 3⟩
/-- What the writer writes of a function. -/
def ElF (w0 : World) (b : Nat) (f : Tre.Fn) : Prop :=
  ∀ (w : World) (l : List UInt8), Wt w w0.heap.size b 0 l → Below w0.heap.size w0 w → l.length + (TFn f).length ≤ room → Calls Tryz.prog 49 #[pb b, fnV f] w (Wrote w0.heap.size b 0 (l ++ TFn f) w)
set_option maxHeartbeats 8000000 in
theorem fn_step {w0 : World} {b : Nat} (s : ByteArray) (pa : Option Addr) (pc : Nat) (ps : List Par) (r : Int) (ba : Option Addr) (bc : Nat) (sts : List St) (hr : (r != 0) = false ∨ (r != 0) = true ∧ (r = 1 ∨ r = 2)) (hrow : Row 2 parC w0 pa ps) (hpl : ps.length ≤ most) (hp : ∀ p ∈ ps, p.t = 1 ∨ p.t = 2)
    (HB1 : ElB w0 b 0 ba bc sts) (w : World) (l : List UInt8) (h : Wt w w0.heap.size b 0 l) (hb : Below w0.heap.size w0 w) (hs : l.length + ([102, 117, 110, 99, 32] ++ (s.data.toList ++ (TLPar ps ++ (resT r ++ TB 0 sts)))).length ≤ room) :
    Calls Tryz.prog 49 #[pb b, .agg #[.string s, .slice pa ps.length pc, .int .u8 r, .slice ba sts.length bc]] w (Wrote w0.heap.size b 0 (l ++ ([102, 117, 110, 99, 32] ++ (s.data.toList ++ (TLPar ps ++ (resT r ++ TB 0 sts))))) w) := by
  obtain ⟨T0, S0, HN0, hne⟩ := h.box #[.string s, .slice pa ps.length pc, .int .u8 r, .slice ba sts.length bc] 36
  obtain ⟨W0, hW0⟩ : ∃ W0, w.alloc (.cells #[.string s, .slice pa ps.length pc, .int .u8 r, .slice ba sts.length bc] 36) = W0 := ⟨_, rfl⟩
  rw [hW0] at T0 S0 HN0
  obtain ⟨z0, z1, z2, z3⟩ := x4 HN0
  have HL := Lib.hid (fun (u : World) (l' : List UInt8) (h' : Wt u w0.heap.size b 0 l') (hb' : Below w0.heap.size w0 u) (hs' : l'.length + (TLPar ps).length ≤ room) => listPar_any ps pa pc hrow hpl (fun p hp' => param_any p (hp p hp')) h' hb' hs')
  have HB1 := Lib.hid HB1
  have G2 := Lib.hid S0
  have GH0 := Lib.hid HN0
  have G4 := Lib.hid hne
  have GB0 := Lib.hid (hb.trans S0.below)
  have G6 : Hid (l.length + 5 + s.size + (TLPar ps).length + (resT r).length + (TB 0 sts).length ≤ room) := Lib.hid (by simp only [List.length_append, List.length_cons, List.length_nil, Array.length_toList, size_data] at hs; omega)
  have C1 := Lib.hid (lay2 T0 ⟨#[102, 117, 110, 99, 32]⟩ s (by have := G6.out; rw [show (⟨#[102, 117, 110, 99, 32]⟩ : ByteArray).size = 5 from rfl]; omega))
  clear h hb hs T0 S0 HN0 hne hrow hpl hp
  rcases hr with hr | ⟨hr, hr2⟩
  · have er : resT r = [] := by unfold resT; rw [if_pos (by simpa using hr)]
    rw [er] at G6 ⊢
    clear er
    go_enter Tryz.func49, Tryz.ntmps49
    go_wp2_with fail
    refine C1.out.mono ?_
    rintro e1 w1 ⟨rfl, h1, h2⟩
    have K1 := Lib.hid (G2.out.trans h2)
    have GH1 := Lib.hid (h2.keep _ _ _ (by decide) G4.out GH0.out)
    obtain ⟨z0, z1, z2, z3⟩ := x4 GH1.out
    have GB1 := Lib.hid (GB0.out.trans h2.below)
    have C2 := Lib.hid (HL.out _ _ h1 GB1.out (by have := G6.out; simp only [List.length_append, List.length_cons, List.length_nil, Array.length_toList, size_data] at this ⊢; omega))
    clear h1 h2
    go_wp2_with fail
    refine C2.out.mono ?_
    rintro e1 w2 ⟨rfl, h1, h2⟩
    have K2 := Lib.hid (K1.out.trans h2)
    have GH2 := Lib.hid (h2.keep _ _ _ (by decide) G4.out GH1.out)
    obtain ⟨z0, z1, z2, z3⟩ := x4 GH2.out
    have GB2 := Lib.hid (GB1.out.trans h2.below)
    have C3 := Lib.hid (HB1.out _ _ h1 GB2.out (by have := G6.out; simp only [List.length_append, List.length_cons, List.length_nil, Array.length_toList, size_data] at this ⊢; omega))
    clear h1 h2
    go_wp2_with fail
    refine C3.out.mono ?_
    rintro e1 w3 ⟨rfl, h1, h2⟩
    have K3 := Lib.hid (K2.out.trans h2)
    have KE := Lib.hid h1
    clear h1 h2
    go_wp2_with fail
    go_end0
    exact ⟨rfl, by simpa using KE.out, K3.out⟩
  · have er : resT r = [32] ++ TT r := by unfold resT; rw [if_neg (by simpa using hr)]
    rw [er] at G6 ⊢
    have HR := Lib.hid hr2
    clear er hr2
    go_enter Tryz.func49, Tryz.ntmps49
    go_wp2_with fail
    refine C1.out.mono ?_
    rintro e1 w1 ⟨rfl, h1, h2⟩
    have K1 := Lib.hid (G2.out.trans h2)
    have GH1 := Lib.hid (h2.keep _ _ _ (by decide) G4.out GH0.out)
    obtain ⟨z0, z1, z2, z3⟩ := x4 GH1.out
    have GB1 := Lib.hid (GB0.out.trans h2.below)
    have C2 := Lib.hid (HL.out _ _ h1 GB1.out (by have := G6.out; simp only [List.length_append, List.length_cons, List.length_nil, Array.length_toList, size_data] at this ⊢; omega))
    clear h1 h2
    go_wp2_with fail
    refine C2.out.mono ?_
    rintro e1 w2 ⟨rfl, h1, h2⟩
    have K2 := Lib.hid (K1.out.trans h2)
    have GH2 := Lib.hid (h2.keep _ _ _ (by decide) G4.out GH1.out)
    obtain ⟨z0, z1, z2, z3⟩ := x4 GH2.out
    have GB2 := Lib.hid (GB1.out.trans h2.below)
    have C3 := Lib.hid (lay1 h1 ⟨#[32]⟩ (by have := G6.out; simp only [List.length_append, List.length_cons, List.length_nil, Array.length_toList, size_data, show (⟨#[32]⟩ : ByteArray).size = 1 from rfl] at this ⊢; omega))
    clear h1 h2
    go_wp2_with fail
    refine C3.out.mono ?_
    rintro e1 w3 ⟨rfl, h1, h2⟩
    have K3 := Lib.hid (K2.out.trans h2)
    have GH3 := Lib.hid (h2.keep _ _ _ (by decide) G4.out GH2.out)
    obtain ⟨z0, z1, z2, z3⟩ := x4 GH3.out
    have GB3 := Lib.hid (GB2.out.trans h2.below)
    have C4 := Lib.hid (typed_any h1 r HR.out (by have := G6.out; simp only [List.length_append, List.length_cons, List.length_nil, Array.length_toList, size_data] at this ⊢; omega))
    clear h1 h2
    go_wp2_with fail
    refine C4.out.mono ?_
    rintro e1 w4 ⟨rfl, h1, h2⟩
    have K4 := Lib.hid (K3.out.trans h2)
    have GH4 := Lib.hid (h2.keep _ _ _ (by decide) G4.out GH3.out)
    obtain ⟨z0, z1, z2, z3⟩ := x4 GH4.out
    have GB4 := Lib.hid (GB3.out.trans h2.below)
    have C5 := Lib.hid (HB1.out _ _ h1 GB4.out (by have := G6.out; simp only [List.length_append, List.length_cons, List.length_nil, Array.length_toList, size_data] at this ⊢; omega))
    clear h1 h2
    go_wp2_with fail
    refine C5.out.mono ?_
    rintro e1 w5 ⟨rfl, h1, h2⟩
    have K5 := Lib.hid (K4.out.trans h2)
    have KE := Lib.hid h1
    clear h1 h2
    go_wp2_with fail
    go_end0
    exact ⟨rfl, by simpa using KE.out, K5.out⟩
theorem elF_any {w0 : World} (hG : Gd w0) (b : Nat) (f : Tre.Fn) (ho : sizeB f.b + 1 ≤ 1000000) (hin : FnIn w0 f) (hok : OkF (coreF f)) (hlo : LoF (coreF f)) : ElF w0 b f := by
  intro w l h hb hs
  obtain ⟨_, _, hps, hr, hsts⟩ := hok
  unfold TFn at hs ⊢
  rw [fnV_eq]
  refine fn_step f.s f.pa f.pc f.p f.r f.ba f.bc f.b ?_ hin.p hin.plen (fun p hp => (hps (coreP p) (List.mem_map_of_mem hp)).2) ?_ w l h hb hs
  · have hr' : f.r = 0 ∨ f.r = 1 ∨ f.r = 2 := hr
    rcases hr' with e | e | e
    · exact .inl (by rw [e]; rfl)
    · exact .inr ⟨by rw [e]; rfl, .inl e⟩
    · exact .inr ⟨by rw [e]; rfl, .inr e⟩
  · exact elB_any hG b 0 f.ba f.bc f.b (by omega) hin.b hin.blen hin.sts (fun s hs => hsts _ (List.mem_map_of_mem hs)) (fun s hs => hlo _ (List.mem_map_of_mem hs))
end Go.Proofs.YtmihlmlojmdhjaaGreatDoor.Wr
/- The program's writer writes a file as its text. Conditions: it is right and lies in memory below the writer; sizes. -/
namespace Go.Proofs.YtmihlmlojmdhjaaGreatDoor.Wr
open Go.RowKit Tre
open Lex (Ch textC textC_cons textC_app textC_nil chT)
open Prg (cw bl sg nm kw nu chX chS chP chF chL blockC opOf LoX OkX LoS OkS OkF LoF resC commasC textL OkL LoL wordOk headK tx)
set_option maxRecDepth 100000
set_option linter.unusedSimpArgs false
def qT (s : ByteArray) : List UInt8 := Lex.shown (tx s.data.toList)
def TIm (l : List ByteArray) : List UInt8 := l.flatMap fun s => [105, 109, 112, 111, 114, 116, 32] ++ (qT s ++ [10])
def TFs (l : List Tre.Fn) : List UInt8 := l.flatMap fun f => TFn f ++ [10]
def TFl (f : Fl) : List UInt8 := [112, 97, 99, 107, 97, 103, 101, 32] ++ (f.s.data.toList ++ ([59, 10] ++ (TIm f.i ++ TFs f.f)))
theorem text_ims : ∀ (l : List ByteArray), textC ((l.map fun s => s.data.toList).flatMap fun s => [cw (kw Prs.wImport), bl, cw (tx s), .nl]) = TIm l
  | [] => rfl
  | s :: l => by
    rw [List.map_cons, List.flatMap_cons, textC_app, text_ims l, text_w, text_bl, text_w, text_nl, textC_nil, shown_kw]
    unfold TIm qT
    rw [List.flatMap_cons]
    simp
    rfl
theorem text_fns : ∀ (l : List Tre.Fn), textC ((l.map coreF).flatMap fun g => cw (kw Prs.wFunc) :: bl :: (chF g ++ [.nl])) = TFs l
  | [] => rfl
  | f :: l => by
    rw [List.map_cons, List.flatMap_cons, textC_app, text_fns l, text_fn, text_nl, textC_nil]
    unfold TFs
    rw [List.flatMap_cons]
theorem text_file (f : Fl) : textL (coreL f) = TFl f := by
  unfold textL chL TFl coreL
  simp only
  rw [text_w, text_bl, text_w, text_w, text_nl, textC_app, text_ims, text_fns, shown_kw, shown_sg]
  have : Lex.shown (headK f.s.data.toList) = f.s.data.toList := by
    unfold headK Lex.shown
    rw [if_pos (by simp only; split <;> simp)]
  rw [this]
  simp
  rfl
theorem flat_take {α : Type} {g : α → List UInt8} {l : List α} {k : Nat} {x : α} (h : l[k]? = some x) : (l.take (k + 1)).flatMap g = (l.take k).flatMap g ++ g x := by
  rw [List.take_add_one, h]
  simp
theorem flat_len {α : Type} {g : α → List UInt8} {l : List α} {k : Nat} {x : α} (h : l[k]? = some x) : ((l.take k).flatMap g).length + (g x).length ≤ (l.flatMap g).length := by
  have e : l.flatMap g = (l.take (k + 1)).flatMap g ++ (l.drop (k + 1)).flatMap g := by rw [← List.flatMap_append, List.take_append_drop]
  rw [e, flat_take h]
  simp only [List.length_append]
  omega
theorem word_len {s : List UInt8} (h : wordOk s) : s.length ≤ 1000000 := by
  rcases h with h | h
  · unfold Lex.nameOk at h
    simp only [Bool.and_eq_true, Bool.not_eq_true', decide_eq_false_iff_not] at h
    omega
  · have hm : s ∈ Lex.keysL := by simpa [Lex.keyB] using h
    have := (by decide : ∀ s ∈ Lex.keysL, s.length ≤ 16) s hm
    omega
theorem x3 {w : World} {g : Nat} {a0 a1 a2 : Value} {T : TypeId} (h : w.heap[g]? = some (.cells #[a0, a1, a2] T (0, 0))) :
    w.cell? ⟨g, 0, none⟩ = some a0 ∧ w.cell? ⟨g, 1, none⟩ = some a1 ∧ w.cell? ⟨g, 2, none⟩ = some a2 := ⟨cell_at h 0, cell_at h 1, cell_at h 2⟩
set_option maxHeartbeats 16000000 in
theorem file_step {w0 : World} (hG : Gd w0) {b : Nat} (s : ByteArray) (ia : Option Addr) (ic : Nat) (is : List ByteArray) (fa : Option Addr) (fc : Nat) (fs : List Tre.Fn) (hirow : Row 1 txC w0 ia is) (hil : is.length ≤ most) (his : ∀ t ∈ is, t.data.toList.length ≤ 1000000)
    (hfrow : Row 4 fnC w0 fa fs) (hfl : fs.length ≤ most) (HF : ∀ f ∈ fs, ElF w0 b f) (w : World) (l : List UInt8) (h : Wt w w0.heap.size b 0 l) (hb : Below w0.heap.size w0 w) (hs : l.length + ([112, 97, 99, 107, 97, 103, 101, 32] ++ (s.data.toList ++ ([59, 10] ++ (TIm is ++ TFs fs)))).length ≤ room) :
    Calls Tryz.prog 24 #[pb b, .agg #[.string s, .slice ia is.length ic, .slice fa fs.length fc]] w (Wrote w0.heap.size b 0 (l ++ ([112, 97, 99, 107, 97, 103, 101, 32] ++ (s.data.toList ++ ([59, 10] ++ (TIm is ++ TFs fs))))) w) := by
  unfold most at hil hfl
  unfold ElF at HF
  obtain ⟨T0, S0, HN0, hne⟩ := h.box #[.string s, .slice ia is.length ic, .slice fa fs.length fc] 25
  obtain ⟨W0, hW0⟩ : ∃ W0, w.alloc (.cells #[.string s, .slice ia is.length ic, .slice fa fs.length fc] 25) = W0 := ⟨_, rfl⟩
  rw [hW0] at T0 S0 HN0
  obtain ⟨z0, z1, z2⟩ := x3 HN0
  have HS : Hid (l.length + 8 + s.size + 2 + (TIm is).length + (TFs fs).length ≤ room) := Lib.hid (by simp only [List.length_append, List.length_cons, List.length_nil, Array.length_toList, size_data] at hs; omega)
  have HIR := Lib.hid hirow
  have HFR := Lib.hid hfrow
  have HIS := Lib.hid his
  have HFE := Lib.hid HF
  have HG := Lib.hid hG
  have HB := Lib.hid hb
  have G2 := Lib.hid S0
  have GH0 := Lib.hid HN0
  have G4 := Lib.hid hne
  have C1 := Lib.hid (lay3 T0 ⟨#[112, 97, 99, 107, 97, 103, 101, 32]⟩ s ⟨#[59, 10]⟩ (by have := HS.out; rw [show (⟨#[112, 97, 99, 107, 97, 103, 101, 32]⟩ : ByteArray).size = 8 from rfl, show (⟨#[59, 10]⟩ : ByteArray).size = 2 from rfl]; omega))
  clear h hb hs T0 S0 HN0 hne hirow hfrow his HF hG
  obtain ⟨mi, hmi⟩ : ∃ m, is.length = m := ⟨_, rfl⟩
  obtain ⟨mf, hmf⟩ : ∃ m, fs.length = m := ⟨_, rfl⟩
  rw [hmi] at hil hW0 z1 GH0 ⊢
  rw [hmf] at hfl hW0 z2 GH0 ⊢
  have HMI := Lib.hid hmi
  have HMF := Lib.hid hmf
  clear hmi hmf
  go_enter Tryz.func24, Tryz.ntmps24
  go_wp2_with fail
  refine C1.out.mono ?_
  rintro e1 w1 ⟨rfl, h1, h2⟩
  have K1 := Lib.hid h1
  have K2 := Lib.hid (G2.out.trans h2)
  have GH1 := Lib.hid (h2.keep _ _ _ (by decide) G4.out GH0.out)
  obtain ⟨z0, z1, z2⟩ := x3 GH1.out
  clear h1 h2
  go_wp2_with fail
  go_loopw [16] (fun i wr => ∃ k : Nat, k ≤ mi ∧ i = .int .i64 k ∧ Hid (Wt wr w0.heap.size b 0 (l ++ ([112, 97, 99, 107, 97, 103, 101, 32] ++ (s.data.toList ++ [59, 10])) ++ TIm (is.take k))) ∧ Hid (Stp w0.heap.size b w wr) ∧ Hid (Stp w0.heap.size b w1 wr)) (fun i _ => mi - (intOf i).toNat)
  case atStart => exact ⟨0, Nat.zero_le _, rfl, Lib.hid (by rw [List.take_zero, show TIm [] = [] from rfl, List.append_nil]; exact K1.out), K2, Lib.hid (Stp.refl _ _ _)⟩
  case round =>
    obtain ⟨k, hk, rfl, H1, H2, H3⟩ := hrel
    by_cases hlt : k < mi
    · obtain ⟨x, hx⟩ : ∃ x, is[k]? = some x := ⟨_, List.getElem?_eq_getElem (by rw [HMI.out]; exact hlt)⟩
      have HTK : Hid (TIm (is.take (k + 1)) = TIm (is.take k) ++ ([105, 109, 112, 111, 114, 116, 32] ++ (qT x ++ [10]))) := Lib.hid (flat_take hx)
      have HTL : Hid ((TIm (is.take k)).length + (7 + ((qT x).length + 1)) ≤ (TIm is).length) := Lib.hid (by
        have := flat_len (g := fun s => [105, 109, 112, 111, 114, 116, 32] ++ (qT s ++ [10])) hx
        simp only [List.length_append, List.length_cons, List.length_nil] at this
        unfold TIm
        omega)
      obtain ⟨b1, o1, ha, hc1⟩ := HIR.out.at_ (HB.out.trans H2.out.below) hx
      subst ha
      have p0 := hc1 0 _ rfl
      simp only [Nat.add_zero, Nat.mul_one] at p0
      have CS : Calls Tryz.prog 45 #[.agg #[.int .i64 3, .string x, .int .i64 0]] wr (fun e w' => e = .returned (.string ⟨(qT x).toArray⟩) ∧ Below wr.heap.size wr w') := by
        have := Lex.show_any (tx x.data.toList) wr (HIS.out x (List.mem_of_getElem? hx)) (by show (0 : Int) ≤ 9223372036854775807; decide) (HG.out.below (HB.out.trans H2.out.below)).t
        rw [show Lex.wdV (tx x.data.toList) = .agg #[.int .i64 3, .string x, .int .i64 0] by unfold Lex.wdV Lex.bs; simp] at this
        exact this
      have C2 := Lib.hid CS
      clear hc1 hx CS
      go_wp2_with fail
      refine C2.out.mono ?_
      rintro e1 w3 ⟨rfl, hb3⟩
      have C3 := Lib.hid (lay3 (H1.out.new hb3) ⟨#[105, 109, 112, 111, 114, 116, 32]⟩ ⟨(qT x).toArray⟩ ⟨#[10]⟩ (by
        have := HS.out
        have := HTL.out
        simp only [List.length_append, List.length_cons, List.length_nil, Array.length_toList, size_data, show (⟨#[105, 109, 112, 111, 114, 116, 32]⟩ : ByteArray).size = 7 from rfl, show (⟨#[10]⟩ : ByteArray).size = 1 from rfl, show (⟨(qT x).toArray⟩ : ByteArray).size = (qT x).length by simp [ByteArray.size]]
        omega))
      have GS3 := Lib.hid (Stp.new (b := b) hb3 H1.out.lo)
      clear hb3
      go_wp2_with fail
      refine C3.out.mono ?_
      rintro e1 w4 ⟨rfl, h1, h2⟩
      have G1 := Lib.hid h1
      have GA := Lib.hid (H2.out.trans (GS3.out.trans h2))
      have GB := Lib.hid (H3.out.trans (GS3.out.trans h2))
      clear h1 h2
      go_wp2_with fail
      go_roundw
      case rel =>
        refine ⟨k + 1, by omega, rfl, Lib.hid ?_, GA, GB⟩
        have := G1.out
        rw [HTK.out]
        simpa using this
      case measure => simp [intOf]; omega
    · obtain rfl : k = mi := by omega
      have h1 := H1.out
      rw [List.take_of_length_le (Nat.le_of_eq HMI.out)] at h1
      have K3 := Lib.hid h1
      have GH2 := Lib.hid (H3.out.keep _ _ _ (by decide) G4.out GH1.out)
      obtain ⟨z0, z1, z2⟩ := x3 GH2.out
      obtain ⟨wa, hwa⟩ : ∃ wa : World, wa = wr := ⟨_, rfl⟩
      subst hwa
      clear h1 H1 H3
      go_wp2_with fail
      go_loopw [30] (fun i wr => ∃ k : Nat, k ≤ mf ∧ i = .int .i64 k ∧ Hid (Wt wr w0.heap.size b 0 (l ++ ([112, 97, 99, 107, 97, 103, 101, 32] ++ (s.data.toList ++ [59, 10])) ++ TIm is ++ TFs (fs.take k))) ∧ Hid (Stp w0.heap.size b w wr)) (fun i _ => mf - (intOf i).toNat)
      case atStart => exact ⟨0, Nat.zero_le _, rfl, Lib.hid (by rw [List.take_zero, show TFs [] = [] from rfl, List.append_nil]; exact K3.out), H2⟩
      case round =>
        obtain ⟨k, hk, rfl, H1, H4⟩ := hrel
        by_cases hlt : k < mf
        · obtain ⟨x, hx⟩ : ∃ x, fs[k]? = some x := ⟨_, List.getElem?_eq_getElem (by rw [HMF.out]; exact hlt)⟩
          have HTK : Hid (TFs (fs.take (k + 1)) = TFs (fs.take k) ++ (TFn x ++ [10])) := Lib.hid (flat_take hx)
          have HTL : Hid ((TFs (fs.take k)).length + ((TFn x).length + 1) ≤ (TFs fs).length) := Lib.hid (by
            have := flat_len (g := fun f => TFn f ++ [10]) hx
            simp only [List.length_append, List.length_cons, List.length_nil] at this
            unfold TFs
            omega)
          obtain ⟨b1, o1, ha, hc1⟩ := HFR.out.at_ (HB.out.trans H4.out.below) hx
          subst ha
          obtain ⟨p0, p1, p2, p3⟩ := fnC_at hc1
          have CX := HFE.out x (List.mem_of_getElem? hx)
          obtain ⟨T0, S0, HN0, hne⟩ := H1.out.box #[.string x.s, .slice x.pa x.p.length x.pc, .int .u8 x.r, .slice x.ba x.b.length x.bc] 36
          obtain ⟨y0, y1, y2, y3⟩ := x4 HN0
          have C2 := CX _ _ T0 (HB.out.trans (H4.out.below.trans S0.below)) (by
            have := HS.out
            have := HTL.out
            simp only [List.length_append, List.length_cons, List.length_nil, Array.length_toList, size_data]
            omega)
          rw [fnV_eq] at C2
          have C2 := Lib.hid C2
          have GS := Lib.hid (H4.out.trans S0)
          clear hc1 hx CX T0 S0 HN0 hne
          go_wp2_with fail
          refine C2.out.mono ?_
          rintro e1 w3 ⟨rfl, h1, h2⟩
          have C3 := Lib.hid (lay1 h1 ⟨#[10]⟩ (by
            have := HS.out
            have := HTL.out
            simp only [List.length_append, List.length_cons, List.length_nil, Array.length_toList, size_data, show (⟨#[10]⟩ : ByteArray).size = 1 from rfl]
            omega))
          have GS3 := Lib.hid (GS.out.trans h2)
          clear h1 h2
          go_wp2_with fail
          refine C3.out.mono ?_
          rintro e1 w4 ⟨rfl, h1, h2⟩
          have G1 := Lib.hid h1
          have GA := Lib.hid (GS3.out.trans h2)
          clear h1 h2
          go_wp2_with fail
          go_roundw
          case rel =>
            refine ⟨k + 1, by omega, rfl, Lib.hid ?_, GA⟩
            have := G1.out
            rw [HTK.out]
            simpa using this
          case measure => simp [intOf]; omega
        · obtain rfl : k = mf := by omega
          have h1 := H1.out
          rw [List.take_of_length_le (Nat.le_of_eq HMF.out)] at h1
          have KE := Lib.hid h1
          clear h1
          go_wp2_with fail
          go_end0
          exact ⟨rfl, by simpa using KE.out, H4.out⟩
theorem file_any {w0 : World} (hG : Gd w0) (b : Nat) (f : Fl) (ho : ∀ g ∈ f.f, sizeB g.b + 1 ≤ 1000000) (hin : FlIn w0 f) (hok : OkL (coreL f)) (hlo : LoL (coreL f)) (w : World) (l : List UInt8) (h : Wt w w0.heap.size b 0 l) (hb : Below w0.heap.size w0 w) (hs : l.length + (TFl f).length ≤ room) :
    Calls Tryz.prog 24 #[pb b, flV f] w (Wrote w0.heap.size b 0 (l ++ TFl f) w) := by
  obtain ⟨_, _, _, his, hfs⟩ := hok
  unfold TFl at hs ⊢
  exact file_step hG f.s f.ia f.ic f.i f.fa f.fc f.f hin.irow hin.ilen (fun t ht => word_len (his _ (List.mem_map_of_mem ht))) hin.frow hin.flen (fun g hg => elF_any hG b g (ho g hg) (hin.fns g hg) (hfs _ (List.mem_map_of_mem hg)) (hlo _ (List.mem_map_of_mem hg))) w l h hb hs
end Go.Proofs.YtmihlmlojmdhjaaGreatDoor.Wr
/- How long a right file's text is, if the file has at most 100000 nodes: no longer than a builder may grow. No further condition. -/
namespace Go.Proofs.YtmihlmlojmdhjaaGreatDoor.Wr
open Go.RowKit Tre
open Lex (Ch textC textC_cons textC_app textC_nil chT)
open Prg (cw bl sg nm kw nu chX chS chP chF chL blockC opOf opS LoX OkX LoS OkS OkF LoF resC commasC partC textL OkL LoL OkP wordOk headK headC tx sizeT sumT sizeT_eq wtS sumS wtS_eq tabsC)
open Prs (nilT)
set_option maxRecDepth 100000
set_option linter.unusedSimpArgs false
def lenC (l : List Ch) : Nat := (textC l).length
theorem lenC_app (a r : List Ch) : lenC (a ++ r) = lenC a + lenC r := by unfold lenC; rw [textC_app, List.length_append]
theorem lenC_w (x : Lex.Wd) (r : List Ch) : lenC (cw x :: r) = (Lex.shown x).length + lenC r := by unfold lenC; rw [text_w, List.length_append]
theorem lenC_bl (r : List Ch) : lenC (bl :: r) = 1 + lenC r := by unfold lenC; rw [text_bl, List.length_cons]; omega
theorem lenC_nl (r : List Ch) : lenC (Ch.nl :: r) = 1 + lenC r := by unfold lenC; rw [text_nl, List.length_cons]; omega
theorem lenC_nil : lenC [] = 0 := rfl
theorem len_commas : ∀ (l : List (List Ch)), lenC (commasC l) ≤ (l.map fun c => lenC c + 2).sum
  | [] => by simp [commasC, lenC, textC]
  | [w] => by simp [commasC]
  | w :: v :: r => by
    have := len_commas (v :: r)
    rw [List.map_cons, List.sum_cons]
    show lenC (w ++ cw (sg [44]) :: bl :: commasC (v :: r)) ≤ _
    rw [lenC_app, lenC_w, lenC_bl, shown_sg]
    simp only [List.length_cons, List.length_nil]
    omega
theorem name_len {s : List UInt8} (h : Lex.nameOk s = true) : s.length ≤ 16 := by
  unfold Lex.nameOk at h
  simp only [Bool.and_eq_true, Bool.not_eq_true', decide_eq_false_iff_not] at h
  omega
theorem num_len {n : Int} (h0 : 0 ≤ n) (h1 : n ≤ 9223372036854775807) : (Lex.shown (nu n)).length ≤ 20 := by
  unfold Lex.shown
  rw [if_neg (by dsimp only; omega), if_neg (by dsimp only; omega), if_pos ⟨rfl, h0⟩]
  exact Num.itoa_len n (by omega) h1
theorem len_part (x : Tx) : lenC (partC x (chX x)) ≤ lenC (chX x) + 2 := by
  unfold partC
  split
  · rw [lenC_w, lenC_app, lenC_w, shown_sg, shown_sg, lenC_nil]
    simp only [List.length_cons, List.length_nil]
    omega
  · omega
theorem sum_le {α : Type} {f g : α → Nat} : ∀ {l : List α}, (∀ x ∈ l, f x ≤ g x) → (l.map f).sum ≤ (l.map g).sum
  | [], _ => by simp
  | x :: l, h => by
    have := sum_le (l := l) (fun y hy => h y (by simp [hy]))
    have := h x (by simp)
    simp only [List.map_cons, List.sum_cons]
    omega
theorem sum_mul {α : Type} {f : α → Nat} (k : Nat) : ∀ (l : List α), (l.map fun x => k * f x).sum = k * (l.map f).sum
  | [] => by simp
  | x :: l => by
    have := sum_mul (f := f) k l
    simp only [List.map_cons, List.sum_cons]
    rw [this, Nat.mul_add]
theorem lenX {e : Tx} (h : OkX e) (hl : LoX e) : lenC (chX e) + 5 ≤ 40 * sizeT e := by
  induction h with
  | num n h =>
    have h1 := (lo_part hl).1
    have := num_len h h1
    rw [sizeT_eq, chX]
    simp only [if_true]
    rw [lenC_w, lenC_nil]
    omega
  | truth n h =>
    rw [sizeT_eq, chX]
    simp only [show ¬ (2 : Int) = 1 by decide, if_false, if_true]
    rw [lenC_w, lenC_nil, shown_kw]
    split <;> simp only [List.length_cons, List.length_nil] <;> omega
  | name s h =>
    have := name_len h
    rw [sizeT_eq, chX]
    simp only [show ¬ (3 : Int) = 1 by decide, show ¬ (3 : Int) = 2 by decide, if_false, if_true]
    rw [lenC_w, lenC_nil, shown_nm]
    omega
  | call s q x h hq hlx hx ih =>
    have h1 := name_len h
    have h2 : lenC (headC s q) ≤ 33 := by
      unfold headC
      split
      · rw [lenC_w, lenC_nil, shown_nm]; omega
      · next hn =>
        have := name_len (hq.resolve_left hn)
        rw [lenC_w, lenC_w, lenC_w, lenC_nil, shown_nm, shown_nm, shown_sg]
        simp only [List.length_cons, List.length_nil]
        omega
    have hlo := (lo_part hl).2
    have h3 := len_commas (x.map chX)
    rw [List.map_map] at h3
    have h4 : (x.map ((fun c => lenC c + 2) ∘ chX)).sum ≤ (x.map fun y => 40 * sizeT y).sum := sum_le fun y hy => by
      have := ih y hy (hlo y hy)
      simp only [Function.comp]
      omega
    rw [sum_mul] at h4
    rw [Prg.chX_call, sizeT_eq, lenC_app, lenC_w, lenC_app, lenC_w, lenC_nil, shown_sg, shown_sg]
    unfold sumT
    simp only [List.length_cons, List.length_nil]
    omega
  | one op x h hx ih =>
    have h1 := ih ((lo_part hl).2 x (by simp))
    have h2 := len_part x
    rw [Prg.chX_one _ _ _ _ _ h, sizeT_eq, lenC_w, shown_sg, Prg.sumT_one]
    rcases h with rfl | rfl
    · simp only [if_true, List.length_cons, List.length_nil]; omega
    · simp only [show ¬ (6 : Int) = 5 by decide, if_false, List.length_cons, List.length_nil]; omega
  | two op x y h h2 hx hy ihx ihy =>
    have h3 := ihx ((lo_part hl).2 x (by simp))
    have h4 := ihy ((lo_part hl).2 y (by simp))
    have h5 := len_part x
    have h6 := len_part y
    have h7 := opS_len op
    rw [Prg.chX_two _ _ _ _ _ _ h, sizeT_eq, lenC_app, lenC_bl, lenC_w, lenC_bl, shown_sg, show sumT [x, y] = sizeT x + sizeT y by simp [sumT]]
    omega
theorem len_tabs (n : Nat) : lenC (tabsC n) = n := by unfold lenC; rw [text_tabs, List.length_replicate]
theorem len_rows (o : Nat) (f : Ts → Nat) : ∀ (b : List Ts), (∀ y ∈ b, o + lenC (chS o y) + 1 ≤ f y) → lenC ((b.map (chS o)).flatMap fun c => tabsC o ++ (c ++ [.nl])) ≤ (b.map f).sum
  | [], _ => by simp [lenC, textC]
  | y :: b, h => by
    have h1 := len_rows o f b (fun z hz => h z (by simp [hz]))
    have h2 := h y (by simp)
    simp only [List.map_cons, List.flatMap_cons, List.sum_cons]
    rw [lenC_app, lenC_app, lenC_app, len_tabs, lenC_nl, lenC_nil]
    omega
theorem len_block (o : Nat) (f : Ts → Nat) (b : List Ts) (h : ∀ y ∈ b, o + 1 + lenC (chS (o + 1) y) + 1 ≤ f y) : lenC (blockC o (b.map (chS (o + 1)))) ≤ (b.map f).sum + o + 3 := by
  have := len_rows (o + 1) f b h
  unfold blockC
  rw [lenC_w, lenC_nl, lenC_app, lenC_app, len_tabs, lenC_w, lenC_nil, shown_sg, shown_sg]
  simp only [List.length_cons, List.length_nil]
  omega
theorem mul4 (a b c k : Nat) : (1 + a + b + c) * k = k + a * k + b * k + c * k := by simp [Nat.add_mul]
theorem lenS (M : Nat) : ∀ (m : Nat) (y : Ts) (o : Nat), wtS y ≤ m → o + wtS y ≤ M → OkS y → LoS y → lenC (chS o y) + M + 2 ≤ wtS y * (100 + 3 * M) := fun m => by
  induction m with
  | zero => intro y o hm; obtain ⟨op, s, e, b, b2⟩ := y; rw [wtS_eq] at hm; omega
  | succ m ih =>
    intro y o hm hM hok hlo
    have hblk : ∀ (b : List Ts), sumS b ≤ m → o + 1 + sumS b ≤ M → (∀ y ∈ b, OkS y) → (∀ y ∈ b, LoS y) → lenC (blockC o (b.map (chS (o + 1)))) ≤ sumS b * (100 + 3 * M) + o + 3 := fun b h1 h2 h3 h4 => by
      have := len_block o (fun y => (100 + 3 * M) * wtS y) b (fun y hy => by
        have hle := Prg.le_sumS hy
        have := ih y (o + 1) (by omega) (by omega) (h3 y hy) (h4 y hy)
        rw [Nat.mul_comm]
        omega)
      rw [sum_mul] at this
      unfold sumS
      rw [Nat.mul_comm]
      exact this
    obtain ⟨op, s, e, b, b2⟩ := y
    obtain ⟨hle, hlb, hlb2⟩ := los_part hlo
    rw [wtS_eq] at hm hM ⊢
    rw [mul4]
    have hE : OkX e → lenC (chX e) + 5 ≤ sizeT e * (100 + 3 * M) := fun h => by
      have h1 := lenX h (hle h)
      have h2 : 40 * sizeT e ≤ sizeT e * (100 + 3 * M) := by rw [Nat.mul_comm]; exact Nat.mul_le_mul_left _ (by omega)
      omega
    have hb1 := hblk b (by omega) (by omega)
    have hb2 := hblk b2 (by omega) (by omega)
    generalize hp0 : sizeT e * (100 + 3 * M) = p0 at *
    generalize hp1 : sumS b * (100 + 3 * M) = p1 at *
    generalize hp2 : sumS b2 * (100 + 3 * M) = p2 at *
    cases hok with
    | def_ _ _ h0 he =>
      have := hE he
      have := name_len h0
      rw [Prg.chS_def, lenC_w, lenC_bl, lenC_w, lenC_bl, shown_nm, shown_sg]
      simp only [List.length_cons, List.length_nil]
      omega
    | set_ _ _ h0 he =>
      have := hE he
      have := name_len h0
      rw [Prg.chS_set, lenC_w, lenC_bl, lenC_w, lenC_bl, shown_nm, shown_sg]
      simp only [List.length_cons, List.length_nil]
      omega
    | if_ _ _ _ he h1 h2 =>
      have := hE he
      have := hb1 h1 hlb
      have := hb2 h2 hlb2
      rw [Prg.chS_if, lenC_w, lenC_bl, lenC_app, lenC_bl, lenC_app, shown_kw]
      split
      · rw [lenC_nil, show Prs.wIf.length = 2 from rfl]
        omega
      · rw [lenC_bl, lenC_w, lenC_bl, shown_kw, show Prs.wIf.length = 2 from rfl, show Prs.wElse.length = 4 from rfl]
        omega
    | for_ _ _ he h1 =>
      have := hE he
      have := hb1 h1 hlb
      rw [Prg.chS_for, lenC_w, lenC_bl, lenC_app, lenC_bl, shown_kw, show Prs.wFor.length = 3 from rfl]
      omega
    | ret _ he =>
      have := hE he
      rw [Prg.chS_ret]
      split
      · rw [lenC_w, lenC_nil, shown_kw, show Prs.wReturn.length = 6 from rfl]
        omega
      · rw [lenC_w, lenC_bl, shown_kw, show Prs.wReturn.length = 6 from rfl]
        omega
    | retn =>
      rw [Prg.chS_ret, if_pos (show opOf nilT = 0 from rfl), lenC_w, lenC_nil, shown_kw, show Prs.wReturn.length = 6 from rfl]
      omega
    | print _ he =>
      have := hE he
      rw [Prg.chS_prt, lenC_w, lenC_w, lenC_app, lenC_w, lenC_nil, shown_kw, shown_sg, shown_sg, show Prs.wPrint.length = 5 from rfl]
      simp only [List.length_cons, List.length_nil]
      omega
    | call _ _ _ he =>
      have := hE he
      rw [Prg.chS_call]
      omega
    | brk =>
      rw [Prg.chS_brk, lenC_w, lenC_nil, shown_kw, show Prs.wBreak.length = 5 from rfl]
      omega
    | nxt =>
      rw [Prg.chS_nxt, lenC_w, lenC_nil, shown_kw, show Prs.wNext.length = 8 from rfl]
      omega
/-- A block at the top, of at most 200000 statements and expressions. -/
theorem lenB (b : List Ts) (h : sumS b ≤ 200000) (h1 : ∀ y ∈ b, OkS y) (h2 : ∀ y ∈ b, LoS y) : lenC (blockC 0 (b.map (chS 1))) ≤ 200000 * 700000 + 3 := by
  have := len_block 0 (fun y => (100 + 3 * 200001) * wtS y) b (fun y hy => by
    have hle := Prg.le_sumS hy
    have := lenS 200001 _ y 1 (Nat.le_refl _) (by omega) (h1 y hy) (h2 y hy)
    show 0 + 1 + lenC (chS 1 y) + 1 ≤ _
    rw [Nat.mul_comm]
    omega)
  rw [sum_mul] at this
  simp only [Nat.zero_add] at this
  unfold sumS at h
  have h3 : (100 + 3 * 200001) * (b.map wtS).sum ≤ (100 + 3 * 200001) * 200000 := Nat.mul_le_mul_left _ h
  omega
theorem len_type (t : Int) : lenC (Prg.typeC t) ≤ 4 := by
  unfold Prg.typeC
  split
  · rw [lenC_w, lenC_nil, shown_kw]; decide
  split
  · rw [lenC_w, lenC_nil, shown_kw]; decide
  · simp [lenC, textC]
theorem lenF (f : Tf) (h : sumS f.b ≤ 200000) (hok : OkF f) (hlo : LoF f) : lenC (chF f) ≤ 200000 * 700000 + 200 := by
  obtain ⟨h1, h2, h3, h4, h5⟩ := hok
  have hb := lenB f.b h h5 hlo
  have hn := name_len h1
  have hp := len_commas (f.p.map chP)
  rw [List.map_map] at hp
  have hp2 : (f.p.map ((fun c => lenC c + 2) ∘ chP)).sum ≤ (f.p.map fun _ => 23).sum := sum_le fun p hp => by
    have := name_len (h3 p hp).1
    have := len_type p.t
    simp only [Function.comp]
    unfold chP
    rw [lenC_w, lenC_bl, shown_nm]
    omega
  have hp3 : (f.p.map fun _ => 23).sum = 23 * f.p.length := by rw [List.map_const', List.sum_replicate_nat, Nat.mul_comm]
  have hr : lenC (resC f.r) ≤ 5 := by
    unfold resC
    split
    · simp [lenC, textC]
    · have := len_type f.r
      rw [lenC_app, lenC_bl, lenC_nil]
      omega
  unfold chF
  rw [lenC_w, lenC_w, lenC_app, lenC_w, lenC_bl, lenC_app, shown_nm, shown_sg, shown_sg]
  simp only [List.length_cons, List.length_nil]
  omega
theorem wlen {s : List UInt8} (h : wordOk s) : s.length ≤ 16 := by
  rcases h with h | h
  · exact name_len h
  · have hm : s ∈ Lex.keysL := by simpa [Lex.keyB] using h
    exact (by decide : ∀ s ∈ Lex.keysL, s.length ≤ 16) s hm
theorem len_flat {α : Type} {g : α → List Ch} {k : Nat} : ∀ {l : List α}, (∀ x ∈ l, lenC (g x) ≤ k) → lenC (l.flatMap g) ≤ k * l.length
  | [], _ => by simp [lenC, textC]
  | x :: l, h => by
    have h1 := len_flat (l := l) (fun y hy => h y (by simp [hy]))
    have h2 := h x (by simp)
    rw [List.flatMap_cons, lenC_app, List.length_cons, Nat.mul_add]
    omega
theorem lenL (f : Tl) (h : ∀ g ∈ f.f, sumS g.b ≤ 200000) (hok : OkL f) (hlo : LoL f) : (textL f).length ≤ room := by
  obtain ⟨h1, h2, h3, h4, h5⟩ := hok
  have a1 := wlen h1
  have a2 : lenC (f.i.flatMap fun s => [cw (kw Prs.wImport), bl, cw (tx s), .nl]) ≤ 30 * f.i.length := len_flat fun s hs => by
    have := wlen (h4 s hs)
    rw [lenC_w, lenC_bl, lenC_w, lenC_nl, lenC_nil, shown_kw, show Prs.wImport.length = 6 from rfl, show Lex.shown (tx s) = [34] ++ s ++ [34] from rfl]
    simp only [List.length_append, List.length_cons, List.length_nil]
    omega
  have a3 : lenC (f.f.flatMap fun g => cw (kw Prs.wFunc) :: bl :: (chF g ++ [.nl])) ≤ (200000 * 700000 + 300) * f.f.length := len_flat fun g hg => by
    have := lenF g (h g hg) (h5 g hg) (hlo g hg)
    rw [lenC_w, lenC_bl, lenC_app, lenC_nl, lenC_nil, shown_kw, show Prs.wFunc.length = 4 from rfl]
    omega
  have a4 : (200000 * 700000 + 300) * f.f.length ≤ (200000 * 700000 + 300) * 32 := Nat.mul_le_mul_left _ h3
  have a5 : Lex.shown (headK f.s) = f.s := by
    unfold headK Lex.shown
    rw [if_pos (by simp only; split <;> simp)]
  show lenC (chL f) ≤ room
  unfold chL room
  rw [lenC_w, lenC_bl, lenC_w, lenC_w, lenC_nl, lenC_app, shown_kw, shown_sg, a5, show Prs.wPackage.length = 7 from rfl]
  simp only [List.length_cons, List.length_nil]
  omega
/-- Statements and expressions by nodes. -/
theorem nodesS_ge (s : St) : 1 + sizeT (core s.e) ≤ 2 * (nodesS givenB s).length := by
  unfold nodesS
  rw [Prg.size_core]
  split
  · unfold size; simp; omega
  · next h =>
    have hz : zeroX s.e = true := by unfold givenB at h; simpa using h
    have : s.e.x = [] := by
      unfold zeroX at hz
      simp only [Bool.and_eq_true, beq_iff_eq] at hz
      exact List.length_eq_zero_iff.1 hz.2
    have e1 : size s.e = 1 := by rw [size_eq, this]; rfl
    rw [e1]
    simp
theorem nodesB_ge : ∀ (m : Nat) (l : List St), sizeB l ≤ m → sumS (l.map coreS) ≤ 2 * ((flatB l).flatMap (nodesS givenB)).length
  | _, [], _ => by simp [flatB, sumS]
  | 0, s :: l, h => by rw [sizeB_cons, sizeS_eq] at h; omega
  | m + 1, s :: l, h => by
    rw [sizeB_cons, sizeS_eq] at h
    have h1 := nodesB_ge m s.b (by omega)
    have h2 := nodesB_ge m s.b2 (by omega)
    have h3 := nodesB_ge m l (by omega)
    have h4 := nodesS_ge s
    have h5 : sumS ((s :: l).map coreS) = wtS (coreS s) + sumS (l.map coreS) := by simp [sumS]
    rw [h5, coreS_eq, wtS_eq, flatB_cons, flatS_eq, List.flatMap_append, List.flatMap_cons, List.flatMap_append, List.length_append, List.length_append, List.length_append]
    omega
theorem flat_mem_le {α β : Type} {g : α → List β} {x : α} : ∀ {l : List α}, x ∈ l → (g x).length ≤ (l.flatMap g).length
  | [], h => by simp at h
  | y :: l, h => by
    rw [List.flatMap_cons, List.length_append]
    rcases List.mem_cons.1 h with rfl | h
    · omega
    · have := flat_mem_le (g := g) h
      omega
theorem len_ge {α β : Type} {g : α → List β} (h : ∀ x, 1 ≤ (g x).length) : ∀ (l : List α), l.length ≤ (l.flatMap g).length
  | [] => by simp
  | y :: l => by
    have := len_ge h l
    have := h y
    rw [List.flatMap_cons, List.length_append, List.length_cons]
    omega
theorem small_of {f : Fl} (h : (nodes givenB f.f).length ≤ 100000) : ∀ g ∈ f.f, sumS (g.b.map coreS) ≤ 200000 ∧ sizeB g.b + 1 ≤ 1000000 := fun g hg => by
  have h1 : (nodesF givenB g).length ≤ (nodes givenB f.f).length := flat_mem_le hg
  have h2 : (nodesF givenB g).length = ((flatB g.b).flatMap (nodesS givenB)).length + 1 := rfl
  have h3 := nodesB_ge _ g.b (Nat.le_refl _)
  have h4 : sizeB g.b ≤ ((flatB g.b).flatMap (nodesS givenB)).length := len_ge (fun x => by unfold nodesS; simp) (flatB g.b)
  omega
theorem text_room {f : Fl} (h : (nodes givenB f.f).length ≤ 100000) (hok : OkL (coreL f)) (hlo : LoL (coreL f)) : (textL (coreL f)).length ≤ room :=
  lenL _ (fun g hg => by
    obtain ⟨k, hk, rfl⟩ := List.mem_map.1 hg
    exact (small_of h k hk).1) hok hlo
end Go.Proofs.YtmihlmlojmdhjaaGreatDoor.Wr
/- The program's print.File: the text of a right file, and true; else no text, and false. Conditions: the file lies in memory, its numbers are an int64's; the tables of signs and of powers lie as the program lays them. -/
namespace Go.Proofs.YtmihlmlojmdhjaaGreatDoor.Wr
open Go.RowKit Tre
open Prg (textL OkL LoL)
set_option maxRecDepth 100000
theorem Wt.start {w : World} {lo : Nat} (h : lo ≤ w.heap.size) : Wt (w.alloc (.cells #[.pointer none, .slice none 0 0, .int .i64 0] 66)) lo w.heap.size 0 [] :=
  ⟨h, .pointer none, .slice none 0 0, .inl rfl, new_at w _ _, World.ownsRow_nil _ _ _ _⟩
/-- What print.File answers. -/
def Printed (t : List UInt8) (ok : Bool) (w : World) (e : Ending) (w' : World) : Prop := e = .returned (.tuple #[.string ⟨t.toArray⟩, .bool ok]) ∧ Below w.heap.size w w'
theorem TFl_ne (f : Fl) : TFl f ≠ [] := by unfold TFl; simp
set_option maxHeartbeats 8000000 in
theorem printFile_no (f : Fl) (w : World) (hf : FlIn w f) (h : (decide ((nodes givenB f.f).length ≤ 100000) && rFile f) = false) : Calls Tryz.prog 11 #[flV f] w (Printed [] false w) := by
  obtain ⟨W0, hW0⟩ : ∃ W0, w.alloc (.cells #[.string f.s, .slice f.ia f.i.length f.ic, .slice f.fa f.f.length f.fc] 25) = W0 := ⟨_, rfl⟩
  have HB0 : Hid (Below w.heap.size w W0) := Lib.hid (hW0 ▸ (Below.refl _ w).alloc (Nat.le_refl _) _)
  have HN0 : Hid (W0.heap[w.heap.size]? = some (.cells #[.string f.s, .slice f.ia f.i.length f.ic, .slice f.fa f.f.length f.fc] 25 (0, 0))) := Lib.hid (hW0 ▸ new_at w _ _)
  have CR := Lib.hid (right_any f W0 (hf.below HB0.out))
  rw [h] at CR
  rw [flV_eq] at CR ⊢
  obtain ⟨z0, z1, z2⟩ := x3 HN0.out
  clear hf h
  go_enter Tryz.func11, Tryz.ntmps11
  go_wp2_with fail
  refine CR.out.mono ?_
  rintro e1 w1 ⟨rfl, hb1⟩
  have HB1 := Lib.hid (HB0.out.trans (hb1.mono HB0.out.size))
  clear hb1
  go_wp2_with fail
  go_ret2
  exact ⟨rfl, HB1.out⟩
set_option maxHeartbeats 8000000 in
theorem printFile_yes (f : Fl) (w : World) (hf : FlIn w f) (hG : Gd w) (hlo : LoL (coreL f)) (hn : (nodes givenB f.f).length ≤ 100000) (hr : rFile f = true) : Calls Tryz.prog 11 #[flV f] w (Printed (textL (coreL f)) true w) := by
  rw [text_file]
  have hroom := text_room hn (Prg.file_back hr) hlo
  rw [text_file] at hroom
  obtain ⟨W0, hW0⟩ : ∃ W0, w.alloc (.cells #[.string f.s, .slice f.ia f.i.length f.ic, .slice f.fa f.f.length f.fc] 25) = W0 := ⟨_, rfl⟩
  have HB0 : Hid (Below w.heap.size w W0) := Lib.hid (hW0 ▸ (Below.refl _ w).alloc (Nat.le_refl _) _)
  have HN0 : Hid (W0.heap[w.heap.size]? = some (.cells #[.string f.s, .slice f.ia f.i.length f.ic, .slice f.fa f.f.length f.fc] 25 (0, 0))) := Lib.hid (hW0 ▸ new_at w _ _)
  have CR := Lib.hid (right_any f W0 (hf.below HB0.out))
  rw [hr, decide_eq_true hn] at CR
  have CF := Lib.hid (fun (b : Nat) (u : World) (h : Wt u w.heap.size b 0 []) (hb : Below w.heap.size w u) => file_any hG b f (fun g hg => (small_of hn g hg).2) hf (Prg.file_back hr) hlo u [] h hb (by simpa using hroom))
  have HNE := Lib.hid (TFl_ne f)
  rw [flV_eq] at CR CF ⊢
  generalize TFl f = t at *
  obtain ⟨z0, z1, z2⟩ := x3 HN0.out
  clear hf hG hlo hn hr hroom
  go_enter Tryz.func11, Tryz.ntmps11
  go_wp2_with fail
  refine CR.out.mono ?_
  rintro e1 w1 ⟨rfl, hb1⟩
  have HB1 := Lib.hid (HB0.out.trans (hb1.mono HB0.out.size))
  have HN1 := Lib.hid ((hb1.block _ (lt_of_heap HN0.out)).trans HN0.out)
  have HW := Lib.hid (Wt.start HB1.out.size)
  have HBA : Hid (Below w.heap.size w (w1.alloc (.cells #[.pointer none, .slice none 0 0, .int .i64 0] 66))) := Lib.hid (HB1.out.alloc HB1.out.size _)
  have HNA : Hid ((w1.alloc (.cells #[.pointer none, .slice none 0 0, .int .i64 0] 66)).heap[w.heap.size]? = some (.cells #[.string f.s, .slice f.ia f.i.length f.ic, .slice f.fa f.f.length f.fc] 25 (0, 0))) := Lib.hid ((Below.heap_alloc _ _ _ (lt_of_heap HN1.out)).trans HN1.out)
  obtain ⟨y0, y1, y2⟩ := x3 HNA.out
  have CF1 := Lib.hid (CF.out _ _ HW.out HBA.out)
  have hlt : w.heap.size < w1.heap.size := lt_of_heap HN1.out
  have HLT := Lib.hid hlt
  clear hb1 hlt z0 z1 z2
  obtain ⟨W2, hW2⟩ : ∃ W2, w1.alloc (.cells #[.pointer none, .slice none 0 0, .int .i64 0] 66) = W2 := ⟨_, rfl⟩
  rw [hW2] at y0 y1 y2 CF1 HBA
  go_wp2_with fail
  refine CF1.out.mono ?_
  rintro e1 w3 ⟨rfl, h1, h2⟩
  have CS := Lib.hid (string_any h1 (by simpa using HNE.out))
  have HB3 := Lib.hid (HBA.out.trans h2.below)
  clear h1 h2
  go_wp2_with fail
  refine CS.out.mono ?_
  rintro e1 w4 ⟨rfl, hb4⟩
  have HB4 := Lib.hid (HB3.out.trans hb4)
  clear hb4
  go_wp2_with fail
  go_ret2
  exact ⟨by simp, HB4.out⟩
end Go.Proofs.YtmihlmlojmdhjaaGreatDoor.Wr
/- The program's File, Expr, Header. Conditions: the tables lie as the program's text lays them. -/
namespace Go.Proofs.YtmihlmlojmdhjaaGreatDoor.Prg
open Go.RowKit Tre Prs
open Lex (Wd wdC wdV bs str Turn)
set_option maxRecDepth 100000
set_option linter.unusedSimpArgs false
variable {lo : Nat}
theorem fileb_any (w : World) (g : Nat) (r : PS) (h : InG lo w g r) : Calls Tryz.prog 36 #[.pointer (some ⟨g, 0, none⟩)] w (EvGW lo w g (fileD r)) :=
  (file_any w g r h).mono fun _ _ ⟨f, r', h1, h2, h3⟩ => ⟨f, r', h1, h2.w, h3⟩
set_option maxHeartbeats 4000000 in
theorem parseFile_any (t : List UInt8) (w : World) (hT : Tabs w) : Calls Tryz.prog 17 #[.string (bs t)] w (TellF t w) := by
  have HB := Lib.hid (ball_new w #[.string ⟨#[]⟩, .slice none 0 0, .slice none 0 0] 25)
  have HN := Lib.hid (new_at w #[.string ⟨#[]⟩, .slice none 0 0, .slice none 0 0] 25)
  have CW := Lib.hid (wholeFile_any t _ (hT.below HB.out) (fun lo w' g r h => Lib.hid (fileb_any w' g r h)))
  clear hT
  generalize bs t = TX at *
  go_enter Tryz.func17, Tryz.ntmps17
  go_wp2_with fail
  refine CW.out.mono ?_
  rintro e w1 ⟨x, rfl, hc, hin, hnn, hb⟩
  unfold flV
  have HC := Lib.hid hc
  have HI := Lib.hid hin
  have HNN := Lib.hid hnn
  have T1 : Hid (Turn [] w w1) := Lib.hid (((Turn.refl [] w).below HB.out).below hb)
  have HR := Lib.hid ((hb.block _ (lt_of_heap HN.out)).trans HN.out)
  clear hc hin hnn hb CW
  obtain ⟨y0, y1, y2⟩ := three_at HR.out
  have f0 := free_at HR.out 0
  have f1 := free_at HR.out 1
  have f2 := free_at HR.out 2
  go_wp2_with fail
  have HT := Lib.hid (turn3 w1 w.heap.size (.string x.s) (.slice x.ia x.i.length x.ic) (.slice x.fa x.f.length x.fc))
  refine bodyPost_ret (results_fl2 rfl _ _ w.heap.size _ _ _ _ rfl rfl (set3 HR.out)) rfl ?_
  have hin := HI.out
  have hnn : NewFl (w.heap.size + 1) x := NewFl.mono HNN.out (by simp)
  exact ⟨x, by rfl, HC.out, FlIn.off hin hnn (fun k hk => by simp at hk; omega) HT.out, NewFl.mono hnn (by omega), (T1.out.then_ HT.out (fun k hk => by simp at hk; subst hk; exact .inr (Nat.le_refl _))).low (by simp) (Nat.le_refl _)⟩
end Go.Proofs.YtmihlmlojmdhjaaGreatDoor.Prg
