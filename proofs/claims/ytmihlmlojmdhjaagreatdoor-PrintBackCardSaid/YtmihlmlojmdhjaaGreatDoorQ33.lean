/-
  The program's list: parameters in brackets, a comma and a blank between each two. Conditions: they lie in memory below the writer; sizes.
-/
import Derived.Test.YtmihlmlojmdhjaaGreatDoorQ08
import Derived.Test.YtmihlmlojmdhjaaGreatDoorQ31
import Derived.Test.YtmihlmlojmdhjaaGreatDoorQ32
namespace Go.Proofs.YtmihlmlojmdhjaaGreatDoor.Wr
open Go.RowKit Tre
open Lex (Ch textC textC_cons textC_app textC_nil chT)
open Prg (cw bl sg nm kw nu chX chP partC commasC opOf opS)
set_option maxRecDepth 100000
def TPar (p : Par) : List UInt8 := textC (chP (coreP p))
/-- What the writer writes of a parameter. -/
def ElPar (w0 : World) (b : Nat) (n : Int) (p : Par) : Prop :=
  ∀ (w : World) (l : List UInt8), Wt w w0.heap.size b n l → Below w0.heap.size w0 w → l.length + (TPar p).length ≤ room → Calls Tryz.prog 94 #[pb b, parV p] w (Wrote w0.heap.size b n (l ++ TPar p) w)
theorem parV_eq (p : Par) : parV p = .agg #[.string p.s, .int .u8 p.t] := rfl
theorem parC_cells {p : Par} {w : World} {b o : Nat} (h : ∀ (r : Nat) (u : Value), (parC p)[r]? = some u → w.cell? ⟨b, o + r, none⟩ = some u) : w.cell? ⟨b, o, none⟩ = some (.string p.s) ∧ w.cell? ⟨b, o + 1, none⟩ = some (.int .u8 p.t) := ⟨h 0 _ rfl, h 1 _ rfl⟩
def TCPar (xs : List Par) : List UInt8 := textC (commasC (xs.map fun x => chP (coreP x)))
def TLPar (xs : List Par) : List UInt8 := [40] ++ (TCPar xs ++ [41])
theorem TCPar_take {xs : List Par} {k : Nat} {x : Par} (h : xs[k]? = some x) : (k = 0 → TCPar (xs.take 1) = TCPar (xs.take 0) ++ TPar x) ∧ (0 < k → TCPar (xs.take (k + 1)) = TCPar (xs.take k) ++ ([44, 32] ++ TPar x)) := by
  constructor
  · rintro rfl
    cases xs with
    | nil => simp at h
    | cons y r =>
      obtain rfl : y = x := by simpa using h
      rfl
  · intro hk
    unfold TCPar
    rw [List.take_add_one, h, List.map_append]
    have hne : (xs.take k).map (fun x => chP (coreP x)) ≠ [] := fun e => by
      have h2 : k < xs.length := (List.getElem?_eq_some_iff.1 h).1
      have := congrArg List.length e
      simp only [List.length_map, List.length_take, List.length_nil] at this
      omega
    rw [show (some x).toList.map (fun x => chP (coreP x)) = [chP (coreP x)] from rfl, commas_snoc hne, textC_app, text_w, text_bl, shown_sg]
    rfl
theorem TCPar_len {xs : List Par} {k : Nat} {x : Par} (h : xs[k]? = some x) : (TCPar (xs.take k)).length + (TPar x).length + (if k = 0 then 0 else 2) ≤ (TCPar xs).length ∧ (0 < k → (TCPar (xs.take k)).length + 2 + (TPar x).length ≤ (TCPar xs).length) := by
  have e : TCPar xs = TCPar (xs.take (k + 1) ++ xs.drop (k + 1)) := by rw [List.take_append_drop]
  have h2 : (TCPar (xs.take (k + 1))).length ≤ (TCPar xs).length := by
    rw [e]
    unfold TCPar
    rw [List.map_append]
    exact commas_le _ _
  have ht := TCPar_take h
  rcases Nat.eq_zero_or_pos k with rfl | hk
  · rw [ht.1 rfl, List.length_append] at h2
    exact ⟨by simp only [if_true]; omega, fun h => by omega⟩
  · have := ht.2 hk
    rw [this] at h2
    simp only [List.length_append, List.length_cons, List.length_nil] at h2
    exact ⟨by rw [if_neg (by omega)]; omega, fun _ => by omega⟩
set_option maxHeartbeats 8000000 in
theorem listPar_any {w0 : World} {b : Nat} {n : Int} (xs : List Par) (A : Option Addr) (c : Nat) (hrow : Row 2 parC w0 A xs) (hl : xs.length ≤ most) (HE : ∀ x ∈ xs, ElPar w0 b n x) {w : World} {l : List UInt8} (h : Wt w w0.heap.size b n l) (hb : Below w0.heap.size w0 w) (hs : l.length + (TLPar xs).length ≤ room) :
    Calls Tryz.prog 93 #[pb b, .slice A xs.length c, .func (.func 94) #[pb b] #[]] w (Wrote w0.heap.size b n (l ++ TLPar xs) w) := by
  unfold most at hl
  unfold ElPar at HE
  have hTL : TLPar xs = [40] ++ (TCPar xs ++ [41]) := rfl
  rw [hTL] at hs ⊢
  have HS : Hid (l.length + (TCPar xs).length + 2 ≤ room) := Lib.hid (by simp only [List.length_append, List.length_cons, List.length_nil] at hs; omega)
  have HROW := Lib.hid hrow
  have HEL := Lib.hid HE
  have HB := Lib.hid hb
  have HLO := Lib.hid h.lo
  have C1 := Lib.hid (lay1 h ⟨#[40]⟩ (by have := HS.out; rw [show (⟨#[40]⟩ : ByteArray).size = 1 from rfl]; omega))
  obtain ⟨m, hm⟩ : ∃ m, xs.length = m := ⟨_, rfl⟩
  rw [hm] at hl ⊢
  have HM := Lib.hid hm
  clear hrow HE h hb hs hm hTL
  go_enter Tryz.func93, Tryz.ntmps93
  go_wp2_with fail
  refine C1.out.mono ?_
  rintro e1 w1 ⟨rfl, h1, h2⟩
  have K1 := Lib.hid h1
  have K2 := Lib.hid h2
  clear h1 h2
  go_wp2_with fail
  go_loopw [13] (fun i wr => ∃ k : Nat, k ≤ m ∧ i = .int .i64 k ∧ Hid (Wt wr w0.heap.size b n (l ++ [40] ++ TCPar (xs.take k))) ∧ Hid (Stp w0.heap.size b w wr)) (fun i _ => m - (intOf i).toNat)
  case atStart => exact ⟨0, Nat.zero_le _, rfl, Lib.hid (by rw [List.take_zero, show TCPar [] = [] from rfl, List.append_nil]; exact K1.out), K2⟩
  case round =>
    obtain ⟨k, hk, rfl, H1, H2⟩ := hrel
    by_cases hlt : k < m
    · obtain ⟨x, hx⟩ : ∃ x, xs[k]? = some x := ⟨_, List.getElem?_eq_getElem (by rw [HM.out]; exact hlt)⟩
      have HTK := Lib.hid (TCPar_take hx)
      have HTL := Lib.hid (TCPar_len hx)
      obtain ⟨b1, o1, ha, hc1⟩ := HROW.out.at_ (HB.out.trans H2.out.below) hx
      subst ha
      obtain ⟨p0, p1⟩ := parC_cells hc1
      have CX := Lib.hid (HEL.out x (List.mem_of_getElem? hx))
      have HX := Lib.hid hx
      obtain ⟨T0, S0, HN0, hne⟩ := H1.out.box #[.string x.s, .int .u8 x.t] 38
      have GN := Lib.hid hne
      clear hc1 hx hne
      rcases Nat.eq_zero_or_pos k with hk0 | hk0
      · have hkz : ¬ 0 < k := by omega
        have HK0 := Lib.hid hk0
        have C2 := Lib.hid (CX.out _ _ T0 (HB.out.trans (H2.out.below.trans S0.below)) (by
          have := HS.out
          have := HTL.out
          rw [List.length_append, List.length_append, List.length_cons, List.length_nil]
          omega))
        rw [parV_eq] at C2
        obtain ⟨z0, z1⟩ : _ ∧ _ := ⟨cell_at HN0 0, cell_at HN0 1⟩
        have GS := Lib.hid (H2.out.trans S0)
        clear T0 S0 HN0 hk0
        go_wp2_with fail
        refine C2.out.mono ?_
        rintro e1 w3 ⟨rfl, h1, h2⟩
        have G1 := Lib.hid h1
        have G2 := Lib.hid (GS.out.trans h2)
        clear h1 h2
        go_wp2_with fail
        go_roundw
        case rel =>
          refine ⟨k + 1, by omega, rfl, Lib.hid ?_, G2⟩
          have := G1.out
          have hk0 := HK0.out
          subst hk0
          rw [List.append_assoc, ← HTK.out.1 rfl] at this
          exact this
        case measure => simp [intOf]; omega
      · have C2 := Lib.hid (lay1 T0 ⟨#[44, 32]⟩ (by
          have := HS.out
          have := HTL.out
          rw [show (⟨#[44, 32]⟩ : ByteArray).size = 2 from rfl, List.length_append, List.length_append, List.length_cons, List.length_nil]
          omega))
        have hkz : 0 < k := hk0
        rw [World.size_alloc] at C2
        have HK0 := Lib.hid hk0
        have GH := Lib.hid HN0
        have GS := Lib.hid (H2.out.trans S0)
        clear T0 S0 HN0 hk0
        go_wp2_with fail
        refine C2.out.mono ?_
        rintro e1 w3 ⟨rfl, h1, h2⟩
        have HN3 := h2.keep _ _ _ (by decide) GN.out GH.out
        obtain ⟨z0, z1⟩ : _ ∧ _ := ⟨cell_at HN3 0, cell_at HN3 1⟩
        have C3 := Lib.hid (CX.out _ _ h1 (HB.out.trans (GS.out.below.trans h2.below)) (by
          have := HS.out
          have := HTL.out
          rw [List.length_append, List.length_append, List.length_append, List.length_cons, List.length_nil, show (⟨#[44, 32]⟩ : ByteArray).data.toList.length = 2 from rfl]
          omega))
        rw [parV_eq] at C3
        have GS3 := Lib.hid (GS.out.trans h2)
        clear h1 h2 HN3
        go_wp2_with fail
        refine C3.out.mono ?_
        rintro e1 w4 ⟨rfl, h1, h2⟩
        have G1 := Lib.hid h1
        have G2 := Lib.hid (GS3.out.trans h2)
        clear h1 h2
        go_wp2_with fail
        go_roundw
        case rel =>
          refine ⟨k + 1, by omega, rfl, Lib.hid ?_, G2⟩
          have := G1.out
          rw [HTK.out.2 HK0.out]
          simpa using this
        case measure => simp [intOf]; omega
    · obtain rfl : k = m := by omega
      have h1 := H1.out
      rw [List.take_of_length_le (Nat.le_of_eq HM.out)] at h1
      have C2 := Lib.hid (lay1 h1 ⟨#[41]⟩ (by
        have := HS.out
        rw [show (⟨#[41]⟩ : ByteArray).size = 1 from rfl, List.length_append, List.length_append, List.length_cons, List.length_nil]
        omega))
      clear h1
      go_wp2_with fail
      refine C2.out.mono ?_
      rintro e1 w3 ⟨rfl, h1, h2⟩
      have G1 := Lib.hid h1
      have G2 := Lib.hid (H2.out.trans h2)
      clear h1 h2
      go_wp2_with fail
      go_end0
      exact ⟨rfl, by simpa using G1.out, G2.out⟩
end Go.Proofs.YtmihlmlojmdhjaaGreatDoor.Wr
/- The program's writer writes types and parameters; how many blocks are open. Conditions: sizes. -/
namespace Go.Proofs.YtmihlmlojmdhjaaGreatDoor.Wr
open Go.RowKit Tre
open Lex (Ch textC textC_cons textC_app textC_nil chT)
open Prg (cw bl sg nm kw nu typeC chP)
set_option maxRecDepth 100000
def TT (t : Int) : List UInt8 := textC (typeC t)
theorem TT_one : TT 1 = [105, 110, 116] := by decide
theorem TT_two : TT 2 = [98, 111, 111, 108] := by decide
theorem TPar_eq (p : Par) : TPar p = (p.s.data.toList ++ [32]) ++ TT p.t := by
  unfold TPar chP TT coreP
  rw [text_w, text_bl, shown_nm]
  simp
set_option maxHeartbeats 4000000 in
theorem typed_any {lo b : Nat} {n : Int} {l : List UInt8} {w : World} (h : Wt w lo b n l) (t : Int) (ht : t = 1 ∨ t = 2) (hs : l.length + (TT t).length ≤ room) :
    Calls Tryz.prog 25 #[pb b, .int .u8 t] w (Wrote lo b n (l ++ TT t) w) := by
  rcases ht with rfl | rfl
  · rw [TT_one] at hs ⊢
    have C1 := Lib.hid (lay1 h ⟨#[105, 110, 116]⟩ hs)
    clear h hs
    go_enter Tryz.func25, Tryz.ntmps25
    go_wp2_with fail
    refine C1.out.mono ?_
    rintro e1 w1 ⟨rfl, h1, h2⟩
    have K := Lib.hid (And.intro h1 h2)
    clear h1 h2
    go_wp2_with fail
    go_end0
    exact ⟨rfl, K.out⟩
  · rw [TT_two] at hs ⊢
    have C1 := Lib.hid (lay1 h ⟨#[98, 111, 111, 108]⟩ hs)
    clear h hs
    go_enter Tryz.func25, Tryz.ntmps25
    go_wp2_with fail
    refine C1.out.mono ?_
    rintro e1 w1 ⟨rfl, h1, h2⟩
    have K := Lib.hid (And.intro h1 h2)
    clear h1 h2
    go_wp2_with fail
    go_end0
    exact ⟨rfl, K.out⟩
set_option maxHeartbeats 4000000 in
theorem param_any {w0 : World} {b : Nat} {n : Int} (p : Par) (ht : p.t = 1 ∨ p.t = 2) : ElPar w0 b n p := by
  intro w l h _ hs
  obtain ⟨s, t⟩ := p
  rw [parV_eq]
  rw [TPar_eq] at hs ⊢
  simp only at ht hs ⊢
  obtain ⟨T0, S0, HN0, hne⟩ := h.box #[.string s, .int .u8 t] 38
  obtain ⟨W0, hW0⟩ : ∃ W0, w.alloc (.cells #[.string s, .int .u8 t] 38) = W0 := ⟨_, rfl⟩
  rw [hW0] at T0 S0 HN0
  obtain ⟨z0, z1⟩ : _ ∧ _ := ⟨cell_at HN0 0, cell_at HN0 1⟩
  have G2 := Lib.hid S0
  have G3 := Lib.hid HN0
  have G4 := Lib.hid hne
  have G6 : Hid (l.length + (s.size + 1) + (TT t).length ≤ room) := Lib.hid (by
    simp only [List.length_append, List.length_cons, List.length_nil] at hs
    rw [show s.data.toList.length = s.size by simp] at hs
    omega)
  have C1 := Lib.hid (lay2 T0 s ⟨#[32]⟩ (by have := G6.out; rw [show (⟨#[32]⟩ : ByteArray).size = 1 from rfl]; omega))
  have HT := Lib.hid ht
  clear h hs T0 S0 HN0 hne ht
  go_enter Tryz.func94, Tryz.ntmps94
  go_wp2_with fail
  refine C1.out.mono ?_
  rintro e1 w1 ⟨rfl, h1, h2⟩
  have HN1 := h2.keep _ _ _ (by decide) G4.out G3.out
  obtain ⟨z0, z1⟩ : _ ∧ _ := ⟨cell_at HN1 0, cell_at HN1 1⟩
  have C2 := Lib.hid (typed_any h1 t HT.out (by
    have := G6.out
    simp only [List.length_append]
    rw [show s.data.toList.length = s.size by simp, show (⟨#[32]⟩ : ByteArray).data.toList.length = 1 from rfl]
    omega))
  have K := Lib.hid (G2.out.trans h2)
  clear h1 h2 HN1
  go_wp2_with fail
  refine C2.out.mono ?_
  rintro e1 w2 ⟨rfl, h1, h2⟩
  have K1 := Lib.hid h1
  have K2 := Lib.hid (K.out.trans h2)
  clear h1 h2
  go_wp2_with fail
  go_end0
  exact ⟨rfl, by simpa using K1.out, K2.out⟩
/-- How many blocks are open, read and written. -/
theorem Wt.opened {w : World} {lo b : Nat} {n : Int} {l : List UInt8} (h : Wt w lo b n l) :
    w.cell? ⟨b, 2, none⟩ = some (.int .i64 n) ∧ w.frozen? ⟨b, 2, none⟩ = false ∧ ∀ m : Int, Wt (w.setCell ⟨b, 2, none⟩ (.int .i64 m)) lo b m l ∧ Stp lo b w (w.setCell ⟨b, 2, none⟩ (.int .i64 m)) := by
  obtain ⟨h0, p, v, hp, hc, ho⟩ := h
  have hne : v.ownBlock ≠ some b := own_ne ho hc (by decide)
  exact ⟨cell_at hc 2, by simp [World.frozen?, hc], fun m => ⟨⟨h0, p, v, hp, (set_at hc _).trans (by rfl), own_keep ho fun g hg => set_ne _ _ _ _ _ (fun e => hne (by rw [hg, e]))⟩, Stp.set w 2 _ h0⟩⟩
end Go.Proofs.YtmihlmlojmdhjaaGreatDoor.Wr
/- The program's writer writes a block, once it writes each statement as it must. Conditions: the statements lie in memory below the writer; sizes. -/
namespace Go.Proofs.YtmihlmlojmdhjaaGreatDoor.Wr
open Go.RowKit Tre
open Lex (Ch textC textC_cons textC_app textC_nil chT)
open Prg (cw bl sg nm kw nu chS blockC tabsC)
set_option maxRecDepth 100000
/-- A statement's text, with o blocks open. -/
def TS (o : Nat) (s : St) : List UInt8 := textC (chS o (coreS s))
def TLn (o : Nat) (l : List St) : List UInt8 := l.flatMap fun s => List.replicate o 9 ++ (TS o s ++ [10])
/-- A block's text, a blank ahead of it. -/
def TB (o : Nat) (l : List St) : List UInt8 := [32, 123, 10] ++ (TLn (o + 1) l ++ (List.replicate o 9 ++ [125]))
theorem text_tabs (n : Nat) : textC (tabsC n) = List.replicate n 9 := by
  unfold tabsC
  induction n with
  | zero => rfl
  | succ n ih => rw [List.replicate_succ, textC_cons, ih]; rfl
theorem text_lines (o : Nat) : ∀ (l : List St), textC ((l.map fun s => chS o (coreS s)).flatMap fun c => tabsC o ++ (c ++ [.nl])) = TLn o l
  | [] => rfl
  | s :: l => by
    rw [List.map_cons, List.flatMap_cons, textC_app, text_lines o l, textC_app, textC_app, text_tabs]
    rfl
theorem text_block (o : Nat) (l : List St) : 32 :: textC (blockC o ((l.map coreS).map (chS (o + 1)))) = TB o l := by
  unfold blockC TB
  rw [text_w, text_nl, textC_app, textC_app, text_tabs, text_w, textC_nil, List.map_map]
  have := text_lines (o + 1) l
  rw [show (l.map fun s => chS (o + 1) (coreS s)) = l.map (chS (o + 1) ∘ coreS) from rfl] at this
  rw [this]
  rfl
theorem TLn_take {o : Nat} {l : List St} {k : Nat} {s : St} (h : l[k]? = some s) : TLn o (l.take (k + 1)) = TLn o (l.take k) ++ (List.replicate o 9 ++ (TS o s ++ [10])) := by
  rw [List.take_add_one, h]
  simp [TLn]
theorem TLn_len {o : Nat} {l : List St} {k : Nat} {s : St} (h : l[k]? = some s) : (TLn o (l.take k)).length + o + (TS o s).length + 1 ≤ (TLn o l).length := by
  have e : TLn o l = TLn o (l.take (k + 1)) ++ TLn o (l.drop (k + 1)) := by unfold TLn; rw [← List.flatMap_append, List.take_append_drop]
  rw [e, TLn_take h]
  simp only [List.length_append, List.length_replicate, List.length_cons, List.length_nil]
  omega
theorem x9 {w : World} {g : Nat} {a0 a1 a2 a3 a4 a5 a6 a7 a8 : Value} {T : TypeId} (h : w.heap[g]? = some (.cells #[a0, a1, a2, a3, a4, a5, a6, a7, a8] T (0, 0))) :
    w.cell? ⟨g, 0, none⟩ = some a0 ∧ w.cell? ⟨g, 1, none⟩ = some a1 ∧ w.cell? ⟨g, 2, none⟩ = some a2 ∧ w.cell? ⟨g, 3, none⟩ = some a3 ∧ w.cell? ⟨g, 4, none⟩ = some a4 ∧ w.cell? ⟨g, 5, none⟩ = some a5 ∧ w.cell? ⟨g, 6, none⟩ = some a6 ∧ w.cell? ⟨g, 7, none⟩ = some a7 ∧ w.cell? ⟨g, 8, none⟩ = some a8 :=
  ⟨cell_at h 0, cell_at h 1, cell_at h 2, cell_at h 3, cell_at h 4, cell_at h 5, cell_at h 6, cell_at h 7, cell_at h 8⟩
/-- What the writer writes of a statement. -/
def ElS (w0 : World) (b o : Nat) (s : St) : Prop :=
  ∀ (w : World) (l : List UInt8), Wt w w0.heap.size b o l → Below w0.heap.size w0 w → l.length + (TS o s).length ≤ room → Calls Tryz.prog 126 #[pb b, stV s] w (Wrote w0.heap.size b o (l ++ TS o s) w)
/-- What the writer writes of a block. -/
def ElB (w0 : World) (b o : Nat) (A : Option Addr) (c : Nat) (sts : List St) : Prop :=
  ∀ (w : World) (l : List UInt8), Wt w w0.heap.size b o l → Below w0.heap.size w0 w → l.length + (TB o sts).length ≤ room → Calls Tryz.prog 95 #[pb b, .slice A sts.length c] w (Wrote w0.heap.size b o (l ++ TB o sts) w)
set_option maxHeartbeats 16000000 in
theorem block_any {w0 : World} {b o : Nat} (sts : List St) (A : Option Addr) (c : Nat) (ho : o ≤ 1000000) (hrow : Row 9 stC w0 A sts) (hl : sts.length ≤ most) (HE : ∀ s ∈ sts, ElS w0 b (o + 1) s) : ElB w0 b o A c sts := by
  intro w l h hb hs
  unfold most at hl
  unfold ElS at HE
  unfold TB at hs ⊢
  have HS : Hid (l.length + (TLn (o + 1) sts).length + o + 4 ≤ room) := Lib.hid (by simp only [List.length_append, List.length_cons, List.length_nil, List.length_replicate] at hs; omega)
  have HROW := Lib.hid hrow
  have HEL := Lib.hid HE
  have HB := Lib.hid hb
  have HLO := Lib.hid h.lo
  have C1 := Lib.hid (lay1 h ⟨#[32, 123, 10]⟩ (by have := HS.out; rw [show (⟨#[32, 123, 10]⟩ : ByteArray).size = 3 from rfl]; omega))
  obtain ⟨m, hm⟩ : ∃ m, sts.length = m := ⟨_, rfl⟩
  rw [hm] at hl ⊢
  have HM := Lib.hid hm
  clear hrow HE h hb hs hm
  go_enter Tryz.func95, Tryz.ntmps95
  go_wp2_with fail
  refine C1.out.mono ?_
  rintro e1 w1 ⟨rfl, h1, h2⟩
  obtain ⟨c2, f2, q2⟩ := h1.opened
  have K1 := Lib.hid (q2 ((o : Int) + 1))
  have K2 := Lib.hid h2
  clear h1 h2 q2
  go_wp2_with fail
  obtain ⟨W1, hW1⟩ : ∃ W1, w1.setCell ⟨b, 2, none⟩ (.int .i64 ((o : Int) + 1)) = W1 := ⟨_, rfl⟩
  rw [hW1] at K1 ⊢
  have HW1 := Lib.hid hW1
  clear hW1 c2 f2
  go_loopw [18] (fun i wr => ∃ k : Nat, k ≤ m ∧ i = .int .i64 k ∧ Hid (Wt wr w0.heap.size b ((o + 1 : Nat) : Int) (l ++ [32, 123, 10] ++ TLn (o + 1) (sts.take k))) ∧ Hid (Stp w0.heap.size b w wr)) (fun i _ => m - (intOf i).toNat)
  case atStart => exact ⟨0, Nat.zero_le _, rfl, Lib.hid (by rw [List.take_zero, show TLn (o + 1) [] = [] from rfl, List.append_nil]; exact K1.out.1), Lib.hid (K2.out.trans K1.out.2)⟩
  case round =>
    obtain ⟨k, hk, rfl, H1, H2⟩ := hrel
    by_cases hlt : k < m
    · obtain ⟨x, hx⟩ : ∃ x, sts[k]? = some x := ⟨_, List.getElem?_eq_getElem (by rw [HM.out]; exact hlt)⟩
      have HTK := Lib.hid (TLn_take (o := o + 1) hx)
      have HTL := Lib.hid (TLn_len (o := o + 1) hx)
      obtain ⟨b1, o1, ha, hc1⟩ := HROW.out.at_ (HB.out.trans H2.out.below) hx
      subst ha
      obtain ⟨p0, p1, p2, p3, p4, p5, p6, p7, p8⟩ := stC_at hc1
      have CX := Lib.hid (HEL.out x (List.mem_of_getElem? hx))
      obtain ⟨T0, S0, HN0, hne⟩ := H1.out.box #[.int .i64 x.op, .string x.s, .int .i64 x.e.op, .int .i64 x.e.n, .string x.e.s, .string x.e.q, .slice x.e.a x.e.x.length x.e.c, .slice x.a x.b.length x.c, .slice x.a2 x.b2.length x.c2] 47
      have GN := Lib.hid hne
      clear hc1 hx hne
      have C2 := Lib.hid (tabs_any (k := o + 1) T0 (by
        have := HS.out
        have := HTL.out
        simp only [List.length_append, List.length_cons, List.length_nil]
        omega))
      have GH := Lib.hid HN0
      have GS := Lib.hid (H2.out.trans S0)
      clear T0 S0 HN0
      go_wp2_with fail
      refine C2.out.mono ?_
      rintro e1 w3 ⟨rfl, h1, h2⟩
      have HN3 := h2.keep _ _ _ (by decide) GN.out GH.out
      obtain ⟨z0, z1, z2, z3, z4, z5, z6, z7, z8⟩ := x9 HN3
      have C3 := Lib.hid (CX.out _ _ h1 (HB.out.trans (GS.out.below.trans h2.below)) (by
        have := HS.out
        have := HTL.out
        simp only [List.length_append, List.length_cons, List.length_nil, List.length_replicate]
        omega))
      rw [stV_eq] at C3
      have GS3 := Lib.hid (GS.out.trans h2)
      clear h1 h2 HN3
      go_wp2_with fail
      refine C3.out.mono ?_
      rintro e1 w4 ⟨rfl, h1, h2⟩
      have C4 := Lib.hid (lay1 h1 ⟨#[10]⟩ (by
        have := HS.out
        have := HTL.out
        simp only [List.length_append, List.length_cons, List.length_nil, List.length_replicate, show (⟨#[10]⟩ : ByteArray).size = 1 from rfl]
        omega))
      have GS4 := Lib.hid (GS3.out.trans h2)
      clear h1 h2
      go_wp2_with fail
      refine C4.out.mono ?_
      rintro e1 w5 ⟨rfl, h1, h2⟩
      have G1 := Lib.hid h1
      have G2 := Lib.hid (GS4.out.trans h2)
      clear h1 h2
      go_wp2_with fail
      go_roundw
      case rel =>
        refine ⟨k + 1, by omega, rfl, Lib.hid ?_, G2⟩
        have := G1.out
        rw [HTK.out]
        simpa using this
      case measure => simp [intOf]; omega
    · obtain rfl : k = m := by omega
      have h1 := H1.out
      rw [List.take_of_length_le (Nat.le_of_eq HM.out)] at h1
      obtain ⟨c2, f2, q2⟩ := h1.opened
      rw [show ((o + 1 : Nat) : Int) = (o : Int) + 1 by omega] at c2
      have K3 := Lib.hid (q2 (o : Int))
      clear h1 q2
      have hso : wrap64 ((o : Int) + 1 - 1) = (o : Int) := by unfold wrap64; omega
      obtain ⟨W3, hW3⟩ : ∃ W3, wr.setCell ⟨b, 2, none⟩ (.int .i64 (o : Int)) = W3 := ⟨_, rfl⟩
      rw [hW3] at K3
      have C2 := Lib.hid (tabs_any (k := o) K3.out.1 (by
        have := HS.out
        simp only [List.length_append, List.length_cons, List.length_nil]
        omega))
      go_wp2_with fail
      refine C2.out.mono ?_
      rintro e1 w3 ⟨rfl, h1, h2⟩
      have C3 := Lib.hid (lay1 h1 ⟨#[125]⟩ (by
        have := HS.out
        simp only [List.length_append, List.length_cons, List.length_nil, List.length_replicate, show (⟨#[125]⟩ : ByteArray).size = 1 from rfl]
        omega))
      have GS3 := Lib.hid (H2.out.trans (K3.out.2.trans h2))
      clear h1 h2
      go_wp2_with fail
      refine C3.out.mono ?_
      rintro e1 w4 ⟨rfl, h1, h2⟩
      have G1 := Lib.hid h1
      have G2 := Lib.hid (GS3.out.trans h2)
      clear h1 h2
      go_wp2_with fail
      go_end0
      exact ⟨rfl, by simpa using G1.out, G2.out⟩
end Go.Proofs.YtmihlmlojmdhjaaGreatDoor.Wr
/- The program's writer writes a call, a sign ahead of a part, two parts with a sign between; so any right expression. Conditions: it lies in memory below the writer; sizes. -/
namespace Go.Proofs.YtmihlmlojmdhjaaGreatDoor.Wr
open Go.RowKit Tre
open Lex (Ch textC textC_cons textC_app textC_nil chT wdV)
open Prg (cw bl sg nm kw nu chX partC commasC opOf opS LoX OkX chX_call chX_one chX_two headC)
set_option maxRecDepth 100000
section
variable {w0 : World} {b : Nat} {n : Int} {w : World} {l : List UInt8}
theorem empty_of {q : ByteArray} (h : (q.toList == []) = true) : q.data.toList = [] := Prg.of_empty h
theorem full_of {q : ByteArray} (h : (q.toList == []) = false) : q.data.toList ≠ [] := fun e => by
  rw [ByteArray.toList_eq, e] at h
  cases h
set_option maxHeartbeats 4000000 in
theorem call_any (op v : Int) (s q : ByteArray) (a : Option Addr) (c : Nat) (x : List Ex) (hrow : Row 5 exC w0 a x) (hl : x.length ≤ most) (HE : ∀ y ∈ x, ElX w0 b n y) (h : Wt w w0.heap.size b n l) (hb : Below w0.heap.size w0 w) (hs : l.length + (headT s q ++ TLX x).length ≤ room) :
    Calls Tryz.prog 47 #[pb b, .agg #[.int .i64 op, .int .i64 v, .string s, .string q, .slice a x.length c]] w (Wrote w0.heap.size b n (l ++ (headT s q ++ TLX x)) w) := by
  obtain ⟨T0, S0, HN0, hne⟩ := h.box #[.int .i64 op, .int .i64 v, .string s, .string q, .slice a x.length c] 42
  obtain ⟨W0, hW0⟩ : ∃ W0, w.alloc (.cells #[.int .i64 op, .int .i64 v, .string s, .string q, .slice a x.length c] 42) = W0 := ⟨_, rfl⟩
  rw [hW0] at T0 S0 HN0
  obtain ⟨z0, z1, z2, z3, z4⟩ := x5 HN0
  have HL := Lib.hid (fun (u : World) (l' : List UInt8) (h' : Wt u w0.heap.size b n l') (hb' : Below w0.heap.size w0 u) (hs' : l'.length + (TLX x).length ≤ room) => listX_any x a c hrow hl HE h' hb' hs')
  have G1 := Lib.hid T0
  have G2 := Lib.hid S0
  have G3 := Lib.hid HN0
  have G4 := Lib.hid hne
  have G5 := Lib.hid (hb.trans S0.below)
  rcases Bool.eq_false_or_eq_true (q.toList == []) with hq | hq
  · have e : headT s q = s.data.toList := by unfold headT; rw [if_pos (empty_of hq)]
    rw [e] at hs ⊢
    have G6 := Lib.hid hs
    have C1 := Lib.hid (lay1 T0 s (by rw [List.length_append, show s.data.toList.length = s.size by simp] at hs; omega))
    clear e hrow hl HE h hb hs T0 S0 HN0 hne
    go_enter Tryz.func47, Tryz.ntmps47
    go_wp2_with fail
    refine C1.out.mono ?_
    rintro e1 w1 ⟨rfl, h1, h2⟩
    obtain ⟨z0, z1, z2, z3, z4⟩ := x5 (h2.keep _ _ _ (by decide) G4.out G3.out)
    have C2 := Lib.hid (HL.out w1 _ h1 (G5.out.trans h2.below) (by have := G6.out; rw [List.length_append] at this ⊢; omega))
    have K := Lib.hid (G2.out.trans h2)
    clear h1 h2
    go_wp2_with fail
    refine C2.out.mono ?_
    rintro e1 w2 ⟨rfl, h1, h2⟩
    have K1 := Lib.hid h1
    have K2 := Lib.hid (K.out.trans h2)
    clear h1 h2
    go_wp2_with fail
    go_end0
    exact ⟨rfl, by have := K1.out; rwa [List.append_assoc] at this, K2.out⟩
  · have e : headT s q = q.data.toList ++ ([46] ++ s.data.toList) := by unfold headT; rw [if_neg (full_of hq)]
    rw [e] at hs ⊢
    have G6 : Hid (l.length + (q.size + (1 + s.size)) + (TLX x).length ≤ room) := Lib.hid (by
      simp only [List.length_append, List.length_cons, List.length_nil] at hs
      rw [show s.data.toList.length = s.size by simp, show q.data.toList.length = q.size by simp] at hs
      omega)
    have C1 := Lib.hid (lay2 T0 q ⟨#[46]⟩ (by have := G6.out; rw [show (⟨#[46]⟩ : ByteArray).size = 1 from rfl]; omega))
    clear e hrow hl HE h hb hs T0 S0 HN0 hne
    go_enter Tryz.func47, Tryz.ntmps47
    go_wp2_with fail
    refine C1.out.mono ?_
    rintro e1 w1 ⟨rfl, h1, h2⟩
    have HN1 := h2.keep _ _ _ (by decide) G4.out G3.out
    obtain ⟨z0, z1, z2, z3, z4⟩ := x5 HN1
    have G7 := Lib.hid HN1
    have C2 := Lib.hid (lay1 h1 s (by
      have := G6.out
      simp only [List.length_append]
      rw [show q.data.toList.length = q.size by simp, show (⟨#[46]⟩ : ByteArray).data.toList.length = 1 from rfl]
      omega))
    have G8 := Lib.hid (G5.out.trans h2.below)
    have K := Lib.hid (G2.out.trans h2)
    clear h1 h2 HN1
    go_wp2_with fail
    refine C2.out.mono ?_
    rintro e1 w2 ⟨rfl, h1, h2⟩
    obtain ⟨z0, z1, z2, z3, z4⟩ := x5 (h2.keep _ _ _ (by decide) G4.out G7.out)
    have C3 := Lib.hid (HL.out w2 _ h1 (G8.out.trans h2.below) (by
      have := G6.out
      simp only [List.length_append]
      rw [show q.data.toList.length = q.size by simp, show s.data.toList.length = s.size by simp, show (⟨#[46]⟩ : ByteArray).data.toList.length = 1 from rfl]
      omega))
    have K3 := Lib.hid (K.out.trans h2)
    clear h1 h2
    go_wp2_with fail
    refine C3.out.mono ?_
    rintro e1 w3 ⟨rfl, h1, h2⟩
    have K1 := Lib.hid h1
    have K2 := Lib.hid (K3.out.trans h2)
    clear h1 h2
    go_wp2_with fail
    go_end0
    exact ⟨rfl, by simpa using K1.out, K2.out⟩
set_option maxHeartbeats 4000000 in
theorem expr_call (v : Int) (s q : ByteArray) (a : Option Addr) (c : Nat) (x : List Ex) (hrow : Row 5 exC w0 a x) (hl : x.length ≤ most) (HE : ∀ y ∈ x, ElX w0 b n y) (h : Wt w w0.heap.size b n l) (hb : Below w0.heap.size w0 w) (hs : l.length + (headT s q ++ TLX x).length ≤ room) :
    Calls Tryz.prog 22 #[pb b, .agg #[.int .i64 4, .int .i64 v, .string s, .string q, .slice a x.length c]] w (Wrote w0.heap.size b n (l ++ (headT s q ++ TLX x)) w) := by
  obtain ⟨T0, S0, HN0, hne⟩ := h.box #[.int .i64 4, .int .i64 v, .string s, .string q, .slice a x.length c] 42
  obtain ⟨W0, hW0⟩ : ∃ W0, w.alloc (.cells #[.int .i64 4, .int .i64 v, .string s, .string q, .slice a x.length c] 42) = W0 := ⟨_, rfl⟩
  rw [hW0] at T0 S0 HN0
  obtain ⟨z0, z1, z2, z3, z4⟩ := x5 HN0
  have C1 := Lib.hid (call_any 4 v s q a c x hrow hl HE T0 (hb.trans S0.below) hs)
  have G2 := Lib.hid S0
  generalize headT s q ++ TLX x = z at *
  generalize x.length = m at *
  clear T0 S0 HN0 hs h hne HE hrow hl hb
  go_enter Tryz.func22, Tryz.ntmps22
  go_wp2_with fail
  refine C1.out.mono ?_
  rintro e1 w2 ⟨rfl, h1, h2⟩
  have K := Lib.hid (And.intro h1 (G2.out.trans h2))
  clear h1 h2
  go_wp2_with fail
  go_end0
  exact ⟨rfl, K.out⟩
theorem row_one {w1 : World} {a : Option Addr} {x : List Ex} (hrow : Row 5 exC w0 a x) (hb : Below w0.heap.size w0 w1) {j : Nat} {y : Ex} (hy : x[j]? = some y) :
    ∃ b1 o1, a = some ⟨b1, o1, none⟩ ∧ w1.cell? ⟨b1, o1 + j * 5, none⟩ = some (.int .i64 y.op) ∧ w1.cell? ⟨b1, o1 + j * 5 + 1, none⟩ = some (.int .i64 y.n) ∧ w1.cell? ⟨b1, o1 + j * 5 + 2, none⟩ = some (.string y.s) ∧ w1.cell? ⟨b1, o1 + j * 5 + 3, none⟩ = some (.string y.q) ∧ w1.cell? ⟨b1, o1 + j * 5 + 4, none⟩ = some (.slice y.a y.x.length y.c) := by
  obtain ⟨b1, o1, ha, hc⟩ := hrow.at_ hb hy
  exact ⟨b1, o1, ha, exC_at hc⟩
set_option maxHeartbeats 4000000 in
theorem expr_one (op v : Int) (s q : ByteArray) (a : Option Addr) (c : Nat) (y : Ex) (hop : op = 5 ∨ op = 6) (hG : Gd w0) (hrow : Row 5 exC w0 a [y]) (h19 : y.op ≤ 19) (HE : ElX w0 b n y) (h : Wt w w0.heap.size b n l) (hb : Below w0.heap.size w0 w) (hs : l.length + ((if op = 5 then [45] else [33]) ++ TP y).length ≤ room) :
    Calls Tryz.prog 22 #[pb b, .agg #[.int .i64 op, .int .i64 v, .string s, .string q, .slice a 1 c]] w (Wrote w0.heap.size b n (l ++ ((if op = 5 then [45] else [33]) ++ TP y)) w) := by
  obtain ⟨T0, S0, HN0, hne⟩ := h.box #[.int .i64 op, .int .i64 v, .string s, .string q, .slice a 1 c] 42
  obtain ⟨W0, hW0⟩ : ∃ W0, w.alloc (.cells #[.int .i64 op, .int .i64 v, .string s, .string q, .slice a 1 c] 42) = W0 := ⟨_, rfl⟩
  rw [hW0] at T0 S0 HN0
  obtain ⟨z0, z1, z2, z3, z4⟩ := x5 HN0
  have hP : PSg W0 := hG.s.below (hb.trans S0.below)
  have p5 := hP 5 (by decide)
  have p6 := hP 6 (by decide)
  rw [show sgnP.getD 5 [] = [45] from rfl] at p5
  rw [show sgnP.getD 6 [] = [33] from rfl] at p6
  have HL := Lib.hid (fun (u : World) (l' : List UInt8) (h' : Wt u w0.heap.size b n l') (hb' : Below w0.heap.size w0 u) (hs' : l'.length + (TP y).length ≤ room) => part_any h' hb' hs' h19 HE)
  rw [exV_eq] at HL
  have HROW := Lib.hid hrow
  have G2 := Lib.hid S0
  have G3 := Lib.hid HN0
  have G4 := Lib.hid hne
  have G5 := Lib.hid (hb.trans S0.below)
  have hs1 : l.length + 1 + (TP y).length ≤ room := by
    rw [List.length_append] at hs
    rcases hop with rfl | rfl
    · simp only [if_true, List.length_cons, List.length_nil] at hs; omega
    · simp only [show ¬ (6 : Int) = 5 by decide, if_false, List.length_cons, List.length_nil] at hs; omega
  have G6 := Lib.hid hs1
  have C1 := Lib.hid (lay1 T0 ⟨#[45]⟩ (by rw [show (⟨#[45]⟩ : ByteArray).size = 1 from rfl]; omega))
  have C2 := Lib.hid (lay1 T0 ⟨#[33]⟩ (by rw [show (⟨#[33]⟩ : ByteArray).size = 1 from rfl]; omega))
  clear hrow HE h hb hs T0 S0 HN0 hne hG hP h19 hs1
  rcases hop with rfl | rfl
  · simp only [if_true]
    go_enter Tryz.func22, Tryz.ntmps22
    go_wp2_with fail
    refine C1.out.mono ?_
    rintro e1 w1 ⟨rfl, h1, h2⟩
    obtain ⟨z0, z1, z2, z3, z4⟩ := x5 (h2.keep _ _ _ (by decide) G4.out G3.out)
    have C3 := Lib.hid (HL.out w1 _ h1 (G5.out.trans h2.below) (by have := G6.out; rw [List.length_append, show (⟨#[45]⟩ : ByteArray).data.toList.length = 1 from rfl]; omega))
    obtain ⟨b1, o1, ha, y0, y1, y2, y3, y4⟩ := row_one (j := 0) HROW.out (G5.out.trans h2.below) rfl
    subst ha
    simp only [Nat.zero_mul, Nat.add_zero] at y0 y1 y2 y3 y4
    have K := Lib.hid (G2.out.trans h2)
    clear h1 h2
    go_wp2_with fail
    refine C3.out.mono ?_
    rintro e1 w2 ⟨rfl, h1, h2⟩
    have K1 := Lib.hid h1
    have K2 := Lib.hid (K.out.trans h2)
    clear h1 h2
    go_wp2_with fail
    go_end0
    exact ⟨rfl, by simpa using K1.out, K2.out⟩
  · simp only [show ¬ (6 : Int) = 5 by decide, if_false]
    go_enter Tryz.func22, Tryz.ntmps22
    go_wp2_with fail
    refine C2.out.mono ?_
    rintro e1 w1 ⟨rfl, h1, h2⟩
    obtain ⟨z0, z1, z2, z3, z4⟩ := x5 (h2.keep _ _ _ (by decide) G4.out G3.out)
    have C3 := Lib.hid (HL.out w1 _ h1 (G5.out.trans h2.below) (by have := G6.out; rw [List.length_append, show (⟨#[33]⟩ : ByteArray).data.toList.length = 1 from rfl]; omega))
    obtain ⟨b1, o1, ha, y0, y1, y2, y3, y4⟩ := row_one (j := 0) HROW.out (G5.out.trans h2.below) rfl
    subst ha
    simp only [Nat.zero_mul, Nat.add_zero] at y0 y1 y2 y3 y4
    have K := Lib.hid (G2.out.trans h2)
    clear h1 h2
    go_wp2_with fail
    refine C3.out.mono ?_
    rintro e1 w2 ⟨rfl, h1, h2⟩
    have K1 := Lib.hid h1
    have K2 := Lib.hid (K.out.trans h2)
    clear h1 h2
    go_wp2_with fail
    go_end0
    exact ⟨rfl, by simpa using K1.out, K2.out⟩
end
end Go.Proofs.YtmihlmlojmdhjaaGreatDoor.Wr
/- The program's writer writes two parts with a sign between; so any right expression. Conditions: it lies in memory below the writer; sizes. -/
namespace Go.Proofs.YtmihlmlojmdhjaaGreatDoor.Wr
open Go.RowKit Tre
open Lex (Ch textC textC_cons textC_app textC_nil chT wdV)
open Prg (cw bl sg nm kw nu chX partC commasC opOf opS LoX OkX chX_call chX_one chX_two headC)
set_option maxRecDepth 100000
section
variable {w0 : World} {b : Nat} {n : Int} {w : World} {l : List UInt8}
theorem opS_len (op : Int) : (opS op).length ≤ 2 := by
  unfold opS
  repeat' split
  all_goals decide
set_option maxHeartbeats 4000000 in
theorem expr_two (k : Nat) (v : Int) (s q : ByteArray) (a : Option Addr) (c : Nat) (y z : Ex) (h7 : 7 ≤ k) (hk : k ≤ 19) (hG : Gd w0) (hrow : Row 5 exC w0 a [y, z]) (hy19 : y.op ≤ 19) (hz19 : z.op ≤ 19) (HE : ElX w0 b n y) (HZ : ElX w0 b n z) (h : Wt w w0.heap.size b n l) (hb : Below w0.heap.size w0 w) (hs : l.length + (TP y ++ (([32] ++ (opS k ++ [32])) ++ TP z)).length ≤ room) :
    Calls Tryz.prog 22 #[pb b, .agg #[.int .i64 (k : Int), .int .i64 v, .string s, .string q, .slice a 2 c]] w (Wrote w0.heap.size b n (l ++ (TP y ++ (([32] ++ (opS k ++ [32])) ++ TP z))) w) := by
  obtain ⟨T0, S0, HN0, hne⟩ := h.box #[.int .i64 (k : Int), .int .i64 v, .string s, .string q, .slice a 2 c] 42
  obtain ⟨W0, hW0⟩ : ∃ W0, w.alloc (.cells #[.int .i64 (k : Int), .int .i64 v, .string s, .string q, .slice a 2 c] 42) = W0 := ⟨_, rfl⟩
  rw [hW0] at T0 S0 HN0
  obtain ⟨z0, z1, z2, z3, z4⟩ := x5 HN0
  have HY := Lib.hid (fun (u : World) (l' : List UInt8) (h' : Wt u w0.heap.size b n l') (hb' : Below w0.heap.size w0 u) (hs' : l'.length + (TP y).length ≤ room) => part_any h' hb' hs' hy19 HE)
  have HZ2 := Lib.hid (fun (u : World) (l' : List UInt8) (h' : Wt u w0.heap.size b n l') (hb' : Below w0.heap.size w0 u) (hs' : l'.length + (TP z).length ≤ room) => part_any h' hb' hs' hz19 HZ)
  rw [exV_eq] at HY HZ2
  have HROW := Lib.hid hrow
  have HP := Lib.hid hG.s
  have G2 := Lib.hid S0
  have G3 := Lib.hid HN0
  have G4 := Lib.hid hne
  have G5 := Lib.hid (hb.trans S0.below)
  obtain ⟨sg, hsg⟩ : ∃ sg, opS (k : Int) = sg := ⟨_, rfl⟩
  have hkk := (sgn_op h7 hk).trans hsg
  have hl2 := opS_len (k : Int)
  rw [hsg] at hs ⊢ hl2
  have HKK := Lib.hid hkk
  have G6 : Hid (l.length + (TP y).length + 2 + sg.length + (TP z).length ≤ room) := Lib.hid (by
    simp only [List.length_append, List.length_cons, List.length_nil] at hs
    omega)
  have C1 := Lib.hid (HY.out W0 _ T0 G5.out (by have := G6.out; omega))
  obtain ⟨b1, o1, ha, y0, y1, y2, y3, y4⟩ := row_one (j := 0) HROW.out G5.out rfl
  subst ha
  simp only [Nat.zero_mul, Nat.add_zero] at y0 y1 y2 y3 y4
  have e1 : ((k : Int) == 1) = false := by simp; omega
  have e2 : ((k : Int) == 2) = false := by simp; omega
  have e3 : ((k : Int) == 3) = false := by simp; omega
  have e4 : ((k : Int) == 4) = false := by simp; omega
  have e5 : ((k : Int) == 5) = false := by simp; omega
  have e6 : ((k : Int) == 6) = false := by simp; omega
  have e20 : k < 20 := by omega
  clear hrow HE HZ h hb hs T0 S0 HN0 hne hG hkk hsg hl2 hy19 hz19 h7 hk
  go_enter Tryz.func22, Tryz.ntmps22
  go_wp2_with fail
  refine C1.out.mono ?_
  rintro e' w1 ⟨rfl, h1, h2⟩
  have HN1 := h2.keep _ _ _ (by decide) G4.out G3.out
  obtain ⟨z0, z1, z2, z3, z4⟩ := x5 HN1
  have pk := HP.out.below (G5.out.trans h2.below) k e20
  rw [HKK.out] at pk
  have G7 := Lib.hid HN1
  have G8 := Lib.hid (G5.out.trans h2.below)
  have C2 := Lib.hid (lay3 h1 ⟨#[32]⟩ ⟨sg.toArray⟩ ⟨#[32]⟩ (by
    have := G6.out
    rw [List.length_append, show (⟨#[32]⟩ : ByteArray).size = 1 from rfl, show (⟨sg.toArray⟩ : ByteArray).size = sg.length by simp [ByteArray.size]]
    omega))
  have K := Lib.hid (G2.out.trans h2)
  clear h1 h2 HN1
  go_wp2_with fail
  refine C2.out.mono ?_
  rintro e' w2 ⟨rfl, h1, h2⟩
  obtain ⟨z0, z1, z2, z3, z4⟩ := x5 (h2.keep _ _ _ (by decide) G4.out G7.out)
  obtain ⟨b1, o1, ha, q0, q1, q2, q3, q4⟩ := row_one (j := 1) HROW.out (G8.out.trans h2.below) rfl
  injection ha with ha
  injection ha with ha1 ha2
  subst ha1 ha2
  simp only [Nat.one_mul] at q0 q1 q2 q3 q4
  have C3 := Lib.hid (HZ2.out w2 _ h1 (G8.out.trans h2.below) (by
    have := G6.out
    simp only [List.length_append, show (⟨#[32]⟩ : ByteArray).data.toList.length = 1 from rfl]
    omega))
  have K3 := Lib.hid (K.out.trans h2)
  clear h1 h2
  go_wp2_with fail
  refine C3.out.mono ?_
  rintro e' w3 ⟨rfl, h1, h2⟩
  have K1 := Lib.hid h1
  have K2 := Lib.hid (K3.out.trans h2)
  clear h1 h2
  go_wp2_with fail
  go_end0
  exact ⟨rfl, by simpa using K1.out, K2.out⟩
end
theorem ok_op {t : Tx} (h : OkX t) : opOf t ≤ 19 := by
  cases h with
  | num | truth | name | call => simp [opOf]
  | one op x h hx => simp only [opOf]; omega
  | two op x y h h2 hx hy => simp only [opOf]; omega
theorem ok_op' {e : Ex} (h : OkX (core e)) : e.op ≤ 19 := by rw [← op_core]; exact ok_op h
theorem lo_part {op n : Int} {s q : List UInt8} {x : List Tx} (h : LoX (.mk op n s q x)) : n ≤ 9223372036854775807 ∧ ∀ y ∈ x, LoX y := by
  cases h with
  | mk _ _ _ _ _ h hx => exact ⟨h, hx⟩
theorem map_nil {x : List Ex} {r : List Tx} (h : x.map core = r) (hr : r = []) : x = [] := by
  subst hr
  exact List.map_eq_nil_iff.1 h
theorem elX_upto {w0 : World} (hG : Gd w0) (b : Nat) (n : Int) : ∀ (m : Nat) (e : Ex), size e ≤ m → ExIn w0 e → OkX (core e) → LoX (core e) → ElX w0 b n e
  | 0, e, h, _, _, _ => by rw [size_eq] at h; omega
  | m + 1, e, hm, hin, hok, hlo => by
    intro w l h hb hs
    have hpart : ∀ y ∈ e.x, OkX (core y) → LoX (core y) → ElX w0 b n y := fun y hy h1 h2 => elX_upto hG b n m y (by have := size_part hy; omega) (hin.part hy) h1 h2
    have hlen := hin.nd.len
    have hrow := hin.nd.row
    obtain ⟨op, v, s, q, a, c, x⟩ := e
    simp only [Ex.x, Ex.a] at hpart hlen hrow
    rw [exV_eq]
    simp only [Ex.op, Ex.n, Ex.s, Ex.q, Ex.a, Ex.x, Ex.c]
    rw [core_eq] at hok hlo
    simp only [Ex.op, Ex.n, Ex.s, Ex.q, Ex.x] at hok hlo
    obtain ⟨hv, hlx⟩ := lo_part hlo
    generalize hx : x.map core = r at hok
    generalize hsl : s.data.toList = sl at hok
    generalize hql : q.data.toList = ql at hok
    cases hok with
    | num _ h0 =>
      rw [TX_num] at hs ⊢
      exact expr_num v s q a c _ hv (hG.below hb) h hs
    | truth _ h0 =>
      rw [TX_truth _ _ _ _ _ _ h0] at hs ⊢
      exact expr_truth v s q a c _ h hs
    | name _ h0 =>
      rw [TX_name] at hs ⊢
      exact expr_name _ s q a c _ h (by simpa using hs)
    | call _ _ _ h0 hq hl hxs =>
      rw [TX_call] at hs ⊢
      subst hx
      exact expr_call _ s q a c x hrow hlen (fun y hy => hpart y hy (hxs _ (List.mem_map_of_mem hy)) (hlx _ (List.mem_map_of_mem hy))) h hb hs
    | one _ t h0 ht =>
      obtain ⟨y, rfl, rfl⟩ : ∃ y, x = [y] ∧ core y = t := by
        cases x with
        | nil => cases hx
        | cons y r =>
          injection hx with e1 e2
          exact ⟨y, by rw [List.map_eq_nil_iff.1 e2], e1⟩
      rw [TX_one _ _ _ _ _ _ _ h0] at hs ⊢
      exact expr_one op _ s q a c y h0 hG hrow (ok_op' ht) (hpart y (by simp) ht (hlx _ (by simp))) h hb hs
    | two _ t u h7 h19 ht hu =>
      obtain ⟨y, z, rfl, rfl, rfl⟩ : ∃ y z, x = [y, z] ∧ core y = t ∧ core z = u := by
        cases x with
        | nil => cases hx
        | cons y r =>
          injection hx with e1 e2
          cases r with
          | nil => cases e2
          | cons z r =>
            injection e2 with e2 e3
            exact ⟨y, z, by rw [List.map_eq_nil_iff.1 e3], e1, e2⟩
      rw [TX_two _ _ _ _ _ _ _ _ h7] at hs ⊢
      obtain ⟨k, rfl⟩ : ∃ k : Nat, op = k := ⟨op.toNat, by omega⟩
      exact expr_two k _ s q a c y z (by omega) (by omega) hG hrow (ok_op' ht) (ok_op' hu) (hpart y (by simp) ht (hlx _ (by simp))) (hpart z (by simp) hu (hlx _ (by simp))) h hb hs
/-- A right expression is written as its text. -/
theorem elX_any {w0 : World} (hG : Gd w0) (b : Nat) (n : Int) {e : Ex} (hin : ExIn w0 e) (hok : OkX (core e)) (hlo : LoX (core e)) : ElX w0 b n e := elX_upto hG b n _ e (Nat.le_refl _) hin hok hlo
end Go.Proofs.YtmihlmlojmdhjaaGreatDoor.Wr
