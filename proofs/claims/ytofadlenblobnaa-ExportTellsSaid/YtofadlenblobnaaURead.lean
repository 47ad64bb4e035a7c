/-
  The program's readType and read. Conditions: the reader's block is known.
-/
import Derived.Test.YtofadlenblobnaaURow
namespace Go.Proofs.Ytofadlenblobnaa.Exp
open Go.RowKit Codec Typ Tre
open OwnR (OwnG)
open Cod (Rdr Turned grown_trans grown_set)
set_option maxRecDepth 100000
set_option linter.unusedSimpArgs false
theorem count_le (m : Int) (s : Codec.St) (hm : 0 ≤ m) : (count m s : Int) ≤ m := by
  unfold count
  split
  · exact hm
  · rename_i h
    unfold over at h
    simp at h
    exact h
/-- What a call leaves that reads one signature. -/
def ReadS (T : TypeId) (w : World) (B g : Nat) (x : Sp) (st : Codec.St) (e : Ending) (w' : World) : Prop :=
  ∃ G : Sg, e = .returned (sgV G) ∧ coreG G = x ∧ Rdr T w' B g st ∧ w.grownBy w' (some g) ∧ OwnG 1 tyC 35 w' w.heap.size (.slice G.a G.p.length G.c) G.p ∧ G.s.size ≤ 16
theorem readType_any (w : World) (B g : Nat) (s : Codec.St) (hr : Rdr 65 w B g s) :
    Calls Try.prog 37 #[.pointer (some ⟨g, 0, none⟩)] w (Turned 65 w B g (.int .u8 (count 2 s)) (countS 2 s)) := by
  have HC := Lib.hid (Cod.count_any w B g 2 s hr)
  have hle := count_le 2 s (by omega)
  obtain ⟨c, hc⟩ : ∃ c, count 2 s = c := ⟨_, rfl⟩
  rw [hc] at HC hle ⊢
  have hcv : (c : Int) % 256 = c := by omega
  clear hc hr
  generalize countS 2 s = s2 at *
  go_enter Try.func37, Try.ntmps37
  go_wp2_with fail
  refine HC.out.mono ?_
  rintro e w1 ⟨rfl, hw, hg⟩
  have HW := Lib.hid hw
  have HG := Lib.hid hg
  clear hw hg
  go_wp2_with fail
  go_ret
  exact ⟨rfl, HW.out, HG.out⟩
theorem text_len (m : Nat) (s : Codec.St) : (text m s).length ≤ m := by
  unfold text
  have h1 := Cod.take_le (count m s) (countS m s)
  have h2 := count_le m s (by omega)
  omega
theorem rdP_step {m k : Nat} {st s3 : Codec.St} {p : List Int} (h : rdP m s3 = (p ++ (rdP (m - k) st).1, (rdP (m - k) st).2)) (hk : k < m) : rdP m s3 = ((p ++ [(count 2 st : Int)]) ++ (rdP (m - (k + 1)) (countS 2 st)).1, (rdP (m - (k + 1)) (countS 2 st)).2) := by
  rw [h, show m - k = (m - (k + 1)) + 1 by omega]
  simp [rdP]
theorem rdP_end {m : Nat} {st s3 : Codec.St} {p : List Int} (h : rdP m s3 = (p ++ (rdP (m - m) st).1, (rdP (m - m) st).2)) : rdP m s3 = (p, st) := by
  rw [h, Nat.sub_self]
  simp [rdP]
theorem rdG_is {s s1 s2 st : Codec.St} {m : Nat} {nm : List UInt8} {p : List Int} (h1 : text 16 s = nm) (h2 : textS 16 s = s1) (h3 : count 4 s1 = m) (h4 : countS 4 s1 = s2) (h5 : rdP m s2 = (p, st)) : rdG s = (⟨nm, p, count 2 st⟩, countS 2 st) := by
  unfold rdG
  rw [h1, h2, h3, h4, h5]
/-- A whole signature is copied into the result's block. -/
theorem copied {w : World} {rb : Nat} {v0 v1 v2 u0 u1 u2 : Value} {T : TypeId} (h : w.heap[rb]? = some (.cells #[u0, u1, u2] T (0, 0))) : (((w.setCell ⟨rb, 0, none⟩ v0).setCell ⟨rb, 1, none⟩ v1).setCell ⟨rb, 2, none⟩ v2).heap[rb]? = some (.cells #[v0, v1, v2] T (0, 0)) :=
  (setc_at (setc_at (setc_at h _) _) _).trans (by rfl)
theorem grown3 (w : World) (rb : Nat) (v0 v1 v2 : Value) : w.grownBy (((w.setCell ⟨rb, 0, none⟩ v0).setCell ⟨rb, 1, none⟩ v1).setCell ⟨rb, 2, none⟩ v2) (some rb) :=
  grown_trans (grown_trans (grown_set w rb 0 v0) (grown_set _ rb 1 v1)) (grown_set _ rb 2 v2)
set_option maxHeartbeats 8000000 in
theorem read_any (w : World) (B g : Nat) (s : Codec.St) (hr : Rdr 65 w B g s) :
    Calls Try.prog 21 #[.pointer (some ⟨g, 0, none⟩)] w (ReadS 65 w B g (rdG s).1 (rdG s).2) := by
  have hlt := hr.lt
  have hb0 := ball_new w #[.string ⟨#[]⟩, .slice none 0 0, .int .u8 0] 37
  have n0 := new_at w #[.string ⟨#[]⟩, .slice none 0 0, .int .u8 0] 37
  have hz0 : (w.alloc (.cells #[.string ⟨#[]⟩, .slice none 0 0, .int .u8 0] 37)).heap.size = w.heap.size + 1 := World.size_alloc _ _
  have hr0 := hr.below hb0
  obtain ⟨WA, hWA⟩ : ∃ WA, w.alloc (.cells #[.string ⟨#[]⟩, .slice none 0 0, .int .u8 0] 37) = WA := ⟨_, rfl⟩
  rw [hWA] at hb0 n0 hz0 hr0
  have HB0 := Lib.hid hb0
  have HN0 := Lib.hid n0
  have HZ0 := Lib.hid hz0
  have HGL := Lib.hid hlt
  have CT := Lib.hid (Cod.text_any WA B g 16 s hr0)
  obtain ⟨s1, hs1⟩ : ∃ s1, textS 16 s = s1 := ⟨_, rfl⟩
  obtain ⟨nm, hnm⟩ : ∃ nm, text 16 s = nm := ⟨_, rfl⟩
  have HNL := Lib.hid (text_len 16 s)
  rw [show ((16 : Nat) : Int) = 16 from rfl, hnm] at HNL
  rw [hs1, hnm] at CT
  obtain ⟨m, hm⟩ : ∃ m, count 4 s1 = m := ⟨_, rfl⟩
  obtain ⟨s2, hs2⟩ : ∃ s2, countS 4 s1 = s2 := ⟨_, rfl⟩
  have HRG : Hid (∀ p st, rdP m s2 = (p, st) → rdG s = (⟨nm, p, count 2 st⟩, countS 2 st)) := Lib.hid (fun p st h => rdG_is hnm hs1 hm hs2 h)
  have hm4 := count_le 4 s1 (by omega)
  rw [hm] at hm4
  have HS12 := Lib.hid (And.intro hm hs2)
  clear hb0 n0 hz0 hr0 hr hs1 hnm hm hs2 hlt
  go_enter Try.func21, Try.ntmps21
  go_wp2_with fail
  refine CT.out.mono ?_
  rintro e w1 ⟨rfl, hw1, hg1⟩
  have hsz1 := hg1.size
  have hA2 : SgAt 65 WA (w1.alloc (.cells #[.string ⟨nm.toArray⟩, .slice none 0 0, .int .u8 0] 37)) B g w1.heap.size s1 ⟨nm.toArray⟩ 0 (.slice none 0 0) [] :=
    ⟨hw1.below (ball_new w1 _ _), new_at w1 _ _, OwnG.nil _ _, grown_trans hg1 (grown_of_below (ball_new w1 _ _) _), by rw [HZ0.out]; have := HGL.out; omega, hsz1⟩
  have CC := Lib.hid (Cod.count_any _ B g 4 s1 hA2.rdr)
  rw [HS12.out.1, HS12.out.2] at CC
  have HG1 := Lib.hid hg1
  have HBS := Lib.hid hsz1
  have HA2 := Lib.hid hA2
  have HN1 := Lib.hid ((hg1.block w.heap.size (by rw [HZ0.out]; omega) (by have := HGL.out; simp; omega)).trans HN0.out)
  clear hw1 hg1 hA2 hsz1
  go_wp2_with fail
  refine CC.out.mono ?_
  rintro e w3 ⟨rfl, hw3, hg3⟩
  have HA3 := Lib.hid (HA2.out.read hw3 hg3)
  have HB3 := Lib.hid (show WA.heap.size ≤ w3.heap.size from Nat.le_trans HA2.out.gr.size hg3.size)
  clear hw3 hg3 HA2 CC CT
  obtain ⟨bs, hbs⟩ : ∃ bs, w1.heap.size = bs := ⟨_, rfl⟩
  rw [hbs] at HA3 HBS ⊢
  have HBE := Lib.hid hbs
  clear hbs
  go_wp2_with fail
  go_loopw [9] (fun i wr => ∃ (k : Nat) (A : Option Addr) (c : Nat) (st : Codec.St) (p : List Int), k ≤ m ∧ i = .int .i64 k ∧ Hid (p.length = k) ∧ Hid (SgAt 65 WA wr B g bs st ⟨nm.toArray⟩ 0 (.slice A k c) p) ∧ Hid (rdP m s2 = (p ++ (rdP (m - k) st).1, (rdP (m - k) st).2))) (fun i _ => m - (intOf i).toNat)
  case atStart => exact ⟨0, none, 0, s2, [], Nat.zero_le _, rfl, Lib.hid rfl, HA3, Lib.hid (by simp)⟩
  case round =>
    clear HA3
    obtain ⟨k, A, c, st, p, hk, rfl, HPL, HA, HRP⟩ := hrel
    by_cases hlt : k < m
    · have HST := Lib.hid (rdP_step HRP.out hlt)
      have HD := Lib.hid HA.out.drew
      go_wp2_with fail
      refine Lex.AtS.start (by kernel_rfl) 7 (SigB bs ⟨nm.toArray⟩ 0 (.slice A k c)) (by kernel_rfl) (by kernel_rfl) ?_
      generalize wr.drew = u0 at *
      have S0 : SigB bs ⟨nm.toArray⟩ 0 (.slice A k c) u0 := HD.out.sig
      refine Lex.at_take 0 11 (.pointer (some ⟨bs, 1, none⟩)) rfl rfl (by kernel_rfl) (by decide) (by decide) (fun _ _ _ h => h) (by kernel_rfl) S0 (fun w' hw' => ?_) ?_
      · go_simp
      go_frame
      refine Lex.at_take 1 12 (.slice A k c) rfl rfl (by kernel_rfl) (by decide) (by decide) (fun _ _ _ h => h) (by kernel_rfl) S0 (fun w' hw' => ?_) ?_
      · have x1 := cell_at hw' 1
        go_simp
      go_frame
      refine Lex.at_take 2 13 (.pointer (some ⟨g, 0, none⟩)) rfl rfl (by kernel_rfl) (by decide) (by decide) (fun _ _ _ h => h) (by kernel_rfl) S0 (fun w' hw' => ?_) ?_
      · go_simp
      go_frame
      have CT := Lib.hid (readType_any u0 B g st HD.out.rdr)
      obtain ⟨t, ht⟩ : ∃ t : Int, (count 2 st : Int) = t := ⟨_, rfl⟩
      rw [ht] at CT HST
      clear ht
      refine Lex.at_call 3 14 (f := 37) (args := #[.pointer (some ⟨g, 0, none⟩)]) rfl rfl (by kernel_rfl) (by decide) (by kernel_rfl) ?_ ?_
      · go_simp
      refine CT.out.mono ?_
      rintro e v2 ⟨rfl, h1, h2⟩
      have HD3 := Lib.hid (HD.out.read h1 h2)
      refine ⟨_, rfl, HD3.out.sig, ?_⟩
      clear h1 h2 CT HD S0
      go_frame
      obtain ⟨A2, n2, c2, u2, hap, hs1, hs2, hfz, hat⟩ := HD3.out.one t (by rw [HPL.out]; omega)
      obtain ⟨A2', c2', e2, _, _⟩ := hat.own.form
      injection e2 with e3 e4 e5
      subst e3 e5
      rw [List.length_append, HPL.out] at e4
      have e4 : n2 = k + 1 := e4
      subst e4
      have HAP := Lib.hid hap
      have HAT := Lib.hid hat
      have HS1 := Lib.hid hs1
      have HS2 := Lib.hid hs2
      have HFZ := Lib.hid hfz
      clear hap hat hs1 hs2 hfz
      refine Lex.at_run 4 15 (.slice (some ⟨v2.heap.size, 0, none⟩) 1 1) (v2.alloc (.cells #[.int .u8 t] 35)) rfl rfl (by kernel_rfl) (by decide) (by kernel_rfl) ?_ HS1.out ?_
      · go_simp
      go_frame
      refine at_appG 34 5 16 (.slice A2 (k + 1 : Nat) c2) u2 rfl rfl (by kernel_rfl) (by decide) (by kernel_rfl) (.tmp 12) (.tmp 15) rfl (.slice A k c) (.slice (some ⟨v2.heap.size, 0, none⟩) 1 1) rfl rfl HAP.out HS2.out ?_
      go_frame
      clear HAP HS1
      refine Lex.at_take 6 17 (.pointer (some ⟨bs, 1, none⟩)) rfl rfl (by kernel_rfl) (by decide) (by decide) (fun _ _ _ h => h) (by kernel_rfl) HS2.out (fun w' hw' => ?_) ?_
      · go_simp
      go_frame
      have x1 := cell_at HS2.out 1
      have f1 := HFZ.out
      refine Lex.AtS.last (i := 7) (w' := u2.setCell ⟨bs, 1, none⟩ (.slice A2 (k + 1 : Nat) c2)) rfl (by kernel_rfl) (by kernel_rfl) (by decide) (by kernel_rfl) ?_ ?_
      · go_simp
      go_frame
      clear x1 f1 HS2 HFZ
      generalize u2.setCell ⟨bs, 1, none⟩ (.slice A2 (k + 1 : Nat) c2) = u4 at *
      go_wp2_with fail
      go_roundw
      case rel => exact ⟨k + 1, A2, c2, _, _, by omega, by go_num, Lib.hid (by rw [List.length_append, HPL.out]; rfl), HAT, HST⟩
      case measure => simp [intOf]; omega
    · obtain rfl : k = m := by omega
      have HE := Lib.hid (rdP_end HRP.out)
      have HRD := Lib.hid (HRG.out _ _ HE.out)
      have CT := Lib.hid (readType_any wr B g st HA.out.rdr)
      obtain ⟨t, ht⟩ : ∃ t : Int, (count 2 st : Int) = t := ⟨_, rfl⟩
      rw [ht] at CT HRD
      clear ht
      go_wp2_with fail
      refine CT.out.mono ?_
      rintro e v2 ⟨rfl, h1, h2⟩
      have hA4 := HA.out.read h1 h2
      have hres : v2.heap[w.heap.size]? = some (.cells #[.string ⟨#[]⟩, .slice none 0 0, .int .u8 0] 37 (0, 0)) := (hA4.gr.block w.heap.size (by rw [HZ0.out]; omega) (by have := HGL.out; simp; omega)).trans HN0.out
      have x0 := cell_at hA4.sig 0
      have x1 := cell_at hA4.sig 1
      have x2 := cell_at hA4.sig 2
      have y2 := Cod.free_at hA4.sig 2
      have r0 := cell_at hres 0
      have r1 := cell_at hres 1
      have r2 := cell_at hres 2
      have f0 := Cod.free_at hres 0
      have f1 := Cod.free_at hres 1
      have f2 := Cod.free_at hres 2
      have hne : ¬ bs = w.heap.size := by have := HBS.out; have := HZ0.out; omega
      have hne2 : ¬ w.heap.size = bs := fun e => hne e.symm
      have HA4 := Lib.hid hA4
      have HRS := Lib.hid hres
      clear h1 h2 hA4 hres
      go_wp2_with fail
      have hA5 := HA4.out.res t
      have hR5 : (v2.setCell ⟨bs, 2, none⟩ (.int .u8 t)).heap[w.heap.size]? = some (.cells #[.string ⟨#[]⟩, .slice none 0 0, .int .u8 0] 37 (0, 0)) := (Below.heap_setCell _ _ _ _ (by exact hne2)).trans HRS.out
      generalize v2.setCell ⟨bs, 2, none⟩ (.int .u8 t) = v3 at *
      have n4 := copied (v0 := .string ⟨nm.toArray⟩) (v1 := .slice A k c) (v2 := .int .u8 t) hR5
      have g4 := grown3 v3 w.heap.size (.string ⟨nm.toArray⟩) (.slice A k c) (.int .u8 t)
      generalize ((v3.setCell ⟨w.heap.size, 0, none⟩ (.string ⟨nm.toArray⟩)).setCell ⟨w.heap.size, 1, none⟩ (.slice A k c)).setCell ⟨w.heap.size, 2, none⟩ (.int .u8 t) = W4 at *
      refine bodyPost_ret (results_sig rfl _ _ w.heap.size _ _ _ rfl n4) rfl ?_
      have hgl := HGL.out
      have hz0 := HZ0.out
      have hown : OwnG 1 tyC 35 W4 w.heap.size (.slice A k c) p := OwnG.lower (hA5.own.keep fun b hb => g4.block b (hA5.own.lt b hb).2 (by have := (hA5.own.lt b hb).1; simp; omega)) (by omega)
      have hpl := HPL.out
      subst hpl
      refine ⟨⟨⟨nm.toArray⟩, A, c, p, t⟩, rfl, ?_, ?_, ?_, hown, ?_⟩
      · rw [HRD.out]
        rfl
      · rw [HRD.out]
        exact hA5.rdr.grown g4 (by have := hA5.rdr.2.1; omega) (by omega)
      · exact grown_new (grown_trans (grown_of_below HB0.out (some g)) hA5.gr) g4 (fun i hi => by injection hi with hi; omega)
      · exact HNL.out
end Go.Proofs.Ytofadlenblobnaa.Exp
