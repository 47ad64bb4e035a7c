/-
  The program's files. Condition: the reader is known.
-/
import Derived.Test.YtmihlmlojmdhjaaGreatDoorQ14
import Derived.Test.YtmihlmlojmdhjaaGreatDoorQ16
import Derived.Test.YtmihlmlojmdhjaaGreatDoorQ24
namespace Go.Proofs.YtmihlmlojmdhjaaGreatDoor.Prg
open Go.RowKit Tre Prs
open Lex (Wd wdC wdV bs str Turn)
set_option maxRecDepth 100000
set_option linter.unusedSimpArgs false
variable {lo : Nat}
theorem fn_lenB {r r2 : PS} {f : Tf} (h : Ag (fnD r) f r2) : lenB r2 ≤ lenB r := by
  rcases h with ⟨_, h2⟩ | ⟨h1, _, h3⟩
  · unfold lenB; rw [if_pos h2]; omega
  · have hb : r.bad = false := by
      cases hb : r.bad with
      | false => rfl
      | true => rw [fnD_bad hb] at h1; cases h1
    have := fnD_lenR r
    subst h3
    rw [lenB_lenR h1, lenB_lenR hb]
    omega
theorem fn_step {r r' r2 : PS} {xs : List Tf} {f : Tf} (h : AgFs r xs r') (hb : r'.bad = false) (hl : r'.l ≠ []) (hf : Ag (fnD (mustP r' wFunc)) f r2) : AgFs r (xs ++ [f]) (mustP r2 [59]) ∧ lenB (mustP r2 [59]) < lenB r' := by
  have hm := lenB_must r2 [59]
  cases hi : isW r' wFunc with
  | true =>
    have e : mustP r' wFunc = tl r' := by unfold mustP; rw [if_pos hi]
    rw [e] at hf
    refine ⟨agfs_more h hi hf, ?_⟩
    have := fn_lenB hf
    have := lenB_tl hi
    omega
  | false =>
    have e : mustP r' wFunc = failR r' := by unfold mustP; rw [if_neg (by simp [hi])]
    rw [e] at hf
    have h2 : r2.bad = true := by
      have := fnD_bad (r := failR r') rfl
      rcases hf with hf | hf
      · exact hf.2
      · rw [this] at hf; cases hf.1
    refine ⟨agfs_no h hb hl hi h2, ?_⟩
    have : lenB (mustP r2 [59]) = 0 := by unfold lenB; rw [if_pos (mustP_bad h2)]
    rw [this]
    unfold lenB
    rw [hb]
    simp
structure ImAt (lo : Nat) (w wr : World) (g : Nat) (S : ByteArray) (r r' : PS) (ia : Option Addr) (ic : Nat) (is : List (List UInt8)) : Prop where
  b : FlB lo w wr g r' S ia ic is none 0 []
  told : AgIm r is r'
  len : is.length + lenB r' ≤ 100002
structure FsAt (lo : Nat) (w wr : World) (g : Nat) (S : ByteArray) (ia : Option Addr) (ic : Nat) (is : List (List UInt8)) (r r' : PS) (fa : Option Addr) (fc : Nat) (fs : List Tre.Fn) : Prop where
  b : FlB lo w wr g r' S ia ic is fa fc fs
  told : AgFs r (fs.map coreF) r'
  len : fs.length + lenB r' ≤ 100002
theorem imp_lt {r : PS} (hi : isW r wImport = true) : lenB (mustP (takeR (tl r) [3]) [59]) < lenB r := by
  have h1 := lenB_tl hi
  have h2 := lenB_take (tl r) [3]
  have h3 := lenB_must (takeR (tl r) [3]) [59]
  omega
set_option maxHeartbeats 16000000 in
theorem file_any (w : World) (g : Nat) (r : PS) (h : InG lo w g r) :
    Calls Tryz.prog 36 #[.pointer (some ⟨g, 0, none⟩)] w (EvGL lo w g (fileD r)) := by
  have HG := Lib.hid h.rd.lt
  have HLO := Lib.hid h.rd.wlo
  have HB2 := Lib.hid (two_below w #[.string ⟨#[]⟩, .slice none 0 0, .slice none 0 0] #[.string ⟨#[]⟩, .slice none 0 0, .slice none 0 0] 25 25)
  have HN2 := Lib.hid (two_new_at w #[.string ⟨#[]⟩, .slice none 0 0, .slice none 0 0] #[.string ⟨#[]⟩, .slice none 0 0, .slice none 0 0] 25 25)
  have HI := Lib.hid (h.below HB2.out)
  have B0 : Hid (FlB lo w ((w.alloc (.cells #[.string ⟨#[]⟩, .slice none 0 0, .slice none 0 0] 25)).alloc (.cells #[.string ⟨#[]⟩, .slice none 0 0, .slice none 0 0] 25)) g r ⟨#[]⟩ none 0 [] none 0 []) := Lib.hid ⟨HI.out, HN2.out.2, HN2.out.1, OwnG.nil _ _, OwnG.nil _ _, (fun b e => by cases e), (fun f hf => by simp at hf), (fun f hf => by simp at hf), (fun f hf => by simp at hf), (fun f hf => by simp at hf), (Turn.refl [g] w).below HB2.out, nil_max, HG.out, HLO.out⟩
  have CM := Lib.hid (must_any _ g r [112, 97, 99, 107, 97, 103, 101] HI.out.rd)
  have HLB := Lib.hid (lenB_le h.rd)
  have HQ := Lib.hid (fun (is : List (List UInt8)) (fs : List Tf) (r4 r5 : PS) (h2 : Ag (tellI [] (mustP (takeR (mustP r wPackage) [1, 4]) [59])) is r4) (h3 : AgE (tellF [] r4) fs r5) => ag_file (ag_head r) h2 h3)
  have HL0 := Lib.hid (lenB_must r [112, 97, 99, 107, 97, 103, 101])
  obtain ⟨q, hq⟩ : ∃ q, fileD r = q := ⟨_, rfl⟩
  rw [hq] at HQ ⊢
  obtain ⟨r1, hr1⟩ : ∃ r1, mustP r [112, 97, 99, 107, 97, 103, 101] = r1 := ⟨_, rfl⟩
  unfold wPackage at HQ
  rw [hr1] at CM HQ HL0
  clear h HB2 HN2 HI hr1 hq
  go_enter Tryz.func36, Tryz.ntmps36
  go_wp2_with fail
  refine CM.out.mono ?_
  rintro e w1 ⟨rfl, h1, h2⟩
  have B1 := Lib.hid (B0.out.turned h2 h1)
  clear h1 h2 CM B0
  have HBK := Lib.hid (ball_new w1 #[.int .i64 1, .int .i64 4] 3)
  have B1' := Lib.hid (B1.out.below HBK.out)
  have CT := Lib.hid (take_any _ g w1.heap.size r1 [1, 4] B1'.out.rd.rd (by decide) (by decide) (by have := B1.out.rd.rd.lt; omega) ⟨_, new_at w1 _ _⟩)
  have HSZ := Lib.hid (takeS_size B1.out.rd.rd [1, 4]).1
  have HSD : Hid ((bs (takeW r1 [1, 4]).s).data.toList = (takeW r1 [1, 4]).s) := Lib.hid (Lex.bs_data _)
  have HLT := Lib.hid (lenB_take r1 [1, 4])
  obtain ⟨y, hy⟩ : ∃ y, takeW r1 [1, 4] = y := ⟨_, rfl⟩
  rw [hy] at CT HSZ HSD HQ
  rw [wdV_eq] at CT
  clear hy
  obtain ⟨S, hS⟩ : ∃ S, bs y.s = S := ⟨_, rfl⟩
  rw [hS] at CT HSZ HSD
  have HFS := fun w' => field_s (.int .i64 y.k) (.string S) (.int .i64 y.n) w'
  obtain ⟨r2, hr2⟩ : ∃ r2, takeR r1 [1, 4] = r2 := ⟨_, rfl⟩
  rw [hr2] at CT HQ HLT
  clear hS hr2 HBK
  go_wp2_with fail
  refine CT.out.mono ?_
  rintro e w2 ⟨rfl, h1, h2⟩
  have B2 := Lib.hid (B1'.out.turned h2 h1)
  have B3 := Lib.hid (B2.out.setS HSZ.out)
  clear h1 h2 CT B1 B1'
  have fe0 := free_at B2.out.at_ 0
  obtain ⟨z0, z1, z2⟩ := three_at B2.out.at_
  try simp only [List.length_nil] at z1 z2
  obtain ⟨W3, hW3⟩ : ∃ W, w2.setCell ⟨w.heap.size + 1, 0, none⟩ (.string S) = W := ⟨_, rfl⟩
  rw [hW3] at B3
  have CM := Lib.hid (must_any W3 g r2 [59] B3.out.rd.rd)
  have HL3 := Lib.hid (lenB_must r2 [59])
  obtain ⟨r3, hr3⟩ : ∃ r3, mustP r2 [59] = r3 := ⟨_, rfl⟩
  rw [hr3] at CM HQ HL3
  clear hr3
  go_wp2_with fail
  clear fe0 z0 z1 z2 B2 hW3 HFS
  refine CM.out.mono ?_
  rintro e w4 ⟨rfl, h1, h2⟩
  have START : Hid (ImAt lo w w4 g S r3 r3 none 0 []) := Lib.hid ⟨B3.out.turned h2 h1, agim_start r3, by
    have := HLB.out
    have := HL0.out
    have := HLT.out
    have := HL3.out
    simp
    omega⟩
  clear h1 h2 CM B3
  go_wp2_with fail
  go_loopw [] (fun wr => ∃ (r' : PS) (ia : Option Addr) (ic : Nat) (is : List (List UInt8)), Hid (ImAt lo w wr g S r3 r' ia ic is)) (fun wr => remG wr g)
  case atStart => exact ⟨r3, none, 0, [], START⟩
  case round =>
    clear START
    obtain ⟨r', ia, ic, is, HC⟩ := hrel
    have HM : Hid (remG wr g = lenB r') := Lib.hid HC.out.b.rd.rd.rem
    rcases Bool.eq_false_or_eq_true (isW r' [105, 109, 112, 111, 114, 116]) with hi | hi
    · have CH := Lib.hid (has_yes wr g r' [105, 109, 112, 111, 114, 116] HC.out.b.rd.rd hi)
      have HAG := Lib.hid (agim_more HC.out.told hi)
      have HLI := Lib.hid (imp_lt hi)
      clear hi
      go_wp2_with fail
      refine CH.out.mono ?_
      rintro e v1 ⟨rfl, h1, h2⟩
      have BI := Lib.hid ((HC.out.b.turned h2 h1).below (Below.refl _ _).drew)
      have HLEN := Lib.hid HC.out.len
      clear h1 h2 CH HC
      go_wp2_with fail
      refine Lex.AtS.start (by kernel_rfl) 9 (fun u => u.heap[w.heap.size + 1]? = some (.cells #[.string S, .slice ia is.length ic, .slice none 0 0] 25 (0, 0))) (by kernel_rfl) (by kernel_rfl) ?_
      generalize v1.drew = u0 at *
      refine Lex.at_take 0 15 (.pointer (some ⟨w.heap.size + 1, 1, none⟩)) rfl rfl (by kernel_rfl) (by decide) (by decide) (fun _ _ _ h => h) rfl BI.out.at_ (fun w' hw' => ?_) ?_
      · go_simp
      go_frame
      refine Lex.at_take 1 16 (.slice ia is.length ic) rfl rfl (by kernel_rfl) (by decide) (by decide) (fun _ _ _ h => h) rfl BI.out.at_ (fun w' hw' => ?_) ?_
      · obtain ⟨x0, x1, x2⟩ := three_at hw'
        go_simp
      go_frame
      refine Lex.at_take 2 17 (.pointer (some ⟨g, 0, none⟩)) rfl rfl (by kernel_rfl) (by decide) (by decide) (fun _ _ _ h => h) rfl BI.out.at_ (fun w' hw' => ?_) ?_
      · exact rfl
      go_frame
      have HBK := Lib.hid (ball_new u0 #[.int .i64 3] 3)
      have BI2 := Lib.hid (BI.out.below HBK.out)
      have CT := Lib.hid (take_any _ g u0.heap.size (tl r') [3] BI2.out.rd.rd (by decide) (by decide) (by have := BI.out.rd.rd.lt; omega) ⟨_, new_at u0 _ _⟩)
      have HTX := Lib.hid (takeS_size BI2.out.rd.rd [3]).2
      obtain ⟨y, hy⟩ : ∃ y, takeW (tl r') [3] = y := ⟨_, rfl⟩
      rw [hy] at CT HTX HAG
      rw [wdV_eq] at CT
      clear hy
      obtain ⟨r5, hr5⟩ : ∃ r5, takeR (tl r') [3] = r5 := ⟨_, rfl⟩
      rw [hr5] at CT HAG HLI
      clear hr5
      refine Lex.at_run 3 18 (.slice (some ⟨u0.heap.size, 0, none⟩) 1 1) (u0.alloc (.cells #[.int .i64 3] 3)) rfl rfl (by kernel_rfl) (by decide) rfl ?_ ?_ ?_
      · go_simp
      · exact BI2.out.at_
      go_frame
      refine Lex.AtS.call (i := 4) (f := 79) (args := #[.pointer (some ⟨g, 0, none⟩), .slice (some ⟨u0.heap.size, 0, none⟩) 1 1]) rfl (by kernel_rfl) (by decide) rfl ?_ ?_
      · go_simp
      refine CT.out.mono ?_
      rintro e v2 ⟨rfl, h1, h2⟩
      have BI3 := Lib.hid (BI2.out.turned h2 h1)
      refine ⟨_, rfl, BI3.out.at_, ?_⟩
      clear h1 h2 CT BI2 BI HBK
      go_frame
      refine Lex.at_take 5 20 (.string (bs y.s)) rfl rfl (by kernel_rfl) (by decide) (by decide) (fun _ _ _ h => h) rfl BI3.out.at_ (fun w' hw' => ?_) ?_
      · have HF := field_s (.int .i64 y.k) (.string (bs y.s)) (.int .i64 y.n) w'
        go_simp
      go_frame
      obtain ⟨A2, c2, u2, hap, hat, hb⟩ := BI3.out.pushI HTX.out (by have := HLEN.out; omega)
      have BI4 := Lib.hid (BI3.out.below (ball_new v2 #[.string (bs y.s)] 9))
      have HAP := Lib.hid hap
      have HAT := Lib.hid hat
      obtain ⟨n4, hn4⟩ : ∃ n, (is ++ [y.s]).length = n := ⟨_, rfl⟩
      have HN4 : Hid (n4 = is.length + 1) := Lib.hid (by rw [← hn4, List.length_append]; rfl)
      have B6 := Lib.hid hb
      rw [hn4] at HAP B6
      clear hap hat hb
      refine Lex.at_run 6 21 (.slice (some ⟨v2.heap.size, 0, none⟩) 1 1) (v2.alloc (.cells #[.string (bs y.s)] 9)) rfl rfl (by kernel_rfl) (by decide) rfl ?_ ?_ ?_
      · go_simp
      · exact BI4.out.at_
      go_frame
      refine at_appG 22 7 22 (.slice A2 n4 c2) u2 rfl rfl (by kernel_rfl) (by decide) rfl (.tmp 16) (.tmp 21) rfl (.slice ia is.length ic) (.slice (some ⟨v2.heap.size, 0, none⟩) 1 1) rfl rfl HAP.out HAT.out ?_
      go_frame
      clear HAP BI3 BI4
      refine Lex.at_take 8 23 (.pointer (some ⟨w.heap.size + 1, 1, none⟩)) rfl rfl (by kernel_rfl) (by decide) (by decide) (fun _ _ _ h => h) rfl HAT.out (fun w' hw' => ?_) ?_
      · go_simp
      go_frame
      obtain ⟨x0, x1, x2⟩ := three_at HAT.out
      have f1 := free_at HAT.out 1
      refine Lex.AtS.last (i := 9) (w' := u2.setCell ⟨w.heap.size + 1, 1, none⟩ (.slice A2 n4 c2)) rfl (by kernel_rfl) (by kernel_rfl) (by decide) rfl ?_ ?_
      · go_simp
      go_frame
      clear x0 x1 x2 f1 HAT
      generalize u2.setCell ⟨w.heap.size + 1, 1, none⟩ (.slice A2 n4 c2) = u4 at *
      have CM := Lib.hid (must_any u4 g r5 [59] B6.out.rd.rd)
      go_wp2_with fail
      refine CM.out.mono ?_
      rintro e v5 ⟨rfl, h1, h2⟩
      have HN : Hid (ImAt lo w v5 g S r3 (mustP r5 [59]) A2 c2 (is ++ [y.s])) := Lib.hid ⟨B6.out.turned h2 h1, HAG.out, by
        have := HLEN.out
        have := HLI.out
        rw [List.length_append]
        simp
        omega⟩
      clear h1 h2 CM B6 HAG
      go_wp2_with fail
      go_roundw
      case rel => exact ⟨_, A2, c2, _, HN⟩
      case measure =>
        rw [HN.out.b.rd.rd.rem, HM.out]
        exact HLI.out
    · have CH := Lib.hid (has_no wr g r' [105, 109, 112, 111, 114, 116] HC.out.b.rd.rd hi)
      have HIM := Lib.hid (agim_end HC.out.told hi)
      have HIL : Hid (is.length ≤ 200000) := Lib.hid (by have := HC.out.len; omega)
      have HL4 : Hid (lenB r' ≤ 100002) := Lib.hid (by have := HC.out.len; omega)
      clear hi
      go_wp2_with fail
      refine CH.out.mono ?_
      rintro e v1 ⟨rfl, h1, h2⟩
      have START : Hid (FsAt lo w v1 g S ia ic is r' r' none 0 []) := Lib.hid ⟨HC.out.b.turned h2 h1, agfs_start r', by have := HL4.out; simp; omega⟩
      have HQ2 := Lib.hid (fun (fs : List Tf) (r5 : PS) (h3 : AgE (tellF [] r') fs r5) => HQ.out is fs r' r5 HIM.out h3)
      clear h1 h2 CH HC HM HQ HIM
      obtain ⟨wo, rfl⟩ : ∃ wo : World, wo = wr := ⟨_, rfl⟩
      go_wp2_with fail
      go_loopw [] (fun wr => ∃ (r6 : PS) (fa : Option Addr) (fc : Nat) (fs : List Tre.Fn), Hid (FsAt lo w wr g S ia ic is r' r6 fa fc fs)) (fun wr => remG wr g)
      case atStart => exact ⟨r', none, 0, [], START⟩
      case round =>
        clear START
        obtain ⟨r6, fa, fc, fs, HC⟩ := hrel
        have HM : Hid (remG wr g = lenB r6) := Lib.hid HC.out.b.rd.rd.rem
        by_cases hl : r6.l = []
        · have CE := Lib.hid (ended_yes HC.out.b.rd.rd hl)
          have HAE := Lib.hid (HQ2.out _ _ (agfs_end HC.out.told hl))
          have HFL : Hid (fs.length ≤ 200000) := Lib.hid (by have := HC.out.len; omega)
          have B := Lib.hid HC.out.b
          clear hl HC HM
          go_wp2_with fail
          refine CE.out.mono ?_
          rintro e v2 ⟨rfl, rfl⟩
          have CB1 := Lib.hid (bound_any v2 g r6 is.length 8 8 rfl B.out.rd.rd)
          obtain ⟨x0, x1, x2⟩ := three_at B.out.at_
          go_wp2_with fail
          refine CB1.out.mono ?_
          rintro e v3 ⟨rfl, h1, h2⟩
          have B2 := Lib.hid (B.out.turned h2 h1)
          clear h1 h2 CB1 x0 x1 x2 B
          have CB2 := Lib.hid (bound_any v3 g _ fs.length 32 32 rfl B2.out.rd.rd)
          obtain ⟨x0, x1, x2⟩ := three_at B2.out.at_
          go_wp2_with fail
          refine CB2.out.mono ?_
          rintro e v4 ⟨rfl, h1, h2⟩
          have B3 := Lib.hid (B2.out.turned h2 h1)
          clear h1 h2 CB2 x0 x1 x2 B2
          obtain ⟨x0, x1, x2⟩ := three_at B3.out.at_
          obtain ⟨y0, y1, y2⟩ := three_at B3.out.res
          have f0 := free_at B3.out.res 0
          have f1 := free_at B3.out.res 1
          have f2 := free_at B3.out.res 2
          go_wp2_with fail
          have HT := Lib.hid (turn3 v4 w.heap.size (.string S) (.slice ia is.length ic) (.slice fa fs.length fc))
          refine bodyPost_ret (results_fl rfl _ _ w.heap.size _ _ _ rfl (set3 B3.out.res)) rfl ?_
          exact B3.out.done HT.out HIL.out HFL.out (by
            have h := HAE.out
            rw [List.length_map] at h
            rw [HSD.out]
            exact h)
        · have hpos : 0 < r6.l.length := List.length_pos_iff.2 hl
          have CE := Lib.hid (ended_no HC.out.b.rd.rd hpos)
          have hb6 : r6.bad = false := by
            cases hb : r6.bad with
            | false => rfl
            | true => exact absurd (HC.out.b.rd.rd.ok hb) hl
          have HST := Lib.hid (fun (f : Tf) (r2 : PS) (h' : Ag (fnD (mustP r6 wFunc)) f r2) => fn_step HC.out.told hb6 hl h')
          have HLEN := Lib.hid HC.out.len
          have B := Lib.hid HC.out.b
          clear hl hpos hb6 HC
          go_wp2_with fail
          refine CE.out.mono ?_
          rintro e v2 ⟨rfl, rfl⟩
          have BI := Lib.hid (B.out.below (Below.refl _ _).drew)
          clear B CE
          go_wp2_with fail
          refine Lex.AtS.start (by kernel_rfl) 7 (fun u => u.heap[w.heap.size + 1]? = some (.cells #[.string S, .slice ia is.length ic, .slice fa fs.length fc] 25 (0, 0))) (by kernel_rfl) (by kernel_rfl) ?_
          generalize v2.drew = u0 at *
          refine Lex.at_take 0 29 (.pointer (some ⟨w.heap.size + 1, 2, none⟩)) rfl rfl (by kernel_rfl) (by decide) (by decide) (fun _ _ _ h => h) rfl BI.out.at_ (fun w' hw' => ?_) ?_
          · go_simp
          go_frame
          refine Lex.at_take 1 30 (.slice fa fs.length fc) rfl rfl (by kernel_rfl) (by decide) (by decide) (fun _ _ _ h => h) rfl BI.out.at_ (fun w' hw' => ?_) ?_
          · obtain ⟨x0, x1, x2⟩ := three_at hw'
            go_simp
          go_frame
          refine Lex.at_take 2 31 (.pointer (some ⟨g, 0, none⟩)) rfl rfl (by kernel_rfl) (by decide) (by decide) (fun _ _ _ h => h) rfl BI.out.at_ (fun w' hw' => ?_) ?_
          · exact rfl
          go_frame
          have CF := Lib.hid (function_any u0 g r6 BI.out.rd)
          refine Lex.AtS.call (i := 3) (f := 81) (args := #[.pointer (some ⟨g, 0, none⟩)]) rfl (by kernel_rfl) (by decide) rfl ?_ ?_
          · go_simp
          refine CF.out.mono ?_
          rintro e v3 ⟨y, r7, rfl, hf1, hf2, hf3, hf4, hf5⟩
          have BI3 := Lib.hid (BI.out.turned hf5 hf4)
          have HS7 := Lib.hid (HST.out _ _ hf1)
          obtain ⟨A2, c2, u2, hap, hat, hb⟩ := BI3.out.pushF hf2 hf3 (fun b hb => (BI.out.fown.lt b hb).2) (by have := lt_of_heap BI.out.at_; omega) (by have := HLEN.out; omega)
          refine ⟨_, rfl, BI3.out.at_, ?_⟩
          have BI4 := Lib.hid (BI3.out.below (ball_new v3 #[.string y.s, .slice y.pa y.p.length y.pc, .int .u8 y.r, .slice y.ba y.b.length y.bc] 36))
          have HAP := Lib.hid hap
          have HAT := Lib.hid hat
          obtain ⟨zs, hzs⟩ : ∃ zs, fs ++ [y] = zs := ⟨_, rfl⟩
          have HZ : Hid (zs.map coreF = fs.map coreF ++ [coreF y] ∧ zs.length = fs.length + 1) := Lib.hid (by rw [← hzs]; simp)
          have B6 := Lib.hid hb
          rw [hzs] at HAP B6
          obtain ⟨n4, hn4⟩ : ∃ n, zs.length = n := ⟨_, rfl⟩
          rw [hn4] at HAP B6
          clear hap hat hb hf1 hf2 hf3 hf4 hf5 CF BI hzs
          unfold fnV
          go_frame
          refine Lex.at_run 4 33 (.slice (some ⟨v3.heap.size, 0, none⟩) 1 1) (v3.alloc (.cells #[.string y.s, .slice y.pa y.p.length y.pc, .int .u8 y.r, .slice y.ba y.b.length y.bc] 36)) rfl rfl (by kernel_rfl) (by decide) rfl ?_ ?_ ?_
          · go_simp
          · exact BI4.out.at_
          go_frame
          refine at_appG 23 5 34 (.slice A2 n4 c2) u2 rfl rfl (by kernel_rfl) (by decide) rfl (.tmp 30) (.tmp 33) rfl (.slice fa fs.length fc) (.slice (some ⟨v3.heap.size, 0, none⟩) 1 1) rfl rfl HAP.out HAT.out ?_
          go_frame
          clear HAP BI3 BI4
          refine Lex.at_take 6 35 (.pointer (some ⟨w.heap.size + 1, 2, none⟩)) rfl rfl (by kernel_rfl) (by decide) (by decide) (fun _ _ _ h => h) rfl HAT.out (fun w' hw' => ?_) ?_
          · go_simp
          go_frame
          obtain ⟨x0, x1, x2⟩ := three_at HAT.out
          have f2 := free_at HAT.out 2
          refine Lex.AtS.last (i := 7) (w' := u2.setCell ⟨w.heap.size + 1, 2, none⟩ (.slice A2 n4 c2)) rfl (by kernel_rfl) (by kernel_rfl) (by decide) rfl ?_ ?_
          · go_simp
          go_frame
          clear x0 x1 x2 f2 HAT
          generalize u2.setCell ⟨w.heap.size + 1, 2, none⟩ (.slice A2 n4 c2) = u4 at *
          have CM := Lib.hid (must_any u4 g r7 [59] B6.out.rd.rd)
          go_wp2_with fail
          refine CM.out.mono ?_
          rintro e v5 ⟨rfl, h1, h2⟩
          have HN : Hid (FsAt lo w v5 g S ia ic is r' (mustP r7 [59]) A2 c2 zs) := Lib.hid ⟨B6.out.turned h2 h1, by rw [HZ.out.1]; exact HS7.out.1, by
            have := HLEN.out
            have := HS7.out.2
            have := HZ.out.2
            omega⟩
          clear h1 h2 CM B6
          go_wp2_with fail
          go_roundw
          case rel => exact ⟨_, A2, c2, zs, HN⟩
          case measure =>
            rw [HN.out.b.rd.rd.rem, HM.out]
            exact HS7.out.2
end Go.Proofs.YtmihlmlojmdhjaaGreatDoor.Prg
/- The document's Nest: how deep the words' brackets stand. Condition: the words are known. -/
namespace Go.Proofs.YtmihlmlojmdhjaaGreatDoor.Prs
open Go.RowKit Tre
open Lex (Wd wdC wdV bs str Turn)
set_option maxRecDepth 100000
set_option linter.unusedSimpArgs false
/-- One word more: the depth, the most. -/
def nest1 (p : Nat × Nat) (x : Wd) : Nat × Nat :=
  if x.k == 5 then
    (if x.s == [40] || x.s == [123] then (p.1 + 1, max p.2 (p.1 + 1)) else if x.s == [41] || x.s == [125] then (p.1 - 1, max p.2 (p.1 - 1)) else (p.1, max p.2 p.1))
  else p
theorem nest1_eq (d m : Nat) (k n : Int) (s : List UInt8) : nest1 (d, m) ⟨k, s, n⟩ = if k == 5 then
    (if s == [40] || s == [123] then (d + 1, max m (d + 1)) else if s == [41] || s == [125] then (d - 1, max m (d - 1)) else (d, max m d))
  else (d, m) := rfl
def nestN (l : List Wd) : Nat := (l.foldl nest1 (0, 0)).2
theorem nest_le : ∀ (l : List Wd) (p : Nat × Nat) (b : Nat), p.1 ≤ b → p.2 ≤ b → (l.foldl nest1 p).1 ≤ b + l.length ∧ (l.foldl nest1 p).2 ≤ b + l.length
  | [], p, b, h1, h2 => ⟨h1, h2⟩
  | x :: l, p, b, h1, h2 => by
    have hs : (nest1 p x).1 ≤ b + 1 ∧ (nest1 p x).2 ≤ b + 1 := by
      unfold nest1
      split
      · split
        · simp only; omega
        · split <;> simp only <;> omega
      · omega
    have := nest_le l (nest1 p x) (b + 1) hs.1 hs.2
    rw [List.foldl_cons, List.length_cons]
    omega
theorem nest_take {l : List Wd} {k : Nat} {x : Wd} (h : l[k]? = some x) : (l.take (k + 1)).foldl nest1 (0, 0) = nest1 ((l.take k).foldl nest1 (0, 0)) x := by
  rw [List.take_add_one, h, List.foldl_append]
  rfl
end Go.Proofs.YtmihlmlojmdhjaaGreatDoor.Prs
/- The program's Nest: how deep the words' brackets stand. Condition: the words are known. -/
namespace Go.Proofs.YtmihlmlojmdhjaaGreatDoor.Prg
open Go.RowKit Tre Prs
open Lex (Wd wdC wdV bs str Turn)
set_option maxRecDepth 100000
set_option linter.unusedSimpArgs false
variable {lo : Nat}
abbrev isB (x : Wd) (s : List UInt8) : Bool := isK x s
/-- One word more: the depth, the most. -/
def nest2 (p : Nat × Nat) (x : Wd) : Nat × Nat :=
  if isB x [40] || isB x [123] then (p.1 + 1, max p.2 (p.1 + 1)) else if isB x [41] || isB x [125] then (p.1 - 1, p.2) else p
theorem nest2_eq (d m : Nat) (x : Wd) : nest2 (d, m) x = if isB x [40] || isB x [123] then (d + 1, max m (d + 1)) else if isB x [41] || isB x [125] then (d - 1, m) else (d, m) := rfl
def nestG (l : List Wd) : Nat := (l.foldl nest2 (0, 0)).2
theorem nest2_le : ∀ (l : List Wd) (p : Nat × Nat) (b : Nat), p.1 ≤ b → p.2 ≤ b → (l.foldl nest2 p).1 ≤ b + l.length ∧ (l.foldl nest2 p).2 ≤ b + l.length
  | [], p, b, h1, h2 => ⟨h1, h2⟩
  | x :: l, p, b, h1, h2 => by
    have hs : (nest2 p x).1 ≤ b + 1 ∧ (nest2 p x).2 ≤ b + 1 := by
      unfold nest2
      split
      · simp only; omega
      · split
        · simp only; omega
        · omega
    have := nest2_le l (nest2 p x) (b + 1) hs.1 hs.2
    rw [List.foldl_cons, List.length_cons]
    omega
theorem nest2_take {l : List Wd} {k : Nat} {x : Wd} (h : l[k]? = some x) : (l.take (k + 1)).foldl nest2 (0, 0) = nest2 ((l.take k).foldl nest2 (0, 0)) x := by
  rw [List.take_add_one, h, List.foldl_append]
  rfl
theorem isB_any (w : World) (x : Wd) (s : List UInt8) (b : Bool) (h : isB x s = b) : Calls Tryz.prog 34 #[.agg #[.int .i64 x.k, .string (bs x.s), .int .i64 x.n], .string (bs s)] w (EndsB (.bool b) w) := by
  have := is_any w x s
  rw [wdV_eq] at this
  rw [← h]
  exact this
set_option maxHeartbeats 8000000 in
theorem nestg_any (l : List Wd) (A : Option Addr) (c : Nat) (w : World) (h : Row 3 wdC w A l) (hl : l.length ≤ 1000000) : Calls Tryz.prog 16 #[.slice A l.length c] w (EndsB (.int .i64 (nestG l : Nat)) w) := by
  have HH := Lib.hid h
  obtain ⟨n, hn⟩ : ∃ n, l.length = n := ⟨_, rfl⟩
  have HN := Lib.hid hn
  rw [hn] at hl ⊢
  clear h hn
  go_enter Tryz.func16, Tryz.ntmps16
  go_wp2_with fail
  go_loopw [3, 4, 9] (fun d m i wr => ∃ k : Nat, k ≤ n ∧ i = .int .i64 k ∧ d = .int .i64 (((l.take k).foldl nest2 (0, 0)).1 : Nat) ∧ m = .int .i64 (((l.take k).foldl nest2 (0, 0)).2 : Nat) ∧ Below w.heap.size w wr) (fun _ _ i _ => n - (intOf i).toNat)
  case atStart => exact ⟨0, Nat.zero_le _, rfl, rfl, rfl, Below.refl _ _⟩
  case round =>
    obtain ⟨k, hk, rfl, rfl, rfl, hb⟩ := hrel
    have hle := nest2_le (l.take k) (0, 0) 0 (Nat.le_refl _) (Nat.le_refl _)
    have HST := Lib.hid (fun x (hx : l[k]? = some x) => nest2_take hx)
    rw [List.length_take] at hle
    have HSE : Hid (k = n → nestG l = ((l.take k).foldl nest2 (0, 0)).2) := Lib.hid (fun e => by rw [e, ← HN.out, List.take_length]; rfl)
    obtain ⟨p, hp⟩ : ∃ p, (l.take k).foldl nest2 (0, 0) = p := ⟨_, rfl⟩
    rw [hp] at hle HST HSE ⊢
    obtain ⟨d, m⟩ := p
    dsimp only at hle HSE ⊢
    have hd : d ≤ 1000000 := by omega
    have hm : m ≤ 1000000 := by omega
    clear hp hle
    by_cases hlt : k < n
    · obtain ⟨x, hx⟩ : ∃ x, l[k]? = some x := ⟨_, List.getElem?_eq_getElem (by rw [HN.out]; exact hlt)⟩
      have HS1 := Lib.hid (HST.out x hx)
      obtain ⟨b1, o1, rfl, hc1⟩ := HH.out.at_ hb hx
      obtain ⟨x0, x1, x2⟩ := wdC_at hc1
      have HB := Lib.hid (hb.trans ((word_box wr x).mono hb.size))
      have hn0 := new_at wr #[.int .i64 x.k, .string (bs x.s), .int .i64 x.n] 82
      obtain ⟨c0, c1, c2⟩ := three_at hn0
      clear hc1 hx HST HSE hb
      rw [nest2_eq] at HS1
      rcases Bool.eq_false_or_eq_true (isB x [40]) with t40 | t40
      · have HS2 : Hid ((l.take (k + 1)).foldl nest2 (0, 0) = (d + 1, max m (d + 1))) := Lib.hid (by rw [HS1.out]; simp [t40])
        have C40 := Lib.hid (fun w' => isB_any w' x [40] true t40)
        clear HS1 t40
        obtain ⟨xk, xs, xn⟩ := x
        dsimp only at *
        generalize bs xs = X at *
        go_wp2_with fail
        refine (C40.out _).mono ?_
        rintro e w2 ⟨rfl, hb2⟩
        replace HB := Lib.hid (HB.out.trans (hb2.mono HB.out.size))
        replace hn0 := (hb2.block _ (lt_of_heap hn0)).trans hn0
        obtain ⟨c0, c1, c2⟩ := three_at hn0
        clear hb2
        go_wp2_with fail
        go_roundw
        case rel => exact ⟨k + 1, by omega, rfl, by rw [HS2.out] <;> first | rfl | (simp; done) | (simp; omega), by rw [HS2.out] <;> first | rfl | (simp; done) | (simp; omega), HB.out⟩
        case measure => simp [intOf]; omega
      · rcases Bool.eq_false_or_eq_true (isB x [123]) with t123 | t123
        · have HS2 : Hid ((l.take (k + 1)).foldl nest2 (0, 0) = (d + 1, max m (d + 1))) := Lib.hid (by rw [HS1.out]; simp [t40, t123])
          have C40 := Lib.hid (fun w' => isB_any w' x [40] false t40)
          have C123 := Lib.hid (fun w' => isB_any w' x [123] true t123)
          clear HS1 t40 t123
          obtain ⟨xk, xs, xn⟩ := x
          dsimp only at *
          generalize bs xs = X at *
          go_wp2_with fail
          refine (C40.out _).mono ?_
          rintro e w2 ⟨rfl, hb2⟩
          replace HB := Lib.hid (HB.out.trans (hb2.mono HB.out.size))
          replace hn0 := (hb2.block _ (lt_of_heap hn0)).trans hn0
          obtain ⟨c0, c1, c2⟩ := three_at hn0
          clear hb2
          go_wp2_with fail
          refine (C123.out _).mono ?_
          rintro e w3 ⟨rfl, hb3⟩
          replace HB := Lib.hid (HB.out.trans (hb3.mono HB.out.size))
          replace hn0 := (hb3.block _ (lt_of_heap hn0)).trans hn0
          obtain ⟨c0, c1, c2⟩ := three_at hn0
          clear hb3
          go_wp2_with fail
          go_roundw
          case rel => exact ⟨k + 1, by omega, rfl, by rw [HS2.out] <;> first | rfl | (simp; done) | (simp; omega), by rw [HS2.out] <;> first | rfl | (simp; done) | (simp; omega), HB.out⟩
          case measure => simp [intOf]; omega
        · rcases Bool.eq_false_or_eq_true (isB x [41]) with t41 | t41
          · rcases Nat.eq_zero_or_pos d with hd0 | hd0
            · subst hd0
              have HS2 : Hid ((l.take (k + 1)).foldl nest2 (0, 0) = (0 - 1, m)) := Lib.hid (by rw [HS1.out]; simp [t40, t123, t41])
              have C40 := Lib.hid (fun w' => isB_any w' x [40] false t40)
              have C123 := Lib.hid (fun w' => isB_any w' x [123] false t123)
              have C41 := Lib.hid (fun w' => isB_any w' x [41] true t41)
              clear HS1 t40 t123 t41
              obtain ⟨xk, xs, xn⟩ := x
              dsimp only at *
              generalize bs xs = X at *
              go_wp2_with fail
              refine (C40.out _).mono ?_
              rintro e w2 ⟨rfl, hb2⟩
              replace HB := Lib.hid (HB.out.trans (hb2.mono HB.out.size))
              replace hn0 := (hb2.block _ (lt_of_heap hn0)).trans hn0
              obtain ⟨c0, c1, c2⟩ := three_at hn0
              clear hb2
              go_wp2_with fail
              refine (C123.out _).mono ?_
              rintro e w3 ⟨rfl, hb3⟩
              replace HB := Lib.hid (HB.out.trans (hb3.mono HB.out.size))
              replace hn0 := (hb3.block _ (lt_of_heap hn0)).trans hn0
              obtain ⟨c0, c1, c2⟩ := three_at hn0
              clear hb3
              go_wp2_with fail
              refine (C41.out _).mono ?_
              rintro e w4 ⟨rfl, hb4⟩
              replace HB := Lib.hid (HB.out.trans (hb4.mono HB.out.size))
              replace hn0 := (hb4.block _ (lt_of_heap hn0)).trans hn0
              obtain ⟨c0, c1, c2⟩ := three_at hn0
              clear hb4
              go_wp2_with fail
              go_roundw
              case rel => exact ⟨k + 1, by omega, rfl, by rw [HS2.out] <;> first | rfl | (simp; done) | (simp; omega), by rw [HS2.out] <;> first | rfl | (simp; done) | (simp; omega), HB.out⟩
              case measure => simp [intOf]; omega
            · have HS2 : Hid ((l.take (k + 1)).foldl nest2 (0, 0) = (d - 1, m)) := Lib.hid (by rw [HS1.out]; simp [t40, t123, t41])
              have C40 := Lib.hid (fun w' => isB_any w' x [40] false t40)
              have C123 := Lib.hid (fun w' => isB_any w' x [123] false t123)
              have C41 := Lib.hid (fun w' => isB_any w' x [41] true t41)
              clear HS1 t40 t123 t41
              obtain ⟨xk, xs, xn⟩ := x
              dsimp only at *
              generalize bs xs = X at *
              go_wp2_with fail
              refine (C40.out _).mono ?_
              rintro e w2 ⟨rfl, hb2⟩
              replace HB := Lib.hid (HB.out.trans (hb2.mono HB.out.size))
              replace hn0 := (hb2.block _ (lt_of_heap hn0)).trans hn0
              obtain ⟨c0, c1, c2⟩ := three_at hn0
              clear hb2
              go_wp2_with fail
              refine (C123.out _).mono ?_
              rintro e w3 ⟨rfl, hb3⟩
              replace HB := Lib.hid (HB.out.trans (hb3.mono HB.out.size))
              replace hn0 := (hb3.block _ (lt_of_heap hn0)).trans hn0
              obtain ⟨c0, c1, c2⟩ := three_at hn0
              clear hb3
              go_wp2_with fail
              refine (C41.out _).mono ?_
              rintro e w4 ⟨rfl, hb4⟩
              replace HB := Lib.hid (HB.out.trans (hb4.mono HB.out.size))
              replace hn0 := (hb4.block _ (lt_of_heap hn0)).trans hn0
              obtain ⟨c0, c1, c2⟩ := three_at hn0
              clear hb4
              go_wp2_with fail
              go_roundw
              case rel => exact ⟨k + 1, by omega, rfl, by rw [HS2.out] <;> first | rfl | (simp; done) | (simp; omega), by rw [HS2.out] <;> first | rfl | (simp; done) | (simp; omega), HB.out⟩
              case measure => simp [intOf]; omega
          · rcases Bool.eq_false_or_eq_true (isB x [125]) with t125 | t125
            · rcases Nat.eq_zero_or_pos d with hd0 | hd0
              · subst hd0
                have HS2 : Hid ((l.take (k + 1)).foldl nest2 (0, 0) = (0 - 1, m)) := Lib.hid (by rw [HS1.out]; simp [t40, t123, t41, t125])
                have C40 := Lib.hid (fun w' => isB_any w' x [40] false t40)
                have C123 := Lib.hid (fun w' => isB_any w' x [123] false t123)
                have C41 := Lib.hid (fun w' => isB_any w' x [41] false t41)
                have C125 := Lib.hid (fun w' => isB_any w' x [125] true t125)
                clear HS1 t40 t123 t41 t125
                obtain ⟨xk, xs, xn⟩ := x
                dsimp only at *
                generalize bs xs = X at *
                go_wp2_with fail
                refine (C40.out _).mono ?_
                rintro e w2 ⟨rfl, hb2⟩
                replace HB := Lib.hid (HB.out.trans (hb2.mono HB.out.size))
                replace hn0 := (hb2.block _ (lt_of_heap hn0)).trans hn0
                obtain ⟨c0, c1, c2⟩ := three_at hn0
                clear hb2
                go_wp2_with fail
                refine (C123.out _).mono ?_
                rintro e w3 ⟨rfl, hb3⟩
                replace HB := Lib.hid (HB.out.trans (hb3.mono HB.out.size))
                replace hn0 := (hb3.block _ (lt_of_heap hn0)).trans hn0
                obtain ⟨c0, c1, c2⟩ := three_at hn0
                clear hb3
                go_wp2_with fail
                refine (C41.out _).mono ?_
                rintro e w4 ⟨rfl, hb4⟩
                replace HB := Lib.hid (HB.out.trans (hb4.mono HB.out.size))
                replace hn0 := (hb4.block _ (lt_of_heap hn0)).trans hn0
                obtain ⟨c0, c1, c2⟩ := three_at hn0
                clear hb4
                go_wp2_with fail
                refine (C125.out _).mono ?_
                rintro e w5 ⟨rfl, hb5⟩
                replace HB := Lib.hid (HB.out.trans (hb5.mono HB.out.size))
                replace hn0 := (hb5.block _ (lt_of_heap hn0)).trans hn0
                obtain ⟨c0, c1, c2⟩ := three_at hn0
                clear hb5
                go_wp2_with fail
                go_roundw
                case rel => exact ⟨k + 1, by omega, rfl, by rw [HS2.out] <;> first | rfl | (simp; done) | (simp; omega), by rw [HS2.out] <;> first | rfl | (simp; done) | (simp; omega), HB.out⟩
                case measure => simp [intOf]; omega
              · have HS2 : Hid ((l.take (k + 1)).foldl nest2 (0, 0) = (d - 1, m)) := Lib.hid (by rw [HS1.out]; simp [t40, t123, t41, t125])
                have C40 := Lib.hid (fun w' => isB_any w' x [40] false t40)
                have C123 := Lib.hid (fun w' => isB_any w' x [123] false t123)
                have C41 := Lib.hid (fun w' => isB_any w' x [41] false t41)
                have C125 := Lib.hid (fun w' => isB_any w' x [125] true t125)
                clear HS1 t40 t123 t41 t125
                obtain ⟨xk, xs, xn⟩ := x
                dsimp only at *
                generalize bs xs = X at *
                go_wp2_with fail
                refine (C40.out _).mono ?_
                rintro e w2 ⟨rfl, hb2⟩
                replace HB := Lib.hid (HB.out.trans (hb2.mono HB.out.size))
                replace hn0 := (hb2.block _ (lt_of_heap hn0)).trans hn0
                obtain ⟨c0, c1, c2⟩ := three_at hn0
                clear hb2
                go_wp2_with fail
                refine (C123.out _).mono ?_
                rintro e w3 ⟨rfl, hb3⟩
                replace HB := Lib.hid (HB.out.trans (hb3.mono HB.out.size))
                replace hn0 := (hb3.block _ (lt_of_heap hn0)).trans hn0
                obtain ⟨c0, c1, c2⟩ := three_at hn0
                clear hb3
                go_wp2_with fail
                refine (C41.out _).mono ?_
                rintro e w4 ⟨rfl, hb4⟩
                replace HB := Lib.hid (HB.out.trans (hb4.mono HB.out.size))
                replace hn0 := (hb4.block _ (lt_of_heap hn0)).trans hn0
                obtain ⟨c0, c1, c2⟩ := three_at hn0
                clear hb4
                go_wp2_with fail
                refine (C125.out _).mono ?_
                rintro e w5 ⟨rfl, hb5⟩
                replace HB := Lib.hid (HB.out.trans (hb5.mono HB.out.size))
                replace hn0 := (hb5.block _ (lt_of_heap hn0)).trans hn0
                obtain ⟨c0, c1, c2⟩ := three_at hn0
                clear hb5
                go_wp2_with fail
                go_roundw
                case rel => exact ⟨k + 1, by omega, rfl, by rw [HS2.out] <;> first | rfl | (simp; done) | (simp; omega), by rw [HS2.out] <;> first | rfl | (simp; done) | (simp; omega), HB.out⟩
                case measure => simp [intOf]; omega
            · have HS2 : Hid ((l.take (k + 1)).foldl nest2 (0, 0) = (d, m)) := Lib.hid (by rw [HS1.out]; simp [t40, t123, t41, t125])
              have C40 := Lib.hid (fun w' => isB_any w' x [40] false t40)
              have C123 := Lib.hid (fun w' => isB_any w' x [123] false t123)
              have C41 := Lib.hid (fun w' => isB_any w' x [41] false t41)
              have C125 := Lib.hid (fun w' => isB_any w' x [125] false t125)
              clear HS1 t40 t123 t41 t125
              obtain ⟨xk, xs, xn⟩ := x
              dsimp only at *
              generalize bs xs = X at *
              go_wp2_with fail
              refine (C40.out _).mono ?_
              rintro e w2 ⟨rfl, hb2⟩
              replace HB := Lib.hid (HB.out.trans (hb2.mono HB.out.size))
              replace hn0 := (hb2.block _ (lt_of_heap hn0)).trans hn0
              obtain ⟨c0, c1, c2⟩ := three_at hn0
              clear hb2
              go_wp2_with fail
              refine (C123.out _).mono ?_
              rintro e w3 ⟨rfl, hb3⟩
              replace HB := Lib.hid (HB.out.trans (hb3.mono HB.out.size))
              replace hn0 := (hb3.block _ (lt_of_heap hn0)).trans hn0
              obtain ⟨c0, c1, c2⟩ := three_at hn0
              clear hb3
              go_wp2_with fail
              refine (C41.out _).mono ?_
              rintro e w4 ⟨rfl, hb4⟩
              replace HB := Lib.hid (HB.out.trans (hb4.mono HB.out.size))
              replace hn0 := (hb4.block _ (lt_of_heap hn0)).trans hn0
              obtain ⟨c0, c1, c2⟩ := three_at hn0
              clear hb4
              go_wp2_with fail
              refine (C125.out _).mono ?_
              rintro e w5 ⟨rfl, hb5⟩
              replace HB := Lib.hid (HB.out.trans (hb5.mono HB.out.size))
              replace hn0 := (hb5.block _ (lt_of_heap hn0)).trans hn0
              obtain ⟨c0, c1, c2⟩ := three_at hn0
              clear hb5
              go_wp2_with fail
              go_roundw
              case rel => exact ⟨k + 1, by omega, rfl, by rw [HS2.out] <;> first | rfl | (simp; done) | (simp; omega), by rw [HS2.out] <;> first | rfl | (simp; done) | (simp; omega), HB.out⟩
              case measure => simp [intOf]; omega
    · obtain rfl : k = n := by omega
      have HE := Lib.hid (HSE.out rfl)
      have HB := Lib.hid hb
      clear hb
      go_wp2_with fail
      go_ret
      exact ⟨by rw [HE.out]; rfl, HB.out⟩
end Go.Proofs.YtmihlmlojmdhjaaGreatDoor.Prg
