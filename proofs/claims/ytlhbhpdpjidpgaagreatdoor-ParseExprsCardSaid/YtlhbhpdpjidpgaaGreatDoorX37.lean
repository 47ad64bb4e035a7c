/-
  The document's functions. Condition: the reader is known.
-/
import Derived.Test.YtlhbhpdpjidpgaaGreatDoorX29
import Derived.Test.YtlhbhpdpjidpgaaGreatDoorX30
import Derived.Test.YtlhbhpdpjidpgaaGreatDoorX36
import Derived.Deep.DeepCutAuto
import Derived.Deep.CutBlock
namespace Go.Proofs.YtlhbhpdpjidpgaaGreatDoor.Prs
open Go.RowKit Tre Prg
open Lex (Wd wdC wdV bs str Turn)
set_option maxRecDepth 100000
set_option linter.unusedSimpArgs false
variable {lo : Nat}
set_option maxHeartbeats 16000000 in
theorem fn_any (w : World) (g : Nat) (r : PS) (h : RdM lo w g r) : Calls Tryz.prog 25 #[.pointer (some ⟨g, 0, none⟩)] w (EvF lo w g (fnD r)) := by
  have HG := Lib.hid h.lt
  have HLO := Lib.hid h.wlo
  have HLR := Lib.hid (lenR_le h)
  have HB := Lib.hid (ball_new w #[.string ⟨#[]⟩, .slice none 0 0, .int .u8 0, .slice none 0 0] 51)
  have CW := Lib.hid (word_any _ g r 1 false (by decide) (h.below HB.out))
  have HSZ := Lib.hid (wordS_size h 1 false)
  have HSD : Hid ((bs (wordS r 1 false)).data.toList = wordS r 1 false) := Lib.hid (Lex.bs_data _)
  have HQ : Hid (fnD r = (⟨wordS r 1 false, (tellP [] (mustW (wordR r 1 false) [40])).1, typeN (tellP [] (mustW (wordR r 1 false) [40])).2, (tellS .block (typeR (tellP [] (mustW (wordR r 1 false) [40])).2)).1⟩,
    ⟨(tellS .block (typeR (tellP [] (mustW (wordR r 1 false) [40])).2)).2.l, (tellS .block (typeR (tellP [] (mustW (wordR r 1 false) [40])).2)).2.bad, (tellS .block (typeR (tellP [] (mustW (wordR r 1 false) [40])).2)).2.big || decide (4 < (tellP [] (mustW (wordR r 1 false) [40])).1.length)⟩)) := Lib.hid rfl
  have HL1 := Lib.hid (Nat.le_trans (lenR_mustW (wordR r 1 false) [40]) (lenR_wordR r 1 false))
  clear h
  generalize fnD r = q at *
  generalize wordR r 1 false = r1 at *
  generalize wordS r 1 false = ss at *
  generalize bs ss = S at *
  go_enter Tryz.func25, Tryz.ntmps25
  go_wp2_with fail
  refine CW.out.mono ?_
  rintro e w1 ⟨rfl, h1, h2⟩
  have HR1 := Lib.hid (res_keep9 HG.out h2)
  have HBN := Lib.hid (ball_new w1 #[.string S, .slice none 0 0, .int .u8 0, .slice none 0 0] 51)
  have B0 : Hid (FD lo w (w1.alloc (.cells #[.string S, .slice none 0 0, .int .u8 0, .slice none 0 0] 51)) g w1.heap.size r1 S none 0 [] 0 none 0 []) := Lib.hid ⟨h1.below HBN.out, new_at w1 _ _, (HBN.out.block _ (lt_of_heap HR1.out)).trans HR1.out, OwnG.nil _ _, (fun x hx => by simp at hx), Row.nil _ _ _ _, by simp [most], (fun ad e => by cases e), (fun s hs => by simp at hs), (fun s hs => by simp at hs), (((Turn.refl [g] w).below HB.out).trans h2).below HBN.out, HSZ.out, lt_of_heap HR1.out, HG.out, HLO.out⟩
  clear h1 h2 CW HR1 HBN HB HSZ
  have CM := Lib.hid (must_any _ g r1 [40] B0.out.rd)
  go_wp2_with fail
  generalize w1.heap.size = fb at *
  refine CM.out.mono ?_
  rintro e w2 ⟨rfl, h1, h2⟩
  have B1 := Lib.hid (B0.out.turned h2 h1)
  clear h1 h2 CM B0
  generalize mustW r1 [40] = r2 at *
  have START : Hid (FnAt lo w w2 g fb S r2 r2 none 0 []) := Lib.hid ⟨B1.out, rfl, by have := HLR.out; have := HL1.out; simp; omega⟩
  clear B1 HL1 HLR
  go_upto_block 0 with fail
  go_cut [] (fun wx => ∃ (r5 : PS) (pa : Option Addr) (pc : Nat) (xs : List Tp), Hid (FnEnd lo w wx g fb S r2 r5 pa pc xs))
  case first =>
    clear HQ
    go_wp2_with fail
    go_loopw [] (fun wr => ∃ (r' : PS) (pa : Option Addr) (pc : Nat) (xs : List Tp), Hid (FnAt lo w wr g fb S r2 r' pa pc xs)) (fun wr => remW wr g)
    case atStart => exact ⟨r2, none, 0, [], START⟩
    case round =>
      clear START
      obtain ⟨r', pa, pc, xs, HC⟩ := hrel
      have HM : Hid (remW wr g = lenR r') := Lib.hid HC.out.b.rd.rem
      obtain ⟨a, cc, hrd, -⟩ := HC.out.b.rd.at_
      have b1 := cell_at hrd 1
      simp only [List.getElem?_toArray, List.getElem?_cons_succ, List.getElem?_cons_zero] at b1
      clear hrd
      rcases Bool.eq_false_or_eq_true r'.bad with hbad | hbad
      · rw [hbad] at b1
        have HO : Hid (FnEnd lo w wr g fb S r2 r' pa pc xs) := Lib.hid ⟨HC.out.b, par_end HC.out.told (by simp [hbad]), by have := HC.out.len; omega⟩
        clear hbad
        go_wp2_with fail
        go_meet
        exact ⟨r', pa, pc, xs, HO⟩
      · rw [hbad] at b1
        rcases Bool.eq_false_or_eq_true (isW r' [41]) with hi | hi
        · have HT := Lib.hid (par_end HC.out.told (by simp [hi]))
          have CI := fun w' (h' : RdM lo w' g r') => (by have := is_any w' g r' [41] h'; rw [hi] at this; exact Lib.hid this : Hid (Calls Tryz.prog 51 #[.pointer (some ⟨g, 0, none⟩), .string (bs [41])] w' (EndsB (.bool true) w')))
          have CI := CI _ HC.out.b.rd
          clear hbad hi
          go_wp2_with fail
          refine CI.out.mono ?_
          rintro e v1 ⟨rfl, hb1⟩
          have HO : Hid (FnEnd lo w v1 g fb S r2 r' pa pc xs) := Lib.hid ⟨HC.out.b.below hb1, HT.out, by have := HC.out.len; omega⟩
          clear hb1
          go_wp2_with fail
          go_meet
          exact ⟨r', pa, pc, xs, HO⟩
        · have CI := fun w' (h' : RdM lo w' g r') => (by have := is_any w' g r' [41] h'; rw [hi] at this; exact Lib.hid this : Hid (Calls Tryz.prog 51 #[.pointer (some ⟨g, 0, none⟩), .string (bs [41])] w' (EndsB (.bool false) w')))
          have CI := CI _ HC.out.b.rd
          have T1 := Lib.hid (par_last HC.out.told hbad hi)
          have T2 := Lib.hid (par_bad HC.out.told hbad hi)
          have T3 := Lib.hid (par_more HC.out.told hbad hi)
          have HLN := Lib.hid HC.out.len
          have HL2 := Lib.hid (typeMust_len r')
          have HTX := Lib.hid (wordS_len HC.out.b.rd 1 false)
          clear hbad hi
          go_wp2_with fail
          refine CI.out.mono ?_
          rintro e v1 ⟨rfl, hb1⟩
          have B1 := Lib.hid (HC.out.b.below hb1)
          have CW := Lib.hid (word_any v1 g r' 1 false (by decide) B1.out.rd)
          clear hb1 CI HC b1
          rw [typeMust_eq] at T1 T2 T3 HL2
          generalize wordR r' 1 false = rw1 at *
          generalize wordS r' 1 false = ys at *
          go_wp2_with fail
          refine CW.out.mono ?_
          rintro e v2 ⟨rfl, h1, h2⟩
          have B2 := Lib.hid (B1.out.turned h2 h1)
          have CK : Hid (Calls Tryz.prog 52 #[.pointer (some ⟨g, 0, none⟩)] v2 (Lv lo v2 g (.int .u8 (typeN rw1)) (typeR rw1))) := Lib.hid (kind_any v2 g rw1 h1)
          clear h1 h2 CW B1
          generalize typeR rw1 = r4 at *
          generalize typeN rw1 = ty at *
          obtain ⟨Y, hY⟩ : ∃ Y, bs ys = Y := ⟨_, rfl⟩
          rw [hY]
          go_wp2_with fail
          refine CK.out.mono ?_
          rintro e v3 ⟨rfl, h1, h2⟩
          have B3 := Lib.hid (B2.out.turned h2 h1)
          clear h1 h2 CK B2
          have HBP := Lib.hid (ball_new v3 #[.string Y, .int .u8 ty] 67)
          have HNP := Lib.hid (new_at v3 #[.string Y, .int .u8 ty] 67)
          have B4 := Lib.hid (B3.out.below HBP.out)
          have HPG : Hid (g ≠ v3.heap.size) := Lib.hid (by have := B3.out.rd.lt; omega)
          obtain ⟨p0, p1⟩ : (v3.alloc (.cells #[.string Y, .int .u8 ty] 67)).cell? ⟨v3.heap.size, 0, none⟩ = some (.string Y) ∧ (v3.alloc (.cells #[.string Y, .int .u8 ty] 67)).cell? ⟨v3.heap.size, 1, none⟩ = some (.int .u8 ty) := ⟨cell_at HNP.out 0, cell_at HNP.out 1⟩
          obtain ⟨a, cc, hrd, -⟩ := B4.out.rd.at_
          have b1 := cell_at hrd 1
          simp only [List.getElem?_toArray, List.getElem?_cons_succ, List.getElem?_cons_zero] at b1
          have fb1 := free_at hrd 1
          clear hrd
          obtain ⟨B, hB⟩ : ∃ B, (r4.bad || ty == 0) = B := ⟨_, rfl⟩
          rw [hB] at T1 T2 T3 HL2
          have HB1 : Hid (r4.bad = true → B = true) := Lib.hid (fun h => by rw [← hB, h]; rfl)
          have HB2 : Hid (r4.bad = false → B = (ty == 0)) := Lib.hid (fun h => by rw [← hB, h]; rfl)
          clear hB
          obtain ⟨W5, hW5⟩ : ∃ W, (v3.alloc (.cells #[.string Y, .int .u8 ty] 67)).setCell ⟨g, 1, none⟩ (.bool B) = W := ⟨_, rfl⟩
          have B5 : Hid (FD lo w W5 g fb ⟨r4.l, B, r4.big⟩ S pa pc xs 0 none 0 []) := Lib.hid (by rw [← hW5]; exact B4.out.turned (turn1 _ g 1 _) (B4.out.rd.bads B))
          obtain ⟨p5, q5⟩ : W5.cell? ⟨v3.heap.size, 0, none⟩ = some (.string Y) ∧ W5.cell? ⟨v3.heap.size, 1, none⟩ = some (.int .u8 ty) := by
            have : W5.heap[v3.heap.size]? = some (.cells #[.string Y, .int .u8 ty] 67 (0, 0)) := by
              rw [← hW5]
              exact ((turn1 _ g 1 _).block _ (lt_of_heap HNP.out) (by have := HPG.out; simp; omega)).trans HNP.out
            exact ⟨cell_at this 0, cell_at this 1⟩
          obtain ⟨z0, z1, z2, z3⟩ := Tre.four_at B5.out.at_
          simp only [List.length_nil] at z3
          obtain ⟨A2, c2, u2, hap, hat, hb⟩ := B5.out.push (y := ⟨ys, ty⟩) HTX.out (by have := HLN.out; omega)
          dsimp only at hap
          rw [hY] at hap
          have HAP := Lib.hid hap
          have f1 := free_at hat 1
          obtain ⟨t0, t1, t2, t3⟩ := Tre.four_at hat

          obtain ⟨zs, hzs⟩ : ∃ zs, xs ++ [(⟨ys, ty⟩ : Tp)] = zs := ⟨_, rfl⟩
          have HZL : Hid (zs.length = xs.length + 1) := Lib.hid (by rw [← hzs, List.length_append]; rfl)
          rw [hzs] at HAP hb T1 T2 T3
          obtain ⟨n2, hn2⟩ : ∃ n, zs.length = n := ⟨_, rfl⟩
          rw [hn2] at HAP hb
          obtain ⟨U, hU⟩ : ∃ W, u2.setCell ⟨fb, 1, none⟩ (.slice A2 n2 c2) = W := ⟨_, rfl⟩
          rw [hU] at hb
          have B6 := Lib.hid hb
          clear hap hat hb HBP HNP B4 B3 hY hzs B5
          generalize (⟨r4.l, B, r4.big⟩ : PS) = r5 at *
          rcases Bool.eq_false_or_eq_true (isW r5 [44]) with hc | hc
          · have CK := Lib.hid (skip_yes U g r5 [44] B6.out.rd hc)
            have HC4 := Lib.hid (lenR_pos hc)
            have HTL := Lib.hid (lenR_tl r5)
            have T2 := Lib.hid (T2.out hc)
            have T3 := Lib.hid (T3.out hc)
            rcases Bool.eq_false_or_eq_true (isW (tl r5) [41]) with hd | hd
            · have CI := fun w' (h' : RdM lo w' g (tl r5)) => (by have := is_any w' g (tl r5) [41] h'; rw [hd] at this; exact Lib.hid this : Hid (Calls Tryz.prog 51 #[.pointer (some ⟨g, 0, none⟩), .string (bs [41])] w' (EndsB (.bool true) w')))
              have T2 := Lib.hid (T2.out hd)
              clear hc hd T1 T3
              rcases Bool.eq_false_or_eq_true r4.bad with hb | hb
              · rw [hb] at b1
                rw [HB1.out hb] at hW5
                clear hb HB1 HB2
                go_wp2_with (at_builtin; refine wpList_appG 48 rfl (.tmp 38) (.tmp 40) rfl (.slice pa xs.length pc) (.slice (some ⟨W5.heap.size, 0, none⟩) 1 1) _ rfl rfl HAP.out ?_)
                refine CK.out.mono ?_
                rintro e v5 ⟨rfl, h1, h2⟩
                have B7 := Lib.hid (B6.out.turned h2 h1)
                clear h1 h2 CK HAP B6 b1 fb1 p0 p1 p5 q5 z0 z1 z2 z3 f1 t0 t1 t2 t3 hU hW5
                have CI5 := CI _ B7.out.rd
                clear CI
                go_wp2_with fail
                refine CI5.out.mono ?_
                rintro e v6 ⟨rfl, hb6⟩
                have B8 := Lib.hid (B7.out.below hb6)
                clear hb6 CI5 B7
                obtain ⟨a6, c6, hrd6, -⟩ := B8.out.rd.at_
                have b6 := cell_at hrd6 1
                have fb6 := free_at hrd6 1
                clear hrd6
                have HN : Hid (FnAt lo w (v6.setCell ⟨g, 1, none⟩ (.bool true)) g fb S r2 (badR (tl r5)) A2 c2 zs) := Lib.hid ⟨B8.out.turned (turn1 _ g 1 _) (B8.out.rd.bads true), T2.out, by
                  have := HLN.out
                  have := HL2.out
                  have := HC4.out
                  have := HZL.out
                  rw [lenR_badR]
                  omega⟩
                go_wp2_with fail
                go_roundw
                case rel => exact ⟨_, A2, c2, zs, HN⟩
                case measure =>
                  rw [HN.out.b.rd.rem, HM.out, lenR_badR]
                  have := HL2.out
                  have := HC4.out
                  omega
              · rw [hb] at b1
                rw [HB2.out hb] at hW5
                clear hb HB1 HB2
                go_wp2_with (at_builtin; refine wpList_appG 48 rfl (.tmp 38) (.tmp 40) rfl (.slice pa xs.length pc) (.slice (some ⟨W5.heap.size, 0, none⟩) 1 1) _ rfl rfl HAP.out ?_)
                refine CK.out.mono ?_
                rintro e v5 ⟨rfl, h1, h2⟩
                have B7 := Lib.hid (B6.out.turned h2 h1)
                clear h1 h2 CK HAP B6 b1 fb1 p0 p1 p5 q5 z0 z1 z2 z3 f1 t0 t1 t2 t3 hU hW5
                have CI5 := CI _ B7.out.rd
                clear CI
                go_wp2_with fail
                refine CI5.out.mono ?_
                rintro e v6 ⟨rfl, hb6⟩
                have B8 := Lib.hid (B7.out.below hb6)
                clear hb6 CI5 B7
                obtain ⟨a6, c6, hrd6, -⟩ := B8.out.rd.at_
                have b6 := cell_at hrd6 1
                have fb6 := free_at hrd6 1
                clear hrd6
                have HN : Hid (FnAt lo w (v6.setCell ⟨g, 1, none⟩ (.bool true)) g fb S r2 (badR (tl r5)) A2 c2 zs) := Lib.hid ⟨B8.out.turned (turn1 _ g 1 _) (B8.out.rd.bads true), T2.out, by
                  have := HLN.out
                  have := HL2.out
                  have := HC4.out
                  have := HZL.out
                  rw [lenR_badR]
                  omega⟩
                go_wp2_with fail
                go_roundw
                case rel => exact ⟨_, A2, c2, zs, HN⟩
                case measure =>
                  rw [HN.out.b.rd.rem, HM.out, lenR_badR]
                  have := HL2.out
                  have := HC4.out
                  omega
            · have CI := fun w' (h' : RdM lo w' g (tl r5)) => (by have := is_any w' g (tl r5) [41] h'; rw [hd] at this; exact Lib.hid this : Hid (Calls Tryz.prog 51 #[.pointer (some ⟨g, 0, none⟩), .string (bs [41])] w' (EndsB (.bool false) w')))
              have T3 := Lib.hid (T3.out hd)
              clear hc hd T1 T2
              rcases Bool.eq_false_or_eq_true r4.bad with hb | hb
              · rw [hb] at b1
                rw [HB1.out hb] at hW5
                clear hb HB1 HB2
                go_wp2_with (at_builtin; refine wpList_appG 48 rfl (.tmp 38) (.tmp 40) rfl (.slice pa xs.length pc) (.slice (some ⟨W5.heap.size, 0, none⟩) 1 1) _ rfl rfl HAP.out ?_)
                refine CK.out.mono ?_
                rintro e v5 ⟨rfl, h1, h2⟩
                have B7 := Lib.hid (B6.out.turned h2 h1)
                clear h1 h2 CK HAP B6 b1 fb1 p0 p1 p5 q5 z0 z1 z2 z3 f1 t0 t1 t2 t3 hU hW5
                have CI5 := CI _ B7.out.rd
                clear CI
                go_wp2_with fail
                refine CI5.out.mono ?_
                rintro e v6 ⟨rfl, hb6⟩
                have HN : Hid (FnAt lo w v6 g fb S r2 (tl r5) A2 c2 zs) := Lib.hid ⟨B7.out.below hb6, T3.out, by
                  have := HLN.out
                  have := HL2.out
                  have := HC4.out
                  have := HZL.out
                  have := HTL.out
                  omega⟩
                clear hb6 CI5 B7
                go_wp2_with fail
                go_roundw
                case rel => exact ⟨_, A2, c2, zs, HN⟩
                case measure =>
                  rw [HN.out.b.rd.rem, HM.out]
                  have := HL2.out
                  have := HC4.out
                  have := HTL.out
                  omega
              · rw [hb] at b1
                rw [HB2.out hb] at hW5
                clear hb HB1 HB2
                go_wp2_with (at_builtin; refine wpList_appG 48 rfl (.tmp 38) (.tmp 40) rfl (.slice pa xs.length pc) (.slice (some ⟨W5.heap.size, 0, none⟩) 1 1) _ rfl rfl HAP.out ?_)
                refine CK.out.mono ?_
                rintro e v5 ⟨rfl, h1, h2⟩
                have B7 := Lib.hid (B6.out.turned h2 h1)
                clear h1 h2 CK HAP B6 b1 fb1 p0 p1 p5 q5 z0 z1 z2 z3 f1 t0 t1 t2 t3 hU hW5
                have CI5 := CI _ B7.out.rd
                clear CI
                go_wp2_with fail
                refine CI5.out.mono ?_
                rintro e v6 ⟨rfl, hb6⟩
                have HN : Hid (FnAt lo w v6 g fb S r2 (tl r5) A2 c2 zs) := Lib.hid ⟨B7.out.below hb6, T3.out, by
                  have := HLN.out
                  have := HL2.out
                  have := HC4.out
                  have := HZL.out
                  have := HTL.out
                  omega⟩
                clear hb6 CI5 B7
                go_wp2_with fail
                go_roundw
                case rel => exact ⟨_, A2, c2, zs, HN⟩
                case measure =>
                  rw [HN.out.b.rd.rem, HM.out]
                  have := HL2.out
                  have := HC4.out
                  have := HTL.out
                  omega
          · have CK := Lib.hid (skip_no U g r5 [44] B6.out.rd hc)
            have T1 := Lib.hid (T1.out hc)
            clear hc T2 T3
            rcases Bool.eq_false_or_eq_true r4.bad with hb | hb
            · rw [hb] at b1
              rw [HB1.out hb] at hW5
              clear hb HB1 HB2
              go_wp2_with (at_builtin; refine wpList_appG 48 rfl (.tmp 38) (.tmp 40) rfl (.slice pa xs.length pc) (.slice (some ⟨W5.heap.size, 0, none⟩) 1 1) _ rfl rfl HAP.out ?_)
              refine CK.out.mono ?_
              rintro e v5 ⟨rfl, h1, h2⟩
              have B7 := Lib.hid (B6.out.turned h2 h1)
              clear h1 h2 CK HAP B6 b1 fb1 p0 p1 p5 q5 z0 z1 z2 z3 f1 t0 t1 t2 t3 hU hW5
              have HO : Hid (FnEnd lo w v5 g fb S r2 r5 A2 c2 zs) := Lib.hid ⟨B7.out, T1.out, by have := HLN.out; have := HZL.out; omega⟩
              go_wp2_with fail
              go_meet
              exact ⟨r5, A2, c2, zs, HO⟩
            · rw [hb] at b1
              rw [HB2.out hb] at hW5
              clear hb HB1 HB2
              go_wp2_with (at_builtin; refine wpList_appG 48 rfl (.tmp 38) (.tmp 40) rfl (.slice pa xs.length pc) (.slice (some ⟨W5.heap.size, 0, none⟩) 1 1) _ rfl rfl HAP.out ?_)
              refine CK.out.mono ?_
              rintro e v5 ⟨rfl, h1, h2⟩
              have B7 := Lib.hid (B6.out.turned h2 h1)
              clear h1 h2 CK HAP B6 b1 fb1 p0 p1 p5 q5 z0 z1 z2 z3 f1 t0 t1 t2 t3 hU hW5
              have HO : Hid (FnEnd lo w v5 g fb S r2 r5 A2 c2 zs) := Lib.hid ⟨B7.out, T1.out, by have := HLN.out; have := HZL.out; omega⟩
              go_wp2_with fail
              go_meet
              exact ⟨r5, A2, c2, zs, HO⟩
  case rest =>
    obtain ⟨r5, pa, pc, xs, HE⟩ := hcut
    clear START
    rw [HE.out.told] at HQ
    dsimp only at HQ
    have HLX := Lib.hid HE.out.len
    have CM := Lib.hid (must_any _ g r5 [41] HE.out.b.rd)
    have BE := Lib.hid HE.out.b
    clear HE
    generalize mustW r5 [41] = r6 at *
    go_wp2_with fail
    refine CM.out.mono ?_
    rintro e v1 ⟨rfl, h1, h2⟩
    have B1 := Lib.hid (BE.out.turned h2 h1)
    have CK : Hid (Calls Tryz.prog 52 #[.pointer (some ⟨g, 0, none⟩)] v1 (Lv lo v1 g (.int .u8 (typeN r6)) (typeR r6))) := Lib.hid (kind_any v1 g r6 h1)
    clear h1 h2 CM BE
    generalize typeR r6 = r7 at *
    generalize typeN r6 = ty at *
    go_wp2_with fail
    refine CK.out.mono ?_
    rintro e v2 ⟨rfl, h1, h2⟩
    have B2 := Lib.hid (B1.out.turned h2 h1)
    have B3 := Lib.hid (B2.out.setT (T' := ty))
    clear h1 h2 CK B1
    have e2 := free_at B2.out.at_ 2
    obtain ⟨z0, z1, z2, z3⟩ := Tre.four_at B2.out.at_
    simp only [List.length_nil] at z3
    obtain ⟨W3, hW3⟩ : ∃ W, v2.setCell ⟨fb, 2, none⟩ (.int .u8 ty) = W := ⟨_, rfl⟩
    rw [hW3] at B3
    have CB := Lib.hid (blockD W3 g r7 B3.out.rd)
    go_wp2_with fail
    clear e2 z0 z1 z2 z3 B2 hW3
    generalize tellS .block r7 = p at *
    refine CB.out.mono ?_
    rintro e v8 ⟨ba, bc, l, rfl, ha, hrow, hlen, hnew, hin, hnn, hr, ht⟩
    have HA := Lib.hid ha
    have B9 := Lib.hid (B3.out.turned ht hr)
    have B10 := Lib.hid (B3.out.setB (d := bc) hrow hlen hnew hin hnn hr ht)
    clear ha hrow hlen hnew hin hnn hr ht CB B3
    have e3 := free_at B9.out.at_ 3
    obtain ⟨z0, z1, z2, z3⟩ := Tre.four_at B9.out.at_
    simp only [List.length_nil] at z3
    obtain ⟨W4, hW4⟩ : ∃ W, v8.setCell ⟨fb, 3, none⟩ (.slice ba l.length bc) = W := ⟨_, rfl⟩
    rw [hW4] at B10
    obtain ⟨x0, x1, x2, x3⟩ := Tre.four_at B10.out.at_
    obtain ⟨a6, c6, hrd6, -⟩ := B10.out.rd.at_
    have b2 := cell_at hrd6 2
    have fb2 := free_at hrd6 2
    simp only [List.getElem?_toArray, List.getElem?_cons_succ, List.getElem?_cons_zero] at b2
    clear hrd6 B9
    have B11 := fun B => Lib.hid (B10.out.turned (turn1 _ g 2 (.bool B)) (B10.out.rd.bigged B))
    rcases Bool.eq_false_or_eq_true p.2.big with hbig | hbig
    · rw [hbig] at b2 HQ
      have B12 := B11 true
      obtain ⟨y0, y1, y2, y3⟩ := Tre.four_at B12.out.at_
      obtain ⟨v0, v1, v2, v3⟩ := Tre.four_at B12.out.res
      have f0 := free_at B12.out.res 0
      have f1 := free_at B12.out.res 1
      have f2 := free_at B12.out.res 2
      have f3 := free_at B12.out.res 3
      go_wp2_with fail
      have HT := Lib.hid (turn4 (W4.setCell ⟨g, 2, none⟩ (.bool (true))) w.heap.size (.string S) (.slice pa xs.length pc) (.int .u8 ty) (.slice ba l.length bc))
      refine bodyPost_ret (results_fn rfl _ _ w.heap.size _ _ _ _ rfl (set4 B12.out.res)) rfl ?_
      exact B12.out.done HLX.out HT.out (by rw [HQ.out, HSD.out, HA.out, Bool.true_or])
    · rw [hbig] at b2 HQ
      have B12 := B11 (decide ((4 : Int) < (xs.length : Int)))
      obtain ⟨y0, y1, y2, y3⟩ := Tre.four_at B12.out.at_
      obtain ⟨v0, v1, v2, v3⟩ := Tre.four_at B12.out.res
      have f0 := free_at B12.out.res 0
      have f1 := free_at B12.out.res 1
      have f2 := free_at B12.out.res 2
      have f3 := free_at B12.out.res 3
      go_wp2_with fail
      have HT := Lib.hid (turn4 (W4.setCell ⟨g, 2, none⟩ (.bool (decide ((4 : Int) < (xs.length : Int))))) w.heap.size (.string S) (.slice pa xs.length pc) (.int .u8 ty) (.slice ba l.length bc))
      refine bodyPost_ret (results_fn rfl _ _ w.heap.size _ _ _ _ rfl (set4 B12.out.res)) rfl ?_
      exact B12.out.done HLX.out HT.out (by rw [HQ.out, HSD.out, HA.out]; congr 2; exact Bool.eq_iff_iff.2 (by simp only [Bool.false_or, decide_eq_true_eq]; omega))
end Go.Proofs.YtlhbhpdpjidpgaaGreatDoor.Prs
/- Show: a word as it is written. Conditions: sizes; the number is an int64; the library's table of powers lies as it is laid. -/
namespace Go.Proofs.YtlhbhpdpjidpgaaGreatDoor.Lex
open Go.RowKit
open Num (EndsW)
set_option maxRecDepth 100000
theorem cat_bs (a b : List UInt8) : bs a ++ bs b = bs (a ++ b) := by
  apply ByteArray.ext
  simp [bs]
def newW (w : World) (k : Int) (S : ByteArray) (n : Int) : World := w.alloc (.cells #[.int .i64 k, .string S, .int .i64 n] 73)
theorem new_below (w : World) (k : Int) (S : ByteArray) (n : Int) : Below w.heap.size w (newW w k S n) := (Below.refl _ w).alloc (Nat.le_refl _) _
theorem new_at (w : World) (k : Int) (S : ByteArray) (n : Int) : (newW w k S n).heap[w.heap.size]? = some (.cells #[.int .i64 k, .string S, .int .i64 n] 73 (0, 0)) := heap_alloc_new _ _
theorem endsb_str {a b : List UInt8} {w w1 w' : World} (hab : a = b) (h1 : Below w.heap.size w w1) (h2 : Below w1.heap.size w1 w') : EndsB (str b) w (.returned (.string (bs a))) w' := by subst hab; exact ⟨rfl, h1.trans (h2.mono h1.size)⟩
end Go.Proofs.YtlhbhpdpjidpgaaGreatDoor.Lex
/- What the document's Digits answers: the decimal numeral. -/
namespace Go.Proofs.YtlhbhpdpjidpgaaGreatDoor.Num
open Go.RowKit
set_option maxRecDepth 100000
/-- A text of one byte, made of a slice of one. -/
theorem conv_one (w : World) (x : Int) : (convert 151 9 (.slice (some ⟨w.heap.size, 0, none⟩) 1 1)).run Tryz.prog (w.alloc (.cells #[.int .u8 x] 5)) = .ok (.string (strOfNums [x])) (w.alloc (.cells #[.int .u8 x] 5)) :=
  run_convert_bytes_arg (P := Tryz.prog) (w.alloc (.cells #[.int .u8 x] 5)) 151 5 Tryz.underlying151 Tryz.underlying5 w.heap.size 0 1 1 [x] rfl (fun i hi => by
    obtain rfl : i = 0 := by omega
    simp [go_sem]) 9 Tryz.underlying9
theorem cat (a b : List UInt8) : (⟨a.toArray⟩ : ByteArray) ++ ⟨b.toArray⟩ = ⟨(a ++ b).toArray⟩ := by
  apply ByteArray.ext
  simp
theorem itoa_split (n : Int) (h : 10 ≤ n) : Lib.itoa (n / 10) ++ Lib.itoa (n % 10) = Lib.itoa n := by
  unfold Lib.itoa
  rw [if_neg (by omega), if_neg (by omega), if_neg (by omega), decDigits_ge (u := n.toNat) (by omega), decDigits_lt (u := (n % 10).toNat) (by omega)]
  rw [show (n / 10).toNat = n.toNat / 10 by omega, show (n % 10).toNat = n.toNat % 10 by omega]
theorem tdiv_neg (n : Int) (h : n < 0) : n.tdiv 10 = -((-n) / 10) := by
  rw [show n = -(-n) by omega, Int.neg_tdiv, Int.tdiv_eq_ediv_of_nonneg (by omega), Int.neg_neg]
theorem tmod_neg (n : Int) (h : n < 0) : n.tmod 10 = -((-n) % 10) := by
  rw [show n = -(-n) by omega, Int.neg_tmod, Int.tmod_eq_emod_of_nonneg (by omega), Int.neg_neg]
theorem itoa_splitn (n : Int) (h : n < -9) : Lib.itoa (n.tdiv 10) ++ Lib.itoa (-n.tmod 10) = Lib.itoa n := by
  rw [tdiv_neg n (by omega), tmod_neg n (by omega), Int.neg_neg]
  unfold Lib.itoa
  rw [if_pos (by omega), if_neg (by omega), if_pos (by omega), decDigits_ge (u := n.natAbs) (by omega), decDigits_lt (u := (-n % 10).toNat) (by omega)]
  rw [show (-(-n / 10)).natAbs = n.natAbs / 10 by omega, show (-n % 10).toNat = n.natAbs % 10 by omega]
  rfl
end Go.Proofs.YtlhbhpdpjidpgaaGreatDoor.Num
/- What the document's Key, Name, Upper and Show answer: the same functions of the bytes. Conditions: sizes; the number is an int64. -/
namespace Go.Proofs.YtlhbhpdpjidpgaaGreatDoor.Lex
open Go.RowKit
open Num (EndsW)
set_option maxRecDepth 100000
def letterI (c : Int) : Bool := decide (97 ≤ c ∧ c ≤ 122) || greatI c || decide (c = 95)
theorem name_split (c : Int) : nameI c = (letterI c || digI c) := by
  unfold nameI letterI
  cases decide (97 ≤ c ∧ c ≤ 122) <;> cases greatI c <;> cases digI c <;> cases decide (c = 95) <;> rfl
theorem rdigit_any (c : Int) (w : World) : Calls Tryz.prog 119 #[.int .u8 c] w (EndsW (.bool (digI c)) w) := by
  by_cases h1 : 48 ≤ c
  · by_cases h2 : c ≤ 57
    · have H := Lib.hid (show digI c = true by unfold digI; simp; omega)
      go_enter Tryz.func119, Tryz.ntmps119
      go_wp2
      go_ret
      exact ends_bool H.out.symm
    · have H := Lib.hid (show digI c = false by unfold digI; simp; omega)
      have b1 : decide (c ≤ 57) = false := by simpa using h2
      go_enter Tryz.func119, Tryz.ntmps119
      go_wp2
      go_ret
      exact ends_bool H.out.symm
  · have H := Lib.hid (show digI c = false by unfold digI; simp; omega)
    go_enter Tryz.func119, Tryz.ntmps119
    go_wp2
    go_ret
    exact ends_bool H.out.symm
theorem rletter_small (c : Int) (w : World) (h1 : 97 ≤ c) (h2 : c ≤ 122) : Calls Tryz.prog 122 #[.int .u8 c] w (EndsW (.bool (letterI c)) w) := by
  have H := Lib.hid (show letterI c = true by unfold letterI greatI; simp; omega)
  have b1 : decide (97 ≤ c) = true := by simp; omega
  have b2 : decide (c ≤ 122) = true := by simp; omega
  go_enter Tryz.func122, Tryz.ntmps122
  go_wp2
  go_ret
  exact ends_bool H.out.symm
theorem rletter_great (c : Int) (w : World) (h1 : 65 ≤ c) (h2 : c ≤ 90) : Calls Tryz.prog 122 #[.int .u8 c] w (EndsW (.bool (letterI c)) w) := by
  have H := Lib.hid (show letterI c = true by unfold letterI greatI; simp; omega)
  have b1 : decide (97 ≤ c) = false := by simp; omega
  have b3 : decide (65 ≤ c) = true := by simp; omega
  have b4 : decide (c ≤ 90) = true := by simp; omega
  go_enter Tryz.func122, Tryz.ntmps122
  go_wp2
  go_ret
  exact ends_bool H.out.symm
theorem rletter_low (c : Int) (w : World) (h1 : c < 65) : Calls Tryz.prog 122 #[.int .u8 c] w (EndsW (.bool (letterI c)) w) := by
  have H := Lib.hid (show letterI c = false by unfold letterI greatI; simp; omega)
  have b1 : decide (97 ≤ c) = false := by simp; omega
  have b3 : decide (65 ≤ c) = false := by simp; omega
  have b5 : (c == 95) = false := by simp; omega
  go_enter Tryz.func122, Tryz.ntmps122
  go_wp2
  go_ret
  exact ends_bool H.out.symm
theorem rletter_mid (c : Int) (w : World) (h1 : 90 < c) (h2 : c < 97) (h3 : c ≠ 95) : Calls Tryz.prog 122 #[.int .u8 c] w (EndsW (.bool (letterI c)) w) := by
  have H := Lib.hid (show letterI c = false by unfold letterI greatI; simp; omega)
  have b1 : decide (97 ≤ c) = false := by simp; omega
  have b3 : decide (65 ≤ c) = true := by simp; omega
  have b4 : decide (c ≤ 90) = false := by simp; omega
  have b5 : (c == 95) = false := by simp; omega
  clear h3
  go_enter Tryz.func122, Tryz.ntmps122
  go_wp2
  go_ret
  exact ends_bool H.out.symm
theorem rletter_high (c : Int) (w : World) (h1 : 122 < c) : Calls Tryz.prog 122 #[.int .u8 c] w (EndsW (.bool (letterI c)) w) := by
  have H := Lib.hid (show letterI c = false by unfold letterI greatI; simp; omega)
  have b1 : decide (97 ≤ c) = true := by simp; omega
  have b2 : decide (c ≤ 122) = false := by simp; omega
  have b3 : decide (65 ≤ c) = true := by simp; omega
  have b4 : decide (c ≤ 90) = false := by simp; omega
  have b5 : (c == 95) = false := by simp; omega
  go_enter Tryz.func122, Tryz.ntmps122
  go_wp2
  go_ret
  exact ends_bool H.out.symm
theorem rletter_bar (w : World) : Calls Tryz.prog 122 #[.int .u8 95] w (EndsW (.bool true) w) := by
  go_enter Tryz.func122, Tryz.ntmps122
  go_wp2
  go_ret
  exact ends_bool rfl
theorem rletter_any (c : Int) (w : World) : Calls Tryz.prog 122 #[.int .u8 c] w (EndsW (.bool (letterI c)) w) := by
  by_cases h1 : c < 65
  · exact rletter_low c w h1
  by_cases h2 : c ≤ 90
  · exact rletter_great c w (by omega) h2
  by_cases h3 : c = 95
  · subst h3; exact rletter_bar w
  by_cases h4 : c < 97
  · exact rletter_mid c w (by omega) h4 h3
  by_cases h5 : c ≤ 122
  · exact rletter_small c w (by omega) h5
  · exact rletter_high c w (by omega)
def hasS (L : List (List UInt8)) (s : List UInt8) : Bool := L.contains s
/-- A slice of texts. -/
def Strs (w : World) (b : Nat) (L : List (List UInt8)) : Prop := ∀ j x, L[j]? = some x → w.cell? ⟨b, j, none⟩ = some (.string (bs x))
set_option maxHeartbeats 1000000 in
theorem rin_any (w : World) (b n c : Nat) (L : List (List UInt8)) (s : List UInt8) (hL : Strs w b L) (hn : L.length = n) (hs : n ≤ 1000000) :
    Calls Tryz.prog 118 #[.slice (some ⟨b, 0, none⟩) n c, .string (bs s)] w (EndsW (.bool (hasS L s)) w) := by
  have HL := Lib.hid hL
  have HN := Lib.hid hn
  clear hL hn
  go_enter Tryz.func118, Tryz.ntmps118
  go_wp2
  go_loop [5] (fun i => ∃ k : Nat, k ≤ n ∧ i = .int .i64 k ∧ ∀ j x, L[j]? = some x → j < k → x ≠ s) (fun i => n - (intOf i).toNat)
  case atStart => exact ⟨0, by omega, rfl, fun j x _ h => absurd h (by omega)⟩
  case round =>
    obtain ⟨k, hk, rfl, hno⟩ := hrel
    have HNO := Lib.hid hno
    clear hno
    by_cases hlt : k < n
    · obtain ⟨x, hx⟩ : ∃ x, L[k]? = some x := ⟨_, List.getElem?_eq_getElem (by rw [HN.out]; exact hlt)⟩
      have hc := HL.out k x hx
      have HX := Lib.hid hx
      clear hx
      have e1 := bs_toList x
      have e2 := bs_toList s
      by_cases hxs : x = s
      · have H := Lib.hid (show hasS L s = true by unfold hasS; rw [List.contains_iff_mem, ← hxs]; exact List.mem_of_getElem? HX.out)
        have hb : (x == s) = true := by simpa using hxs
        clear hxs
        go_wp2
        go_ret
        exact ends_bool H.out.symm
      · have hb : (x == s) = false := by simpa using hxs
        have HXS := Lib.hid hxs
        clear hxs
        go_wp2
        go_round
        case rel => exact ⟨k + 1, by omega, by go_num, fun j y hy hj => by
          by_cases hjk : j = k
          · subst hjk; rw [HX.out] at hy; injection hy with hy; rw [← hy]; exact HXS.out
          · exact HNO.out j y hy (by omega)⟩
        case measure => simp [intOf]; omega
    · obtain rfl : k = n := by omega
      have H := Lib.hid (show hasS L s = false by
        unfold hasS
        rw [Bool.eq_false_iff, ne_eq, List.contains_iff_mem]
        intro hm
        obtain ⟨j, hj, e⟩ := List.getElem_of_mem hm
        exact HNO.out j _ (List.getElem?_eq_getElem hj) (by have := HN.out; omega) e)
      go_wp2
      go_ret
      exact ends_bool H.out.symm
def keysA : Array Value := (keysL.map str).toArray
theorem keys_any (w : World) : Calls Tryz.prog 141 #[] w fun e w' => e = .returned (.slice (some ⟨w.heap.size, 0, none⟩) 14 14) ∧ w' = w.alloc (.cells keysA 9) := by
  go_enter Tryz.func141, Tryz.ntmps141
  go_wp2
  go_ret
  exact ⟨rfl, rfl⟩
theorem keys_strs (w : World) : Strs (w.alloc (.cells keysA 9)) w.heap.size keysL := fun j x hx => by
  rw [cell_at (heap_alloc_new w (.cells keysA 9 (0, 0)))]
  unfold keysA
  rw [List.getElem?_toArray, List.getElem?_map, hx]
  rfl
theorem rkey_any (S : ByteArray) (w : World) : Calls Tryz.prog 123 #[.string S] w (EndsB (.bool (keyB S.data.toList)) w) := by
  have CI := Lib.hid (rin_any (w.alloc (.cells keysA 9)) w.heap.size 14 14 keysL S.data.toList (keys_strs w) rfl (by omega))
  rw [bs_of, show hasS keysL S.data.toList = keyB S.data.toList from rfl] at CI
  have CK := Lib.hid (keys_any w)
  go_enter Tryz.func123, Tryz.ntmps123
  go_wp2_with fail
  refine CK.out.mono ?_
  rintro e w' ⟨rfl, rfl⟩
  go_wp2_with fail
  refine CI.out.mono ?_
  rintro e w' ⟨rfl, rfl⟩
  go_wp2_with fail
  go_ret
  exact ⟨rfl, (Below.refl _ w).alloc (Nat.le_refl _) _⟩
def wordOk (s : List UInt8) : Bool := !decide (s = []) && !decide (16 < s.length) && !(match s with | [] => false | c :: _ => dig c) && s.all nameB
theorem nameOk_word (s : List UInt8) : nameOk s = (wordOk s && !keyB s) := by
  unfold nameOk wordOk
  generalize (!(match s with | [] => false | c :: _ => dig c)) = a
  cases decide (s = []) <;> cases decide (16 < s.length) <;> cases keyB s <;> cases a <;> cases s.all nameB <;> rfl
theorem all_upto {s : ByteArray} (h : Upto nameB s s.size) : s.data.toList.all nameB = true := by
  rw [List.all_eq_true]
  intro x hx
  obtain ⟨j, hj, e⟩ := List.getElem_of_mem hx
  have hl := len_bytes s
  rw [← e]
  exact h j (by omega) (by omega)
theorem not_all {s : ByteArray} {k : Nat} (hk : k < s.size) (h : nameB (s[k]'hk) = false) : s.data.toList.all nameB = false := by
  rw [Bool.eq_false_iff, ne_eq, List.all_eq_true]
  intro ha
  have hl := len_bytes s
  have := ha _ (List.getElem_mem (show k < s.data.toList.length by omega))
  rw [list_get s k hk, h] at this
  cases this
set_option maxHeartbeats 4000000 in
theorem word_any (S : ByteArray) (w : World) (hs : S.size ≤ 1000000) : Calls Tryz.prog 124 #[.string S] w (EndsW (.bool (wordOk S.data.toList)) w) := by
  have hl := len_bytes S
  by_cases h0 : S.size = 0
  · obtain rfl := empty_of S h0
    clear h0 hl
    go_enter Tryz.func124, Tryz.ntmps124
    go_wp2
    go_ret
    exact ends_bool rfl
  have h00 : 0 < S.size := by omega
  have a1 : decide ((S.size : Int) < 1) = false := by simp; omega
  clear h0
  by_cases h1 : 16 < S.size
  · have b1 : decide ((16 : Int) < (S.size : Int)) = true := by simp; omega
    have H := Lib.hid (show wordOk S.data.toList = false by unfold wordOk; rw [show decide (16 < S.data.toList.length) = true by rw [hl]; simpa using h1]; simp)
    clear hl
    go_enter Tryz.func124, Tryz.ntmps124
    go_wp2
    go_ret
    exact ends_bool H.out.symm
  have b1 : decide ((16 : Int) < (S.size : Int)) = false := by simp; omega
  have h16 : S.size ≤ 16 := by omega
  have HC := Lib.hid (cons_of S h00)
  rcases Bool.eq_false_or_eq_true (dig (S[0]'h00)) with hd | hd
  · have H := Lib.hid (show wordOk S.data.toList = false by
      obtain ⟨r, hr⟩ := HC.out
      unfold wordOk; rw [hr]; simp [hd])
    have CD := Lib.hid (show Calls Tryz.prog 119 #[.int .u8 ((S[0]'h00).toNat : Int)] w (EndsW (.bool true) w) by have := rdigit_any ((S[0]'h00).toNat : Int) w; rwa [digI_nat, hd] at this)
    clear hd hl HC h1
    go_enter Tryz.func124, Tryz.ntmps124
    go_wp2_with (go_at_call 119; refine CD.out.mono ?_; rintro e w' ⟨rfl, rfl⟩)
    go_ret
    exact ends_bool H.out.symm
  have CD := Lib.hid (show Calls Tryz.prog 119 #[.int .u8 ((S[0]'h00).toNat : Int)] w (EndsW (.bool false) w) by have := rdigit_any ((S[0]'h00).toNat : Int) w; rwa [digI_nat, hd] at this)
  have HA : Hid (wordOk S.data.toList = S.data.toList.all nameB) := Lib.hid (by
    have hh : decide (16 < S.data.toList.length) = false := by simp; omega
    obtain ⟨r, hr⟩ := HC.out
    unfold wordOk
    rw [hh]
    rw [hr]
    simp [hd])
  clear hd hl HC h1
  go_enter Tryz.func124, Tryz.ntmps124
  go_wp2_with (go_at_call 119; refine CD.out.mono ?_; rintro e w' ⟨rfl, rfl⟩)
  go_loop [3] (fun i => ∃ k : Nat, k ≤ S.size ∧ i = .int .i64 k ∧ Upto nameB S k) (fun i => S.size - (intOf i).toNat)
  case atStart => exact ⟨0, by omega, rfl, fun k hk h => absurd h (by omega)⟩
  case round =>
    obtain ⟨k, hk, rfl, hu⟩ := hrel
    have HU := Lib.hid hu
    clear hu
    by_cases hlt : k < S.size
    · have HSP := Lib.hid (name_split ((S[k]'hlt).toNat : Int))
      have HNI := Lib.hid (nameI_nat (S[k]'hlt))
      rcases Bool.eq_false_or_eq_true (letterI ((S[k]'hlt).toNat : Int)) with hL | hL
      · have CL := Lib.hid (show Calls Tryz.prog 122 #[.int .u8 ((S[k]'hlt).toNat : Int)] w (EndsW (.bool true) w) by have := rletter_any ((S[k]'hlt).toNat : Int) w; rwa [hL] at this)
        have HT := Lib.hid (show nameB (S[k]'hlt) = true by rw [← HNI.out, HSP.out, hL]; rfl)
        clear hL
        go_wp2_with (go_at_call 122; refine CL.out.mono ?_; rintro e w' ⟨rfl, rfl⟩)
        go_round
        case rel => exact ⟨k + 1, by omega, by go_num, HU.out.one hlt HT.out⟩
        case measure => simp [intOf]; omega
      · have CL := Lib.hid (show Calls Tryz.prog 122 #[.int .u8 ((S[k]'hlt).toNat : Int)] w (EndsW (.bool false) w) by have := rletter_any ((S[k]'hlt).toNat : Int) w; rwa [hL] at this)
        rcases Bool.eq_false_or_eq_true (digI ((S[k]'hlt).toNat : Int)) with hD | hD
        · have CE := Lib.hid (show Calls Tryz.prog 119 #[.int .u8 ((S[k]'hlt).toNat : Int)] w (EndsW (.bool true) w) by have := rdigit_any ((S[k]'hlt).toNat : Int) w; rwa [hD] at this)
          have HT := Lib.hid (show nameB (S[k]'hlt) = true by rw [← HNI.out, HSP.out, hL, hD]; rfl)
          clear hL hD
          go_wp2_with (first | (go_at_call 122; refine CL.out.mono ?_; rintro e w' ⟨rfl, rfl⟩) | (go_at_call 119; refine CE.out.mono ?_; rintro e w' ⟨rfl, rfl⟩))
          go_round
          case rel => exact ⟨k + 1, by omega, by go_num, HU.out.one hlt HT.out⟩
          case measure => simp [intOf]; omega
        · have CE := Lib.hid (show Calls Tryz.prog 119 #[.int .u8 ((S[k]'hlt).toNat : Int)] w (EndsW (.bool false) w) by have := rdigit_any ((S[k]'hlt).toNat : Int) w; rwa [hD] at this)
          have HT := Lib.hid (show wordOk S.data.toList = false by rw [HA.out]; exact not_all hlt (by rw [← HNI.out, HSP.out, hL, hD]; rfl))
          clear hL hD
          go_wp2_with (first | (go_at_call 122; refine CL.out.mono ?_; rintro e w' ⟨rfl, rfl⟩) | (go_at_call 119; refine CE.out.mono ?_; rintro e w' ⟨rfl, rfl⟩))
          go_ret
          exact ends_bool HT.out.symm
    · obtain rfl : k = S.size := by omega
      have HT := Lib.hid (show wordOk S.data.toList = true by rw [HA.out]; exact all_upto HU.out)
      go_wp2_with fail
      go_ret
      exact ends_bool HT.out.symm
end Go.Proofs.YtlhbhpdpjidpgaaGreatDoor.Lex
