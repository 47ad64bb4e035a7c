/-
  The document's Decode. Conditions: the bytes lie in memory; at most 1000000000 of them.
-/
import Derived.Test.YtofadlenblobnaaUREnc
import Derived.Deep.DeepCutAuto
namespace Go.Proofs.Ytofadlenblobnaa.Exp
open Go.RowKit Codec Typ Tre
open OwnR (OwnG)
open Cod (Rdr Turned Byts Owns Grew bytesOf grown_trans grown_set)
set_option maxRecDepth 100000
set_option linter.unusedSimpArgs false
theorem wrap_is {y : Nat} (h : (y : Int) % 256 = y) : IntKind.u8.wrap (y : Int) = y := by
  rw [show IntKind.u8.wrap (y : Int) = (y : Int) % 256 by simp [IntKind.wrap, IntKind.bits, IntKind.signed]]
  exact h
theorem rdD_bad {st : Codec.St} (h : st.bad = true) : ∀ j, rdD j st = ([], st)
  | 0 => rfl
  | j + 1 => by unfold rdD; rw [if_pos h]
theorem rdD_step {m k : Nat} {st s3 : Codec.St} {p : List Sp} (h : rdD m s3 = (p ++ (rdD (m - k) st).1, (rdD (m - k) st).2)) (hk : k < m) (hb : st.bad = false) : rdD m s3 = ((p ++ [(rdG st).1]) ++ (rdD (m - (k + 1)) (rdG st).2).1, (rdD (m - (k + 1)) (rdG st).2).2) := by
  rw [h, show m - k = (m - (k + 1)) + 1 by omega]
  simp [rdD, hb]
theorem rdD_end {m k : Nat} {st s3 : Codec.St} {p : List Sp} (h : rdD m s3 = (p ++ (rdD (m - k) st).1, (rdD (m - k) st).2)) (he : m - k = 0 ∨ st.bad = true) : rdD m s3 = (p, st) := by
  rcases he with he | he
  · rw [h, he]
    simp [rdD]
  · rw [h, rdD_bad he]
    simp
theorem rdD_few : ∀ (n : Nat) (s : Codec.St), ∀ x ∈ (rdD n s).1, x.p.length ≤ 4
  | 0, _, x, hx => by simp [rdD] at hx
  | n + 1, s, x, hx => by
    unfold rdD at hx
    split at hx
    · simp at hx
    · rcases List.mem_cons.1 hx with rfl | hx
      · exact rdG_few s
      · exact rdD_few n _ x hx
theorem few_ofD {l : List Sg} {n : Nat} {s st : Codec.St} (h : rdD n s = (l.map coreG, st)) : ∀ x ∈ l, x.p.length ≤ 1000 := fun x hx => by
  have := rdD_few n s (coreG x) (by rw [h]; exact List.mem_map_of_mem hx)
  have h2 : (coreG x).p.length = x.p.length := rfl
  omega
set_option maxHeartbeats 16000000 in
theorem rdecode_any (b : List UInt8) (A0 : Option Addr) (n0 c0 : Nat) (w : World) (hb : Byts w w.heap.size A0 n0 b) (hnc : n0 ≤ c0) (hcm : c0 ≤ maxLen) (hn0 : n0 ≤ 1000000000) :
    Calls Try.prog 10 #[.slice A0 n0 c0] w (Decd (decP b) w) := by
  have hb1 := ball_new w #[.slice A0 n0 c0, .bool false] 51
  have hr1 : Rdr 51 (w.alloc (.cells #[.slice A0 n0 c0, .bool false] 51)) w.heap.size w.heap.size ⟨b, false⟩ := ⟨goodOk _, Nat.le_refl _, A0, n0, c0, new_at w _ _, hb.below hb1, hnc, hcm, hn0⟩
  have HBY : Hid (∀ w', Below w.heap.size w w' → Byts w' w'.heap.size A0 n0 b) := Lib.hid (fun w' h => (hb.below h).more h.size)
  obtain ⟨m, hm⟩ : ∃ m, count 32 ⟨b, false⟩ = m := ⟨_, rfl⟩
  obtain ⟨s2, hs2⟩ : ∃ s2, countS 32 ⟨b, false⟩ = s2 := ⟨_, rfl⟩
  have hm32 := count_le 32 ⟨b, false⟩ (by omega)
  rw [hm] at hm32
  have HDC : Hid (∀ l st, rdD m s2 = (l, st) → decP b = if st.bad || !rightL l || encL l != b then none else some l) := Lib.hid (fun l st h => by
    rw [← dec_eq]
    unfold decD rdM
    rw [hm, hs2, h])
  have CC := Lib.hid (Cod.rcount_any _ w.heap.size w.heap.size 32 ⟨b, false⟩ hr1)
  rw [hm, hs2] at CC
  have H1 : Hid (LAt 51 (w.alloc (.cells #[.slice A0 n0 c0, .bool false] 51)) (w.alloc (.cells #[.slice A0 n0 c0, .bool false] 51)) w.heap.size w.heap.size ⟨b, false⟩ (.slice none 0 0) []) := Lib.hid ⟨hr1, OwnG.nil _ _, fun x hx => by simp at hx, fun x hx => by simp at hx, Cod.grown_refl _ _, hr1.lt⟩
  have HLW : Hid (∀ w' st v l, LAt 51 (w.alloc (.cells #[.slice A0 n0 c0, .bool false] 51)) w' w.heap.size w.heap.size st v l → Below w.heap.size w w') := Lib.hid (fun w' st v l h => hb1.grown h.gr hb1.size (fun k hk => by injection hk with hk; omega))
  clear hm hs2 hb hr1 hb1
  go_enter Try.func10, Try.ntmps10
  go_wp2_with fail
  refine CC.out.mono ?_
  rintro e w3 ⟨rfl, hw3, hg3⟩
  have HA3 := Lib.hid (H1.out.read hw3 hg3)
  clear hw3 hg3 CC H1
  go_wp2_with fail
  go_loopw [5, 7] (fun v i wr => ∃ (k : Nat) (A : Option Addr) (c : Nat) (st : Codec.St) (l : List Sg), k ≤ m ∧ v = .slice A k c ∧ i = .int .i64 k ∧ Hid (l.length = k) ∧ Hid (LAt 51 (w.alloc (.cells #[.slice A0 n0 c0, .bool false] 51)) wr w.heap.size w.heap.size st (.slice A k c) l) ∧ Hid (rdD m s2 = (l.map coreG ++ (rdD (m - k) st).1, (rdD (m - k) st).2))) (fun _ i _ => m - (intOf i).toNat)
  case atStart => exact ⟨0, none, 0, s2, [], Nat.zero_le _, rfl, rfl, Lib.hid rfl, HA3, Lib.hid (by simp)⟩
  case round =>
    clear HA3
    obtain ⟨k, A, c, st, l, hk, rfl, rfl, HPL, HA, HRP⟩ := hrel
    have hbad := Cod.bad_at HA.out.rdr
    obtain ⟨t, ht⟩ : ∃ t, st.bad = t := ⟨_, rfl⟩
    rw [ht] at hbad
    have HBAD := Lib.hid ht
    clear ht
    by_cases hlt : k < m
    · cases t with
      | true =>
        have HE := Lib.hid (rdD_end HRP.out (.inr HBAD.out))
        have HDD := Lib.hid (HDC.out _ _ HE.out)
        have HX0 := Lib.hid (HA.out.drewN 1)
        have HLO := Lib.hid (HLW.out _ _ _ _ HX0.out)
        go_wp2_with fail
        refine Lex.AtS.start (by kernel_rfl) 16 (fun u => Below wr.drew.heap.size wr.drew u) (by kernel_rfl) (by kernel_rfl) ?_
        have HX0 : Hid (LAt 51 (w.alloc (.cells #[.slice A0 n0 c0, .bool false] 51)) wr.drew w.heap.size w.heap.size st (.slice A k c) l) := HX0
        have HLO : Hid (Below w.heap.size w wr.drew) := HLO
        generalize wr.drew = u0 at *
        have S0 : Below u0.heap.size u0 u0 := Below.refl _ _
        have HBC : Hid (∀ u, Below u0.heap.size u0 u → u.cell? ⟨w.heap.size, 1, none⟩ = some (.bool true)) := Lib.hid (fun u h => by
          have := Cod.bad_at (HX0.out.below h).rdr
          rwa [HBAD.out] at this)
        refine Lex.at_take 0 54 (.pointer (some ⟨w.heap.size, 0, none⟩)) rfl rfl (by kernel_rfl) (by decide) (by decide) (fun _ _ _ h => h) (by kernel_rfl) S0 (fun w' hw' => ?_) ?_
        · go_simp
        go_frame
        refine Lex.at_take 1 55 (.pointer (some ⟨w.heap.size, 0, none⟩)) rfl rfl (by kernel_rfl) (by decide) (by decide) (fun _ _ _ h => h) (by kernel_rfl) S0 (fun w' hw' => ?_) ?_
        · go_simp
        go_frame
        refine Lex.at_take 2 56 (.pointer (some ⟨w.heap.size, 1, none⟩)) rfl rfl (by kernel_rfl) (by decide) (by decide) (fun _ _ _ h => h) (by kernel_rfl) S0 (fun w' hw' => ?_) ?_
        · go_simp
        go_frame
        refine Lex.at_take 3 57 (.bool true) rfl rfl (by kernel_rfl) (by decide) (by decide) (fun _ _ _ h => h) (by kernel_rfl) S0 (fun w' hw' => ?_) ?_
        · have z := HBC.out _ hw'; go_simp
        go_frame
        refine Lex.at_take 4 58 (.bool true) rfl rfl (by kernel_rfl) (by decide) (by decide) (fun _ _ _ h => h) (by kernel_rfl) S0 (fun w' hw' => ?_) ?_
        · go_simp
        go_frame
        first
          | refine at_pass 5 59 rfl rfl (by kernel_rfl) (by decide) (by decide) (fun _ _ _ h => h) (by kernel_rfl) S0 ?_
          | refine at_pass1 5 59 rfl rfl (by kernel_rfl) (by decide) (by kernel_rfl) S0 ?_
        go_frame
        first
          | refine at_pass 6 60 rfl rfl (by kernel_rfl) (by decide) (by decide) (fun _ _ _ h => h) (by kernel_rfl) S0 ?_
          | refine at_pass1 6 60 rfl rfl (by kernel_rfl) (by decide) (by kernel_rfl) S0 ?_
        go_frame
        first
          | refine at_pass 7 61 rfl rfl (by kernel_rfl) (by decide) (by decide) (fun _ _ _ h => h) (by kernel_rfl) S0 ?_
          | refine at_pass1 7 61 rfl rfl (by kernel_rfl) (by decide) (by kernel_rfl) S0 ?_
        go_frame
        refine Lex.at_take 8 62 (.bool true) rfl rfl (by kernel_rfl) (by decide) (by decide) (fun _ _ _ h => h) (by kernel_rfl) S0 (fun w' hw' => ?_) ?_
        · go_simp
        go_frame
        refine Lex.at_take 9 63 (.bool true) rfl rfl (by kernel_rfl) (by decide) (by decide) (fun _ _ _ h => h) (by kernel_rfl) S0 (fun w' hw' => ?_) ?_
        · go_simp
        go_frame
        first
          | refine at_pass 10 64 rfl rfl (by kernel_rfl) (by decide) (by decide) (fun _ _ _ h => h) (by kernel_rfl) S0 ?_
          | refine at_pass1 10 64 rfl rfl (by kernel_rfl) (by decide) (by kernel_rfl) S0 ?_
        go_frame
        first
          | refine at_pass 11 65 rfl rfl (by kernel_rfl) (by decide) (by decide) (fun _ _ _ h => h) (by kernel_rfl) S0 ?_
          | refine at_pass1 11 65 rfl rfl (by kernel_rfl) (by decide) (by kernel_rfl) S0 ?_
        go_frame
        first
          | refine at_pass 12 66 rfl rfl (by kernel_rfl) (by decide) (by decide) (fun _ _ _ h => h) (by kernel_rfl) S0 ?_
          | refine at_pass1 12 66 rfl rfl (by kernel_rfl) (by decide) (by kernel_rfl) S0 ?_
        go_frame
        first
          | refine at_pass 13 67 rfl rfl (by kernel_rfl) (by decide) (by decide) (fun _ _ _ h => h) (by kernel_rfl) S0 ?_
          | refine at_pass1 13 67 rfl rfl (by kernel_rfl) (by decide) (by kernel_rfl) S0 ?_
        go_frame
        first
          | refine at_pass 14 68 rfl rfl (by kernel_rfl) (by decide) (by decide) (fun _ _ _ h => h) (by kernel_rfl) S0 ?_
          | refine at_pass1 14 68 rfl rfl (by kernel_rfl) (by decide) (by kernel_rfl) S0 ?_
        go_frame
        first
          | refine at_pass 15 69 rfl rfl (by kernel_rfl) (by decide) (by decide) (fun _ _ _ h => h) (by kernel_rfl) S0 ?_
          | refine at_pass1 15 69 rfl rfl (by kernel_rfl) (by decide) (by kernel_rfl) S0 ?_
        go_frame
        refine Lex.AtS.lastv 16 70 (.bool true) u0 rfl rfl (by kernel_rfl) (by kernel_rfl) (by decide) (by kernel_rfl) ?_ ?_
        · go_simp
        go_frame
        go_wp2_with fail
        go_ret2
        exact decd_none (by rw [HDD.out, HBAD.out]; rfl) HLO.out
      | false =>
        have HST := Lib.hid (rdD_step HRP.out hlt HBAD.out)
        have CT := Lib.hid (Cod.rtext_any wr w.heap.size w.heap.size 16 st HA.out.rdr)
        obtain ⟨s1, hs1⟩ : ∃ s1, textS 16 st = s1 := ⟨_, rfl⟩
        obtain ⟨nm, hnm⟩ : ∃ nm, text 16 st = nm := ⟨_, rfl⟩
        have HNL := Lib.hid (text_len 16 st)
        rw [show ((16 : Nat) : Int) = 16 from rfl, hnm] at HNL
        rw [hs1, hnm] at CT
        obtain ⟨m4, hm4⟩ : ∃ m4, count 4 s1 = m4 := ⟨_, rfl⟩
        obtain ⟨s4, hs4⟩ : ∃ s4, countS 4 s1 = s4 := ⟨_, rfl⟩
        have HRG : Hid (∀ p s', rdP m4 s4 = (p, s') → rdG st = (⟨nm, p, count 2 s'⟩, countS 2 s')) := Lib.hid (fun p s' h => rdG_is hnm hs1 hm4 hs4 h)
        have hle4 := count_le 4 s1 (by omega)
        rw [hm4] at hle4
        have HS14 := Lib.hid (And.intro hm4 hs4)
        clear hs1 hnm hm4 hs4
        go_wp2_with fail
        refine CT.out.mono ?_
        rintro e w2 ⟨rfl, hw2, hg2⟩
        have HL2 := Lib.hid (HA.out.read hw2 hg2)
        have hS3 : SgAt 51 w2 (w2.alloc (.cells #[.string ⟨nm.toArray⟩, .slice none 0 0, .int .u8 0] 37)) w.heap.size w.heap.size w2.heap.size s1 ⟨nm.toArray⟩ 0 (.slice none 0 0) [] :=
          ⟨hw2.below (ball_new w2 _ _), new_at w2 _ _, OwnG.nil _ _, grown_of_below (ball_new w2 _ _) _, hw2.lt, Nat.le_refl _⟩
        have HS3 := Lib.hid hS3
        have CC := Lib.hid (Cod.rcount_any _ w.heap.size w.heap.size 4 s1 hS3.rdr)
        rw [HS14.out.1, HS14.out.2] at CC
        clear hw2 hg2 hS3 CT
        go_wp2_with fail
        refine CC.out.mono ?_
        rintro e w4 ⟨rfl, hw4, hg4⟩
        have HS4 := Lib.hid (HS3.out.read hw4 hg4)
        clear hw4 hg4 HS3 CC HA
        obtain ⟨bs, hbs⟩ : ∃ bs, w2.heap.size = bs := ⟨_, rfl⟩
        rw [hbs] at HS4 ⊢
        have HBE := Lib.hid hbs
        clear hbs
        go_wp2_with fail
        go_loopw [10] (fun i wy => ∃ (q : Nat) (A' : Option Addr) (c' : Nat) (st' : Codec.St) (p : List Int), q ≤ m4 ∧ i = .int .i64 q ∧ Hid (p.length = q) ∧ Hid (SgAt 51 w2 wy w.heap.size w.heap.size bs st' ⟨nm.toArray⟩ 0 (.slice A' q c') p) ∧ Hid (rdP m4 s4 = (p ++ (rdP (m4 - q) st').1, (rdP (m4 - q) st').2))) (fun i _ => m4 - (intOf i).toNat)
        case atStart => exact ⟨0, none, 0, s4, [], Nat.zero_le _, rfl, Lib.hid rfl, HS4, Lib.hid (by simp)⟩
        case round =>
          clear HS4
          obtain ⟨q, A', c', st', p, hq, rfl, HPL2, HSA, HRP2⟩ := hrel
          by_cases hqm : q < m4
          · have HST2 := Lib.hid (rdP_step HRP2.out hqm)
            have HD := Lib.hid HSA.out.drew
            go_wp2_with fail
            refine Lex.AtS.start (by kernel_rfl) 8 (SigB bs ⟨nm.toArray⟩ 0 (.slice A' q c')) (by kernel_rfl) (by kernel_rfl) ?_
            generalize wr.drew = u0 at *
            have S0 : SigB bs ⟨nm.toArray⟩ 0 (.slice A' q c') u0 := HD.out.sig
            refine Lex.at_take 0 38 (.pointer (some ⟨bs, 1, none⟩)) rfl rfl (by kernel_rfl) (by decide) (by decide) (fun _ _ _ h => h) (by kernel_rfl) S0 (fun w' hw' => ?_) ?_
            · go_simp
            go_frame
            refine Lex.at_take 1 39 (.slice A' q c') rfl rfl (by kernel_rfl) (by decide) (by decide) (fun _ _ _ h => h) (by kernel_rfl) S0 (fun w' hw' => ?_) ?_
            · have x1 := cell_at hw' 1
              go_simp
            go_frame
            refine Lex.at_take 2 40 (.pointer (some ⟨w.heap.size, 0, none⟩)) rfl rfl (by kernel_rfl) (by decide) (by decide) (fun _ _ _ h => h) (by kernel_rfl) S0 (fun w' hw' => ?_) ?_
            · go_simp
            go_frame
            have CT := Lib.hid (Cod.rcount_any u0 w.heap.size w.heap.size 2 st' HD.out.rdr)
            have hle := count_le 2 st' (by omega)
            obtain ⟨y, hy⟩ : ∃ y, count 2 st' = y := ⟨_, rfl⟩
            rw [hy] at CT hle HST2
            have hcv : (y : Int) % 256 = y := by omega
            clear hy
            refine Lex.at_call 3 41 (f := 23) (args := #[.pointer (some ⟨w.heap.size, 0, none⟩), .int .i64 2]) rfl rfl (by kernel_rfl) (by decide) (by kernel_rfl) ?_ ?_
            · go_simp
            refine CT.out.mono ?_
            rintro e v2 ⟨rfl, h1, h2⟩
            have HD3 := Lib.hid (HD.out.read h1 h2)
            have S3 : SigB bs ⟨nm.toArray⟩ 0 (.slice A' q c') v2 := HD3.out.sig
            refine ⟨_, rfl, S3, ?_⟩
            clear h1 h2 CT HD S0
            go_frame
            refine Lex.at_take 4 42 (.int .u8 y) rfl rfl (by kernel_rfl) (by decide) (by decide) (fun _ _ _ h => h) (by kernel_rfl) S3 (fun w' hw' => ?_) ?_
            · go_simp
              exact wrap_is hcv
            go_frame
            obtain ⟨A2, n2, c2, u2, hap, hs1, hs2, hfz, hat⟩ := HD3.out.one (y : Int) (by rw [HPL2.out]; omega)
            obtain ⟨A2', c2', e2, _, _⟩ := hat.own.form
            injection e2 with e3 e4 e5
            subst e3 e5
            rw [List.length_append, HPL2.out] at e4
            have e4 : n2 = q + 1 := e4
            subst e4
            have HAP := Lib.hid hap
            have HAT := Lib.hid hat
            have HS1 := Lib.hid hs1
            have HS2 := Lib.hid hs2
            have HFZ := Lib.hid hfz
            clear hap hat hs1 hs2 hfz hcv S3
            refine Lex.at_run 5 43 (.slice (some ⟨v2.heap.size, 0, none⟩) 1 1) (v2.alloc (.cells #[.int .u8 y] 35)) rfl rfl (by kernel_rfl) (by decide) (by kernel_rfl) ?_ HS1.out ?_
            · go_simp
            go_frame
            refine at_appG 34 6 44 (.slice A2 (q + 1 : Nat) c2) u2 rfl rfl (by kernel_rfl) (by decide) (by kernel_rfl) (.tmp 39) (.tmp 43) rfl (.slice A' q c') (.slice (some ⟨v2.heap.size, 0, none⟩) 1 1) rfl rfl HAP.out HS2.out ?_
            go_frame
            clear HAP HS1
            refine Lex.at_take 7 45 (.pointer (some ⟨bs, 1, none⟩)) rfl rfl (by kernel_rfl) (by decide) (by decide) (fun _ _ _ h => h) (by kernel_rfl) HS2.out (fun w' hw' => ?_) ?_
            · go_simp
            go_frame
            have x1 := cell_at HS2.out 1
            have f1 := HFZ.out
            refine Lex.AtS.last (i := 8) (w' := u2.setCell ⟨bs, 1, none⟩ (.slice A2 (q + 1 : Nat) c2)) rfl (by kernel_rfl) (by kernel_rfl) (by decide) (by kernel_rfl) ?_ ?_
            · go_simp
            go_frame
            clear x1 f1 HS2 HFZ
            generalize u2.setCell ⟨bs, 1, none⟩ (.slice A2 (q + 1 : Nat) c2) = u4 at *
            go_wp2_with fail
            go_roundw
            case rel => exact ⟨q + 1, A2, c2, _, _, by omega, by go_num, Lib.hid (by rw [List.length_append, HPL2.out]; rfl), HAT, HST2⟩
            case measure => simp [intOf]; omega
          · obtain rfl : q = m4 := by omega
            have HRD := Lib.hid (HRG.out _ _ (rdP_end HRP2.out))
            have CT := Lib.hid (Cod.rcount_any wr w.heap.size w.heap.size 2 st' HSA.out.rdr)
            have hle := count_le 2 st' (by omega)
            obtain ⟨y, hy⟩ : ∃ y, count 2 st' = y := ⟨_, rfl⟩
            rw [hy] at CT hle HRD
            have hcv : (y : Int) % 256 = y := by omega
            clear hy
            go_wp2_with fail
            refine CT.out.mono ?_
            rintro e v6 ⟨rfl, h1, h2⟩
            have hA6 := HSA.out.read h1 h2
            have x0 := cell_at hA6.sig 0
            have x1 := cell_at hA6.sig 1
            have x2 := cell_at hA6.sig 2
            have y2 := Cod.free_at hA6.sig 2
            have HA6 := Lib.hid hA6
            clear h1 h2 hA6 CT
            go_upto_region 14 with fail
            have hA7 := HA6.out.res (y : Int)
            obtain ⟨v7, hv7⟩ : ∃ v7, v6.setCell ⟨bs, 2, none⟩ (.int .u8 y) = v7 := ⟨_, rfl⟩
            rw [hv7] at hA7 ⊢
            clear x0 x1 x2 y2 hv7
            have x0 := cell_at hA7.sig 0
            have x1 := cell_at hA7.sig 1
            have x2 := cell_at hA7.sig 2
            have hL7 := HL2.out.read hA7.rdr hA7.gr
            have hpl := HPL2.out
            subst hpl
            obtain ⟨A5, n5, c5, w5, hap, hn5, hat⟩ := hL7.one ⟨⟨nm.toArray⟩, A', c', p, (y : Int)⟩ (OwnG.lower hA7.own HL2.out.gr.size) ⟨HNL.out, by show (0 : Int) ≤ (y : Int); omega⟩ (by rw [HPL.out]; omega)
            rw [HPL.out] at hn5
            subst hn5
            have HAP := Lib.hid hap
            have HAT := Lib.hid hat
            have HST5 : Hid (rdD m s2 = ((l ++ [(⟨⟨nm.toArray⟩, A', c', p, (y : Int)⟩ : Sg)]).map coreG ++ (rdD (m - (k + 1)) (countS 2 st')).1, (rdD (m - (k + 1)) (countS 2 st')).2)) := Lib.hid (by
              have h := HST.out
              rw [HRD.out] at h
              rw [h, List.map_append]
              rfl)
            generalize p.length = pl at *
            clear hap hat hL7 hA7 hcv HA6
            go_wp2_with (at_builtin; refine wpList_appG 22 rfl (.tmp 50) (.tmp 52) rfl (.slice A k c) (.slice (some ⟨v7.heap.size, 0, none⟩) 1 1) _ rfl rfl HAP.out ?_)
            go_wp2_with fail
            go_roundw
            case rel => exact ⟨k + 1, A5, c5, _, _, by omega, rfl, by go_num, Lib.hid (by rw [List.length_append, HPL.out]; rfl), HAT, HST5⟩
            case measure => simp [intOf]; omega
    · obtain rfl : k = m := by omega
      cases t with
      | true =>
        have HE := Lib.hid (rdD_end HRP.out (.inr HBAD.out))
        have HDD := Lib.hid (HDC.out _ _ HE.out)
        have HX0 := Lib.hid (HA.out.drewN 1)
        have HLO := Lib.hid (HLW.out _ _ _ _ HX0.out)
        go_wp2_with fail
        refine Lex.AtS.start (by kernel_rfl) 16 (fun u => Below wr.drew.heap.size wr.drew u) (by kernel_rfl) (by kernel_rfl) ?_
        have HX0 : Hid (LAt 51 (w.alloc (.cells #[.slice A0 n0 c0, .bool false] 51)) wr.drew w.heap.size w.heap.size st (.slice A k c) l) := HX0
        have HLO : Hid (Below w.heap.size w wr.drew) := HLO
        generalize wr.drew = u0 at *
        have S0 : Below u0.heap.size u0 u0 := Below.refl _ _
        have HBC : Hid (∀ u, Below u0.heap.size u0 u → u.cell? ⟨w.heap.size, 1, none⟩ = some (.bool true)) := Lib.hid (fun u h => by
          have := Cod.bad_at (HX0.out.below h).rdr
          rwa [HBAD.out] at this)
        refine Lex.at_take 0 54 (.pointer (some ⟨w.heap.size, 0, none⟩)) rfl rfl (by kernel_rfl) (by decide) (by decide) (fun _ _ _ h => h) (by kernel_rfl) S0 (fun w' hw' => ?_) ?_
        · go_simp
        go_frame
        refine Lex.at_take 1 55 (.pointer (some ⟨w.heap.size, 0, none⟩)) rfl rfl (by kernel_rfl) (by decide) (by decide) (fun _ _ _ h => h) (by kernel_rfl) S0 (fun w' hw' => ?_) ?_
        · go_simp
        go_frame
        refine Lex.at_take 2 56 (.pointer (some ⟨w.heap.size, 1, none⟩)) rfl rfl (by kernel_rfl) (by decide) (by decide) (fun _ _ _ h => h) (by kernel_rfl) S0 (fun w' hw' => ?_) ?_
        · go_simp
        go_frame
        refine Lex.at_take 3 57 (.bool true) rfl rfl (by kernel_rfl) (by decide) (by decide) (fun _ _ _ h => h) (by kernel_rfl) S0 (fun w' hw' => ?_) ?_
        · have z := HBC.out _ hw'; go_simp
        go_frame
        refine Lex.at_take 4 58 (.bool true) rfl rfl (by kernel_rfl) (by decide) (by decide) (fun _ _ _ h => h) (by kernel_rfl) S0 (fun w' hw' => ?_) ?_
        · go_simp
        go_frame
        first
          | refine at_pass 5 59 rfl rfl (by kernel_rfl) (by decide) (by decide) (fun _ _ _ h => h) (by kernel_rfl) S0 ?_
          | refine at_pass1 5 59 rfl rfl (by kernel_rfl) (by decide) (by kernel_rfl) S0 ?_
        go_frame
        first
          | refine at_pass 6 60 rfl rfl (by kernel_rfl) (by decide) (by decide) (fun _ _ _ h => h) (by kernel_rfl) S0 ?_
          | refine at_pass1 6 60 rfl rfl (by kernel_rfl) (by decide) (by kernel_rfl) S0 ?_
        go_frame
        first
          | refine at_pass 7 61 rfl rfl (by kernel_rfl) (by decide) (by decide) (fun _ _ _ h => h) (by kernel_rfl) S0 ?_
          | refine at_pass1 7 61 rfl rfl (by kernel_rfl) (by decide) (by kernel_rfl) S0 ?_
        go_frame
        refine Lex.at_take 8 62 (.bool true) rfl rfl (by kernel_rfl) (by decide) (by decide) (fun _ _ _ h => h) (by kernel_rfl) S0 (fun w' hw' => ?_) ?_
        · go_simp
        go_frame
        refine Lex.at_take 9 63 (.bool true) rfl rfl (by kernel_rfl) (by decide) (by decide) (fun _ _ _ h => h) (by kernel_rfl) S0 (fun w' hw' => ?_) ?_
        · go_simp
        go_frame
        first
          | refine at_pass 10 64 rfl rfl (by kernel_rfl) (by decide) (by decide) (fun _ _ _ h => h) (by kernel_rfl) S0 ?_
          | refine at_pass1 10 64 rfl rfl (by kernel_rfl) (by decide) (by kernel_rfl) S0 ?_
        go_frame
        first
          | refine at_pass 11 65 rfl rfl (by kernel_rfl) (by decide) (by decide) (fun _ _ _ h => h) (by kernel_rfl) S0 ?_
          | refine at_pass1 11 65 rfl rfl (by kernel_rfl) (by decide) (by kernel_rfl) S0 ?_
        go_frame
        first
          | refine at_pass 12 66 rfl rfl (by kernel_rfl) (by decide) (by decide) (fun _ _ _ h => h) (by kernel_rfl) S0 ?_
          | refine at_pass1 12 66 rfl rfl (by kernel_rfl) (by decide) (by kernel_rfl) S0 ?_
        go_frame
        first
          | refine at_pass 13 67 rfl rfl (by kernel_rfl) (by decide) (by decide) (fun _ _ _ h => h) (by kernel_rfl) S0 ?_
          | refine at_pass1 13 67 rfl rfl (by kernel_rfl) (by decide) (by kernel_rfl) S0 ?_
        go_frame
        first
          | refine at_pass 14 68 rfl rfl (by kernel_rfl) (by decide) (by decide) (fun _ _ _ h => h) (by kernel_rfl) S0 ?_
          | refine at_pass1 14 68 rfl rfl (by kernel_rfl) (by decide) (by kernel_rfl) S0 ?_
        go_frame
        first
          | refine at_pass 15 69 rfl rfl (by kernel_rfl) (by decide) (by decide) (fun _ _ _ h => h) (by kernel_rfl) S0 ?_
          | refine at_pass1 15 69 rfl rfl (by kernel_rfl) (by decide) (by kernel_rfl) S0 ?_
        go_frame
        refine Lex.AtS.lastv 16 70 (.bool true) u0 rfl rfl (by kernel_rfl) (by kernel_rfl) (by decide) (by kernel_rfl) ?_ ?_
        · go_simp
        go_frame
        go_wp2_with fail
        go_ret2
        exact decd_none (by rw [HDD.out, HBAD.out]; rfl) HLO.out
      | false =>
        have HE := Lib.hid (rdD_end HRP.out (.inl (Nat.sub_self _)))
        have HDD := Lib.hid (HDC.out _ _ HE.out)
        have HX0 := Lib.hid (HA.out.drewN 1)
        have HLO := Lib.hid (HLW.out _ _ _ _ HX0.out)
        go_wp2_with fail
        refine Lex.AtS.start (by kernel_rfl) 16 (fun u => Below wr.drew.heap.size wr.drew u) (by kernel_rfl) (by kernel_rfl) ?_
        have HX0 : Hid (LAt 51 (w.alloc (.cells #[.slice A0 n0 c0, .bool false] 51)) wr.drew w.heap.size w.heap.size st (.slice A k c) l) := HX0
        have HLO : Hid (Below w.heap.size w wr.drew) := HLO
        generalize wr.drew = u0 at *
        have S0 : Below u0.heap.size u0 u0 := Below.refl _ _
        have HBC : Hid (∀ u, Below u0.heap.size u0 u → u.cell? ⟨w.heap.size, 1, none⟩ = some (.bool false)) := Lib.hid (fun u h => by
          have := Cod.bad_at (HX0.out.below h).rdr
          rwa [HBAD.out] at this)
        have HSG := Lib.hid (HX0.out.sgs (few_ofD HE.out))
        have HSZ : Hid (∀ g ∈ l, g.s.size ≤ 1000000 ∧ 0 ≤ g.r) := Lib.hid (fun g hg => ⟨by have := (HX0.out.shs g hg).1; omega, (HX0.out.shs g hg).2⟩)
        have CR := Lib.hid (rright_any l A c k u0 HPL.out HX0.out.row HSG.out HSZ.out (by omega))
        refine Lex.at_take 0 54 (.pointer (some ⟨w.heap.size, 0, none⟩)) rfl rfl (by kernel_rfl) (by decide) (by decide) (fun _ _ _ h => h) (by kernel_rfl) S0 (fun w' hw' => ?_) ?_
        · go_simp
        go_frame
        refine Lex.at_take 1 55 (.pointer (some ⟨w.heap.size, 0, none⟩)) rfl rfl (by kernel_rfl) (by decide) (by decide) (fun _ _ _ h => h) (by kernel_rfl) S0 (fun w' hw' => ?_) ?_
        · go_simp
        go_frame
        refine Lex.at_take 2 56 (.pointer (some ⟨w.heap.size, 1, none⟩)) rfl rfl (by kernel_rfl) (by decide) (by decide) (fun _ _ _ h => h) (by kernel_rfl) S0 (fun w' hw' => ?_) ?_
        · go_simp
        go_frame
        refine Lex.at_take 3 57 (.bool false) rfl rfl (by kernel_rfl) (by decide) (by decide) (fun _ _ _ h => h) (by kernel_rfl) S0 (fun w' hw' => ?_) ?_
        · have z := HBC.out _ hw'; go_simp
        go_frame
        refine Lex.at_take 4 58 (.bool false) rfl rfl (by kernel_rfl) (by decide) (by decide) (fun _ _ _ h => h) (by kernel_rfl) S0 (fun w' hw' => ?_) ?_
        · go_simp
        go_frame
        refine Lex.at_take 5 59 (.slice A k c) rfl rfl (by kernel_rfl) (by decide) (by decide) (fun _ _ _ h => h) (by kernel_rfl) S0 (fun w' hw' => ?_) ?_
        · go_simp
        go_frame
        obtain ⟨t2, ht2⟩ : ∃ t, rightL (l.map coreG) = t := ⟨_, rfl⟩
        have HRT := Lib.hid ht2
        rw [ht2] at CR
        clear ht2
        cases t2 with
        | false =>
          have HDD : Hid (decP b = if st.bad || true then none else some (l.map coreG)) := Lib.hid (by rw [HDD.out, HRT.out]; cases st.bad <;> rfl)
          refine Lex.at_call 6 60 (f := 14) (args := #[.slice A k c]) rfl rfl (by kernel_rfl) (by decide) (by kernel_rfl) ?_ ?_
          · go_simp
          refine CR.out.mono ?_
          rintro e u1 ⟨rfl, hb1⟩
          have S1 := hb1
          have HB1 := Lib.hid hb1
          refine ⟨_, rfl, S1, ?_⟩
          clear hb1 S0 CR
          go_frame
          refine Lex.at_take 7 61 (.bool true) rfl rfl (by kernel_rfl) (by decide) (by decide) (fun _ _ _ h => h) (by kernel_rfl) S1 (fun w' hw' => ?_) ?_
          · go_simp
          go_frame
          refine Lex.at_take 8 62 (.bool true) rfl rfl (by kernel_rfl) (by decide) (by decide) (fun _ _ _ h => h) (by kernel_rfl) S1 (fun w' hw' => ?_) ?_
          · go_simp
          go_frame
          refine Lex.at_take 9 63 (.bool true) rfl rfl (by kernel_rfl) (by decide) (by decide) (fun _ _ _ h => h) (by kernel_rfl) S1 (fun w' hw' => ?_) ?_
          · go_simp
          go_frame
          first
            | refine at_pass 10 64 rfl rfl (by kernel_rfl) (by decide) (by decide) (fun _ _ _ h => h) (by kernel_rfl) S1 ?_
            | refine at_pass1 10 64 rfl rfl (by kernel_rfl) (by decide) (by kernel_rfl) S1 ?_
          go_frame
          first
            | refine at_pass 11 65 rfl rfl (by kernel_rfl) (by decide) (by decide) (fun _ _ _ h => h) (by kernel_rfl) S1 ?_
            | refine at_pass1 11 65 rfl rfl (by kernel_rfl) (by decide) (by kernel_rfl) S1 ?_
          go_frame
          first
            | refine at_pass 12 66 rfl rfl (by kernel_rfl) (by decide) (by decide) (fun _ _ _ h => h) (by kernel_rfl) S1 ?_
            | refine at_pass1 12 66 rfl rfl (by kernel_rfl) (by decide) (by kernel_rfl) S1 ?_
          go_frame
          first
            | refine at_pass 13 67 rfl rfl (by kernel_rfl) (by decide) (by decide) (fun _ _ _ h => h) (by kernel_rfl) S1 ?_
            | refine at_pass1 13 67 rfl rfl (by kernel_rfl) (by decide) (by kernel_rfl) S1 ?_
          go_frame
          first
            | refine at_pass 14 68 rfl rfl (by kernel_rfl) (by decide) (by decide) (fun _ _ _ h => h) (by kernel_rfl) S1 ?_
            | refine at_pass1 14 68 rfl rfl (by kernel_rfl) (by decide) (by kernel_rfl) S1 ?_
          go_frame
          first
            | refine at_pass 15 69 rfl rfl (by kernel_rfl) (by decide) (by decide) (fun _ _ _ h => h) (by kernel_rfl) S1 ?_
            | refine at_pass1 15 69 rfl rfl (by kernel_rfl) (by decide) (by kernel_rfl) S1 ?_
          go_frame
          refine Lex.AtS.lastv 16 70 (.bool true) u1 rfl rfl (by kernel_rfl) (by kernel_rfl) (by decide) (by kernel_rfl) ?_ ?_
          · go_simp
          go_frame
          go_wp2_with fail
          go_ret2
          exact decd_none (by rw [HDD.out, HBAD.out]; rfl) (HLO.out.trans (HB1.out.mono HLO.out.size))
        | true =>
          refine Lex.at_call 6 60 (f := 14) (args := #[.slice A k c]) rfl rfl (by kernel_rfl) (by decide) (by kernel_rfl) ?_ ?_
          · go_simp
          refine CR.out.mono ?_
          rintro e u1 ⟨rfl, hb1⟩
          have S1 := hb1
          have HB1 := Lib.hid hb1
          refine ⟨_, rfl, S1, ?_⟩
          clear hb1 S0 CR
          go_frame
          refine Lex.at_take 7 61 (.bool false) rfl rfl (by kernel_rfl) (by decide) (by decide) (fun _ _ _ h => h) (by kernel_rfl) S1 (fun w' hw' => ?_) ?_
          · go_simp
          go_frame
          refine Lex.at_take 8 62 (.bool false) rfl rfl (by kernel_rfl) (by decide) (by decide) (fun _ _ _ h => h) (by kernel_rfl) S1 (fun w' hw' => ?_) ?_
          · go_simp
          go_frame
          refine Lex.at_take 9 63 (.bool false) rfl rfl (by kernel_rfl) (by decide) (by decide) (fun _ _ _ h => h) (by kernel_rfl) S1 (fun w' hw' => ?_) ?_
          · go_simp
          go_frame
          refine Lex.at_take 10 64 (.slice A k c) rfl rfl (by kernel_rfl) (by decide) (by decide) (fun _ _ _ h => h) (by kernel_rfl) S1 (fun w' hw' => ?_) ?_
          · go_simp
          go_frame
          refine Lex.at_take 13 67 (.slice A0 n0 c0) rfl rfl (by kernel_rfl) (by decide) (by decide) (fun _ _ _ h => h) (by kernel_rfl) S1 (fun w' hw' => ?_) ?_
          · go_simp
          go_frame
          refine Lex.at_take 14 68 (.string ⟨b.toArray⟩) rfl rfl (by kernel_rfl) (by decide) (by decide) (fun _ _ _ h => h) (by kernel_rfl) S1 (fun w' hw' => ?_) ?_
          · have hcv := Cod.run_string_of w' _ n0 c0 A0 b (HBY.out w' (HLO.out.trans (hw'.mono HLO.out.size)))
            go_simp
          go_frame
          have CB := Lib.hid (rbytes_any l A c k u1 HPL.out (HX0.out.row.below HB1.out) (fun g hg => (HSG.out g hg).below HB1.out) HRT.out)
          refine Lex.at_call 11 65 (f := 18) (args := #[.slice A k c]) rfl rfl (by kernel_rfl) (by decide) (by kernel_rfl) ?_ ?_
          · go_simp
          refine CB.out.mono ?_
          rintro e u2 ⟨A6, n6, c6, rfl, ho6, hb6⟩
          have HB2 := Lib.hid (HB1.out.trans (hb6.mono HB1.out.size))
          have S2 : Below u0.heap.size u0 u2 := HB2.out
          refine ⟨_, rfl, S2, ?_⟩
          go_frame
          have hcv := Cod.run_string_of u2 _ n6 c6 A6 _ ho6.byts
          obtain ⟨Z1, hz1⟩ : ∃ Z, (⟨(encL (l.map coreG)).toArray⟩ : ByteArray) = Z := ⟨_, rfl⟩
          obtain ⟨Z2, hz2⟩ : ∃ Z, (⟨b.toArray⟩ : ByteArray) = Z := ⟨_, rfl⟩
          rw [hz1] at hcv
          rw [hz2]
          obtain ⟨t3, ht3⟩ : ∃ t, (Z1.toList != Z2.toList) = t := ⟨_, rfl⟩
          have HT3 : Hid ((encL (l.map coreG) != b) = t3) := Lib.hid (by
            rw [← ht3, ← hz1, ← hz2]
            simp only [ByteArray.toList_mk])
          clear hz1 hz2 ho6 hb6 CB S1
          refine Lex.at_run 12 66 (.string Z1) u2 rfl rfl (by kernel_rfl) (by decide) (by kernel_rfl) ?_ S2 ?_
          · go_simp
          go_frame
          clear hcv
          refine Lex.at_take 15 69 (.bool t3) rfl rfl (by kernel_rfl) (by decide) (by decide) (fun _ _ _ h => h) (by kernel_rfl) S2 (fun w' hw' => ?_) ?_
          · go_simp
            rw [← ht3, bne, Bool.not_not]
          go_frame
          refine Lex.AtS.lastv 16 70 (.bool t3) u2 rfl rfl (by kernel_rfl) (by kernel_rfl) (by decide) (by kernel_rfl) ?_ ?_
          · go_simp
          go_frame
          clear ht3 S2
          cases t3 with
          | true =>
            go_wp2_with fail
            go_ret2
            exact decd_none (by rw [HDD.out, HBAD.out, HRT.out, HT3.out]; rfl) (HLO.out.trans (HB2.out.mono HLO.out.size))
          | false =>
            go_wp2_with fail
            go_ret2
            have hsome : decP b = some (l.map coreG) := by rw [HDD.out, HBAD.out, HRT.out, HT3.out]; rfl
            exact decd_of HPL.out (by rw [hsome]; rfl) (by rw [hsome]; rfl) (HX0.out.row.below HB2.out) (fun x hx => (HSG.out x hx).below HB2.out) HX0.out.shs (by omega) (HLO.out.trans (HB2.out.mono HLO.out.size))
end Go.Proofs.Ytofadlenblobnaa.Exp
