/-
  TypesScopes: its walk.
-/
import Derived.Test.YtbhgbgaeaejnhaaZTwo
import Derived.Test.YtbhgbgaeaejnhaaYOpn
import Derived.Deep.DeepCutAuto
import Derived.Deep.CutBlock
namespace Go.Proofs.Ytbhgbgaeaejnhaa.Typ
open Go.RowKit Tre
open Lex (AtS at_take at_run at_call)
set_option maxRecDepth 100000
set_option linter.unusedSimpArgs false
theorem quiet_left {P : Program} {f : FuncId} {args : Array Value} {w : World} {n : Nat} {v : Value}
    (h : Calls P f args (w.drewN n) fun e w' => e = .returned v ∧ w.drewN n = w') : Calls P f args (w.drewN n) fun e w'' => e = .returned v ∧ ∃ m, w'' = w.drewN m :=
  h.mono fun _ _ ⟨he, hm⟩ => ⟨he, n, hm.symm⟩
theorem acC_at {a : Ac} {w : World} {b o : Nat} (h : ∀ (r : Nat) (u : Value), (acC a)[r]? = some u → w.cell? ⟨b, o + r, none⟩ = some u) :
    w.cell? ⟨b, o, none⟩ = some (.int .i64 a.k) ∧ w.cell? ⟨b, o + 1, none⟩ = some (.string a.s) ∧ w.cell? ⟨b, o + 2, none⟩ = some (.int .u8 a.t) := ⟨h 0 _ rfl, h 1 _ rfl, h 2 _ rfl⟩
theorem size_len (s : ByteArray) : s.size = s.toList.length := by
  rw [ByteArray.toList_eq]
  exact (Array.length_toList).symm
set_option maxHeartbeats 8000000 in
theorem scopes_many {w : World} {A : Option Addr} {c n : Nat} (h : 100 < n) (hn : n ≤ 9223372036854775807) :
    Calls Try.prog 4 #[.slice A n c] w (fun e w' => e = .returned (.bool true) ∧ Below w.heap.size w w') := by
  have C := Lib.hid (knows_any w)
  go_enter Try.func4, Try.ntmps4
  go_wp2_with fail
  refine C.out.mono ?_
  rintro e w1 ⟨rfl, hb⟩
  go_wp2_with fail
  go_ret
  exact ⟨rfl, hb⟩
/-- What Def's arguments read. -/
def AcS (b p : Nat) (s : ByteArray) (t : Int) (W : World) : Prop := W.cell? ⟨b, p + 1, none⟩ = some (.string s) ∧ W.cell? ⟨b, p + 2, none⟩ = some (.int .u8 t)
theorem defB_has {K : List (List Vr)} {L : List Vr} {N : Int} {s : ByteArray} {t : Int} (h : (fnd L s).isSome = true) : defB K L N s t = L ∧ defN L N s = N := by
  unfold defB defN
  rw [h]
  exact ⟨rfl, rfl⟩
theorem defB_new {K : List (List Vr)} {L : List Vr} {N : Int} {s : ByteArray} {t : Int} (h : (fnd L s).isSome = false) : defB K L N s t = L ++ [⟨s, t, N, (K.length : Int) + 1⟩] ∧ defN L N s = N + 1 := by
  unfold defB defN
  rw [h]
  exact ⟨rfl, rfl⟩
set_option maxHeartbeats 32000000 in
theorem scopes_few {w : World} {A : Option Addr} {c n : Nat} {l : List Ac} (hr : Row 3 acC w A l) (hl : l.length = n) (hn : n ≤ 100) (hs : ∀ z ∈ l, z.s.size ≤ maxLen) :
    Calls Try.prog 4 #[.slice A n c] w (fun e w' => e = .returned (.bool true) ∧ Below w.heap.size w w') := by
  have C := Lib.hid (knows_any w)
  have HR := Lib.hid hr
  have HL := Lib.hid hl
  have HSZ := Lib.hid hs
  clear hr hl hs
  go_enter Try.func4, Try.ntmps4
  go_wp2_with fail
  refine C.out.mono ?_
  rintro e w1 ⟨rfl, hb⟩
  have HB := Lib.hid hb
  have H0 : Hid (ScR w1 _ _ _ 0) := Lib.hid (ScR.of (two_zero w1) rfl rfl rfl (Nat.le_refl _) (Nat.le_refl _) (Int.le_refl _) (Nat.le_refl _))
  obtain ⟨gs, hgs⟩ : ∃ gs, w1.heap.size = gs := ⟨_, rfl⟩
  obtain ⟨gr, hgr⟩ : ∃ gr, gs + 1 = gr := ⟨_, rfl⟩
  have hz1 : ∀ cs T, (w1.alloc (.cells cs T)).heap.size = gr := fun cs T => by rw [World.size_alloc, hgs, hgr]
  rw [hgs, hgr] at H0
  clear hb C
  go_wp2_with fail
  go_loopw [5] (fun i wr => ∃ j : Nat, j ≤ n ∧ i = .int .i64 j ∧ Hid (ScR w1 wr gs gr j)) (fun i _ => n - (intOf i).toNat)
  case atStart => exact ⟨0, Nat.zero_le _, rfl, H0⟩
  case round =>
    obtain ⟨j, hj, rfl, HSC⟩ := hrel
    clear H0
    by_cases hlt : j < n
    · obtain ⟨a, ha⟩ : ∃ a, l[j]? = some a := ⟨_, List.getElem?_eq_getElem (by rw [HL.out]; exact hlt)⟩
      obtain ⟨b1, o1, rfl, hc1⟩ := HR.out.at_ HB.out ha
      have hb1 : b1 < w1.heap.size := World.block_lt_of_cell? _ _ (hc1 0 _ rfl)
      have HIT : Hid (∀ u, Below w1.heap.size w1 u → u.cell? ⟨b1, o1 + j * 3, none⟩ = some (.int .i64 a.k) ∧ u.cell? ⟨b1, o1 + j * 3 + 1, none⟩ = some (.string a.s) ∧ u.cell? ⟨b1, o1 + j * 3 + 2, none⟩ = some (.int .u8 a.t)) := Lib.hid (fun u hb => acC_at fun r v e => (World.cell?_of_block (hb.block b1 hb1)).trans (hc1 r v e))
      have hsz := HSZ.out a (List.mem_of_getElem? ha)
      have hj1 : (j : Int) < n := by omega
      have HBL : Hid (Below w1.heap.size w1 wr) := Lib.hid (by
        obtain ⟨_, _, _, _, _, _, _, _, _, H, _⟩ := HSC.out
        exact H.bl)
      obtain ⟨p0, p1, p2⟩ := HIT.out wr HBL.out
      obtain ⟨kd, s, t⟩ := a
      simp only at HIT p0 p1 p2 hsz
      clear hc1 ha
      by_cases hbig : 300 < s.size
      · go_wp2_with fail
        go_ret
        exact ⟨rfl, HB.out.trans (HBL.out.mono HB.out.size)⟩
      · have hbig2 : s.size ≤ 300 := by omega
        go_upto_block 2 with fail
        go_cut [6] (fun v wc => v = .bool true ∧ Hid (ScR w1 wc gs gr (j + 1)))
        case first =>
          rcases (show kd = 0 ∨ kd = 1 ∨ kd = 2 ∨ kd = 3 ∨ (kd ≠ 0 ∧ kd ≠ 1 ∧ kd ≠ 2 ∧ kd ≠ 3) by omega) with h0 | h0 | h0 | h0 | h0
          · subst h0
            obtain ⟨S, A1, c1, LL, N, m, lv, D, M, H, rfl, rfl, rfl, g1, g2, g3, g4⟩ := HSC.out
            clear HSC
            have gp := H.wf.pos
            have C1 := Lib.hid (two_open H (by omega))
            clear H
            go_wp2_with fail
            refine C1.out.mono ?_
            rintro e w2 ⟨rfl, S2, H2⟩
            have C2 := Lib.hid (doc_open H2 (by omega) (by omega))
            clear H2 C1
            go_wp2_with fail
            refine C2.out.mono ?_
            rintro e w3 ⟨rfl, H3⟩
            have HN : Hid (ScR w1 w3 gs gr (j + 1)) := Lib.hid (ScR.of H3 (by simp) (by simp) rfl (by rw [List.length_append, List.length_singleton]; omega) (by have e : (LL ++ [[]]).flatten = LL.flatten := (by simp); rw [e]; omega) (by omega) (by omega))
            clear H3 C2
            go_wp2_with fail
            go_meet
            exact ⟨rfl, HN⟩
          · subst h0
            obtain ⟨S, A1, c1, LL, N, m, lv, D, M, H, rfl, rfl, rfl, g1, g2, g3, g4⟩ := HSC.out
            clear HSC
            have gp := H.wf.pos
            rcases List.eq_nil_or_concat LL with rfl | ⟨K, L, rfl⟩
            · have C1 := Lib.hid (two_close0 H)
              have C2 := Lib.hid (doc_close0 H)
              have HN : Hid (ScR w1 wr gs gr (j + 1)) := Lib.hid (ScR.of H rfl rfl rfl (by simp) (by simp) (by omega) (by omega))
              clear H
              go_wp2_with fail
              refine C1.out.mono ?_
              rintro e w2 ⟨rfl, hw⟩
              obtain rfl : wr = w2 := hw.symm
              clear hw
              go_wp2_with fail
              refine C2.out.mono ?_
              rintro e w3 ⟨rfl, hw⟩
              obtain rfl : wr = w3 := hw.symm
              clear hw
              go_wp2_with fail
              go_meet
              exact ⟨rfl, HN⟩
            · rw [List.concat_eq_append] at *
              have hlen : (K ++ [L]).length = K.length + 1 := by simp
              have hfl : (K ++ [L]).flatten.length = K.flatten.length + L.length := by simp
              rw [hlen] at g1
              rw [hfl] at g2
              have C1 := Lib.hid (two_close H (by omega) (by omega) (by omega))
              have hwf := H.wf
              clear H
              go_wp2_with fail
              refine C1.out.mono ?_
              rintro e w2 ⟨rfl, S2, H2⟩
              have hD : (((K ++ [L]).length : Nat) : Int) = (K.length : Int) + 1 := by rw [hlen]; push_cast; rfl
              rw [hD] at H2
              have C2 := Lib.hid (doc_close H2 (by rw [hfl]; omega) (by omega) (by omega))
              rw [close_wf hwf] at C2
              clear H2 C1
              go_wp2_with fail
              refine C2.out.mono ?_
              rintro e w3 ⟨rfl, H3⟩
              have HN : Hid (ScR w1 w3 gs gr (j + 1)) := Lib.hid (ScR.of H3 rfl (by omega) rfl (by omega) (by omega) (by omega) (by omega))
              clear H3 C2
              go_wp2_with fail
              go_meet
              exact ⟨rfl, HN⟩
          · subst h0
            obtain ⟨S, A1, c1, LL, N, m, lv, D, M, H, rfl, rfl, rfl, g1, g2, g3, g4⟩ := HSC.out
            clear HSC
            have gp := H.wf.pos
            rcases List.eq_nil_or_concat LL with rfl | ⟨K, L, rfl⟩
            · go_wp2_with fail
              refine AtS.start (by kernel_rfl) 25 (AcS b1 (o1 + j * 3) s t) (by kernel_rfl) (by kernel_rfl) ?_
              have HX := Lib.hid (H.below (Below.refl _ wr).drew)
              clear H p0 p1 p2 HBL
              generalize wr.drew = X0 at *
              have hS : AcS b1 (o1 + j * 3) s t X0 := ⟨(HIT.out X0 HX.out.bl).2.1, (HIT.out X0 HX.out.bl).2.2⟩
              refine at_take 0 59 (.pointer (some ⟨gs, 0, none⟩)) rfl rfl (by kernel_rfl) (by decide) (by decide) (fun _ _ _ h => h) (by kernel_rfl) hS (fun w' hw' => ?_) ?_
              · obtain ⟨q1, q2⟩ := hw'
                go_simp <;> omega
              go_frame
              refine at_take 1 60 (.slice (some ⟨b1, o1, none⟩) n c) rfl rfl (by kernel_rfl) (by decide) (by decide) (fun _ _ _ h => h) (by kernel_rfl) hS (fun w' hw' => ?_) ?_
              · obtain ⟨q1, q2⟩ := hw'
                go_simp <;> omega
              go_frame
              refine at_take 2 61 (.int .i64 j) rfl rfl (by kernel_rfl) (by decide) (by decide) (fun _ _ _ h => h) (by kernel_rfl) hS (fun w' hw' => ?_) ?_
              · obtain ⟨q1, q2⟩ := hw'
                go_simp <;> omega
              go_frame
              refine at_take 3 62 (.pointer (some ⟨b1, o1 + j * 3, none⟩)) rfl rfl (by kernel_rfl) (by decide) (by decide) (fun _ _ _ h => h) (by kernel_rfl) hS (fun w' hw' => ?_) ?_
              · obtain ⟨q1, q2⟩ := hw'
                go_simp <;> omega
              go_frame
              refine at_take 4 63 (.pointer (some ⟨b1, o1 + j * 3 + 1, none⟩)) rfl rfl (by kernel_rfl) (by decide) (by decide) (fun _ _ _ h => h) (by kernel_rfl) hS (fun w' hw' => ?_) ?_
              · obtain ⟨q1, q2⟩ := hw'
                go_simp <;> omega
              go_frame
              refine at_take 5 64 (.string s) rfl rfl (by kernel_rfl) (by decide) (by decide) (fun _ _ _ h => h) (by kernel_rfl) hS (fun w' hw' => ?_) ?_
              · obtain ⟨q1, q2⟩ := hw'
                go_simp <;> omega
              go_frame
              refine at_take 6 65 (.slice (some ⟨b1, o1, none⟩) n c) rfl rfl (by kernel_rfl) (by decide) (by decide) (fun _ _ _ h => h) (by kernel_rfl) hS (fun w' hw' => ?_) ?_
              · obtain ⟨q1, q2⟩ := hw'
                go_simp <;> omega
              go_frame
              refine at_take 7 66 (.int .i64 j) rfl rfl (by kernel_rfl) (by decide) (by decide) (fun _ _ _ h => h) (by kernel_rfl) hS (fun w' hw' => ?_) ?_
              · obtain ⟨q1, q2⟩ := hw'
                go_simp <;> omega
              go_frame
              refine at_take 8 67 (.pointer (some ⟨b1, o1 + j * 3, none⟩)) rfl rfl (by kernel_rfl) (by decide) (by decide) (fun _ _ _ h => h) (by kernel_rfl) hS (fun w' hw' => ?_) ?_
              · obtain ⟨q1, q2⟩ := hw'
                go_simp <;> omega
              go_frame
              refine at_take 9 68 (.pointer (some ⟨b1, o1 + j * 3 + 2, none⟩)) rfl rfl (by kernel_rfl) (by decide) (by decide) (fun _ _ _ h => h) (by kernel_rfl) hS (fun w' hw' => ?_) ?_
              · obtain ⟨q1, q2⟩ := hw'
                go_simp <;> omega
              go_frame
              refine at_take 10 69 (.int .u8 t) rfl rfl (by kernel_rfl) (by decide) (by decide) (fun _ _ _ h => h) (by kernel_rfl) hS (fun w' hw' => ?_) ?_
              · obtain ⟨q1, q2⟩ := hw'
                go_simp <;> omega
              go_frame
              refine at_take 12 71 (.pointer (some ⟨gr, 0, none⟩)) rfl rfl (by kernel_rfl) (by decide) (by decide) (fun _ _ _ h => h) (by kernel_rfl) hS (fun w' hw' => ?_) ?_
              · obtain ⟨q1, q2⟩ := hw'
                go_simp <;> omega
              go_frame
              refine at_take 13 72 (.slice (some ⟨b1, o1, none⟩) n c) rfl rfl (by kernel_rfl) (by decide) (by decide) (fun _ _ _ h => h) (by kernel_rfl) hS (fun w' hw' => ?_) ?_
              · obtain ⟨q1, q2⟩ := hw'
                go_simp <;> omega
              go_frame
              refine at_take 14 73 (.int .i64 j) rfl rfl (by kernel_rfl) (by decide) (by decide) (fun _ _ _ h => h) (by kernel_rfl) hS (fun w' hw' => ?_) ?_
              · obtain ⟨q1, q2⟩ := hw'
                go_simp <;> omega
              go_frame
              refine at_take 15 74 (.pointer (some ⟨b1, o1 + j * 3, none⟩)) rfl rfl (by kernel_rfl) (by decide) (by decide) (fun _ _ _ h => h) (by kernel_rfl) hS (fun w' hw' => ?_) ?_
              · obtain ⟨q1, q2⟩ := hw'
                go_simp <;> omega
              go_frame
              refine at_take 16 75 (.pointer (some ⟨b1, o1 + j * 3 + 1, none⟩)) rfl rfl (by kernel_rfl) (by decide) (by decide) (fun _ _ _ h => h) (by kernel_rfl) hS (fun w' hw' => ?_) ?_
              · obtain ⟨q1, q2⟩ := hw'
                go_simp <;> omega
              go_frame
              refine at_take 17 76 (.string s) rfl rfl (by kernel_rfl) (by decide) (by decide) (fun _ _ _ h => h) (by kernel_rfl) hS (fun w' hw' => ?_) ?_
              · obtain ⟨q1, q2⟩ := hw'
                go_simp <;> omega
              go_frame
              refine at_take 18 77 (.slice (some ⟨b1, o1, none⟩) n c) rfl rfl (by kernel_rfl) (by decide) (by decide) (fun _ _ _ h => h) (by kernel_rfl) hS (fun w' hw' => ?_) ?_
              · obtain ⟨q1, q2⟩ := hw'
                go_simp <;> omega
              go_frame
              refine at_take 19 78 (.int .i64 j) rfl rfl (by kernel_rfl) (by decide) (by decide) (fun _ _ _ h => h) (by kernel_rfl) hS (fun w' hw' => ?_) ?_
              · obtain ⟨q1, q2⟩ := hw'
                go_simp <;> omega
              go_frame
              refine at_take 20 79 (.pointer (some ⟨b1, o1 + j * 3, none⟩)) rfl rfl (by kernel_rfl) (by decide) (by decide) (fun _ _ _ h => h) (by kernel_rfl) hS (fun w' hw' => ?_) ?_
              · obtain ⟨q1, q2⟩ := hw'
                go_simp <;> omega
              go_frame
              refine at_take 21 80 (.pointer (some ⟨b1, o1 + j * 3 + 2, none⟩)) rfl rfl (by kernel_rfl) (by decide) (by decide) (fun _ _ _ h => h) (by kernel_rfl) hS (fun w' hw' => ?_) ?_
              · obtain ⟨q1, q2⟩ := hw'
                go_simp <;> omega
              go_frame
              refine at_take 22 81 (.int .u8 t) rfl rfl (by kernel_rfl) (by decide) (by decide) (fun _ _ _ h => h) (by kernel_rfl) hS (fun w' hw' => ?_) ?_
              · obtain ⟨q1, q2⟩ := hw'
                go_simp <;> omega
              go_frame
              have C1 := Lib.hid (two_def0 HX.out s t)
              refine at_call 11 70 (f := 23) (args := #[.pointer (some ⟨gs, 0, none⟩), .string s, .int .u8 t]) rfl rfl (by kernel_rfl) (by decide) (by kernel_rfl) ?_ ?_
              · go_simp
              refine C1.out.mono ?_
              rintro e d1 ⟨rfl, hw⟩
              obtain rfl : X0 = d1 := hw.symm
              have C2 := Lib.hid (doc_def0 HX.out s t)
              have s1 := hS
              refine ⟨_, rfl, s1, ?_⟩
              go_frame
              refine at_call 23 82 (f := 24) (args := #[.pointer (some ⟨gr, 0, none⟩), .string s, .int .u8 t]) rfl rfl (by kernel_rfl) (by decide) (by kernel_rfl) ?_ ?_
              · go_simp
              refine C2.out.mono ?_
              rintro e d2 ⟨rfl, hw2⟩
              obtain rfl : X0 = d2 := hw2.symm
              have s2 := hS
              have HN : Hid (ScR w1 X0 gs gr (j + 1)) := Lib.hid (ScR.of HX.out rfl rfl rfl (by simp) (by simp) (by omega) (by omega))
              refine ⟨_, rfl, s2, ?_⟩
              go_frame
              refine at_take 24 83 (.bool true) rfl rfl (by kernel_rfl) (by decide) (by decide) (fun _ _ _ h => h) (by kernel_rfl) s2 (fun w' hw' => ?_) ?_
              · go_simp
              go_frame
              refine AtS.lastv 25 6 (.bool true) X0 rfl rfl (by kernel_rfl) (by kernel_rfl) (by decide) (by kernel_rfl) ?_ ?_
              · go_simp
              go_frame
              clear hS s1 s2
              go_wp2_with fail
              go_meet
              exact ⟨rfl, HN⟩
            · rw [List.concat_eq_append] at *
              have hlen : (K ++ [L]).length = K.length + 1 := by simp
              have hfl : (K ++ [L]).flatten.length = K.flatten.length + L.length := by simp
              have hD : (((K ++ [L]).length : Nat) : Int) = (K.length : Int) + 1 := by rw [hlen]; push_cast; rfl
              have hany := any_wf H.wf s
              rw [hlen] at g1
              rw [hfl] at g2
              rw [hD] at H
              cases hbb : (fnd L s).isSome with
              | true =>
                go_wp2_with fail
                refine AtS.start (by kernel_rfl) 25 (AcS b1 (o1 + j * 3) s t) (by kernel_rfl) (by kernel_rfl) ?_
                have HX := Lib.hid (H.below (Below.refl _ wr).drew)
                clear H p0 p1 p2 HBL
                generalize wr.drew = X0 at *
                have hS : AcS b1 (o1 + j * 3) s t X0 := ⟨(HIT.out X0 HX.out.bl).2.1, (HIT.out X0 HX.out.bl).2.2⟩
                refine at_take 0 59 (.pointer (some ⟨gs, 0, none⟩)) rfl rfl (by kernel_rfl) (by decide) (by decide) (fun _ _ _ h => h) (by kernel_rfl) hS (fun w' hw' => ?_) ?_
                · obtain ⟨q1, q2⟩ := hw'
                  go_simp <;> omega
                go_frame
                refine at_take 1 60 (.slice (some ⟨b1, o1, none⟩) n c) rfl rfl (by kernel_rfl) (by decide) (by decide) (fun _ _ _ h => h) (by kernel_rfl) hS (fun w' hw' => ?_) ?_
                · obtain ⟨q1, q2⟩ := hw'
                  go_simp <;> omega
                go_frame
                refine at_take 2 61 (.int .i64 j) rfl rfl (by kernel_rfl) (by decide) (by decide) (fun _ _ _ h => h) (by kernel_rfl) hS (fun w' hw' => ?_) ?_
                · obtain ⟨q1, q2⟩ := hw'
                  go_simp <;> omega
                go_frame
                refine at_take 3 62 (.pointer (some ⟨b1, o1 + j * 3, none⟩)) rfl rfl (by kernel_rfl) (by decide) (by decide) (fun _ _ _ h => h) (by kernel_rfl) hS (fun w' hw' => ?_) ?_
                · obtain ⟨q1, q2⟩ := hw'
                  go_simp <;> omega
                go_frame
                refine at_take 4 63 (.pointer (some ⟨b1, o1 + j * 3 + 1, none⟩)) rfl rfl (by kernel_rfl) (by decide) (by decide) (fun _ _ _ h => h) (by kernel_rfl) hS (fun w' hw' => ?_) ?_
                · obtain ⟨q1, q2⟩ := hw'
                  go_simp <;> omega
                go_frame
                refine at_take 5 64 (.string s) rfl rfl (by kernel_rfl) (by decide) (by decide) (fun _ _ _ h => h) (by kernel_rfl) hS (fun w' hw' => ?_) ?_
                · obtain ⟨q1, q2⟩ := hw'
                  go_simp <;> omega
                go_frame
                refine at_take 6 65 (.slice (some ⟨b1, o1, none⟩) n c) rfl rfl (by kernel_rfl) (by decide) (by decide) (fun _ _ _ h => h) (by kernel_rfl) hS (fun w' hw' => ?_) ?_
                · obtain ⟨q1, q2⟩ := hw'
                  go_simp <;> omega
                go_frame
                refine at_take 7 66 (.int .i64 j) rfl rfl (by kernel_rfl) (by decide) (by decide) (fun _ _ _ h => h) (by kernel_rfl) hS (fun w' hw' => ?_) ?_
                · obtain ⟨q1, q2⟩ := hw'
                  go_simp <;> omega
                go_frame
                refine at_take 8 67 (.pointer (some ⟨b1, o1 + j * 3, none⟩)) rfl rfl (by kernel_rfl) (by decide) (by decide) (fun _ _ _ h => h) (by kernel_rfl) hS (fun w' hw' => ?_) ?_
                · obtain ⟨q1, q2⟩ := hw'
                  go_simp <;> omega
                go_frame
                refine at_take 9 68 (.pointer (some ⟨b1, o1 + j * 3 + 2, none⟩)) rfl rfl (by kernel_rfl) (by decide) (by decide) (fun _ _ _ h => h) (by kernel_rfl) hS (fun w' hw' => ?_) ?_
                · obtain ⟨q1, q2⟩ := hw'
                  go_simp <;> omega
                go_frame
                refine at_take 10 69 (.int .u8 t) rfl rfl (by kernel_rfl) (by decide) (by decide) (fun _ _ _ h => h) (by kernel_rfl) hS (fun w' hw' => ?_) ?_
                · obtain ⟨q1, q2⟩ := hw'
                  go_simp <;> omega
                go_frame
                refine at_take 12 71 (.pointer (some ⟨gr, 0, none⟩)) rfl rfl (by kernel_rfl) (by decide) (by decide) (fun _ _ _ h => h) (by kernel_rfl) hS (fun w' hw' => ?_) ?_
                · obtain ⟨q1, q2⟩ := hw'
                  go_simp <;> omega
                go_frame
                refine at_take 13 72 (.slice (some ⟨b1, o1, none⟩) n c) rfl rfl (by kernel_rfl) (by decide) (by decide) (fun _ _ _ h => h) (by kernel_rfl) hS (fun w' hw' => ?_) ?_
                · obtain ⟨q1, q2⟩ := hw'
                  go_simp <;> omega
                go_frame
                refine at_take 14 73 (.int .i64 j) rfl rfl (by kernel_rfl) (by decide) (by decide) (fun _ _ _ h => h) (by kernel_rfl) hS (fun w' hw' => ?_) ?_
                · obtain ⟨q1, q2⟩ := hw'
                  go_simp <;> omega
                go_frame
                refine at_take 15 74 (.pointer (some ⟨b1, o1 + j * 3, none⟩)) rfl rfl (by kernel_rfl) (by decide) (by decide) (fun _ _ _ h => h) (by kernel_rfl) hS (fun w' hw' => ?_) ?_
                · obtain ⟨q1, q2⟩ := hw'
                  go_simp <;> omega
                go_frame
                refine at_take 16 75 (.pointer (some ⟨b1, o1 + j * 3 + 1, none⟩)) rfl rfl (by kernel_rfl) (by decide) (by decide) (fun _ _ _ h => h) (by kernel_rfl) hS (fun w' hw' => ?_) ?_
                · obtain ⟨q1, q2⟩ := hw'
                  go_simp <;> omega
                go_frame
                refine at_take 17 76 (.string s) rfl rfl (by kernel_rfl) (by decide) (by decide) (fun _ _ _ h => h) (by kernel_rfl) hS (fun w' hw' => ?_) ?_
                · obtain ⟨q1, q2⟩ := hw'
                  go_simp <;> omega
                go_frame
                refine at_take 18 77 (.slice (some ⟨b1, o1, none⟩) n c) rfl rfl (by kernel_rfl) (by decide) (by decide) (fun _ _ _ h => h) (by kernel_rfl) hS (fun w' hw' => ?_) ?_
                · obtain ⟨q1, q2⟩ := hw'
                  go_simp <;> omega
                go_frame
                refine at_take 19 78 (.int .i64 j) rfl rfl (by kernel_rfl) (by decide) (by decide) (fun _ _ _ h => h) (by kernel_rfl) hS (fun w' hw' => ?_) ?_
                · obtain ⟨q1, q2⟩ := hw'
                  go_simp <;> omega
                go_frame
                refine at_take 20 79 (.pointer (some ⟨b1, o1 + j * 3, none⟩)) rfl rfl (by kernel_rfl) (by decide) (by decide) (fun _ _ _ h => h) (by kernel_rfl) hS (fun w' hw' => ?_) ?_
                · obtain ⟨q1, q2⟩ := hw'
                  go_simp <;> omega
                go_frame
                refine at_take 21 80 (.pointer (some ⟨b1, o1 + j * 3 + 2, none⟩)) rfl rfl (by kernel_rfl) (by decide) (by decide) (fun _ _ _ h => h) (by kernel_rfl) hS (fun w' hw' => ?_) ?_
                · obtain ⟨q1, q2⟩ := hw'
                  go_simp <;> omega
                go_frame
                refine at_take 22 81 (.int .u8 t) rfl rfl (by kernel_rfl) (by decide) (by decide) (fun _ _ _ h => h) (by kernel_rfl) hS (fun w' hw' => ?_) ?_
                · obtain ⟨q1, q2⟩ := hw'
                  go_simp <;> omega
                go_frame
                have C1 := Lib.hid (two_def HX.out (by omega) (by omega) (by omega) (by omega) s (by omega) t)
                rw [hbb, (defB_has (K := K) (N := M) (t := t) hbb).1, (defB_has (K := K) (N := M) (t := t) hbb).2] at C1
                refine at_call 11 70 (f := 23) (args := #[.pointer (some ⟨gs, 0, none⟩), .string s, .int .u8 t]) rfl rfl (by kernel_rfl) (by decide) (by kernel_rfl) ?_ ?_
                · go_simp
                refine C1.out.mono ?_
                rintro e d1 ⟨rfl, S2, H2⟩
                have C2 := Lib.hid (doc_def H2 (by rw [hfl]; omega) (by omega) gp (by omega) s t)
                rw [hany, hbb] at C2
                have s1 : AcS b1 (o1 + j * 3) s t d1 := ⟨(HIT.out d1 H2.bl).2.1, (HIT.out d1 H2.bl).2.2⟩
                refine ⟨_, rfl, s1, ?_⟩
                go_frame
                refine at_call 23 82 (f := 24) (args := #[.pointer (some ⟨gr, 0, none⟩), .string s, .int .u8 t]) rfl rfl (by kernel_rfl) (by decide) (by kernel_rfl) ?_ ?_
                · go_simp
                refine C2.out.mono ?_
                rintro e d2 ⟨rfl, A2, c2, H3⟩
                have s2 : AcS b1 (o1 + j * 3) s t d2 := ⟨(HIT.out d2 H3.bl).2.1, (HIT.out d2 H3.bl).2.2⟩
                have HN : Hid (ScR w1 d2 gs gr (j + 1)) := Lib.hid (ScR.of H3 rfl hD.symm rfl (by rw [hlen]; omega) (by rw [hfl]; omega) (by omega) (by omega))
                refine ⟨_, rfl, s2, ?_⟩
                go_frame
                refine at_take 24 83 (.bool true) rfl rfl (by kernel_rfl) (by decide) (by decide) (fun _ _ _ h => h) (by kernel_rfl) s2 (fun w' hw' => ?_) ?_
                · go_simp
                go_frame
                refine AtS.lastv 25 6 (.bool true) d2 rfl rfl (by kernel_rfl) (by kernel_rfl) (by decide) (by kernel_rfl) ?_ ?_
                · go_simp
                go_frame
                clear hS s1 s2
                go_wp2_with fail
                go_meet
                exact ⟨rfl, HN⟩
              | false =>
                go_wp2_with fail
                refine AtS.start (by kernel_rfl) 25 (AcS b1 (o1 + j * 3) s t) (by kernel_rfl) (by kernel_rfl) ?_
                have HX := Lib.hid (H.below (Below.refl _ wr).drew)
                clear H p0 p1 p2 HBL
                generalize wr.drew = X0 at *
                have hS : AcS b1 (o1 + j * 3) s t X0 := ⟨(HIT.out X0 HX.out.bl).2.1, (HIT.out X0 HX.out.bl).2.2⟩
                refine at_take 0 59 (.pointer (some ⟨gs, 0, none⟩)) rfl rfl (by kernel_rfl) (by decide) (by decide) (fun _ _ _ h => h) (by kernel_rfl) hS (fun w' hw' => ?_) ?_
                · obtain ⟨q1, q2⟩ := hw'
                  go_simp <;> omega
                go_frame
                refine at_take 1 60 (.slice (some ⟨b1, o1, none⟩) n c) rfl rfl (by kernel_rfl) (by decide) (by decide) (fun _ _ _ h => h) (by kernel_rfl) hS (fun w' hw' => ?_) ?_
                · obtain ⟨q1, q2⟩ := hw'
                  go_simp <;> omega
                go_frame
                refine at_take 2 61 (.int .i64 j) rfl rfl (by kernel_rfl) (by decide) (by decide) (fun _ _ _ h => h) (by kernel_rfl) hS (fun w' hw' => ?_) ?_
                · obtain ⟨q1, q2⟩ := hw'
                  go_simp <;> omega
                go_frame
                refine at_take 3 62 (.pointer (some ⟨b1, o1 + j * 3, none⟩)) rfl rfl (by kernel_rfl) (by decide) (by decide) (fun _ _ _ h => h) (by kernel_rfl) hS (fun w' hw' => ?_) ?_
                · obtain ⟨q1, q2⟩ := hw'
                  go_simp <;> omega
                go_frame
                refine at_take 4 63 (.pointer (some ⟨b1, o1 + j * 3 + 1, none⟩)) rfl rfl (by kernel_rfl) (by decide) (by decide) (fun _ _ _ h => h) (by kernel_rfl) hS (fun w' hw' => ?_) ?_
                · obtain ⟨q1, q2⟩ := hw'
                  go_simp <;> omega
                go_frame
                refine at_take 5 64 (.string s) rfl rfl (by kernel_rfl) (by decide) (by decide) (fun _ _ _ h => h) (by kernel_rfl) hS (fun w' hw' => ?_) ?_
                · obtain ⟨q1, q2⟩ := hw'
                  go_simp <;> omega
                go_frame
                refine at_take 6 65 (.slice (some ⟨b1, o1, none⟩) n c) rfl rfl (by kernel_rfl) (by decide) (by decide) (fun _ _ _ h => h) (by kernel_rfl) hS (fun w' hw' => ?_) ?_
                · obtain ⟨q1, q2⟩ := hw'
                  go_simp <;> omega
                go_frame
                refine at_take 7 66 (.int .i64 j) rfl rfl (by kernel_rfl) (by decide) (by decide) (fun _ _ _ h => h) (by kernel_rfl) hS (fun w' hw' => ?_) ?_
                · obtain ⟨q1, q2⟩ := hw'
                  go_simp <;> omega
                go_frame
                refine at_take 8 67 (.pointer (some ⟨b1, o1 + j * 3, none⟩)) rfl rfl (by kernel_rfl) (by decide) (by decide) (fun _ _ _ h => h) (by kernel_rfl) hS (fun w' hw' => ?_) ?_
                · obtain ⟨q1, q2⟩ := hw'
                  go_simp <;> omega
                go_frame
                refine at_take 9 68 (.pointer (some ⟨b1, o1 + j * 3 + 2, none⟩)) rfl rfl (by kernel_rfl) (by decide) (by decide) (fun _ _ _ h => h) (by kernel_rfl) hS (fun w' hw' => ?_) ?_
                · obtain ⟨q1, q2⟩ := hw'
                  go_simp <;> omega
                go_frame
                refine at_take 10 69 (.int .u8 t) rfl rfl (by kernel_rfl) (by decide) (by decide) (fun _ _ _ h => h) (by kernel_rfl) hS (fun w' hw' => ?_) ?_
                · obtain ⟨q1, q2⟩ := hw'
                  go_simp <;> omega
                go_frame
                refine at_take 12 71 (.pointer (some ⟨gr, 0, none⟩)) rfl rfl (by kernel_rfl) (by decide) (by decide) (fun _ _ _ h => h) (by kernel_rfl) hS (fun w' hw' => ?_) ?_
                · obtain ⟨q1, q2⟩ := hw'
                  go_simp <;> omega
                go_frame
                refine at_take 13 72 (.slice (some ⟨b1, o1, none⟩) n c) rfl rfl (by kernel_rfl) (by decide) (by decide) (fun _ _ _ h => h) (by kernel_rfl) hS (fun w' hw' => ?_) ?_
                · obtain ⟨q1, q2⟩ := hw'
                  go_simp <;> omega
                go_frame
                refine at_take 14 73 (.int .i64 j) rfl rfl (by kernel_rfl) (by decide) (by decide) (fun _ _ _ h => h) (by kernel_rfl) hS (fun w' hw' => ?_) ?_
                · obtain ⟨q1, q2⟩ := hw'
                  go_simp <;> omega
                go_frame
                refine at_take 15 74 (.pointer (some ⟨b1, o1 + j * 3, none⟩)) rfl rfl (by kernel_rfl) (by decide) (by decide) (fun _ _ _ h => h) (by kernel_rfl) hS (fun w' hw' => ?_) ?_
                · obtain ⟨q1, q2⟩ := hw'
                  go_simp <;> omega
                go_frame
                refine at_take 16 75 (.pointer (some ⟨b1, o1 + j * 3 + 1, none⟩)) rfl rfl (by kernel_rfl) (by decide) (by decide) (fun _ _ _ h => h) (by kernel_rfl) hS (fun w' hw' => ?_) ?_
                · obtain ⟨q1, q2⟩ := hw'
                  go_simp <;> omega
                go_frame
                refine at_take 17 76 (.string s) rfl rfl (by kernel_rfl) (by decide) (by decide) (fun _ _ _ h => h) (by kernel_rfl) hS (fun w' hw' => ?_) ?_
                · obtain ⟨q1, q2⟩ := hw'
                  go_simp <;> omega
                go_frame
                refine at_take 18 77 (.slice (some ⟨b1, o1, none⟩) n c) rfl rfl (by kernel_rfl) (by decide) (by decide) (fun _ _ _ h => h) (by kernel_rfl) hS (fun w' hw' => ?_) ?_
                · obtain ⟨q1, q2⟩ := hw'
                  go_simp <;> omega
                go_frame
                refine at_take 19 78 (.int .i64 j) rfl rfl (by kernel_rfl) (by decide) (by decide) (fun _ _ _ h => h) (by kernel_rfl) hS (fun w' hw' => ?_) ?_
                · obtain ⟨q1, q2⟩ := hw'
                  go_simp <;> omega
                go_frame
                refine at_take 20 79 (.pointer (some ⟨b1, o1 + j * 3, none⟩)) rfl rfl (by kernel_rfl) (by decide) (by decide) (fun _ _ _ h => h) (by kernel_rfl) hS (fun w' hw' => ?_) ?_
                · obtain ⟨q1, q2⟩ := hw'
                  go_simp <;> omega
                go_frame
                refine at_take 21 80 (.pointer (some ⟨b1, o1 + j * 3 + 2, none⟩)) rfl rfl (by kernel_rfl) (by decide) (by decide) (fun _ _ _ h => h) (by kernel_rfl) hS (fun w' hw' => ?_) ?_
                · obtain ⟨q1, q2⟩ := hw'
                  go_simp <;> omega
                go_frame
                refine at_take 22 81 (.int .u8 t) rfl rfl (by kernel_rfl) (by decide) (by decide) (fun _ _ _ h => h) (by kernel_rfl) hS (fun w' hw' => ?_) ?_
                · obtain ⟨q1, q2⟩ := hw'
                  go_simp <;> omega
                go_frame
                have C1 := Lib.hid (two_def HX.out (by omega) (by omega) (by omega) (by omega) s (by omega) t)
                rw [hbb, (defB_new (K := K) (N := M) (t := t) hbb).1, (defB_new (K := K) (N := M) (t := t) hbb).2] at C1
                refine at_call 11 70 (f := 23) (args := #[.pointer (some ⟨gs, 0, none⟩), .string s, .int .u8 t]) rfl rfl (by kernel_rfl) (by decide) (by kernel_rfl) ?_ ?_
                · go_simp
                refine C1.out.mono ?_
                rintro e d1 ⟨rfl, S2, H2⟩
                have C2 := Lib.hid (doc_def H2 (by rw [hfl]; omega) (by omega) gp (by omega) s t)
                rw [hany, hbb] at C2
                have s1 : AcS b1 (o1 + j * 3) s t d1 := ⟨(HIT.out d1 H2.bl).2.1, (HIT.out d1 H2.bl).2.2⟩
                refine ⟨_, rfl, s1, ?_⟩
                go_frame
                refine at_call 23 82 (f := 24) (args := #[.pointer (some ⟨gr, 0, none⟩), .string s, .int .u8 t]) rfl rfl (by kernel_rfl) (by decide) (by kernel_rfl) ?_ ?_
                · go_simp
                refine C2.out.mono ?_
                rintro e d2 ⟨rfl, A2, c2, H3⟩
                have s2 : AcS b1 (o1 + j * 3) s t d2 := ⟨(HIT.out d2 H3.bl).2.1, (HIT.out d2 H3.bl).2.2⟩
                have HN : Hid (ScR w1 d2 gs gr (j + 1)) := Lib.hid (ScR.of H3 (by simp) (by simp) rfl (by rw [List.length_append, List.length_singleton]; omega) (by rw [List.flatten_append, List.length_append, List.flatten_singleton, List.length_append, List.length_singleton]; omega) (by push_cast; omega) (by omega))
                refine ⟨_, rfl, s2, ?_⟩
                go_frame
                refine at_take 24 83 (.bool true) rfl rfl (by kernel_rfl) (by decide) (by decide) (fun _ _ _ h => h) (by kernel_rfl) s2 (fun w' hw' => ?_) ?_
                · go_simp
                go_frame
                refine AtS.lastv 25 6 (.bool true) d2 rfl rfl (by kernel_rfl) (by kernel_rfl) (by decide) (by kernel_rfl) ?_ ?_
                · go_simp
                go_frame
                clear hS s1 s2
                go_wp2_with fail
                go_meet
                exact ⟨rfl, HN⟩
          · subst h0
            obtain ⟨S, A1, c1, LL, N, m, lv, D, M, H, rfl, rfl, rfl, g1, g2, g3, g4⟩ := HSC.out
            clear HSC
            have gp := H.wf.pos
            rcases List.eq_nil_or_concat LL with rfl | ⟨K, L, rfl⟩
            · go_wp2_with fail
              refine AtS.start (by kernel_rfl) 25 (AcS b1 (o1 + j * 3) s t) (by kernel_rfl) (by kernel_rfl) ?_
              have HX := Lib.hid (H.below (Below.refl _ wr).drew)
              clear H p0 p1 p2 HBL
              generalize wr.drew = X0 at *
              have hS : AcS b1 (o1 + j * 3) s t X0 := ⟨(HIT.out X0 HX.out.bl).2.1, (HIT.out X0 HX.out.bl).2.2⟩
              refine at_take 0 59 (.pointer (some ⟨gs, 0, none⟩)) rfl rfl (by kernel_rfl) (by decide) (by decide) (fun _ _ _ h => h) (by kernel_rfl) hS (fun w' hw' => ?_) ?_
              · obtain ⟨q1, q2⟩ := hw'
                go_simp <;> omega
              go_frame
              refine at_take 1 60 (.slice (some ⟨b1, o1, none⟩) n c) rfl rfl (by kernel_rfl) (by decide) (by decide) (fun _ _ _ h => h) (by kernel_rfl) hS (fun w' hw' => ?_) ?_
              · obtain ⟨q1, q2⟩ := hw'
                go_simp <;> omega
              go_frame
              refine at_take 2 61 (.int .i64 j) rfl rfl (by kernel_rfl) (by decide) (by decide) (fun _ _ _ h => h) (by kernel_rfl) hS (fun w' hw' => ?_) ?_
              · obtain ⟨q1, q2⟩ := hw'
                go_simp <;> omega
              go_frame
              refine at_take 3 62 (.pointer (some ⟨b1, o1 + j * 3, none⟩)) rfl rfl (by kernel_rfl) (by decide) (by decide) (fun _ _ _ h => h) (by kernel_rfl) hS (fun w' hw' => ?_) ?_
              · obtain ⟨q1, q2⟩ := hw'
                go_simp <;> omega
              go_frame
              refine at_take 4 63 (.pointer (some ⟨b1, o1 + j * 3 + 1, none⟩)) rfl rfl (by kernel_rfl) (by decide) (by decide) (fun _ _ _ h => h) (by kernel_rfl) hS (fun w' hw' => ?_) ?_
              · obtain ⟨q1, q2⟩ := hw'
                go_simp <;> omega
              go_frame
              refine at_take 5 64 (.string s) rfl rfl (by kernel_rfl) (by decide) (by decide) (fun _ _ _ h => h) (by kernel_rfl) hS (fun w' hw' => ?_) ?_
              · obtain ⟨q1, q2⟩ := hw'
                go_simp <;> omega
              go_frame
              refine at_take 6 65 (.slice (some ⟨b1, o1, none⟩) n c) rfl rfl (by kernel_rfl) (by decide) (by decide) (fun _ _ _ h => h) (by kernel_rfl) hS (fun w' hw' => ?_) ?_
              · obtain ⟨q1, q2⟩ := hw'
                go_simp <;> omega
              go_frame
              refine at_take 7 66 (.int .i64 j) rfl rfl (by kernel_rfl) (by decide) (by decide) (fun _ _ _ h => h) (by kernel_rfl) hS (fun w' hw' => ?_) ?_
              · obtain ⟨q1, q2⟩ := hw'
                go_simp <;> omega
              go_frame
              refine at_take 8 67 (.pointer (some ⟨b1, o1 + j * 3, none⟩)) rfl rfl (by kernel_rfl) (by decide) (by decide) (fun _ _ _ h => h) (by kernel_rfl) hS (fun w' hw' => ?_) ?_
              · obtain ⟨q1, q2⟩ := hw'
                go_simp <;> omega
              go_frame
              refine at_take 9 68 (.pointer (some ⟨b1, o1 + j * 3 + 2, none⟩)) rfl rfl (by kernel_rfl) (by decide) (by decide) (fun _ _ _ h => h) (by kernel_rfl) hS (fun w' hw' => ?_) ?_
              · obtain ⟨q1, q2⟩ := hw'
                go_simp <;> omega
              go_frame
              refine at_take 10 69 (.int .u8 t) rfl rfl (by kernel_rfl) (by decide) (by decide) (fun _ _ _ h => h) (by kernel_rfl) hS (fun w' hw' => ?_) ?_
              · obtain ⟨q1, q2⟩ := hw'
                go_simp <;> omega
              go_frame
              refine at_take 12 71 (.pointer (some ⟨gr, 0, none⟩)) rfl rfl (by kernel_rfl) (by decide) (by decide) (fun _ _ _ h => h) (by kernel_rfl) hS (fun w' hw' => ?_) ?_
              · obtain ⟨q1, q2⟩ := hw'
                go_simp <;> omega
              go_frame
              refine at_take 13 72 (.slice (some ⟨b1, o1, none⟩) n c) rfl rfl (by kernel_rfl) (by decide) (by decide) (fun _ _ _ h => h) (by kernel_rfl) hS (fun w' hw' => ?_) ?_
              · obtain ⟨q1, q2⟩ := hw'
                go_simp <;> omega
              go_frame
              refine at_take 14 73 (.int .i64 j) rfl rfl (by kernel_rfl) (by decide) (by decide) (fun _ _ _ h => h) (by kernel_rfl) hS (fun w' hw' => ?_) ?_
              · obtain ⟨q1, q2⟩ := hw'
                go_simp <;> omega
              go_frame
              refine at_take 15 74 (.pointer (some ⟨b1, o1 + j * 3, none⟩)) rfl rfl (by kernel_rfl) (by decide) (by decide) (fun _ _ _ h => h) (by kernel_rfl) hS (fun w' hw' => ?_) ?_
              · obtain ⟨q1, q2⟩ := hw'
                go_simp <;> omega
              go_frame
              refine at_take 16 75 (.pointer (some ⟨b1, o1 + j * 3 + 1, none⟩)) rfl rfl (by kernel_rfl) (by decide) (by decide) (fun _ _ _ h => h) (by kernel_rfl) hS (fun w' hw' => ?_) ?_
              · obtain ⟨q1, q2⟩ := hw'
                go_simp <;> omega
              go_frame
              refine at_take 17 76 (.string s) rfl rfl (by kernel_rfl) (by decide) (by decide) (fun _ _ _ h => h) (by kernel_rfl) hS (fun w' hw' => ?_) ?_
              · obtain ⟨q1, q2⟩ := hw'
                go_simp <;> omega
              go_frame
              refine at_take 18 77 (.slice (some ⟨b1, o1, none⟩) n c) rfl rfl (by kernel_rfl) (by decide) (by decide) (fun _ _ _ h => h) (by kernel_rfl) hS (fun w' hw' => ?_) ?_
              · obtain ⟨q1, q2⟩ := hw'
                go_simp <;> omega
              go_frame
              refine at_take 19 78 (.int .i64 j) rfl rfl (by kernel_rfl) (by decide) (by decide) (fun _ _ _ h => h) (by kernel_rfl) hS (fun w' hw' => ?_) ?_
              · obtain ⟨q1, q2⟩ := hw'
                go_simp <;> omega
              go_frame
              refine at_take 20 79 (.pointer (some ⟨b1, o1 + j * 3, none⟩)) rfl rfl (by kernel_rfl) (by decide) (by decide) (fun _ _ _ h => h) (by kernel_rfl) hS (fun w' hw' => ?_) ?_
              · obtain ⟨q1, q2⟩ := hw'
                go_simp <;> omega
              go_frame
              refine at_take 21 80 (.pointer (some ⟨b1, o1 + j * 3 + 2, none⟩)) rfl rfl (by kernel_rfl) (by decide) (by decide) (fun _ _ _ h => h) (by kernel_rfl) hS (fun w' hw' => ?_) ?_
              · obtain ⟨q1, q2⟩ := hw'
                go_simp <;> omega
              go_frame
              refine at_take 22 81 (.int .u8 t) rfl rfl (by kernel_rfl) (by decide) (by decide) (fun _ _ _ h => h) (by kernel_rfl) hS (fun w' hw' => ?_) ?_
              · obtain ⟨q1, q2⟩ := hw'
                go_simp <;> omega
              go_frame
              have C1 := Lib.hid (two_def0 HX.out s t)
              refine at_call 11 70 (f := 23) (args := #[.pointer (some ⟨gs, 0, none⟩), .string s, .int .u8 t]) rfl rfl (by kernel_rfl) (by decide) (by kernel_rfl) ?_ ?_
              · go_simp
              refine C1.out.mono ?_
              rintro e d1 ⟨rfl, hw⟩
              obtain rfl : X0 = d1 := hw.symm
              have C2 := Lib.hid (doc_def0 HX.out s t)
              have s1 := hS
              refine ⟨_, rfl, s1, ?_⟩
              go_frame
              refine at_call 23 82 (f := 24) (args := #[.pointer (some ⟨gr, 0, none⟩), .string s, .int .u8 t]) rfl rfl (by kernel_rfl) (by decide) (by kernel_rfl) ?_ ?_
              · go_simp
              refine C2.out.mono ?_
              rintro e d2 ⟨rfl, hw2⟩
              obtain rfl : X0 = d2 := hw2.symm
              have s2 := hS
              have HN : Hid (ScR w1 X0 gs gr (j + 1)) := Lib.hid (ScR.of HX.out rfl rfl rfl (by simp) (by simp) (by omega) (by omega))
              refine ⟨_, rfl, s2, ?_⟩
              go_frame
              refine at_take 24 83 (.bool true) rfl rfl (by kernel_rfl) (by decide) (by decide) (fun _ _ _ h => h) (by kernel_rfl) s2 (fun w' hw' => ?_) ?_
              · go_simp
              go_frame
              refine AtS.lastv 25 6 (.bool true) X0 rfl rfl (by kernel_rfl) (by kernel_rfl) (by decide) (by kernel_rfl) ?_ ?_
              · go_simp
              go_frame
              clear hS s1 s2
              go_wp2_with fail
              go_meet
              exact ⟨rfl, HN⟩
            · rw [List.concat_eq_append] at *
              have hlen : (K ++ [L]).length = K.length + 1 := by simp
              have hfl : (K ++ [L]).flatten.length = K.flatten.length + L.length := by simp
              have hD : (((K ++ [L]).length : Nat) : Int) = (K.length : Int) + 1 := by rw [hlen]; push_cast; rfl
              have hany := any_wf H.wf s
              rw [hlen] at g1
              rw [hfl] at g2
              rw [hD] at H
              cases hbb : (fnd L s).isSome with
              | true =>
                go_wp2_with fail
                refine AtS.start (by kernel_rfl) 25 (AcS b1 (o1 + j * 3) s t) (by kernel_rfl) (by kernel_rfl) ?_
                have HX := Lib.hid (H.below (Below.refl _ wr).drew)
                clear H p0 p1 p2 HBL
                generalize wr.drew = X0 at *
                have hS : AcS b1 (o1 + j * 3) s t X0 := ⟨(HIT.out X0 HX.out.bl).2.1, (HIT.out X0 HX.out.bl).2.2⟩
                refine at_take 0 59 (.pointer (some ⟨gs, 0, none⟩)) rfl rfl (by kernel_rfl) (by decide) (by decide) (fun _ _ _ h => h) (by kernel_rfl) hS (fun w' hw' => ?_) ?_
                · obtain ⟨q1, q2⟩ := hw'
                  go_simp <;> omega
                go_frame
                refine at_take 1 60 (.slice (some ⟨b1, o1, none⟩) n c) rfl rfl (by kernel_rfl) (by decide) (by decide) (fun _ _ _ h => h) (by kernel_rfl) hS (fun w' hw' => ?_) ?_
                · obtain ⟨q1, q2⟩ := hw'
                  go_simp <;> omega
                go_frame
                refine at_take 2 61 (.int .i64 j) rfl rfl (by kernel_rfl) (by decide) (by decide) (fun _ _ _ h => h) (by kernel_rfl) hS (fun w' hw' => ?_) ?_
                · obtain ⟨q1, q2⟩ := hw'
                  go_simp <;> omega
                go_frame
                refine at_take 3 62 (.pointer (some ⟨b1, o1 + j * 3, none⟩)) rfl rfl (by kernel_rfl) (by decide) (by decide) (fun _ _ _ h => h) (by kernel_rfl) hS (fun w' hw' => ?_) ?_
                · obtain ⟨q1, q2⟩ := hw'
                  go_simp <;> omega
                go_frame
                refine at_take 4 63 (.pointer (some ⟨b1, o1 + j * 3 + 1, none⟩)) rfl rfl (by kernel_rfl) (by decide) (by decide) (fun _ _ _ h => h) (by kernel_rfl) hS (fun w' hw' => ?_) ?_
                · obtain ⟨q1, q2⟩ := hw'
                  go_simp <;> omega
                go_frame
                refine at_take 5 64 (.string s) rfl rfl (by kernel_rfl) (by decide) (by decide) (fun _ _ _ h => h) (by kernel_rfl) hS (fun w' hw' => ?_) ?_
                · obtain ⟨q1, q2⟩ := hw'
                  go_simp <;> omega
                go_frame
                refine at_take 6 65 (.slice (some ⟨b1, o1, none⟩) n c) rfl rfl (by kernel_rfl) (by decide) (by decide) (fun _ _ _ h => h) (by kernel_rfl) hS (fun w' hw' => ?_) ?_
                · obtain ⟨q1, q2⟩ := hw'
                  go_simp <;> omega
                go_frame
                refine at_take 7 66 (.int .i64 j) rfl rfl (by kernel_rfl) (by decide) (by decide) (fun _ _ _ h => h) (by kernel_rfl) hS (fun w' hw' => ?_) ?_
                · obtain ⟨q1, q2⟩ := hw'
                  go_simp <;> omega
                go_frame
                refine at_take 8 67 (.pointer (some ⟨b1, o1 + j * 3, none⟩)) rfl rfl (by kernel_rfl) (by decide) (by decide) (fun _ _ _ h => h) (by kernel_rfl) hS (fun w' hw' => ?_) ?_
                · obtain ⟨q1, q2⟩ := hw'
                  go_simp <;> omega
                go_frame
                refine at_take 9 68 (.pointer (some ⟨b1, o1 + j * 3 + 2, none⟩)) rfl rfl (by kernel_rfl) (by decide) (by decide) (fun _ _ _ h => h) (by kernel_rfl) hS (fun w' hw' => ?_) ?_
                · obtain ⟨q1, q2⟩ := hw'
                  go_simp <;> omega
                go_frame
                refine at_take 10 69 (.int .u8 t) rfl rfl (by kernel_rfl) (by decide) (by decide) (fun _ _ _ h => h) (by kernel_rfl) hS (fun w' hw' => ?_) ?_
                · obtain ⟨q1, q2⟩ := hw'
                  go_simp <;> omega
                go_frame
                refine at_take 12 71 (.pointer (some ⟨gr, 0, none⟩)) rfl rfl (by kernel_rfl) (by decide) (by decide) (fun _ _ _ h => h) (by kernel_rfl) hS (fun w' hw' => ?_) ?_
                · obtain ⟨q1, q2⟩ := hw'
                  go_simp <;> omega
                go_frame
                refine at_take 13 72 (.slice (some ⟨b1, o1, none⟩) n c) rfl rfl (by kernel_rfl) (by decide) (by decide) (fun _ _ _ h => h) (by kernel_rfl) hS (fun w' hw' => ?_) ?_
                · obtain ⟨q1, q2⟩ := hw'
                  go_simp <;> omega
                go_frame
                refine at_take 14 73 (.int .i64 j) rfl rfl (by kernel_rfl) (by decide) (by decide) (fun _ _ _ h => h) (by kernel_rfl) hS (fun w' hw' => ?_) ?_
                · obtain ⟨q1, q2⟩ := hw'
                  go_simp <;> omega
                go_frame
                refine at_take 15 74 (.pointer (some ⟨b1, o1 + j * 3, none⟩)) rfl rfl (by kernel_rfl) (by decide) (by decide) (fun _ _ _ h => h) (by kernel_rfl) hS (fun w' hw' => ?_) ?_
                · obtain ⟨q1, q2⟩ := hw'
                  go_simp <;> omega
                go_frame
                refine at_take 16 75 (.pointer (some ⟨b1, o1 + j * 3 + 1, none⟩)) rfl rfl (by kernel_rfl) (by decide) (by decide) (fun _ _ _ h => h) (by kernel_rfl) hS (fun w' hw' => ?_) ?_
                · obtain ⟨q1, q2⟩ := hw'
                  go_simp <;> omega
                go_frame
                refine at_take 17 76 (.string s) rfl rfl (by kernel_rfl) (by decide) (by decide) (fun _ _ _ h => h) (by kernel_rfl) hS (fun w' hw' => ?_) ?_
                · obtain ⟨q1, q2⟩ := hw'
                  go_simp <;> omega
                go_frame
                refine at_take 18 77 (.slice (some ⟨b1, o1, none⟩) n c) rfl rfl (by kernel_rfl) (by decide) (by decide) (fun _ _ _ h => h) (by kernel_rfl) hS (fun w' hw' => ?_) ?_
                · obtain ⟨q1, q2⟩ := hw'
                  go_simp <;> omega
                go_frame
                refine at_take 19 78 (.int .i64 j) rfl rfl (by kernel_rfl) (by decide) (by decide) (fun _ _ _ h => h) (by kernel_rfl) hS (fun w' hw' => ?_) ?_
                · obtain ⟨q1, q2⟩ := hw'
                  go_simp <;> omega
                go_frame
                refine at_take 20 79 (.pointer (some ⟨b1, o1 + j * 3, none⟩)) rfl rfl (by kernel_rfl) (by decide) (by decide) (fun _ _ _ h => h) (by kernel_rfl) hS (fun w' hw' => ?_) ?_
                · obtain ⟨q1, q2⟩ := hw'
                  go_simp <;> omega
                go_frame
                refine at_take 21 80 (.pointer (some ⟨b1, o1 + j * 3 + 2, none⟩)) rfl rfl (by kernel_rfl) (by decide) (by decide) (fun _ _ _ h => h) (by kernel_rfl) hS (fun w' hw' => ?_) ?_
                · obtain ⟨q1, q2⟩ := hw'
                  go_simp <;> omega
                go_frame
                refine at_take 22 81 (.int .u8 t) rfl rfl (by kernel_rfl) (by decide) (by decide) (fun _ _ _ h => h) (by kernel_rfl) hS (fun w' hw' => ?_) ?_
                · obtain ⟨q1, q2⟩ := hw'
                  go_simp <;> omega
                go_frame
                have C1 := Lib.hid (two_def HX.out (by omega) (by omega) (by omega) (by omega) s (by omega) t)
                rw [hbb, (defB_has (K := K) (N := M) (t := t) hbb).1, (defB_has (K := K) (N := M) (t := t) hbb).2] at C1
                refine at_call 11 70 (f := 23) (args := #[.pointer (some ⟨gs, 0, none⟩), .string s, .int .u8 t]) rfl rfl (by kernel_rfl) (by decide) (by kernel_rfl) ?_ ?_
                · go_simp
                refine C1.out.mono ?_
                rintro e d1 ⟨rfl, S2, H2⟩
                have C2 := Lib.hid (doc_def H2 (by rw [hfl]; omega) (by omega) gp (by omega) s t)
                rw [hany, hbb] at C2
                have s1 : AcS b1 (o1 + j * 3) s t d1 := ⟨(HIT.out d1 H2.bl).2.1, (HIT.out d1 H2.bl).2.2⟩
                refine ⟨_, rfl, s1, ?_⟩
                go_frame
                refine at_call 23 82 (f := 24) (args := #[.pointer (some ⟨gr, 0, none⟩), .string s, .int .u8 t]) rfl rfl (by kernel_rfl) (by decide) (by kernel_rfl) ?_ ?_
                · go_simp
                refine C2.out.mono ?_
                rintro e d2 ⟨rfl, A2, c2, H3⟩
                have s2 : AcS b1 (o1 + j * 3) s t d2 := ⟨(HIT.out d2 H3.bl).2.1, (HIT.out d2 H3.bl).2.2⟩
                have HN : Hid (ScR w1 d2 gs gr (j + 1)) := Lib.hid (ScR.of H3 rfl hD.symm rfl (by rw [hlen]; omega) (by rw [hfl]; omega) (by omega) (by omega))
                refine ⟨_, rfl, s2, ?_⟩
                go_frame
                refine at_take 24 83 (.bool true) rfl rfl (by kernel_rfl) (by decide) (by decide) (fun _ _ _ h => h) (by kernel_rfl) s2 (fun w' hw' => ?_) ?_
                · go_simp
                go_frame
                refine AtS.lastv 25 6 (.bool true) d2 rfl rfl (by kernel_rfl) (by kernel_rfl) (by decide) (by kernel_rfl) ?_ ?_
                · go_simp
                go_frame
                clear hS s1 s2
                go_wp2_with fail
                go_meet
                exact ⟨rfl, HN⟩
              | false =>
                go_wp2_with fail
                refine AtS.start (by kernel_rfl) 25 (AcS b1 (o1 + j * 3) s t) (by kernel_rfl) (by kernel_rfl) ?_
                have HX := Lib.hid (H.below (Below.refl _ wr).drew)
                clear H p0 p1 p2 HBL
                generalize wr.drew = X0 at *
                have hS : AcS b1 (o1 + j * 3) s t X0 := ⟨(HIT.out X0 HX.out.bl).2.1, (HIT.out X0 HX.out.bl).2.2⟩
                refine at_take 0 59 (.pointer (some ⟨gs, 0, none⟩)) rfl rfl (by kernel_rfl) (by decide) (by decide) (fun _ _ _ h => h) (by kernel_rfl) hS (fun w' hw' => ?_) ?_
                · obtain ⟨q1, q2⟩ := hw'
                  go_simp <;> omega
                go_frame
                refine at_take 1 60 (.slice (some ⟨b1, o1, none⟩) n c) rfl rfl (by kernel_rfl) (by decide) (by decide) (fun _ _ _ h => h) (by kernel_rfl) hS (fun w' hw' => ?_) ?_
                · obtain ⟨q1, q2⟩ := hw'
                  go_simp <;> omega
                go_frame
                refine at_take 2 61 (.int .i64 j) rfl rfl (by kernel_rfl) (by decide) (by decide) (fun _ _ _ h => h) (by kernel_rfl) hS (fun w' hw' => ?_) ?_
                · obtain ⟨q1, q2⟩ := hw'
                  go_simp <;> omega
                go_frame
                refine at_take 3 62 (.pointer (some ⟨b1, o1 + j * 3, none⟩)) rfl rfl (by kernel_rfl) (by decide) (by decide) (fun _ _ _ h => h) (by kernel_rfl) hS (fun w' hw' => ?_) ?_
                · obtain ⟨q1, q2⟩ := hw'
                  go_simp <;> omega
                go_frame
                refine at_take 4 63 (.pointer (some ⟨b1, o1 + j * 3 + 1, none⟩)) rfl rfl (by kernel_rfl) (by decide) (by decide) (fun _ _ _ h => h) (by kernel_rfl) hS (fun w' hw' => ?_) ?_
                · obtain ⟨q1, q2⟩ := hw'
                  go_simp <;> omega
                go_frame
                refine at_take 5 64 (.string s) rfl rfl (by kernel_rfl) (by decide) (by decide) (fun _ _ _ h => h) (by kernel_rfl) hS (fun w' hw' => ?_) ?_
                · obtain ⟨q1, q2⟩ := hw'
                  go_simp <;> omega
                go_frame
                refine at_take 6 65 (.slice (some ⟨b1, o1, none⟩) n c) rfl rfl (by kernel_rfl) (by decide) (by decide) (fun _ _ _ h => h) (by kernel_rfl) hS (fun w' hw' => ?_) ?_
                · obtain ⟨q1, q2⟩ := hw'
                  go_simp <;> omega
                go_frame
                refine at_take 7 66 (.int .i64 j) rfl rfl (by kernel_rfl) (by decide) (by decide) (fun _ _ _ h => h) (by kernel_rfl) hS (fun w' hw' => ?_) ?_
                · obtain ⟨q1, q2⟩ := hw'
                  go_simp <;> omega
                go_frame
                refine at_take 8 67 (.pointer (some ⟨b1, o1 + j * 3, none⟩)) rfl rfl (by kernel_rfl) (by decide) (by decide) (fun _ _ _ h => h) (by kernel_rfl) hS (fun w' hw' => ?_) ?_
                · obtain ⟨q1, q2⟩ := hw'
                  go_simp <;> omega
                go_frame
                refine at_take 9 68 (.pointer (some ⟨b1, o1 + j * 3 + 2, none⟩)) rfl rfl (by kernel_rfl) (by decide) (by decide) (fun _ _ _ h => h) (by kernel_rfl) hS (fun w' hw' => ?_) ?_
                · obtain ⟨q1, q2⟩ := hw'
                  go_simp <;> omega
                go_frame
                refine at_take 10 69 (.int .u8 t) rfl rfl (by kernel_rfl) (by decide) (by decide) (fun _ _ _ h => h) (by kernel_rfl) hS (fun w' hw' => ?_) ?_
                · obtain ⟨q1, q2⟩ := hw'
                  go_simp <;> omega
                go_frame
                refine at_take 12 71 (.pointer (some ⟨gr, 0, none⟩)) rfl rfl (by kernel_rfl) (by decide) (by decide) (fun _ _ _ h => h) (by kernel_rfl) hS (fun w' hw' => ?_) ?_
                · obtain ⟨q1, q2⟩ := hw'
                  go_simp <;> omega
                go_frame
                refine at_take 13 72 (.slice (some ⟨b1, o1, none⟩) n c) rfl rfl (by kernel_rfl) (by decide) (by decide) (fun _ _ _ h => h) (by kernel_rfl) hS (fun w' hw' => ?_) ?_
                · obtain ⟨q1, q2⟩ := hw'
                  go_simp <;> omega
                go_frame
                refine at_take 14 73 (.int .i64 j) rfl rfl (by kernel_rfl) (by decide) (by decide) (fun _ _ _ h => h) (by kernel_rfl) hS (fun w' hw' => ?_) ?_
                · obtain ⟨q1, q2⟩ := hw'
                  go_simp <;> omega
                go_frame
                refine at_take 15 74 (.pointer (some ⟨b1, o1 + j * 3, none⟩)) rfl rfl (by kernel_rfl) (by decide) (by decide) (fun _ _ _ h => h) (by kernel_rfl) hS (fun w' hw' => ?_) ?_
                · obtain ⟨q1, q2⟩ := hw'
                  go_simp <;> omega
                go_frame
                refine at_take 16 75 (.pointer (some ⟨b1, o1 + j * 3 + 1, none⟩)) rfl rfl (by kernel_rfl) (by decide) (by decide) (fun _ _ _ h => h) (by kernel_rfl) hS (fun w' hw' => ?_) ?_
                · obtain ⟨q1, q2⟩ := hw'
                  go_simp <;> omega
                go_frame
                refine at_take 17 76 (.string s) rfl rfl (by kernel_rfl) (by decide) (by decide) (fun _ _ _ h => h) (by kernel_rfl) hS (fun w' hw' => ?_) ?_
                · obtain ⟨q1, q2⟩ := hw'
                  go_simp <;> omega
                go_frame
                refine at_take 18 77 (.slice (some ⟨b1, o1, none⟩) n c) rfl rfl (by kernel_rfl) (by decide) (by decide) (fun _ _ _ h => h) (by kernel_rfl) hS (fun w' hw' => ?_) ?_
                · obtain ⟨q1, q2⟩ := hw'
                  go_simp <;> omega
                go_frame
                refine at_take 19 78 (.int .i64 j) rfl rfl (by kernel_rfl) (by decide) (by decide) (fun _ _ _ h => h) (by kernel_rfl) hS (fun w' hw' => ?_) ?_
                · obtain ⟨q1, q2⟩ := hw'
                  go_simp <;> omega
                go_frame
                refine at_take 20 79 (.pointer (some ⟨b1, o1 + j * 3, none⟩)) rfl rfl (by kernel_rfl) (by decide) (by decide) (fun _ _ _ h => h) (by kernel_rfl) hS (fun w' hw' => ?_) ?_
                · obtain ⟨q1, q2⟩ := hw'
                  go_simp <;> omega
                go_frame
                refine at_take 21 80 (.pointer (some ⟨b1, o1 + j * 3 + 2, none⟩)) rfl rfl (by kernel_rfl) (by decide) (by decide) (fun _ _ _ h => h) (by kernel_rfl) hS (fun w' hw' => ?_) ?_
                · obtain ⟨q1, q2⟩ := hw'
                  go_simp <;> omega
                go_frame
                refine at_take 22 81 (.int .u8 t) rfl rfl (by kernel_rfl) (by decide) (by decide) (fun _ _ _ h => h) (by kernel_rfl) hS (fun w' hw' => ?_) ?_
                · obtain ⟨q1, q2⟩ := hw'
                  go_simp <;> omega
                go_frame
                have C1 := Lib.hid (two_def HX.out (by omega) (by omega) (by omega) (by omega) s (by omega) t)
                rw [hbb, (defB_new (K := K) (N := M) (t := t) hbb).1, (defB_new (K := K) (N := M) (t := t) hbb).2] at C1
                refine at_call 11 70 (f := 23) (args := #[.pointer (some ⟨gs, 0, none⟩), .string s, .int .u8 t]) rfl rfl (by kernel_rfl) (by decide) (by kernel_rfl) ?_ ?_
                · go_simp
                refine C1.out.mono ?_
                rintro e d1 ⟨rfl, S2, H2⟩
                have C2 := Lib.hid (doc_def H2 (by rw [hfl]; omega) (by omega) gp (by omega) s t)
                rw [hany, hbb] at C2
                have s1 : AcS b1 (o1 + j * 3) s t d1 := ⟨(HIT.out d1 H2.bl).2.1, (HIT.out d1 H2.bl).2.2⟩
                refine ⟨_, rfl, s1, ?_⟩
                go_frame
                refine at_call 23 82 (f := 24) (args := #[.pointer (some ⟨gr, 0, none⟩), .string s, .int .u8 t]) rfl rfl (by kernel_rfl) (by decide) (by kernel_rfl) ?_ ?_
                · go_simp
                refine C2.out.mono ?_
                rintro e d2 ⟨rfl, A2, c2, H3⟩
                have s2 : AcS b1 (o1 + j * 3) s t d2 := ⟨(HIT.out d2 H3.bl).2.1, (HIT.out d2 H3.bl).2.2⟩
                have HN : Hid (ScR w1 d2 gs gr (j + 1)) := Lib.hid (ScR.of H3 (by simp) (by simp) rfl (by rw [List.length_append, List.length_singleton]; omega) (by rw [List.flatten_append, List.length_append, List.flatten_singleton, List.length_append, List.length_singleton]; omega) (by push_cast; omega) (by omega))
                refine ⟨_, rfl, s2, ?_⟩
                go_frame
                refine at_take 24 83 (.bool true) rfl rfl (by kernel_rfl) (by decide) (by decide) (fun _ _ _ h => h) (by kernel_rfl) s2 (fun w' hw' => ?_) ?_
                · go_simp
                go_frame
                refine AtS.lastv 25 6 (.bool true) d2 rfl rfl (by kernel_rfl) (by kernel_rfl) (by decide) (by kernel_rfl) ?_ ?_
                · go_simp
                go_frame
                clear hS s1 s2
                go_wp2_with fail
                go_meet
                exact ⟨rfl, HN⟩
          · have e0 : (kd == 0) = false := by simpa using h0.1
            have e1 : (kd == 1) = false := by simpa using h0.2.1
            have e2 : (kd == 2) = false := by simpa using h0.2.2.1
            have e3 : (kd == 3) = false := by simpa using h0.2.2.2
            clear h0
            go_wp2_with fail
            go_meet
            exact ⟨rfl, Lib.hid (HSC.out.mono (Nat.le_succ j))⟩
        case rest =>
          obtain ⟨rfl, HSC2⟩ := hcut
          clear HSC HBL p0 p1 p2
          obtain ⟨S, A1, c1, LL, N, m, lv, D, M, H, rfl, rfl, rfl, g1, g2, g3, g4⟩ := HSC2.out
          clear HSC2
          obtain ⟨q0, q1, q2⟩ := HIT.out wc H.bl
          cases hf : fnd LL.flatten s with
          | none =>
            have C1 := Lib.hid (two_find H s hsz)
            rw [findA_none hf] at C1
            have HF := Lib.hid (findA_none hf)
            clear H hf
            go_wp2_with fail
            refine C1.out.mono ?_
            rintro e w2 ⟨rfl, H2⟩
            obtain ⟨r0, r1, r2⟩ := HIT.out w2 H2.bl
            have C2 := Lib.hid (doc_find H2 (by omega) s)
            rw [HF.out] at C2
            clear H2 C1
            go_wp2_with fail
            refine C2.out.mono ?_
            rintro e w3 ⟨rfl, H3⟩
            have C3 : Hid (∀ q, Calls Try.prog 27 #[.pointer (some ⟨gs, 0, none⟩)] (w3.drewN q) (fun e w' => e = .returned (.int .i64 LL.length) ∧ w3.drewN q = w')) := Lib.hid (fun q => two_deep (H3.below (below_drewN w3 q)))
            have C4 : Hid (∀ q, Calls Try.prog 28 #[.pointer (some ⟨gs, 0, none⟩)] (w3.drewN q) (fun e w' => e = .returned (.int .i64 M) ∧ w3.drewN q = w')) := Lib.hid (fun q => two_count (H3.below (below_drewN w3 q)))
            have y1 := cell_at H3.sc.box 1
            have y2 := cell_at H3.sc.box 2
            simp only [List.getElem?_toArray, List.getElem?_cons_zero, List.getElem?_cons_succ] at y1 y2
            have HN : Hid (∀ q, ScR w1 (w3.drewN q) gs gr (j + 1)) := Lib.hid (fun q => ScR.of (H3.below (below_drewN w3 q)) rfl rfl rfl g1 g2 g3 g4)
            clear H3 C2 r0 r1 r2 q0 q1 q2
            go_wp2_with fail
            go_quiet (first | (go_at_call 27; with_reducible exact quiet_left (C3.out _)) | (go_at_call 28; with_reducible exact quiet_left (C4.out _)))
            go_wp2_with fail
            go_roundw
            case rel => exact ⟨j + 1, by omega, by go_num, Lib.hid (HN.out _)⟩
            case measure => simp [intOf]; omega
          | some v =>
            have C1 := Lib.hid (two_find H s hsz)
            rw [findA_some hf] at C1
            have HF := Lib.hid (findA_some hf)
            clear H hf
            go_wp2_with fail
            refine C1.out.mono ?_
            rintro e w2 ⟨rfl, H2⟩
            obtain ⟨r0, r1, r2⟩ := HIT.out w2 H2.bl
            have C2 := Lib.hid (doc_find H2 (by omega) s)
            rw [HF.out] at C2
            clear H2 C1
            go_wp2_with fail
            refine C2.out.mono ?_
            rintro e w3 ⟨rfl, H3⟩
            have C3 : Hid (∀ q, Calls Try.prog 27 #[.pointer (some ⟨gs, 0, none⟩)] (w3.drewN q) (fun e w' => e = .returned (.int .i64 LL.length) ∧ w3.drewN q = w')) := Lib.hid (fun q => two_deep (H3.below (below_drewN w3 q)))
            have C4 : Hid (∀ q, Calls Try.prog 28 #[.pointer (some ⟨gs, 0, none⟩)] (w3.drewN q) (fun e w' => e = .returned (.int .i64 M) ∧ w3.drewN q = w')) := Lib.hid (fun q => two_count (H3.below (below_drewN w3 q)))
            have y1 := cell_at H3.sc.box 1
            have y2 := cell_at H3.sc.box 2
            simp only [List.getElem?_toArray, List.getElem?_cons_zero, List.getElem?_cons_succ] at y1 y2
            have HN : Hid (∀ q, ScR w1 (w3.drewN q) gs gr (j + 1)) := Lib.hid (fun q => ScR.of (H3.below (below_drewN w3 q)) rfl rfl rfl g1 g2 g3 g4)
            clear H3 C2 r0 r1 r2 q0 q1 q2
            go_wp2_with fail
            go_quiet (first | (go_at_call 27; with_reducible exact quiet_left (C3.out _)) | (go_at_call 28; with_reducible exact quiet_left (C4.out _)))
            go_wp2_with fail
            go_roundw
            case rel => exact ⟨j + 1, by omega, by go_num, Lib.hid (HN.out _)⟩
            case measure => simp [intOf]; omega
    · obtain rfl : j = n := by omega
      go_wp2_with fail
      go_ret
      obtain ⟨_, _, _, _, _, _, _, _, _, H, _⟩ := HSC.out
      exact ⟨rfl, HB.out.trans (H.bl.mono HB.out.size)⟩
end Go.Proofs.Ytbhgbgaeaejnhaa.Typ
