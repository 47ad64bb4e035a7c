/-
  The document's Words: all words of a text, or why not. No condition.
-/
import Derived.Test.YtlhbhpdpjidpgaaGreatDoorX26
import Derived.Test.YtlhbhpdpjidpgaaGreatDoorX29
import Derived.Test.YtlhbhpdpjidpgaaGreatDoorX30
import Derived.Test.YtlhbhpdpjidpgaaGreatDoorX39
import Derived.Deep.DeepCutAuto
namespace Go.Proofs.YtlhbhpdpjidpgaaGreatDoor.Lex
open Go.RowKit
open Num (EndsW)
set_option maxRecDepth 100000
set_option linter.unusedSimpArgs false
theorem wpList_app8 {P : Program} (L : TypeId) {w w2 : World} {ops : Array Oper} {rest : List Oper} {o : Oper} {a : Act} {Q : Exit → Act → World → Prop} (hgd : o.guard = none) (s x : Operand)
    (ho : o.op = .call { callee := .builtin .append, args := #[s, x], argTypes := #[L, L] }) (v u v2 : Value) (hs : a.eval s = v) (hx : a.eval x = u) (hrun : ∀ ty, (Builtin.append_ #[L, L] ty #[v, u]).run P w = .ok v2 w2)
    (h : wpList P ops Q rest (a.put o.dst v2) w2) : wpList P ops Q (o :: rest) a w := by
  refine wpList_plain hgd fun _ hK => ?_
  unfold Oper.wp execOp
  simp only [ho, resolve, invoke, builtin, Sem.run_bind, Sem.run_pure, Result.andThen_ok, List.map_toArray, List.map_cons, List.map_nil, hs, hx, hrun]
  exact hK _ _ h
theorem blank_of {c : UInt8} (h : blank c = false) : ((c.toNat : Int) == 32) = false ∧ ((c.toNat : Int) == 9) = false ∧ ((c.toNat : Int) == 13) = false := by
  unfold blank at h
  simp only [decide_eq_false_iff_not] at h
  refine ⟨?_, ?_, ?_⟩ <;> (rw [beq_eq_false_iff_ne]; omega)
theorem row_in {p : UInt8 → Bool} : ∀ {l : List UInt8} {k : Nat}, k < rowN p l → ∃ c, l[k]? = some c ∧ p c = true
  | [], k, h => by simp [rowN] at h
  | c :: l, k, h => by
    rw [rowN_cons] at h
    split at h
    · next hc =>
      cases k with
      | zero => exact ⟨c, rfl, hc⟩
      | succ k => exact row_in (l := l) (k := k) (by omega)
    · omega
theorem row_out {p : UInt8 → Bool} : ∀ {l : List UInt8} {c : UInt8}, l[rowN p l]? = some c → p c = false
  | [], c, h => by simp at h
  | d :: l, c, h => by
    rw [rowN_cons] at h
    split at h
    · exact row_out (l := l) (by simpa using h)
    · next hc =>
      have : d = c := by simpa using h
      rw [← this]
      simpa using hc
theorem com_of {S : ByteArray} {i j : Nat} (hi : i < S.size) (hj : j = i + 1) : [47, 47].isPrefixOf (S.data.toList.drop i) = (((S[i]'hi).toNat : Int) == 47 && (if h : j < S.size then (((S[j]'h).toNat : Int) == 47) else false)) := by
  subst hj
  have e47 : ∀ c : UInt8, ((47 : UInt8) == c) = ((c.toNat : Int) == 47) := fun c => by
    rw [Bool.eq_iff_iff]
    simp only [beq_iff_eq]
    constructor
    · intro h; rw [← h]; rfl
    · intro h
      apply UInt8.toNat_inj.1
      show (47 : UInt8).toNat = c.toNat
      have : (47 : UInt8).toNat = 47 := rfl
      omega
  rw [drop_at S i hi]
  by_cases h : i + 1 < S.size
  · rw [dif_pos h, drop_at S (i + 1) h]
    simp only [List.isPrefixOf, Bool.and_true, e47]
  · rw [dif_neg h, show S.data.toList.drop (i + 1) = [] from List.drop_eq_nil_of_le (by rw [len_bytes]; omega)]
    simp [List.isPrefixOf]
set_option maxHeartbeats 16000000 in
theorem rwords_any (S : ByteArray) (w : World) : Calls Tryz.prog 49 #[.string S] w (WordsR S.data.toList w) := by
  have hle : S.data.toList.length = S.size := len_bytes S
  by_cases hl : 4096 < S.size
  · have hd : decide ((4096 : Int) < (S.size : Int)) = true := by simp; omega
    have HW := Lib.hid (words_long (t := S.data.toList) (by omega))
    clear hl hle
    go_enter Tryz.func49, Tryz.ntmps49
    go_wp2_with fail
    go_ret2
    exact words_mk HW.out (OwnW.nil _ _) (Below.refl _ _)
  have hd : decide ((4096 : Int) < (S.size : Int)) = false := by simp; omega
  have HL : Hid (¬ 4096 < S.data.toList.length) := Lib.hid (by omega)
  have HSZ := Lib.hid hle
  have hsm : S.size ≤ 4096 := by omega
  have START : Hid (AtD w w S.data.toList 0 (.slice none 0 0)) := Lib.hid (.inl ⟨[], S.data.toList.length, OwnW.nil _ _, Below.refl _ _, rfl, Nat.le_refl _, by simp; omega, fun x hx => by simp at hx, Nat.zero_le _⟩)
  clear hl hle
  go_enter Tryz.func49, Tryz.ntmps49
  go_wp2_with fail
  clear hd
  go_loopw [4, 5] (fun ov iv wr => ∃ (i : Nat) (v : Value), v = ov ∧ iv = .int .i64 i ∧ Hid (AtD w wr S.data.toList i v)) (fun _ iv _ => S.size + 1 - (intOf iv).toNat)
  case atStart => exact ⟨0, _, rfl, rfl, START⟩
  case round =>
    clear START
    obtain ⟨i, v, rfl, rfl, hat⟩ := hrel
    rcases hat.out with ⟨ws, k, hh⟩ | ⟨ws, hf⟩
    · have HH := Lib.hid hh
      clear hat
      have hil : i ≤ S.size := by have := hh.le; have := HSZ.out; omega
      clear hh
      by_cases hie : i = S.size
      · have HLI : Hid (i = S.data.toList.length ∨ ∃ r c, S.data.toList.drop i = c :: r ∧ c.toNat = 10) := Lib.hid (.inl (by have := HSZ.out; omega))
        subst hie
        generalize hii : S.size = i at *
        obtain ⟨j, hj⟩ : ∃ j, j = i + 1 := ⟨_, rfl⟩
        have hi1 : (i : Int) + 1 = (j : Int) := by omega
        have hj9 : j ≤ 5000 := by omega
        have HJ := Lib.hid hj
        clear hj
        rcases List.eq_nil_or_concat ws with hws | ⟨r, x, hws⟩
        · subst hws
          obtain ⟨A, c, rfl⟩ := HH.out.own.form
          have HN := Lib.hid (HH.out.line HLI.out (v' := .slice A ([] : List Wd).length c) HH.out.own HH.out.low)
          clear HLI
          go_wp2_with fail
          go_roundw
          case rel => exact ⟨j, _, rfl, rfl, by rw [HJ.out]; exact HN⟩
          case measure => simp [intOf]; have := HJ.out; omega
        · rw [List.concat_eq_append] at hws
          obtain ⟨b, cap, rfl, hlob, hbw⟩ := World.ownsRow.form HH.out.own (by rw [hws]; simp)
          have hc := HH.out.own.wds (by rw [hws]; simp)
          obtain ⟨b', o, e, _, hc⟩ := hc
          injection e with e
          injection e with e1 e2
          subst e1; subst e2
          obtain ⟨g0, g1, g2⟩ := hc r.length x (by rw [hws]; simp)
          have HG : Hid (Good x) := Lib.hid (HH.out.good x (by rw [hws]; simp))
          have HL : Hid (ws.getLast? = some x) := Lib.hid (by rw [hws]; simp)
          have hlen : ws.length = r.length + 1 := by rw [hws]; simp
          have hm5 : r.length ≤ 5000 := by have := HH.out.len; omega
          have HLEN := Lib.hid hlen
          rw [hlen]
          clear hc hlen hlob hbw hws
          simp only [Nat.zero_add] at g0 g1 g2
          have CM := Lib.hid (fun w' => rends_any x HG.out w')
          unfold wdV at CM
          obtain ⟨K, hK⟩ : ∃ K, x.k = K := ⟨_, rfl⟩
          obtain ⟨T, hT⟩ : ∃ T, bs x.s = T := ⟨_, rfl⟩
          obtain ⟨Z, hZ⟩ : ∃ Z, x.n = Z := ⟨_, rfl⟩
          rw [hK, hT, hZ] at CM
          rw [hK] at g0
          rw [hT] at g1
          rw [hZ] at g2
          clear hK hT hZ
          generalize r.length = m at *
          rcases Bool.eq_false_or_eq_true (mayB x) with hm | hm
          · rw [hm] at CM
            have HEY := Lib.hid (endLn_yes HL.out hm)
            clear hm HL
            go_wp2_with fail
            refine (CM.out _).mono ?_
            rintro e w1 ⟨rfl, hb1⟩
            have HH1 := Lib.hid (HH.out.below hb1)
            clear hb1 CM g0 g1 g2
            have HB3 : Hid (Below w1.heap.size w1 (w1.alloc (.cells #[.int .i64 5, .string ⟨#[59]⟩, .int .i64 0] 73))) := Lib.hid ((Below.refl _ w1).alloc (Nat.le_refl _) _)
            have HN3 : Hid ((w1.alloc (.cells #[.int .i64 5, .string ⟨#[59]⟩, .int .i64 0] 73)).heap[w1.heap.size]? = some (.cells #[.int .i64 semi.k, .string (bs semi.s), .int .i64 semi.n] 73 (0, 0))) := Lib.hid (heap_alloc_new w1 (.cells #[.int .i64 5, .string ⟨#[59]⟩, .int .i64 0] 73 (0, 0)))
            have HH3 := Lib.hid (HH1.out.below HB3.out)
            obtain ⟨v2, u2, hap, how, hgr, hbo⟩ := app_word _ w.heap.size _ ws semi w1.heap.size HH3.out.own HN3.out (by have := HH3.out.len; omega) HH3.out.low.size
            have HAP := Lib.hid hap
            have HU : Hid (Below w.heap.size w u2) := Lib.hid (HH3.out.low.trans ⟨hgr.os, hgr.tape, hgr.output, hgr.size, fun b hb => (hgr.block b (Nat.lt_of_lt_of_le hb HH3.out.low.size) (fun e => by have := (HH3.out.own.lt b e.symm).1; omega))⟩)
            rw [← HEY.out] at how
            have HN := Lib.hid (HH3.out.line HLI.out how HU.out)
            rw [HLEN.out] at HAP
            clear hap how hgr hbo HU HN3 HB3 HH3 HLI HEY HH1
            go_wp2_with (at_builtin; refine wpList_app8 33 rfl (.tmp 38) (.tmp 40) rfl (.slice (some ⟨b, 0, none⟩) (m + 1) cap) (.slice (some ⟨w1.heap.size, 0, none⟩) 1 1) _ rfl rfl HAP.out ?_)
            go_roundw
            case rel => exact ⟨j, _, rfl, rfl, by rw [HJ.out]; exact HN⟩
            case measure => simp [intOf]; have := HJ.out; omega
          · rw [hm] at CM
            have HEY := Lib.hid (endLn_no HL.out hm)
            clear hm HL
            go_wp2_with fail
            refine (CM.out _).mono ?_
            rintro e w1 ⟨rfl, hb1⟩
            have HH1 := Lib.hid (HH.out.below hb1)
            have HN := Lib.hid (HH1.out.line HLI.out (by rw [HEY.out]; exact HH1.out.own) HH1.out.low)
            rw [HLEN.out] at HN
            clear hb1 CM g0 g1 g2 HLI HEY HH1
            go_wp2_with fail
            go_roundw
            case rel => exact ⟨j, _, rfl, rfl, by rw [HJ.out]; exact HN⟩
            case measure => simp [intOf]; have := HJ.out; omega
      · have hlt : i < S.size := by omega
        clear hie hil
        have HDR := Lib.hid (drop_at S i hlt)
        by_cases h10 : (S[i]'hlt).toNat = 10
        · have HLI : Hid (i = S.data.toList.length ∨ ∃ r c, S.data.toList.drop i = c :: r ∧ c.toNat = 10) := Lib.hid (.inr ⟨_, _, HDR.out, h10⟩)
          have b10 : (((S[i]'hlt).toNat : Int) == 10) = true := by rw [h10]; rfl
          clear h10 HDR
          obtain ⟨j, hj⟩ : ∃ j, j = i + 1 := ⟨_, rfl⟩
          have hi1 : (i : Int) + 1 = (j : Int) := by omega
          have hj9 : j ≤ 5000 := by omega
          have HJ := Lib.hid hj
          clear hj
          rcases List.eq_nil_or_concat ws with hws | ⟨r, x, hws⟩
          · subst hws
            obtain ⟨A, c, rfl⟩ := HH.out.own.form
            have HN := Lib.hid (HH.out.line HLI.out (v' := .slice A ([] : List Wd).length c) HH.out.own HH.out.low)
            clear HLI
            go_wp2_with fail
            go_roundw
            case rel => exact ⟨j, _, rfl, rfl, by rw [HJ.out]; exact HN⟩
            case measure => simp [intOf]; have := HJ.out; omega
          · rw [List.concat_eq_append] at hws
            obtain ⟨b, cap, rfl, hlob, hbw⟩ := World.ownsRow.form HH.out.own (by rw [hws]; simp)
            have hc := HH.out.own.wds (by rw [hws]; simp)
            obtain ⟨b', o, e, _, hc⟩ := hc
            injection e with e
            injection e with e1 e2
            subst e1; subst e2
            obtain ⟨g0, g1, g2⟩ := hc r.length x (by rw [hws]; simp)
            have HG : Hid (Good x) := Lib.hid (HH.out.good x (by rw [hws]; simp))
            have HL : Hid (ws.getLast? = some x) := Lib.hid (by rw [hws]; simp)
            have hlen : ws.length = r.length + 1 := by rw [hws]; simp
            have hm5 : r.length ≤ 5000 := by have := HH.out.len; omega
            have HLEN := Lib.hid hlen
            rw [hlen]
            clear hc hlen hlob hbw hws
            simp only [Nat.zero_add] at g0 g1 g2
            have CM := Lib.hid (fun w' => rends_any x HG.out w')
            unfold wdV at CM
            obtain ⟨K, hK⟩ : ∃ K, x.k = K := ⟨_, rfl⟩
            obtain ⟨T, hT⟩ : ∃ T, bs x.s = T := ⟨_, rfl⟩
            obtain ⟨Z, hZ⟩ : ∃ Z, x.n = Z := ⟨_, rfl⟩
            rw [hK, hT, hZ] at CM
            rw [hK] at g0
            rw [hT] at g1
            rw [hZ] at g2
            clear hK hT hZ
            generalize r.length = m at *
            rcases Bool.eq_false_or_eq_true (mayB x) with hm | hm
            · rw [hm] at CM
              have HEY := Lib.hid (endLn_yes HL.out hm)
              clear hm HL
              go_wp2_with fail
              refine (CM.out _).mono ?_
              rintro e w1 ⟨rfl, hb1⟩
              have HH1 := Lib.hid (HH.out.below hb1)
              clear hb1 CM g0 g1 g2
              have HB3 : Hid (Below w1.heap.size w1 (w1.alloc (.cells #[.int .i64 5, .string ⟨#[59]⟩, .int .i64 0] 73))) := Lib.hid ((Below.refl _ w1).alloc (Nat.le_refl _) _)
              have HN3 : Hid ((w1.alloc (.cells #[.int .i64 5, .string ⟨#[59]⟩, .int .i64 0] 73)).heap[w1.heap.size]? = some (.cells #[.int .i64 semi.k, .string (bs semi.s), .int .i64 semi.n] 73 (0, 0))) := Lib.hid (heap_alloc_new w1 (.cells #[.int .i64 5, .string ⟨#[59]⟩, .int .i64 0] 73 (0, 0)))
              have HH3 := Lib.hid (HH1.out.below HB3.out)
              obtain ⟨v2, u2, hap, how, hgr, hbo⟩ := app_word _ w.heap.size _ ws semi w1.heap.size HH3.out.own HN3.out (by have := HH3.out.len; omega) HH3.out.low.size
              have HAP := Lib.hid hap
              have HU : Hid (Below w.heap.size w u2) := Lib.hid (HH3.out.low.trans ⟨hgr.os, hgr.tape, hgr.output, hgr.size, fun b hb => (hgr.block b (Nat.lt_of_lt_of_le hb HH3.out.low.size) (fun e => by have := (HH3.out.own.lt b e.symm).1; omega))⟩)
              rw [← HEY.out] at how
              have HN := Lib.hid (HH3.out.line HLI.out how HU.out)
              rw [HLEN.out] at HAP
              clear hap how hgr hbo HU HN3 HB3 HH3 HLI HEY HH1
              go_wp2_with (at_builtin; refine wpList_app8 33 rfl (.tmp 38) (.tmp 40) rfl (.slice (some ⟨b, 0, none⟩) (m + 1) cap) (.slice (some ⟨w1.heap.size, 0, none⟩) 1 1) _ rfl rfl HAP.out ?_)
              go_roundw
              case rel => exact ⟨j, _, rfl, rfl, by rw [HJ.out]; exact HN⟩
              case measure => simp [intOf]; have := HJ.out; omega
            · rw [hm] at CM
              have HEY := Lib.hid (endLn_no HL.out hm)
              clear hm HL
              go_wp2_with fail
              refine (CM.out _).mono ?_
              rintro e w1 ⟨rfl, hb1⟩
              have HH1 := Lib.hid (HH.out.below hb1)
              have HN := Lib.hid (HH1.out.line HLI.out (by rw [HEY.out]; exact HH1.out.own) HH1.out.low)
              rw [HLEN.out] at HN
              clear hb1 CM g0 g1 g2 HLI HEY HH1
              go_wp2_with fail
              go_roundw
              case rel => exact ⟨j, _, rfl, rfl, by rw [HJ.out]; exact HN⟩
              case measure => simp [intOf]; have := HJ.out; omega
        · have b10 : (((S[i]'hlt).toNat : Int) == 10) = false := by rw [beq_eq_false_iff_ne]; omega
          have HN10 := Lib.hid h10
          clear h10
          obtain ⟨j, hj⟩ : ∃ j, j = i + 1 := ⟨_, rfl⟩
          have hi1 : (i : Int) + 1 = (j : Int) := by omega
          have hj9 : j ≤ 5000 := by omega
          have HJ := Lib.hid hj
          clear hj
          rcases Bool.eq_false_or_eq_true (blank (S[i]'hlt)) with hb | hb
          · have HN : Hid (AtD w wr S.data.toList (i + 1) v) := Lib.hid (HH.out.next (by have := HSZ.out; omega) (by rw [HDR.out]; exact step_bl8 _ _ HN10.out hb) (by omega) (by have := HSZ.out; omega) HH.out.own HH.out.low)
            have hbb : ((S[i]'hlt).toNat = 32 ∨ (S[i]'hlt).toNat = 9 ∨ (S[i]'hlt).toNat = 13) := by unfold blank at hb; simpa using hb
            clear hb HN10 HDR
            rcases hbb with h | h | h
            · have d1 : (((S[i]'hlt).toNat : Int) == 32) = true := by rw [h]; rfl
              clear h
              go_wp2_with fail
              go_roundw
              case rel => exact ⟨j, v, rfl, rfl, by rw [HJ.out]; exact HN⟩
              case measure => simp [intOf]; have := HJ.out; omega
            · have d1 : (((S[i]'hlt).toNat : Int) == 32) = false := by rw [h]; rfl
              have d2 : (((S[i]'hlt).toNat : Int) == 9) = true := by rw [h]; rfl
              clear h
              go_wp2_with fail
              go_roundw
              case rel => exact ⟨j, v, rfl, rfl, by rw [HJ.out]; exact HN⟩
              case measure => simp [intOf]; have := HJ.out; omega
            · have d1 : (((S[i]'hlt).toNat : Int) == 32) = false := by rw [h]; rfl
              have d2 : (((S[i]'hlt).toNat : Int) == 9) = false := by rw [h]; rfl
              have d3 : (((S[i]'hlt).toNat : Int) == 13) = true := by rw [h]; rfl
              clear h
              go_wp2_with fail
              go_roundw
              case rel => exact ⟨j, v, rfl, rfl, by rw [HJ.out]; exact HN⟩
              case measure => simp [intOf]; have := HJ.out; omega
          · have HBL := Lib.hid hb
            obtain ⟨d1, d2, d3⟩ := blank_of hb
            clear hb
            have hcom := com_of hlt HJ.out
            rcases Bool.eq_false_or_eq_true ([47, 47].isPrefixOf (S.data.toList.drop i)) with hc | hc
            · rw [hc] at hcom
              have h2 : j < S.size := by
                by_cases h : j < S.size
                · exact h
                · rw [dif_neg h, Bool.and_false] at hcom; cases hcom
              rw [dif_pos h2] at hcom
              obtain ⟨s1, s2⟩ : (((S[i]'hlt).toNat : Int) == 47) = true ∧ (((S[j]'h2).toNat : Int) == 47) = true := by simpa only [Bool.and_eq_true] using hcom.symm
              obtain ⟨m, hm⟩ : ∃ m, m = i + rowN notNL (S.data.toList.drop i) := ⟨_, rfl⟩
              have HST : Hid (step (S.data.toList.drop i) ws = ⟨0, S.data.toList.drop m, ws⟩) := Lib.hid (by
                have h := step_co8 (S.data.toList.drop (i + 1)) ws HN10.out HBL.out (by rw [← HDR.out]; exact hc)
                rw [← HDR.out] at h
                rw [h, hm, List.drop_drop])
              have HM := Lib.hid hm
              have hm1 : i ≤ m := by omega
              have hm2 : m ≤ S.size := by have := rowN_le notNL (S.data.toList.drop i); rw [List.length_drop, HSZ.out] at this; omega
              have HIM : Hid (i < m) := Lib.hid (by
                rw [hm, HDR.out]
                have := rowN_pos (p := notNL) (c := S[i]'hlt) (r := S.data.toList.drop (i + 1)) (by unfold notNL; simpa using HN10.out)
                omega)
              have HN : Hid (AtD w wr S.data.toList m v) := Lib.hid (HH.out.next (by have := HSZ.out; omega) HST.out HIM.out (by have := HSZ.out; omega) HH.out.own HH.out.low)
              clear hcom hc hm HDR HBL HN10 HST
              go_wp2_with fail
              go_loop [5] (fun jv => ∃ jj : Nat, i ≤ jj ∧ jj ≤ m ∧ jv = .int .i64 jj) (fun jv => S.size - (intOf jv).toNat)
              case atStart => exact ⟨i, Nat.le_refl _, hm1, rfl⟩
              case round =>
                obtain ⟨jj, hj1, hj2, rfl⟩ := hrel
                by_cases hjm : jj < m
                · have hjs : jj < S.size := by omega
                  have bj : (((S[jj]'hjs).toNat : Int) != 10) = true := by
                    have := row_in (p := notNL) (l := S.data.toList.drop i) (k := jj - i) (by have := HM.out; omega)
                    rw [at_drop S i (jj - i) (by omega)] at this
                    obtain ⟨c, h1, h2⟩ := this
                    injection h1 with h1
                    have e : S[i + (jj - i)]'(by omega) = S[jj]'hjs := by congr 1; omega
                    rw [← h1, e] at h2
                    unfold notNL at h2
                    simp at h2 ⊢
                    omega
                  obtain ⟨q, hq⟩ : ∃ q, q = jj + 1 := ⟨_, rfl⟩
                  have hj3 : (jj : Int) + 1 = (q : Int) := by omega
                  have hq9 : q ≤ 5000 := by omega
                  have HQ := Lib.hid hq
                  clear hq
                  go_wp2_with fail
                  go_round
                  case rel => exact ⟨q, by have := HQ.out; omega, by have := HQ.out; omega, rfl⟩
                  case measure => simp [intOf]; have := HQ.out; omega
                · obtain rfl : jj = m := by omega
                  by_cases hjs : jj < S.size
                  · have bj : (((S[jj]'hjs).toNat : Int) != 10) = false := by
                      have := row_out (p := notNL) (l := S.data.toList.drop i) (c := S[jj]'hjs) (by
                        have h := at_drop S i (rowN notNL (S.data.toList.drop i)) (by have := HM.out; omega)
                        rw [h]
                        congr 1
                        congr 1
                        exact HM.out.symm)
                      unfold notNL at this
                      simp at this ⊢
                      omega
                    go_wp2_with fail
                    go_roundw
                    case rel => exact ⟨jj, v, rfl, rfl, HN⟩
                    case measure => simp [intOf]; have := HIM.out; omega
                  · go_wp2_with fail
                    go_roundw
                    case rel => exact ⟨jj, v, rfl, rfl, HN⟩
                    case measure => simp [intOf]; have := HIM.out; omega
            · rw [hc] at hcom
              have HC := Lib.hid hc
              clear hc
              rcases Bool.eq_false_or_eq_true (((S[i]'hlt).toNat : Int) == 47) with s1 | s1
              · by_cases h2 : j < S.size
                · rw [s1, dif_pos h2, Bool.true_and] at hcom
                  have s2 := hcom.symm
                  clear hcom
                  by_cases he : (oneS (S.data.toList.drop i)).e = 0
                  · have CN := Lib.hid (one_ok S i wr ws hlt (by omega) HN10.out HBL.out HC.out he)
                    clear he HN10 HBL HC HDR
                    go_wp2_with fail
                    refine CN.out.mono ?_
                    rintro e w1 ⟨x, n, rfl, hst, hn1, hn2, hb1⟩
                    have HH1 := Lib.hid (HH.out.below hb1)
                    have HST := Lib.hid hst
                    have HN1 := Lib.hid hn1
                    clear hst hb1 CN hn1
                    have hb2 : Below w1.heap.size w1 (w1.alloc (.cells #[.int .i64 x.k, .string (bs x.s), .int .i64 x.n] 73)) := (Below.refl _ w1).alloc (Nat.le_refl _) _
                    have hw2 : (w1.alloc (.cells #[.int .i64 x.k, .string (bs x.s), .int .i64 x.n] 73)).heap[w1.heap.size]? = some (.cells #[.int .i64 x.k, .string (bs x.s), .int .i64 x.n] 73 (0, 0)) := heap_alloc_new w1 (.cells #[.int .i64 x.k, .string (bs x.s), .int .i64 x.n] 73 (0, 0))
                    obtain ⟨W2, hW2⟩ : ∃ W, w1.alloc (.cells #[.int .i64 x.k, .string (bs x.s), .int .i64 x.n] 73) = W := ⟨_, rfl⟩
                    rw [hW2] at hb2 hw2
                    have HH2 := Lib.hid (HH1.out.below hb2)
                    have x0 := cell_at hw2 0
                    have x1 := cell_at hw2 1
                    have x2 := cell_at hw2 2
                    simp only [List.getElem?_toArray, List.getElem?_cons_succ, List.getElem?_cons_zero] at x0 x1 x2
                    clear hb2 hw2 HH1
                    have HB3 : Hid (Below W2.heap.size W2 (W2.alloc (.cells #[.int .i64 x.k, .string (bs x.s), .int .i64 x.n] 73))) := Lib.hid ((Below.refl _ W2).alloc (Nat.le_refl _) _)
                    have HN3 : Hid ((W2.alloc (.cells #[.int .i64 x.k, .string (bs x.s), .int .i64 x.n] 73)).heap[W2.heap.size]? = some (.cells #[.int .i64 x.k, .string (bs x.s), .int .i64 x.n] 73 (0, 0))) := Lib.hid (heap_alloc_new W2 (.cells #[.int .i64 x.k, .string (bs x.s), .int .i64 x.n] 73 (0, 0)))
                    have HH3 := Lib.hid (HH2.out.below HB3.out)
                    obtain ⟨v2, u2, hap, how, hgr, hbo⟩ := app_word _ w.heap.size v ws x W2.heap.size HH3.out.own HN3.out (by have := HH3.out.len; omega) HH3.out.low.size
                    have HAP := Lib.hid hap
                    have HU : Hid (Below w.heap.size w u2) := Lib.hid (HH3.out.low.trans ⟨hgr.os, hgr.tape, hgr.output, hgr.size, fun b hb => (hgr.block b (Nat.lt_of_lt_of_le hb HH3.out.low.size) (fun e => by have := (HH3.out.own.lt b e.symm).1; omega))⟩)
                    obtain ⟨m, hm⟩ : ∃ m, m = i + n := ⟨_, rfl⟩
                    have hm2 : (i : Int) + (n : Int) = (m : Int) := by omega
                    have hm9 : m ≤ 5000 := by omega
                    have HN : Hid (AtD w u2 S.data.toList m v2) := Lib.hid (by rw [hm]; exact HH3.out.next (by have := HSZ.out; omega) HST.out HN1.out (by have := HSZ.out; omega) how HU.out)
                    have HM : Hid (i < m) := Lib.hid (by rw [hm]; exact HN1.out)
                    clear hap how hgr hbo HU HN3 HB3 HH3 HH2 HST HN1 hm hn2 HH
                    obtain ⟨K, hK⟩ : ∃ K, x.k = K := ⟨_, rfl⟩
                    obtain ⟨T, hT⟩ : ∃ T, bs x.s = T := ⟨_, rfl⟩
                    obtain ⟨Z, hZ⟩ : ∃ Z, x.n = Z := ⟨_, rfl⟩
                    rw [hK, hT, hZ] at hW2 HAP
                    rw [hK] at x0
                    rw [hT] at x1
                    rw [hZ] at x2
                    rw [hK, hT, hZ]
                    clear hK hT hZ
                    go_wp2_with (at_builtin; refine wpList_app8 33 rfl (.tmp 102) (.tmp 104) rfl v (.slice (some ⟨W2.heap.size, 0, none⟩) 1 1) _ rfl rfl HAP.out ?_)
                    go_roundw
                    case rel => exact ⟨m, _, rfl, rfl, HN⟩
                    case measure => simp [intOf]; have := HM.out; omega
                  · obtain ⟨E, hE⟩ : ∃ E, (oneS (S.data.toList.drop i)).e = E := ⟨_, rfl⟩
                    have CN := Lib.hid (one_bad S i wr E hlt (by omega) hE)
                    have HSE := Lib.hid ((step_e S i ws hlt HN10.out HBL.out HC.out).trans hE)
                    rw [hE] at he
                    have HW := Lib.hid (words_bad (t := S.data.toList) HL.out he (HH.out.bad (by have := HSZ.out; omega) HSE.out he))
                    have e1 : (E == 0) = false := by simpa using he
                    have e2 : (E != 0) = true := by simpa using he
                    clear he hE HN10 HBL HC HDR HSE
                    go_wp2_with fail
                    refine CN.out.mono ?_
                    rintro e w1 ⟨a, b, c, n, rfl, hb1⟩
                    have HBL1 : Hid (Below w.heap.size w (w1.alloc (.cells #[.int .i64 a, .string b, .int .i64 c] 73))) := Lib.hid ((HH.out.below hb1).low.alloc (HH.out.below hb1).low.size _)
                    clear hb1 CN HH
                    go_wp2_with fail
                    go_ret2
                    exact words_mk HW.out (OwnW.nil _ _) HBL1.out
                · clear hcom
                  by_cases he : (oneS (S.data.toList.drop i)).e = 0
                  · have CN := Lib.hid (one_ok S i wr ws hlt (by omega) HN10.out HBL.out HC.out he)
                    clear he HN10 HBL HC HDR
                    go_wp2_with fail
                    refine CN.out.mono ?_
                    rintro e w1 ⟨x, n, rfl, hst, hn1, hn2, hb1⟩
                    have HH1 := Lib.hid (HH.out.below hb1)
                    have HST := Lib.hid hst
                    have HN1 := Lib.hid hn1
                    clear hst hb1 CN hn1
                    have hb2 : Below w1.heap.size w1 (w1.alloc (.cells #[.int .i64 x.k, .string (bs x.s), .int .i64 x.n] 73)) := (Below.refl _ w1).alloc (Nat.le_refl _) _
                    have hw2 : (w1.alloc (.cells #[.int .i64 x.k, .string (bs x.s), .int .i64 x.n] 73)).heap[w1.heap.size]? = some (.cells #[.int .i64 x.k, .string (bs x.s), .int .i64 x.n] 73 (0, 0)) := heap_alloc_new w1 (.cells #[.int .i64 x.k, .string (bs x.s), .int .i64 x.n] 73 (0, 0))
                    obtain ⟨W2, hW2⟩ : ∃ W, w1.alloc (.cells #[.int .i64 x.k, .string (bs x.s), .int .i64 x.n] 73) = W := ⟨_, rfl⟩
                    rw [hW2] at hb2 hw2
                    have HH2 := Lib.hid (HH1.out.below hb2)
                    have x0 := cell_at hw2 0
                    have x1 := cell_at hw2 1
                    have x2 := cell_at hw2 2
                    simp only [List.getElem?_toArray, List.getElem?_cons_succ, List.getElem?_cons_zero] at x0 x1 x2
                    clear hb2 hw2 HH1
                    have HB3 : Hid (Below W2.heap.size W2 (W2.alloc (.cells #[.int .i64 x.k, .string (bs x.s), .int .i64 x.n] 73))) := Lib.hid ((Below.refl _ W2).alloc (Nat.le_refl _) _)
                    have HN3 : Hid ((W2.alloc (.cells #[.int .i64 x.k, .string (bs x.s), .int .i64 x.n] 73)).heap[W2.heap.size]? = some (.cells #[.int .i64 x.k, .string (bs x.s), .int .i64 x.n] 73 (0, 0))) := Lib.hid (heap_alloc_new W2 (.cells #[.int .i64 x.k, .string (bs x.s), .int .i64 x.n] 73 (0, 0)))
                    have HH3 := Lib.hid (HH2.out.below HB3.out)
                    obtain ⟨v2, u2, hap, how, hgr, hbo⟩ := app_word _ w.heap.size v ws x W2.heap.size HH3.out.own HN3.out (by have := HH3.out.len; omega) HH3.out.low.size
                    have HAP := Lib.hid hap
                    have HU : Hid (Below w.heap.size w u2) := Lib.hid (HH3.out.low.trans ⟨hgr.os, hgr.tape, hgr.output, hgr.size, fun b hb => (hgr.block b (Nat.lt_of_lt_of_le hb HH3.out.low.size) (fun e => by have := (HH3.out.own.lt b e.symm).1; omega))⟩)
                    obtain ⟨m, hm⟩ : ∃ m, m = i + n := ⟨_, rfl⟩
                    have hm2 : (i : Int) + (n : Int) = (m : Int) := by omega
                    have hm9 : m ≤ 5000 := by omega
                    have HN : Hid (AtD w u2 S.data.toList m v2) := Lib.hid (by rw [hm]; exact HH3.out.next (by have := HSZ.out; omega) HST.out HN1.out (by have := HSZ.out; omega) how HU.out)
                    have HM : Hid (i < m) := Lib.hid (by rw [hm]; exact HN1.out)
                    clear hap how hgr hbo HU HN3 HB3 HH3 HH2 HST HN1 hm hn2 HH
                    obtain ⟨K, hK⟩ : ∃ K, x.k = K := ⟨_, rfl⟩
                    obtain ⟨T, hT⟩ : ∃ T, bs x.s = T := ⟨_, rfl⟩
                    obtain ⟨Z, hZ⟩ : ∃ Z, x.n = Z := ⟨_, rfl⟩
                    rw [hK, hT, hZ] at hW2 HAP
                    rw [hK] at x0
                    rw [hT] at x1
                    rw [hZ] at x2
                    rw [hK, hT, hZ]
                    clear hK hT hZ
                    go_wp2_with (at_builtin; refine wpList_app8 33 rfl (.tmp 102) (.tmp 104) rfl v (.slice (some ⟨W2.heap.size, 0, none⟩) 1 1) _ rfl rfl HAP.out ?_)
                    go_roundw
                    case rel => exact ⟨m, _, rfl, rfl, HN⟩
                    case measure => simp [intOf]; have := HM.out; omega
                  · obtain ⟨E, hE⟩ : ∃ E, (oneS (S.data.toList.drop i)).e = E := ⟨_, rfl⟩
                    have CN := Lib.hid (one_bad S i wr E hlt (by omega) hE)
                    have HSE := Lib.hid ((step_e S i ws hlt HN10.out HBL.out HC.out).trans hE)
                    rw [hE] at he
                    have HW := Lib.hid (words_bad (t := S.data.toList) HL.out he (HH.out.bad (by have := HSZ.out; omega) HSE.out he))
                    have e1 : (E == 0) = false := by simpa using he
                    have e2 : (E != 0) = true := by simpa using he
                    clear he hE HN10 HBL HC HDR HSE
                    go_wp2_with fail
                    refine CN.out.mono ?_
                    rintro e w1 ⟨a, b, c, n, rfl, hb1⟩
                    have HBL1 : Hid (Below w.heap.size w (w1.alloc (.cells #[.int .i64 a, .string b, .int .i64 c] 73))) := Lib.hid ((HH.out.below hb1).low.alloc (HH.out.below hb1).low.size _)
                    clear hb1 CN HH
                    go_wp2_with fail
                    go_ret2
                    exact words_mk HW.out (OwnW.nil _ _) HBL1.out
              · clear hcom
                by_cases he : (oneS (S.data.toList.drop i)).e = 0
                · have CN := Lib.hid (one_ok S i wr ws hlt (by omega) HN10.out HBL.out HC.out he)
                  clear he HN10 HBL HC HDR
                  go_wp2_with fail
                  refine CN.out.mono ?_
                  rintro e w1 ⟨x, n, rfl, hst, hn1, hn2, hb1⟩
                  have HH1 := Lib.hid (HH.out.below hb1)
                  have HST := Lib.hid hst
                  have HN1 := Lib.hid hn1
                  clear hst hb1 CN hn1
                  have hb2 : Below w1.heap.size w1 (w1.alloc (.cells #[.int .i64 x.k, .string (bs x.s), .int .i64 x.n] 73)) := (Below.refl _ w1).alloc (Nat.le_refl _) _
                  have hw2 : (w1.alloc (.cells #[.int .i64 x.k, .string (bs x.s), .int .i64 x.n] 73)).heap[w1.heap.size]? = some (.cells #[.int .i64 x.k, .string (bs x.s), .int .i64 x.n] 73 (0, 0)) := heap_alloc_new w1 (.cells #[.int .i64 x.k, .string (bs x.s), .int .i64 x.n] 73 (0, 0))
                  obtain ⟨W2, hW2⟩ : ∃ W, w1.alloc (.cells #[.int .i64 x.k, .string (bs x.s), .int .i64 x.n] 73) = W := ⟨_, rfl⟩
                  rw [hW2] at hb2 hw2
                  have HH2 := Lib.hid (HH1.out.below hb2)
                  have x0 := cell_at hw2 0
                  have x1 := cell_at hw2 1
                  have x2 := cell_at hw2 2
                  simp only [List.getElem?_toArray, List.getElem?_cons_succ, List.getElem?_cons_zero] at x0 x1 x2
                  clear hb2 hw2 HH1
                  have HB3 : Hid (Below W2.heap.size W2 (W2.alloc (.cells #[.int .i64 x.k, .string (bs x.s), .int .i64 x.n] 73))) := Lib.hid ((Below.refl _ W2).alloc (Nat.le_refl _) _)
                  have HN3 : Hid ((W2.alloc (.cells #[.int .i64 x.k, .string (bs x.s), .int .i64 x.n] 73)).heap[W2.heap.size]? = some (.cells #[.int .i64 x.k, .string (bs x.s), .int .i64 x.n] 73 (0, 0))) := Lib.hid (heap_alloc_new W2 (.cells #[.int .i64 x.k, .string (bs x.s), .int .i64 x.n] 73 (0, 0)))
                  have HH3 := Lib.hid (HH2.out.below HB3.out)
                  obtain ⟨v2, u2, hap, how, hgr, hbo⟩ := app_word _ w.heap.size v ws x W2.heap.size HH3.out.own HN3.out (by have := HH3.out.len; omega) HH3.out.low.size
                  have HAP := Lib.hid hap
                  have HU : Hid (Below w.heap.size w u2) := Lib.hid (HH3.out.low.trans ⟨hgr.os, hgr.tape, hgr.output, hgr.size, fun b hb => (hgr.block b (Nat.lt_of_lt_of_le hb HH3.out.low.size) (fun e => by have := (HH3.out.own.lt b e.symm).1; omega))⟩)
                  obtain ⟨m, hm⟩ : ∃ m, m = i + n := ⟨_, rfl⟩
                  have hm2 : (i : Int) + (n : Int) = (m : Int) := by omega
                  have hm9 : m ≤ 5000 := by omega
                  have HN : Hid (AtD w u2 S.data.toList m v2) := Lib.hid (by rw [hm]; exact HH3.out.next (by have := HSZ.out; omega) HST.out HN1.out (by have := HSZ.out; omega) how HU.out)
                  have HM : Hid (i < m) := Lib.hid (by rw [hm]; exact HN1.out)
                  clear hap how hgr hbo HU HN3 HB3 HH3 HH2 HST HN1 hm hn2 HH
                  obtain ⟨K, hK⟩ : ∃ K, x.k = K := ⟨_, rfl⟩
                  obtain ⟨T, hT⟩ : ∃ T, bs x.s = T := ⟨_, rfl⟩
                  obtain ⟨Z, hZ⟩ : ∃ Z, x.n = Z := ⟨_, rfl⟩
                  rw [hK, hT, hZ] at hW2 HAP
                  rw [hK] at x0
                  rw [hT] at x1
                  rw [hZ] at x2
                  rw [hK, hT, hZ]
                  clear hK hT hZ
                  go_wp2_with (at_builtin; refine wpList_app8 33 rfl (.tmp 102) (.tmp 104) rfl v (.slice (some ⟨W2.heap.size, 0, none⟩) 1 1) _ rfl rfl HAP.out ?_)
                  go_roundw
                  case rel => exact ⟨m, _, rfl, rfl, HN⟩
                  case measure => simp [intOf]; have := HM.out; omega
                · obtain ⟨E, hE⟩ : ∃ E, (oneS (S.data.toList.drop i)).e = E := ⟨_, rfl⟩
                  have CN := Lib.hid (one_bad S i wr E hlt (by omega) hE)
                  have HSE := Lib.hid ((step_e S i ws hlt HN10.out HBL.out HC.out).trans hE)
                  rw [hE] at he
                  have HW := Lib.hid (words_bad (t := S.data.toList) HL.out he (HH.out.bad (by have := HSZ.out; omega) HSE.out he))
                  have e1 : (E == 0) = false := by simpa using he
                  have e2 : (E != 0) = true := by simpa using he
                  clear he hE HN10 HBL HC HDR HSE
                  go_wp2_with fail
                  refine CN.out.mono ?_
                  rintro e w1 ⟨a, b, c, n, rfl, hb1⟩
                  have HBL1 : Hid (Below w.heap.size w (w1.alloc (.cells #[.int .i64 a, .string b, .int .i64 c] 73))) := Lib.hid ((HH.out.below hb1).low.alloc (HH.out.below hb1).low.size _)
                  clear hb1 CN HH
                  go_wp2_with fail
                  go_ret2
                  exact words_mk HW.out (OwnW.nil _ _) HBL1.out
    · have HF := Lib.hid hf
      have hia : i = S.size + 1 := by have := hf.at_; have := HSZ.out; omega
      clear hat hf
      obtain ⟨A, c, rfl⟩ := HF.out.own.form
      have HWL := Lib.hid HF.out.len
      clear hia
      have hlt : ¬ i ≤ S.size := by have := HF.out.at_; have := HSZ.out; omega
      by_cases hm : 2048 < (endLn ws).length
      · have HW := Lib.hid (words_many HL.out HF.out.told hm)
        have HB := Lib.hid HF.out.low
        clear HF
        generalize (endLn ws).length = m at *
        go_wp2_with fail
        go_ret2
        exact words_mk HW.out (OwnW.nil _ _) HB.out
      · have HW := Lib.hid (words_ok HL.out HF.out.told hm)
        have HB := Lib.hid HF.out.low
        have HO := Lib.hid HF.out.own
        clear HF
        generalize (endLn ws).length = m at *
        go_wp2_with fail
        go_ret2
        exact words_mk HW.out HO.out HB.out
end Go.Proofs.YtlhbhpdpjidpgaaGreatDoor.Lex
/- The document's words: a reader of a text's words, or why there is none. No condition. -/
namespace Go.Proofs.YtlhbhpdpjidpgaaGreatDoor.Prs
open Go.RowKit Tre Prg
open Lex (Wd wdC wdV bs str Turn)
set_option maxRecDepth 100000
set_option linter.unusedSimpArgs false
variable {lo : Nat}
theorem nestN_D (l : List Wd) : nestN l = nestD l := rfl
/-- The error ahead of reading. -/
def wordsE (t : List UInt8) : Int := if (Lex.words t).2 ≠ 0 then (Lex.words t).2 else if 24 < nestD (Lex.words t).1 then 11 else 0
/-- What words leaves. -/
def WordsM (t : List UInt8) (w : World) (e : Ending) (w' : World) : Prop := ∃ g : Nat, e = .returned (.tuple #[.pointer (some ⟨g, 0, none⟩), .int .i64 (wordsE t)]) ∧ Below w.heap.size w w' ∧ (wordsE t = 0 → w.heap.size ≤ g ∧ RdM w'.heap.size w' g ⟨(Lex.words t).1, false, false⟩)
theorem WordsM.bad {t : List UInt8} {w w1 : World} {cs : Array Value} {E : Int} (hE : wordsE t = E) (h0 : E ≠ 0) (hb : Below w.heap.size w w1) : WordsM t w (.returned (.tuple #[.pointer (some ⟨w1.heap.size, 0, none⟩), .int .i64 E])) (w1.alloc (.cells cs 63)) :=
  ⟨w1.heap.size, by rw [hE], hb.alloc hb.size _, fun h => absurd (hE ▸ h) h0⟩
theorem WordsM.ok {t : List UInt8} {w w1 : World} {v : Value} (hE : wordsE t = 0) (hb : Below w.heap.size w w1) (hv : Lex.OwnW w1 w.heap.size v (Lex.words t).1) (hg : ∀ x ∈ (Lex.words t).1, Lex.Good x) (hl : (Lex.words t).1.length ≤ 2048) : WordsM t w (.returned (.tuple #[.pointer (some ⟨w1.heap.size, 0, none⟩), .int .i64 0])) (w1.alloc (.cells #[v, .bool false, .bool false] 63)) := by
  obtain ⟨A, c, rfl, hc, hA⟩ := OwnW.cap hv
  have hrow : Row 3 wdC w1 A (Lex.words t).1 := OwnW.row hv
  have hb2 := ball_new w1 #[.slice A (Lex.words t).1.length c, .bool false, .bool false] 63
  refine ⟨w1.heap.size, by rw [hE], hb.alloc hb.size _, fun _ => ⟨hb.size, ⟨A, c, new_at w1 _ _, hc, hrow.below hb2, fun b o e => ?_⟩, by show (Lex.words t).1.length ≤ 100000; omega, by simp, Nat.le_refl _, fun x hx => good_len (hg x hx)⟩⟩
  subst e
  have := (hv.lt b rfl).2
  simp
  omega
set_option maxHeartbeats 8000000 in
theorem rwordsM_any (t : List UInt8) (w : World) : Calls Tryz.prog 21 #[.string (bs t)] w (WordsM t w) := by
  have CW := Lib.hid (Lex.rwords_any (bs t) w)
  rw [Lex.bs_data] at CW
  generalize bs t = TX at *
  go_enter Tryz.func21, Tryz.ntmps21
  go_wp2_with fail
  refine CW.out.mono ?_
  rintro e w1 ⟨v, rfl, hv, hb1⟩
  have HV := Lib.hid hv
  have HB := Lib.hid hb1
  clear hv hb1 CW
  by_cases he : (Lex.words t).2 = 0
  · have HW0 := Lib.hid (words_ok0 he)
    have HE0 := Lib.hid he
    rw [he]
    clear he
    obtain ⟨A, c, rfl, hc, hA⟩ := OwnW.cap HV.out
    have CN := Lib.hid (nest_any (Lex.words t).1 A c w1 (OwnW.row HV.out) (by have := HW0.out.2.2; omega))
    rw [nestN_D] at CN
    have HD : Hid (wordsE t = if 24 < nestD (Lex.words t).1 then 11 else 0) := Lib.hid (by unfold wordsE; rw [if_neg (by simp [HE0.out])])
    clear hc hA
    have HMX : Hid (nestD (Lex.words t).1 ≤ 1000000) := Lib.hid (by have := (nest_le (Lex.words t).1 (0, 0) 0 (Nat.le_refl _) (Nat.le_refl _)).2; have h2 := HW0.out.2.2; rw [← nestN_D]; unfold nestN; omega)
    obtain ⟨m, hm⟩ : ∃ m, (Lex.words t).1.length = m := ⟨_, rfl⟩
    have HM := Lib.hid hm
    rw [hm] at CN
    rw [hm]
    clear hm
    generalize nestD (Lex.words t).1 = d at *
    have hmx := HMX.out
    clear HMX
    by_cases hd : 24 < d
    · have HEE : Hid (wordsE t = 11) := Lib.hid (by rw [HD.out, if_pos hd])
      go_wp2_with fail
      refine CN.out.mono ?_
      rintro e w2 ⟨rfl, hb2⟩
      have HB2 : Hid (Below w.heap.size w w2) := Lib.hid (HB.out.trans (hb2.mono HB.out.size))
      clear hb2 CN
      go_wp2_with fail
      go_ret2
      exact WordsM.bad HEE.out (by decide) HB2.out
    · have HEE : Hid (wordsE t = 0) := Lib.hid (by rw [HD.out, if_neg hd])
      go_wp2_with fail
      refine CN.out.mono ?_
      rintro e w2 ⟨rfl, hb2⟩
      have HB2 : Hid (Below w.heap.size w w2) := Lib.hid (HB.out.trans (hb2.mono HB.out.size))
      have HV2 : Hid (Lex.OwnW w2 w.heap.size (.slice A m c) (Lex.words t).1) := Lib.hid (by rw [← HM.out]; exact HV.out.keep fun b hb => hb2.block b (HV.out.lt b hb).2)
      clear hb2 CN
      go_wp2_with fail
      go_ret2
      exact WordsM.ok HEE.out HB2.out HV2.out HW0.out.1 HW0.out.2.2
  · have HEE : Hid (wordsE t = (Lex.words t).2) := Lib.hid (by unfold wordsE; rw [if_pos he])
    have HNE := Lib.hid he
    have e1 : ((Lex.words t).2 == 0) = false := by simpa using he
    obtain ⟨A, c, rfl, -, -⟩ := OwnW.cap HV.out
    clear he HV
    generalize (Lex.words t).1.length = m at *
    generalize (Lex.words t).2 = E at *
    go_wp2_with fail
    go_ret2
    exact WordsM.bad HEE.out HNE.out HB.out
end Go.Proofs.YtlhbhpdpjidpgaaGreatDoor.Prs
