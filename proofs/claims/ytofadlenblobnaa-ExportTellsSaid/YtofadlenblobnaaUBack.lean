/-
  The law of there and back, walked. Conditions: list and bytes lie in memory.
-/
import Derived.Test.YtofadlenblobnaaUKnw
namespace Go.Proofs.Ytofadlenblobnaa.Exp
open Go.RowKit Codec Typ Tre
open OwnR (OwnG)
open Cod (Byts bytesOf)
set_option maxRecDepth 100000
set_option linter.unusedSimpArgs false
theorem num_q (n : Int) (w : World) : Calls Try.prog 11 #[.int .i64 n] w fun e w' => e = .returned (.int .i64 n) ∧ w = w' :=
  (num_any n w).mono fun _ _ h => ⟨h.1, h.2.symm⟩
theorem sameP_self : ∀ p : List Int, sameP p p = true := fun p => by
  unfold sameP
  exact all_two rfl rfl (fun j a b _ h1 h2 => by rw [h1] at h2; injection h2 with h2; subst h2; simp [sameI])
theorem sameG_core {a b : Sg} (h : coreG a = coreG b) : sameG a b = true := by
  obtain ⟨a0, a1, a2, a3, a4⟩ := a
  obtain ⟨b0, b1, b2, b3, b4⟩ := b
  simp only [coreG, Sp.mk.injEq] at h
  obtain ⟨h1, h2, h3⟩ := h
  subst h2 h3
  unfold sameG
  simp only [sameP_self, Lex.toList_data, h1]
  simp
theorem sameL_core {x l : List Sg} (h : x.map coreG = l.map coreG) : sameL x l = true := by
  have hl : x.length = l.length := by have := congrArg List.length h; simpa using this
  unfold sameL
  refine all_two hl rfl (fun j a b _ h1 h2 => sameG_core ?_)
  have e1 : (x.map coreG)[j]? = some (coreG a) := by rw [List.getElem?_map, h1]; rfl
  have e2 : (l.map coreG)[j]? = some (coreG b) := by rw [List.getElem?_map, h2]; rfl
  rw [h, e2] at e1
  injection e1 with e1
  exact e1.symm
theorem enc_yes {L : List Sp} (h : rightL L = true) : encV L = encL L ∧ encN L = 0 := ⟨by unfold encV; rw [h]; rfl, by unfold encN; rw [h]; rfl⟩
theorem enc_no {L : List Sp} (h : rightL L = false) : encV L = [] ∧ encN L = 1 := ⟨by unfold encV; rw [h]; rfl, by unfold encN; rw [h]; rfl⟩
structure InAt (l : List Sg) (A : Option Addr) (b : List UInt8) (A0 : Option Addr) (n0 : Nat) (w : World) : Prop where
  row : Row 3 sgC w A l
  sin : ∀ g ∈ l, SgIn w g
  byts : Byts w w.heap.size A0 n0 b
theorem InAt.below {l : List Sg} {A A0 : Option Addr} {b : List UInt8} {n0 : Nat} {w w' : World} (h : InAt l A b A0 n0 w) (hb : Below w.heap.size w w') : InAt l A b A0 n0 w' :=
  ⟨h.row.below hb, fun g hg => (h.sin g hg).below hb, (h.byts.below hb).more hb.size⟩
set_option maxHeartbeats 16000000 in
theorem back_any (l : List Sg) (A : Option Addr) (c n : Nat) (b : List UInt8) (A0 : Option Addr) (n0 c0 : Nat) (w : World) (hn : l.length = n) (h : InAt l A b A0 n0 w) (hlen : n ≤ 9223372036854775807) (hlen0 : n0 ≤ 9223372036854775807) :
    Calls Try.prog 4 #[.slice A n c, .slice A0 n0 c0] w (EndsB (.bool true) w) := by
  have CL := Lib.hid (light_any l A c n w hn h.row hlen)
  have HD : Hid (∀ w', Below w.heap.size w w' → Row 3 sgC w' A l ∧ (∀ g ∈ l, SgIn w' g) ∧ Byts w' w'.heap.size A0 n0 b) := Lib.hid (fun w' hb => ⟨(h.below hb).row, (h.below hb).sin, (h.below hb).byts⟩)
  have CE : Hid (∀ w1, Below w.heap.size w w1 → Calls Try.prog 7 #[.slice A n c] w1 (Encd (encV (l.map coreG)) (encN (l.map coreG)) w1)) := Lib.hid (fun w1 hb => encode_any l A c n w1 hn (h.below hb).row (h.below hb).sin hlen)
  have HN := Lib.hid hn
  clear h hn
  go_enter Try.func4, Try.ntmps4
  go_wp2_with fail
  refine CL.out.mono ?_
  rintro e w' ⟨t, rfl, ht, rfl⟩
  clear CL
  cases t with
  | false =>
    clear ht
    go_wp2_with (go_at_call 6; refine (knows_any _).mono ?_; rintro e w1 ⟨rfl, hb1⟩; have HB1 := Lib.hid hb1; clear hb1)
    go_ret
    exact ends_bool (by rfl) HB1.out
  | true =>
    have HLT := Lib.hid (ht rfl)
    clear ht
    by_cases h0 : 1000 < n0
    · have e0 : decide ((1000 : Int) < (n0 : Int)) = true := by simp; omega
      go_wp2_with (go_at_call 6; refine (knows_any _).mono ?_; rintro e w1 ⟨rfl, hb1⟩; have HB1 := Lib.hid hb1; clear hb1)
      go_ret
      exact ends_bool (by rfl) HB1.out
    · have e0 : decide ((1000 : Int) < (n0 : Int)) = false := by simp; omega
      have CD : Hid (∀ w1, Below w.heap.size w w1 → Calls Try.prog 9 #[.slice A0 n0 c0] w1 (Decd (decP b) w1)) := Lib.hid (fun w1 hb => decode_any b A0 w1.heap.size n0 c0 w1 (HD.out w1 hb).2.2 (Nat.le_refl _) (by omega))
      go_wp2_with (go_at_call 6; refine (knows_any _).mono ?_; rintro e w1 ⟨rfl, hb1⟩; have HB1 := Lib.hid hb1; clear hb1)
      have CE1 := CE.out w1 HB1.out
      rcases Bool.eq_false_or_eq_true (rightL (l.map coreG)) with hR | hR
      · have HDB := Lib.hid (decP_back hR)
        rw [(enc_yes hR).1, (enc_yes hR).2] at CE1
        have CE1 := Lib.hid CE1
        clear hR
        refine CE1.out.mono ?_
        rintro e w2 ⟨A2, n2, c2, rfl, ha2, hl2, hb2⟩
        have HB2 := Lib.hid (HB1.out.trans (hb2.mono HB1.out.size))
        have CD2 := decode_any _ A2 w2.heap.size n2 c2 w2 ha2 (Nat.le_refl _) (by have := ha2.len; omega)
        rw [HDB.out] at CD2
        have CD2 := Lib.hid CD2
        clear ha2 hl2 hb2
        go_wp2_with (go_at_call 11; refine (num_q _ _).mono ?_; rintro e w9 ⟨rfl, rfl⟩)
        refine CD2.out.mono ?_
        rintro e w3 ⟨A3, c3, x, rfl, hx3, hr3, hi3, hs3, hl3, hb3⟩
        have hx3 : x.map coreG = l.map coreG := hx3
        have HB3 := Lib.hid (HB2.out.trans (hb3.mono HB2.out.size))
        have CS := sameSigs_any x l A3 A c3 c w3 hr3 (HD.out w3 HB3.out).1 (by unfold most; omega) hi3 (HD.out w3 HB3.out).2.1
        rw [sameL_core hx3, HN.out] at CS
        have CS := Lib.hid CS
        rw [show decE (some (l.map coreG)) = 0 from rfl]
        generalize x.length = nx at *
        clear hx3 hr3 hi3 hs3 hb3 CE1 CD2
        go_wp2_with (first | (go_at_call 11; refine (num_q _ _).mono ?_; rintro e w9 ⟨rfl, rfl⟩) | (go_at_call 12; refine CS.out.mono ?_; rintro e w4 ⟨rfl, m4, hm4⟩; have HB4 := Lib.hid (hm4 ▸ HB3.out.trans ((Tre.below_drewN w3 m4).mono HB3.out.size)); clear hm4))
        have CD5 := Lib.hid (CD.out _ HB4.out)
        cases hd : decP b with
        | none =>
          rw [hd] at CD5
          clear hd
          go_wp2_with (go_at_call 11; refine (num_q _ _).mono ?_; rintro e w9 ⟨rfl, rfl⟩)
          refine CD5.out.mono ?_
          rintro e w5 ⟨A5, c5, y, rfl, hy5, hr5, hi5, hs5, hl5, hb5⟩
          have HB5 := Lib.hid (HB4.out.trans (hb5.mono HB4.out.size))
          have hy0 : y = [] := List.map_eq_nil_iff.1 hy5
          subst hy0
          rw [show decE (none : Option (List Sp)) = 5 from rfl, show ([] : List Sg).length = 0 from rfl]
          clear hy5 hr5 hi5 hs5 hl5 hb5
          go_wp2_with (go_at_call 11; refine (num_q _ _).mono ?_; rintro e w9 ⟨rfl, rfl⟩)
          go_ret
          exact ends_bool (by rfl) HB5.out
        | some L2 =>
          have hds := decP_some hd
          rw [hd] at CD5
          clear hd
          go_wp2_with (go_at_call 11; refine (num_q _ _).mono ?_; rintro e w9 ⟨rfl, rfl⟩)
          refine CD5.out.mono ?_
          rintro e w5 ⟨A5, c5, y, rfl, hy5, hr5, hi5, hs5, hl5, hb5⟩
          have hy5 : y.map coreG = L2 := hy5
          subst hy5
          have HB5 := Lib.hid (HB4.out.trans (hb5.mono HB4.out.size))
          have CE5 := encode_any y A5 c5 _ w5 rfl hr5 hi5 (by omega)
          rw [(enc_yes hds.1).1, (enc_yes hds.1).2, hds.2] at CE5
          have CR5 : Hid (∀ w6, Below w5.heap.size w5 w6 → Calls Try.prog 13 #[.slice A5 y.length c5] w6 (EndsB (.bool true) w6)) := Lib.hid (fun w6 h => by
            have := right_any y A5 c5 _ w6 rfl (hr5.below h) (fun g hg => (hi5 g hg).below h) (by omega)
            rwa [hds.1] at this)
          rw [show decE (some (y.map coreG)) = 0 from rfl]
          generalize y.length = ny at *
          have CE5 := Lib.hid CE5
          clear hr5 hi5 hs5 hb5 hds
          go_wp2_with (go_at_call 11; refine (num_q _ _).mono ?_; rintro e w9 ⟨rfl, rfl⟩)
          refine CE5.out.mono ?_
          rintro e w6 ⟨A6, n6, c6, rfl, hb6, hl6, hB6⟩
          have HB6 := Lib.hid (HB5.out.trans (hB6.mono HB5.out.size))
          have hcv6 := Cod.run_string_of w6 _ n6 c6 A6 b hb6
          have hcv0 := Cod.run_string_of w6 _ n0 c0 A0 b ((HD.out w6 HB6.out).2.2)
          have CR6 := Lib.hid (CR5.out w6 hB6)
          clear hb6 hl6 hB6
          go_wp2_with (first | (go_at_call 11; refine (num_q _ _).mono ?_; rintro e w9 ⟨rfl, rfl⟩) | (go_at_call 13; refine CR6.out.mono ?_; rintro e w7 ⟨rfl, hb7⟩; have HB7 := Lib.hid (HB6.out.trans (hb7.mono HB6.out.size)); clear hb7))
          go_ret
          exact ends_bool (by rfl) HB7.out
      · rw [(enc_no hR).1, (enc_no hR).2] at CE1
        have CE1 := Lib.hid CE1
        clear hR
        refine CE1.out.mono ?_
        rintro e w2 ⟨A2, n2, c2, rfl, ha2, hl2, hb2⟩
        have HB2 := Lib.hid (HB1.out.trans (hb2.mono HB1.out.size))
        clear ha2 hl2 hb2
        have CD5 := Lib.hid (CD.out _ HB2.out)
        cases hd : decP b with
        | none =>
          rw [hd] at CD5
          clear hd
          go_wp2_with (go_at_call 11; refine (num_q _ _).mono ?_; rintro e w9 ⟨rfl, rfl⟩)
          refine CD5.out.mono ?_
          rintro e w5 ⟨A5, c5, y, rfl, hy5, hr5, hi5, hs5, hl5, hb5⟩
          have HB5 := Lib.hid (HB2.out.trans (hb5.mono HB2.out.size))
          have hy0 : y = [] := List.map_eq_nil_iff.1 hy5
          subst hy0
          rw [show decE (none : Option (List Sp)) = 5 from rfl, show ([] : List Sg).length = 0 from rfl]
          clear hy5 hr5 hi5 hs5 hl5 hb5
          go_wp2_with (go_at_call 11; refine (num_q _ _).mono ?_; rintro e w9 ⟨rfl, rfl⟩)
          go_ret
          exact ends_bool (by rfl) HB5.out
        | some L2 =>
          have hds := decP_some hd
          rw [hd] at CD5
          clear hd
          go_wp2_with (go_at_call 11; refine (num_q _ _).mono ?_; rintro e w9 ⟨rfl, rfl⟩)
          refine CD5.out.mono ?_
          rintro e w5 ⟨A5, c5, y, rfl, hy5, hr5, hi5, hs5, hl5, hb5⟩
          have hy5 : y.map coreG = L2 := hy5
          subst hy5
          have HB5 := Lib.hid (HB2.out.trans (hb5.mono HB2.out.size))
          have CE5 := encode_any y A5 c5 _ w5 rfl hr5 hi5 (by omega)
          rw [(enc_yes hds.1).1, (enc_yes hds.1).2, hds.2] at CE5
          have CR5 : Hid (∀ w6, Below w5.heap.size w5 w6 → Calls Try.prog 13 #[.slice A5 y.length c5] w6 (EndsB (.bool true) w6)) := Lib.hid (fun w6 h => by
            have := right_any y A5 c5 _ w6 rfl (hr5.below h) (fun g hg => (hi5 g hg).below h) (by omega)
            rwa [hds.1] at this)
          rw [show decE (some (y.map coreG)) = 0 from rfl]
          generalize y.length = ny at *
          have CE5 := Lib.hid CE5
          clear hr5 hi5 hs5 hb5 hds
          go_wp2_with (go_at_call 11; refine (num_q _ _).mono ?_; rintro e w9 ⟨rfl, rfl⟩)
          refine CE5.out.mono ?_
          rintro e w6 ⟨A6, n6, c6, rfl, hb6, hl6, hB6⟩
          have HB6 := Lib.hid (HB5.out.trans (hB6.mono HB5.out.size))
          have hcv6 := Cod.run_string_of w6 _ n6 c6 A6 b hb6
          have hcv0 := Cod.run_string_of w6 _ n0 c0 A0 b ((HD.out w6 HB6.out).2.2)
          have CR6 := Lib.hid (CR5.out w6 hB6)
          clear hb6 hl6 hB6
          go_wp2_with (first | (go_at_call 11; refine (num_q _ _).mono ?_; rintro e w9 ⟨rfl, rfl⟩) | (go_at_call 13; refine CR6.out.mono ?_; rintro e w7 ⟨rfl, hb7⟩; have HB7 := Lib.hid (HB6.out.trans (hb7.mono HB6.out.size)); clear hb7))
          go_ret
          exact ends_bool (by rfl) HB7.out
end Go.Proofs.Ytofadlenblobnaa.Exp
