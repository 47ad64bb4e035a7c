/-
  The law that both tell the same, walked. Conditions: list and bytes lie in memory; results are bytes.
-/
import Derived.Test.YtofadlenblobnaaURDc
namespace Go.Proofs.Ytofadlenblobnaa.Exp
open Go.RowKit Codec Typ Tre
open OwnR (OwnG)
open Cod (Byts bytesOf)
set_option maxRecDepth 100000
set_option linter.unusedSimpArgs false
set_option maxHeartbeats 16000000 in
theorem tells_any (l : List Sg) (A : Option Addr) (c n : Nat) (b : List UInt8) (A0 : Option Addr) (n0 c0 : Nat) (w : World) (hn : l.length = n) (h : InAt l A b A0 n0 w) (hr0 : ∀ g ∈ l, 0 ≤ g.r) (hlen : n ≤ 9223372036854775807) (hlen0 : n0 ≤ 9223372036854775807) (hnc : n0 ≤ c0) (hcm : c0 ≤ maxLen) :
    Calls Try.prog 3 #[.slice A n c, .slice A0 n0 c0] w (EndsB (.bool true) w) := by
  have CL := Lib.hid (light_any l A c n w hn h.row hlen)
  have HD : Hid (∀ w', Below w.heap.size w w' → InAt l A b A0 n0 w') := Lib.hid (fun w' hb => h.below hb)
  have HN := Lib.hid hn
  have HR0 := Lib.hid hr0
  have HNC := Lib.hid (And.intro hnc hcm)
  clear h hn hr0 hnc hcm
  go_enter Try.func3, Try.ntmps3
  go_wp2_with fail
  refine CL.out.mono ?_
  rintro e w' ⟨t, rfl, ht, rfl⟩
  clear CL
  cases t with
  | false =>
    clear ht
    go_wp2_with (go_at_call 6; refine (knows_any _).mono ?_; rintro e w1 ⟨rfl, hb1⟩; have HB1 := Lib.hid hb1; clear hb1)
    go_ret
    exact ends_bool (by rfl) HB1.out
  | true =>
    have HLT := Lib.hid (ht rfl)
    clear ht
    by_cases h0 : 1000 < n0
    · have e0 : decide ((1000 : Int) < (n0 : Int)) = true := by simp; omega
      go_wp2_with (go_at_call 6; refine (knows_any _).mono ?_; rintro e w1 ⟨rfl, hb1⟩; have HB1 := Lib.hid hb1; clear hb1)
      go_ret
      exact ends_bool (by rfl) HB1.out
    · have e0 : decide ((1000 : Int) < (n0 : Int)) = false := by simp; omega
      have HSZ : Hid (∀ g ∈ l, g.s.size ≤ 1000000 ∧ 0 ≤ g.r) := Lib.hid (fun g hg => ⟨by have := (HLT.out.all g hg).1; omega, HR0.out g hg⟩)
      have CE := Lib.hid (encode_any l A c n w HN.out (HD.out w (Below.refl _ _)).row (HD.out w (Below.refl _ _)).sin hlen)
      obtain ⟨L, hL⟩ : ∃ L, l.map coreG = L := ⟨_, rfl⟩
      obtain ⟨xs, hxs⟩ : ∃ xs, encV L = xs := ⟨_, rfl⟩
      obtain ⟨er, her⟩ : ∃ er, encN L = er := ⟨_, rfl⟩
      rw [hL, hxs, her] at CE
      have HLX := Lib.hid (And.intro hL (And.intro hxs her))
      clear hL hxs her
      go_wp2_with fail
      refine CE.out.mono ?_
      rintro e w2 ⟨A2, n2, c2, rfl, ha2, hl2, hb2⟩
      have CF := rencode_any l A c n w2 HN.out (HD.out w2 hb2).row (HD.out w2 hb2).sin HSZ.out hlen
      rw [HLX.out.1, HLX.out.2.1, HLX.out.2.2] at CF
      have CF := Lib.hid CF
      have HA2 := Lib.hid ha2
      have HB2 := Lib.hid hb2
      clear ha2 hb2 CE
      go_wp2_with fail
      refine CF.out.mono ?_
      rintro e w3 ⟨A3, n3, c3, rfl, ha3, hl3, hb3⟩
      have HB3 := Lib.hid (HB2.out.trans (hb3.mono HB2.out.size))
      have HA23 := Lib.hid ((HA2.out.below hb3).more hb3.size)
      have HA3 := Lib.hid ha3
      have CG := Lib.hid (decode_any b A0 w3.heap.size n0 c0 w3 (HD.out w3 HB3.out).byts (Nat.le_refl _) (by omega))
      obtain ⟨d, hd⟩ : ∃ d, decP b = d := ⟨_, rfl⟩
      have HDD := Lib.hid hd
      rw [hd] at CG
      clear ha3 hb3 hl3 hl2 CF hd
      go_wp2_with fail
      refine CG.out.mono ?_
      rintro e w4 ⟨A4, c4, x, rfl, hx4, hr4, hi4, hs4, hl4, hb4⟩
      have HB4 := Lib.hid (HB3.out.trans (hb4.mono HB3.out.size))
      have HA24 := Lib.hid ((HA23.out.below hb4).more hb4.size)
      have HA34 := Lib.hid ((HA3.out.below hb4).more hb4.size)
      have CH := rdecode_any b A0 n0 c0 w4 (HD.out w4 HB4.out).byts HNC.out.1 HNC.out.2 (by omega)
      rw [HDD.out] at CH
      have CH := Lib.hid CH
      have HX4 := Lib.hid hx4
      have HR4 := Lib.hid hr4
      have HI4 := Lib.hid hi4
      have HL4 := Lib.hid hl4
      clear hx4 hr4 hi4 hs4 hl4 hb4 CG
      obtain ⟨nx, hnx⟩ : ∃ nx, x.length = nx := ⟨_, rfl⟩
      rw [hnx]
      have HNX := Lib.hid hnx
      clear hnx
      obtain ⟨de, hde⟩ : ∃ de, decE d = de := ⟨_, rfl⟩
      rw [hde]
      have HDE := Lib.hid hde
      clear hde
      go_wp2_with fail
      refine CH.out.mono ?_
      rintro e w5 ⟨A5, c5, y, rfl, hy5, hr5, hi5, hs5, hl5, hb5⟩
      have HB5 := Lib.hid (HB4.out.trans (hb5.mono HB4.out.size))
      have CS := sameSigs_any x y A4 A5 c4 c5 w5 (HR4.out.below hb5) hr5 (by have := HL4.out; unfold most; omega) (fun g hg => (HI4.out g hg).below hb5) hi5
      rw [sameL_core (HX4.out.trans hy5.symm), HNX.out] at CS
      have CS := Lib.hid CS
      have hcv2 := Cod.run_string_of w5 _ n2 c2 A2 xs (HA24.out.below hb5)
      have hcv3 := Cod.run_string_of w5 _ n3 c3 A3 xs (HA34.out.below hb5)
      obtain ⟨Z, hz⟩ : ∃ Z, (⟨xs.toArray⟩ : ByteArray) = Z := ⟨_, rfl⟩
      rw [hz] at hcv2 hcv3
      generalize y.length = ny at *
      rw [HDE.out]
      have CR1 : Hid (∀ u, Below w.heap.size w u → Calls Try.prog 13 #[.slice A n c] u (EndsB (.bool (rightL L)) u)) := Lib.hid (fun u hu => by
        have := right_any l A c n u HN.out (HD.out u hu).row (HD.out u hu).sin hlen
        rwa [HLX.out.1] at this)
      have CR2 : Hid (∀ u, Below w.heap.size w u → Calls Try.prog 14 #[.slice A n c] u (EndsB (.bool (rightL L)) u)) := Lib.hid (fun u hu => by
        have := rright_any l A c n u HN.out (HD.out u hu).row (HD.out u hu).sin HSZ.out hlen
        rwa [HLX.out.1] at this)
      generalize rightL L = R at *
      clear hz hy5 hr5 hi5 hs5 hb5 CH
      go_wp2_with (first | (go_at_call 11; refine (num_q _ _).mono ?_; rintro e w9 ⟨rfl, rfl⟩) | (go_at_call 12; refine CS.out.mono ?_; rintro e w6 ⟨rfl, m6, hm6⟩; have HB6 := Lib.hid (hm6 ▸ HB5.out.trans ((Tre.below_drewN w5 m6).mono HB5.out.size)); have CR16 := CR1.out w6 HB6.out; clear hm6) | (go_at_call 13; refine CR16.mono ?_; rintro e w7 ⟨rfl, hb7⟩; have HB7 := Lib.hid (HB6.out.trans (hb7.mono HB6.out.size)); have CR27 := CR2.out w7 HB7.out; clear hb7) | (go_at_call 14; refine CR27.mono ?_; rintro e w8 ⟨rfl, hb8⟩; have HB8 := Lib.hid (HB7.out.trans (hb8.mono HB7.out.size)); clear hb8) | (go_at_call 6; refine (knows_any _).mono ?_; rintro e w10 ⟨rfl, hb10⟩; have HB10 := Lib.hid (HB8.out.trans (hb10.mono HB8.out.size)); clear hb10))
      go_ret
      exact ends_bool (by rfl) HB10.out
end Go.Proofs.Ytofadlenblobnaa.Exp
