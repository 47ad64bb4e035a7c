/-
  The walk of CodecReads: true, for every slice of bytes and every slice of items. Conditions: the slices read as bytes, and as items.
-/
import Derived.Test.YtneipblbbjcmjaaLays
import Derived.Deep.RegionHeld3
import Derived.Deep.DeepCutAuto
import Derived.Deep.CutBlock
namespace Go.Proofs.Ytneipblbbjcmjaa
open Go.RowKit Codec
attribute [local go_sem ↓] Go.wp_at_zero Go.wp_at_succ
/-- Both Readers have read alike. -/
def Both (w : World) (B1 g1 B2 g2 : Nat) (wc : World) : Prop := ∃ s, Rdr 59 wc B1 g1 s ∧ Rdr 37 wc B2 g2 s ∧ Below w.heap.size w wc
/-- Where they lie: what the document's one reads lies below all that the call made. -/
structure Lie (w : World) (B1 g1 B2 g2 : Nat) : Prop where
  b1 : w.heap.size ≤ B1
  bg : B1 ≤ g1
  gg : g1 < g2
  b2 : B2 ≤ w.heap.size
theorem Lie.first {w wc w1 : World} {B1 g1 B2 g2 : Nat} {s : St} (L : Lie w B1 g1 B2 g2) (h37 : Rdr 37 wc B2 g2 s) (hb : Below w.heap.size w wc) (hg : wc.grownBy w1 (some g1)) :
    Rdr 37 w1 B2 g2 s ∧ Below w.heap.size w w1 :=
  ⟨h37.grown hg (by have := L.b1; have := L.bg; have := L.b2; omega) (by have := L.gg; omega), hb.trans (grown_below hg w.heap.size (by have := L.b1; have := L.bg; omega) (by have := hb.size; omega))⟩
theorem Lie.second {w wc w1 : World} {B1 g1 B2 g2 : Nat} {s : St} (L : Lie w B1 g1 B2 g2) (h59 : Rdr 59 wc B1 g1 s) (hb : Below w.heap.size w wc) (hg : wc.grownBy w1 (some g2)) :
    Rdr 59 w1 B1 g1 s ∧ Below w.heap.size w w1 :=
  ⟨h59.grown hg (by have := L.gg; have := L.bg; omega) (by have := L.gg; omega), hb.trans (grown_below hg w.heap.size (by have := L.b1; have := L.bg; have := L.gg; omega) (by have := hb.size; omega))⟩
theorem both_start {w w2 : World} {B1 g1 nb cb : Nat} {Ab : Option Addr} {bs : List UInt8} (hr : Rdr 59 w2 B1 g1 ⟨bs, false⟩) (hb : Below w.heap.size w w2) (h0 : Byts w w.heap.size Ab nb bs) (hnb : nb ≤ cb) (hcb : cb ≤ maxLen) (hn : nb ≤ 1000000000) :
    Both w B1 g1 w.heap.size w2.heap.size (w2.alloc (.cells #[.slice Ab nb cb, .bool false] 37)) :=
  ⟨⟨bs, false⟩, hr.below ((Below.refl _ w2).alloc (Nat.le_refl _) _), ⟨goodOk _, hb.size, Ab, nb, cb, heap_alloc_new w2 _, (h0.below hb).alloc hb.size _, hnb, hcb, hn⟩, hb.alloc hb.size _⟩
theorem Rdr.drew {T : TypeId} {w : World} {B g : Nat} {s : St} (h : Rdr T w B g s) : Rdr T w.drew B g s := h.keep (fun _ _ => rfl) rfl
theorem count_small (s : St) : count 65535 s = small s ∧ countS 65535 s = tkS 2 s := by
  have h := small_lt s
  have ho : over 65535 s = false := by unfold over; rw [decide_eq_false_iff_not]; omega
  unfold count countS
  rw [ho]
  exact ⟨rfl, rfl⟩
theorem quiet_left {P : Program} {f : FuncId} {args : Array Value} {w : World} {n : Nat} {v : Value}
    (h : Calls P f args (w.drewN n) fun e w' => e = .returned v ∧ w.drewN n = w') : Calls P f args (w.drewN n) fun e w'' => e = .returned v ∧ ∃ m, w'' = w.drewN m :=
  h.mono fun _ _ ⟨he, hm⟩ => ⟨he, n, hm.symm⟩
theorem quiet_at {P : Program} {f : FuncId} {args : Array Value} {w : World} {v : Value} (h : ∀ m, Calls P f args (w.drewN m) fun e w' => e = .returned v ∧ w.drewN m = w') (n : Nat) :
    Calls P f args (w.drewN n) fun e w'' => e = .returned v ∧ ∃ m, w'' = w.drewN m := quiet_left (h n)
set_option maxRecDepth 100000 in
set_option maxHeartbeats 8000000 in
theorem reads_any (w : World) (nb cb n c : Nat) (Ab A : Option Addr) (bs : List UInt8) (l : List It) (hb0 : Byts w w.heap.size Ab nb bs) (hnb : nb ≤ cb) (hcb : cb ≤ maxLen) (hl : Items w w.heap.size A n l) (hn : n ≤ 9223372036854775807) :
    Calls Try.prog 4 #[.slice Ab nb cb, .slice A n c] w (EndsBelow (.bool true) w) := by
  have hcb2 : cb ≤ 9223372036854775807 := hcb
  have hN := Lib.hid hcb
  clear hcb
  by_cases h4 : 4000 < nb
  · clear hb0 hl
    go_enter Try.func4, Try.ntmps4
    go_wp2_with fail
    refine (knows_any _).mono ?_
    rintro e w2 ⟨rfl, hb⟩
    go_wp2_with fail
    go_ret
    exact ⟨rfl, hb⟩
  · have HF := Lib.hid (few_any w w.heap.size n c A l hl hn)
    cases hf : fewB l
    · rw [hf] at HF
      have hd4 : decide (4000 < (nb : Int)) = false := by simp; omega
      clear hl hf hb0
      go_enter Try.func4, Try.ntmps4
      go_wp2_with fail
      refine HF.out.mono ?_
      rintro e w1 ⟨rfl, rfl⟩
      go_wp2_with fail
      refine (knows_any _).mono ?_
      rintro e w2 ⟨rfl, hb⟩
      go_wp2_with fail
      go_ret
      exact ⟨rfl, hb⟩
    · rw [hf] at HF
      have HL := Lib.hid hl
      have HN := Lib.hid hl.len
      have hn1 : n ≤ 100 := by have := (of_few hf).1; rw [hl.len] at this; exact this
      have HB0 := Lib.hid hb0
      have hd4 : decide (4000 < (nb : Int)) = false := by simp; omega
      clear hl hf hb0
      go_enter Try.func4, Try.ntmps4
      go_wp2_with fail
      refine HF.out.mono ?_
      rintro e w1 ⟨rfl, rfl⟩
      go_wp2_with fail
      refine (knows_any _).mono ?_
      rintro e w1 ⟨rfl, hb⟩
      have HR := Lib.hid (read_any w1 w.heap.size nb cb Ab bs (HB0.out.below hb) hb.size (by omega))
      have HBel := Lib.hid hb
      clear hb
      go_wp2_with fail
      refine HR.out.mono ?_
      rintro e w2 ⟨B1, g1, rfl, hr, hB1, hb⟩
      have HR1 := Lib.hid hr
      have HB2 := Lib.hid (HBel.out.trans (hb.mono HBel.out.size))
      have HLie : Hid (Lie w B1 g1 w.heap.size w2.heap.size) := Lib.hid ⟨by have := HBel.out.size; omega, hr.2.1, hr.lt, Nat.le_refl _⟩
      clear hr hb HR HBel hB1
      go_wp2_with fail
      have HS := Lib.hid (both_start HR1.out HB2.out HB0.out hnb hN.out (by omega))
      clear HR1 HB2 HB0
      go_loopw [7] (fun i wr => ∃ k : Nat, k ≤ n ∧ i = .int .i64 k ∧ Both w B1 g1 w.heap.size w2.heap.size wr) (fun i _ => n - (intOf i).toNat)
      case atStart => exact ⟨0, by omega, rfl, HS.out⟩
      case round =>
        obtain ⟨k, hk, rfl, hboth⟩ := hrel
        have HBO := Lib.hid hboth
        clear hboth HS
        by_cases hlt : k < n
        · obtain ⟨b, off, hA, hbw, hc⟩ := HL.out.at_ (by omega)
          have HIT := Lib.hid (fun wc (h : Below w.heap.size w wc) => show wc.cell? ⟨b, off + k * 3, none⟩ = some (.int .i64 (l.getD k noIt).kind) ∧ wc.cell? ⟨b, off + k * 3 + 1, none⟩ = some (.int .i64 (l.getD k noIt).n) from by
            rw [h.cell (p := ⟨b, off + k * 3, none⟩) hbw, h.cell (p := ⟨b, off + k * 3 + 1, none⟩) hbw]
            exact ⟨(hc k hlt).1, (hc k hlt).2.1⟩)
          have hk0 : (0 : Int) ≤ (k : Int) := Int.natCast_nonneg _
          have hk1 : (k : Int) < (n : Int) := by omega
          subst hA
          clear hc HL
          generalize (l.getD k noIt).kind = kd at *
          generalize (l.getD k noIt).n = nn at *
          generalize w2.heap.size = g2 at *
          obtain ⟨s, h59, h37, hbel⟩ := HBO.out
          obtain ⟨c0, c1⟩ := HIT.out wr hbel
          have H59 := Lib.hid h59
          have H37 := Lib.hid h37
          have HBel := Lib.hid hbel
          clear h59 h37 hbel HBO HF
          go_upto_block 2 with fail
          go_cut [8] (fun s8 wc => s8 = .bool true ∧ Both w B1 g1 w.heap.size g2 wc)
          case first =>
            rcases (show kd = 0 ∨ kd = 1 ∨ kd = 2 ∨ kd = 3 ∨ kd = 4 ∨ (kd ≠ 0 ∧ kd ≠ 1 ∧ kd ≠ 2 ∧ kd ≠ 3 ∧ kd ≠ 4) by omega) with h0 | h0 | h0 | h0 | h0 | h0
            · subst h0
              go_wp2_with fail
              refine (num_any wr B1 g1 s H59.out).mono ?_
              rintro e w3 ⟨rfl, h59, hg⟩
              obtain ⟨h37, hb⟩ := HLie.out.first H37.out HBel.out hg
              have H59 := Lib.hid h59
              have H37 := Lib.hid h37
              have hc3 := (HIT.out w3 hb).2
              have HBel := Lib.hid hb
              clear h59 h37 hb hg
              go_wp2_with fail
              refine (rnum_any w3 _ g2 s H37.out).mono ?_
              rintro e w4 ⟨rfl, h37, hg⟩
              obtain ⟨h59, hb⟩ := HLie.out.second H59.out HBel.out hg
              have H59 := Lib.hid h59
              have H37 := Lib.hid h37
              have HBel := Lib.hid hb
              clear h59 h37 hb hg
              go_wp2_with fail
              go_meet
              exact ⟨rfl, _, H59.out, H37.out, HBel.out⟩
            · subst h0
              go_wp2_with fail
              have c1d : wr.drew.cell? ⟨b, off + k * 3 + 1, none⟩ = some (.int .i64 nn) := c1
              go_region_held3 (fun w' => w'.cell? ⟨b, off + k * 3 + 1, none⟩ = some (.int .i64 nn)) (first | assumption | go_keep)
                (first
                  | (go_at_call 17; refine (count_any _ B1 g1 nn s (H59.out.drew)).mono ?_; rintro e w3 ⟨rfl, h59, hg⟩; obtain ⟨h37, hb⟩ := HLie.out.first H37.out.drew HBel.out.drew hg; have H59 := Lib.hid h59; have H37 := Lib.hid h37; have hc3 := (HIT.out w3 hb).2; have hc9 := (HIT.out _ hb).2; have HBel := Lib.hid hb; clear h59 h37 hb hg)
                  | (go_at_call 18; refine (rcount_any _ _ g2 nn s H37.out).mono ?_; rintro e w4 ⟨rfl, h37, hg⟩; obtain ⟨h59, hb⟩ := HLie.out.second H59.out HBel.out hg; have H59 := Lib.hid h59; have H37 := Lib.hid h37; have hc9 := (HIT.out _ hb).2; have HBel := Lib.hid hb; clear h59 h37 hb hg))
              all_goals
                go_wp2_with fail
                go_meet
                exact ⟨rfl, _, H59.out, H37.out, HBel.out⟩
            · subst h0
              go_wp2_with fail
              have c1d : wr.drew.cell? ⟨b, off + k * 3 + 1, none⟩ = some (.int .i64 nn) := c1
              go_region_held3 (fun w' => w'.cell? ⟨b, off + k * 3 + 1, none⟩ = some (.int .i64 nn)) (first | assumption | go_keep)
                (first
                  | (go_at_call 19; refine (text_any _ B1 g1 nn s (H59.out.drew)).mono ?_; rintro e w3 ⟨rfl, h59, hg⟩; obtain ⟨h37, hb⟩ := HLie.out.first H37.out.drew HBel.out.drew hg; have H59 := Lib.hid h59; have H37 := Lib.hid h37; have hc3 := (HIT.out w3 hb).2; have hc9 := (HIT.out _ hb).2; have HBel := Lib.hid hb; clear h59 h37 hb hg)
                  | (go_at_call 20; refine (rtext_any _ _ g2 nn s H37.out).mono ?_; rintro e w4 ⟨rfl, h37, hg⟩; obtain ⟨h59, hb⟩ := HLie.out.second H59.out HBel.out hg; have H59 := Lib.hid h59; have H37 := Lib.hid h37; have hc9 := (HIT.out _ hb).2; have HBel := Lib.hid hb; clear h59 h37 hb hg))
              all_goals
                go_wp2_with fail
                go_meet
                exact ⟨rfl, _, H59.out, H37.out, HBel.out⟩
            · subst h0
              by_cases hone : nn = 1
              · subst hone
                go_wp2_with fail
                refine (refuse_true wr B1 g1 s H59.out).mono ?_
                rintro e w3 ⟨rfl, h59, hg⟩
                obtain ⟨h37, hb⟩ := HLie.out.first H37.out HBel.out hg
                have hc3 := (HIT.out w3 hb).2
                have H59 := Lib.hid h59
                have HBel := Lib.hid hb
                obtain ⟨_, hB2, A3, n3, c3, hg3, _⟩ := h37
                have HN3 := Lib.hid (Rdr.nils hB2 hg3)
                have e0 : w3.cell? ⟨g2, 0, none⟩ = some (.slice A3 n3 c3) := cell_at hg3 0
                have e1 : w3.cell? ⟨g2, 1, none⟩ = some (.bool s.bad) := cell_at hg3 1
                have e2 := free_at hg3 0
                have e3 := free_at hg3 1
                clear h59 hb hg hg3 hB2
                go_wp2_with fail
                go_meet
                obtain ⟨h59, hb⟩ := HLie.out.second H59.out HBel.out HN3.out.2
                exact ⟨rfl, _, h59, HN3.out.1, hb⟩
              · have d1 : (nn == 1) = false := by simpa using hone
                clear hone
                go_wp2_with fail
                refine (refuse_false wr g1).mono ?_
                rintro e w3 ⟨rfl, rfl⟩
                go_wp2_with fail
                go_meet
                exact ⟨rfl, s, H59.out, H37.out, HBel.out⟩
            · subst h0
              have hcs := count_small s
              go_wp2_with fail
              refine (small_any wr B1 g1 s H59.out).mono ?_
              rintro e w3 ⟨rfl, h59, hg⟩
              obtain ⟨h37, hb⟩ := HLie.out.first H37.out HBel.out hg
              have H59 := Lib.hid h59
              have H37 := Lib.hid h37
              have hc3 := (HIT.out w3 hb).2
              have HBel := Lib.hid hb
              clear h59 h37 hb hg
              have HC := Lib.hid (rcount_any w3 _ g2 65535 s H37.out)
              rw [hcs.1, hcs.2] at HC
              clear hcs
              go_wp2_with fail
              refine HC.out.mono ?_
              rintro e w4 ⟨rfl, h37, hg⟩
              obtain ⟨h59, hb⟩ := HLie.out.second H59.out HBel.out hg
              have H59 := Lib.hid h59
              have H37 := Lib.hid h37
              have HBel := Lib.hid hb
              clear h59 h37 hb hg
              go_wp2_with fail
              go_meet
              exact ⟨rfl, _, H59.out, H37.out, HBel.out⟩
            · obtain ⟨k0, k1, k2, k3, k4⟩ := h0
              have d0 : (kd == 0) = false := by simpa using k0
              have d1 : (kd == 1) = false := by simpa using k1
              have d2 : (kd == 2) = false := by simpa using k2
              have d3 : (kd == 3) = false := by simpa using k3
              have d4 : (kd == 4) = false := by simpa using k4
              clear k0 k1 k2 k3 k4
              go_wp2_with fail
              go_meet
              exact ⟨rfl, s, H59.out, H37.out, HBel.out⟩
          case rest =>
            obtain ⟨rfl, s2, h59, h37, hb⟩ := hcut
            have G1 := Lib.hid (fun m => good_any (wc.drewN m) B1 g1 s2 (h59.drewN m))
            have G2 := Lib.hid (fun m => left_any (wc.drewN m) B1 g1 s2 (h59.drewN m))
            have G3 := Lib.hid (fun m => end_any (wc.drewN m) B1 g1 s2 (h59.drewN m))
            have HBO := Lib.hid (fun m => (⟨s2, h59.drewN m, h37.drewN m, ⟨hb.os, hb.tape, hb.output, hb.size, hb.block⟩⟩ : Both w B1 g1 w.heap.size g2 (wc.drewN m)))
            obtain ⟨hok, _, A3, n3, c3, hg3, hb3, _⟩ := h37
            have hl3 := hb3.len
            have e0 : wc.cell? ⟨g2, 0, none⟩ = some (.slice A3 n3 c3) := cell_at hg3 0
            have e1 : wc.cell? ⟨g2, 1, none⟩ = some (.bool s2.bad) := cell_at hg3 1
            unfold endB at G3
            rw [hl3] at G2 G3
            clear h59 hb hg3 hb3 H59 H37 HBel hl3
            generalize s2.bad = bd at *
            cases bd
            · by_cases h0 : n3 = 0
              · subst h0
                go_wp2_with fail
                go_quiet ((first | (go_at_call 23; exact quiet_at G1.out _) | (go_at_call 24; exact quiet_at G2.out _) | (go_at_call 25; exact quiet_at G3.out _)))
                go_wp2_with fail
                go_roundw
                case rel => exact ⟨k + 1, by omega, by go_num, HBO.out _⟩
                case measure => simp [intOf]; omega
              · have z1 : ((n3 : Int) == 0) = false := by simp; omega
                have z2 : Hid (decide (n3 = 0) = false) := Lib.hid (by simpa using h0)
                rw [z2.out] at G3
                clear z2 h0
                go_wp2_with fail
                go_quiet ((first | (go_at_call 23; exact quiet_at G1.out _) | (go_at_call 24; exact quiet_at G2.out _) | (go_at_call 25; exact quiet_at G3.out _)))
                go_wp2_with fail
                go_roundw
                case rel => exact ⟨k + 1, by omega, by go_num, HBO.out _⟩
                case measure => simp [intOf]; omega
            · go_wp2_with fail
              go_quiet ((first | (go_at_call 23; exact quiet_at G1.out _) | (go_at_call 24; exact quiet_at G2.out _) | (go_at_call 25; exact quiet_at G3.out _)))
              go_wp2_with fail
              go_roundw
              case rel => exact ⟨k + 1, by omega, by go_num, HBO.out _⟩
              case measure => simp [intOf]; omega
        · obtain rfl : k = n := by omega
          go_wp2_with fail
          go_ret
          obtain ⟨s, _, _, hb⟩ := HBO.out
          exact ⟨rfl, hb⟩
end Go.Proofs.Ytneipblbbjcmjaa
