/-
  Texts KWh, KTop, in one file. What each proves, and its conditions, stand at its head below.
-/
import Derived.Test.YtdjhlhellkajfaaGreatQ35
import Derived.Test.YtdjhlhellkajfaaGreatQ36
import Derived.Test.YtdjhlhellkajfaaGreatQ38
import Derived.Deep.DeepCutAuto
import Derived.Deep.CutBlock
/-
  The walk of the stage's theorem: behind any crash each entry that a Put was answered OK is there, unless it went since; the one that was on its way is there or not. Conditions: the acts lie where they came in.
-/
namespace Go.Proofs.YtdjhlhellkajfaaGreat.Cch
open Go.RowKit Codec Cod
open Disk (Turn Dk Dsk ptr)
open JourM (Jr appE appD appJ takes takes1 room Still)
open Jou (Jn It low_turn)
set_option maxRecDepth 100000
def Lp (w wr : World) (h g gs gm K : Nat) (p : Value) : Prop :=
  ∃ c lo b lj j v d gs0 N last, p = .pointer (some ⟨c, 0, none⟩) ∧ Ch wr c lo b lj j g gs gm d ⟨1, gs0, false⟩ v N last 0 ∧ JourM.Rest d ⟨1, gs0, false⟩ ∧ d.n = 4000 ∧ HasM wr h (ents N) ∧ St K gs0 (ents N) ∧ last ≤ 25 * K ∧ h ≠ b ∧
    (w.heap.size ≤ j ∧ w.heap.size ≤ lo ∧ w.heap.size ≤ c ∧ w.heap.size ≤ b) ∧ Below w.heap.size w wr
def Md (w wc : World) (h g gs gm K : Nat) (p ky wy : Value) (e : Ent) : Prop :=
  ∃ c lo b lj j v d jr N last kk wb, p = .pointer (some ⟨c, 0, none⟩) ∧ ky = .string kk ∧ wy = .bool wb ∧ Ch wc c lo b lj j g gs gm d jr v N last 0 ∧ d.n = 4000 ∧ HasM wc h (ents N) ∧ last ≤ 25 * (K + 1) ∧ h ≠ b ∧
    (w.heap.size ≤ j ∧ w.heap.size ≤ lo ∧ w.heap.size ≤ c ∧ w.heap.size ≤ b) ∧ Below w.heap.size w wc ∧ (wb = true → kk = e.k) ∧ kk.size ≤ 500 ∧
    (jr.down = false → d.off = false → ∃ gs0, jr = ⟨1, gs0, false⟩ ∧ JourM.Rest d ⟨1, gs0, false⟩ ∧ St (K + 1) gs0 (ents N)) ∧
    ∀ fs, ∃ gs1, JourM.Rest (d.crash fs) ⟨1, gs1, false⟩ ∧ St (K + 1) gs1 (foldE gs1) ∧ ((foldE gs1 = ents N ∧ (wb = true → ∀ f, fnd (ents N) e.k = some f → f.v ≠ e.v)) ∨ (wb = true ∧ foldE gs1 = withE (ents N) e))
theorem Ch.map_lt {w : World} {c lo b lj j g gs gm last : Nat} {d : Dsk} {jr : Jr} {v : Value} {N : List Nmb} {ev : Int} (h : Ch w c lo b lj j g gs gm d jr v N last ev) : b < w.heap.size := h.sh.bk.lt
/-- The law's map turns. -/
theorem Ch.aside {w w' : World} {c lo b lj j g gs gm last hh : Nat} {d : Dsk} {jr : Jr} {v : Value} {N : List Nmb} {ev : Int} {L : List Ent} (h : Ch w c lo b lj j g gs gm d jr v N last ev) (ht : Turn [hh] w w') (H : HasM w hh L) (hb : hh ≠ b) (hg : hh ∉ [g, gs, gm]) : Ch w' c lo b lj j g gs gm d jr v N last ev := by
  obtain ⟨es, cl, hm⟩ := H.at_
  have hcell : ∀ q (cs : Array Value) (T : TypeId) (fr : Nat × Nat), w.heap[q]? = some (.cells cs T fr) → q ≠ hh := fun q cs T fr hq e => by
    rw [e, hm] at hq
    cases hq
  have hown : ∀ k ∈ [hh], k ∉ JOwn j g gs gm v := fun k hk hmem => by
    rw [List.mem_singleton.1 hk] at hmem
    unfold JOwn at hmem
    rcases List.mem_append.1 hmem with e | e
    · rcases List.mem_cons.1 e with e | e
      · exact hcell j _ _ _ h.jn.hd e.symm
      · exact hg e
    · obtain ⟨_, cur, hc⟩ := h.own_type (by simpa using e)
      exact hcell _ _ _ _ hc rfl
  have hjn := jn_turn h.jn ht hown (fun k hk cs fr e => hcell k _ _ _ e (List.mem_singleton.1 hk))
  have hc : w'.heap[c]? = w.heap[c]? := ht.block c h.sh.lt (fun hk => hcell c _ _ _ h.hd (List.mem_singleton.1 hk))
  have hbk : Bk w' lo b N := h.sh.bk.turn2 ht fun k hk => ⟨fun e => hb (by rw [← List.mem_singleton.1 hk, e]), fun e => by
    obtain ⟨_, C, hC⟩ := e
    exact hcell k _ _ _ hC (List.mem_singleton.1 hk)⟩
  exact ⟨hc.trans h.hd, hjn, ⟨(World.cell?_of_block (w := w) hc).trans h.sh.c0, (World.cell?_of_block (w := w) hc).trans h.sh.c1, (Disk.frozen_keep (w := w) hc).trans h.sh.fr, hbk, h.sh.nice, h.sh.pb, h.sh.pl, h.sh.bl⟩, h.cl, Nat.le_trans h.low ht.size⟩
set_option maxHeartbeats 4000000 in
theorem whole_any (w : World) (n cp : Nat) (A : Option Addr) (hacts : Acts w w.heap.size A n) (hn : n ≤ maxLen) :
    Calls Tryz.prog 6 #[.slice A n cp] w (EndsBelow (.bool true) w) := by
  obtain ⟨X, bb, oo, hX⟩ := hacts.fn
  have HX := Lib.hid hX
  have HLI := Lib.hid (light_any w w.heap.size n cp A X bb oo hX hn)
  have HK := Lib.hid (fun u => knows_any u)
  have hni : (n : Int) ≤ 9223372036854775 * 1024 := by unfold maxLen at hn; omega
  have HNI := Lib.hid hni
  clear hacts hX hn hni
  go_enter Tryz.func6, Tryz.ntmps6
  go_wp2_with fail
  refine HLI.out.mono ?_
  rintro e w0 ⟨h0, L, rfl, hL⟩
  replace h0 := h0.symm
  subst h0
  have HL := Lib.hid hL
  clear hL HLI
  cases L with
  | false =>
    go_wp2_with fail
    refine (HK.out _).mono ?_
    rintro e w1 ⟨rfl, hb⟩
    have HB := Lib.hid hb
    clear hb
    go_wp2_with fail
    go_ret
    exact ⟨rfl, HB.out⟩
  | true =>
    go_wp2_with fail
    refine (HK.out _).mono ?_
    rintro e w1 ⟨rfl, hb⟩
    have HB1 := Lib.hid hb
    clear hb HK
    have HN := Lib.hid (Disk.new_disk w1 4000 (by omega) (by omega))
    go_wp2_with fail
    refine HN.out.mono ?_
    rintro e w2 ⟨g, gs, gm, rfl, hdk, ht, g1, g2, g3⟩
    have HB2 := Lib.hid (HB1.out.trans (ht.low (base := w.heap.size) (by simp) HB1.out.size))
    have HG : Hid (w.heap.size ≤ g ∧ w.heap.size ≤ gs ∧ w.heap.size ≤ gm) := Lib.hid (by have := HB1.out.size; omega)
    have HGL : Hid (∀ k ∈ [g, gs, gm], w.heap.size ≤ k) := Lib.hid (by have := HG.out; intro q hq; simp at hq; omega)
    have HGT : Hid (∀ k ∈ [g, gs, gm], k < w2.heap.size) := Lib.hid (Jou.Dk.lows hdk)
    have HO := Lib.hid (fresh4000 w2 g gs gm hdk)
    clear hdk ht g1 g2 g3 HN HB1
    unfold ptr at *
    go_wp2_with fail
    refine HO.out.mono ?_
    rintro e w3 ⟨c, lo, b, lj, j, v, rfl, hc, ht, hl1, hl2, hl3, hl4⟩
    have HB3 := Lib.hid (low_turn HB2.out ht HGL.out)
    have HLO3 : Hid (w.heap.size ≤ j ∧ w.heap.size ≤ lo ∧ w.heap.size ≤ c ∧ w.heap.size ≤ b) := Lib.hid (by have := HB2.out.size; omega)
    have HC3 : Hid (Ch w3 c lo b lj j g gs gm (JourM.openD (Disk.fresh 4000)) ⟨1, [], false⟩ v [] 0 0) := Lib.hid hc
    have HS3 := Lib.hid ht.size
    clear hc ht hl1 hl2 hl3 hl4 HO HB2
    unfold ptr at *
    have hmm := @run_makeMap Tryz.prog
    go_upto_region 7 with (first
  | (go_at_call 40; refine (num7_any _ _).mono ?_; rintro e u ⟨rfl, rfl⟩))
    obtain ⟨h, hh⟩ : ∃ h, w3.heap.size = h := ⟨_, rfl⟩
    have HLP : Hid (Lp w (w3.alloc (.map #[] 0)) h g gs gm 0 (.pointer (some ⟨c, 0, none⟩))) := Lib.hid ⟨c, lo, b, lj, j, v, _, [], [], 0, rfl, HC3.out.below (Frm.alloc_below w3 _), (JourM.fresh_open 4000 (by omega) (by omega)).2.2.1, JourM.openD_n _, by rw [← hh]; exact HasM.new w3, St.nil, by omega, by have := HC3.out.map_lt; omega, HLO3.out, HB3.out.alloc HB3.out.size _⟩
    have HHG : Hid (h ∉ [g, gs, gm]) := Lib.hid (fun hm => by have := HGT.out h hm; have := HS3.out; omega)
    have HHW : Hid (w.heap.size ≤ h) := Lib.hid (by rw [← hh]; exact HB3.out.size)
    clear HC3 HLO3 HB3 HS3 HGT
    go_upto_region 8 with fail
    clear hh
    generalize w3.alloc (.map #[] 0) = w4 at *
    have hn50 : (n : Int) ≤ 50 := by have := (HL.out trivial).1; omega
    go_wp2_with fail
    go_loopw [5, 8] (fun p i wr => ∃ k : Nat, k ≤ n ∧ i = .int .i64 k ∧ Lp w wr h g gs gm k p) (fun _ i _ => n - (Go.RowKit.intOf i).toNat)
    case atStart => exact ⟨0, by omega, rfl, HLP.out⟩
    case round =>
      obtain ⟨k, hk, rfl, hl⟩ := hrel
      clear HLP
      obtain ⟨c, lo, b, lj, j, v, d, gs0, N, last, rfl, hc, hr, hn4, hm, hst, hl, hhb, hlo, hbel⟩ := hl
      by_cases hlt : k < n
      · obtain ⟨hidx0, hin⟩ := HX.out k hlt
        have hidx := fun w' => hidx0 cp w'
        clear hidx0
        have hk50 : (k : Int) < 50 := by omega
        have HK50 : Hid (k < 50) := Lib.hid (by omega)
        obtain ⟨z, hz⟩ : ∃ z, X k = z := ⟨_, rfl⟩
        rw [hz] at hin
        have HSZ : Hid (z.e.k.size ≤ 500 ∧ z.e.v.size ≤ 1000) := Lib.hid (by rw [← hz]; exact (HL.out trivial).2 k hlt)
        clear hz
        have HIN := Lib.hid hin
        clear hin
        have HA := Lib.hid (HIN.out.below hbel)
        have k0 := HA.out.c0
        have k1 := HA.out.c1
        have k2 := HA.out.c2
        have k3 := HA.out.c3
        have k4 := HA.out.c4
        have HC := Lib.hid hc
        have HR := Lib.hid (And.intro hr (And.intro hn4 (And.intro hst hl)))
        have HM := Lib.hid hm
        have HHB := Lib.hid hhb
        have HH2 := Lib.hid hhb
        have HLO := Lib.hid hlo
        have HBEL := Lib.hid hbel
        clear hc hr hn4 hst hl hm hhb hlo hbel HA
        obtain ⟨kd, hkd⟩ : ∃ q, z.kind = q := ⟨_, rfl⟩
        rw [hkd] at k0
        have HKD := Lib.hid hkd
        clear hkd
        go_upto_block 2 with fail
        go_cut [9, 10] (fun ky wy wc => Md w wc h g gs gm k (.pointer (some ⟨c, 0, none⟩)) ky wy z.e)
        case first =>
          rcases (show kd = 0 ∨ kd = 1 ∨ kd = 3 ∨ (kd ≠ 0 ∧ kd ≠ 1 ∧ kd ≠ 3) by omega) with h0 | h0 | h0 | h0
          · as_aux_lemma =>
              subst h0
              go_upto_region 15 with fail
              have HS : Hid (wr.drew.cell? ⟨bb k, oo k + 2, none⟩ = some (.string z.e.k) ∧ wr.drew.cell? ⟨bb k, oo k + 3, none⟩ = some (.string z.e.v)) := Lib.hid ⟨k2, k3⟩
              have HC1 := Lib.hid (HC.out.below (Below.refl wr.heap.size wr).drew)
              have HM1 : Hid (HasM wr.drew h (ents N)) := Lib.hid (HM.out.keep rfl)
              have HBL := Lib.hid HBEL.out.drew
              clear HC HM HBEL k1 k2 k3 k4
              refine Frm.wh_start (fun u => u.cell? ⟨bb k, oo k + 2, none⟩ = some (.string z.e.k) ∧ u.cell? ⟨bb k, oo k + 3, none⟩ = some (.string z.e.v)) (by kernel_rfl) ?_
              generalize wr.drew = u0 at *
              have HP := Lib.hid (cput_law HC1.out HR.out.1 HR.out.2.1 HR.out.2.2.1 (by omega) HR.out.2.2.2 z.e HSZ.out)
              unfold ptr at HP
              refine Frm.wh_take 0 55 (.pointer (some ⟨c, 0, none⟩)) rfl rfl (by kernel_rfl) (fun _ _ _ h => h) rfl (HS.out) (fun w' hw' => ?_) ?_
              · exact rfl
              go_frame
              refine Frm.wh_take 1 56 (.slice A n cp) rfl rfl (by kernel_rfl) (fun _ _ _ h => h) rfl (HS.out) (fun w' hw' => ?_) ?_
              · exact rfl
              go_frame
              refine Frm.wh_take 2 57 (.int .i64 k) rfl rfl (by kernel_rfl) (fun _ _ _ h => h) rfl (HS.out) (fun w' hw' => ?_) ?_
              · exact rfl
              go_frame
              refine Frm.wh_take 3 58 (.pointer (some ⟨bb k, oo k, none⟩)) rfl rfl (by kernel_rfl) (fun _ _ _ h => h) rfl (HS.out) (fun w' hw' => ?_) ?_
              · go_simp
              go_frame
              refine Frm.wh_take 4 59 (.pointer (some ⟨bb k, oo k + 2, none⟩)) rfl rfl (by kernel_rfl) (fun _ _ _ h => h) rfl (HS.out) (fun w' hw' => ?_) ?_
              · go_simp
              go_frame
              refine Frm.wh_take 5 60 (.string z.e.k) rfl rfl (by kernel_rfl) (fun _ _ _ h => h) rfl (HS.out) (fun w' hw' => ?_) ?_
              · have h1 := hw'.1
                go_simp
              go_frame
              refine Frm.wh_take 6 61 (.slice A n cp) rfl rfl (by kernel_rfl) (fun _ _ _ h => h) rfl (HS.out) (fun w' hw' => ?_) ?_
              · exact rfl
              go_frame
              refine Frm.wh_take 7 62 (.int .i64 k) rfl rfl (by kernel_rfl) (fun _ _ _ h => h) rfl (HS.out) (fun w' hw' => ?_) ?_
              · exact rfl
              go_frame
              refine Frm.wh_take 8 63 (.pointer (some ⟨bb k, oo k, none⟩)) rfl rfl (by kernel_rfl) (fun _ _ _ h => h) rfl (HS.out) (fun w' hw' => ?_) ?_
              · go_simp
              go_frame
              refine Frm.wh_take 9 64 (.pointer (some ⟨bb k, oo k + 3, none⟩)) rfl rfl (by kernel_rfl) (fun _ _ _ h => h) rfl (HS.out) (fun w' hw' => ?_) ?_
              · go_simp
              go_frame
              refine Frm.wh_take 10 65 (.string z.e.v) rfl rfl (by kernel_rfl) (fun _ _ _ h => h) rfl (HS.out) (fun w' hw' => ?_) ?_
              · have h1 := hw'.2
                go_simp
              go_frame
              refine Frm.wh_call 11 66 41 #[.pointer (some ⟨c, 0, none⟩), .string z.e.k, .string z.e.v] rfl rfl (by kernel_rfl) rfl ?_ ?_
              · go_simp
              refine (HP.out).mono ?_
              rintro e w1 ⟨y, v1, d1, jr1, N1, last1, rfl, hc1, hf1, hn1, hl1, hcase⟩
              have HM2 := Lib.hid (has_kept HC1.out HM1.out hf1 HHB.out HHG.out)
              have HB2 := Lib.hid (HBL.out.trans (hf1.low HBL.out.size HLO.out.2 (HC1.out.lows_ HLO.out.1 HG.out)))
              have HPD := Lib.hid (nice_ents HC1.out.sh.nice)
              have HLEN := Lib.hid HR.out.2.2.1.len.2
              have HC2 := Lib.hid hc1
              have HN2 := Lib.hid (And.intro hn1 hl1)
              have HA2 := Lib.hid (HIN.out.below HB2.out)
              have HSN := Lib.hid (And.intro HA2.out.c2 HA2.out.c3)
              clear HS hc1 hf1 hn1 hl1 HP HC1 HM1 HBL HR
              have HS := HSN
              clear HSN
              refine ⟨_, rfl, HS.out, ?_⟩
              go_frame
              refine Frm.wh_call 12 67 40 #[.int .i64 y] rfl rfl (by kernel_rfl) rfl ?_ ?_
              · go_simp
              refine (num7_any _ _).mono ?_
              rintro e u ⟨rfl, rfl⟩
              refine ⟨_, rfl, HS.out, ?_⟩
              go_frame
              refine Frm.wh_take 13 11 (.int .i64 y) rfl rfl (by kernel_rfl) (fun _ _ _ h => h) rfl (HS.out) (fun w' hw' => ?_) ?_
              · exact rfl
              go_frame
              refine wpAnyH_done (by kernel_rfl) ?_ _
              have k2 := HA2.out.c2
              have k3 := HA2.out.c3
              rcases hcase with ⟨rfl, gs1, rfl, hr1, hst1, hal1⟩ | ⟨rfl, rfl, hdn1, hfl1, hne1⟩
              · have HST1 := Lib.hid (And.intro hr1 hst1)
                have HAL1 := Lib.hid hal1
                have hdd : ∀ u : World, (u.heap[h]? = w1.heap[h]?) → HasM u h (ents N) := fun u hu => HM2.out.keep hu
                have HMD := Lib.hid hdd
                clear hr1 hst1 hal1 hdd
                go_upto_region 16 with fail
                go_upto_region 19 with (first
  | (go_at_call 40; refine (num7_any _ _).mono ?_; rintro e u ⟨rfl, rfl⟩))
                have HSD : Hid (w1.drew.cell? ⟨bb k, oo k + 2, none⟩ = some (.string z.e.k) ∧ w1.drew.cell? ⟨bb k, oo k + 3, none⟩ = some (.string z.e.v)) := Lib.hid HS.out
                have HCD := Lib.hid (HC2.out.below (Below.refl w1.heap.size w1).drew)
                have HBD := Lib.hid HB2.out.drew
                have HMM := Lib.hid (HMD.out w1.drew rfl)
                clear HS HC2 HB2 HM2 HMD k2 k3
                refine Frm.wh_start (fun u => u.cell? ⟨bb k, oo k + 2, none⟩ = some (.string z.e.k) ∧ u.cell? ⟨bb k, oo k + 3, none⟩ = some (.string z.e.v)) (by kernel_rfl) ?_
                generalize w1.drew = u2 at *
                obtain ⟨w2, hrun, hm2, ht2⟩ := HMM.out.store HPD.out (by have := HLEN.out; omega) z.e (by unfold maxLen; have := HSZ.out; omega)
                have HM3 := Lib.hid (hm2.ext HAL1.out)
                have HB3 := Lib.hid (low_turn HBD.out ht2 (fun q hq => by rw [List.mem_singleton.1 hq]; exact HHW.out))
                have HC3 := Lib.hid (HCD.out.aside ht2 HMM.out HH2.out HHG.out)
                have HA3 := Lib.hid (HIN.out.below HB3.out)
                have HS3 := Lib.hid (And.intro HA3.out.c2 HA3.out.c3)
                clear hm2 ht2 HCD HBD
                refine Frm.wh_take 0 78 (.map (some h)) rfl rfl (by kernel_rfl) (fun _ _ _ h => h) rfl (HSD.out) (fun w' hw' => ?_) ?_
                · exact rfl
                go_frame
                refine Frm.wh_take 1 79 (.slice A n cp) rfl rfl (by kernel_rfl) (fun _ _ _ h => h) rfl (HSD.out) (fun w' hw' => ?_) ?_
                · exact rfl
                go_frame
                refine Frm.wh_take 2 80 (.int .i64 k) rfl rfl (by kernel_rfl) (fun _ _ _ h => h) rfl (HSD.out) (fun w' hw' => ?_) ?_
                · exact rfl
                go_frame
                refine Frm.wh_take 3 81 (.pointer (some ⟨bb k, oo k, none⟩)) rfl rfl (by kernel_rfl) (fun _ _ _ h => h) rfl (HSD.out) (fun w' hw' => ?_) ?_
                · go_simp
                go_frame
                refine Frm.wh_take 4 82 (.pointer (some ⟨bb k, oo k + 2, none⟩)) rfl rfl (by kernel_rfl) (fun _ _ _ h => h) rfl (HSD.out) (fun w' hw' => ?_) ?_
                · go_simp
                go_frame
                refine Frm.wh_take 5 83 (.string z.e.k) rfl rfl (by kernel_rfl) (fun _ _ _ h => h) rfl (HSD.out) (fun w' hw' => ?_) ?_
                · have h1 := hw'.1
                  go_simp
                go_frame
                refine Frm.wh_take 6 84 (.slice A n cp) rfl rfl (by kernel_rfl) (fun _ _ _ h => h) rfl (HSD.out) (fun w' hw' => ?_) ?_
                · exact rfl
                go_frame
                refine Frm.wh_take 7 85 (.int .i64 k) rfl rfl (by kernel_rfl) (fun _ _ _ h => h) rfl (HSD.out) (fun w' hw' => ?_) ?_
                · exact rfl
                go_frame
                refine Frm.wh_take 8 86 (.pointer (some ⟨bb k, oo k, none⟩)) rfl rfl (by kernel_rfl) (fun _ _ _ h => h) rfl (HSD.out) (fun w' hw' => ?_) ?_
                · go_simp
                go_frame
                refine Frm.wh_take 9 87 (.pointer (some ⟨bb k, oo k + 3, none⟩)) rfl rfl (by kernel_rfl) (fun _ _ _ h => h) rfl (HSD.out) (fun w' hw' => ?_) ?_
                · go_simp
                go_frame
                refine Frm.wh_take 10 88 (.string z.e.v) rfl rfl (by kernel_rfl) (fun _ _ _ h => h) rfl (HSD.out) (fun w' hw' => ?_) ?_
                · have h1 := hw'.2
                  go_simp
                go_frame
                refine Frm.wh_store 11 w2 rfl rfl (by kernel_rfl) rfl ?_ HS3.out ?_
                · go_simp
                refine wpAnyH_done (by kernel_rfl) ?_ _
                clear hrun
                go_wp2_with fail
                go_meet
                exact ⟨c, lo, b, lj, j, v1, d1, _, N1, last1, ⟨#[]⟩, false, rfl, rfl, rfl, HC3.out, HN2.out.1, HM3.out, HN2.out.2, HH2.out, HLO.out, HB3.out, by simp, by decide, fun _ _ => ⟨gs1, rfl, HST1.out⟩, fun fs => ⟨gs1, JourM.rest_crash HST1.out.1 fs, by rw [HST1.out.2.is]; exact HST1.out.2, .inl ⟨HST1.out.2.is, fun h => by cases h⟩⟩⟩
              · have HFL1 := Lib.hid (And.intro hdn1 (And.intro hfl1 hne1))
                clear hdn1 hfl1 hne1
                have HTN : Hid (∀ fs, ∃ gs1, JourM.Rest (d1.crash fs) ⟨1, gs1, false⟩ ∧ St (k + 1) gs1 (foldE gs1) ∧ ((foldE gs1 = ents N1 ∧ (true = true → ∀ f, fnd (ents N1) z.e.k = some f → f.v ≠ z.e.v)) ∨ (true = true ∧ foldE gs1 = withE (ents N1) z.e))) := Lib.hid (fun fs => by
                  obtain ⟨gs1, h1, h2, h3⟩ := HFL1.out.2.1 fs
                  refine ⟨gs1, h1, h2, ?_⟩
                  rcases h3 with h3 | h3
                  · exact .inl ⟨h3, fun _ f hf => HFL1.out.2.2 f hf⟩
                  · exact .inr ⟨rfl, h3⟩)
                go_upto_region 16 with fail
                go_wp2_with (first
  | (go_at_call 40; refine (num7_any _ _).mono ?_; rintro e u ⟨rfl, rfl⟩))
                go_meet
                exact ⟨c, lo, b, lj, j, v1, d1, jr1, N1, last1, z.e.k, true, rfl, rfl, rfl, HC2.out, HN2.out.1, HM2.out, HN2.out.2, HHB.out, HLO.out, HB2.out, fun _ => rfl, HSZ.out.1, fun hd => absurd hd (by rw [HFL1.out.1]; decide), by simpa using HTN.out⟩
          · as_aux_lemma =>
              subst h0
              go_upto_region 15 with fail
              have HS : Hid (wr.drew.cell? ⟨bb k, oo k + 2, none⟩ = some (.string z.e.k) ∧ wr.drew.cell? ⟨bb k, oo k + 3, none⟩ = some (.string z.e.v)) := Lib.hid ⟨k2, k3⟩
              have HC1 := Lib.hid (HC.out.below (Below.refl wr.heap.size wr).drew)
              have HM1 : Hid (HasM wr.drew h (ents N)) := Lib.hid (HM.out.keep rfl)
              have HBL := Lib.hid HBEL.out.drew
              clear HC HM HBEL k1 k2 k3 k4
              refine Frm.wh_start (fun u => u.cell? ⟨bb k, oo k + 2, none⟩ = some (.string z.e.k) ∧ u.cell? ⟨bb k, oo k + 3, none⟩ = some (.string z.e.v)) (by kernel_rfl) ?_
              generalize wr.drew = u0 at *
              have HP := Lib.hid (cput_law HC1.out HR.out.1 HR.out.2.1 HR.out.2.2.1 (by omega) HR.out.2.2.2 z.e HSZ.out)
              unfold ptr at HP
              refine Frm.wh_take 0 55 (.pointer (some ⟨c, 0, none⟩)) rfl rfl (by kernel_rfl) (fun _ _ _ h => h) rfl (HS.out) (fun w' hw' => ?_) ?_
              · exact rfl
              go_frame
              refine Frm.wh_take 1 56 (.slice A n cp) rfl rfl (by kernel_rfl) (fun _ _ _ h => h) rfl (HS.out) (fun w' hw' => ?_) ?_
              · exact rfl
              go_frame
              refine Frm.wh_take 2 57 (.int .i64 k) rfl rfl (by kernel_rfl) (fun _ _ _ h => h) rfl (HS.out) (fun w' hw' => ?_) ?_
              · exact rfl
              go_frame
              refine Frm.wh_take 3 58 (.pointer (some ⟨bb k, oo k, none⟩)) rfl rfl (by kernel_rfl) (fun _ _ _ h => h) rfl (HS.out) (fun w' hw' => ?_) ?_
              · go_simp
              go_frame
              refine Frm.wh_take 4 59 (.pointer (some ⟨bb k, oo k + 2, none⟩)) rfl rfl (by kernel_rfl) (fun _ _ _ h => h) rfl (HS.out) (fun w' hw' => ?_) ?_
              · go_simp
              go_frame
              refine Frm.wh_take 5 60 (.string z.e.k) rfl rfl (by kernel_rfl) (fun _ _ _ h => h) rfl (HS.out) (fun w' hw' => ?_) ?_
              · have h1 := hw'.1
                go_simp
              go_frame
              refine Frm.wh_take 6 61 (.slice A n cp) rfl rfl (by kernel_rfl) (fun _ _ _ h => h) rfl (HS.out) (fun w' hw' => ?_) ?_
              · exact rfl
              go_frame
              refine Frm.wh_take 7 62 (.int .i64 k) rfl rfl (by kernel_rfl) (fun _ _ _ h => h) rfl (HS.out) (fun w' hw' => ?_) ?_
              · exact rfl
              go_frame
              refine Frm.wh_take 8 63 (.pointer (some ⟨bb k, oo k, none⟩)) rfl rfl (by kernel_rfl) (fun _ _ _ h => h) rfl (HS.out) (fun w' hw' => ?_) ?_
              · go_simp
              go_frame
              refine Frm.wh_take 9 64 (.pointer (some ⟨bb k, oo k + 3, none⟩)) rfl rfl (by kernel_rfl) (fun _ _ _ h => h) rfl (HS.out) (fun w' hw' => ?_) ?_
              · go_simp
              go_frame
              refine Frm.wh_take 10 65 (.string z.e.v) rfl rfl (by kernel_rfl) (fun _ _ _ h => h) rfl (HS.out) (fun w' hw' => ?_) ?_
              · have h1 := hw'.2
                go_simp
              go_frame
              refine Frm.wh_call 11 66 41 #[.pointer (some ⟨c, 0, none⟩), .string z.e.k, .string z.e.v] rfl rfl (by kernel_rfl) rfl ?_ ?_
              · go_simp
              refine (HP.out).mono ?_
              rintro e w1 ⟨y, v1, d1, jr1, N1, last1, rfl, hc1, hf1, hn1, hl1, hcase⟩
              have HM2 := Lib.hid (has_kept HC1.out HM1.out hf1 HHB.out HHG.out)
              have HB2 := Lib.hid (HBL.out.trans (hf1.low HBL.out.size HLO.out.2 (HC1.out.lows_ HLO.out.1 HG.out)))
              have HPD := Lib.hid (nice_ents HC1.out.sh.nice)
              have HLEN := Lib.hid HR.out.2.2.1.len.2
              have HC2 := Lib.hid hc1
              have HN2 := Lib.hid (And.intro hn1 hl1)
              have HA2 := Lib.hid (HIN.out.below HB2.out)
              have HSN := Lib.hid (And.intro HA2.out.c2 HA2.out.c3)
              clear HS hc1 hf1 hn1 hl1 HP HC1 HM1 HBL HR
              have HS := HSN
              clear HSN
              refine ⟨_, rfl, HS.out, ?_⟩
              go_frame
              refine Frm.wh_call 12 67 40 #[.int .i64 y] rfl rfl (by kernel_rfl) rfl ?_ ?_
              · go_simp
              refine (num7_any _ _).mono ?_
              rintro e u ⟨rfl, rfl⟩
              refine ⟨_, rfl, HS.out, ?_⟩
              go_frame
              refine Frm.wh_take 13 11 (.int .i64 y) rfl rfl (by kernel_rfl) (fun _ _ _ h => h) rfl (HS.out) (fun w' hw' => ?_) ?_
              · exact rfl
              go_frame
              refine wpAnyH_done (by kernel_rfl) ?_ _
              have k2 := HA2.out.c2
              have k3 := HA2.out.c3
              rcases hcase with ⟨rfl, gs1, rfl, hr1, hst1, hal1⟩ | ⟨rfl, rfl, hdn1, hfl1, hne1⟩
              · have HST1 := Lib.hid (And.intro hr1 hst1)
                have HAL1 := Lib.hid hal1
                have hdd : ∀ u : World, (u.heap[h]? = w1.heap[h]?) → HasM u h (ents N) := fun u hu => HM2.out.keep hu
                have HMD := Lib.hid hdd
                clear hr1 hst1 hal1 hdd
                go_upto_region 16 with fail
                go_upto_region 19 with (first
  | (go_at_call 40; refine (num7_any _ _).mono ?_; rintro e u ⟨rfl, rfl⟩))
                have HSD : Hid (w1.drew.cell? ⟨bb k, oo k + 2, none⟩ = some (.string z.e.k) ∧ w1.drew.cell? ⟨bb k, oo k + 3, none⟩ = some (.string z.e.v)) := Lib.hid HS.out
                have HCD := Lib.hid (HC2.out.below (Below.refl w1.heap.size w1).drew)
                have HBD := Lib.hid HB2.out.drew
                have HMM := Lib.hid (HMD.out w1.drew rfl)
                clear HS HC2 HB2 HM2 HMD k2 k3
                refine Frm.wh_start (fun u => u.cell? ⟨bb k, oo k + 2, none⟩ = some (.string z.e.k) ∧ u.cell? ⟨bb k, oo k + 3, none⟩ = some (.string z.e.v)) (by kernel_rfl) ?_
                generalize w1.drew = u2 at *
                obtain ⟨w2, hrun, hm2, ht2⟩ := HMM.out.store HPD.out (by have := HLEN.out; omega) z.e (by unfold maxLen; have := HSZ.out; omega)
                have HM3 := Lib.hid (hm2.ext HAL1.out)
                have HB3 := Lib.hid (low_turn HBD.out ht2 (fun q hq => by rw [List.mem_singleton.1 hq]; exact HHW.out))
                have HC3 := Lib.hid (HCD.out.aside ht2 HMM.out HH2.out HHG.out)
                have HA3 := Lib.hid (HIN.out.below HB3.out)
                have HS3 := Lib.hid (And.intro HA3.out.c2 HA3.out.c3)
                clear hm2 ht2 HCD HBD
                refine Frm.wh_take 0 78 (.map (some h)) rfl rfl (by kernel_rfl) (fun _ _ _ h => h) rfl (HSD.out) (fun w' hw' => ?_) ?_
                · exact rfl
                go_frame
                refine Frm.wh_take 1 79 (.slice A n cp) rfl rfl (by kernel_rfl) (fun _ _ _ h => h) rfl (HSD.out) (fun w' hw' => ?_) ?_
                · exact rfl
                go_frame
                refine Frm.wh_take 2 80 (.int .i64 k) rfl rfl (by kernel_rfl) (fun _ _ _ h => h) rfl (HSD.out) (fun w' hw' => ?_) ?_
                · exact rfl
                go_frame
                refine Frm.wh_take 3 81 (.pointer (some ⟨bb k, oo k, none⟩)) rfl rfl (by kernel_rfl) (fun _ _ _ h => h) rfl (HSD.out) (fun w' hw' => ?_) ?_
                · go_simp
                go_frame
                refine Frm.wh_take 4 82 (.pointer (some ⟨bb k, oo k + 2, none⟩)) rfl rfl (by kernel_rfl) (fun _ _ _ h => h) rfl (HSD.out) (fun w' hw' => ?_) ?_
                · go_simp
                go_frame
                refine Frm.wh_take 5 83 (.string z.e.k) rfl rfl (by kernel_rfl) (fun _ _ _ h => h) rfl (HSD.out) (fun w' hw' => ?_) ?_
                · have h1 := hw'.1
                  go_simp
                go_frame
                refine Frm.wh_take 6 84 (.slice A n cp) rfl rfl (by kernel_rfl) (fun _ _ _ h => h) rfl (HSD.out) (fun w' hw' => ?_) ?_
                · exact rfl
                go_frame
                refine Frm.wh_take 7 85 (.int .i64 k) rfl rfl (by kernel_rfl) (fun _ _ _ h => h) rfl (HSD.out) (fun w' hw' => ?_) ?_
                · exact rfl
                go_frame
                refine Frm.wh_take 8 86 (.pointer (some ⟨bb k, oo k, none⟩)) rfl rfl (by kernel_rfl) (fun _ _ _ h => h) rfl (HSD.out) (fun w' hw' => ?_) ?_
                · go_simp
                go_frame
                refine Frm.wh_take 9 87 (.pointer (some ⟨bb k, oo k + 3, none⟩)) rfl rfl (by kernel_rfl) (fun _ _ _ h => h) rfl (HSD.out) (fun w' hw' => ?_) ?_
                · go_simp
                go_frame
                refine Frm.wh_take 10 88 (.string z.e.v) rfl rfl (by kernel_rfl) (fun _ _ _ h => h) rfl (HSD.out) (fun w' hw' => ?_) ?_
                · have h1 := hw'.2
                  go_simp
                go_frame
                refine Frm.wh_store 11 w2 rfl rfl (by kernel_rfl) rfl ?_ HS3.out ?_
                · go_simp
                refine wpAnyH_done (by kernel_rfl) ?_ _
                clear hrun
                go_wp2_with fail
                go_meet
                exact ⟨c, lo, b, lj, j, v1, d1, _, N1, last1, ⟨#[]⟩, false, rfl, rfl, rfl, HC3.out, HN2.out.1, HM3.out, HN2.out.2, HH2.out, HLO.out, HB3.out, by simp, by decide, fun _ _ => ⟨gs1, rfl, HST1.out⟩, fun fs => ⟨gs1, JourM.rest_crash HST1.out.1 fs, by rw [HST1.out.2.is]; exact HST1.out.2, .inl ⟨HST1.out.2.is, fun h => by cases h⟩⟩⟩
              · have HFL1 := Lib.hid (And.intro hdn1 (And.intro hfl1 hne1))
                clear hdn1 hfl1 hne1
                have HTN : Hid (∀ fs, ∃ gs1, JourM.Rest (d1.crash fs) ⟨1, gs1, false⟩ ∧ St (k + 1) gs1 (foldE gs1) ∧ ((foldE gs1 = ents N1 ∧ (true = true → ∀ f, fnd (ents N1) z.e.k = some f → f.v ≠ z.e.v)) ∨ (true = true ∧ foldE gs1 = withE (ents N1) z.e))) := Lib.hid (fun fs => by
                  obtain ⟨gs1, h1, h2, h3⟩ := HFL1.out.2.1 fs
                  refine ⟨gs1, h1, h2, ?_⟩
                  rcases h3 with h3 | h3
                  · exact .inl ⟨h3, fun _ f hf => HFL1.out.2.2 f hf⟩
                  · exact .inr ⟨rfl, h3⟩)
                go_upto_region 16 with fail
                go_wp2_with (first
  | (go_at_call 40; refine (num7_any _ _).mono ?_; rintro e u ⟨rfl, rfl⟩))
                go_meet
                exact ⟨c, lo, b, lj, j, v1, d1, jr1, N1, last1, z.e.k, true, rfl, rfl, rfl, HC2.out, HN2.out.1, HM2.out, HN2.out.2, HHB.out, HLO.out, HB2.out, fun _ => rfl, HSZ.out.1, fun hd => absurd hd (by rw [HFL1.out.1]; decide), by simpa using HTN.out⟩
          · as_aux_lemma =>
              subst h0
              have HAND := Lib.hid (and_low z.num)
              have HST := Lib.hid (Disk.stop_disk wr g gs gm d (bits .and .i64 z.num 15) HC.out.jn.disk (by have := HAND.out; omega) (by have := HAND.out; omega))
              unfold ptr at HST
              have HSTL : Hid (Still (d.stop (bits .and .i64 z.num 15)) ⟨1, gs0, false⟩) := Lib.hid (HR.out.1.still.stop (by have := HAND.out; omega) (by have := HAND.out; omega))
              go_wp2_with fail
              refine HST.out.mono ?_
              rintro e w1 ⟨rfl, hd1, ht1⟩
              generalize bits .and .i64 z.num 15 = q at *
              have HC1 := Lib.hid (ch_disked HC.out hd1 ht1 rfl)
              have HM1 := Lib.hid (HM.out.keep (ht1.block h HM.out.lt HHG.out))
              have HB1 := Lib.hid (low_turn HBEL.out ht1 HGL.out)
              clear hd1 ht1 HST HC HM HBEL k0 k1 k2 k3 k4
              go_wp2_with fail
              go_meet
              exact ⟨c, lo, b, lj, j, v, _, _, N, last, ⟨#[]⟩, false, rfl, rfl, rfl, HC1.out, HR.out.2.1, HM1.out, by have := HR.out.2.2.2; omega, HHB.out, HLO.out, HB1.out, by simp, by decide, fun _ ho => ⟨gs0, rfl, HSTL.out.rest ho, HR.out.2.2.1.mono (by omega)⟩, fun fs => ⟨gs0, HSTL.out.crash fs, by rw [HR.out.2.2.1.is]; exact HR.out.2.2.1.mono (by omega), .inl ⟨HR.out.2.2.1.is, fun h => by cases h⟩⟩⟩
          · as_aux_lemma =>
              have HC1 := HC
              have HM1 := HM
              have HB1 := HBEL
              have HSTL := Lib.hid HR.out.1.still
              go_wp2_with fail
              go_meet
              exact ⟨c, lo, b, lj, j, v, _, _, N, last, ⟨#[]⟩, false, rfl, rfl, rfl, HC1.out, HR.out.2.1, HM1.out, by have := HR.out.2.2.2; omega, HHB.out, HLO.out, HB1.out, by simp, by decide, fun _ ho => ⟨gs0, rfl, HSTL.out.rest ho, HR.out.2.2.1.mono (by omega)⟩, fun fs => ⟨gs0, HSTL.out.crash fs, by rw [HR.out.2.2.1.is]; exact HR.out.2.2.1.mono (by omega), .inl ⟨HR.out.2.2.1.is, fun h => by cases h⟩⟩⟩
        case rest =>
          obtain ⟨c', lo, b, lj, j, v, d, jr, N, last, kk, wb, hpc, rfl, rfl, hc, hn4, hm, hl2, hhb, hlo, hbel, hkk1, hkk2, hcalm, htorn⟩ := hcut
          injection hpc with hpc
          injection hpc with hpc
          injection hpc with hpc
          subst hpc
          clear HC HR HM HHB HH2 HLO HBEL k0 k1 k2 k3 k4
          have HC := Lib.hid hc
          have HN4 := Lib.hid hn4
          have HM := Lib.hid hm
          have HL2 := Lib.hid hl2
          have HHB := Lib.hid hhb
          have HLO := Lib.hid hlo
          have HBEL := Lib.hid hbel
          have HKK := Lib.hid (And.intro hkk1 hkk2)
          have HCALM := Lib.hid hcalm
          have HTORN := Lib.hid htorn
          have HLEN : Hid ((ents N).length ≤ 100000) := Lib.hid (by
            obtain ⟨g1, _, h2, h3⟩ := htorn []
            have h4 := h2.len.2
            have h5 := HK50.out
            rcases h3 with ⟨h3, _⟩ | ⟨_, h3⟩
            · rw [h3] at h4; omega
            · rw [h3, with_len (nice_ents hc.sh.nice)] at h4; split at h4 <;> omega)
          clear hc hn4 hm hl2 hhb hlo hbel hkk1 hkk2 hcalm htorn
          as_aux_lemma =>
            go_upto_region 23 with fail
            have HDN := Lib.hid (cdown_any HC.out)
            have HDD := Lib.hid (Disk.down_disk wc g gs gm d HC.out.jn.disk)
            unfold ptr at HDN HDD
            have HA := Lib.hid (HIN.out.below HBEL.out)
            have k0 := HA.out.c0
            have k1 := HA.out.c1
            have k2 := HA.out.c2
            have k3 := HA.out.c3
            have k4 := HA.out.c4
            rw [HKD.out] at k0
            obtain ⟨dn, hdn⟩ : ∃ dn, jr.down = dn := ⟨_, rfl⟩
            obtain ⟨of, hof⟩ : ∃ of, d.off = of := ⟨_, rfl⟩
            have HDO := Lib.hid (And.intro hdn hof)
            rw [hdn] at HDN
            rw [hof] at HDD
            clear hdn hof
            by_cases hgo : dn = false ∧ of = false ∧ kd ≠ 4
            · obtain ⟨rfl, rfl, hk4⟩ := hgo
              have hk4b : (kd != 4) = true := by simpa using hk4
              obtain ⟨gs1, hj1, hr1, hst1⟩ := HCALM.out HDO.out.1 HDO.out.2
              subst hj1
              have HR1 := Lib.hid (And.intro hr1 hst1)
              clear hr1 hst1
              go_wp2_with fail
              refine HDN.out.mono ?_
              rintro e u ⟨rfl, rfl⟩
              go_wp2_with fail
              refine HDD.out.mono ?_
              rintro e u ⟨rfl, rfl⟩
              go_wp2_with fail
              go_roundw
              case rel => exact ⟨k + 1, by omega, by go_num, c, lo, b, lj, j, v, d, gs1, N, last, rfl, HC.out, HR1.out.1, HN4.out, HM.out, HR1.out.2, HL2.out, HHB.out, HLO.out, HBEL.out⟩
              case measure => simp [Go.RowKit.intOf]; omega
            · have HCR := Lib.hid (fun u (hd : Dk u g gs gm d) (hu : Below w.heap.size w u) => Disk.crash_disk u g gs gm d hd z.Af z.nf z.cf z.fs (HIN.out.nums.nums hu hu.size (S := [g, gs, gm]) HGL.out))
              unfold ptr at HCR
              obtain ⟨gs1, hr1, hst1, hor⟩ := HTORN.out z.fs
              have HR1 := Lib.hid (And.intro hr1 hst1)
              have HOR := Lib.hid hor
              have HOP := Lib.hid (fun u (hd : Dk u g gs gm (d.crash z.fs)) => copen_any u g gs gm _ _ (Jou.Dk.lows hd) (open_rest u g gs gm _ _ hd hr1 (by show (1 : Nat) < 9223372036854775807; omega)) hst1.un)
              unfold ptr at HOP
              clear hr1 hst1 hor HTORN HCALM
              have HCW := Lib.hid (HCR.out wc HC.out.jn.disk HBEL.out)
              clear HCR
              go_cut [114] (fun x wc2 => x = .bool false ∧ wc2 = wc)
              case first =>
                have hgo2 : dn = true ∨ (dn = false ∧ of = true) ∨ (dn = false ∧ of = false ∧ kd = 4) := by cases dn <;> cases of <;> simp at hgo ⊢ <;> omega
                rcases hgo2 with rfl | ⟨rfl, rfl⟩ | ⟨rfl, rfl, rfl⟩
                · go_wp2_with fail
                  refine HDN.out.mono ?_
                  rintro e u ⟨rfl, rfl⟩
                  go_wp2_with fail
                  go_meet
                  exact ⟨rfl, rfl⟩
                · go_wp2_with fail
                  refine HDN.out.mono ?_
                  rintro e u ⟨rfl, rfl⟩
                  go_wp2_with fail
                  refine HDD.out.mono ?_
                  rintro e u ⟨rfl, rfl⟩
                  go_wp2_with fail
                  go_meet
                  exact ⟨rfl, rfl⟩
                · go_wp2_with fail
                  refine HDN.out.mono ?_
                  rintro e u ⟨rfl, rfl⟩
                  go_wp2_with fail
                  refine HDD.out.mono ?_
                  rintro e u ⟨rfl, rfl⟩
                  go_wp2_with fail
                  go_meet
                  exact ⟨rfl, rfl⟩
              case rest =>
                obtain ⟨rfl, hwc⟩ := hcut
                subst hwc
                go_wp2_with fail
                refine HCW.out.mono ?_
                rintro e w1 ⟨rfl, hd1, ht1⟩
                have HOW := Lib.hid (HOP.out w1 hd1)
                have HB1 := Lib.hid (low_turn HBEL.out ht1 HGL.out)
                have HM1 := Lib.hid (HM.out.keep (ht1.block h HM.out.lt HHG.out))
                have HA1 := Lib.hid (HIN.out.below HB1.out)
                have HPD := Lib.hid (nice_ents HC.out.sh.nice)
                have HLN : Hid ((ents N).length ≤ 100000) := Lib.hid HLEN.out
                clear hd1 ht1 HCW HOP HC HM HBEL HDN HDD HLEN k0 k1 k2 k3 k4 HA
                go_wp2_with fail
                refine HOW.out.mono ?_
                rintro e w2 ⟨c2, lo2, b2, lj2, j2, v2, rfl, hc, ht, hl1, hl2, hl3, hl4⟩
                have HB2 := Lib.hid (low_turn HB1.out ht HGL.out)
                have HM2 := Lib.hid (HM1.out.keep (ht.block h HM1.out.lt HHG.out))
                have HC2 := Lib.hid hc
                have HEN := Lib.hid (ents_opened gs1)
                have HHB2 : Hid (h ≠ b2) := Lib.hid (by have := HM1.out.lt; omega)
                have HLO2 : Hid (w.heap.size ≤ j2 ∧ w.heap.size ≤ lo2 ∧ w.heap.size ≤ c2 ∧ w.heap.size ≤ b2) := Lib.hid (by have := HB1.out.size; omega)
                clear hc ht hl1 hl2 hl3 hl4 HOW HB1 HM1 HA1
                have HN12 : Hid ((laysF (gs1.map unE) gs1.length).length ≤ 1300 ∧ gs1.length ≤ 25 * (k + 1)) := Lib.hid (by have h1 := HR1.out.2.len; have h2 := HEN.out; have h3 : (ents (laysF (gs1.map unE) gs1.length)).length = (laysF (gs1.map unE) gs1.length).length := (by unfold ents; rw [List.length_map]); rw [h2] at h3; omega)
                obtain ⟨N1, hN1⟩ : ∃ N1, laysF (gs1.map unE) gs1.length = N1 := ⟨_, rfl⟩
                rw [hN1] at HC2 HEN HN12
                clear hN1
                have HSH : Hid (∀ x ∈ ents N1, x.k.size ≤ 500 ∧ x.v.size ≤ 1000) := Lib.hid (by rw [HEN.out]; exact HR1.out.2.short)
                have HSV : Hid ((fndE N1 kk).v.size ≤ 1000) := Lib.hid (by
                  cases hf : fnd (ents N1) kk with
                  | none =>
                    have : findN N1 kk = none := by
                      rw [fnd_ents] at hf
                      cases h5 : findN N1 kk with
                      | none => rfl
                      | some x => rw [h5] at hf; cases hf
                    have h6 : fndE N1 kk = ⟨baOf [], baOf []⟩ := by unfold fndE; rw [this]
                    rw [h6]
                    decide
                  | some f =>
                    rw [fndE_of hf]
                    exact (HSH.out f (fnd_mem hf).1).2)
                have HGT := Lib.hid (cget_any HC2.out (by have := HN12.out; omega) kk (by have := HKK.out.2; omega) (by have := HSV.out; omega))
                have HUP : Hid (∀ u, HasM u h (ents N) → ((wb && (fndB N1 kk && decide ((fndE N1 kk).v = z.e.v))) = false → HasM u h (ents N1)) ∧ ((wb && (fndB N1 kk && decide ((fndE N1 kk).v = z.e.v))) = true → kk = z.e.k ∧ ents N1 = withE (ents N) z.e)) := Lib.hid (fun u hu => by
                  rcases HOR.out with ⟨h1, h2⟩ | ⟨h1, h2⟩
                  · have e1 : ents N1 = ents N := HEN.out.trans h1
                    refine ⟨fun _ => by rw [e1]; exact hu, fun ht => ?_⟩
                    simp only [Bool.and_eq_true, decide_eq_true_eq] at ht
                    obtain ⟨t1, t2, t3⟩ := ht
                    rw [fndB_of] at t2
                    obtain ⟨f, hf⟩ := Option.isSome_iff_exists.1 t2
                    rw [fndE_of hf] at t3
                    rw [e1, HKK.out.1 t1] at hf
                    exact absurd t3 (h2 t1 f hf)
                  · have e1 : ents N1 = withE (ents N) z.e := HEN.out.trans h2
                    have e2 := HKK.out.1 h1
                    have hf : fnd (ents N1) kk = some z.e := by rw [e1, fnd_with, if_pos e2]
                    refine ⟨fun hf2 => ?_, fun _ => ⟨e2, e1⟩⟩
                    rw [h1, fndB_of, hf, fndE_of hf] at hf2
                    simp at hf2)
                generalize fndE N1 kk = fe at *
                generalize fndB N1 kk = fb at *
                obtain ⟨fek, fev⟩ := fe
                dsimp only at *
                unfold ptr at HGT
                go_wp2_with (first
  | (go_at_call 40; refine (num7_any _ _).mono ?_; rintro e u ⟨rfl, rfl⟩))
                refine HGT.out.mono ?_
                rintro e w3 ⟨rfl, hb3⟩
                have HB3 := Lib.hid (HB2.out.trans (hb3.mono HB2.out.size))
                have HM3 := Lib.hid (HM2.out.keep (hb3.block h HM2.out.lt))
                have HC3 := Lib.hid (HC2.out.below hb3)
                have HA3 := Lib.hid (HIN.out.below HB3.out)
                clear hb3 HGT HM2 HC2 HB2
                have k3 := HA3.out.c3
                go_upto_region 30 with fail
                obtain ⟨up, hup⟩ : ∃ up, (wb && (fb && decide (fev = z.e.v))) = up := ⟨_, rfl⟩
                have HUQ := Lib.hid hup
                go_cut [149] (fun x wc => x = .bool up ∧ wc = w3)
                case first =>
                  cases wb with
                  | false =>
                    clear hup HUP
                    go_wp2_with fail
                    go_meet
                    exact ⟨by rw [← HUQ.out]; rfl, rfl⟩
                  | true =>
                    cases fb with
                    | false =>
                      clear hup HUP
                      go_wp2_with fail
                      go_meet
                      exact ⟨by rw [← HUQ.out]; rfl, rfl⟩
                    | true =>
                      by_cases hv : fev = z.e.v
                      · clear hup HUP
                        subst hv
                        go_wp2_with fail
                        go_meet
                        exact ⟨by rw [← HUQ.out]; simp, rfl⟩
                      · have HV := Lib.hid hv
                        have hvn := ba_ne hv
                        clear hup HUP hv
                        go_wp2_with fail
                        go_meet
                        exact ⟨by rw [← HUQ.out]; simp [HV.out], rfl⟩
                case rest =>
                  obtain ⟨rfl, rfl⟩ := hcut
                  clear hup k3
                  obtain ⟨w3, rfl⟩ : ∃ u : World, u = wc := ⟨_, rfl⟩
                  go_upto_if 149 with fail
                  go_cut [] (fun wc => ∃ w4, wc = w4 ∧ HasM w4 h (ents N1) ∧ Ch w4 c2 lo2 b2 lj2 j2 g gs gm (d.crash z.fs) ⟨1, gs1, false⟩ v2 N1 gs1.length 0 ∧ Below w.heap.size w w4)
                  case first =>
                    cases up with
                    | false =>
                      go_wp2_with fail
                      go_meet
                      exact ⟨w3, rfl, (HUP.out w3 HM3.out).1 HUQ.out, HC3.out, HB3.out⟩
                    | true =>
                      obtain ⟨hkk, hen⟩ := (HUP.out w3 HM3.out).2 HUQ.out
                      have hfv : fev = z.e.v := by have := HUQ.out; simp at this; exact this.2.2
                      subst hkk
                      subst hfv
                      obtain ⟨w4, hrun, hm4, ht4⟩ := HM3.out.store HPD.out (by have := HLN.out; omega) z.e (by unfold maxLen; have := HSZ.out; omega)
                      have HM4 : Hid (HasM w4 h (ents N1)) := Lib.hid (by rw [hen]; exact hm4)
                      have HB4 := Lib.hid (low_turn HB3.out ht4 (fun q hq => by rw [List.mem_singleton.1 hq]; exact HHW.out))
                      have HC4 := Lib.hid (HC3.out.aside ht4 HM3.out HHB2.out HHG.out)
                      clear hm4 ht4 hen
                      go_wp2_with fail
                      go_meet
                      exact ⟨w4, rfl, HM4.out, HC4.out, HB4.out⟩
                  case rest =>
                    obtain ⟨w4, rfl, hm4, hc4, hb4⟩ := hcut
                    have HM4 := Lib.hid hm4
                    have HB4 := Lib.hid hb4
                    have HE := Lib.hid (cents_any hc4 (by have := HN12.out; omega) (fun x hx => by have := HSH.out x hx; omega))
                    have HC4 := Lib.hid hc4
                    clear hm4 hb4 hc4 HM3 HB3 HC3 HA3 HUP HUQ HOR HPD HLN HSV
                    unfold ptr at HE
                    go_wp2_with fail
                    refine HE.out.mono ?_
                    rintro e w5 ⟨u5, rfl, ⟨eb, C, rfl, heb, hh5, hs5, he5⟩, hb5⟩
                    have HX5 := Lib.hid hh5
                    have HE5 := Lib.hid he5
                    have HB5 := Lib.hid (HB4.out.trans (hb5.mono HB4.out.size))
                    have HC5 := Lib.hid (HC4.out.below hb5)
                    have HM5 := Lib.hid (HM4.out.keep (hb5.block h HM4.out.lt))
                    have HP5 := Lib.hid (nice_ents HC4.out.sh.nice)
                    clear hh5 hs5 he5 heb hb5 HE HC4 HM4 HB4
                    obtain ⟨m, hm⟩ : ∃ m, (ents N1).length = m := ⟨_, rfl⟩
                    have HML := Lib.hid hm
                    rw [hm]
                    have hmi : (m : Int) ≤ 1300 := by have h1 := HN12.out.1; have h2 : (ents N1).length = N1.length := (by unfold ents; rw [List.length_map]); omega
                    clear hm
                    go_wp2_with fail
                    go_loopw [17] (fun i wr => wr = w5 ∧ ∃ q : Nat, q ≤ m ∧ i = .int .i64 q) (fun i _ => m - (Go.RowKit.intOf i).toNat)
                    case atStart => exact ⟨rfl, 0, by omega, rfl⟩
                    case round =>
                      obtain ⟨rfl, q, hq, rfl⟩ := hrel
                      by_cases hql : q < m
                      · have hqe : q < (ents N1).length := by rw [HML.out]; exact hql
                        obtain ⟨e0, e1⟩ := HE5.out q (ents N1)[q] (List.getElem?_eq_getElem hqe)
                        have c0 := (cell_at HX5.out (q * 2)).trans e0
                        have c1 := (cell_at HX5.out (q * 2 + 1)).trans e1
                        have hxs := HSH.out (ents N1)[q] (List.getElem_mem hqe)
                        have hlk := HM5.out.look (by unfold maxLen; omega) (fnd_of_mem HP5.out (List.getElem_mem hqe)) wr rfl
                        have hidx5 : ∀ u : World, (Instr.indexAt 84 (.slice (some ⟨eb, 0, none⟩) m m) (.int .i64 q)).run Tryz.prog u = .ok (.pointer (some ⟨eb, q * 2, none⟩)) u := fun u => by
                          have hs2 : (Go.sizeOf 62).run Tryz.prog u = .ok 2 u := by kernel_rfl
                          simp [Instr.indexAt, asIntOf, run_underlying Tryz.underlying84, Result.andThen, Addr.add_mid, hs2]
                          intro h1
                          omega
                        clear e0 e1 hxs
                        generalize (ents N1)[q] = x at *
                        clear hqe
                        obtain ⟨xk, xv⟩ := x
                        dsimp only at *
                        go_wp2_with fail
                        go_roundw
                        case rel => exact ⟨trivial, q + 1, by omega, by go_num⟩
                        case measure => simp [Go.RowKit.intOf]; omega
                      · obtain rfl : q = m := by omega
                        have hln := fun ty => HM5.out.len ty
                        rw [HML.out] at hln
                        go_wp2_with fail
                        go_roundw
                        case rel => exact ⟨k + 1, by omega, by go_num, c2, lo2, b2, lj2, j2, v2, _, gs1, N1, gs1.length, rfl, HC5.out, HR1.out.1, HN4.out, HM5.out, by rw [HEN.out]; exact HR1.out.2, HN12.out.2, HHB2.out, HLO2.out, HB5.out⟩
                        case measure => simp [Go.RowKit.intOf]; omega
      · obtain rfl : k = n := by omega
        have HV := Lib.hid (cev_any hc)
        have HBE := Lib.hid hbel
        clear hc hr hn4 hm hst hl hhb hlo hbel HX HL
        unfold ptr at HV
        go_wp2_with fail
        refine HV.out.mono ?_
        rintro e u ⟨rfl, rfl⟩
        go_wp2_with fail
        go_ret
        exact ⟨rfl, HBE.out⟩
end Go.Proofs.YtdjhlhellkajfaaGreat.Cch
/-
  All walks of the cache's statements but CachePlays.
-/
