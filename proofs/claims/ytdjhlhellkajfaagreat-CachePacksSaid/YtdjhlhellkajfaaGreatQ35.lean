/-
  Texts KEnt, KKnm, KKnw, KPks, in one file. What each proves, and its conditions, stand at its head below.
-/
import Derived.Test.YtdjhlhellkajfaaGreatQ24
import Derived.Test.YtdjhlhellkajfaaGreatQ25
import Derived.Test.YtdjhlhellkajfaaGreatQ29
import Derived.Test.YtdjhlhellkajfaaGreatQ34
import Derived.Deep.DeepCutAuto
/-
  The program's Entries: copies of all entries, the oldest first. Conditions: the cache is known whole; texts fit.
-/
namespace Go.Proofs.YtdjhlhellkajfaaGreat.Cch
open Go.RowKit Codec Cod
open Disk (Turn Dk Dsk ptr)
open JourM (Jr)
open Jou (Jn It)
set_option maxRecDepth 100000
section
variable {w : World} {c lo b lj j g gs gm last : Nat} {d : Dsk} {jr : Jr} {v : Value} {N : List Nmb} {ev : Int}
set_option maxHeartbeats 2000000 in
theorem cents_any (h : Ch w c lo b lj j g gs gm d jr v N last ev) (hN : N.length ≤ 1000000) (hs : ∀ x ∈ ents N, x.k.size ≤ 281474976710656 ∧ x.v.size ≤ 281474976710656) :
    Calls Tryz.prog 46 #[ptr c] w (fun e w' => ∃ u, e = .returned u ∧ ERow w' w.heap.size u (ents N) ∧ Below w.heap.size w w') := by
  have HM := Lib.hid (made_any h)
  have HI := Lib.hid (inorder_any sorts w c 1 lo b last N h.sh hN)
  have HS := Lib.hid hs
  have HLN : Hid ((ents N).length ≤ 1000000) := Lib.hid (by unfold ents; rw [List.length_map]; exact hN)
  clear h hs hN
  unfold ptr at *
  go_enter Tryz.func46, Tryz.ntmps46
  go_wp2_with fail
  refine HM.out.mono ?_
  rintro e u ⟨rfl, rfl⟩
  go_wp2_with fail
  refine HI.out.mono ?_
  rintro e w1 ⟨u1, rfl, ⟨eb, C, rfl, heb, hh, hsz, hel⟩, hb1⟩
  have HH1 := Lib.hid hh
  have HE1 : Hid (C.size = (ents N).length * 2 ∧ ∀ p e, (ents N)[p]? = some e → El2 C p e) := Lib.hid ⟨hsz, hel⟩
  have HB1 := Lib.hid hb1
  have HEB := Lib.hid heb
  obtain ⟨n, hn⟩ : ∃ n, (ents N).length = n := ⟨_, rfl⟩
  have HN := Lib.hid hn
  have hn1 : (n : Int) ≤ 1000000 := by have := HLN.out; omega
  clear hh hsz hel hb1 heb HI HM HLN
  rw [hn] at HE1 ⊢
  clear hn
  go_wp2_with fail
  go_loopw [15] (fun i wr => ∃ (k : Nat) (C' : Array Value), k ≤ n ∧ i = .int .i64 k ∧ wr.heap[eb]? = some (.cells C' 62 (0, 0)) ∧ C'.size = n * 2 ∧ (∀ p e, (ents N)[p]? = some e → El2 C' p e) ∧ Turn [eb] w1 wr) (fun i _ => n - (Go.RowKit.intOf i).toNat)
  case atStart => exact ⟨0, C, Nat.zero_le _, rfl, HH1.out, HE1.out.1, HE1.out.2, Turn.refl _ _⟩
  case round =>
    obtain ⟨k, C', hk, rfl, hh, hsz, hel, ht⟩ := hrel
    clear HH1 HE1
    have HH := Lib.hid hh
    have HE : Hid (C'.size = n * 2 ∧ ∀ p e, (ents N)[p]? = some e → El2 C' p e) := Lib.hid ⟨hsz, hel⟩
    have HT := Lib.hid ht
    clear hh hsz hel ht
    by_cases hlt : k < n
    · have hkl : k < (ents N).length := by rw [HN.out]; exact hlt
      obtain ⟨e0, e1⟩ := HE.out.2 k (ents N)[k] (List.getElem?_eq_getElem hkl)
      have HXK : Hid ((ents N)[k]? = some (ents N)[k]) := Lib.hid (List.getElem?_eq_getElem hkl)
      have HXS := Lib.hid (HS.out (ents N)[k] (List.getElem_mem hkl))
      have c0 := (cell_at HH.out (k * 2)).trans e0
      have c1 := (cell_at HH.out (k * 2 + 1)).trans e1
      have hidx : ∀ u : World, (Instr.indexAt 84 (.slice (some ⟨eb, 0, none⟩) n n) (.int .i64 k)).run Tryz.prog u = .ok (.pointer (some ⟨eb, k * 2, none⟩)) u := fun u => by
        have hs2 : (Go.sizeOf 62).run Tryz.prog u = .ok 2 u := by kernel_rfl
        simp [Instr.indexAt, asIntOf, run_underlying Tryz.underlying84, Result.andThen, Addr.add_mid, hs2]
        intro h1
        omega
      clear e0 e1
      generalize (ents N)[k] = x at *
      clear hkl
      obtain ⟨xk, xv⟩ := x
      dsimp only at *
      have HXB := Lib.hid (heap_alloc_new wr (.cells #[.string xk, .string xv] 62))
      have HBX := Frm.alloc_below wr (.cells #[.string xk, .string xv] 62)
      have HBX := Lib.hid HBX
      go_upto_region 7 with fail
      have HC := Lib.hid (eclone_any (wr.alloc (.cells #[.string xk, .string xv] 62)) ⟨xk, xv⟩ HXS.out)
      unfold entV at HC
      dsimp only at HC
      have b0 := cell_at HXB.out 0
      have b1 := cell_at HXB.out 1
      clear c0 c1
      go_wp2_with fail
      refine HC.out.mono ?_
      rintro e w2 ⟨rfl, hb2⟩
      have HBA : Hid (Below wr.heap.size wr w2) := Lib.hid (HBX.out.trans (hb2.mono HBX.out.size))
      clear hb2 HBX HXB HC b0 b1
      have hg2 := (HBA.out.block eb (lt_of_heap HH.out)).trans HH.out
      have hi2 : k * 2 + 1 < C'.size := by have := HE.out.1; omega
      have d0 := cell_at hg2 (k * 2)
      have d1 := cell_at hg2 (k * 2 + 1)
      rw [Array.getElem?_eq_getElem (by omega)] at d0 d1
      have f0 := free_at hg2 (k * 2)
      have f1 := free_at hg2 (k * 2 + 1)
      have HG2 := Lib.hid hg2
      have HI2 := Lib.hid hi2
      generalize C'[k * 2]'(by omega) = y0 at d0
      generalize C'[k * 2 + 1]'(by omega) = y1 at d1
      clear hg2 hi2
      go_wp2_with fail
      go_roundw
      case rel => exact ⟨k + 1, _, by omega, by go_num, set_at (set_at HG2.out (k * 2) (.string xk)) (k * 2 + 1) (.string xv), by simp; exact HE.out.1, fun q x hx => by
        by_cases e : q = k
        · subst e
          rw [HXK.out] at hx
          injection hx with hx
          subst hx
          exact el2_same HI2.out ⟨xk, xv⟩
        · exact el2_other e ⟨xk, xv⟩ x (HE.out.2 q x hx), ((HT.out.below HBA.out).setCell (.inl (by simp)) _).setCell (.inl (by simp)) _⟩
      case measure => simp [Go.RowKit.intOf]; omega
    · obtain rfl : k = n := by omega
      have HF : Hid (ERow wr w.heap.size (.slice (some ⟨eb, 0, none⟩) k k) (ents N)) := Lib.hid ⟨eb, C', by rw [HN.out], HEB.out, HH.out, by rw [HN.out]; exact HE.out.1, HE.out.2⟩
      have HBE : Hid (Below w.heap.size w wr) := Lib.hid (HB1.out.trans (HT.out.low (by intro q hq; have := HEB.out; simp at hq; omega) HB1.out.size))
      go_wp2_with fail
      go_ret
      exact ⟨_, rfl, HF.out, HBE.out⟩
end
end Go.Proofs.YtdjhlhellkajfaaGreat.Cch
/-
  What the law of the cache knows, as plain mathematics: an entry is there behind a crash. No condition.
-/
namespace Go.Proofs.YtdjhlhellkajfaaGreat.Cch
open Go.RowKit Codec Cod
open Disk (Turn Dk Dsk ptr Nums fresh)
open JourM (Jr appE appD appJ appDo extD extB takes takes1 room Free kA kA_n kA_rest)
open Jou (Jn It)
set_option maxRecDepth 100000
def eA1 : Ent := ⟨⟨#[97]⟩, ⟨#[49]⟩⟩
def kP : List UInt8 := packE eA1
theorem kP_len : kP.length = 10 := by unfold kP; rw [packE_length]; rfl
theorem kP_takes : takes1 kP = 2 := by unfold takes1; rw [kP_len]; rfl
def kcB : Dsk := appD kA ⟨1, [], false⟩ kP
theorem kcB_is : appE kA ⟨1, [], false⟩ kP = 0 ∧ kcB = extD kA 1 0 0 kP ∧ appJ kA ⟨1, [], false⟩ kP = ⟨1, [kP], false⟩ := by
  have hb := (kA_rest.2.ext 1 0 0 kP).1
  have hl := kP_len
  have ht := kP_takes
  have hr : room 20 = 9 := rfl
  have hdo : appDo kA ⟨1, [], false⟩ kP = true := by
    unfold appDo
    rw [kA_n]
    simp [hl, ht, hr, takes]
  have hb' : extB kA 1 (takes []) ([] : List (List UInt8)).length kP = true := hb
  rcases Jou.app_parts kA ⟨1, [], false⟩ kP with ⟨h, _⟩ | ⟨_, h, _⟩ | ⟨_, _, h, _⟩ | ⟨_, _, _, h, _⟩ | ⟨_, _, _, _, h1, h2, h3⟩
  · cases h
  · omega
  · rw [kA_n, ht, hr] at h
    simp [takes] at h
  · rw [hb'] at h
    cases h
  · exact ⟨h1, h2, h3⟩
theorem kcB_rest : JourM.Rest kcB ⟨1, [kP], false⟩ := by
  have hr : takes ([] : List (List UInt8)) + takes1 kP ≤ room kA.n := by rw [kA_n, kP_takes]; decide
  have := JourM.app_done kA_rest.1 (b := kP) (by rw [kP_len]; decide) hr (kA_rest.2.ext 1 0 0 kP).1
  rw [kcB_is.2.1]
  exact this
theorem kP_un : unB kP = true ∧ unE kP = eA1 := ⟨unB_pack eA1 (by decide), unE_pack eA1 (by decide)⟩
theorem kcC_rest : JourM.Rest (kcB.crash []) ⟨1, [kP], false⟩ := JourM.rest_crash kcB_rest []
theorem kcC_room : (room (kcB.crash []).n : Int) - takes [kP] = 7 := by
  have h1 : (kcB.crash []).n = 20 := by rw [JourM.crash_n, kcB_is.2.1, JourM.extD_n, kA_n]
  rw [h1]
  simp [takes, kP_takes]
  rfl
theorem kcN : laysF ([kP].map unE) [kP].length = [⟨eA1, 1⟩] := by
  simp [laysF, lay, cut, kP_un.2]
theorem kcF : fndB [⟨eA1, 1⟩] ⟨#[97]⟩ = true ∧ fndE [⟨eA1, 1⟩] ⟨#[97]⟩ = eA1 := by
  have : findN [⟨eA1, 1⟩] ⟨#[97]⟩ = some ⟨eA1, 1⟩ := by simp [findN, eA1]
  simp [fndB, fndE, this]
theorem open_rest (w : World) (g gs gm : Nat) (d : Dsk) (jr : Jr) (h : Dk w g gs gm d) (hr : JourM.Rest d jr) (hb : jr.gen < 9223372036854775807) : Calls Tryz.prog 13 #[ptr g] w (Jou.Opened w g gs gm d jr) := by
  obtain ⟨h1, h2, h3⟩ := hr.opened
  have hnw := hr.good.newest
  have h11 := hr.good.one
  have := Jou.open_old w g gs gm d h hr.n8 hr.off (by omega) (by omega)
  rwa [h2, h3] at this
theorem num7_any (w : World) (z : Int) : Calls Tryz.prog 40 #[.int .i64 z] w (Disk.Ends (.int .i64 z) w) := by
  go_enter Tryz.func40, Tryz.ntmps40
  go_wp2_with fail
  go_ret
  exact ⟨rfl, rfl⟩
end Go.Proofs.YtdjhlhellkajfaaGreat.Cch
/-
  What the law of the cache knows, walked; the walk of the statement on nobody's cache. No condition.
-/
namespace Go.Proofs.YtdjhlhellkajfaaGreat.Cch
open Go.RowKit Codec Cod
open Disk (Turn Dk Dsk ptr Nums fresh)
open JourM (Jr appE appD appJ takes takes1 room kA)
open Jou (Jn It low_turn Jn.owns_low)
set_option maxRecDepth 100000
theorem copen0_any (w : World) (g gs gm : Nat) (h : Dk w g gs gm (fresh 20)) : Calls Tryz.prog 38 #[ptr g] w (COpened w g gs gm kA ⟨1, [], false⟩) :=
  copen_any w g gs gm kA ⟨1, [], false⟩ (Jou.Dk.lows h) (Jou.open_first w g gs gm h) (by simp)
theorem copen1_any (w : World) (g gs gm : Nat) (h : Dk w g gs gm (kcB.crash [])) : Calls Tryz.prog 38 #[ptr g] w (COpened w g gs gm (kcB.crash []) ⟨1, [kP], false⟩) :=
  copen_any w g gs gm _ _ (Jou.Dk.lows h) (open_rest w g gs gm _ _ h kcC_rest (by decide)) (by simp [kP_un.1])
theorem cput0_any {w : World} {c lo b lj j g gs gm : Nat} {v : Value} (h : Ch w c lo b lj j g gs gm kA ⟨1, [], false⟩ v [] 0 0) :
    Calls Tryz.prog 41 #[ptr c, .string ⟨#[97]⟩, .string ⟨#[49]⟩] w (Putted w c lo b lj j g gs gm v 0 kcB ⟨1, [kP], false⟩ (putN 0 [] 0 eA1) (putL 0 0) 0) := by
  have := cput_app h (by simp) (by omega) eA1 (by decide) (by decide) rfl (fun h => by cases h) 0 kcB_is.1 (by decide)
  rw [show appD kA ⟨1, [], false⟩ (packE eA1) = kcB from rfl, show appJ kA ⟨1, [], false⟩ (packE eA1) = ⟨1, [kP], false⟩ from kcB_is.2.2] at this
  exact this
theorem Ch.lows_ {w : World} {c lo b lj j g gs gm last : Nat} {d : Dsk} {jr : Jr} {v : Value} {N : List Nmb} {ev : Int} (h : Ch w c lo b lj j g gs gm d jr v N last ev) {base : Nat} (hj : base ≤ j) (hg : base ≤ g ∧ base ≤ gs ∧ base ≤ gm) : ∀ k ∈ JOwn j g gs gm v, base ≤ k := h.jn.owns_low hj hg
set_option maxHeartbeats 2000000 in
theorem knows_any (w : World) : Calls Tryz.prog 32 #[] w (EndsBelow (.bool true) w) := by
  have HN := Lib.hid (Disk.new_disk w 20 (by omega) (by omega))
  go_enter Tryz.func32, Tryz.ntmps32
  go_wp2_with fail
  refine HN.out.mono ?_
  rintro e w1 ⟨g, gs, gm, rfl, hdk, ht, g1, g2, g3⟩
  have HG := Lib.hid (And.intro g1 (And.intro g2 g3))
  have HB1 : Hid (Below w.heap.size w w1) := Lib.hid (ht.low (by simp) (Nat.le_refl _))
  have HO := Lib.hid (copen0_any w1 g gs gm hdk)
  clear hdk ht g1 g2 g3 HN
  unfold ptr at *
  go_wp2_with fail
  refine HO.out.mono ?_
  rintro e w2 ⟨c, lo, b, lj, j, v, rfl, hc, ht, hl1, hl2, hl3, hl4⟩
  have HS3 : Hid (∀ k ∈ [g, gs, gm], w.heap.size ≤ k) := Lib.hid (by have := HG.out; intro k hk; simp at hk; omega)
  have HB2 := Lib.hid (low_turn HB1.out ht HS3.out)
  have HL2 : Hid (w.heap.size ≤ j ∧ w.heap.size ≤ lo ∧ w.heap.size ≤ c ∧ w.heap.size ≤ b) := Lib.hid (by have := HB1.out.size; omega)
  have HC2 := Lib.hid hc
  have HP := Lib.hid (cput0_any hc)
  clear hc ht hl1 hl2 hl3 hl4 HO
  unfold ptr at *
  go_wp2_with fail
  refine HP.out.mono ?_
  rintro e w3 ⟨rfl, v3, hc3, hf3, hv3⟩
  have HB3 := Lib.hid (HB2.out.trans (hf3.low HB2.out.size HL2.out.2 (HC2.out.lows_ HL2.out.1 HG.out)))
  have HCR := Lib.hid (Disk.crash_disk w3 g gs gm _ hc3.jn.disk none 0 0 [] ⟨rfl, fun h => absurd h (by omega)⟩)
  clear hc3 hf3 hv3 HP HC2
  unfold ptr at HCR
  go_wp2_with fail
  refine HCR.out.mono ?_
  rintro e w4 ⟨rfl, hd4, ht4⟩
  have HB4 := Lib.hid (low_turn HB3.out ht4 HS3.out)
  have HO2 := Lib.hid (copen1_any w4 g gs gm hd4)
  clear hd4 ht4 HCR
  unfold ptr at HO2
  go_wp2_with fail
  refine HO2.out.mono ?_
  rintro e w5 ⟨c5, lo5, b5, lj5, j5, v5, rfl, hc, ht, hl1, hl2, hl3, hl4⟩
  have HB5 := Lib.hid (low_turn HB4.out ht HS3.out)
  rw [kcN] at hc
  have HC5 := Lib.hid hc
  clear hc ht hl1 hl2 hl3 hl4 HO2
  have HGT := Lib.hid (cget_any HC5.out (by simp) ⟨#[97]⟩ (by decide) (by rw [kcF.2]; decide))
  rw [kcF.1, kcF.2] at HGT
  have e1 : eA1.v = ⟨#[49]⟩ := rfl
  rw [e1] at HGT
  unfold ptr at *
  go_wp2_with fail
  refine HGT.out.mono ?_
  rintro e w6 ⟨rfl, hb6⟩
  have HC6 := Lib.hid (HC5.out.below hb6)
  have HB6 := Lib.hid (HB5.out.trans (hb6.mono HB5.out.size))
  clear hb6 HGT HC5
  have HE := Lib.hid (cents_any HC6.out (by simp) (by simp [ents]; decide))
  unfold ptr at HE
  go_wp2_with (first
    | (go_at_call 40; refine (num7_any _ _).mono ?_; rintro e u ⟨rfl, rfl⟩))
  refine HE.out.mono ?_
  rintro e w7 ⟨u, rfl, ⟨eb, C, rfl, _, _, _, _⟩, hb7⟩
  have HC7 := Lib.hid (HC6.out.below hb7)
  have HB7 := Lib.hid (HB6.out.trans (hb7.mono HB6.out.size))
  have hl : ((ents [⟨eA1, 1⟩]).length : Int) = 1 := rfl
  clear hb7 HE HC6
  generalize (ents [⟨eA1, 1⟩]).length = n1 at *
  have HDN := Lib.hid (cdown_any HC7.out)
  have HFR := Lib.hid (cfree_any HC7.out)
  rw [show (⟨1, [kP], false⟩ : Jr).down = false from rfl] at HDN
  rw [show (⟨1, [kP], false⟩ : Jr).gs = [kP] from rfl, kcC_room] at HFR
  unfold ptr at HDN HFR
  go_wp2_with fail
  refine HDN.out.mono ?_
  rintro e u ⟨rfl, rfl⟩
  go_wp2_with fail
  refine HFR.out.mono ?_
  rintro e w8 ⟨rfl, hb8⟩
  have HB8 := Lib.hid (HB7.out.trans (hb8.mono HB7.out.size))
  clear hb8
  go_wp2_with fail
  go_ret
  exact ⟨rfl, HB8.out⟩
theorem cnob_new (w u : World) (h : Below (w.heap.size + 1) (w.alloc (.cells #[.pointer none, .map none, .int .i64 0, .int .i64 0] 95)) u) : CNobody u (.pointer (some ⟨w.heap.size, 0, none⟩)) :=
  .inr ⟨w.heap.size, rfl, cell_at ((h.block _ (by omega)).trans (heap_alloc_new w _)) 1⟩
set_option maxHeartbeats 2000000 in
theorem nil_any (w : World) (key : ByteArray) : Calls Tryz.prog 7 #[.string key] w (EndsBelow (.bool true) w) := by
  have HK := Lib.hid (fun u => knows_any u)
  by_cases hs : key.size ≤ 500
  · have hsi : ¬ (500 : Int) < key.size := by omega
    go_enter Tryz.func7, Tryz.ntmps7
    go_wp2_with fail
    go_loopw [3, 4] (fun p i wr => ∃ k : Nat, k ≤ 2 ∧ i = .int .i64 k ∧ Below w.heap.size w wr ∧ ∀ u, Below wr.heap.size wr u → CNobody u p) (fun _ i _ => 2 - (Go.RowKit.intOf i).toNat)
    case atStart => exact ⟨0, by omega, rfl, Below.refl _ _, fun u _ => .inl rfl⟩
    case round =>
      obtain ⟨k, hk, rfl, hb, hnb⟩ := hrel
      have HB := Lib.hid hb
      have HNB := Lib.hid hnb
      clear hb hnb
      by_cases hlt : k < 2
      · have hki : (k : Int) < 2 := by omega
        generalize u3 = p at *
        have HG := Lib.hid (cget_none wr p key (HNB.out wr (Below.refl _ _)))
        have HP := Lib.hid (cput_none wr p key ⟨#[]⟩ HNB.out)
        go_wp2_with fail
        refine HG.out.mono ?_
        rintro e u ⟨rfl, rfl⟩
        go_wp2_with fail
        refine HP.out.mono ?_
        rintro e w2 ⟨rfl, hb2⟩
        have HB2 := Lib.hid (HB.out.trans (hb2.mono HB.out.size))
        have HN2 := Lib.hid (HNB.out w2 hb2)
        clear hb2 HG HP HNB
        have HE := Lib.hid (cents_none w2 p HN2.out)
        have HV := Lib.hid (cev_none w2 p HN2.out)
        have HF := Lib.hid (cfree_none w2 p HN2.out)
        have HD := Lib.hid (cdown_none w2 p HN2.out)
        go_wp2_with (first
          | (go_at_call 40; refine (num7_any _ _).mono ?_; rintro e u ⟨rfl, rfl⟩))
        refine HE.out.mono ?_
        rintro e u ⟨rfl, rfl⟩
        go_wp2_with fail
        refine HV.out.mono ?_
        rintro e u ⟨rfl, rfl⟩
        go_wp2_with fail
        refine HF.out.mono ?_
        rintro e u ⟨rfl, rfl⟩
        go_wp2_with fail
        refine HD.out.mono ?_
        rintro e u ⟨rfl, rfl⟩
        clear HE HV HF HD HN2
        go_wp2_with fail
        go_roundw
        case rel => exact ⟨k + 1, by omega, by go_num, HB2.out.alloc HB2.out.size _, fun u hu => cnob_new w2 u (by rw [World.size_alloc] at hu; exact hu)⟩
        case measure => simp [Go.RowKit.intOf]; omega
      · obtain rfl : k = 2 := by omega
        have HO := Lib.hid (fun u => copen_err u (.pointer none) 1 rfl (Jou.open_none u))
        have HKW := Lib.hid (HK.out wr)
        go_wp2_with fail
        refine (HO.out _).mono ?_
        rintro e u ⟨rfl, rfl⟩
        go_wp2_with (first
          | (go_at_call 40; refine (num7_any _ _).mono ?_; rintro e u ⟨rfl, rfl⟩))
        refine HKW.out.mono ?_
        rintro e w1 ⟨rfl, hb1⟩
        have HB1 := Lib.hid (HB.out.trans (hb1.mono HB.out.size))
        clear hb1
        go_wp2_with fail
        go_ret
        exact ⟨rfl, HB1.out⟩
  · have hsi : (500 : Int) < key.size := by omega
    go_enter Tryz.func7, Tryz.ntmps7
    go_wp2_with fail
    refine (HK.out _).mono ?_
    rintro e w1 ⟨rfl, hb1⟩
    have HB1 := Lib.hid hb1
    clear hb1
    go_wp2_with fail
    go_ret
    exact ⟨rfl, HB1.out⟩
end Go.Proofs.YtdjhlhellkajfaaGreat.Cch
/-
  The walk of the statement on entries as bytes. Condition: the bytes lie there.
-/
namespace Go.Proofs.YtdjhlhellkajfaaGreat.Cch
open Go.RowKit Codec Cod
set_option maxRecDepth 100000
def Bx4 (u : World) (b2 b5 b7 b9 : Nat) (k v xk xv : ByteArray) : Prop := u.heap[b2]? = some (.cells #[.string k, .string v] 61 (0, 0)) ∧ u.heap[b5]? = some (.cells #[.string xk, .string xv] 62 (0, 0)) ∧
  u.heap[b7]? = some (.cells #[.string xk, .string xv] 61 (0, 0)) ∧ u.heap[b9]? = some (.cells #[.string k, .string v] 62 (0, 0))
theorem bx4_below {w w' : World} {b2 b5 b7 b9 : Nat} {k v xk xv : ByteArray} (h : Bx4 w b2 b5 b7 b9 k v xk xv) (hb : Below w.heap.size w w') : Bx4 w' b2 b5 b7 b9 k v xk xv :=
  ⟨(hb.block _ (lt_of_heap h.1)).trans h.1, (hb.block _ (lt_of_heap h.2.1)).trans h.2.1, (hb.block _ (lt_of_heap h.2.2.1)).trans h.2.2.1, (hb.block _ (lt_of_heap h.2.2.2)).trans h.2.2.2⟩
set_option maxHeartbeats 4000000 in
theorem packs_any (w : World) (e : Ent) (n c : Nat) (A : Option Addr) (b : List UInt8) (hb : Byts w w.heap.size A n b) (hnc : n ≤ c) (hcc : c ≤ maxLen) :
    Calls Tryz.prog 4 #[entV e, .slice A n c] w (EndsBelow (.bool true) w) := by
  have HKN := Lib.hid (fun u => knows_any u)
  have HBY := Lib.hid hb
  have HNC := Lib.hid (And.intro hnc hcc)
  have hni : (n : Int) ≤ 9223372036854775 * 1024 := by unfold maxLen at hcc; omega
  have HNI := Lib.hid hni
  clear hb hnc hcc hni
  obtain ⟨k, v⟩ := e
  by_cases hok : k.size ≤ 1500 ∧ v.size ≤ 1500 ∧ n ≤ 1500
  · obtain ⟨h1, h2, h3⟩ := hok
    have i1 : (k.size : Int) ≤ 1500 := by omega
    have i2 : (v.size : Int) ≤ 1500 := by omega
    have i3 : (n : Int) ≤ 1500 := by omega
    have HUB := Lib.hid (unB_pack ⟨k, v⟩ (by show k.size < _; omega))
    have HUE := Lib.hid (unE_pack ⟨k, v⟩ (by show k.size < _; omega))
    have HLEN : Hid ((packE ⟨k, v⟩).length = sizeE ⟨k, v⟩) := Lib.hid (packE_length _)
    have HP := Lib.hid (fun u => pack_any u ⟨k, v⟩ (by show k.size + v.size ≤ _; omega))
    have HP2 := Lib.hid (fun u => rpack_any u ⟨k, v⟩ (by show k.size + v.size ≤ _; omega))
    have HSZ3 : Hid (sizeE ⟨k, v⟩ ≤ 3008) := Lib.hid (by unfold sizeE; dsimp only; omega)
    have HB0 := Lib.hid (Frm.alloc_below w (.cells #[.string k, .string v] 61))
    have HX0 := Lib.hid (heap_alloc_new w (.cells #[.string k, .string v] 61))
    unfold entV at *
    generalize packE ⟨k, v⟩ = xs at *
    generalize sizeE ⟨k, v⟩ = sz at *
    dsimp only at *
    go_enter Tryz.func4, Tryz.ntmps4
    go_upto_region 3 with fail
    generalize w.alloc (.cells #[.string k, .string v] 61) = w1 at *
    obtain ⟨b2, hb2⟩ : ∃ b2, w.heap.size = b2 := ⟨_, rfl⟩
    have HBB := Lib.hid hb2
    rw [hb2] at HX0 ⊢
    clear hb2 h1 h2
    have HU1 := Lib.hid (unpack_any w1 w.heap.size n c A b (HBY.out.keep (fun q hq => HB0.out.block q hq)) HB0.out.size HNC.out.1 (by omega))
    obtain ⟨ub, hub⟩ : ∃ ub, unB b = ub := ⟨_, rfl⟩
    obtain ⟨xe, hxe⟩ : ∃ xe, unE b = xe := ⟨_, rfl⟩
    have HRU := Lib.hid (fun u (hu : Below w.heap.size w u) => runpack_any u w.heap.size n c A b (HBY.out.keep (fun q hq => hu.block q hq)) hu.size HNC.out.1 (by omega) HNC.out.2)
    rw [hub, hxe] at HU1 HRU
    clear hub hxe
    obtain ⟨xk, xv⟩ := xe
    unfold entV at *
    dsimp only at *
    go_wp2_with fail
    refine HU1.out.mono ?_
    rintro e w2 ⟨rfl, hb⟩
    have HB2 := Lib.hid (HB0.out.trans (hb.mono HB0.out.size))
    have HX2 := Lib.hid ((hb.block _ (lt_of_heap HX0.out)).trans HX0.out)
    clear hb HU1 HX0 HB0
    go_upto_region 4 with fail
    have HB3 := Lib.hid (HB2.out.alloc HB2.out.size (.cells #[.string xk, .string xv] 62))
    have HX3 := Lib.hid ((Below.heap_alloc w2 (.cells #[.string xk, .string xv] 62) _ (lt_of_heap HX2.out)).trans HX2.out)
    have HY3 := Lib.hid (heap_alloc_new w2 (.cells #[.string xk, .string xv] 62))
    clear HX2 HB2
    generalize w2.alloc (.cells #[.string xk, .string xv] 62) = w3 at *
    generalize w2.heap.size = b5 at *
    have HU3 := Lib.hid (HRU.out w3 HB3.out)
    clear HRU
    go_wp2_with fail
    refine HU3.out.mono ?_
    rintro e w4 ⟨rfl, hb⟩
    have HB4 := Lib.hid (HB3.out.trans (hb.mono HB3.out.size))
    have HX4 := Lib.hid ((hb.block _ (lt_of_heap HX3.out)).trans HX3.out)
    have HY4 := Lib.hid ((hb.block _ (lt_of_heap HY3.out)).trans HY3.out)
    clear hb HU3 HX3 HB3 HY3
    go_upto_region 5 with fail
    have HB5 := Lib.hid (HB4.out.alloc HB4.out.size (.cells #[.string xk, .string xv] 61))
    have HX5 := Lib.hid ((Below.heap_alloc w4 (.cells #[.string xk, .string xv] 61) _ (lt_of_heap HX4.out)).trans HX4.out)
    have HY5 := Lib.hid ((Below.heap_alloc w4 (.cells #[.string xk, .string xv] 61) _ (lt_of_heap HY4.out)).trans HY4.out)
    have HZ5 := Lib.hid (heap_alloc_new w4 (.cells #[.string xk, .string xv] 61))
    clear HX4 HB4 HY4
    generalize w4.alloc (.cells #[.string xk, .string xv] 61) = w5 at *
    generalize w4.heap.size = b7 at *
    have x0 := cell_at HX5.out 0
    have x1 := cell_at HX5.out 1
    go_wp2_with fail
    refine (HP.out w5).mono ?_
    rintro e w6 ⟨A6, c6, rfl, ho6, hb⟩
    have HU6 := Lib.hid (unpack_any w6 w6.heap.size sz c6 A6 xs ho6.byts (Nat.le_refl _) (by obtain ⟨A', c', e', h1, h2⟩ := ho6.form; injection e' with _ _ e3; omega) (by have := HSZ3.out; omega))
    rw [HUB.out, HUE.out] at HU6
    unfold entV at HU6
    dsimp only at HU6
    have HB6 := Lib.hid (HB5.out.trans (hb.mono HB5.out.size))
    have HX6 := Lib.hid ((hb.block _ (lt_of_heap HX5.out)).trans HX5.out)
    have HY6 := Lib.hid ((hb.block _ (lt_of_heap HY5.out)).trans HY5.out)
    have HZ6 := Lib.hid ((hb.block _ (lt_of_heap HZ5.out)).trans HZ5.out)
    clear hb ho6 HX5 HY5 HZ5 HB5 x0 x1
    go_wp2_with fail
    refine HU6.out.mono ?_
    rintro e w7 ⟨rfl, hb⟩
    have HB7 := Lib.hid (HB6.out.trans (hb.mono HB6.out.size))
    have HX7 := Lib.hid ((hb.block _ (lt_of_heap HX6.out)).trans HX6.out)
    have HY7 := Lib.hid ((hb.block _ (lt_of_heap HY6.out)).trans HY6.out)
    have HZ7 := Lib.hid ((hb.block _ (lt_of_heap HZ6.out)).trans HZ6.out)
    clear hb HX6 HY6 HZ6 HB6 HU6
    go_upto_region 6 with fail
    have HBL := Lib.hid (HB7.out.alloc HB7.out.size (.cells #[.string k, .string v] 62))
    have HX : Hid (Bx4 (w7.alloc (.cells #[.string k, .string v] 62)) b2 b5 b7 w7.heap.size k v xk xv) := Lib.hid ⟨(Below.heap_alloc w7 _ _ (lt_of_heap HX7.out)).trans HX7.out, (Below.heap_alloc w7 _ _ (lt_of_heap HY7.out)).trans HY7.out, (Below.heap_alloc w7 _ _ (lt_of_heap HZ7.out)).trans HZ7.out, heap_alloc_new w7 _⟩
    clear HX7 HY7 HZ7 HB7
    generalize w7.alloc (.cells #[.string k, .string v] 62) = wl at *
    generalize w7.heap.size = b9 at *
    have HS : Hid (Bx4 wl.drew b2 b5 b7 b9 k v xk xv) := Lib.hid HX.out
    have HB := Lib.hid (HBL.out.drew)
    clear HX HBL
    refine Frm.wh_start (fun u => Bx4 u b2 b5 b7 b9 k v xk xv) (by kernel_rfl) ?_
    generalize wl.drew = u0 at *
    refine Frm.wh_take 0 43 (.agg #[.string k, .string v]) rfl rfl (by kernel_rfl) (fun _ _ _ h => h) rfl (HS.out) (fun w' hw' => ?_) ?_
    · have h1 := cell_at hw'.1 0
      have h2 := cell_at hw'.1 1
      go_simp
    go_frame
    refine Frm.wh_take 3 46 (.agg #[.string k, .string v]) rfl rfl (by kernel_rfl) (fun _ _ _ h => h) rfl (HS.out) (fun w' hw' => ?_) ?_
    · have h1 := cell_at hw'.1 0
      have h2 := cell_at hw'.1 1
      go_simp
    go_frame
    refine Frm.wh_call 1 44 35 #[.agg #[.string k, .string v]] rfl rfl (by kernel_rfl) rfl ?_ ?_
    · go_simp
    refine (HP.out u0).mono ?_
    rintro e w1 ⟨A1, c1, rfl, ho, hb⟩
    have HB1 := Lib.hid (HB.out.trans (hb.mono HB.out.size))
    have HC1 : Hid (Jou.CvS A1 sz c1 xs w1) := Lib.hid (run_string_of w1 _ sz c1 A1 _ ho.byts)
    have HO1 := Lib.hid ho
    have HSN := Lib.hid (bx4_below HS.out hb)
    clear HS HB ho hb
    have HB := HB1
    have HS := Lib.hid (And.intro HSN.out HC1.out)
    clear HB1 HSN HC1
    refine ⟨_, rfl, HS.out.1, ?_⟩
    go_frame
    refine Frm.wh_more (S' := fun u => Bx4 u b2 b5 b7 b9 k v xk xv ∧ Jou.CvS A1 sz c1 xs u) (fun _ h => h.1) _ _ _ _ ?_
    refine Frm.wh_take 2 45 (.string ⟨xs.toArray⟩) rfl rfl (by kernel_rfl) (fun _ _ _ h => h) rfl (HS.out) (fun w' hw' => ?_) ?_
    · have hc1 := hw'.2
      unfold Jou.CvS at hc1
      go_simp
    go_frame
    refine Frm.wh_call 4 47 36 #[.agg #[.string k, .string v]] rfl rfl (by kernel_rfl) rfl ?_ ?_
    · go_simp
    refine (HP2.out w1).mono ?_
    rintro e w2 ⟨A2, c2, rfl, ho, hb⟩
    have HB1 := Lib.hid (HB.out.trans (hb.mono HB.out.size))
    have HO1n := Lib.hid (HO1.out.below hb)
    have HC1 : Hid (Jou.CvS A1 sz c1 xs w2) := Lib.hid (run_string_of w2 _ sz c1 A1 _ HO1n.out.byts)
    have HC2 : Hid (Jou.CvS A2 sz c2 xs w2) := Lib.hid (run_string_of w2 _ sz c2 A2 _ ho.byts)
    have HO2 := Lib.hid ho
    have HSN := Lib.hid (bx4_below HS.out.1 hb)
    clear HS HB ho hb HO1
    have HB := HB1
    have HO1 := HO1n
    have HS := Lib.hid (And.intro (And.intro HSN.out HC1.out) HC2.out)
    clear HB1 HSN HC1 HC2 HO1n
    refine ⟨_, rfl, HS.out.1, ?_⟩
    go_frame
    refine Frm.wh_more (S' := fun u => (Bx4 u b2 b5 b7 b9 k v xk xv ∧ Jou.CvS A1 sz c1 xs u) ∧ Jou.CvS A2 sz c2 xs u) (fun _ h => h.1) _ _ _ _ ?_
    refine Frm.wh_take 5 48 (.string ⟨xs.toArray⟩) rfl rfl (by kernel_rfl) (fun _ _ _ h => h) rfl (HS.out) (fun w' hw' => ?_) ?_
    · have hc1 := hw'.2
      unfold Jou.CvS at hc1
      go_simp
    go_frame
    refine Frm.wh_take 6 49 (.bool true) rfl rfl (by kernel_rfl) (fun _ _ _ h => h) rfl (HS.out) (fun w' hw' => ?_) ?_
    · go_simp
    go_frame
    refine Frm.wh_take 7 50 (.bool true) rfl rfl (by kernel_rfl) (fun _ _ _ h => h) rfl (HS.out) (fun w' hw' => ?_) ?_
    · exact rfl
    go_frame
    refine Frm.wh_take 8 51 (.agg #[.string xk, .string xv]) rfl rfl (by kernel_rfl) (fun _ _ _ h => h) rfl (HS.out) (fun w' hw' => ?_) ?_
    · have h1 := cell_at hw'.1.1.2.1 0
      have h2 := cell_at hw'.1.1.2.1 1
      go_simp
    go_frame
    refine Frm.wh_take 9 52 (.agg #[.string xk, .string xv]) rfl rfl (by kernel_rfl) (fun _ _ _ h => h) rfl (HS.out) (fun w' hw' => ?_) ?_
    · have h1 := cell_at hw'.1.1.2.2.1 0
      have h2 := cell_at hw'.1.1.2.2.1 1
      go_simp
    go_frame
    refine Frm.wh_take 10 53 (.bool true) rfl rfl (by kernel_rfl) (fun _ _ _ h => h) rfl (HS.out) (fun w' hw' => ?_) ?_
    · go_simp
    go_frame
    refine Frm.wh_take 11 54 (.bool true) rfl rfl (by kernel_rfl) (fun _ _ _ h => h) rfl (HS.out) (fun w' hw' => ?_) ?_
    · go_simp
    go_frame
    refine Frm.wh_take 12 55 (.bool true) rfl rfl (by kernel_rfl) (fun _ _ _ h => h) rfl (HS.out) (fun w' hw' => ?_) ?_
    · exact rfl
    go_frame
    refine Frm.wh_take 13 56 (.bool ub) rfl rfl (by kernel_rfl) (fun _ _ _ h => h) rfl (HS.out) (fun w' hw' => ?_) ?_
    · exact rfl
    go_frame
    refine Frm.wh_take 14 57 (.bool ub) rfl rfl (by kernel_rfl) (fun _ _ _ h => h) rfl (HS.out) (fun w' hw' => ?_) ?_
    · exact rfl
    go_frame
    refine Frm.wh_take 15 58 (.bool true) rfl rfl (by kernel_rfl) (fun _ _ _ h => h) rfl (HS.out) (fun w' hw' => ?_) ?_
    · go_simp
    go_frame
    refine Frm.wh_take 16 59 (.bool true) rfl rfl (by kernel_rfl) (fun _ _ _ h => h) rfl (HS.out) (fun w' hw' => ?_) ?_
    · go_simp
    go_frame
    refine Frm.wh_take 17 60 (.bool true) rfl rfl (by kernel_rfl) (fun _ _ _ h => h) rfl (HS.out) (fun w' hw' => ?_) ?_
    · exact rfl
    go_frame
    refine Frm.wh_take 18 61 (.bool true) rfl rfl (by kernel_rfl) (fun _ _ _ h => h) rfl (HS.out) (fun w' hw' => ?_) ?_
    · exact rfl
    go_frame
    refine Frm.wh_take 19 62 (.bool true) rfl rfl (by kernel_rfl) (fun _ _ _ h => h) rfl (HS.out) (fun w' hw' => ?_) ?_
    · go_simp
    go_frame
    refine Frm.wh_take 20 63 (.bool true) rfl rfl (by kernel_rfl) (fun _ _ _ h => h) rfl (HS.out) (fun w' hw' => ?_) ?_
    · exact rfl
    go_frame
    refine Frm.wh_take 21 64 (.agg #[.string k, .string v]) rfl rfl (by kernel_rfl) (fun _ _ _ h => h) rfl (HS.out) (fun w' hw' => ?_) ?_
    · have h1 := cell_at hw'.1.1.2.2.2 0
      have h2 := cell_at hw'.1.1.2.2.2 1
      go_simp
    go_frame
    refine Frm.wh_take 22 65 (.agg #[.string k, .string v]) rfl rfl (by kernel_rfl) (fun _ _ _ h => h) rfl (HS.out) (fun w' hw' => ?_) ?_
    · have h1 := cell_at hw'.1.1.1 0
      have h2 := cell_at hw'.1.1.1 1
      go_simp
    go_frame
    refine Frm.wh_take 23 66 (.bool true) rfl rfl (by kernel_rfl) (fun _ _ _ h => h) rfl (HS.out) (fun w' hw' => ?_) ?_
    · go_simp
    go_frame
    refine Frm.wh_take 24 67 (.bool true) rfl rfl (by kernel_rfl) (fun _ _ _ h => h) rfl (HS.out) (fun w' hw' => ?_) ?_
    · go_simp
    go_frame
    refine Frm.wh_take 25 68 (.bool true) rfl rfl (by kernel_rfl) (fun _ _ _ h => h) rfl (HS.out) (fun w' hw' => ?_) ?_
    · exact rfl
    go_frame
    refine Frm.wh_call 26 69 32 #[] rfl rfl (by kernel_rfl) rfl ?_ ?_
    · go_simp
    refine (HKN.out w2).mono ?_
    rintro e w3 ⟨rfl, hb⟩
    have HB1 := Lib.hid (HB.out.trans (hb.mono HB.out.size))
    have HC1 : Hid (Jou.CvS A1 sz c1 xs w3) := Lib.hid (run_string_of w3 _ sz c1 A1 _ (HO1.out.below hb).byts)
    have HC2 : Hid (Jou.CvS A2 sz c2 xs w3) := Lib.hid (run_string_of w3 _ sz c2 A2 _ (HO2.out.below hb).byts)
    have HSN := Lib.hid (bx4_below HS.out.1.1 hb)
    clear HS HB hb HO1 HO2
    have HB := HB1
    have HS := Lib.hid (And.intro (And.intro HSN.out HC1.out) HC2.out)
    clear HB1 HSN HC1 HC2
    refine ⟨_, rfl, HS.out, ?_⟩
    go_frame
    refine Frm.wh_take 27 70 (.bool true) rfl rfl (by kernel_rfl) (fun _ _ _ h => h) rfl (HS.out) (fun w' hw' => ?_) ?_
    · go_simp
    go_frame
    refine Frm.wh_take 28 4 (.bool true) rfl rfl (by kernel_rfl) (fun _ _ _ h => h) rfl (HS.out) (fun w' hw' => ?_) ?_
    · exact rfl
    go_frame
    refine wpAnyH_done (by kernel_rfl) ?_ _
    go_wp2_with fail
    go_ret
    exact ⟨rfl, HB.out⟩
  · have HB0 := Lib.hid (Frm.alloc_below w (.cells #[.string k, .string v] 61))
    have HX0 := Lib.hid (heap_alloc_new w (.cells #[.string k, .string v] 61))
    unfold entV
    dsimp only
    go_enter Tryz.func4, Tryz.ntmps4
    go_upto_region 1 with fail
    generalize w.alloc (.cells #[.string k, .string v] 61) = w1 at *
    have x0 := cell_at HX0.out 0
    have x1 := cell_at HX0.out 1
    have HK1 := Lib.hid (HKN.out w1)
    rcases (show (1500 : Int) < k.size ∨ ((k.size : Int) ≤ 1500 ∧ (1500 : Int) < v.size) ∨ ((k.size : Int) ≤ 1500 ∧ (v.size : Int) ≤ 1500 ∧ (1500 : Int) < n) by omega) with i1 | ⟨i1, i2⟩ | ⟨i1, i2, i3⟩
    · go_wp2_with fail
      refine HK1.out.mono ?_
      rintro e w2 ⟨rfl, hb⟩
      have HB2 := Lib.hid (HB0.out.trans (hb.mono HB0.out.size))
      clear hb
      go_wp2_with fail
      go_ret
      exact ⟨rfl, HB2.out⟩
    · go_wp2_with fail
      refine HK1.out.mono ?_
      rintro e w2 ⟨rfl, hb⟩
      have HB2 := Lib.hid (HB0.out.trans (hb.mono HB0.out.size))
      clear hb
      go_wp2_with fail
      go_ret
      exact ⟨rfl, HB2.out⟩
    · go_wp2_with fail
      refine HK1.out.mono ?_
      rintro e w2 ⟨rfl, hb⟩
      have HB2 := Lib.hid (HB0.out.trans (hb.mono HB0.out.size))
      clear hb
      go_wp2_with fail
      go_ret
      exact ⟨rfl, HB2.out⟩
end Go.Proofs.YtdjhlhellkajfaaGreat.Cch
