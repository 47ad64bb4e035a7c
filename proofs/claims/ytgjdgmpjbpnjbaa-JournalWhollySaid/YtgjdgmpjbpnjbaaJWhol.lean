/-
  The walk of the statement on crashes: behind any crash a journal has just what it had, or that and what was on its way, wholly. Conditions: the acts, the numbers lie where they came in.
-/
import Derived.Test.YtgjdgmpjbpnjbaaJCase
import Derived.Deep.DeepCutAuto
import Derived.Deep.CutBlock
namespace Go.Proofs.Ytgjdgmpjbpnjbaa.Jou
open Go.RowKit Codec FrameM Cod JourM
open Disk (Turn Dk Dsk ptr Now Made Nums fresh)
set_option maxRecDepth 100000
/-- The blocks that a journal's calls turn. -/
def Own (j g gs gm : Nat) (v : Value) : List Nat := [j, g, gs, gm] ++ v.ownBlock.toList
/-- Between two acts: the journal is at rest, has is what it has. -/
def Lp (w wr : World) (g gs gm G : Nat) (p has : Value) : Prop :=
  ∃ lo j d jr v A n c, p = .pointer (some ⟨j, 0, none⟩) ∧ has = .slice A n c ∧ Jn wr lo j g gs gm d jr v ∧ JourM.Rest d jr ∧ d.n = 40 ∧ jr.gen ≤ G ∧ RowsB wr (Own j g gs gm v) A n jr.gs ∧ w.heap.size ≤ j ∧ Below w.heap.size w wr
/-- Behind an act. -/
def Md (w wr : World) (g gs gm j G : Nat) (has may : Value) : Prop :=
  ∃ lo d jr v hs ms A n c A2 n2 c2, has = .slice A n c ∧ may = .slice A2 n2 c2 ∧ Jn wr lo j g gs gm d jr v ∧ After d jr hs ms G ∧ RowsB wr (Own j g gs gm v) A n hs ∧ RowsB wr (Own j g gs gm v) A2 n2 ms ∧ n ≤ 1000000 ∧ n2 ≤ 1000000 ∧ Below w.heap.size w wr
theorem rows_after {w w' : World} {j g gs gm n : Nat} {v v' : Value} {A : Option Addr} {ls : List (List UInt8)} (h : RowsB w (Own j g gs gm v) A n ls) (ht : Turn (Own j g gs gm v) w w') (hv : ∀ r, v'.ownBlock = some r → v.ownBlock = some r ∨ w.heap.size ≤ r) : RowsB w' (Own j g gs gm v') A n ls := by
  have h1 : RowsB w (Own j g gs gm v ++ Own j g gs gm v') A n ls := h.sub fun k hk => by
    rcases List.mem_append.1 hk with hk | hk
    · exact .inl hk
    · rcases List.mem_append.1 hk with hk | hk
      · exact .inl (List.mem_append_left _ hk)
      · rcases hv k (by simpa using hk) with e | e
        · exact .inl (List.mem_append_right _ (by simpa using e))
        · exact .inr e
  exact (h1.turn ht (fun k hk => .inl (List.mem_append_left _ hk))).sub fun k hk => .inl (List.mem_append_right _ hk)
theorem i64_and15 (n : Int) : bits .and .i64 n 15 = n % 16 := by
  have h3 : (BitVec.ofInt 64 15).toNat = 2 ^ 4 - 1 := by decide
  have key : (BitVec.ofInt 64 n &&& BitVec.ofInt 64 15).toNat = (n % ((2 ^ 64 : Nat) : Int)).toNat % 2 ^ 4 := by
    rw [BitVec.toNat_and, BitVec.toNat_ofInt, h3, Nat.and_two_pow_sub_one_eq_mod]
  show IntKind.i64.wrap ((BitVec.ofInt 64 n &&& BitVec.ofInt 64 15).toNat : Nat) = n % 16
  rw [key, IntKind.wrap_i64]
  omega
theorem and_low (x : Int) : 0 ≤ bits .and .i64 x 15 ∧ bits .and .i64 x 15 ≤ 15 := by
  rw [i64_and15]
  omega
theorem open_rest (w : World) (g gs gm : Nat) (d : Dsk) (jr : Jr) (h : Dk w g gs gm d) (hr : JourM.Rest d jr) (hb : jr.gen < 9223372036854775807) : Calls Try.prog 8 #[ptr g] w (Opened w g gs gm d jr) := by
  obtain ⟨h1, h2, h3⟩ := hr.opened
  have hnw := hr.good.newest
  have h11 := hr.good.one
  have := open_old w g gs gm d h hr.n8 hr.off (by omega) (by omega)
  rwa [h2, h3] at this
set_option maxHeartbeats 2000000 in
theorem wholly_any (w : World) (n c n2 c2 : Nat) (A A2 : Option Addr) (zs : List Int) (hacts : Acts w w.heap.size A n) (hn : n ≤ maxLen) (hz : NumsB w w.heap.size A2 n2 zs) (hzb : ∀ z ∈ zs, -9223372036854775808 ≤ z ∧ z ≤ 9223372036854775807) (hn2 : n2 ≤ maxLen) :
    Calls Try.prog 3 #[.slice A n c, .slice A2 n2 c2] w (EndsBelow (.bool true) w) := by
  obtain ⟨X, bb, oo, hX⟩ := hacts.fn
  have HX := Lib.hid hX
  have HZ := Lib.hid (And.intro hz hzb)
  have HLI := Lib.hid (light_any w w.heap.size n c A X bb oo hX hn (Nat.le_refl _))
  have HK := Lib.hid (fun u => knows_any u)
  have HN40 := Lib.hid (fun u => Disk.new_disk u 40 (by omega) (by omega))
  have hn2i : (n2 : Int) ≤ 9223372036854775 * 1024 := by unfold maxLen at hn2; omega
  have HN2 := Lib.hid hn2i
  clear hacts hX hz hzb hn hn2 hn2i
  go_enter Try.func3, Try.ntmps3
  go_wp2_with fail
  refine HLI.out.mono ?_
  rintro e w0 ⟨h0, L, rfl, hL⟩
  replace h0 := h0.symm
  subst h0
  have HL := Lib.hid hL
  clear hL HLI
  cases L with
  | false =>
    go_wp2_with fail
    refine (HK.out _).mono ?_
    rintro e w1 ⟨rfl, hb⟩
    have HB := Lib.hid hb
    clear hb
    go_wp2_with fail
    go_ret
    exact ⟨rfl, HB.out⟩
  | true =>
    by_cases h20 : (20 : Int) < (n2 : Int)
    · go_wp2_with fail
      refine (HK.out _).mono ?_
      rintro e w1 ⟨rfl, hb⟩
      have HB := Lib.hid hb
      clear hb
      go_wp2_with fail
      go_ret
      exact ⟨rfl, HB.out⟩
    · have h20' : (n2 : Int) ≤ 20 := by omega
      clear h20
      go_wp2_with fail
      refine (HK.out _).mono ?_
      rintro e w1 ⟨rfl, hb⟩
      have HB1 := Lib.hid hb
      have HN := Lib.hid (HN40.out w1)
      clear hb HK
      go_wp2_with fail
      refine HN.out.mono ?_
      rintro e w2 ⟨g, gs, gm, rfl, hdk, ht, g1, g2, g3⟩
      have HB2 := Lib.hid (HB1.out.trans (ht.low (base := w.heap.size) (by simp) HB1.out.size))
      have HG : Hid (w.heap.size ≤ g ∧ w.heap.size ≤ gs ∧ w.heap.size ≤ gm) := Lib.hid (by have := HB1.out.size; omega)
      have HO := Lib.hid (open_new w2 g gs gm (fresh 40) hdk (by show 8 ≤ 40; omega) rfl (fresh_newest 40 (by omega)))
      have HFO := Lib.hid (fresh_open 40 (by omega) (by omega))
      clear hdk ht g1 g2 g3 HN HN40 HB1
      unfold ptr at *
      go_wp2_with fail
      refine HO.out.mono fun e w3 hx => ?_
      replace hx := hx.resolve_right fun hh => by have := HFO.out.1; rw [hh.1] at this; cases this
      obtain ⟨_, lo, j, v, rfl, hj, ht, hlj⟩ := hx
      have HLP : Hid (Lp w w3 g gs gm 1 (.pointer (some ⟨j, 0, none⟩)) (.slice none 0 0)) := Lib.hid (by
        rw [HFO.out.2.1] at hj
        exact ⟨lo, j, _, _, v, none, 0, 0, rfl, rfl, hj, HFO.out.2.2.1, openD_n _, Nat.le_refl _, RowsB.none_, Nat.le_trans HB2.out.size hlj, low_turn HB2.out ht (by have := HG.out; intro q hq; simp at hq; omega)⟩)
      clear hj ht hlj HO HB2 HFO
      unfold ptr at *
      go_wp2_with (first
  | (go_at_call 9; refine (num_any _ _).mono ?_; rintro e u ⟨rfl, rfl⟩))
      have hn60 : (n : Int) ≤ 60 := by have := (HL.out trivial).1; omega
      go_loopw [7, 9, 10, 11] (fun p has _ i wr => ∃ k : Nat, k ≤ n ∧ i = .int .i64 k ∧ Lp w wr g gs gm (1 + k) p has) (fun _ _ _ i _ => n - (Go.RowKit.intOf i).toNat)
      case atStart => exact ⟨0, by omega, rfl, HLP.out⟩
      case round =>
        obtain ⟨k, hk, rfl, hl⟩ := hrel
        clear HLP
        by_cases hlt : k < n
        · obtain ⟨lo, j', d, jr, v', A1, n1, c1, rfl, rfl, hj, hr, hn40, hG, hrow, hlj, hbel⟩ := hl
          obtain ⟨hidx0, hin⟩ := HX.out k hlt
          have hidx := fun w' => hidx0 c w'
          clear hidx0
          have hk60 : (k : Int) < 60 := by omega
          obtain ⟨y, hy⟩ : ∃ y, X k = y := ⟨_, rfl⟩
          rw [hy] at hin
          have HNL : Hid (y.nl ≤ 10) := Lib.hid (by rw [← hy]; exact (HL.out trivial).2 k hlt)
          clear hy
          have HIN := Lib.hid hin
          clear hin
          have HA := Lib.hid (HIN.out.below hbel)
          have k0 := HA.out.c0
          have k1 := HA.out.c1
          have k2 := HA.out.c2
          have k3 := HA.out.c3
          have k4 := HA.out.c4
          have HJ := Lib.hid hj
          have HR := Lib.hid (And.intro hr (And.intro hn40 hG))
          have HROW := Lib.hid hrow
          have HLJ := Lib.hid hlj
          have HBEL := Lib.hid hbel
          have HN1 : Hid (n1 ≤ 1000000) := Lib.hid (by have h1 := hrow.len; have h2 := takes_length jr.gs; have h3 := hj.room16.2; omega)
          have HN1B : Hid (n1 + 1 ≤ 1000000) := Lib.hid (by have h1 := hrow.len; have h2 := takes_length jr.gs; have h3 := hj.room16.2; omega)
          clear hj hr hn40 hG hrow hlj hbel
          obtain ⟨kd, hkd⟩ : ∃ q, y.kind = q := ⟨_, rfl⟩
          rw [hkd] at k0
          clear hkd
          go_upto_block 2 with fail
          go_cut [9, 10] (fun has may wc => Md w wc g gs gm j' (2 + k) has may)
          case first =>
            rcases (show kd = 0 ∨ kd = 1 ∨ kd = 2 ∨ kd = 3 ∨ (kd ≠ 0 ∧ kd ≠ 1 ∧ kd ≠ 2 ∧ kd ≠ 3) by omega) with h0 | h0 | h0 | h0 | h0
            · as_aux_lemma =>
                subst h0
                have HRB : Hid (Bts wr [j', g, gs, gm] y.Ab y.bs.length y.bs) := Lib.hid (Bts.of_byts HA.out.byts HBEL.out.size (by have := HG.out; have := HLJ.out; intro q hq; simp at hq; omega))
                have HRS := Lib.hid (append_any wr lo j' g gs gm d jr v' y.bs.length y.cb y.Ab y.bs HJ.out HRB.out HA.out.bc HA.out.bm)
                have HLAW := Lib.hid (app_law (G := 2 + k) HR.out.1 HR.out.2.1 (by have := HR.out.2.2; omega) y.bs)
                generalize appE d jr y.bs = z at *
                generalize appD d jr y.bs = d1 at *
                generalize appJ d jr y.bs = jr1 at *
                unfold ptr at *
                go_wp2_with fail
                refine HRS.out.mono ?_
                rintro e w1 ⟨rfl, v1, hj1, ht1, hv1⟩
                have HROW1 := Lib.hid (rows_after HROW.out ht1 hv1)
                have HB1 := Lib.hid (low_turn HBEL.out ht1 (HJ.out.owns_low HLJ.out HG.out))
                have HJ1 := Lib.hid hj1
                have HLOW : Hid (∀ q ∈ Own j' g gs gm v1, q < w1.heap.size) := Lib.hid hj1.owns_lt
                have HSL : Hid (Bts w1 (Own j' g gs gm v1) y.Ab y.bs.length y.bs ∧ y.bs.length ≤ y.cb ∧ y.cb ≤ maxLen) := Lib.hid ⟨Bts.of_byts (HIN.out.below HB1.out).byts HB1.out.size (hj1.owns_low HLJ.out HG.out), HIN.out.bc, HIN.out.bm⟩
                have HSF : Hid (∀ u : World, Below w1.heap.size w1 u → u.cell? ⟨bb k, oo k + 2, none⟩ = some (.slice y.Ab y.bs.length y.cb)) := Lib.hid (fun u hu => (HIN.out.below (HB1.out.trans (hu.mono HB1.out.size))).c2)
                clear hj1 ht1 hv1 HRS HRB k1 k2 k3 k4
                go_upto_region 16 with (first
                  | (go_at_call 9; refine (num_any _ _).mono ?_; rintro e u ⟨rfl, rfl⟩))
                go_cut [13] (fun more U => ∃ A5 c5, more = .slice A5 (n1 + 1) c5 ∧ RowsB U (Own j' g gs gm v1) A5 (n1 + 1) (jr.gs ++ [y.bs]) ∧ Below w1.heap.size w1 U)
                case first =>
                  as_aux_lemma =>
                    have HB := Lib.hid (Below.refl w1.heap.size w1).drew
                    refine Frm.wh_start (fun u => u.cell? ⟨bb k, oo k + 2, none⟩ = some (.slice y.Ab y.bs.length y.cb)) (by kernel_rfl) ?_
                    generalize w1.drew = u0 at *
                    refine Frm.wh_take 1 69 (.slice A1 n1 c1) rfl rfl (by kernel_rfl) (fun _ _ _ h => h) rfl (HSF.out _ HB.out) (fun w' hw' => ?_) ?_
                    · exact rfl
                    go_frame
                    refine Frm.wh_take 3 71 (.slice A n c) rfl rfl (by kernel_rfl) (fun _ _ _ h => h) rfl (HSF.out _ HB.out) (fun w' hw' => ?_) ?_
                    · exact rfl
                    go_frame
                    refine Frm.wh_take 4 72 (.int .i64 k) rfl rfl (by kernel_rfl) (fun _ _ _ h => h) rfl (HSF.out _ HB.out) (fun w' hw' => ?_) ?_
                    · exact rfl
                    go_frame
                    refine Frm.wh_take 5 73 (.pointer (some ⟨bb k, oo k, none⟩)) rfl rfl (by kernel_rfl) (fun _ _ _ h => h) rfl (HSF.out _ HB.out) (fun w' hw' => ?_) ?_
                    · go_simp
                    go_frame
                    refine Frm.wh_take 6 74 (.pointer (some ⟨bb k, oo k + 2, none⟩)) rfl rfl (by kernel_rfl) (fun _ _ _ h => h) rfl (HSF.out _ HB.out) (fun w' hw' => ?_) ?_
                    · go_simp
                    go_frame
                    refine Frm.wh_take 7 75 (.slice y.Ab y.bs.length y.cb) rfl rfl (by kernel_rfl) (fun _ _ _ h => h) rfl (HSF.out _ HB.out) (fun w' hw' => ?_) ?_
                    · go_simp
                    go_frame
                    refine Frm.wh_all2 0 8 (by kernel_rfl) ?_ ?_
                    · refine Frm.wo_run 68 (.slice (some ⟨u0.heap.size, 0, none⟩) 0 0) (u0.alloc (.cells #[] 35)) rfl rfl rfl ?_ ⟨HSF.out _ (HB.out.alloc HB.out.size _), ?_⟩
                      · go_simp
                      go_frame
                      have HV := Lib.hid (Vr.new (W := w1) (u := u0) (S := Own j' g gs gm v1) HB.out.size)
                      have HPL : Hid (u0.heap.size < (u0.alloc (.cells #[] 35)).heap.size) := Lib.hid (by rw [World.size_alloc]; omega)
                      have HB := Lib.hid (HB.out.alloc HB.out.size (.cells #[] 35))
                      generalize u0.alloc (.cells #[] 35) = ua at *
                      generalize u0.heap.size = bp at *
                      refine Frm.wh_all2 2 8 (by kernel_rfl) ?_ ?_
                      · refine wo_vr 70 rfl rfl rfl (.tmp 68) (.tmp 69) rfl w1 (Own j' g gs gm v1) (.slice (some ⟨bp, 0, none⟩) 0 0) 0 [] rfl HV.out A1 n1 c1 jr.gs rfl HROW1.out.len (HROW1.out.sl HB.out) n1 (by omega) HN1.out HB.out.size ?_
                        intro A5 c5 w5 hv5 hg5
                        have HB := Lib.hid (HB.out.trans (HV.out.below_own HB.out.size hg5))
                        have HV := Lib.hid hv5
                        clear hv5 hg5
                        refine ⟨HSF.out _ HB.out, ?_⟩
                        go_frame
                        refine Frm.wh_all1 8 (by kernel_rfl) ?_
                        refine Frm.wo_run 76 (.slice (some ⟨w5.heap.size, 0, none⟩) 1 1) (w5.alloc (.cells #[.slice y.Ab y.bs.length y.cb] 35)) rfl rfl rfl ?_ ⟨HSF.out _ (HB.out.alloc HB.out.size _), ?_⟩
                        · go_simp
                        go_frame
                        have HX : Hid ((w5.alloc (.cells #[.slice y.Ab y.bs.length y.cb] 35)).heap[w5.heap.size]? = some (.cells #[.slice y.Ab y.bs.length y.cb] 35 (0, 0))) := Lib.hid (heap_alloc_new w5 _)
                        have HV := Lib.hid (HV.out.alloc (.cells #[.slice y.Ab y.bs.length y.cb] 35))
                        have HB := Lib.hid (HB.out.alloc HB.out.size (.cells #[.slice y.Ab y.bs.length y.cb] 35))
                        generalize w5.alloc (.cells #[.slice y.Ab y.bs.length y.cb] 35) = ux at *
                        generalize w5.heap.size = bx at *
                        refine Frm.wh_all1 9 (by kernel_rfl) ?_
                        refine wo_vr 77 rfl rfl rfl (.tmp 70) (.tmp 76) rfl w1 (Own j' g gs gm v1) (.slice A5 n1 c5) n1 ([] ++ jr.gs) rfl HV.out (some ⟨bx, 0, none⟩) 1 1 [y.bs] rfl rfl (one_sl HX.out HSL.out.1 HSL.out.2.1 HSL.out.2.2) (n1 + 1) rfl HN1B.out HB.out.size ?_
                        intro A5 c5 w5 hv5 hg5
                        have HB := Lib.hid (HB.out.trans (HV.out.below_own HB.out.size hg5))
                        have HV := Lib.hid hv5
                        clear hv5 hg5 HX
                        refine ⟨HSF.out _ HB.out, ?_⟩
                        go_frame
                        refine Frm.wh_take 10 13 (.slice A5 (n1 + 1) c5) rfl rfl (by kernel_rfl) (fun _ _ _ h => h) rfl (HSF.out _ HB.out) (fun w' hw' => ?_) ?_
                        · exact rfl
                        go_frame
                        refine wpAnyH_done (by kernel_rfl) ?_ _
                        go_wp2_with fail
                        go_meet
                        exact ⟨A5, c5, rfl, by simpa using (HV.out.rows HB.out HLOW.out), HB.out⟩
                      · refine Frm.wo_run 76 (.slice (some ⟨ua.heap.size, 0, none⟩) 1 1) (ua.alloc (.cells #[.slice y.Ab y.bs.length y.cb] 35)) rfl rfl rfl ?_ ⟨HSF.out _ (HB.out.alloc HB.out.size _), ?_⟩
                        · go_simp
                        go_frame
                        have HX : Hid ((ua.alloc (.cells #[.slice y.Ab y.bs.length y.cb] 35)).heap[ua.heap.size]? = some (.cells #[.slice y.Ab y.bs.length y.cb] 35 (0, 0))) := Lib.hid (heap_alloc_new ua _)
                        have HV := Lib.hid (HV.out.alloc (.cells #[.slice y.Ab y.bs.length y.cb] 35))
                        have HPX : Hid (bp ≠ ua.heap.size) := Lib.hid (by have := HPL.out; omega)
                        have HB := Lib.hid (HB.out.alloc HB.out.size (.cells #[.slice y.Ab y.bs.length y.cb] 35))
                        generalize ua.alloc (.cells #[.slice y.Ab y.bs.length y.cb] 35) = ux at *
                        generalize ua.heap.size = bx at *
                        refine Frm.wh_all1 2 (by kernel_rfl) ?_
                        refine wo_vr 70 rfl rfl rfl (.tmp 68) (.tmp 69) rfl w1 (Own j' g gs gm v1) (.slice (some ⟨bp, 0, none⟩) 0 0) 0 [] rfl HV.out A1 n1 c1 jr.gs rfl HROW1.out.len (HROW1.out.sl HB.out) n1 (by omega) HN1.out HB.out.size ?_
                        intro A5 c5 w5 hv5 hg5
                        have HX := Lib.hid ((hg5.block bx (lt_of_heap HX.out) (fun e => HPX.out (by simpa [Value.ownBlock] using e.symm))).trans HX.out)
                        have HB := Lib.hid (HB.out.trans (HV.out.below_own HB.out.size hg5))
                        have HV := Lib.hid hv5
                        clear hv5 hg5
                        refine ⟨HSF.out _ HB.out, ?_⟩
                        go_frame
                        refine Frm.wh_all1 9 (by kernel_rfl) ?_
                        refine wo_vr 77 rfl rfl rfl (.tmp 70) (.tmp 76) rfl w1 (Own j' g gs gm v1) (.slice A5 n1 c5) n1 ([] ++ jr.gs) rfl HV.out (some ⟨bx, 0, none⟩) 1 1 [y.bs] rfl rfl (one_sl HX.out HSL.out.1 HSL.out.2.1 HSL.out.2.2) (n1 + 1) rfl HN1B.out HB.out.size ?_
                        intro A5 c5 w5 hv5 hg5
                        have HB := Lib.hid (HB.out.trans (HV.out.below_own HB.out.size hg5))
                        have HV := Lib.hid hv5
                        clear hv5 hg5 HX
                        refine ⟨HSF.out _ HB.out, ?_⟩
                        go_frame
                        refine Frm.wh_take 10 13 (.slice A5 (n1 + 1) c5) rfl rfl (by kernel_rfl) (fun _ _ _ h => h) rfl (HSF.out _ HB.out) (fun w' hw' => ?_) ?_
                        · exact rfl
                        go_frame
                        refine wpAnyH_done (by kernel_rfl) ?_ _
                        go_wp2_with fail
                        go_meet
                        exact ⟨A5, c5, rfl, by simpa using (HV.out.rows HB.out HLOW.out), HB.out⟩
                    · refine Frm.wo_run 76 (.slice (some ⟨u0.heap.size, 0, none⟩) 1 1) (u0.alloc (.cells #[.slice y.Ab y.bs.length y.cb] 35)) rfl rfl rfl ?_ ⟨HSF.out _ (HB.out.alloc HB.out.size _), ?_⟩
                      · go_simp
                      go_frame
                      have HX : Hid ((u0.alloc (.cells #[.slice y.Ab y.bs.length y.cb] 35)).heap[u0.heap.size]? = some (.cells #[.slice y.Ab y.bs.length y.cb] 35 (0, 0))) := Lib.hid (heap_alloc_new u0 _)
                      have HB := Lib.hid (HB.out.alloc HB.out.size (.cells #[.slice y.Ab y.bs.length y.cb] 35))
                      generalize u0.alloc (.cells #[.slice y.Ab y.bs.length y.cb] 35) = ux at *
                      generalize u0.heap.size = bx at *
                      refine Frm.wh_all1 0 (by kernel_rfl) ?_
                      refine Frm.wo_run 68 (.slice (some ⟨ux.heap.size, 0, none⟩) 0 0) (ux.alloc (.cells #[] 35)) rfl rfl rfl ?_ ⟨HSF.out _ (HB.out.alloc HB.out.size _), ?_⟩
                      · go_simp
                      go_frame
                      have HV := Lib.hid (Vr.new (W := w1) (u := ux) (S := Own j' g gs gm v1) HB.out.size)
                      have HPL : Hid (ux.heap.size < (ux.alloc (.cells #[] 35)).heap.size) := Lib.hid (by rw [World.size_alloc]; omega)
                      have HPX : Hid (ux.heap.size ≠ bx) := Lib.hid (by have := lt_of_heap HX.out; omega)
                      have HX := Lib.hid ((Below.heap_alloc ux (.cells #[] 35) _ (lt_of_heap HX.out)).trans HX.out)
                      have HB := Lib.hid (HB.out.alloc HB.out.size (.cells #[] 35))
                      generalize ux.alloc (.cells #[] 35) = ua at *
                      generalize ux.heap.size = bp at *
                      refine Frm.wh_all1 2 (by kernel_rfl) ?_
                      refine wo_vr 70 rfl rfl rfl (.tmp 68) (.tmp 69) rfl w1 (Own j' g gs gm v1) (.slice (some ⟨bp, 0, none⟩) 0 0) 0 [] rfl HV.out A1 n1 c1 jr.gs rfl HROW1.out.len (HROW1.out.sl HB.out) n1 (by omega) HN1.out HB.out.size ?_
                      intro A5 c5 w5 hv5 hg5
                      have HX := Lib.hid ((hg5.block bx (lt_of_heap HX.out) (fun e => HPX.out (by simpa [Value.ownBlock] using e.symm))).trans HX.out)
                      have HB := Lib.hid (HB.out.trans (HV.out.below_own HB.out.size hg5))
                      have HV := Lib.hid hv5
                      clear hv5 hg5
                      refine ⟨HSF.out _ HB.out, ?_⟩
                      go_frame
                      refine Frm.wh_all1 9 (by kernel_rfl) ?_
                      refine wo_vr 77 rfl rfl rfl (.tmp 70) (.tmp 76) rfl w1 (Own j' g gs gm v1) (.slice A5 n1 c5) n1 ([] ++ jr.gs) rfl HV.out (some ⟨bx, 0, none⟩) 1 1 [y.bs] rfl rfl (one_sl HX.out HSL.out.1 HSL.out.2.1 HSL.out.2.2) (n1 + 1) rfl HN1B.out HB.out.size ?_
                      intro A5 c5 w5 hv5 hg5
                      have HB := Lib.hid (HB.out.trans (HV.out.below_own HB.out.size hg5))
                      have HV := Lib.hid hv5
                      clear hv5 hg5 HX
                      refine ⟨HSF.out _ HB.out, ?_⟩
                      go_frame
                      refine Frm.wh_take 10 13 (.slice A5 (n1 + 1) c5) rfl rfl (by kernel_rfl) (fun _ _ _ h => h) rfl (HSF.out _ HB.out) (fun w' hw' => ?_) ?_
                      · exact rfl
                      go_frame
                      refine wpAnyH_done (by kernel_rfl) ?_ _
                      go_wp2_with fail
                      go_meet
                      exact ⟨A5, c5, rfl, by simpa using (HV.out.rows HB.out HLOW.out), HB.out⟩
                case rest =>
                  as_aux_lemma =>
                    obtain ⟨A5, c5, rfl, hr5, hb5⟩ := hcut
                    have HMR := Lib.hid hr5
                    have HJ5 := Lib.hid (HJ1.out.below hb5)
                    have HROW5 := Lib.hid (HROW1.out.below hb5)
                    have HB5 := Lib.hid (HB1.out.trans (hb5.mono HB1.out.size))
                    clear hr5 hb5 HJ1 HROW1 HB1 HSL HLOW HSF
                    rcases HLAW.out with ⟨hz, hA⟩ | ⟨hz, hA⟩ | ⟨hz, hA⟩
                    · subst hz
                      have HAF := Lib.hid hA
                      clear hA HLAW
                      go_wp2_with (first
                        | (go_at_call 9; refine (num_any _ _).mono ?_; rintro e u ⟨rfl, rfl⟩))
                      go_meet
                      exact ⟨lo, d1, jr1, v1, jr.gs ++ [y.bs], jr.gs, A5, n1 + 1, c5, A1, n1, c1, rfl, rfl, HJ5.out, HAF.out _, HMR.out, HROW5.out, HN1B.out, HN1.out, HB5.out⟩
                    · rcases hz with hz | hz
                      · subst hz
                        have HAF := Lib.hid hA
                        clear hA HLAW
                        go_wp2_with (first
                          | (go_at_call 9; refine (num_any _ _).mono ?_; rintro e u ⟨rfl, rfl⟩))
                        go_meet
                        exact ⟨lo, d1, jr1, v1, jr.gs, jr.gs, A1, n1, c1, A1, n1, c1, rfl, rfl, HJ5.out, HAF.out _, HROW5.out, HROW5.out, HN1.out, HN1.out, HB5.out⟩
                      · subst hz
                        have HAF := Lib.hid hA
                        clear hA HLAW
                        go_wp2_with (first
                          | (go_at_call 9; refine (num_any _ _).mono ?_; rintro e u ⟨rfl, rfl⟩))
                        go_meet
                        exact ⟨lo, d1, jr1, v1, jr.gs, jr.gs, A1, n1, c1, A1, n1, c1, rfl, rfl, HJ5.out, HAF.out _, HROW5.out, HROW5.out, HN1.out, HN1.out, HB5.out⟩
                    · subst hz
                      have HAF := Lib.hid hA
                      clear hA HLAW
                      have HSM := Lib.hid (same_any wc n1 c1 (n1 + 1) c5 A1 A5 jr.gs (jr.gs ++ [y.bs]) (HROW5.out.sub (by simp)) (HMR.out.sub (by simp)) HN1.out HN1B.out)
                      have hdd : decide (jr.gs = jr.gs ++ [y.bs]) = false := by simp
                      rw [hdd] at HSM
                      clear hdd
                      go_wp2_with (first
                        | (go_at_call 9; refine (num_any _ _).mono ?_; rintro e u ⟨rfl, rfl⟩))
                      refine HSM.out.mono ?_
                      rintro e w6 ⟨rfl, hb6⟩
                      have HJ6 := Lib.hid (HJ5.out.below hb6)
                      have HROW6 := Lib.hid (HROW5.out.below hb6)
                      have HMR6 := Lib.hid (HMR.out.below hb6)
                      have HB6 := Lib.hid (HB5.out.trans (hb6.mono HB5.out.size))
                      clear hb6 HSM HJ5 HROW5 HMR HB5
                      go_wp2_with fail
                      go_meet
                      exact ⟨lo, d1, jr1, v1, jr.gs, jr.gs ++ [y.bs], A1, n1, c1, A5, n1 + 1, c5, rfl, rfl, HJ6.out, HAF.out, HROW6.out, HMR6.out, HN1.out, HN1B.out, HB6.out⟩
            · as_aux_lemma =>
                subst h0
                have HRB : Hid (Bts wr [j', g, gs, gm] y.Ab y.bs.length y.bs) := Lib.hid (Bts.of_byts HA.out.byts HBEL.out.size (by have := HG.out; have := HLJ.out; intro q hq; simp at hq; omega))
                have HRS := Lib.hid (append_any wr lo j' g gs gm d jr v' y.bs.length y.cb y.Ab y.bs HJ.out HRB.out HA.out.bc HA.out.bm)
                have HLAW := Lib.hid (app_law (G := 2 + k) HR.out.1 HR.out.2.1 (by have := HR.out.2.2; omega) y.bs)
                generalize appE d jr y.bs = z at *
                generalize appD d jr y.bs = d1 at *
                generalize appJ d jr y.bs = jr1 at *
                unfold ptr at *
                go_wp2_with fail
                refine HRS.out.mono ?_
                rintro e w1 ⟨rfl, v1, hj1, ht1, hv1⟩
                have HROW1 := Lib.hid (rows_after HROW.out ht1 hv1)
                have HB1 := Lib.hid (low_turn HBEL.out ht1 (HJ.out.owns_low HLJ.out HG.out))
                have HJ1 := Lib.hid hj1
                have HLOW : Hid (∀ q ∈ Own j' g gs gm v1, q < w1.heap.size) := Lib.hid hj1.owns_lt
                have HSL : Hid (Bts w1 (Own j' g gs gm v1) y.Ab y.bs.length y.bs ∧ y.bs.length ≤ y.cb ∧ y.cb ≤ maxLen) := Lib.hid ⟨Bts.of_byts (HIN.out.below HB1.out).byts HB1.out.size (hj1.owns_low HLJ.out HG.out), HIN.out.bc, HIN.out.bm⟩
                have HSF : Hid (∀ u : World, Below w1.heap.size w1 u → u.cell? ⟨bb k, oo k + 2, none⟩ = some (.slice y.Ab y.bs.length y.cb)) := Lib.hid (fun u hu => (HIN.out.below (HB1.out.trans (hu.mono HB1.out.size))).c2)
                clear hj1 ht1 hv1 HRS HRB k1 k2 k3 k4
                go_upto_region 16 with (first
                  | (go_at_call 9; refine (num_any _ _).mono ?_; rintro e u ⟨rfl, rfl⟩))
                go_cut [13] (fun more U => ∃ A5 c5, more = .slice A5 (n1 + 1) c5 ∧ RowsB U (Own j' g gs gm v1) A5 (n1 + 1) (jr.gs ++ [y.bs]) ∧ Below w1.heap.size w1 U)
                case first =>
                  as_aux_lemma =>
                    have HB := Lib.hid (Below.refl w1.heap.size w1).drew
                    refine Frm.wh_start (fun u => u.cell? ⟨bb k, oo k + 2, none⟩ = some (.slice y.Ab y.bs.length y.cb)) (by kernel_rfl) ?_
                    generalize w1.drew = u0 at *
                    refine Frm.wh_take 1 69 (.slice A1 n1 c1) rfl rfl (by kernel_rfl) (fun _ _ _ h => h) rfl (HSF.out _ HB.out) (fun w' hw' => ?_) ?_
                    · exact rfl
                    go_frame
                    refine Frm.wh_take 3 71 (.slice A n c) rfl rfl (by kernel_rfl) (fun _ _ _ h => h) rfl (HSF.out _ HB.out) (fun w' hw' => ?_) ?_
                    · exact rfl
                    go_frame
                    refine Frm.wh_take 4 72 (.int .i64 k) rfl rfl (by kernel_rfl) (fun _ _ _ h => h) rfl (HSF.out _ HB.out) (fun w' hw' => ?_) ?_
                    · exact rfl
                    go_frame
                    refine Frm.wh_take 5 73 (.pointer (some ⟨bb k, oo k, none⟩)) rfl rfl (by kernel_rfl) (fun _ _ _ h => h) rfl (HSF.out _ HB.out) (fun w' hw' => ?_) ?_
                    · go_simp
                    go_frame
                    refine Frm.wh_take 6 74 (.pointer (some ⟨bb k, oo k + 2, none⟩)) rfl rfl (by kernel_rfl) (fun _ _ _ h => h) rfl (HSF.out _ HB.out) (fun w' hw' => ?_) ?_
                    · go_simp
                    go_frame
                    refine Frm.wh_take 7 75 (.slice y.Ab y.bs.length y.cb) rfl rfl (by kernel_rfl) (fun _ _ _ h => h) rfl (HSF.out _ HB.out) (fun w' hw' => ?_) ?_
                    · go_simp
                    go_frame
                    refine Frm.wh_all2 0 8 (by kernel_rfl) ?_ ?_
                    · refine Frm.wo_run 68 (.slice (some ⟨u0.heap.size, 0, none⟩) 0 0) (u0.alloc (.cells #[] 35)) rfl rfl rfl ?_ ⟨HSF.out _ (HB.out.alloc HB.out.size _), ?_⟩
                      · go_simp
                      go_frame
                      have HV := Lib.hid (Vr.new (W := w1) (u := u0) (S := Own j' g gs gm v1) HB.out.size)
                      have HPL : Hid (u0.heap.size < (u0.alloc (.cells #[] 35)).heap.size) := Lib.hid (by rw [World.size_alloc]; omega)
                      have HB := Lib.hid (HB.out.alloc HB.out.size (.cells #[] 35))
                      generalize u0.alloc (.cells #[] 35) = ua at *
                      generalize u0.heap.size = bp at *
                      refine Frm.wh_all2 2 8 (by kernel_rfl) ?_ ?_
                      · refine wo_vr 70 rfl rfl rfl (.tmp 68) (.tmp 69) rfl w1 (Own j' g gs gm v1) (.slice (some ⟨bp, 0, none⟩) 0 0) 0 [] rfl HV.out A1 n1 c1 jr.gs rfl HROW1.out.len (HROW1.out.sl HB.out) n1 (by omega) HN1.out HB.out.size ?_
                        intro A5 c5 w5 hv5 hg5
                        have HB := Lib.hid (HB.out.trans (HV.out.below_own HB.out.size hg5))
                        have HV := Lib.hid hv5
                        clear hv5 hg5
                        refine ⟨HSF.out _ HB.out, ?_⟩
                        go_frame
                        refine Frm.wh_all1 8 (by kernel_rfl) ?_
                        refine Frm.wo_run 76 (.slice (some ⟨w5.heap.size, 0, none⟩) 1 1) (w5.alloc (.cells #[.slice y.Ab y.bs.length y.cb] 35)) rfl rfl rfl ?_ ⟨HSF.out _ (HB.out.alloc HB.out.size _), ?_⟩
                        · go_simp
                        go_frame
                        have HX : Hid ((w5.alloc (.cells #[.slice y.Ab y.bs.length y.cb] 35)).heap[w5.heap.size]? = some (.cells #[.slice y.Ab y.bs.length y.cb] 35 (0, 0))) := Lib.hid (heap_alloc_new w5 _)
                        have HV := Lib.hid (HV.out.alloc (.cells #[.slice y.Ab y.bs.length y.cb] 35))
                        have HB := Lib.hid (HB.out.alloc HB.out.size (.cells #[.slice y.Ab y.bs.length y.cb] 35))
                        generalize w5.alloc (.cells #[.slice y.Ab y.bs.length y.cb] 35) = ux at *
                        generalize w5.heap.size = bx at *
                        refine Frm.wh_all1 9 (by kernel_rfl) ?_
                        refine wo_vr 77 rfl rfl rfl (.tmp 70) (.tmp 76) rfl w1 (Own j' g gs gm v1) (.slice A5 n1 c5) n1 ([] ++ jr.gs) rfl HV.out (some ⟨bx, 0, none⟩) 1 1 [y.bs] rfl rfl (one_sl HX.out HSL.out.1 HSL.out.2.1 HSL.out.2.2) (n1 + 1) rfl HN1B.out HB.out.size ?_
                        intro A5 c5 w5 hv5 hg5
                        have HB := Lib.hid (HB.out.trans (HV.out.below_own HB.out.size hg5))
                        have HV := Lib.hid hv5
                        clear hv5 hg5 HX
                        refine ⟨HSF.out _ HB.out, ?_⟩
                        go_frame
                        refine Frm.wh_take 10 13 (.slice A5 (n1 + 1) c5) rfl rfl (by kernel_rfl) (fun _ _ _ h => h) rfl (HSF.out _ HB.out) (fun w' hw' => ?_) ?_
                        · exact rfl
                        go_frame
                        refine wpAnyH_done (by kernel_rfl) ?_ _
                        go_wp2_with fail
                        go_meet
                        exact ⟨A5, c5, rfl, by simpa using (HV.out.rows HB.out HLOW.out), HB.out⟩
                      · refine Frm.wo_run 76 (.slice (some ⟨ua.heap.size, 0, none⟩) 1 1) (ua.alloc (.cells #[.slice y.Ab y.bs.length y.cb] 35)) rfl rfl rfl ?_ ⟨HSF.out _ (HB.out.alloc HB.out.size _), ?_⟩
                        · go_simp
                        go_frame
                        have HX : Hid ((ua.alloc (.cells #[.slice y.Ab y.bs.length y.cb] 35)).heap[ua.heap.size]? = some (.cells #[.slice y.Ab y.bs.length y.cb] 35 (0, 0))) := Lib.hid (heap_alloc_new ua _)
                        have HV := Lib.hid (HV.out.alloc (.cells #[.slice y.Ab y.bs.length y.cb] 35))
                        have HPX : Hid (bp ≠ ua.heap.size) := Lib.hid (by have := HPL.out; omega)
                        have HB := Lib.hid (HB.out.alloc HB.out.size (.cells #[.slice y.Ab y.bs.length y.cb] 35))
                        generalize ua.alloc (.cells #[.slice y.Ab y.bs.length y.cb] 35) = ux at *
                        generalize ua.heap.size = bx at *
                        refine Frm.wh_all1 2 (by kernel_rfl) ?_
                        refine wo_vr 70 rfl rfl rfl (.tmp 68) (.tmp 69) rfl w1 (Own j' g gs gm v1) (.slice (some ⟨bp, 0, none⟩) 0 0) 0 [] rfl HV.out A1 n1 c1 jr.gs rfl HROW1.out.len (HROW1.out.sl HB.out) n1 (by omega) HN1.out HB.out.size ?_
                        intro A5 c5 w5 hv5 hg5
                        have HX := Lib.hid ((hg5.block bx (lt_of_heap HX.out) (fun e => HPX.out (by simpa [Value.ownBlock] using e.symm))).trans HX.out)
                        have HB := Lib.hid (HB.out.trans (HV.out.below_own HB.out.size hg5))
                        have HV := Lib.hid hv5
                        clear hv5 hg5
                        refine ⟨HSF.out _ HB.out, ?_⟩
                        go_frame
                        refine Frm.wh_all1 9 (by kernel_rfl) ?_
                        refine wo_vr 77 rfl rfl rfl (.tmp 70) (.tmp 76) rfl w1 (Own j' g gs gm v1) (.slice A5 n1 c5) n1 ([] ++ jr.gs) rfl HV.out (some ⟨bx, 0, none⟩) 1 1 [y.bs] rfl rfl (one_sl HX.out HSL.out.1 HSL.out.2.1 HSL.out.2.2) (n1 + 1) rfl HN1B.out HB.out.size ?_
                        intro A5 c5 w5 hv5 hg5
                        have HB := Lib.hid (HB.out.trans (HV.out.below_own HB.out.size hg5))
                        have HV := Lib.hid hv5
                        clear hv5 hg5 HX
                        refine ⟨HSF.out _ HB.out, ?_⟩
                        go_frame
                        refine Frm.wh_take 10 13 (.slice A5 (n1 + 1) c5) rfl rfl (by kernel_rfl) (fun _ _ _ h => h) rfl (HSF.out _ HB.out) (fun w' hw' => ?_) ?_
                        · exact rfl
                        go_frame
                        refine wpAnyH_done (by kernel_rfl) ?_ _
                        go_wp2_with fail
                        go_meet
                        exact ⟨A5, c5, rfl, by simpa using (HV.out.rows HB.out HLOW.out), HB.out⟩
                    · refine Frm.wo_run 76 (.slice (some ⟨u0.heap.size, 0, none⟩) 1 1) (u0.alloc (.cells #[.slice y.Ab y.bs.length y.cb] 35)) rfl rfl rfl ?_ ⟨HSF.out _ (HB.out.alloc HB.out.size _), ?_⟩
                      · go_simp
                      go_frame
                      have HX : Hid ((u0.alloc (.cells #[.slice y.Ab y.bs.length y.cb] 35)).heap[u0.heap.size]? = some (.cells #[.slice y.Ab y.bs.length y.cb] 35 (0, 0))) := Lib.hid (heap_alloc_new u0 _)
                      have HB := Lib.hid (HB.out.alloc HB.out.size (.cells #[.slice y.Ab y.bs.length y.cb] 35))
                      generalize u0.alloc (.cells #[.slice y.Ab y.bs.length y.cb] 35) = ux at *
                      generalize u0.heap.size = bx at *
                      refine Frm.wh_all1 0 (by kernel_rfl) ?_
                      refine Frm.wo_run 68 (.slice (some ⟨ux.heap.size, 0, none⟩) 0 0) (ux.alloc (.cells #[] 35)) rfl rfl rfl ?_ ⟨HSF.out _ (HB.out.alloc HB.out.size _), ?_⟩
                      · go_simp
                      go_frame
                      have HV := Lib.hid (Vr.new (W := w1) (u := ux) (S := Own j' g gs gm v1) HB.out.size)
                      have HPL : Hid (ux.heap.size < (ux.alloc (.cells #[] 35)).heap.size) := Lib.hid (by rw [World.size_alloc]; omega)
                      have HPX : Hid (ux.heap.size ≠ bx) := Lib.hid (by have := lt_of_heap HX.out; omega)
                      have HX := Lib.hid ((Below.heap_alloc ux (.cells #[] 35) _ (lt_of_heap HX.out)).trans HX.out)
                      have HB := Lib.hid (HB.out.alloc HB.out.size (.cells #[] 35))
                      generalize ux.alloc (.cells #[] 35) = ua at *
                      generalize ux.heap.size = bp at *
                      refine Frm.wh_all1 2 (by kernel_rfl) ?_
                      refine wo_vr 70 rfl rfl rfl (.tmp 68) (.tmp 69) rfl w1 (Own j' g gs gm v1) (.slice (some ⟨bp, 0, none⟩) 0 0) 0 [] rfl HV.out A1 n1 c1 jr.gs rfl HROW1.out.len (HROW1.out.sl HB.out) n1 (by omega) HN1.out HB.out.size ?_
                      intro A5 c5 w5 hv5 hg5
                      have HX := Lib.hid ((hg5.block bx (lt_of_heap HX.out) (fun e => HPX.out (by simpa [Value.ownBlock] using e.symm))).trans HX.out)
                      have HB := Lib.hid (HB.out.trans (HV.out.below_own HB.out.size hg5))
                      have HV := Lib.hid hv5
                      clear hv5 hg5
                      refine ⟨HSF.out _ HB.out, ?_⟩
                      go_frame
                      refine Frm.wh_all1 9 (by kernel_rfl) ?_
                      refine wo_vr 77 rfl rfl rfl (.tmp 70) (.tmp 76) rfl w1 (Own j' g gs gm v1) (.slice A5 n1 c5) n1 ([] ++ jr.gs) rfl HV.out (some ⟨bx, 0, none⟩) 1 1 [y.bs] rfl rfl (one_sl HX.out HSL.out.1 HSL.out.2.1 HSL.out.2.2) (n1 + 1) rfl HN1B.out HB.out.size ?_
                      intro A5 c5 w5 hv5 hg5
                      have HB := Lib.hid (HB.out.trans (HV.out.below_own HB.out.size hg5))
                      have HV := Lib.hid hv5
                      clear hv5 hg5 HX
                      refine ⟨HSF.out _ HB.out, ?_⟩
                      go_frame
                      refine Frm.wh_take 10 13 (.slice A5 (n1 + 1) c5) rfl rfl (by kernel_rfl) (fun _ _ _ h => h) rfl (HSF.out _ HB.out) (fun w' hw' => ?_) ?_
                      · exact rfl
                      go_frame
                      refine wpAnyH_done (by kernel_rfl) ?_ _
                      go_wp2_with fail
                      go_meet
                      exact ⟨A5, c5, rfl, by simpa using (HV.out.rows HB.out HLOW.out), HB.out⟩
                case rest =>
                  as_aux_lemma =>
                    obtain ⟨A5, c5, rfl, hr5, hb5⟩ := hcut
                    have HMR := Lib.hid hr5
                    have HJ5 := Lib.hid (HJ1.out.below hb5)
                    have HROW5 := Lib.hid (HROW1.out.below hb5)
                    have HB5 := Lib.hid (HB1.out.trans (hb5.mono HB1.out.size))
                    clear hr5 hb5 HJ1 HROW1 HB1 HSL HLOW HSF
                    rcases HLAW.out with ⟨hz, hA⟩ | ⟨hz, hA⟩ | ⟨hz, hA⟩
                    · subst hz
                      have HAF := Lib.hid hA
                      clear hA HLAW
                      go_wp2_with (first
                        | (go_at_call 9; refine (num_any _ _).mono ?_; rintro e u ⟨rfl, rfl⟩))
                      go_meet
                      exact ⟨lo, d1, jr1, v1, jr.gs ++ [y.bs], jr.gs, A5, n1 + 1, c5, A1, n1, c1, rfl, rfl, HJ5.out, HAF.out _, HMR.out, HROW5.out, HN1B.out, HN1.out, HB5.out⟩
                    · rcases hz with hz | hz
                      · subst hz
                        have HAF := Lib.hid hA
                        clear hA HLAW
                        go_wp2_with (first
                          | (go_at_call 9; refine (num_any _ _).mono ?_; rintro e u ⟨rfl, rfl⟩))
                        go_meet
                        exact ⟨lo, d1, jr1, v1, jr.gs, jr.gs, A1, n1, c1, A1, n1, c1, rfl, rfl, HJ5.out, HAF.out _, HROW5.out, HROW5.out, HN1.out, HN1.out, HB5.out⟩
                      · subst hz
                        have HAF := Lib.hid hA
                        clear hA HLAW
                        go_wp2_with (first
                          | (go_at_call 9; refine (num_any _ _).mono ?_; rintro e u ⟨rfl, rfl⟩))
                        go_meet
                        exact ⟨lo, d1, jr1, v1, jr.gs, jr.gs, A1, n1, c1, A1, n1, c1, rfl, rfl, HJ5.out, HAF.out _, HROW5.out, HROW5.out, HN1.out, HN1.out, HB5.out⟩
                    · subst hz
                      have HAF := Lib.hid hA
                      clear hA HLAW
                      have HSM := Lib.hid (same_any wc n1 c1 (n1 + 1) c5 A1 A5 jr.gs (jr.gs ++ [y.bs]) (HROW5.out.sub (by simp)) (HMR.out.sub (by simp)) HN1.out HN1B.out)
                      have hdd : decide (jr.gs = jr.gs ++ [y.bs]) = false := by simp
                      rw [hdd] at HSM
                      clear hdd
                      go_wp2_with (first
                        | (go_at_call 9; refine (num_any _ _).mono ?_; rintro e u ⟨rfl, rfl⟩))
                      refine HSM.out.mono ?_
                      rintro e w6 ⟨rfl, hb6⟩
                      have HJ6 := Lib.hid (HJ5.out.below hb6)
                      have HROW6 := Lib.hid (HROW5.out.below hb6)
                      have HMR6 := Lib.hid (HMR.out.below hb6)
                      have HB6 := Lib.hid (HB5.out.trans (hb6.mono HB5.out.size))
                      clear hb6 HSM HJ5 HROW5 HMR HB5
                      go_wp2_with fail
                      go_meet
                      exact ⟨lo, d1, jr1, v1, jr.gs, jr.gs ++ [y.bs], A1, n1, c1, A5, n1 + 1, c5, rfl, rfl, HJ6.out, HAF.out, HROW6.out, HMR6.out, HN1.out, HN1B.out, HB6.out⟩
            · as_aux_lemma =>
                subst h0
                have HRB : Hid (RowsB wr [j', g, gs, gm] y.Al y.nl y.ls) := Lib.hid (RowsB.of_rows HA.out.rows HBEL.out.size (by have := HG.out; have := HLJ.out; intro q hq; simp at hq; omega))
                have HRS := Lib.hid (reset_any wr lo j' g gs gm d jr v' y.nl y.cl y.Al y.ls HJ.out HRB.out (by have := HNL.out; omega) (by have := HR.out.2.2; omega))
                have HLAW := Lib.hid (rst_law (G := 1 + k) HR.out.1 HR.out.2.1 HR.out.2.2 (by have := HR.out.2.2; omega) y.ls)
                rw [show 1 + k + 1 = 2 + k by omega] at HLAW
                generalize rstE d jr y.ls = z at *
                generalize rstD d jr y.ls = d1 at *
                generalize rstJ d jr y.ls = jr1 at *
                rcases HLAW.out with ⟨hz, hA⟩ | ⟨hz, hA⟩ | ⟨hz, hA⟩
                · subst hz
                  have HAF := Lib.hid hA
                  clear hA HLAW
                  unfold ptr at *
                  go_wp2_with fail
                  refine HRS.out.mono ?_
                  rintro e w1 ⟨rfl, v1, hj1, ht1, hv1⟩
                  have HROW1 := Lib.hid (rows_after HROW.out ht1 hv1)
                  have HB1 := Lib.hid (low_turn HBEL.out ht1 (HJ.out.owns_low HLJ.out HG.out))
                  have HJ1 := Lib.hid hj1
                  have k3' := (HIN.out.below HB1.out).c3
                  have HL1 := Lib.hid (RowsB.of_rows (S := Own j' g gs gm v1) (HIN.out.below HB1.out).rows HB1.out.size (hj1.owns_low HLJ.out HG.out))
                  clear hj1 ht1 hv1 HRS HRB
                  go_wp2_with (first
                    | (go_at_call 9; refine (num_any _ _).mono ?_; rintro e u ⟨rfl, rfl⟩))
                  go_meet
                  exact ⟨lo, d1, jr1, v1, y.ls, jr.gs, y.Al, y.nl, y.cl, A1, n1, c1, rfl, rfl, HJ1.out, HAF.out _, HL1.out, HROW1.out, by have := HNL.out; omega, HN1.out, HB1.out⟩
                · rcases hz with hz | hz
                  · subst hz
                    have HAF := Lib.hid hA
                    clear hA HLAW
                    unfold ptr at *
                    go_wp2_with fail
                    refine HRS.out.mono ?_
                    rintro e w1 ⟨rfl, v1, hj1, ht1, hv1⟩
                    have HROW1 := Lib.hid (rows_after HROW.out ht1 hv1)
                    have HB1 := Lib.hid (low_turn HBEL.out ht1 (HJ.out.owns_low HLJ.out HG.out))
                    have HJ1 := Lib.hid hj1
                    have k3' := (HIN.out.below HB1.out).c3
                    have HL1 := Lib.hid (RowsB.of_rows (S := Own j' g gs gm v1) (HIN.out.below HB1.out).rows HB1.out.size (hj1.owns_low HLJ.out HG.out))
                    clear hj1 ht1 hv1 HRS HRB
                    go_wp2_with (first
                      | (go_at_call 9; refine (num_any _ _).mono ?_; rintro e u ⟨rfl, rfl⟩))
                    go_meet
                    exact ⟨lo, d1, jr1, v1, jr.gs, jr.gs, A1, n1, c1, A1, n1, c1, rfl, rfl, HJ1.out, HAF.out _, HROW1.out, HROW1.out, HN1.out, HN1.out, HB1.out⟩
                  · subst hz
                    have HAF := Lib.hid hA
                    clear hA HLAW
                    unfold ptr at *
                    go_wp2_with fail
                    refine HRS.out.mono ?_
                    rintro e w1 ⟨rfl, v1, hj1, ht1, hv1⟩
                    have HROW1 := Lib.hid (rows_after HROW.out ht1 hv1)
                    have HB1 := Lib.hid (low_turn HBEL.out ht1 (HJ.out.owns_low HLJ.out HG.out))
                    have HJ1 := Lib.hid hj1
                    have k3' := (HIN.out.below HB1.out).c3
                    have HL1 := Lib.hid (RowsB.of_rows (S := Own j' g gs gm v1) (HIN.out.below HB1.out).rows HB1.out.size (hj1.owns_low HLJ.out HG.out))
                    clear hj1 ht1 hv1 HRS HRB
                    go_wp2_with (first
                      | (go_at_call 9; refine (num_any _ _).mono ?_; rintro e u ⟨rfl, rfl⟩))
                    go_meet
                    exact ⟨lo, d1, jr1, v1, jr.gs, jr.gs, A1, n1, c1, A1, n1, c1, rfl, rfl, HJ1.out, HAF.out _, HROW1.out, HROW1.out, HN1.out, HN1.out, HB1.out⟩
                · subst hz
                  have HAF := Lib.hid hA
                  clear hA HLAW
                  unfold ptr at *
                  go_wp2_with fail
                  refine HRS.out.mono ?_
                  rintro e w1 ⟨rfl, v1, hj1, ht1, hv1⟩
                  have HROW1 := Lib.hid (rows_after HROW.out ht1 hv1)
                  have HB1 := Lib.hid (low_turn HBEL.out ht1 (HJ.out.owns_low HLJ.out HG.out))
                  have HJ1 := Lib.hid hj1
                  have k3' := (HIN.out.below HB1.out).c3
                  have HL1 := Lib.hid (RowsB.of_rows (S := Own j' g gs gm v1) (HIN.out.below HB1.out).rows HB1.out.size (hj1.owns_low HLJ.out HG.out))
                  clear hj1 ht1 hv1 HRS HRB
                  go_wp2_with (first
                    | (go_at_call 9; refine (num_any _ _).mono ?_; rintro e u ⟨rfl, rfl⟩))
                  go_meet
                  exact ⟨lo, d1, jr1, v1, jr.gs, y.ls, A1, n1, c1, y.Al, y.nl, y.cl, rfl, rfl, HJ1.out, HAF.out, HROW1.out, HL1.out, HN1.out, by have := HNL.out; omega, HB1.out⟩
            · as_aux_lemma =>
                subst h0
                have HST := Lib.hid (fun q => Disk.stop_disk wr g gs gm d q HJ.out.disk)
                unfold ptr at HST
                have HAND := Lib.hid (and_low y.num)
                have HST2 := Lib.hid (HST.out (bits BinOp.and IntKind.i64 y.num 15) (by have := HAND.out; omega) (by have := HAND.out; omega))
                go_wp2_with fail
                refine HST2.out.mono ?_
                clear HST2 HST
                generalize bits BinOp.and IntKind.i64 y.num 15 = q at *
                rintro e w1 ⟨rfl, hd, ht⟩
                have HJ1 : Hid (Jn w1 lo j' g gs gm (d.stop q) jr v') := Lib.hid (HJ.out.disked hd ht rfl)
                have HS1 : Hid (JourM.Still (d.stop q) jr) := Lib.hid (HR.out.1.still.stop (by have := HAND.out; omega) (by have := HAND.out; omega))
                have HROW1 := Lib.hid (HROW.out.turn ht (fun k hk => .inl (by unfold Own; exact List.mem_append_left _ (List.mem_cons_of_mem _ hk))))
                have HB1 := Lib.hid (low_turn HBEL.out ht (by have := HG.out; intro q hq; simp at hq; omega))
                clear hd ht
                go_wp2_with fail
                go_meet
                exact ⟨lo, _, jr, v', jr.gs, jr.gs, A1, n1, c1, A1, n1, c1, rfl, rfl, HJ1.out, HS1.out.after HR.out.2.1 (by have := HR.out.2.2; omega) _, HROW1.out, HROW1.out, HN1.out, HN1.out, HB1.out⟩
            · as_aux_lemma =>
                go_wp2_with fail
                go_meet
                exact ⟨lo, d, jr, v', jr.gs, jr.gs, A1, n1, c1, A1, n1, c1, rfl, rfl, HJ.out, HR.out.1.after HR.out.2.1 (by have := HR.out.2.2; omega) _, HROW.out, HROW.out, HN1.out, HN1.out, HBEL.out⟩
          case rest =>
            obtain ⟨lo2, d2, jr2, v2, hs, ms, A3, n3, c3, A4, n4, c4, rfl, rfl, hj2, haf, hro3, hro4, hn3, hn4, hbel2⟩ := hcut
            have HJ2 := Lib.hid hj2
            have HAF := Lib.hid haf
            have HR3 := Lib.hid hro3
            have HR4 := Lib.hid hro4
            have HN34 := Lib.hid (And.intro hn3 hn4)
            have HB2 := Lib.hid hbel2
            have HDN := Lib.hid (jdown_any hj2)
            have HDD := Lib.hid (Disk.down_disk wc g gs gm d2 hj2.disk)
            have k0 := (HIN.out.below hbel2).c0
            have k4 := (HIN.out.below hbel2).c4
            clear hj2 haf hro3 hro4 hn3 hn4 hbel2 HA HJ HR HROW HBEL HN1 k1 k2 k3
            unfold ptr at HDN HDD
            have HC := Lib.hid HAF.out.calm
            obtain ⟨w2, rfl⟩ : ∃ u : World, u = wc := ⟨_, rfl⟩
            go_upto_region 29 with fail
            go_cut [139] (fun b wx => w2 = wx ∧ ∃ b', b = .bool b' ∧ (b' = false → jr2.down = false ∧ d2.off = false))
            case first =>
              generalize hdb : jr2.down = db at *
              generalize hof : d2.off = ob at *
              cases db with
              | true =>
                go_wp2_with (first
                  | (go_at_call 14; refine HDN.out.mono ?_; rintro e u ⟨rfl, rfl⟩)
                  | (go_at_call 15; refine HDD.out.mono ?_; rintro e u ⟨rfl, rfl⟩))
                go_meet
                exact ⟨rfl, true, rfl, fun h => by cases h⟩
              | false =>
                by_cases hk4 : y.kind = 4
                · rw [hk4] at k0
                  go_wp2_with (first
                    | (go_at_call 14; refine HDN.out.mono ?_; rintro e u ⟨rfl, rfl⟩)
                    | (go_at_call 15; refine HDD.out.mono ?_; rintro e u ⟨rfl, rfl⟩))
                  go_meet
                  exact ⟨rfl, true, rfl, fun h => by cases h⟩
                · cases ob with
                  | true =>
                    go_wp2_with (first
                      | (go_at_call 14; refine HDN.out.mono ?_; rintro e u ⟨rfl, rfl⟩)
                      | (go_at_call 15; refine HDD.out.mono ?_; rintro e u ⟨rfl, rfl⟩))
                    go_meet
                    exact ⟨rfl, true, rfl, fun h => by cases h⟩
                  | false =>
                    go_wp2_with (first
                      | (go_at_call 14; refine HDN.out.mono ?_; rintro e u ⟨rfl, rfl⟩)
                      | (go_at_call 15; refine HDD.out.mono ?_; rintro e u ⟨rfl, rfl⟩))
                    go_meet
                    exact ⟨rfl, false, by simp [hk4], by simp⟩
            case rest =>
              obtain ⟨hwx, bq, rfl, hcr⟩ := hcut
              subst hwx
              clear HDN HDD k0
              cases bq with
              | true =>
                as_aux_lemma =>
                  have HNU := Lib.hid ((HIN.out.nums).nums HB2.out HB2.out.size (S := [g, gs, gm]) (by have := HG.out; intro q hq; simp at hq; omega))
                  have HCR := Lib.hid (Disk.crash_disk w2 g gs gm d2 HJ2.out.disk y.Af y.nf y.cf y.fs HNU.out)
                  obtain ⟨jr3, hr3, hgs3, hG3⟩ := HAF.out.torn y.fs
                  have HR5 := Lib.hid (And.intro hr3 (And.intro hgs3 hG3))
                  clear hr3 hgs3 hG3 HNU HC
                  unfold ptr at HCR
                  go_wp2_with fail
                  refine HCR.out.mono ?_
                  rintro e w4 ⟨rfl, hd4, ht4⟩
                  have HB4 := Lib.hid (low_turn HB2.out ht4 (by have := HG.out; intro q hq; simp at hq; omega))
                  have HRW3 := Lib.hid (HR3.out.turn ht4 (fun q hq => .inl (by unfold Own; exact List.mem_append_left _ (List.mem_cons_of_mem _ hq))))
                  have HRW4 := Lib.hid (HR4.out.turn ht4 (fun q hq => .inl (by unfold Own; exact List.mem_append_left _ (List.mem_cons_of_mem _ hq))))
                  have HN3 : Hid ((d2.crash y.fs).n = 40) := Lib.hid HAF.out.n40
                  generalize d2.crash y.fs = d3 at *
                  have HOP := Lib.hid (open_rest w4 g gs gm d3 jr3 hd4 HR5.out.1 (by have := HR5.out.2.2; omega))
                  clear hd4 ht4 HCR
                  unfold ptr at HOP
                  go_wp2_with fail
                  refine HOP.out.mono ?_
                  rintro e w5 ⟨lo5, j5, v5, rfl, hj5, ht5, hlj5⟩
                  have HB5 := Lib.hid (low_turn HB4.out ht5 (by have := HG.out; intro q hq; simp at hq; omega))
                  have HLJ5 : Hid (w.heap.size ≤ j5) := Lib.hid (Nat.le_trans HB4.out.size hlj5)
                  have HRW3 := Lib.hid (HRW3.out.turn ht5 (fun q hq => .inl (by unfold Own; exact List.mem_append_left _ (List.mem_cons_of_mem _ hq))))
                  have HRW4 := Lib.hid (HRW4.out.turn ht5 (fun q hq => .inl (by unfold Own; exact List.mem_append_left _ (List.mem_cons_of_mem _ hq))))
                  have HGR := Lib.hid (groups_any hj5)
                  have HJ5 := Lib.hid hj5
                  have HL5 : Hid (jr3.gs.length ≤ 65536) := Lib.hid (by have h2 := takes_length jr3.gs; have h3 := hj5.room16.2; omega)
                  clear hj5 ht5 hlj5 HOP
                  unfold ptr at *
                  go_wp2_with (first
                    | (go_at_call 9; refine (num_any _ _).mono ?_; rintro e u ⟨rfl, rfl⟩))
                  refine HGR.out.mono ?_
                  rintro e w6 ⟨A6, c6, rfl, hr6, _, _, hb6⟩
                  have HEI := Lib.hid (either_any w6 jr3.gs.length c6 n3 c3 n4 c4 A6 A3 A4 jr3.gs hs ms (hr6 [] (by simp)) ((HRW3.out.below hb6).sub (by simp)) ((HRW4.out.below hb6).sub (by simp)) (by have := HL5.out; omega) HN34.out.1 HN34.out.2 HR5.out.2.1)
                  have HB6 := Lib.hid hb6
                  clear hr6 hb6 HGR
                  go_wp2_with fail
                  refine HEI.out.mono ?_
                  rintro e w7 ⟨rfl, hb7⟩
                  have HB7 := Lib.hid (HB6.out.trans (hb7.mono HB6.out.size))
                  clear hb7 HEI
                  have HJ7 := Lib.hid (HJ5.out.below HB7.out)
                  have HBW7 := Lib.hid (HB5.out.trans (HB7.out.mono HB5.out.size))
                  clear HJ5 HB5 HB4 HRW3 HRW4
                  go_wp2_with fail
                  go_loopw [17] (fun i' wr2 => ∃ (q : Nat) (d5 : Dsk), q ≤ 3 ∧ q ≤ n2 ∧ i' = .int .i64 q ∧ Jn wr2 lo5 j5 g gs gm d5 jr3 v5 ∧ JourM.Rest d5 jr3 ∧ d5.n = 40 ∧ Below w.heap.size w wr2) (fun i' _ => 3 - (Go.RowKit.intOf i').toNat)
                  case atStart => exact ⟨0, d3, by omega, by omega, rfl, HJ7.out, HR5.out.1, HN3.out, HBW7.out⟩
                  case round =>
                    obtain ⟨q, d5, hq3, hq, rfl, hj5, hr5, hn5, hb5⟩ := hrel
                    have HJ5 := Lib.hid hj5
                    have HR55 := Lib.hid (And.intro hr5 hn5)
                    have HB5 := Lib.hid hb5
                    clear hj5 hr5 hn5 hb5
                    go_upto_region 35 with fail
                    go_cut [170] (fun b wx => wr = wx ∧ ∃ b', b = .bool b' ∧ (b' = true → q < 3 ∧ q < n2))
                    case first =>
                      by_cases hl2 : q < n2
                      · by_cases hl3 : q < 3
                        · go_wp2_with fail
                          go_meet
                          exact ⟨rfl, true, by simp; omega, fun _ => ⟨hl3, hl2⟩⟩
                        · go_wp2_with fail
                          go_meet
                          exact ⟨rfl, false, by simp; omega, fun h => by cases h⟩
                      · go_wp2_with fail
                        go_meet
                        exact ⟨rfl, false, rfl, fun h => by cases h⟩
                    case rest =>
                      obtain ⟨hwx, bq, rfl, hlq⟩ := hcut
                      subst hwx
                      cases bq with
                      | true =>
                        as_aux_lemma =>
                          obtain ⟨hl3, hl2⟩ := hlq rfl
                          obtain ⟨zb, zo, hA2, hzb, hzc⟩ := HZ.out.1.2 (by omega)
                          have hidx3 : ∀ u : World, (Instr.indexAt 23 (.slice A2 n2 c2) (.int .i64 q)).run Try.prog u = .ok (.pointer (some ⟨zb, zo + q, none⟩)) u := fun u => by
                            subst hA2
                            simp [Instr.indexAt, asIntOf, run_underlying Try.underlying23, Result.andThen, Addr.add_mid]
                            intro h1
                            omega
                          have hz0 := (World.cell?_of_block (w := w) (a := ⟨zb, zo + q, none⟩) (HB5.out.block zb hzb)).trans (hzc q hl2)
                          clear hA2 hzb hzc
                          generalize zs.getD q 0 = zq at *
                          have HAND : Hid (0 ≤ bits BinOp.and IntKind.i64 zq 3 ∧ bits BinOp.and IntKind.i64 zq 3 ≤ 3) := Lib.hid (by rw [Disk.i64_and3]; omega)
                          have HST2 := Lib.hid (Disk.stop_disk wr g gs gm d5 (bits BinOp.and IntKind.i64 zq 3) HJ5.out.disk (by have := HAND.out; omega) (by have := HAND.out; omega))
                          unfold ptr at HST2
                          go_wp2_with fail
                          refine HST2.out.mono ?_
                          clear HST2
                          generalize bits BinOp.and IntKind.i64 zq 3 = tq at *
                          rintro e w8 ⟨rfl, hd8, ht8⟩
                          have HJ8 := Lib.hid (HJ5.out.disked hd8 ht8 rfl)
                          have HB8 := Lib.hid (low_turn HB5.out ht8 (by have := HG.out; intro p hp; simp at hp; omega))
                          have HST6 : Hid (JourM.Still (d5.stop tq) jr3) := Lib.hid (HR55.out.1.still.stop (by have := HAND.out; omega) (by have := HAND.out; omega))
                          have HN6 : Hid ((d5.stop tq).n = 40) := Lib.hid HR55.out.2
                          clear hd8 ht8 hz0 hidx3
                          generalize d5.stop tq = d6 at *
                          by_cases hoff : d6.off = true
                          · have HOP := Lib.hid (open_off w8 g gs gm d6 HJ8.out.disk (by have := HN6.out; omega) hoff)
                            unfold ptr at HOP
                            go_wp2_with fail
                            refine HOP.out.mono ?_
                            rintro e w9 ⟨rfl, rfl⟩
                            have HCR2 := Lib.hid (Disk.crash_disk w8 g gs gm d6 HJ8.out.disk A2 n2 c2 zs (HZ.out.1.nums HB8.out HB8.out.size (S := [g, gs, gm]) (by have := HG.out; intro p hp; simp at hp; omega)))
                            unfold ptr at HCR2
                            go_wp2_with fail
                            refine HCR2.out.mono ?_
                            rintro e w10 ⟨rfl, hd10, ht10⟩
                            have HJ10 := Lib.hid (HJ8.out.disked hd10 ht10 rfl)
                            have HB10 := Lib.hid (low_turn HB8.out ht10 (by have := HG.out; intro p hp; simp at hp; omega))
                            clear hd10 ht10 HCR2
                            go_wp2_with fail
                            go_roundw
                            case rel => exact ⟨q + 1, d6.crash zs, by omega, by omega, by go_num, HJ10.out, HST6.out.crash zs, HN6.out, HB10.out⟩
                            case measure => simp [Go.RowKit.intOf]; omega
                          · have HOP := Lib.hid (open_rest w8 g gs gm d6 jr3 HJ8.out.disk (HST6.out.rest (by simpa using hoff)) (by have := HR5.out.2.2; omega))
                            unfold ptr at HOP
                            go_wp2_with fail
                            refine HOP.out.mono ?_
                            rintro e w9 ⟨lo9, j9, v9, rfl, hj9, ht9, _⟩
                            have HJ9 := Lib.hid (HJ8.out.disked hj9.disk ht9 rfl)
                            have HB9 := Lib.hid (low_turn HB8.out ht9 (by have := HG.out; intro p hp; simp at hp; omega))
                            clear hj9 ht9 HOP
                            have HCR2 := Lib.hid (Disk.crash_disk w9 g gs gm d6 HJ9.out.disk A2 n2 c2 zs (HZ.out.1.nums HB9.out HB9.out.size (S := [g, gs, gm]) (by have := HG.out; intro p hp; simp at hp; omega)))
                            unfold ptr at HCR2
                            go_wp2_with fail
                            refine HCR2.out.mono ?_
                            rintro e w10 ⟨rfl, hd10, ht10⟩
                            have HJ10 := Lib.hid (HJ9.out.disked hd10 ht10 rfl)
                            have HB10 := Lib.hid (low_turn HB9.out ht10 (by have := HG.out; intro p hp; simp at hp; omega))
                            clear hd10 ht10 HCR2
                            go_wp2_with fail
                            go_roundw
                            case rel => exact ⟨q + 1, d6.crash zs, by omega, by omega, by go_num, HJ10.out, HST6.out.crash zs, HN6.out, HB10.out⟩
                            case measure => simp [Go.RowKit.intOf]; omega
                      | false =>
                        as_aux_lemma =>
                          clear hlq hq3 hq HZ
                          have HOP := Lib.hid (open_rest wr g gs gm d5 jr3 HJ5.out.disk HR55.out.1 (by have := HR5.out.2.2; omega))
                          unfold ptr at HOP
                          go_wp2_with fail
                          refine HOP.out.mono ?_
                          rintro e w8 ⟨lo9, j9, v9, rfl, hj9, ht9, hlj9⟩
                          have HK8 := Lib.hid (HJ5.out.disked hj9.disk ht9 rfl)
                          have HB8 := Lib.hid (low_turn HB5.out ht9 (by have := HG.out; intro p hp; simp at hp; omega))
                          have HJ9 := Lib.hid hj9
                          have HLJ9 : Hid (w.heap.size ≤ j9) := Lib.hid (Nat.le_trans HB5.out.size hlj9)
                          have HG1 := Lib.hid (groups_any hj9)
                          clear hj9 ht9 hlj9 HOP HJ5 HB5
                          unfold ptr at *
                          go_wp2_with (first
                            | (go_at_call 9; refine (num_any _ _).mono ?_; rintro e u ⟨rfl, rfl⟩))
                          refine HG1.out.mono ?_
                          rintro e w10 ⟨A10, c10, rfl, hr10, _, _, hb10⟩
                          have HR10 := Lib.hid (hr10 [] (by simp))
                          have HG2 := Lib.hid (groups_any (HK8.out.below hb10))
                          have HB10 := Lib.hid hb10
                          unfold ptr at HG2
                          clear hr10 hb10 HG1
                          go_wp2_with fail
                          refine HG2.out.mono ?_
                          rintro e w11 ⟨A11, c11, rfl, hr11, _, _, hb11⟩
                          have HSM := Lib.hid (same_any w11 jr3.gs.length c10 jr3.gs.length c11 A10 A11 jr3.gs jr3.gs (HR10.out.below hb11) (hr11 [] (by simp)) (by have := HL5.out; omega) (by have := HL5.out; omega))
                          have hd : decide (jr3.gs = jr3.gs) = true := by simp
                          rw [hd] at HSM
                          have HB11 := Lib.hid (HB10.out.trans (hb11.mono HB10.out.size))
                          clear hr11 hb11 hd HG2 HR10 HB10
                          go_wp2_with fail
                          refine HSM.out.mono ?_
                          rintro e w12 ⟨rfl, hb12⟩
                          have HB12 := Lib.hid (HB11.out.trans (hb12.mono HB11.out.size))
                          have HJ12 := Lib.hid (HJ9.out.below HB12.out)
                          have HG3 := Lib.hid (groups_any HJ12.out)
                          unfold ptr at HG3
                          clear hb12 HB11 HSM HJ9 HK8
                          go_wp2_with fail
                          refine HG3.out.mono ?_
                          rintro e w13 ⟨A13, c13, rfl, hr13, _, _, hb13⟩
                          have HR13 := Lib.hid (hr13 (Own j9 g gs gm v9) HJ12.out.owns_lt)
                          have HJ13 := Lib.hid (HJ12.out.below hb13)
                          have HB13 := Lib.hid (HB8.out.trans ((HB12.out.trans (hb13.mono HB12.out.size)).mono HB8.out.size))
                          clear hr13 hb13 HG3 HJ12 HB12 HB8
                          go_wp2_with fail
                          go_roundw
                          case rel => exact ⟨k + 1, by omega, by go_num, lo9, j9, d5, jr3, v9, A13, jr3.gs.length, c13, rfl, rfl, HJ13.out, HR55.out.1, HR55.out.2, by have := HR5.out.2.2; omega, HR13.out, HLJ9.out, HB13.out⟩
                          case measure => simp [Go.RowKit.intOf]; omega
              | false =>
                as_aux_lemma =>
                  have HCC := Lib.hid (HC.out (hcr rfl).1 (hcr rfl).2)
                  clear hcr k4
                  have HGR := Lib.hid (groups_any HJ2.out)
                  unfold ptr at HGR
                  go_wp2_with fail
                  refine HGR.out.mono ?_
                  rintro e w9 ⟨A9, c9, rfl, hr9, _, _, hb9⟩
                  have HSM := Lib.hid (same_any w9 jr2.gs.length c9 n3 c3 A9 A3 jr2.gs hs (hr9 [] (by simp)) ((HR3.out.below hb9).sub (by simp)) (by have h2 := takes_length jr2.gs; have h3 := HJ2.out.room16.2; omega) HN34.out.1)
                  have hd : decide (jr2.gs = hs) = true := by simp [HCC.out.2.1]
                  rw [hd] at HSM
                  have HB9 := Lib.hid hb9
                  clear hr9 hb9 hd HGR
                  go_wp2_with fail
                  refine HSM.out.mono ?_
                  rintro e w10 ⟨rfl, hb10⟩
                  have HB10 := Lib.hid (HB9.out.trans (hb10.mono HB9.out.size))
                  clear hb10 HSM
                  go_wp2_with fail
                  go_roundw
                  case rel => exact ⟨k + 1, by omega, by go_num, lo2, j', d2, jr2, v2, A3, n3, c3, rfl, rfl, HJ2.out.below HB10.out, HCC.out.1, HAF.out.n40, by have := HCC.out.2.2; omega, by rw [HCC.out.2.1]; exact HR3.out.below HB10.out, HLJ.out, HB2.out.trans (HB10.out.mono HB2.out.size)⟩
                  case measure => simp [Go.RowKit.intOf]; omega
        · obtain rfl : k = n := by omega
          obtain ⟨_, _, _, _, _, _, _, _, rfl, rfl, _, _, _, _, _, _, hbel⟩ := hl
          go_wp2_with fail
          go_ret
          exact ⟨rfl, hbel⟩
end Go.Proofs.Ytgjdgmpjbpnjbaa.Jou
