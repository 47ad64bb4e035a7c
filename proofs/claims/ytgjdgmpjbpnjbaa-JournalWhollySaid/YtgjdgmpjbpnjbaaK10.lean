/-
  Texts JReset, JList, JLaw, JKnown, DShelf, DIter, DWait, DNums, in one file. What each proves, and its conditions, stand at its head below.
-/
import Derived.Test.YtgjdgmpjbpnjbaaK9
import Derived.Shelf.SlIterI.Nil
import Derived.Shelf.SlIterI.Sorted
import Derived.Shelf.SortM.Plain
import Derived.Shelf.SortM.SortNone
import Derived.Test.YtgjdgmpjbpnjbaaProg
import Derived.RangeFuncBound
/-
  What Reset of a journal does. Conditions: the journal is known, the groups lie apart from it.
-/
namespace Go.Proofs.Ytgjdgmpjbpnjbaa.Jou
open Go.RowKit Codec FrameM Cod JourM
open Disk (Turn Dk Dsk ptr Now)
open Frm (Above U8)
set_option maxRecDepth 100000
theorem rst_parts (d : Dsk) (jr : Jr) (ls : List (List UInt8)) : (jr.down = true ∧ rstE d jr ls = 3 ∧ rstD d jr ls = d ∧ rstJ d jr ls = jr) ∨ (jr.down = false ∧ anyLong ls = true ∧ rstE d jr ls = 1 ∧ rstD d jr ls = d ∧ rstJ d jr ls = jr) ∨
    (jr.down = false ∧ anyLong ls = false ∧ room d.n < takes ls ∧ rstE d jr ls = 2 ∧ rstD d jr ls = d ∧ rstJ d jr ls = jr) ∨
    (jr.down = false ∧ anyLong ls = false ∧ takes ls ≤ room d.n ∧ beginB d (jr.gen + 1) ls = false ∧ rstE d jr ls = 3 ∧ rstD d jr ls = beginD d (jr.gen + 1) ls ∧ rstJ d jr ls = { jr with down := true }) ∨
    (jr.down = false ∧ anyLong ls = false ∧ takes ls ≤ room d.n ∧ beginB d (jr.gen + 1) ls = true ∧ rstE d jr ls = 0 ∧ rstD d jr ls = beginD d (jr.gen + 1) ls ∧ rstJ d jr ls = ⟨jr.gen + 1, ls, false⟩) := by
  unfold rstE rstD rstJ rstDo
  cases hd : jr.down with
  | true => simp
  | false =>
    cases h1 : anyLong ls with
    | true => simp
    | false =>
      by_cases h2 : room d.n < takes ls
      · have : ¬ takes ls ≤ room d.n := by omega
        simp [h2, this]
      · have h2' : takes ls ≤ room d.n := by omega
        cases h3 : beginB d (jr.gen + 1) ls <;> simp [h2, h2']
theorem takes_le (ls : List (List UInt8)) (h : ∀ b ∈ ls, b.length ≤ 1048576) : takes ls ≤ 16385 * ls.length := by
  induction ls with
  | nil => simp [takes]
  | cons b l ih =>
    have h1 := h b (by simp)
    have h2 := ih (fun x hx => h x (by simp [hx]))
    simp only [takes, takes1, need, List.length_cons]
    omega
/-- What the loop over the new groups keeps. -/
structure RI (w u : World) (lo j g gs gm : Nat) (d : Dsk) (gen n : Nat) (A : Option Addr) (ls : List (List UInt8)) (k : Nat) (v : Value) : Prop where
  jn : Jn u lo j g gs gm d ⟨gen, ls.take k, false⟩ v
  fr : Turn [j, g, gs, gm] w u
  rows : RowsB u ([j, g, gs, gm] ++ v.ownBlock.toList) A n ls
  fresh : ∀ r, v.ownBlock = some r → w.heap.size ≤ r
theorem RI.step {w u u' u2 : World} {lo j g gs gm gen n k : Nat} {d : Dsk} {A : Option Addr} {ls : List (List UInt8)} {v v' : Value} (h : RI w u lo j g gs gm d gen n A ls k v) (hb : Below u.heap.size u u') (hjn : Jn u2 lo j g gs gm d ⟨gen, ls.take (k + 1), false⟩ v')
    (ht : Turn (j :: v.ownBlock.toList) u' u2) (hv : v'.ownBlock = v.ownBlock ∨ ∃ r, v'.ownBlock = some r ∧ u'.heap.size ≤ r) : RI w u2 lo j g gs gm d gen n A ls (k + 1) v' := by
  have hfr : ∀ r, v'.ownBlock = some r → w.heap.size ≤ r := fun r hr => by
    rcases hv with e | ⟨q, e, hq⟩
    · exact h.fresh r (by rw [← e]; exact hr)
    · rw [e] at hr
      cases hr
      have := h.fr.size
      have := hb.size
      omega
  refine ⟨hjn, (h.fr.below hb).then_ ht fun k hk => ?_, ?_, hfr⟩
  · rcases List.mem_cons.1 hk with rfl | hk
    · exact .inl (by simp)
    · exact .inr (h.fresh k (by simpa using hk))
  · have r1 := h.rows.below hb
    have r2 : RowsB u' (([j, g, gs, gm] ++ v.ownBlock.toList) ++ ([j, g, gs, gm] ++ v'.ownBlock.toList)) A n ls := r1.sub fun k hk => by
      rcases List.mem_append.1 hk with hk | hk
      · exact .inl hk
      · rcases List.mem_append.1 hk with hk | hk
        · exact .inl (List.mem_append_left _ hk)
        · rcases hv with e | ⟨q, e, hq⟩
          · exact .inl (List.mem_append_right _ (by rw [← e]; exact hk))
          · rw [e] at hk
            simp at hk
            subst hk
            exact .inr hq
    have r3 := r2.turn ht fun k hk => .inl (List.mem_append_left _ (by
      rcases List.mem_cons.1 hk with rfl | hk
      · simp
      · exact List.mem_append_right _ hk))
    exact r3.sub fun k hk => .inl (List.mem_append_right _ hk)
theorem take_getD (ls : List (List UInt8)) (k : Nat) (h : k < ls.length) : ls.take (k + 1) = ls.take k ++ [ls.getD k []] := by
  rw [List.take_succ_eq_append_getElem h]
  simp [List.getD_eq_getElem?_getD, h]
/-- A turn of a block that is none of a journal's. -/
theorem Jn.aside {w w' : World} {lo j g gs gm k : Nat} {d : Dsk} {jr : Jr} {v : Value} {cs : Array Value} {T : TypeId} (h : Jn w lo j g gs gm d jr v) (ht : Turn [k] w w') (hk : w.heap[k]? = some (.cells cs T (0, 0))) (hT : T ≠ 5 ∧ T ≠ 35) (hj : j < k) (hl : lo ≤ k) : Jn w' lo j g gs gm d jr v := by
  have l1 := h.lows g (by simp)
  have l2 := h.lows gs (by simp)
  have l3 := h.lows gm (by simp)
  obtain ⟨its, o1, o2, o3⟩ := h.own
  refine ⟨h.disk.turn ht (by simp; omega) (by simp; omega) (by simp; omega), (ht.block j (lt_of_heap h.hd) (by simp; omega)).trans h.hd, ⟨its, own_same o1 fun r hr => ?_, o2, fun x hx => (o3 x hx).turn ht fun q hq => ?_⟩, h.lows, Nat.le_trans h.le ht.size, h.n8, h.one, h.big, h.fit⟩
  · obtain ⟨_, cur, hc⟩ := own_type o1 hr
    refine ht.block r (lt_of_heap hc) fun hm => ?_
    simp at hm
    subst hm
    rw [hc] at hk
    injection hk with hk
    injection hk with _ e
    exact hT.2 e.symm
  · simp at hq
    subst hq
    exact .inr (.inr ⟨cs, T, hk, hT.1⟩)
theorem Jn.anew {w w' : World} {lo j g gs gm gen : Nat} {d : Dsk} {jr : Jr} {v : Value} (h : Jn w lo j g gs gm d jr v) (ht : Turn [j] w w') (hs : w'.heap[j]? = some (.cells #[.pointer (some ⟨g, 0, none⟩), .int .i64 ((gen : Int) + 1), .slice none 0 0, .int .i64 0, .bool false] 51 (0, 0))) (hg : gen + 1 < 9223372036854775807) : Jn w' lo j g gs gm d ⟨gen + 1, [], false⟩ (.slice none 0 0) := by
  have hap := h.apart
  simp only [List.mem_cons, List.not_mem_nil, or_false, not_or] at hap
  refine ⟨h.disk.turn ht (by simp; omega) (by simp; omega) (by simp; omega), ?_, ⟨[], World.ownsRow_nil _ _ _ _, rfl, by simp⟩, h.lows, Nat.le_trans h.le ht.size, h.n8, Nat.succ_le_succ (Nat.zero_le _), hg, Nat.zero_le _⟩
  have e : ((gen + 1 : Nat) : Int) = (gen : Int) + 1 := by omega
  show w'.heap[j]? = some (.cells #[.pointer (some ⟨g, 0, none⟩), .int .i64 ((gen + 1 : Nat) : Int), .slice none 0 0, .int .i64 0, .bool false] 51 (0, 0))
  rw [e]
  exact hs
set_option maxHeartbeats 8000000 in
theorem reset_any (w : World) (lo j g gs gm : Nat) (d : Dsk) (jr : Jr) (v : Value) (n c : Nat) (A : Option Addr) (ls : List (List UInt8)) (h : Jn w lo j g gs gm d jr v) (hr : RowsB w [j, g, gs, gm] A n ls) (hn : n ≤ 1000000) (hg1 : jr.gen + 1 < 9223372036854775807) :
    Calls Try.prog 12 #[ptr j, .slice A n c] w (Appended w lo j g gs gm v (rstE d jr ls) (rstD d jr ls) (rstJ d jr ls)) := by
  have HJ := Lib.hid h
  have HR := Lib.hid hr
  have HN := Lib.hid hn
  have HG := Lib.hid hg1
  rcases rst_parts d jr ls with ⟨hdn, hz, hD, hJ⟩ | ⟨hdn, hl, hz, hD, hJ⟩ | ⟨hdn, hl, hfit, hz, hD, hJ⟩ | ⟨hdn, hl, hfit, hex, hz, hD, hJ⟩ | ⟨hdn, hl, hfit, hex, hz, hD, hJ⟩
  · rw [hz, hD, hJ]
    have HV : Hid (whyJ true ls = 3) := Lib.hid rfl
    have HRF := Lib.hid (refuses_any _ lo j g gs gm d jr v n c A ls HJ.out hr.rowl (by omega))
    rw [hdn, HV.out] at HRF
    clear h hr hdn hz hD hJ HV
    unfold ptr at *
    go_enter Try.func12, Try.ntmps12
    go_wp2_with fail
    refine HRF.out.mono ?_
    rintro e w1 ⟨rfl, rfl⟩
    go_wp2_with fail
    go_ret
    exact ⟨rfl, v, HJ.out, Turn.refl _ _, fun _ hr => .inl hr⟩
  · rw [hz, hD, hJ]
    have HV : Hid (whyJ false ls = 1) := Lib.hid (by unfold whyJ; rw [hl]; rfl)
    have HRF := Lib.hid (refuses_any _ lo j g gs gm d jr v n c A ls HJ.out hr.rowl (by omega))
    rw [hdn, HV.out] at HRF
    clear h hr hdn hl hz hD hJ HV
    unfold ptr at *
    go_enter Try.func12, Try.ntmps12
    go_wp2_with fail
    refine HRF.out.mono ?_
    rintro e w1 ⟨rfl, rfl⟩
    go_wp2_with fail
    go_ret
    exact ⟨rfl, v, HJ.out, Turn.refl _ _, fun _ hr => .inl hr⟩
  · rw [hz, hD, hJ]
    have HV : Hid (whyJ false ls = 0) := Lib.hid (by unfold whyJ; rw [hl]; rfl)
    have HRF := Lib.hid (refuses_any _ lo j g gs gm d jr v n c A ls HJ.out hr.rowl (by omega))
    rw [hdn, HV.out] at HRF
    have HAL := Lib.hid (anyLong_all hl)
    have htl := takes_le ls HAL.out
    have hlen := hr.len
    have HTK := Lib.hid (takes_any w n c A ls hr.rowl (by omega))
    have HRM := Lib.hid (jroom_any h)
    have hr16 := h.room16
    have hrm2 : (room d.n : Int) ≤ 65536 := by omega
    have hf2 : (room d.n : Int) < (takes ls : Int) := by omega
    clear h hr hdn hl hfit hz hD hJ HV htl hlen hr16
    generalize takes ls = tk at *
    generalize room d.n = R at *
    unfold ptr at *
    go_enter Try.func12, Try.ntmps12
    go_wp2_with fail
    refine HRF.out.mono ?_
    rintro e w1 ⟨rfl, rfl⟩
    go_wp2_with fail
    refine HTK.out.mono ?_
    rintro e w2 ⟨rfl, rfl⟩
    go_wp2_with fail
    refine HRM.out.mono ?_
    rintro e w2 ⟨rfl, hb2⟩
    have HB2 := Lib.hid hb2
    clear hb2
    go_wp2_with fail
    go_ret
    exact ⟨rfl, v, HJ.out.below HB2.out, Turn.ofBelow HB2.out, fun _ hr => .inl hr⟩
  · rw [hz, hD, hJ]
    have HV : Hid (whyJ false ls = 0) := Lib.hid (by unfold whyJ; rw [hl]; rfl)
    have HRF := Lib.hid (refuses_any _ lo j g gs gm d jr v n c A ls HJ.out hr.rowl (by omega))
    rw [hdn, HV.out] at HRF
    have HAL := Lib.hid (anyLong_all hl)
    have htl := takes_le ls HAL.out
    have hlen := hr.len
    have HTK := Lib.hid (takes_any w n c A ls hr.rowl (by omega))
    have HRM := Lib.hid (jroom_any h)
    have hr16 := h.room16
    have hrm2 : (room d.n : Int) ≤ 65536 := by omega
    have HBG := Lib.hid (fun u hu hR => begin_any u g gs gm d (jr.gen + 1) n c A ls hu (by have := h.n8; omega) (by omega) hR HAL.out hfit)
    have HXN := Lib.hid (beginD_n d (jr.gen + 1) ls)
    rw [hex] at HBG
    clear hex
    generalize beginD d (jr.gen + 1) ls = XD at *
    have hf2 : (takes ls : Int) ≤ room d.n := by omega
    have HF2 := Lib.hid hfit
    have hcc := h.c
    rw [hdn] at hcc
    obtain ⟨c0, c1, c2, c3, c4⟩ := hcc
    have HOB : Hid (w.heap[j]? = some (.cells #[.pointer (some ⟨g, 0, none⟩), .int .i64 jr.gen, v, .int .i64 (takes jr.gs), .bool false] 51 (0, 0))) := Lib.hid (by have := h.hd; rw [hdn] at this; exact this)
    have hgm : ((jr.gen : Int) == 9223372036854775807) = false := by simp; omega
    clear hg1
    have HGEN := Lib.hid (Eq.refl jr.gen)
    clear h hr hdn hl hfit hz hD hJ HV htl hlen hr16 c0 c3 c4 c2
    generalize hgen : jr.gen = gen at *
    have HGE := Lib.hid hgen
    generalize takes jr.gs = u0 at *
    generalize htk : takes ls = tk at *
    have HTT := Lib.hid htk
    generalize hR : room d.n = R at *
    have HRR := Lib.hid hR
    unfold hv at HBG
    push_cast at HBG
    clear hgen htk hR
    unfold ptr at *
    go_enter Try.func12, Try.ntmps12
    go_wp2_with fail
    refine HRF.out.mono ?_
    rintro e w1 ⟨rfl, rfl⟩
    go_wp2_with fail
    refine HTK.out.mono ?_
    rintro e w2 ⟨rfl, rfl⟩
    go_wp2_with fail
    refine HRM.out.mono ?_
    rintro e w2 ⟨rfl, hb2⟩
    have HB2 := Lib.hid hb2
    have HJ2 := Lib.hid (HJ.out.below hb2)
    have HOB2 := Lib.hid ((hb2.block j (lt_of_heap HOB.out)).trans HOB.out)
    have k1 : w2.cell? ⟨j, 1, none⟩ = some (.int .i64 gen) := cell_at HOB2.out 1
    clear hb2 c1
    generalize hM : (9223372036854775807 : Int) = M at *
    clear hM
    go_wp2_with fail
    clear k1 hgm
    have HB2 := Lib.hid HB2.out.drew
    have HJ2 := Lib.hid HJ2.out.drew
    have HOB2 : Hid (w2.drew.heap[j]? = some (.cells #[.pointer (some ⟨g, 0, none⟩), .int .i64 gen, v, .int .i64 u0, .bool false] 51 (0, 0))) := Lib.hid HOB2.out
    refine Frm.wh_start (fun w' => w'.heap[j]? = some (.cells #[.pointer (some ⟨g, 0, none⟩), .int .i64 gen, v, .int .i64 u0, .bool false] 51 (0, 0))) (by kernel_rfl) ?_
    generalize w2.drew = w3 at *
    refine Frm.wh_take 0 28 (.pointer (some ⟨j, 0, none⟩)) rfl rfl (by kernel_rfl) (fun _ _ _ h => h) rfl (HOB2.out) (fun w' hw' => ?_) ?_
    · exact rfl
    go_frame
    refine Frm.wh_take 1 29 (.pointer (some ⟨j, 0, none⟩)) rfl rfl (by kernel_rfl) (fun _ _ _ h => h) rfl (HOB2.out) (fun w' hw' => ?_) ?_
    · go_simp
    go_frame
    refine Frm.wh_take 2 30 (.pointer (some ⟨j, 0, none⟩)) rfl rfl (by kernel_rfl) (fun _ _ _ h => h) rfl (HOB2.out) (fun w' hw' => ?_) ?_
    · go_simp
    go_frame
    refine Frm.wh_take 3 31 (.pointer (some ⟨j, 0, none⟩)) rfl rfl (by kernel_rfl) (fun _ _ _ h => h) rfl (HOB2.out) (fun w' hw' => ?_) ?_
    · go_simp
    go_frame
    refine Frm.wh_take 4 32 (.pointer (some ⟨g, 0, none⟩)) rfl rfl (by kernel_rfl) (fun _ _ _ h => h) rfl (HOB2.out) (fun w' hw' => ?_) ?_
    · have q0 : w'.cell? ⟨j, 0, none⟩ = some (.pointer (some ⟨g, 0, none⟩)) := cell_at hw' 0
      go_simp
    go_frame
    refine Frm.wh_take 5 33 (.pointer (some ⟨j, 0, none⟩)) rfl rfl (by kernel_rfl) (fun _ _ _ h => h) rfl (HOB2.out) (fun w' hw' => ?_) ?_
    · exact rfl
    go_frame
    refine Frm.wh_take 6 34 (.pointer (some ⟨j, 0, none⟩)) rfl rfl (by kernel_rfl) (fun _ _ _ h => h) rfl (HOB2.out) (fun w' hw' => ?_) ?_
    · go_simp
    go_frame
    refine Frm.wh_take 7 35 (.pointer (some ⟨j, 0, none⟩)) rfl rfl (by kernel_rfl) (fun _ _ _ h => h) rfl (HOB2.out) (fun w' hw' => ?_) ?_
    · go_simp
    go_frame
    refine Frm.wh_take 8 36 (.pointer (some ⟨j, 1, none⟩)) rfl rfl (by kernel_rfl) (fun _ _ _ h => h) rfl (HOB2.out) (fun w' hw' => ?_) ?_
    · go_simp
    go_frame
    refine Frm.wh_take 9 37 (.int .i64 gen) rfl rfl (by kernel_rfl) (fun _ _ _ h => h) rfl (HOB2.out) (fun w' hw' => ?_) ?_
    · have q1 : w'.cell? ⟨j, 1, none⟩ = some (.int .i64 gen) := cell_at hw' 1
      go_simp
    go_frame
    have hw1 : IntKind.i64.wrap ((gen : Int) + 1) = (gen : Int) + 1 := IntWalk.i64_in _ (by have := HG.out; omega)
    refine Frm.wh_take 10 38 (.int .i64 ((gen : Int) + 1)) rfl rfl (by kernel_rfl) (fun _ _ _ h => h) rfl (HOB2.out) (fun w' hw' => ?_) ?_
    · go_simp
    go_frame
    refine Frm.wh_take 11 39 (.agg #[.pointer (some ⟨g, 0, none⟩), .int .i64 ((gen : Int) + 1)]) rfl rfl (by kernel_rfl) (fun _ _ _ h => h) rfl (HOB2.out) (fun w' hw' => ?_) ?_
    · go_simp
    go_frame
    have hba := Frm.alloc_below w3 (.cells #[.pointer none, .int .i64 0] 49)
    have HOB3 := Lib.hid ((hba.block j (lt_of_heap HOB2.out)).trans HOB2.out)
    refine Frm.wh_run 12 6 (.pointer (some ⟨w3.heap.size, 0, none⟩)) (w3.alloc (.cells #[.pointer none, .int .i64 0] 49)) rfl rfl (by kernel_rfl) rfl ?_ HOB3.out ?_
    · go_simp
    go_frame
    have hk6 := heap_alloc_new w3 (.cells #[.pointer none, .int .i64 0] 49)
    have z0 : (w3.alloc (.cells #[.pointer none, .int .i64 0] 49)).cell? ⟨w3.heap.size, 0, none⟩ = some (.pointer none) := cell_at hk6 0
    have z1 : (w3.alloc (.cells #[.pointer none, .int .i64 0] 49)).cell? ⟨w3.heap.size, 1, none⟩ = some (.int .i64 0) := cell_at hk6 1
    have f0 : (w3.alloc (.cells #[.pointer none, .int .i64 0] 49)).frozen? ⟨w3.heap.size, 0, none⟩ = false := free_at hk6 0
    have f1 : (w3.alloc (.cells #[.pointer none, .int .i64 0] 49)).frozen? ⟨w3.heap.size, 1, none⟩ = false := free_at hk6 1
    have HB3 : Hid (Below w.heap.size w (w3.alloc (.cells #[.pointer none, .int .i64 0] 49))) := Lib.hid (HB2.out.trans (hba.mono HB2.out.size))
    have HJ3 := Lib.hid (HJ2.out.below hba)
    have hlt6 : j < w3.heap.size := lt_of_heap HOB2.out
    have hse := set_at (set_at hk6 0 (.pointer (some ⟨g, 0, none⟩))) 1 (.int .i64 ((gen : Int) + 1))
    have HST : Hid (Turn [w3.heap.size] (w3.alloc (.cells #[.pointer none, .int .i64 0] 49)) (((w3.alloc (.cells #[.pointer none, .int .i64 0] 49)).setCell ⟨w3.heap.size, 0, none⟩ (.pointer (some ⟨g, 0, none⟩))).setCell ⟨w3.heap.size, 1, none⟩ (.int .i64 ((gen : Int) + 1)))) := Lib.hid (((Turn.refl [w3.heap.size] _).setCell (.inl (by simp)) _).setCell (.inl (by simp)) _)
    have HOB4 := Lib.hid ((HST.out.block j (lt_of_heap HOB3.out) (by simp; omega)).trans HOB3.out)
    refine Frm.wh_store 13 (((w3.alloc (.cells #[.pointer none, .int .i64 0] 49)).setCell ⟨w3.heap.size, 0, none⟩ (.pointer (some ⟨g, 0, none⟩))).setCell ⟨w3.heap.size, 1, none⟩ (.int .i64 ((gen : Int) + 1))) rfl rfl (by kernel_rfl) rfl ?_ HOB4.out ?_
    · go_simp
    refine wpAnyH_done (by kernel_rfl) ?_ _
    have HSE := Lib.hid hse
    have HJ4 := Lib.hid (HJ3.out.aside HST.out hk6 ⟨by decide, by decide⟩ hlt6 (HJ2.out.le))
    have HB4 : Hid (Turn [j, g, gs, gm] w (((w3.alloc (.cells #[.pointer none, .int .i64 0] 49)).setCell ⟨w3.heap.size, 0, none⟩ (.pointer (some ⟨g, 0, none⟩))).setCell ⟨w3.heap.size, 1, none⟩ (.int .i64 ((gen : Int) + 1)))) := Lib.hid ((Turn.ofBelow HB3.out).then_ HST.out (fun k hk => .inr (by simp at hk; have := HB2.out.size; omega)))
    clear z0 z1 f0 f1 hba hk6 hse hlt6 hw1
    generalize ((w3.alloc (.cells #[.pointer none, .int .i64 0] 49)).setCell ⟨w3.heap.size, 0, none⟩ (.pointer (some ⟨g, 0, none⟩))).setCell ⟨w3.heap.size, 1, none⟩ (.int .i64 ((gen : Int) + 1)) = w4 at *
    generalize w3.heap.size = k6 at *
    have HSE : Hid (w4.heap[k6]? = some (.cells #[.pointer (some ⟨g, 0, none⟩), .int .i64 ((gen : Int) + 1)] 49 (0, 0))) := Lib.hid HSE.out
    have b0 : w4.cell? ⟨k6, 0, none⟩ = some (.pointer (some ⟨g, 0, none⟩)) := cell_at HSE.out 0
    have b1 : w4.cell? ⟨k6, 1, none⟩ = some (.int .i64 ((gen : Int) + 1)) := cell_at HSE.out 1
    have HR4 := Lib.hid (HR.out.turn HB4.out (fun k hk => .inl hk))
    have HC := Lib.hid (HBG.out w4 HJ4.out.disk HR4.out.rows)
    go_wp2_with fail
    refine HC.out.mono ?_
    rintro e w5 ⟨rfl, hdk, ht⟩
    have HK6 := Lib.hid ((ht.block k6 (lt_of_heap HSE.out) (apart_disk HJ4.out.disk HSE.out (by decide) (by simp))).trans HSE.out)
    have HJ5 := Lib.hid (HJ4.out.disked hdk ht HXN.out)
    have HT5 : Hid (Turn [j, g, gs, gm] w w5) := Lib.hid (HB4.out.trans (ht.more (fun k hk => List.mem_cons_of_mem _ hk)))
    have HR5 := Lib.hid (HR4.out.turn ht (fun k hk => .inl (List.mem_cons_of_mem _ hk)))
    have HDK := Lib.hid hdk
    clear b0 b1 hdk ht HC HBG HJ2 HJ3
    have he : err false = 3 := rfl
    rw [he]
    clear he
    have HFL := Lib.hid (fall_any w5 lo j g gs gm XD jr _ HJ5.out)
    unfold ptr at HFL
    go_wp2_with fail
    refine HFL.out.mono ?_
    rintro e w8 ⟨rfl, hj8, ht8⟩
    have H8 := Lib.hid (And.intro hj8 ht8)
    clear hj8 ht8
    go_wp2_with fail
    go_ret
    rw [← HGE.out]
    exact ⟨rfl, _, H8.out.1, (HT5.out.more (fun k hk => List.mem_append_left _ hk)).trans (H8.out.2.more (fun k hk => List.mem_append_left _ (by simp at hk; simp [hk]))), fun _ hr => .inl hr⟩
  · rw [hz, hD, hJ]
    have HV : Hid (whyJ false ls = 0) := Lib.hid (by unfold whyJ; rw [hl]; rfl)
    have HRF := Lib.hid (refuses_any _ lo j g gs gm d jr v n c A ls HJ.out hr.rowl (by omega))
    rw [hdn, HV.out] at HRF
    have HAL := Lib.hid (anyLong_all hl)
    have htl := takes_le ls HAL.out
    have hlen := hr.len
    have HTK := Lib.hid (takes_any w n c A ls hr.rowl (by omega))
    have HRM := Lib.hid (jroom_any h)
    have hr16 := h.room16
    have hrm2 : (room d.n : Int) ≤ 65536 := by omega
    have HBG := Lib.hid (fun u hu hR => begin_any u g gs gm d (jr.gen + 1) n c A ls hu (by have := h.n8; omega) (by omega) hR HAL.out hfit)
    have HXN := Lib.hid (beginD_n d (jr.gen + 1) ls)
    rw [hex] at HBG
    clear hex
    generalize beginD d (jr.gen + 1) ls = XD at *
    have hf2 : (takes ls : Int) ≤ room d.n := by omega
    have HF2 := Lib.hid hfit
    have hcc := h.c
    rw [hdn] at hcc
    obtain ⟨c0, c1, c2, c3, c4⟩ := hcc
    have HOB : Hid (w.heap[j]? = some (.cells #[.pointer (some ⟨g, 0, none⟩), .int .i64 jr.gen, v, .int .i64 (takes jr.gs), .bool false] 51 (0, 0))) := Lib.hid (by have := h.hd; rw [hdn] at this; exact this)
    have hgm : ((jr.gen : Int) == 9223372036854775807) = false := by simp; omega
    clear hg1
    have HGEN := Lib.hid (Eq.refl jr.gen)
    clear h hr hdn hl hfit hz hD hJ HV htl hlen hr16 c0 c3 c4 c2
    generalize hgen : jr.gen = gen at *
    have HGE := Lib.hid hgen
    generalize takes jr.gs = u0 at *
    generalize htk : takes ls = tk at *
    have HTT := Lib.hid htk
    generalize hR : room d.n = R at *
    have HRR := Lib.hid hR
    unfold hv at HBG
    push_cast at HBG
    clear hgen htk hR
    unfold ptr at *
    go_enter Try.func12, Try.ntmps12
    go_wp2_with fail
    refine HRF.out.mono ?_
    rintro e w1 ⟨rfl, rfl⟩
    go_wp2_with fail
    refine HTK.out.mono ?_
    rintro e w2 ⟨rfl, rfl⟩
    go_wp2_with fail
    refine HRM.out.mono ?_
    rintro e w2 ⟨rfl, hb2⟩
    have HB2 := Lib.hid hb2
    have HJ2 := Lib.hid (HJ.out.below hb2)
    have HOB2 := Lib.hid ((hb2.block j (lt_of_heap HOB.out)).trans HOB.out)
    have k1 : w2.cell? ⟨j, 1, none⟩ = some (.int .i64 gen) := cell_at HOB2.out 1
    clear hb2 c1
    generalize hM : (9223372036854775807 : Int) = M at *
    clear hM
    go_wp2_with fail
    clear k1 hgm
    have HB2 := Lib.hid HB2.out.drew
    have HJ2 := Lib.hid HJ2.out.drew
    have HOB2 : Hid (w2.drew.heap[j]? = some (.cells #[.pointer (some ⟨g, 0, none⟩), .int .i64 gen, v, .int .i64 u0, .bool false] 51 (0, 0))) := Lib.hid HOB2.out
    refine Frm.wh_start (fun w' => w'.heap[j]? = some (.cells #[.pointer (some ⟨g, 0, none⟩), .int .i64 gen, v, .int .i64 u0, .bool false] 51 (0, 0))) (by kernel_rfl) ?_
    generalize w2.drew = w3 at *
    refine Frm.wh_take 0 28 (.pointer (some ⟨j, 0, none⟩)) rfl rfl (by kernel_rfl) (fun _ _ _ h => h) rfl (HOB2.out) (fun w' hw' => ?_) ?_
    · exact rfl
    go_frame
    refine Frm.wh_take 1 29 (.pointer (some ⟨j, 0, none⟩)) rfl rfl (by kernel_rfl) (fun _ _ _ h => h) rfl (HOB2.out) (fun w' hw' => ?_) ?_
    · go_simp
    go_frame
    refine Frm.wh_take 2 30 (.pointer (some ⟨j, 0, none⟩)) rfl rfl (by kernel_rfl) (fun _ _ _ h => h) rfl (HOB2.out) (fun w' hw' => ?_) ?_
    · go_simp
    go_frame
    refine Frm.wh_take 3 31 (.pointer (some ⟨j, 0, none⟩)) rfl rfl (by kernel_rfl) (fun _ _ _ h => h) rfl (HOB2.out) (fun w' hw' => ?_) ?_
    · go_simp
    go_frame
    refine Frm.wh_take 4 32 (.pointer (some ⟨g, 0, none⟩)) rfl rfl (by kernel_rfl) (fun _ _ _ h => h) rfl (HOB2.out) (fun w' hw' => ?_) ?_
    · have q0 : w'.cell? ⟨j, 0, none⟩ = some (.pointer (some ⟨g, 0, none⟩)) := cell_at hw' 0
      go_simp
    go_frame
    refine Frm.wh_take 5 33 (.pointer (some ⟨j, 0, none⟩)) rfl rfl (by kernel_rfl) (fun _ _ _ h => h) rfl (HOB2.out) (fun w' hw' => ?_) ?_
    · exact rfl
    go_frame
    refine Frm.wh_take 6 34 (.pointer (some ⟨j, 0, none⟩)) rfl rfl (by kernel_rfl) (fun _ _ _ h => h) rfl (HOB2.out) (fun w' hw' => ?_) ?_
    · go_simp
    go_frame
    refine Frm.wh_take 7 35 (.pointer (some ⟨j, 0, none⟩)) rfl rfl (by kernel_rfl) (fun _ _ _ h => h) rfl (HOB2.out) (fun w' hw' => ?_) ?_
    · go_simp
    go_frame
    refine Frm.wh_take 8 36 (.pointer (some ⟨j, 1, none⟩)) rfl rfl (by kernel_rfl) (fun _ _ _ h => h) rfl (HOB2.out) (fun w' hw' => ?_) ?_
    · go_simp
    go_frame
    refine Frm.wh_take 9 37 (.int .i64 gen) rfl rfl (by kernel_rfl) (fun _ _ _ h => h) rfl (HOB2.out) (fun w' hw' => ?_) ?_
    · have q1 : w'.cell? ⟨j, 1, none⟩ = some (.int .i64 gen) := cell_at hw' 1
      go_simp
    go_frame
    have hw1 : IntKind.i64.wrap ((gen : Int) + 1) = (gen : Int) + 1 := IntWalk.i64_in _ (by have := HG.out; omega)
    refine Frm.wh_take 10 38 (.int .i64 ((gen : Int) + 1)) rfl rfl (by kernel_rfl) (fun _ _ _ h => h) rfl (HOB2.out) (fun w' hw' => ?_) ?_
    · go_simp
    go_frame
    refine Frm.wh_take 11 39 (.agg #[.pointer (some ⟨g, 0, none⟩), .int .i64 ((gen : Int) + 1)]) rfl rfl (by kernel_rfl) (fun _ _ _ h => h) rfl (HOB2.out) (fun w' hw' => ?_) ?_
    · go_simp
    go_frame
    have hba := Frm.alloc_below w3 (.cells #[.pointer none, .int .i64 0] 49)
    have HOB3 := Lib.hid ((hba.block j (lt_of_heap HOB2.out)).trans HOB2.out)
    refine Frm.wh_run 12 6 (.pointer (some ⟨w3.heap.size, 0, none⟩)) (w3.alloc (.cells #[.pointer none, .int .i64 0] 49)) rfl rfl (by kernel_rfl) rfl ?_ HOB3.out ?_
    · go_simp
    go_frame
    have hk6 := heap_alloc_new w3 (.cells #[.pointer none, .int .i64 0] 49)
    have z0 : (w3.alloc (.cells #[.pointer none, .int .i64 0] 49)).cell? ⟨w3.heap.size, 0, none⟩ = some (.pointer none) := cell_at hk6 0
    have z1 : (w3.alloc (.cells #[.pointer none, .int .i64 0] 49)).cell? ⟨w3.heap.size, 1, none⟩ = some (.int .i64 0) := cell_at hk6 1
    have f0 : (w3.alloc (.cells #[.pointer none, .int .i64 0] 49)).frozen? ⟨w3.heap.size, 0, none⟩ = false := free_at hk6 0
    have f1 : (w3.alloc (.cells #[.pointer none, .int .i64 0] 49)).frozen? ⟨w3.heap.size, 1, none⟩ = false := free_at hk6 1
    have HB3 : Hid (Below w.heap.size w (w3.alloc (.cells #[.pointer none, .int .i64 0] 49))) := Lib.hid (HB2.out.trans (hba.mono HB2.out.size))
    have HJ3 := Lib.hid (HJ2.out.below hba)
    have hlt6 : j < w3.heap.size := lt_of_heap HOB2.out
    have hse := set_at (set_at hk6 0 (.pointer (some ⟨g, 0, none⟩))) 1 (.int .i64 ((gen : Int) + 1))
    have HST : Hid (Turn [w3.heap.size] (w3.alloc (.cells #[.pointer none, .int .i64 0] 49)) (((w3.alloc (.cells #[.pointer none, .int .i64 0] 49)).setCell ⟨w3.heap.size, 0, none⟩ (.pointer (some ⟨g, 0, none⟩))).setCell ⟨w3.heap.size, 1, none⟩ (.int .i64 ((gen : Int) + 1)))) := Lib.hid (((Turn.refl [w3.heap.size] _).setCell (.inl (by simp)) _).setCell (.inl (by simp)) _)
    have HOB4 := Lib.hid ((HST.out.block j (lt_of_heap HOB3.out) (by simp; omega)).trans HOB3.out)
    refine Frm.wh_store 13 (((w3.alloc (.cells #[.pointer none, .int .i64 0] 49)).setCell ⟨w3.heap.size, 0, none⟩ (.pointer (some ⟨g, 0, none⟩))).setCell ⟨w3.heap.size, 1, none⟩ (.int .i64 ((gen : Int) + 1))) rfl rfl (by kernel_rfl) rfl ?_ HOB4.out ?_
    · go_simp
    refine wpAnyH_done (by kernel_rfl) ?_ _
    have HSE := Lib.hid hse
    have HJ4 := Lib.hid (HJ3.out.aside HST.out hk6 ⟨by decide, by decide⟩ hlt6 (HJ2.out.le))
    have HB4 : Hid (Turn [j, g, gs, gm] w (((w3.alloc (.cells #[.pointer none, .int .i64 0] 49)).setCell ⟨w3.heap.size, 0, none⟩ (.pointer (some ⟨g, 0, none⟩))).setCell ⟨w3.heap.size, 1, none⟩ (.int .i64 ((gen : Int) + 1)))) := Lib.hid ((Turn.ofBelow HB3.out).then_ HST.out (fun k hk => .inr (by simp at hk; have := HB2.out.size; omega)))
    clear z0 z1 f0 f1 hba hk6 hse hlt6 hw1
    generalize ((w3.alloc (.cells #[.pointer none, .int .i64 0] 49)).setCell ⟨w3.heap.size, 0, none⟩ (.pointer (some ⟨g, 0, none⟩))).setCell ⟨w3.heap.size, 1, none⟩ (.int .i64 ((gen : Int) + 1)) = w4 at *
    generalize w3.heap.size = k6 at *
    have HSE : Hid (w4.heap[k6]? = some (.cells #[.pointer (some ⟨g, 0, none⟩), .int .i64 ((gen : Int) + 1)] 49 (0, 0))) := Lib.hid HSE.out
    have b0 : w4.cell? ⟨k6, 0, none⟩ = some (.pointer (some ⟨g, 0, none⟩)) := cell_at HSE.out 0
    have b1 : w4.cell? ⟨k6, 1, none⟩ = some (.int .i64 ((gen : Int) + 1)) := cell_at HSE.out 1
    have HR4 := Lib.hid (HR.out.turn HB4.out (fun k hk => .inl hk))
    have HC := Lib.hid (HBG.out w4 HJ4.out.disk HR4.out.rows)
    go_wp2_with fail
    refine HC.out.mono ?_
    rintro e w5 ⟨rfl, hdk, ht⟩
    have HK6 := Lib.hid ((ht.block k6 (lt_of_heap HSE.out) (apart_disk HJ4.out.disk HSE.out (by decide) (by simp))).trans HSE.out)
    have HJ5 := Lib.hid (HJ4.out.disked hdk ht HXN.out)
    have HT5 : Hid (Turn [j, g, gs, gm] w w5) := Lib.hid (HB4.out.trans (ht.more (fun k hk => List.mem_cons_of_mem _ hk)))
    have HR5 := Lib.hid (HR4.out.turn ht (fun k hk => .inl (List.mem_cons_of_mem _ hk)))
    have HDK := Lib.hid hdk
    clear b0 b1 hdk ht HC HBG HJ2 HJ3
    have he : err true = 0 := rfl
    rw [he]
    clear he
    have b0 : w5.cell? ⟨k6, 0, none⟩ = some (.pointer (some ⟨g, 0, none⟩)) := cell_at HK6.out 0
    have b1 : w5.cell? ⟨k6, 1, none⟩ = some (.int .i64 ((gen : Int) + 1)) := cell_at HK6.out 1
    have hjh := HJ5.out.hd
    unfold jobj ptr at hjh
    have y0 := cell_at hjh 0
    have y1 := cell_at hjh 1
    have y2 := cell_at hjh 2
    have y3 := cell_at hjh 3
    have y4 := cell_at hjh 4
    have g0 := free_at hjh 0
    have g1 := free_at hjh 1
    have g2 := free_at hjh 2
    have g3 := free_at hjh 3
    have g4 := free_at hjh 4
    simp only [List.getElem?_toArray, List.getElem?_cons_zero, List.getElem?_cons_succ] at y0 y1 y2 y3 y4
    have hst5 := set_at (set_at (set_at (set_at (set_at hjh 0 (.pointer (some ⟨g, 0, none⟩))) 1 (.int .i64 ((gen : Int) + 1))) 2 (.slice none 0 0)) 3 (.int .i64 0)) 4 (.bool false)
    have HT6 : Hid (Turn [j] w5 (((((w5.setCell ⟨j, 0, none⟩ (.pointer (some ⟨g, 0, none⟩))).setCell ⟨j, 1, none⟩ (.int .i64 ((gen : Int) + 1))).setCell ⟨j, 2, none⟩ (.slice none 0 0)).setCell ⟨j, 3, none⟩ (.int .i64 0)).setCell ⟨j, 4, none⟩ (.bool false))) := Lib.hid ((((((Turn.refl [j] w5).setCell (.inl (by simp)) _).setCell (.inl (by simp)) _).setCell (.inl (by simp)) _).setCell (.inl (by simp)) _).setCell (.inl (by simp)) _)
    have HS6 : Hid ((((((w5.setCell ⟨j, 0, none⟩ (.pointer (some ⟨g, 0, none⟩))).setCell ⟨j, 1, none⟩ (.int .i64 ((gen : Int) + 1))).setCell ⟨j, 2, none⟩ (.slice none 0 0)).setCell ⟨j, 3, none⟩ (.int .i64 0)).setCell ⟨j, 4, none⟩ (.bool false)).heap[j]? = some (.cells #[.pointer (some ⟨g, 0, none⟩), .int .i64 ((gen : Int) + 1), .slice none 0 0, .int .i64 0, .bool false] 51 (0, 0))) := Lib.hid hst5
    clear hjh hst5
    go_upto_region 10 with fail
    clear y0 y1 y2 y3 y4 g0 g1 g2 g3 g4 b0 b1
    generalize ((((w5.setCell ⟨j, 0, none⟩ (.pointer (some ⟨g, 0, none⟩))).setCell ⟨j, 1, none⟩ (.int .i64 ((gen : Int) + 1))).setCell ⟨j, 2, none⟩ (.slice none 0 0)).setCell ⟨j, 3, none⟩ (.int .i64 0)).setCell ⟨j, 4, none⟩ (.bool false) = w6 at *
    have HJ6 := Lib.hid (HJ5.out.anew HT6.out HS6.out HG.out)
    have HR6 := Lib.hid (HR5.out.turn HT6.out (fun k hk => .inl (by rcases List.mem_singleton.1 hk with rfl; simp)))
    have HT7 : Hid (Turn [j, g, gs, gm] w w6) := Lib.hid (HT5.out.trans (HT6.out.more (fun k hk => by rcases List.mem_singleton.1 hk with rfl; simp)))
    have HLEN := Lib.hid HR.out.len
    have hn2 : (n : Int) ≤ 1000000 := by have := HN.out; omega
    clear hf2 hrm2
    go_wp2_with fail
    go_loopw [52] (fun i' wr => ∃ (k : Nat) (vk : Value), k ≤ n ∧ i' = .int .i64 k ∧ RI w wr lo j g gs gm XD (gen + 1) n A ls k vk) (fun i' _ => n - (Go.RowKit.intOf i').toNat)
    case atStart => exact ⟨0, .slice none 0 0, by omega, rfl, ⟨HJ6.out, HT7.out, by simpa [Value.ownBlock] using HR6.out, fun r hr => by cases hr⟩⟩
    case round =>
      obtain ⟨k, vk, hk, rfl, hrl⟩ := hrel
      have HK := Lib.hid hrl
      clear hrl
      by_cases hlt : k < n
      · obtain ⟨b, o, Aj, cj, hat⟩ := HK.out.rows.at hlt
        have hidx := hat.index c
        obtain ⟨_, hcell, hbt, hlc, hcm, _⟩ := hat
        have HKL : Hid (k < ls.length) := Lib.hid (by rw [HLEN.out]; exact hlt)
        have hle : (ls.getD k []).length ≤ 1048576 := HAL.out _ (by rw [Frm.getD_of HKL.out]; exact List.getElem_mem _)
        have HCL := Lib.hid (Cod.clone_any wr wr.heap.size _ cj Aj (ls.getD k []) hbt.byts (Nat.le_refl _) (by omega))
        generalize hlx : (ls.getD k []).length = lx at *
        have HLX := Lib.hid hlx
        clear hbt hlc hcm hle hlx
        go_wp2_with fail
        refine HCL.out.mono ?_
        rintro e w7 ⟨A8, c8, rfl, ho8, hb8⟩
        have HX8 : Hid (It.ok w7 lo ⟨A8, lx, c8, ls.getD k []⟩) := Lib.hid (by
          obtain ⟨A', c', e', h1, h2⟩ := ho8.form
          injection e' with _ _ e3
          subst e3
          exact ⟨ho8.byts, h1, h2, (Frm.own_above ho8).mono HK.out.jn.le, Frm.own_u8 ho8⟩)
        have HB8 := Lib.hid hb8
        have HJ8 := Lib.hid (HK.out.jn.below hb8)
        clear ho8 hb8
        have HAD := Lib.hid (add_any w7 lo j g gs gm XD ⟨gen + 1, ls.take k, false⟩ vk ⟨A8, lx, c8, ls.getD k []⟩ HJ8.out HX8.out (by
          have h1 := takes_snoc_take ls k HKL.out
          have h2 := takes_take ls (k + 1)
          have h3 := HTT.out
          have h4 := HRR.out
          have h5 := HF2.out
          rw [HXN.out]
          show takes (ls.take k) + takes1 (ls.getD k []) ≤ _
          omega))
        unfold ptr It.val at HAD
        dsimp only at HAD
        go_wp2_with fail
        refine HAD.out.mono ?_
        rintro e w9 ⟨rfl, v9, hj9, ht9, hv9⟩
        have H9 := Lib.hid (And.intro hj9 (And.intro ht9 hv9))
        clear hj9 ht9 hv9 hcell hidx
        go_wp2_with fail
        go_roundw
        case rel => exact ⟨k + 1, v9, by omega, by go_num, HK.out.step HB8.out (by rw [take_getD ls k HKL.out]; exact H9.out.1) H9.out.2.1 H9.out.2.2⟩
        case measure => simp [Go.RowKit.intOf]; omega
      · obtain rfl : k = n := by omega
        go_wp2_with fail
        go_ret
        refine ⟨rfl, vk, ?_, HK.out.fr.more (fun q hq => List.mem_append_left _ hq), fun q hq => .inr (HK.out.fresh q hq)⟩
        have h1 := HK.out.jn
        rw [← HLEN.out, List.take_length] at h1
        exact h1
end Go.Proofs.Ytgjdgmpjbpnjbaa.Jou
/-
  What Groups, Used and Gen tell; and all calls of a journal that is none. Condition: the journal is known (or none).
-/
namespace Go.Proofs.Ytgjdgmpjbpnjbaa.Jou
open Go.RowKit Codec FrameM Cod JourM
open Disk (Turn Dk Dsk ptr Now)
open Frm (Above U8)
set_option maxRecDepth 100000
theorem takes_mem {b : List UInt8} {l : List (List UInt8)} (h : b ∈ l) : takes1 b ≤ takes l := by
  induction l with
  | nil => cases h
  | cons a l ih =>
    rcases List.mem_cons.1 h with rfl | h
    · simp only [takes]; omega
    · have := ih h; simp only [takes]; omega
theorem none_below {w w' : World} {p : Value} (h : JNobody w p) (hb : Below w.heap.size w w') : JNobody w' p := h.imp id (fun ⟨j, e, hz⟩ => ⟨j, e, (hb.block j (lt_of_heap hz)).trans hz⟩)
theorem need_big (n : Nat) : n ≤ 64 * need n := by unfold need; omega
section
variable {w : World} {lo j g gs gm : Nat} {d : Dsk} {jr : Jr} {v : Value}
theorem Jn.rowsB (h : Jn w lo j g gs gm d jr v) : ∃ A c, v = .slice A jr.gs.length c ∧ jr.gs.length ≤ c ∧ RowsB w [] A jr.gs.length jr.gs := by
  obtain ⟨A, c, hv, hc⟩ := h.len
  subst hv
  obtain ⟨its, ho, hi, hok⟩ := h.own
  have hl : its.length = jr.gs.length := by rw [← hi, List.length_map]
  refine ⟨A, c, rfl, hc, rfl, fun hn => ?_⟩
  rw [← hl] at ho
  obtain ⟨gb, cap, hv, hlo, hlt⟩ := World.ownsRow.form ho (by omega)
  have hA : A = some ⟨gb, 0, none⟩ := by injection hv
  subst hA
  refine ⟨gb, 0, rfl, hlt, by simp, fun k hk => ?_⟩
  have hk' : k < its.length := by omega
  have hx := hok its[k] (List.getElem_mem _)
  have hc := ho.cells (g := gb) rfl k its[k].val (by simp [hk'])
  rw [plain_add] at hc
  have e : jr.gs.getD k [] = its[k].xs := by
    rw [Frm.getD_of hk]
    simp [← hi]
  rw [e]
  have hm : its[k].m = its[k].xs.length := hx.byts.len.symm
  refine ⟨its[k].A, its[k].c, by rw [hc, It.val, hm], ?_, by rw [← hm]; exact hx.mc, hx.cm⟩
  rw [← hm]
  exact Bts.of_byts hx.byts (Nat.le_refl _) (by simp)
theorem jused_any (h : Jn w lo j g gs gm d jr v) : Calls Try.prog 20 #[ptr j] w (Disk.Ends (.int .i64 (takes jr.gs)) w) := by
  have HM := Lib.hid (jmade_any h)
  obtain ⟨_, _, _, h3, _⟩ := h.c
  clear h
  unfold ptr at HM ⊢
  generalize takes jr.gs = u0 at *
  go_enter Try.func20, Try.ntmps20
  go_wp2_with fail
  refine HM.out.mono ?_
  rintro e w1 ⟨rfl, rfl⟩
  go_wp2
  go_ret
  exact ⟨rfl, rfl⟩
theorem jgen_any (h : Jn w lo j g gs gm d jr v) : Calls Try.prog 21 #[ptr j] w (Disk.Ends (.int .i64 jr.gen) w) := by
  have HM := Lib.hid (jmade_any h)
  obtain ⟨_, h1, _⟩ := h.c
  clear h
  unfold ptr at HM ⊢
  generalize jr.gen = u0 at *
  go_enter Try.func21, Try.ntmps21
  go_wp2_with fail
  refine HM.out.mono ?_
  rintro e w1 ⟨rfl, rfl⟩
  go_wp2
  go_ret
  exact ⟨rfl, rfl⟩
theorem jused_none {p : Value} (h : JNobody w p) : Calls Try.prog 20 #[p] w (Disk.Ends (.int .i64 0) w) := by
  have HM := Lib.hid (jmade_none h)
  clear h
  go_enter Try.func20, Try.ntmps20
  go_wp2_with fail
  refine HM.out.mono ?_
  rintro e w1 ⟨rfl, rfl⟩
  go_wp2
  go_ret
  exact ⟨rfl, rfl⟩
theorem jgen_none {p : Value} (h : JNobody w p) : Calls Try.prog 21 #[p] w (Disk.Ends (.int .i64 0) w) := by
  have HM := Lib.hid (jmade_none h)
  clear h
  go_enter Try.func21, Try.ntmps21
  go_wp2_with fail
  refine HM.out.mono ?_
  rintro e w1 ⟨rfl, rfl⟩
  go_wp2
  go_ret
  exact ⟨rfl, rfl⟩
theorem jgroups_none {p : Value} (h : JNobody w p) : Calls Try.prog 18 #[p] w (Disk.Ends (.slice none 0 0) w) := by
  have HM := Lib.hid (jmade_none h)
  clear h
  go_enter Try.func18, Try.ntmps18
  go_wp2_with fail
  refine HM.out.mono ?_
  rintro e w1 ⟨rfl, rfl⟩
  go_wp2
  go_ret
  exact ⟨rfl, rfl⟩
theorem reset_none {p : Value} (h : JNobody w p) (u : Value) : Calls Try.prog 12 #[p, u] w (Disk.Ends (.int .i64 1) w) := by
  have HRF := Lib.hid (refuses_none h u)
  clear h
  go_enter Try.func12, Try.ntmps12
  go_wp2_with fail
  refine HRF.out.mono ?_
  rintro e w1 ⟨rfl, rfl⟩
  go_wp2_with fail
  go_ret
  exact ⟨rfl, rfl⟩
theorem append_none {p : Value} (h : JNobody w p) (A : Option Addr) (m c : Nat) : Calls Try.prog 10 #[p, .slice A m c] w (fun e w' => e = .returned (.int .i64 1) ∧ Below w.heap.size w w') := by
  have HW1 := Lib.hid (Frm.alloc_below w (.cells #[.slice A m c] 35))
  have HRF := Lib.hid (refuses_none (none_below h HW1.out) (.slice (some ⟨w.heap.size, 0, none⟩) 1 1))
  clear h
  go_enter Try.func10, Try.ntmps10
  go_wp2_with fail
  refine HRF.out.mono ?_
  rintro e w1 ⟨rfl, rfl⟩
  go_wp2_with fail
  go_ret
  exact ⟨rfl, HW1.out⟩
/-- What the loop of Groups has laid. -/
structure RG (w' : World) (lo b K k : Nat) (x : Nat → List UInt8) (C : Array Value) : Prop where
  rr : RR w' b K k x C
  ab : ∀ q, q < k → ∀ Aj l cj, C[q]? = some (.slice Aj l cj) → Above lo Aj
theorem RG.set {w1 : World} {lo b K k : Nat} {x : Nat → List UInt8} {C : Array Value} (h : RG w1 lo b K k x C) (hk : k < K) {A : Option Addr} {c : Nat} (hb : Bts w1 [b] A (x k).length (x k)) (hc : (x k).length ≤ c) (hm : c ≤ maxLen) (ha : Above lo A) :
    RG (w1.setCell ⟨b, k, none⟩ (.slice A (x k).length c)) lo b K (k + 1) x (C.setIfInBounds k (.slice A (x k).length c)) := by
  refine ⟨h.rr.set hk hb hc hm, fun q hq Aj l cj he => ?_⟩
  by_cases e : q = k
  · subst e
    rw [Array.getElem?_setIfInBounds_self_of_lt (by rw [h.rr.size]; exact hk)] at he
    cases he
    exact ha
  · rw [Array.getElem?_setIfInBounds_ne (by omega)] at he
    exact h.ab q (by omega) Aj l cj he
/-- Rows that were made anew: apart from all that was there. -/
def NewRows (w w' : World) (A : Option Addr) (n : Nat) (ls : List (List UInt8)) : Prop := ∀ S : List Nat, (∀ k ∈ S, k < w.heap.size) → RowsB w' S A n ls
theorem RG.rows {w w1 : World} {b K : Nat} {ls : List (List UInt8)} {C : Array Value} (hl : ls.length = K) (h : RG w1 w.heap.size b K K (fun i => ls.getD i []) C) (hb : w.heap.size ≤ b) : NewRows w w1 (some ⟨b, 0, none⟩) K ls := by
  intro S hS
  refine ⟨hl, fun hK => ⟨b, 0, rfl, lt_of_heap h.rr.row, fun hm => by have := hS b hm; omega, fun q hq => ?_⟩⟩
  obtain ⟨Aj, cj, h1, h2, h3, h4⟩ := h.rr.at_ q hq
  exact ⟨Aj, cj, by rw [cell_at h.rr.row, Nat.zero_add]; exact h1, Bts.above h2.byts (h.ab q hq _ _ _ h1) hS, h3, h4⟩
/-- What Groups tells. -/
def GroupsR (w : World) (ls : List (List UInt8)) (e : Ending) (w' : World) : Prop := ∃ A c, e = .returned (.slice A ls.length c) ∧ NewRows w w' A ls.length ls ∧ ls.length ≤ c ∧ c ≤ maxLen ∧ Below w.heap.size w w'
/-- What holds between the rounds. -/
structure GI (w wr : World) (N : Nat) (Av : Option Addr) (ls : List (List UInt8)) (k : Nat) (C : Array Value) : Prop where
  low : Below w.heap.size w wr
  rg : RG wr w.heap.size w.heap.size N k (fun i => ls.getD i []) C
set_option maxHeartbeats 4000000 in
theorem groups_any (h : Jn w lo j g gs gm d jr v) : Calls Try.prog 18 #[ptr j] w (GroupsR w jr.gs) := by
  have HM := Lib.hid (jmade_any h)
  obtain ⟨Av, cv, hv, hcv, hrow⟩ := h.rowsB
  subst hv
  have HR := Lib.hid hrow
  have HJ := Lib.hid h
  have hgl : jr.gs.length ≤ 65536 := by have := takes_length jr.gs; have := h.room16.2; omega
  have HG := Lib.hid hgl
  obtain ⟨_, _, c2, _, _⟩ := h.c
  have hmk : ∀ u : World, (Instr.makeSlice 34 (.int .i64 jr.gs.length) (.int .i64 jr.gs.length)).run Try.prog u = .ok (.slice (some ⟨u.heap.size, 0, none⟩) jr.gs.length jr.gs.length) (u.alloc (.cells (Frm.room jr.gs.length) 35)) := fun u => run_make34K u _ (by omega)
  have HBB : Hid (∀ b ∈ jr.gs, b.length ≤ 1000000000) := Lib.hid (fun b hb => by
    have h1 := h.room16.2
    have h2 := takes_mem hb
    unfold takes1 at h2
    have h3 := need_big b.length
    omega)
  have hN1 : (jr.gs.length : Int) ≤ 65536 := by omega
  clear hrow hcv h hgl
  unfold ptr at *
  generalize jr.gs = ls at *
  generalize hN : ls.length = N at *
  have HL := Lib.hid hN
  clear hN
  go_enter Try.func18, Try.ntmps18
  go_wp2_with fail
  refine HM.out.mono ?_
  rintro e w1 ⟨rfl, rfl⟩
  have HC2 := Lib.hid c2
  go_upto_region 4 with fail
  have HB1 := Lib.hid (Frm.alloc_below w (.cells (Frm.room N) 35))
  have c2 : (w.alloc (.cells (Frm.room N) 35)).cell? ⟨j, 2, none⟩ = some (.slice Av N cv) := (World.cell?_of_block (w := w) (HB1.out.block j (lt_of_heap HJ.out.hd))).trans HC2.out
  have HI : Hid (GI w (w.alloc (.cells (Frm.room N) 35)) N Av ls 0 (Frm.room N)) := Lib.hid ⟨HB1.out, ⟨heap_alloc_new w _, room_size N, fun q hq => absurd hq (by omega)⟩, fun q hq => absurd hq (by omega)⟩
  clear hmk
  go_wp2_with fail
  clear c2
  generalize w.alloc (.cells (Frm.room N) 35) = W at *
  go_loopw [20] (fun i' wr => ∃ (k : Nat) (C : Array Value), k ≤ N ∧ i' = .int .i64 k ∧ GI w wr N Av ls k C) (fun i' _ => N - (Go.RowKit.intOf i').toNat)
  case atStart => exact ⟨0, _, by omega, rfl, HI.out⟩
  case round =>
    obtain ⟨k, C, hk, rfl, hrl⟩ := hrel
    have HK := Lib.hid hrl
    clear hrl
    by_cases hlt : k < N
    · obtain ⟨b, o, Aj, cj, hat⟩ := (HR.out.below HK.out.low).at hlt
      have hidx := hat.index cv
      obtain ⟨_, hcell, hbt, hlc, hcm, _⟩ := hat
      have hle : (ls.getD k []).length ≤ 1000000000 := HBB.out _ (by rw [Frm.getD_of (by rw [HL.out]; exact hlt)]; exact List.getElem_mem _)
      have HCL := Lib.hid (Cod.clone_any wr wr.heap.size _ cj Aj (ls.getD k []) hbt.byts (Nat.le_refl _) (by omega))
      have hidx2 : ∀ u : World, (Instr.indexAt 34 (.slice (some ⟨w.heap.size, 0, none⟩) N N) (.int .i64 k)).run Try.prog u = .ok (.pointer (some ⟨w.heap.size, k, none⟩)) u := fun u => by
        simp [Instr.indexAt, asIntOf, run_underlying Try.underlying34, Result.andThen, plain_add]
        intro h1
        omega
      generalize hlx : (ls.getD k []).length = lx at *
      have HLX := Lib.hid hlx
      clear hbt hlc hcm hle hlx
      go_wp2_with fail
      refine HCL.out.mono ?_
      rintro e w7 ⟨A8, c8, rfl, ho8, hb8⟩
      have HX8 : Hid (It.ok w7 w.heap.size ⟨A8, lx, c8, ls.getD k []⟩) := Lib.hid (by
        obtain ⟨A', c', e', h1, h2⟩ := ho8.form
        injection e' with _ _ e3
        subst e3
        exact ⟨ho8.byts, h1, h2, (Frm.own_above ho8).mono HK.out.low.size, Frm.own_u8 ho8⟩)
      have HBW : Hid (Bts w7 [w.heap.size] A8 lx (ls.getD k [])) := Lib.hid (Bts.above (lo := wr.heap.size) HX8.out.byts (Frm.own_above ho8) (by have := lt_of_heap HK.out.rg.rr.row; simpa using this))
      have HRG : Hid (RG w7 w.heap.size w.heap.size N k (fun i => ls.getD i []) C) := Lib.hid ⟨HK.out.rg.rr.below hb8, HK.out.rg.ab⟩
      have HLW : Hid (Below w.heap.size w w7) := Lib.hid (HK.out.low.trans (hb8.mono HK.out.low.size))
      clear ho8 hb8 hcell hidx
      have hcell : ∃ v, w7.cell? ⟨w.heap.size, k, none⟩ = some v := by
        rw [cell_at HRG.out.rr.row]
        exact ⟨C[k]'(by rw [HRG.out.rr.size]; exact hlt), by simp [HRG.out.rr.size, hlt]⟩
      obtain ⟨v0, hv0⟩ := hcell
      have hf0 : w7.frozen? ⟨w.heap.size, k, none⟩ = false := free_at HRG.out.rr.row k
      have HR4 := Lib.hid (HRG.out.set hlt (by dsimp only; rw [HLX.out]; exact HBW.out) (by dsimp only; rw [HLX.out]; exact HX8.out.mc) HX8.out.cm HX8.out.ab)
      dsimp only at HR4
      rw [HLX.out] at HR4
      have HL4 : Hid (Below w.heap.size w (w7.setCell ⟨w.heap.size, k, none⟩ (.slice A8 lx c8))) := Lib.hid (HLW.out.setCell (p := ⟨w.heap.size, k, none⟩) (by simp) _)
      go_wp2_with fail
      go_roundw
      case rel => exact ⟨k + 1, _, by omega, by go_num, HL4.out, HR4.out⟩
      case measure => simp [Go.RowKit.intOf]; omega
    · obtain rfl : k = N := by omega
      go_wp2_with fail
      go_ret
      exact ⟨some ⟨w.heap.size, 0, none⟩, k, by rw [HL.out]; rfl, by rw [HL.out]; exact HK.out.rg.rows HL.out (Nat.le_refl _), by rw [HL.out]; exact Nat.le_refl _, by unfold maxLen; omega, HK.out.low⟩
end
end Go.Proofs.Ytgjdgmpjbpnjbaa.Jou
/-
  What the law's helpers tell: num, Same, either. Conditions: the slices read as bytes.
-/
namespace Go.Proofs.Ytgjdgmpjbpnjbaa.Jou
open Go.RowKit Codec FrameM Cod JourM
open Disk (Turn Dk Dsk ptr Now)
set_option maxRecDepth 100000
theorem num_any (w : World) (z : Int) : Calls Try.prog 9 #[.int .i64 z] w (Disk.Ends (.int .i64 z) w) := by
  go_enter Try.func9, Try.ntmps9
  go_wp2
  go_ret
  exact ⟨rfl, rfl⟩
/-- The bytes as a string, at a world. -/
def CvS (A : Option Addr) (n c : Nat) (ys : List UInt8) (w : World) : Prop := (convert 35 9 (.slice A n c)).run Try.prog w = .ok (.string ⟨ys.toArray⟩) w
theorem neq_yes {xs ys : List UInt8} (h : xs ≠ ys) : ¬ ((⟨xs.toArray⟩ : ByteArray) = ⟨ys.toArray⟩) := by
  intro e
  injection e with e
  exact h (by simpa using congrArg Array.toList e)
theorem same_not {ls ms : List (List UInt8)} {k : Nat} (h : ls.getD k [] ≠ ms.getD k []) : decide (ls = ms) = false := by
  rw [decide_eq_false_iff_not]
  rintro rfl
  exact h rfl
theorem same_yes {ls ms : List (List UInt8)} (hl : ls.length = ms.length) (h : ∀ q, q < ls.length → ls.getD q [] = ms.getD q []) : decide (ls = ms) = true := by
  rw [decide_eq_true_iff]
  apply List.ext_getElem hl
  intro q h1 h2
  have := h q h1
  rwa [Frm.getD_of h1, Frm.getD_of h2] at this
set_option maxHeartbeats 4000000 in
theorem same_any (w : World) (n c m c' : Nat) (A A' : Option Addr) (ls ms : List (List UInt8)) (hA : RowsB w [] A n ls) (hA' : RowsB w [] A' m ms) (hn : n ≤ 1000000) (hm : m ≤ 1000000) :
    Calls Try.prog 11 #[.slice A n c, .slice A' m c'] w (EndsBelow (.bool (decide (ls = ms))) w) := by
  have HA := Lib.hid hA
  have HA' := Lib.hid hA'
  have HL := Lib.hid hA.len
  have HL' := Lib.hid hA'.len
  have hn1 : (n : Int) ≤ 1000000 := by omega
  have hm1 : (m : Int) ≤ 1000000 := by omega
  clear hA hA'
  by_cases hnm : n = m
  · subst hnm
    obtain ⟨bb, hbb⟩ : ∃ bb, decide (ls = ms) = bb := ⟨_, rfl⟩
    have HBB := Lib.hid hbb
    rw [hbb]
    clear hbb
    go_enter Try.func11, Try.ntmps11
    go_wp2_with fail
    go_loopw [5] (fun i wr => ∃ k : Nat, k ≤ n ∧ i = .int .i64 k ∧ Below w.heap.size w wr ∧ ∀ q, q < k → ls.getD q [] = ms.getD q []) (fun i _ => n - (Go.RowKit.intOf i).toNat)
    case atStart => exact ⟨0, Nat.zero_le _, rfl, Below.refl _ _, fun q hq => absurd hq (by omega)⟩
    case round =>
      obtain ⟨k, hk, rfl, hbel, hq⟩ := hrel
      have HB := Lib.hid hbel
      have HQ := Lib.hid hq
      clear hbel hq
      by_cases hlt : k < n
      · obtain ⟨b, o, Aj, cj, hat⟩ := (HA.out.below HB.out).at hlt
        obtain ⟨b2, o2, Aj2, cj2, hat2⟩ := (HA'.out.below HB.out).at hlt
        have hidx := hat.index c
        have hidx2 := hat2.index c'
        obtain ⟨_, h1, h2, _, _, _, h3⟩ := hat
        obtain ⟨_, g1, g2, _, _, _, g3⟩ := hat2
        have hd : Below wr.heap.size wr wr.drew := ⟨rfl, rfl, rfl, Nat.le_refl _, fun _ _ => rfl⟩
        have HS : Hid (wr.drew.cell? ⟨b, o, none⟩ = some (.slice Aj (ls.getD k []).length cj) ∧ wr.drew.cell? ⟨b2, o2, none⟩ = some (.slice Aj2 (ms.getD k []).length cj2) ∧ CvS Aj (ls.getD k []).length cj (ls.getD k []) wr.drew ∧ CvS Aj2 (ms.getD k []).length cj2 (ms.getD k []) wr.drew) := Lib.hid ⟨h1, g1, run_string_of _ _ _ cj Aj _ ((h2.below hd).byts), run_string_of _ _ _ cj2 Aj2 _ ((g2.below hd).byts)⟩
        have HBD : Hid (Below w.heap.size w wr.drew) := Lib.hid HB.out.drew
        clear h1 h2 h3 g1 g2 g3 hd
        have HNO := Lib.hid (same_not (ls := ls) (ms := ms) (k := k))
        generalize hxs : ls.getD k [] = xs at *
        generalize hys : ms.getD k [] = ys at *
        have HXS := Lib.hid hxs
        have HYS := Lib.hid hys
        clear hxs hys
        generalize xs.length = lx at *
        generalize ys.length = ly at *
        go_wp2_with fail
        refine Frm.wh_start (fun w' => w'.cell? ⟨b, o, none⟩ = some (.slice Aj lx cj) ∧ w'.cell? ⟨b2, o2, none⟩ = some (.slice Aj2 ly cj2) ∧ CvS Aj lx cj xs w' ∧ CvS Aj2 ly cj2 ys w') (by kernel_rfl) ?_
        generalize wr.drew = u at *
        refine Frm.wh_take 0 17 (.slice A n c) rfl rfl (by kernel_rfl) (fun _ _ _ h => h) rfl (HS.out) (fun w' hw' => ?_) ?_
        · exact rfl
        go_frame
        refine Frm.wh_take 1 18 (.int .i64 k) rfl rfl (by kernel_rfl) (fun _ _ _ h => h) rfl (HS.out) (fun w' hw' => ?_) ?_
        · exact rfl
        go_frame
        refine Frm.wh_take 2 19 (.pointer (some ⟨b, o, none⟩)) rfl rfl (by kernel_rfl) (fun _ _ _ h => h) rfl (HS.out) (fun w' hw' => ?_) ?_
        · go_simp
        go_frame
        refine Frm.wh_take 3 20 (.slice Aj lx cj) rfl rfl (by kernel_rfl) (fun _ _ _ h => h) rfl (HS.out) (fun w' hw' => ?_) ?_
        · obtain ⟨h0, h1, h2, h3⟩ := hw'
          go_simp
        go_frame
        refine Frm.wh_take 4 21 (.string ⟨xs.toArray⟩) rfl rfl (by kernel_rfl) (fun _ _ _ h => h) rfl (HS.out) (fun w' hw' => ?_) ?_
        · obtain ⟨h0, h1, h2, h3⟩ := hw'
          unfold CvS at h2
          go_simp
        go_frame
        refine Frm.wh_take 5 22 (.slice A' n c') rfl rfl (by kernel_rfl) (fun _ _ _ h => h) rfl (HS.out) (fun w' hw' => ?_) ?_
        · exact rfl
        go_frame
        refine Frm.wh_take 6 23 (.int .i64 k) rfl rfl (by kernel_rfl) (fun _ _ _ h => h) rfl (HS.out) (fun w' hw' => ?_) ?_
        · exact rfl
        go_frame
        refine Frm.wh_take 7 24 (.pointer (some ⟨b2, o2, none⟩)) rfl rfl (by kernel_rfl) (fun _ _ _ h => h) rfl (HS.out) (fun w' hw' => ?_) ?_
        · go_simp
        go_frame
        refine Frm.wh_take 8 25 (.slice Aj2 ly cj2) rfl rfl (by kernel_rfl) (fun _ _ _ h => h) rfl (HS.out) (fun w' hw' => ?_) ?_
        · obtain ⟨h0, h1, h2, h3⟩ := hw'
          go_simp
        go_frame
        refine Frm.wh_take 9 26 (.string ⟨ys.toArray⟩) rfl rfl (by kernel_rfl) (fun _ _ _ h => h) rfl (HS.out) (fun w' hw' => ?_) ?_
        · obtain ⟨h0, h1, h2, h3⟩ := hw'
          unfold CvS at h3
          go_simp
        go_frame
        by_cases he : xs = ys
        · refine Frm.wh_take 10 27 (.bool false) rfl rfl (by kernel_rfl) (fun _ _ _ h => h) rfl (HS.out) (fun w' hw' => ?_) ?_
          · subst he
            go_simp
          go_frame
          refine wpAnyH_done (by kernel_rfl) ?_ _
          have HE := Lib.hid he
          clear he
          go_wp2_with fail
          go_roundw
          case rel => exact ⟨k + 1, by omega, by go_num, HBD.out, fun q hq => by
              by_cases e : q = k
              · subst e
                rw [HXS.out, HYS.out]
                exact HE.out
              · exact HQ.out q (by omega)⟩
          case measure => simp [Go.RowKit.intOf]; omega
        · have hne := neq_yes he
          refine Frm.wh_take 10 27 (.bool true) rfl rfl (by kernel_rfl) (fun _ _ _ h => h) rfl (HS.out) (fun w' hw' => ?_) ?_
          · go_simp
          go_frame
          refine wpAnyH_done (by kernel_rfl) ?_ _
          clear hne
          have HE : Hid (bb = false) := Lib.hid (by rw [← HBB.out]; exact HNO.out he)
          clear he
          go_wp2_with fail
          go_ret
          rw [HE.out]
          exact ⟨rfl, HBD.out⟩
      · obtain rfl : k = n := by omega
        have HE : Hid (bb = true) := Lib.hid (by rw [← HBB.out]; exact same_yes (HL.out.trans HL'.out.symm) (fun q hq => HQ.out q (by rw [← HL.out]; exact hq)))
        go_wp2_with fail
        go_ret
        rw [HE.out]
        exact ⟨rfl, HB.out⟩
  · have HD : Hid (decide (ls = ms) = false) := Lib.hid (by
      rw [decide_eq_false_iff_not]
      rintro rfl
      exact hnm (HL.out.symm.trans HL'.out))
    rw [HD.out]
    have hne : ((n : Int) == (m : Int)) = false := by simp; omega
    go_enter Try.func11, Try.ntmps11
    go_wp2_with fail
    go_ret
    exact ⟨rfl, Below.refl _ _⟩
end Go.Proofs.Ytgjdgmpjbpnjbaa.Jou
/-
  The disk of the law's example, step by step: what stops behind the Sync ahead of the mark leaves the old groups. No condition.
-/
namespace Go.Proofs.Ytgjdgmpjbpnjbaa.JourM
open Codec FrameM
open Disk (Dsk fresh)
/-- The power stops behind k deeds. -/
def Cnt (d : Dsk) (k : Nat) : Prop := d.off = false ∧ d.stops = true ∧ d.left = k
theorem Cnt.go {d : Dsk} {k : Nat} (h : Cnt d (k + 1)) : JourM.go d = true := by
  obtain ⟨h1, h2, h3⟩ := h
  unfold JourM.go Dsk.done
  rw [h1, h2, h3]
  simp
  omega
theorem Cnt.no {d : Dsk} (h : Cnt d 0) : JourM.go d = false := by
  obtain ⟨h1, h2, h3⟩ := h
  unfold JourM.go Dsk.done
  rw [h1, h2, h3]
  rfl
theorem Cnt.deed {d : Dsk} {k : Nat} (h : Cnt d (k + 1)) : Cnt d.deed k := by
  obtain ⟨h1, h2, h3⟩ := h
  have h4 : ¬ d.left = 0 := by omega
  unfold Dsk.deed
  rw [if_pos h2, if_neg h4]
  exact ⟨h1, h2, by show d.left - 1 = k; omega⟩
theorem Cnt.wr {d : Dsk} {k : Nat} (h : Cnt d (k + 1)) (i : Nat) (s : List UInt8) : Cnt (JourM.wr d i s) k := by
  have hg := h.go
  unfold JourM.go at hg
  simp only [Bool.and_eq_true, Bool.not_eq_true'] at hg
  unfold JourM.wr
  rw [hg.1, hg.2]
  exact h.deed
theorem Cnt.sy {d : Dsk} {k : Nat} (h : Cnt d (k + 1)) : Cnt (JourM.sy d) k := by
  have hg := h.go
  unfold JourM.go at hg
  simp only [Bool.and_eq_true, Bool.not_eq_true'] at hg
  unfold JourM.sy
  rw [hg.1, hg.2]
  exact h.deed
theorem Cnt.keep {m : Nat} : ∀ {l : List (List UInt8)} {d : Dsk} {i : Nat}, Cnt d (l.length + 1 + m) → keepB d i l = true ∧ Cnt (keepD d i l) m
  | [], d, i, h => by
    have h' : Cnt d (m + 1) := by rwa [show ([] : List (List UInt8)).length + 1 + m = m + 1 by simp; omega] at h
    rw [keepB_nil, keepD_nil]
    exact ⟨h'.go, h'.sy⟩
  | s :: l, d, i, h => by
    have h' : Cnt d ((l.length + 1 + m) + 1) := by rwa [show (s :: l).length + 1 + m = (l.length + 1 + m) + 1 by simp; omega] at h
    rw [keepB_cons, keepD_cons, h'.go, if_pos rfl, Bool.true_and]
    exact (h'.wr i s).keep
/-- The sectors are kept, the mark is not begun. -/
theorem app_late {d : Dsk} {j : Jr} {b : List UInt8} (h : Rest d j) (hr : takes j.gs + takes1 b ≤ room d.n) (hk1 : keepB d (secAt d.n j.gen (takes j.gs + 1)) (extL d.n (takes j.gs) b) = true)
    (hg : go (keepD d (secAt d.n j.gen (takes j.gs + 1)) (extL d.n (takes j.gs) b)) = false) (fs : List Int) :
    extB d j.gen (takes j.gs) j.gs.length b = false ∧ Good (rd ((extD d j.gen (takes j.gs) j.gs.length b).crash fs)) d.n j.gen j.gs := by
  have hok := (ext_ok (gen := j.gen) (seq := j.gs.length) h.ok h.n8 hr).2
  have hn := extD_n d j.gen (takes j.gs) j.gs.length b
  have hk2 : keepB (keepD d (secAt d.n j.gen (takes j.gs + 1)) (extL d.n (takes j.gs) b)) (secAt d.n j.gen (takes j.gs)) [put (markM j.gen j.gs.length b)] = false := by rw [keepB_cons, hg, Bool.false_and]
  have hD : extD d j.gen (takes j.gs) j.gs.length b = keepD (keepD d (secAt d.n j.gen (takes j.gs + 1)) (extL d.n (takes j.gs) b)) (secAt d.n j.gen (takes j.gs)) [put (markM j.gen j.gs.length b)] := by unfold extD; rw [if_pos hk1]
  refine ⟨by simp [extB, hk2], ?_⟩
  obtain ⟨a1, a2, a3, a4, a5⟩ := app_first h hr hk1 rfl
  obtain ⟨k1, k2, k3⟩ := keep_no hk2 a1
  have hfk := first_keeps h hk1
  have hW : (keepD (keepD d (secAt d.n j.gen (takes j.gs + 1)) (extL d.n (takes j.gs) b)) (secAt d.n j.gen (takes j.gs)) [put (markM j.gen j.gs.length b)]).waits = fun _ => none := by
    rw [keepD_cons, hg, if_neg (by simp)]
    unfold wr
    rw [a2]
    have hnd : (keepD d (secAt d.n j.gen (takes j.gs + 1)) (extL d.n (takes j.gs) b)).done = false := by
      unfold go at hg
      rw [a2] at hg
      simpa using hg
    rw [hnd]
    simp only [if_false, Bool.false_eq_true]
    unfold Dsk.deed
    split
    · split <;> exact a1
    · exact a1
  rw [hD] at hok hn ⊢
  generalize keepD d (secAt d.n j.gen (takes j.gs + 1)) (extL d.n (takes j.gs) b) = d1 at *
  generalize keepD d1 (secAt d.n j.gen (takes j.gs)) [put (markM j.gen j.gs.length b)] = d2 at *
  have ht : takes1 b = 1 + need b.length := rfl
  have h8 := h.n8
  have hl := sec_lt (n := d.n) (gen := j.gen) (pos := takes j.gs) (by omega) (by omega)
  have hA := a5 (rd (d2.crash fs)) fun i hi hne => by
    rw [crash_same hok fs (by omega) (by rw [hW]), k2]
  have hfree := mark_free h (by omega)
  refine hA.not_there h.good ?_
  rw [crash_same hok fs (by omega) (by rw [hW]), k2, hfk]
  exact hfree
def sAB : List UInt8 := [97, 98]
def sCD : List UInt8 := [99, 100]
def kA : Dsk := openD (fresh 20)
def kB : Dsk := appD kA ⟨1, [], false⟩ sAB
def kC : Dsk := kB.stop 3
def kD : Dsk := appD kC ⟨1, [sAB], false⟩ sCD
def kE : Dsk := kD.crash [2, 2, 2]
theorem kA_n : kA.n = 20 := openD_n _
theorem kA_rest : Rest kA ⟨1, [], false⟩ ∧ Free kA := by
  obtain ⟨_, _, h3, h4⟩ := fresh_open 20 (by omega) (by omega)
  exact ⟨h3, h4⟩
theorem kB_is : appE kA ⟨1, [], false⟩ sAB = 0 ∧ kB = extD kA 1 0 0 sAB ∧ appJ kA ⟨1, [], false⟩ sAB = ⟨1, [sAB], false⟩ := by
  have hb := (kA_rest.2.ext 1 0 0 sAB).1
  have hdo : appDo kA ⟨1, [], false⟩ sAB = true := by
    unfold appDo
    rw [kA_n]
    rfl
  have hb' : extB kA 1 (takes []) ([] : List (List UInt8)).length sAB = true := hb
  refine ⟨?_, ?_, ?_⟩
  · unfold appE
    simp only [hb']
    rw [kA_n]
    rfl
  · unfold kB appD
    rw [if_pos hdo]
    rfl
  · unfold appJ
    simp only [hdo, hb']
    rfl
theorem kB_n : kB.n = 20 := by rw [kB_is.2.1, extD_n, kA_n]
theorem kB_rest : Rest kB ⟨1, [sAB], false⟩ ∧ Free kB := by
  have hr : takes ([] : List (List UInt8)) + takes1 sAB ≤ room kA.n := by rw [kA_n]; decide
  have := app_done kA_rest.1 (b := sAB) (by decide) hr (kA_rest.2.ext 1 0 0 sAB).1
  rw [kB_is.2.1]
  exact ⟨this, (kA_rest.2.ext 1 0 0 sAB).2⟩
theorem stop_n (d : Dsk) (k : Int) : (d.stop k).n = d.n := rfl
theorem stop_off (d : Dsk) (k : Int) : (d.stop k).off = (d.off || decide (k < 1)) := rfl
theorem stop_cnt {d : Dsk} {k : Nat} (h : (d.stop k).off = false) : Cnt (d.stop k) k := ⟨h, rfl, rfl⟩
theorem kC_n : kC.n = 20 := by unfold kC; rw [stop_n, kB_n]
theorem kC_rest : Rest kC ⟨1, [sAB], false⟩ ∧ Cnt kC 3 := by
  have h := kB_rest.1.still.stop (k := 3) (by omega) (by omega)
  have ho : kC.off = false := by
    unfold kC
    rw [stop_off, kB_rest.2.1]
    rfl
  exact ⟨h.rest ho, stop_cnt (k := 3) ho⟩
theorem kD_is : appE kC ⟨1, [sAB], false⟩ sCD = 3 ∧ appJ kC ⟨1, [sAB], false⟩ sCD = ⟨1, [sAB], true⟩ ∧ kD.n = 20 ∧ kD.ok ∧ Good (rd kE) 20 1 [sAB] := by
  have hl : (extL kC.n (takes [sAB]) sCD).length = 2 := by
    rw [kC_n]
    show (pack sCD ++ endL 20 (takes [sAB] + takes1 sCD)).length = 2
    rw [List.length_append, pack_length]
    rfl
  have hc : Cnt kC ((extL kC.n (takes [sAB]) sCD).length + 1 + 0) := by rw [hl]; exact kC_rest.2
  have hk := hc.keep (i := secAt kC.n 1 (takes [sAB] + 1))
  have hr : takes [sAB] + takes1 sCD ≤ room kC.n := by rw [kC_n]; decide
  obtain ⟨e1, e2⟩ := app_late (j := ⟨1, [sAB], false⟩) kC_rest.1 hr hk.1 hk.2.no [2, 2, 2]
  have hdo : appDo kC ⟨1, [sAB], false⟩ sCD = true := by
    unfold appDo
    rw [kC_n]
    rfl
  have hD : kD = extD kC 1 (takes [sAB]) [sAB].length sCD := by
    unfold kD appD
    rw [if_pos hdo]
  have e1' : extB kC 1 (takes [sAB]) [sAB].length sCD = false := e1
  refine ⟨?_, ?_, by rw [hD, extD_n, kC_n], by rw [hD]; exact (ext_ok (gen := 1) (seq := 1) kC_rest.1.ok kC_rest.1.n8 hr).2, ?_⟩
  · unfold appE
    simp only [e1']
    rw [kC_n]
    rfl
  · unfold appJ
    simp only [hdo, e1']
    rfl
  · unfold kE
    rw [hD]
    rw [kC_n] at e2
    exact e2
theorem crash_calm (d : Dsk) (fs : List Int) : (d.crash fs).waits = fun _ => none := rfl
theorem crash_on (d : Dsk) (fs : List Int) : (d.crash fs).off = false := rfl
theorem kE_is : kE.n = 20 ∧ kE.off = false ∧ newest (rd kE) = 1 ∧ openD kE = kE ∧ openJ kE = ⟨1, [sAB], false⟩ := by
  have hg := kD_is.2.2.2.2
  have hn : kE.n = 20 := by unfold kE; rw [crash_n, kD_is.2.2.1]
  obtain ⟨_, h2, h3, _⟩ := open_good (d := kE) (by unfold kE; exact Dsk.crash_ok kD_is.2.2.2.1 _) (by rw [hn]; omega) (by unfold kE; exact crash_calm _ _) (by unfold kE; exact crash_on _ _) (by rw [hn]; exact hg)
  exact ⟨hn, by unfold kE; exact crash_on _ _, hg.newest, h2, h3⟩
end Go.Proofs.Ytgjdgmpjbpnjbaa.JourM
/-
  DERIVED: THE SHELF's CONTRACTS AT THIS DUMP, IN PLAIN WORDS (tools/lay-plain.mjs out of 'YtgjdgmpjbpnjbaaDShelfSrc.lean', which tools/lay-shelf.mjs wrote): THE SAME DECLARATIONS UNDER THE SAME NAMES: 'import', 'namespace', 'open', 'def', 'theorem' AND NOTHING ELSE: no command of the shelf's: FOR A HAND-IN. Each laying: the table of numbers ('.._ren') and one theorem, a field a fact of the dump's own or the kernel's comparison; each contract: ONE APPLICATION.
-/
namespace Go.Proofs
open Go.Shelf
def Try.keysA_ren : Go.Shelf.Ren := ⟨fun | 7 => 49 | 10 => 63 | n => n, fun | 23 => 55 | 26 => 3 | 3 => 69 | 28 => 85 | 0 => 0 | 27 => 84 | 33 => 100 | 4 => 4 | n => n, fun | n => n⟩
theorem Try.keysA : Go.Proofs.SlLaysZI.n7 Try.prog Try.keysA_ren := {
  mixed := by kernel_rfl
  f7 := ⟨Try.f49.name, by decide, Try.func49.trans (congrArg some (by kernel_rfl))⟩
  f10 := ⟨Try.f63.name, by decide, Try.func63.trans (congrArg some (by kernel_rfl))⟩
  t0 := Try.underlying0
  a0 := Try.isAgg0
  z0 := Try.sizeOf0
  v0 := Try.zeroValue0
  t4 := Try.underlying4
  a4 := Try.isAgg4
  z4 := Try.sizeOf4
  v4 := Try.zeroValue4
  t23 := Try.underlying55
  a23 := Try.isAgg55
  z23 := Try.sizeOf55
  v23 := Try.zeroValue55
  t26 := Try.underlying3
  a26 := Try.isAgg3
  z26 := Try.sizeOf3
  v26 := Try.zeroValue3
  t27 := Try.underlying84
  a27 := Try.isAgg84
  z27 := Try.sizeOf84
  v27 := Try.zeroValue84
  t28 := Try.underlying85
  a28 := Try.isAgg85
  z28 := Try.sizeOf85
  v28 := Try.zeroValue85
  t33 := Try.underlying100
  a33 := Try.isAgg100
  z33 := Try.sizeOf100
  v33 := Try.zeroValue100 }
def Try.sortedA_ren : Go.Shelf.Ren := ⟨fun | 6 => 48 | 8 => 61 | 9 => 62 | 11 => 73 | 13 => 75 | 12 => 74 | 23 => 91 | 24 => 92 | 14 => 82 | 15 => 83 | 16 => 84 | 17 => 85 | 18 => 86 | 19 => 87 | 20 => 88 | 21 => 89 | 22 => 90 | 25 => 95 | 26 => 96 | 27 => 97 | 28 => 98 | 29 => 99 | 30 => 100 | 31 => 102 | n => n, fun | 26 => 3 | 28 => 85 | 24 => 23 | 0 => 0 | 3 => 3 | 37 => 96 | 48 => 105 | 50 => 119 | 4 => 4 | 40 => 123 | 39 => 122 | 45 => 128 | 5 => 5 | 9 => 9 | 51 => 136 | 55 => 140 | 57 => 143 | 58 => 144 | 33 => 100 | n => n, fun | n => n⟩
theorem Try.sortedA : Go.Proofs.SlLaysZI.n6 Try.prog Try.sortedA_ren := {
  mixed := by kernel_rfl
  f6 := ⟨Try.f48.name, by decide, Try.func48.trans (congrArg some (by kernel_rfl))⟩
  f8 := ⟨Try.f61.name, by decide, Try.func61.trans (congrArg some (by kernel_rfl))⟩
  f11 := ⟨Try.f73.name, by decide, Try.func73.trans (congrArg some (by kernel_rfl))⟩
  t0 := Try.underlying0
  a0 := Try.isAgg0
  z0 := Try.sizeOf0
  v0 := Try.zeroValue0
  t24 := Try.underlying23
  a24 := Try.isAgg23
  z24 := Try.sizeOf23
  v24 := Try.zeroValue23
  t26 := Try.underlying3
  a26 := Try.isAgg3
  z26 := Try.sizeOf3
  v26 := Try.zeroValue3
  t28 := Try.underlying85
  a28 := Try.isAgg85
  z28 := Try.sizeOf85
  v28 := Try.zeroValue85
  i26 := by kernel_rfl }
def Try.sortA_ren : Go.Shelf.Ren := ⟨fun | 5 => 62 | 8 => 75 | 7 => 74 | 19 => 91 | 20 => 92 | 10 => 82 | 11 => 83 | 12 => 84 | 13 => 85 | 14 => 86 | 15 => 87 | 16 => 88 | 17 => 89 | 18 => 90 | 30 => 95 | 31 => 96 | 32 => 97 | 33 => 98 | 34 => 99 | 35 => 100 | 40 => 102 | n => n, fun | 23 => 23 | 25 => 3 | 3 => 3 | 32 => 96 | 22 => 23 | 0 => 0 | 44 => 105 | 46 => 119 | 4 => 4 | 36 => 123 | 35 => 122 | 41 => 128 | 5 => 5 | 9 => 9 | 53 => 136 | 57 => 140 | 63 => 143 | 64 => 144 | n => n, fun | n => n⟩
theorem Try.sortA : Go.Proofs.SlLaysM.n5 Try.prog Try.sortA_ren := {
  mixed := by kernel_rfl
  f5 := ⟨Try.f62.name, by decide, Try.func62.trans (congrArg some (by kernel_rfl))⟩
  f7 := ⟨Try.f74.name, by decide, Try.func74.trans (congrArg some (by kernel_rfl))⟩
  f8 := Try.func75.trans (congrArg some (by kernel_rfl))
  f10 := ⟨Try.f82.name, by decide, Try.func82.trans (congrArg some (by kernel_rfl))⟩
  f11 := ⟨Try.f83.name, by decide, Try.func83.trans (congrArg some (by kernel_rfl))⟩
  f12 := ⟨Try.f84.name, by decide, Try.func84.trans (congrArg some (by kernel_rfl))⟩
  f13 := ⟨Try.f85.name, by decide, Try.func85.trans (congrArg some (by kernel_rfl))⟩
  f14 := ⟨Try.f86.name, by decide, Try.func86.trans (congrArg some (by kernel_rfl))⟩
  f15 := ⟨Try.f87.name, by decide, Try.func87.trans (congrArg some (by kernel_rfl))⟩
  f16 := ⟨Try.f88.name, by decide, Try.func88.trans (congrArg some (by kernel_rfl))⟩
  f17 := ⟨Try.f89.name, by decide, Try.func89.trans (congrArg some (by kernel_rfl))⟩
  f18 := ⟨Try.f90.name, by decide, Try.func90.trans (congrArg some (by kernel_rfl))⟩
  f19 := Try.func91.trans (congrArg some (by kernel_rfl))
  f20 := Try.func92.trans (congrArg some (by kernel_rfl))
  f30 := ⟨Try.f95.name, by decide, Try.func95.trans (congrArg some (by kernel_rfl))⟩
  f31 := Try.func96.trans (congrArg some (by kernel_rfl))
  f32 := Try.func97.trans (congrArg some (by kernel_rfl))
  f33 := ⟨Try.f98.name, by decide, Try.func98.trans (congrArg some (by kernel_rfl))⟩
  f34 := ⟨Try.f99.name, by decide, Try.func99.trans (congrArg some (by kernel_rfl))⟩
  f35 := ⟨Try.f100.name, by decide, Try.func100.trans (congrArg some (by kernel_rfl))⟩
  f40 := ⟨Try.f102.name, by decide, Try.func102.trans (congrArg some (by kernel_rfl))⟩
  t0 := Try.underlying0
  a0 := Try.isAgg0
  z0 := Try.sizeOf0
  v0 := Try.zeroValue0
  t3 := Try.underlying3
  a3 := Try.isAgg3
  z3 := Try.sizeOf3
  v3 := Try.zeroValue3
  t4 := Try.underlying4
  a4 := Try.isAgg4
  z4 := Try.sizeOf4
  v4 := Try.zeroValue4
  t5 := Try.underlying5
  a5 := Try.isAgg5
  z5 := Try.sizeOf5
  v5 := Try.zeroValue5
  t9 := Try.underlying9
  a9 := Try.isAgg9
  z9 := Try.sizeOf9
  v9 := Try.zeroValue9
  t22 := Try.underlying23
  a22 := Try.isAgg23
  z22 := Try.sizeOf23
  v22 := Try.zeroValue23
  t23 := Try.underlying23
  a23 := Try.isAgg23
  z23 := Try.sizeOf23
  v23 := Try.zeroValue23
  t25 := Try.underlying3
  a25 := Try.isAgg3
  z25 := Try.sizeOf3
  v25 := Try.zeroValue3
  t32 := Try.underlying96
  a32 := Try.isAgg96
  z32 := Try.sizeOf96
  v32 := Try.zeroValue96
  t35 := Try.underlying122
  a35 := Try.isAgg122
  z35 := Try.sizeOf122
  v35 := Try.zeroValue122
  t36 := Try.underlying123
  a36 := Try.isAgg123
  z36 := Try.sizeOf123
  v36 := Try.zeroValue123
  t41 := Try.underlying128
  a41 := Try.isAgg128
  z41 := Try.sizeOf128
  v41 := Try.zeroValue128
  t44 := Try.underlying105
  a44 := Try.isAgg105
  z44 := Try.sizeOf105
  v44 := Try.zeroValue105
  t46 := Try.underlying119
  a46 := Try.isAgg119
  z46 := Try.sizeOf119
  v46 := Try.zeroValue119
  t53 := Try.underlying136
  a53 := Try.isAgg136
  z53 := Try.sizeOf136
  v53 := Try.zeroValue136
  t57 := Try.underlying140
  a57 := Try.isAgg140
  z57 := Try.sizeOf140
  v57 := Try.zeroValue140
  t63 := Try.underlying143
  a63 := Try.isAgg143
  z63 := Try.sizeOf143
  v63 := Try.zeroValue143
  t64 := Try.underlying144
  a64 := Try.isAgg144
  z64 := Try.sizeOf144
  v64 := Try.zeroValue144 }
end Go.Proofs
/-
  The keys of the map of the sectors that wait, sorted: what maps.Keys and slices.Sorted of it hand back. Condition: the map is known.
-/
namespace Go.Proofs.Ytgjdgmpjbpnjbaa.Disk
open Go.RowKit Go.Maps Go.Sort Go.Shelf
set_option maxRecDepth 100000
theorem sorts (m : Nat) : AnyZI.SortsIn Try.prog Try.sortedA_ren Fence.wide m :=
  ⟨fun blk off cap ss W hH hblk hsz => callsIn_wide.2 (AnyM.slices_Sort_int Try.sortA blk off cap ss W hH hblk hsz),
   fun p cap W => callsIn_wide.2 (AnyM.slices_Sort_int_none Try.sortA p cap W)⟩
theorem keys_any (mb : Option Nat) (W : World) :
    Calls Try.prog 49 #[.map mb] W fun e w' => e = .returned (.func (.func 63) #[] #[.pointer (some ⟨W.heap.size, 0, none⟩)]) ∧ w' = W.alloc (.cells #[.map mb] 55) :=
  (callsIn_wide (n := 5)).1 (AnyZI.keys_in Try.keysA Fence.wide 5 trivial rfl mb W)
theorem sorted_keys {H : Type} (b nn : Nat) (D0 : DataW H) (R : Value → Option (DataW H × List MemPlace)) (w : World) (hown : w.ownsMap Try.prog 3 R b nn D0) (hmax : Maps.size D0 ≤ maxLen) (hbytes : Maps.size D0 * 8 ≤ 140737488355328) :
    Calls Try.prog 48 #[.func (.func 63) #[] #[.pointer (some ⟨w.heap.size, 0, none⟩)]] (w.alloc (.cells #[.map (some b)] 55)) fun e w' => ∃ (v : Value) (ss : List Int), e = .returned v ∧ ss.Perm (intKeys D0) ∧
      w'.ownsRow (w.alloc (.cells #[.map (some b)] 55)).heap.size 3 1 v ss.length ((ss.mergeSort (fun x y => decide (x ≤ y))).map encZ) ∧ (v = .slice none 0 0 ↔ ss = []) ∧ Below (w.alloc (.cells #[.map (some b)] 55)).heap.size (w.alloc (.cells #[.map (some b)] 55)) w' := by
  refine (callsIn_wide (n := 5)).1 ?_
  have hbl := hown.lt
  have hseq : SeqGives Fence.wide 2 Try.prog 63 #[.pointer (some ⟨w.heap.size, 0, none⟩)] encZ (fun ss => ss.Perm (intKeys D0)) (Maps.size D0) (w.alloc (.cells #[.map (some b)] 55)) :=
    AnyZI.keys_gives (ρ := Try.keysA_ren) { Try.keysA with } Fence.wide _ trivial rfl (by omega) w.heap.size b nn D0 _ (by simp) (by simp) (by
      obtain ⟨es, clock, hb, Ft, hs, hD⟩ := hown
      exact ⟨es, clock, (Below.heap_alloc _ _ b hbl).trans hb, Ft, hs, hD⟩)
  exact AnyZI.sorted_in Try.sortedA Fence.wide 5 trivial trivial trivial trivial rfl (by omega) (sorts _) (enters_of Try.func62 (by kernel_rfl) rfl) 63 #[.pointer (some ⟨w.heap.size, 0, none⟩)] trivial (enters_of Try.func63 (by kernel_rfl) rfl) _ _ hmax hbytes _ hseq
theorem sorted_nil (w : World) :
    Calls Try.prog 48 #[.func (.func 63) #[] #[.pointer (some ⟨w.heap.size, 0, none⟩)]] (w.alloc (.cells #[.map none] 55)) fun e w' => e = .returned (.slice none 0 0) ∧ Below (w.alloc (.cells #[.map none] 55)).heap.size (w.alloc (.cells #[.map none] 55)) w' := by
  refine (callsIn_wide (n := 5)).1 ?_
  have hseq : SeqGives Fence.wide 2 Try.prog 63 #[.pointer (some ⟨w.heap.size, 0, none⟩)] encZ (fun ss : List Int => ss = []) 0 (w.alloc (.cells #[.map none] 55)) :=
    AnyZI.keys_gives_nil (ρ := Try.keysA_ren) { Try.keysA with } Fence.wide _ trivial rfl w.heap.size _ (by simp) (by simp)
  refine (AnyZI.sorted_in Try.sortedA Fence.wide 5 trivial trivial trivial trivial rfl (by omega) (sorts _) (enters_of Try.func62 (by kernel_rfl) rfl) 63 #[.pointer (some ⟨w.heap.size, 0, none⟩)] trivial (enters_of Try.func63 (by kernel_rfl) rfl) _ 0 (Nat.zero_le _) (by omega) _ hseq).mono ?_
  rintro e w' ⟨v, ss, rfl, rfl, _, hn, hb⟩
  obtain rfl := hn.2 rfl
  exact ⟨rfl, hb⟩
end Go.Proofs.Ytgjdgmpjbpnjbaa.Disk
/-
  What the program's Waiting does. Condition: the disk is known.
-/
namespace Go.Proofs.Ytgjdgmpjbpnjbaa.Disk
open Go.RowKit Go.Maps
set_option maxRecDepth 100000
/-- A new slice of these numbers. -/
def Listed (w : World) (ks : List Nat) (e : Ending) (w' : World) : Prop :=
  ∃ v, e = .returned v ∧ w'.ownsRow w.heap.size 3 1 v ks.length (ks.map fun k : Nat => encZ (k : Int)) ∧ Below w.heap.size w w'
theorem owns_lower {w : World} {base base' size : Nat} {e : TypeId} {v : Value} {n : Nat} {xs : List Value} (h : w.ownsRow base e size v n xs) (hb : base' ≤ base) : w.ownsRow base' e size v n xs := by
  refine ⟨h.1, ?_⟩
  rcases h.2 with h0 | ⟨g, cap, cur, hv, hg, r⟩
  · exact .inl h0
  · exact .inr ⟨g, cap, cur, hv, by omega, r⟩
set_option maxHeartbeats 400000 in
theorem waiting_disk (w : World) (g gs gm : Nat) (d : Dsk) (h : Dk w g gs gm d) : Calls Try.prog 34 #[ptr g] w (Listed w (waitsOf d.n d.waits)) := by
  obtain ⟨nn, D, hown, hnn, hT⟩ := h.mp
  have hti := hown.tidy key3
  have hin := ints_of hown
  have hsz := hT.size hti hin
  have h3 := h.ok.2.1
  have HK := fun W => Lib.hid (keys_any (some gm) W)
  have HS := Lib.hid (sorted_keys gm nn D R0 w hown (by unfold maxLen; omega) (by omega))
  have hsort : ∀ ss : List Int, ss.Perm (intKeys D) → ss.mergeSort (fun x y => decide (x ≤ y)) = (waitsOf d.n d.waits).map fun i : Nat => (i : Int) := fun ss hs => hT.sorted hti hin hs
  have hlen : ∀ ss : List Int, ss.Perm (intKeys D) → ss.length = (waitsOf d.n d.waits).length := fun ss hs => by
    have h1 := hs.length_eq
    have h2 := (hT.keys hti hin).length_eq
    rw [List.length_map] at h2
    omega
  have HSO := Lib.hid (And.intro hsort hlen)
  obtain ⟨z, hz⟩ := h.six
  have c1 := hz.c1
  clear hz h hown hnn hT hti hin hsz h3 hsort hlen
  generalize waitsOf d.n d.waits = ks at *
  unfold ptr
  go_enter Try.func34, Try.ntmps34
  go_wp2_with (first
    | (go_at_call 49; refine (HK _).out.mono ?_; rintro e w1 ⟨rfl, rfl⟩)
    | (go_at_call 48; refine HS.out.mono ?_; rintro e w2 ⟨v, ss, rfl, hp, hrow, hnil, hb⟩))
  go_ret
  refine ⟨v, rfl, ?_, ((Below.refl _ w).alloc (Nat.le_refl _) _).trans (hb.mono (by simp))⟩
  have h1 := HSO.out.1 ss hp
  have h2 := HSO.out.2 ss hp
  rw [h1, h2, List.map_map] at hrow
  exact owns_lower hrow (by simp)
theorem waiting_none (w : World) (p : Value) (h : Nobody w p) : Calls Try.prog 34 #[p] w fun e w' => e = .returned (.slice none 0 0) ∧ Below w.heap.size w w' := by
  rcases h with rfl | ⟨g, rfl, hz⟩
  · go_enter Try.func34, Try.ntmps34
    go_wp2
    go_ret
    exact ⟨rfl, Below.refl _ _⟩
  · have c1 : w.cell? ⟨g, 1, none⟩ = some (.map none) := cell_at hz 1
    have HK := fun W => Lib.hid (keys_any none W)
    have HS := Lib.hid (sorted_nil w)
    clear hz
    unfold ptr
    go_enter Try.func34, Try.ntmps34
    go_wp2_with (first
      | (go_at_call 49; refine (HK _).out.mono ?_; rintro e w1 ⟨rfl, rfl⟩)
      | (go_at_call 48; refine HS.out.mono ?_; rintro e w2 ⟨rfl, hb⟩))
    go_ret
    exact ⟨rfl, ((Below.refl _ w).alloc (Nat.le_refl _) _).trans (hb.mono (by simp))⟩
end Go.Proofs.Ytgjdgmpjbpnjbaa.Disk
/-
  A slice of ints that is read while a disk is written: where its elements lie. No condition.
-/
namespace Go.Proofs.Ytgjdgmpjbpnjbaa.Disk
open Go.RowKit Go.Maps
set_option maxRecDepth 100000
/-- The slice of n ints at A is zs; it lies in no block of S. -/
def Nums (w : World) (S : List Nat) (A : Option Addr) (n : Nat) (zs : List Int) : Prop :=
  zs.length = n ∧ (0 < n → ∃ b off, A = some ⟨b, off, none⟩ ∧ b ∉ S ∧ b < w.heap.size ∧ ∀ j, j < n → w.cell? ⟨b, off + j, none⟩ = some (.int .i64 (zs.getD j 0)))
theorem Nums.turn {w w' : World} {S S' : List Nat} {A : Option Addr} {n : Nat} {zs : List Int} (h : Nums w S A n zs) (ht : Turn S' w w') (hS : ∀ k ∈ S', k ∈ S) : Nums w' S A n zs :=
  ⟨h.1, fun hn => by
    obtain ⟨b, off, e, hb, hl, hc⟩ := h.2 hn
    exact ⟨b, off, e, hb, Nat.lt_of_lt_of_le hl ht.size, fun j hj => (World.cell?_of_block (w := w) (ht.block b hl (fun hm => hb (hS b hm)))).trans (hc j hj)⟩⟩
theorem Nums.nil {w : World} {S : List Nat} {A : Option Addr} : Nums w S A 0 [] := ⟨rfl, fun h => absurd h (by omega)⟩
/-- Where the k-th one lies. -/
def Lies (w : World) (S : List Nat) (A : Option Addr) (n k : Nat) (z : Int) (b o : Nat) : Prop :=
  b ∉ S ∧ b < w.heap.size ∧ (∀ c w', (Instr.indexAt 23 (.slice A n c) (.int .i64 k)).run Try.prog w' = .ok (.pointer (some ⟨b, o, none⟩)) w') ∧ w.cell? ⟨b, o, none⟩ = some (.int .i64 z)
theorem Nums.lies {w : World} {S : List Nat} {A : Option Addr} {n : Nat} {zs : List Int} (h : Nums w S A n zs) {k : Nat} (hk : k < n) : ∃ b o, Lies w S A n k (zs.getD k 0) b o := by
  obtain ⟨b, off, rfl, hb, hl, hc⟩ := h.2 (by omega)
  refine ⟨b, off + k, hb, hl, fun c w' => ?_, hc k hk⟩
  simp [Instr.indexAt, asIntOf, run_underlying Try.underlying23, Result.andThen, Addr.add_mid]
  intro h1
  omega
theorem Lies.turn {w w' : World} {S : List Nat} {A : Option Addr} {n k : Nat} {z : Int} {b o : Nat} (h : Lies w S A n k z b o) (ht : Turn S w w') : w'.cell? ⟨b, o, none⟩ = some (.int .i64 z) :=
  (World.cell?_of_block (w := w) (ht.block b h.2.1 h.1)).trans h.2.2.2
theorem listed_nums {w1 : World} {base : Nat} {v : Value} {ks : List Nat} (h : w1.ownsRow base 3 1 v ks.length (ks.map fun k : Nat => encZ (k : Int))) {S : List Nat} (hS : ∀ k ∈ S, k < base) :
    ∃ A c, v = .slice A ks.length c ∧ Nums w1 S A ks.length (ks.map fun k : Nat => (k : Int)) := by
  rcases h.2 with ⟨rfl, h0⟩ | ⟨g, cap, cur, rfl, hg, hh, h1, h2, h3, h4⟩
  · obtain rfl : ks = [] := List.eq_nil_of_length_eq_zero h0
    exact ⟨none, 0, rfl, Nums.nil⟩
  · refine ⟨some ⟨g, 0, none⟩, cap, rfl, by simp, fun _ => ⟨g, 0, rfl, fun hm => by have := hS g hm; omega, lt_of_heap hh, fun j hj => ?_⟩⟩
    rw [cell_at hh, Nat.zero_add]
    have e : cur.toList[j]? = (ks.map fun k : Nat => encZ (k : Int))[j]? := by
      rw [← h4, List.getElem?_take_of_lt (by omega)]
    rw [← Array.getElem?_toList, e]
    simp [encZ, hj]
end Go.Proofs.Ytgjdgmpjbpnjbaa.Disk
