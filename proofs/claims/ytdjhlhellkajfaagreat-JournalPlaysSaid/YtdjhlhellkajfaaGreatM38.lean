/-
  Texts RApp, RRst, in one file. What each proves, and its conditions, stand at its head below.
-/
import Derived.Test.YtdjhlhellkajfaaGreatM25
import Derived.Test.YtdjhlhellkajfaaGreatM35
import Derived.Deep.DeepCutAuto
/-
  The document's journal: Append. Conditions: the journal is known whole; the bytes lie in no block of its own.
-/
namespace Go.Proofs.YtdjhlhellkajfaaGreat.Jou
open Go.RowKit Codec FrameM Cod JourM
open Disk (Turn Dk Dsk ptr Now upd)
set_option maxRecDepth 100000
def RJNow (z : Int) (w : World) (S : List Nat) (y r bs bw : Nat) (d : Dsk) (jr : Jr) (e : Ending) (w' : World) : Prop := e = .returned (.int .i64 z) ∧ RJ w' S y r bs bw d jr ∧ Turn [y, r, bs, bw] w w'
theorem app_sum {w w6 w7 w8 : World} {A6 A7 A8 : Option Addr} {k n c6 c7 c8 : Nat} {us : List Value} {b : List UInt8} {gs : List (List UInt8)} {S : List Nat} (hb6 : Below w.heap.size w w6) (hk : gs.length = k) (hn : b.length = n) (hus : us.length = k)
    (h3 : ∀ j, j < k → ∃ Aj cj, us.getD j undef = .slice Aj (gs.getD j []).length cj ∧ Bts w S Aj (gs.getD j []).length (gs.getD j []) ∧ (gs.getD j []).length ≤ cj ∧ cj ≤ maxLen) (hS : ∀ q ∈ S, q < w.heap.size)
    (ho6 : w6.ownsRow w.heap.size 39 1 (.slice A6 k c6) k ([] ++ us)) (ho7 : Owns w7 w6.heap.size (.slice A7 n c7) n ([] ++ b)) (hg7 : (w6.alloc (.cells #[] 5)).grownBy w7 (some w6.heap.size))
    (ho8 : w8.ownsRow w.heap.size 39 1 (.slice A8 (k + 1) c8) (k + 1) ([] ++ us ++ [.slice A7 n c7])) (hg8 : (w7.alloc (.cells #[.slice A7 n c7] 39)).grownBy w8 (Value.ownBlock (.slice A6 k c6))) :
    RowsB w8 S A8 (k + 1) (gs ++ [b]) ∧ Below w.heap.size w w8 := by
  simp only [List.nil_append] at *
  have hown6 : ∀ q, (Value.slice A6 k c6).ownBlock = some q → w.heap.size ≤ q ∧ q < w6.heap.size := fun q hq => by
    obtain ⟨h1, cur, h2⟩ := own_type ho6 hq
    exact ⟨h1, lt_of_heap h2⟩
  have hsz6 := hb6.size
  have hb7 : Below w.heap.size w w7 := (hb6.alloc hsz6 _).grown hg7 (by rw [World.size_alloc]; omega) (fun q hq => by cases hq; exact hsz6)
  have hsz7 : w6.heap.size + 1 ≤ w7.heap.size := by have := hg7.size; rwa [World.size_alloc] at this
  have hb8 : Below w.heap.size w w8 := (hb7.alloc hb7.size _).grown hg8 (by rw [World.size_alloc]; omega) (fun q hq => (hown6 q hq).1)
  refine ⟨rows_of_vals ho8 (by simp [hus]) (by simp [hk]) (fun j hj => ?_) hS, hb8⟩
  by_cases hjk : j < k
  · rw [getD_app_left _ _ _ _ (by omega), getD_app_left _ _ _ _ (by omega)]
    obtain ⟨Aj, cj, e, h1, h2⟩ := h3 j hjk
    exact ⟨Aj, cj, e, h1.below hb8, h2⟩
  · obtain rfl : j = k := by omega
    rw [getD_app_right _ _ _ _ (by omega), getD_app_right _ _ _ _ (by omega), hus, hk, Nat.sub_self]
    obtain ⟨A', c', e, q1, q2⟩ := ho7.form
    injection e with _ _ e3
    subst e3
    have hx : Bts w7 (S ++ (Value.slice A6 j c6).ownBlock.toList) A7 n b := bts_own ho7 (fun q hq => by
      rcases List.mem_append.1 hq with h | h
      · have := hS q h; omega
      · exact (hown6 q (by simpa using h)).2)
    have ht : Turn (Value.slice A6 j c6).ownBlock.toList w7 w8 := ((Turn.refl _ w7).alloc _).grown hg8 (fun q hq => .inl (by rw [hq]; simp))
    refine ⟨A7, c7, by show Value.slice A7 n c7 = _; rw [← hn]; rfl, ?_, by show b.length ≤ _; omega, q2⟩
    show Bts w8 S A7 b.length b
    rw [hn]
    exact (hx.turn ht (fun q hq => .inl (List.mem_append_right _ hq))).sub (fun q hq => .inl (List.mem_append_left _ hq))
/-- A journal with another list of groups. -/
theorem RJ.listed {w w8 : World} {S : List Nat} {y r bs bw k c : Nat} {A : Option Addr} {d : Dsk} {jr : Jr} {gs : List (List UInt8)} (h : RJ w S y r bs bw d jr) (hb : Below w.heap.size w w8) (hr : RowsB w8 ([y, r, bs, bw] ++ S) A k gs) (hf : takes gs ≤ room d.n) :
    RJ (w8.setCell ⟨y, 2, none⟩ (.slice A k c)) S y r bs bw d { jr with gs := gs } ∧ Turn [y, r, bs, bw] w (w8.setCell ⟨y, 2, none⟩ (.slice A k c)) := by
  obtain ⟨A0, c0, h1, _⟩ := h.hd
  have ht : Turn [y] w8 (w8.setCell ⟨y, 2, none⟩ (.slice A k c)) := (Turn.refl [y] w8).setCell (.inl (by simp)) _
  have hk := hr.len
  subst hk
  exact ⟨⟨(h.disk.below hb).turn ht (fun k hk => .inl (by simp at hk; simp [hk])), ⟨A, c, set_at ((hb.block y h.ylt).trans h1) 2 _, hr.turn ht (fun k hk => .inl (by simp at hk; simp [hk]))⟩, h.yout, h.n8, hf⟩, (Turn.ofBelow hb).trans (ht.more (by simp))⟩
theorem app_keep {w6 w7 : World} {base n : Nat} {A6 : Option Addr} {c6 : Nat} {vs : List Value} {o : Obj} (h : w6.ownsRow base 39 1 (.slice A6 n c6) n vs) (hg : (w6.alloc (.cells #[] 5)).grownBy w7 (some w6.heap.size)) (_k : Nat) : (w7.alloc o).ownsRow base 39 1 (.slice A6 n c6) n vs := by
  refine World.ownsRow.alloc (World.ownsRow.kept (World.ownsRow.alloc h _) hg (.inr fun e => ?_)) _
  obtain ⟨_, cur, hc⟩ := own_type h e
  have := lt_of_heap hc
  omega
set_option maxHeartbeats 8000000 in
theorem rjappend_any (w : World) (S : List Nat) (y r bs bw : Nat) (d : Dsk) (jr : Jr) (n c : Nat) (A : Option Addr) (b : List UInt8) (h : RJ w S y r bs bw d jr) (hS : ∀ k ∈ S, k < w.heap.size) (hb : Bts w [y, r, bs, bw] A n b) :
    Calls Tryz.prog 16 #[ptr y, .slice A n c] w (RJNow (appE d jr b) w S y r bs bw (appD d jr b) (appJ d jr b)) := by
  have HJ00 := Lib.hid h
  have hbl := hb.len
  obtain ⟨Aj, cj, hyo, hrows⟩ := h.hd
  have h65 := h.disk.ok.2.1
  rcases app_parts d jr b with ⟨hdn, hz, hD, hJ⟩ | ⟨hdn, hl, hz, hD, hJ⟩ | ⟨hdn, hl, hfit, hz, hD, hJ⟩ | hlast
  · rw [hz, hD, hJ]
    have c3 := yc3 hyo
    rw [hdn] at c3
    clear h hb hyo hrows hz hD hJ
    unfold ptr
    go_enter Tryz.func16, Tryz.ntmps16
    go_wp2_with fail
    go_ret
    exact ⟨rfl, HJ00.out, Turn.refl _ _⟩
  · rw [hz, hD, hJ]
    have c3 := yc3 hyo
    rw [hdn] at c3
    have hn9 : (1048576 : Int) < (n : Int) := by omega
    clear h hb hyo hrows hz hD hJ
    unfold ptr
    go_enter Tryz.func16, Tryz.ntmps16
    go_wp2_with fail
    go_ret
    exact ⟨rfl, HJ00.out, Turn.refl _ _⟩
  all_goals
    have c3 := yc3 hyo
    have c2 := yc2 hyo
    have hT64 : takes jr.gs ≤ 65536 := by have := h.fit; unfold room at this; omega
    have HTK := Lib.hid (rtakes_any w jr.gs.length cj Aj jr.gs hrows.rowl (by omega))
    have HYO0 := Lib.hid hyo
    have HBB := Lib.hid hb
    have HFIT0 := Lib.hid h.fit
    have HROWS := Lib.hid hrows
    have HN8 : Hid (8 ≤ d.n ∧ d.n ≤ 65536) := Lib.hid ⟨h.n8, h65⟩
    have HSS : Hid (∀ k ∈ y :: S, k < w.heap.size) := Lib.hid (fun k hk => by
      rcases List.mem_cons.1 hk with rfl | hk
      · exact h.ylt
      · exact hS k hk)
  · rw [hz, hD, hJ]
    rw [hdn] at c3
    unfold takes1 at hfit
    rw [hbl] at hfit hl
    have hfi : (room d.n : Int) < ((takes jr.gs : Nat) : Int) + 1 + (need n : Int) := by omega
    have hnd : need n ≤ 16384 := by unfold need; omega
    have hw1 : IntKind.i64.wrap (((takes jr.gs : Nat) : Int) + 1) = ((takes jr.gs : Nat) : Int) + 1 := IntWalk.i64_in _ (by omega)
    have hw2 : IntKind.i64.wrap (((takes jr.gs : Nat) : Int) + 1 + (need n : Int)) = ((takes jr.gs : Nat) : Int) + 1 + (need n : Int) := IntWalk.i64_in _ (by omega)
    have hn9 : ¬ (1048576 : Int) < (n : Int) := by omega
    have HJ := HJ00
    have HYO := HYO0
    have HT : Hid (Turn [y, r, bs, bw] w w) := Lib.hid (Turn.refl _ w)
    clear h hb hyo hrows hz hD hJ
    unfold ptr
    go_enter Tryz.func16, Tryz.ntmps16
    go_wp2_with fail
    refine HTK.out.mono ?_
    rintro e u ⟨rfl, rfl⟩
    go_upto_region 6 with fail
    clear c2 c3
    have HS : Hid (w.drew.heap[y]? = some (yobj r jr.gen Aj jr.gs.length cj jr.down)) := Lib.hid HYO.out
    have HJ0 := Lib.hid (HJ.out.below (Below.refl w.heap.size w).drew)
    have HT0 : Hid (Turn [y, r, bs, bw] w w.drew) := Lib.hid HT.out.drew
    refine Frm.wh_start (fun u => u.heap[y]? = some (yobj r jr.gen Aj jr.gs.length cj jr.down)) (by kernel_rfl) ?_
    generalize w.drew = u0 at *
    have HND := Lib.hid (Frm.rneed_any (n : Int) u0 (by unfold in64; omega))
    rw [needI_nat] at HND
    have HRM := Lib.hid (rroom_any u0 (y :: S) r bs bw d HJ0.out.disk (by have := HJ0.out.n8; omega))
    unfold ptr at HRM
    refine Frm.wh_take 0 18 (.int .i64 (takes jr.gs)) rfl rfl (by kernel_rfl) (fun _ _ _ h => h) rfl (HS.out) (fun w' hw' => ?_) ?_
    · exact rfl
    go_frame
    refine Frm.wh_take 1 19 (.int .i64 (takes jr.gs + 1 : Nat)) rfl rfl (by kernel_rfl) (fun _ _ _ h => h) rfl (HS.out) (fun w' hw' => ?_) ?_
    · go_simp
    go_frame
    refine Frm.wh_take 2 20 (.slice A n c) rfl rfl (by kernel_rfl) (fun _ _ _ h => h) rfl (HS.out) (fun w' hw' => ?_) ?_
    · exact rfl
    go_frame
    refine Frm.wh_take 3 21 (.int .i64 n) rfl rfl (by kernel_rfl) (fun _ _ _ h => h) rfl (HS.out) (fun w' hw' => ?_) ?_
    · go_simp
    go_frame
    refine Frm.wh_take 6 24 (.pointer (some ⟨y, 0, none⟩)) rfl rfl (by kernel_rfl) (fun _ _ _ h => h) rfl (HS.out) (fun w' hw' => ?_) ?_
    · exact rfl
    go_frame
    refine Frm.wh_take 7 25 (.pointer (some ⟨y, 0, none⟩)) rfl rfl (by kernel_rfl) (fun _ _ _ h => h) rfl (HS.out) (fun w' hw' => ?_) ?_
    · go_simp
    go_frame
    refine Frm.wh_take 8 26 (.pointer (some ⟨y, 0, none⟩)) rfl rfl (by kernel_rfl) (fun _ _ _ h => h) rfl (HS.out) (fun w' hw' => ?_) ?_
    · go_simp
    go_frame
    refine Frm.wh_take 9 27 (.pointer (some ⟨r, 0, none⟩)) rfl rfl (by kernel_rfl) (fun _ _ _ h => h) rfl (HS.out) (fun w' hw' => ?_) ?_
    · have h0 := yc0 hw'
      go_simp
    go_frame
    refine Frm.wh_call 4 22 68 #[.int .i64 n] rfl rfl (by kernel_rfl) rfl ?_ ?_
    · go_simp
    refine (HND.out).mono ?_
    rintro e u ⟨rfl, rfl⟩
    refine ⟨_, rfl, HS.out, ?_⟩
    go_frame
    refine Frm.wh_take 5 23 (.int .i64 (takes jr.gs + 1 + need n : Nat)) rfl rfl (by kernel_rfl) (fun _ _ _ h => h) rfl (HS.out) (fun w' hw' => ?_) ?_
    · go_simp
    go_frame
    refine Frm.wh_call 10 28 30 #[.pointer (some ⟨r, 0, none⟩)] rfl rfl (by kernel_rfl) rfl ?_ ?_
    · go_simp
    refine (HRM.out).mono ?_
    rintro e u ⟨rfl, rfl⟩
    refine ⟨_, rfl, HS.out, ?_⟩
    go_frame
    refine Frm.wh_take 11 29 (.bool true) rfl rfl (by kernel_rfl) (fun _ _ _ h => h) rfl (HS.out) (fun w' hw' => ?_) ?_
    · go_simp
    go_frame
    refine wpAnyH_done (by kernel_rfl) ?_ _
    go_wp2_with fail
    go_ret
    exact ⟨rfl, HJ0.out, HT0.out⟩
  · have hlf : jr.down = false ∧ n ≤ 1048576 ∧ 1 + need n + takes jr.gs ≤ room d.n := by
      rcases hlast with ⟨h1, h2, h3, _⟩ | ⟨h1, h2, h3, _⟩ <;> (unfold takes1 at h3; rw [hbl] at h2 h3; exact ⟨h1, h2, h3⟩)
    obtain ⟨hdn, hl, hfit⟩ := hlf
    have HLAST := Lib.hid hlast
    rw [hdn] at c3
    have hfi : ¬ (room d.n : Int) < (takes jr.gs : Int) + 1 + (need n : Int) := by omega
    have hnd : need n ≤ 16384 := by unfold need; omega
    obtain ⟨P, hP⟩ : ∃ P, secAt d.n jr.gen (takes jr.gs) = P := ⟨_, rfl⟩
    obtain ⟨P0, hP0⟩ : ∃ P0, secAt d.n jr.gen 0 = P0 := ⟨_, rfl⟩
    have hPl : P < d.n := by rw [← hP]; exact sec_lt (by have := h.n8; omega) (by omega)
    have hPP : (P0 : Int) + (takes jr.gs : Int) = (P : Int) := by rw [← hP, ← hP0, ← Nat.zero_add (takes jr.gs), sec_add, Nat.zero_add]; push_cast; rfl
    have hP1 : secAt d.n jr.gen (takes jr.gs + 1) = P + 1 := by rw [sec_add, hP]
    have HP : Hid (P < d.n) := Lib.hid hPl
    have HNM : Hid (n ≤ 1048576) := Lib.hid hl
    have HBL := Lib.hid hbl
    have HFT : Hid (takes jr.gs + takes1 b ≤ room d.n) := Lib.hid (by unfold takes1; rw [hbl]; omega)
    have HW1 : Hid (wOk d jr.gen (takes jr.gs) jr.gs.length b false true = wrsB d (P + 1) (extL d.n (takes jr.gs) b)) := Lib.hid (by unfold wOk wL extL; rw [hP]; rfl)
    have HW2 : Hid (wDk d jr.gen (takes jr.gs) jr.gs.length b false true = wrsD d (P + 1) (extL d.n (takes jr.gs) b)) := Lib.hid (by unfold wDk wL extL; rw [hP]; rfl)
    have HX1 : Hid (extB d jr.gen (takes jr.gs) jr.gs.length b = (wrsB d (P + 1) (extL d.n (takes jr.gs) b) && JourM.go (wrsD d (P + 1) (extL d.n (takes jr.gs) b)) && (JourM.go (sy (wrsD d (P + 1) (extL d.n (takes jr.gs) b))) && JourM.go (JourM.wr (sy (wrsD d (P + 1) (extL d.n (takes jr.gs) b))) P (put (markM jr.gen jr.gs.length b)))))) := Lib.hid (by
      unfold extB keepB keepD
      rw [hP1, hP]
      cases hB : wrsB d (P + 1) (extL d.n (takes jr.gs) b)
      · simp
      · simp only [wrsB, wrsD, if_true, Bool.and_true]
        cases hg : JourM.go (sy (wrsD d (P + 1) (extL d.n (takes jr.gs) b))) <;> simp)
    have HX2 : Hid (extD d jr.gen (takes jr.gs) jr.gs.length b = if wrsB d (P + 1) (extL d.n (takes jr.gs) b) then (if JourM.go (wrsD d (P + 1) (extL d.n (takes jr.gs) b)) then (if JourM.go (sy (wrsD d (P + 1) (extL d.n (takes jr.gs) b))) then sy (JourM.wr (sy (wrsD d (P + 1) (extL d.n (takes jr.gs) b))) P (put (markM jr.gen jr.gs.length b))) else JourM.wr (sy (wrsD d (P + 1) (extL d.n (takes jr.gs) b))) P (put (markM jr.gen jr.gs.length b))) else sy (wrsD d (P + 1) (extL d.n (takes jr.gs) b))) else wrsD d (P + 1) (extL d.n (takes jr.gs) b)) := Lib.hid (by
      unfold extD keepB keepD
      rw [hP1, hP]
      cases hB : wrsB d (P + 1) (extL d.n (takes jr.gs) b)
      · simp
      · cases hg0 : JourM.go (wrsD d (P + 1) (extL d.n (takes jr.gs) b))
        · simp
        · simp only [wrsB, wrsD, if_true, Bool.and_true]
          cases hg : JourM.go (sy (wrsD d (P + 1) (extL d.n (takes jr.gs) b))) <;> simp)
    have HML : Hid ((put (markM jr.gen jr.gs.length b)).length = 64) := Lib.hid (by rw [put_right (markM_right _ _ _), List.length_append, half_length])
    have HN2 : Hid (secAt (sy (wrsD d (P + 1) (extL d.n (takes jr.gs) b))).n jr.gen 0 = P0) := Lib.hid (by rw [sy_n, wrsD_n, hP0])
    have HPY : Hid (P < (sy (wrsD d (P + 1) (extL d.n (takes jr.gs) b))).n) := Lib.hid (by rw [sy_n, wrsD_n]; exact hPl)
    have HAX : Hid (P ≤ 65536) := Lib.hid (by omega)
    have hw1 : IntKind.i64.wrap (((takes jr.gs : Nat) : Int) + 1) = ((takes jr.gs : Nat) : Int) + 1 := IntWalk.i64_in _ (by omega)
    have hw2 : IntKind.i64.wrap (((takes jr.gs : Nat) : Int) + 1 + (need n : Int)) = ((takes jr.gs : Nat) : Int) + 1 + (need n : Int) := IntWalk.i64_in _ (by omega)
    have hw3 : IntKind.i64.wrap ((P0 : Int) + ((takes jr.gs : Nat) : Int)) = (P : Int) := by rw [hPP]; exact IntWalk.i64_in _ (by omega)
    have hn9 : ¬ (1048576 : Int) < (n : Int) := by omega
    have HJ := HJ00
    have HYO := HYO0
    have HT : Hid (Turn [y, r, bs, bw] w w) := Lib.hid (Turn.refl _ w)
    clear h hb hyo hrows hlast hP hP0 hPl hP1 hPP
    unfold ptr
    go_enter Tryz.func16, Tryz.ntmps16
    go_wp2_with fail
    refine HTK.out.mono ?_
    rintro e u ⟨rfl, rfl⟩
    go_upto_region 6 with fail
    clear c2 c3
    have HS : Hid (w.drew.heap[y]? = some (yobj r jr.gen Aj jr.gs.length cj jr.down)) := Lib.hid HYO.out
    have HJ0 := Lib.hid (HJ.out.below (Below.refl w.heap.size w).drew)
    have HT0 : Hid (Turn [y, r, bs, bw] w w.drew) := Lib.hid HT.out.drew
    refine Frm.wh_start (fun u => u.heap[y]? = some (yobj r jr.gen Aj jr.gs.length cj jr.down)) (by kernel_rfl) ?_
    generalize w.drew = u0 at *
    have HND := Lib.hid (Frm.rneed_any (n : Int) u0 (by unfold in64; omega))
    rw [needI_nat] at HND
    have HRM := Lib.hid (rroom_any u0 (y :: S) r bs bw d HJ0.out.disk (by have := HJ0.out.n8; omega))
    unfold ptr at HRM
    refine Frm.wh_take 0 18 (.int .i64 (takes jr.gs)) rfl rfl (by kernel_rfl) (fun _ _ _ h => h) rfl (HS.out) (fun w' hw' => ?_) ?_
    · exact rfl
    go_frame
    refine Frm.wh_take 1 19 (.int .i64 (takes jr.gs + 1 : Nat)) rfl rfl (by kernel_rfl) (fun _ _ _ h => h) rfl (HS.out) (fun w' hw' => ?_) ?_
    · go_simp
    go_frame
    refine Frm.wh_take 2 20 (.slice A n c) rfl rfl (by kernel_rfl) (fun _ _ _ h => h) rfl (HS.out) (fun w' hw' => ?_) ?_
    · exact rfl
    go_frame
    refine Frm.wh_take 3 21 (.int .i64 n) rfl rfl (by kernel_rfl) (fun _ _ _ h => h) rfl (HS.out) (fun w' hw' => ?_) ?_
    · go_simp
    go_frame
    refine Frm.wh_take 6 24 (.pointer (some ⟨y, 0, none⟩)) rfl rfl (by kernel_rfl) (fun _ _ _ h => h) rfl (HS.out) (fun w' hw' => ?_) ?_
    · exact rfl
    go_frame
    refine Frm.wh_take 7 25 (.pointer (some ⟨y, 0, none⟩)) rfl rfl (by kernel_rfl) (fun _ _ _ h => h) rfl (HS.out) (fun w' hw' => ?_) ?_
    · go_simp
    go_frame
    refine Frm.wh_take 8 26 (.pointer (some ⟨y, 0, none⟩)) rfl rfl (by kernel_rfl) (fun _ _ _ h => h) rfl (HS.out) (fun w' hw' => ?_) ?_
    · go_simp
    go_frame
    refine Frm.wh_take 9 27 (.pointer (some ⟨r, 0, none⟩)) rfl rfl (by kernel_rfl) (fun _ _ _ h => h) rfl (HS.out) (fun w' hw' => ?_) ?_
    · have h0 := yc0 hw'
      go_simp
    go_frame
    refine Frm.wh_call 4 22 68 #[.int .i64 n] rfl rfl (by kernel_rfl) rfl ?_ ?_
    · go_simp
    refine (HND.out).mono ?_
    rintro e u ⟨rfl, rfl⟩
    refine ⟨_, rfl, HS.out, ?_⟩
    go_frame
    refine Frm.wh_take 5 23 (.int .i64 (takes jr.gs + 1 + need n : Nat)) rfl rfl (by kernel_rfl) (fun _ _ _ h => h) rfl (HS.out) (fun w' hw' => ?_) ?_
    · go_simp
    go_frame
    refine Frm.wh_call 10 28 30 #[.pointer (some ⟨r, 0, none⟩)] rfl rfl (by kernel_rfl) rfl ?_ ?_
    · go_simp
    refine (HRM.out).mono ?_
    rintro e u ⟨rfl, rfl⟩
    refine ⟨_, rfl, HS.out, ?_⟩
    go_frame
    refine Frm.wh_take 11 29 (.bool false) rfl rfl (by kernel_rfl) (fun _ _ _ h => h) rfl (HS.out) (fun w' hw' => ?_) ?_
    · go_simp
    go_frame
    refine wpAnyH_done (by kernel_rfl) ?_ _
    clear HJ HYO HT
    have HJ := HJ0
    have HYO := HS
    have HT := HT0
    clear HJ0 HS HT0 hfi hw1 hw2 HND HRM
    go_upto_region 8 with fail
    go_cut [90] (fun v wx => ∃ v' : Bool, v = .bool v' ∧ v' = !(extB d jr.gen (takes jr.gs) jr.gs.length b) ∧ RJ wx S y r bs bw (extD d jr.gen (takes jr.gs) jr.gs.length b) jr ∧ Turn [y, r, bs, bw] w wx)
    case first =>
      have HS : Hid (u0.drew.heap[y]? = some (yobj r jr.gen Aj jr.gs.length cj jr.down)) := Lib.hid HYO.out
      have HJ0 := Lib.hid (HJ.out.below (Below.refl u0.heap.size u0).drew)
      have HT0 : Hid (Turn [y, r, bs, bw] w u0.drew) := Lib.hid HT.out.drew
      have HB0 := Lib.hid (HBB.out.turn HT0.out (fun q hq => .inl hq))
      have HWR := Lib.hid (rjwrite_any u0.drew S y r bs bw d jr jr.gen (takes jr.gs) jr.gs.length n c A b false true HJ0.out (fun q hq => Nat.lt_of_lt_of_le (HSS.out q (List.mem_cons_of_mem _ hq)) HT0.out.size) (HB0.out.sub (fun q hq => .inl (List.mem_cons_of_mem _ hq))) HNM.out HFT.out)
      rw [HW1.out, HW2.out] at HWR
      unfold ptr at HWR
      refine Frm.wh_start (fun u => u.heap[y]? = some (yobj r jr.gen Aj jr.gs.length cj jr.down)) (by kernel_rfl) ?_
      generalize u0.drew = v0 at *
      generalize hd1 : wrsD d (P + 1) (extL d.n (takes jr.gs) b) = d1 at *
      cases hB1 : wrsB d (P + 1) (extL d.n (takes jr.gs) b) with
      | false =>
        as_aux_lemma =>
          rw [hB1] at HWR
          refine Frm.wh_take 0 30 (.pointer (some ⟨y, 0, none⟩)) rfl rfl (by kernel_rfl) (fun _ _ _ h => h) rfl (HS.out) (fun w' hw' => ?_) ?_
          · exact rfl
          go_frame
          refine Frm.wh_take 1 31 (.pointer (some ⟨y, 0, none⟩)) rfl rfl (by kernel_rfl) (fun _ _ _ h => h) rfl (HS.out) (fun w' hw' => ?_) ?_
          · exact rfl
          go_frame
          refine Frm.wh_take 2 32 (.pointer (some ⟨y, 0, none⟩)) rfl rfl (by kernel_rfl) (fun _ _ _ h => h) rfl (HS.out) (fun w' hw' => ?_) ?_
          · go_simp
          go_frame
          refine Frm.wh_take 3 33 (.pointer (some ⟨y, 1, none⟩)) rfl rfl (by kernel_rfl) (fun _ _ _ h => h) rfl (HS.out) (fun w' hw' => ?_) ?_
          · go_simp
          go_frame
          refine Frm.wh_take 4 34 (.int .i64 jr.gen) rfl rfl (by kernel_rfl) (fun _ _ _ h => h) rfl (HS.out) (fun w' hw' => ?_) ?_
          · have h1 := yc1 hw'
            go_simp
          go_frame
          refine Frm.wh_take 5 35 (.int .i64 (takes jr.gs)) rfl rfl (by kernel_rfl) (fun _ _ _ h => h) rfl (HS.out) (fun w' hw' => ?_) ?_
          · exact rfl
          go_frame
          refine Frm.wh_take 6 36 (.pointer (some ⟨y, 0, none⟩)) rfl rfl (by kernel_rfl) (fun _ _ _ h => h) rfl (HS.out) (fun w' hw' => ?_) ?_
          · exact rfl
          go_frame
          refine Frm.wh_take 7 37 (.pointer (some ⟨y, 0, none⟩)) rfl rfl (by kernel_rfl) (fun _ _ _ h => h) rfl (HS.out) (fun w' hw' => ?_) ?_
          · go_simp
          go_frame
          refine Frm.wh_take 8 38 (.pointer (some ⟨y, 2, none⟩)) rfl rfl (by kernel_rfl) (fun _ _ _ h => h) rfl (HS.out) (fun w' hw' => ?_) ?_
          · go_simp
          go_frame
          refine Frm.wh_take 9 39 (.slice Aj jr.gs.length cj) rfl rfl (by kernel_rfl) (fun _ _ _ h => h) rfl (HS.out) (fun w' hw' => ?_) ?_
          · have h2 := yc2 hw'
            go_simp
          go_frame
          refine Frm.wh_take 10 40 (.int .i64 jr.gs.length) rfl rfl (by kernel_rfl) (fun _ _ _ h => h) rfl (HS.out) (fun w' hw' => ?_) ?_
          · go_simp
          go_frame
          refine Frm.wh_take 11 41 (.slice A n c) rfl rfl (by kernel_rfl) (fun _ _ _ h => h) rfl (HS.out) (fun w' hw' => ?_) ?_
          · exact rfl
          go_frame
          refine Frm.wh_call 12 42 69 #[.pointer (some ⟨y, 0, none⟩), .int .i64 jr.gen, .int .i64 (takes jr.gs), .int .i64 jr.gs.length, .slice A n c, .bool false, .bool true] rfl rfl (by kernel_rfl) rfl ?_ ?_
          · go_simp
          refine (HWR.out).mono ?_
          rintro e w1 ⟨rfl, hj1, ht1⟩
          have HJ1 := Lib.hid hj1
          have HT1 := Lib.hid (HT0.out.trans (ht1.more (by simp)))
          have HS := Lib.hid ((ht1.block y HJ0.out.ylt (fun hm => HJ0.out.yout (List.mem_append_left _ hm))).trans HS.out)
          clear hj1 ht1
          refine ⟨_, rfl, HS.out, ?_⟩
          go_frame
          refine Frm.wh_take 13 43 (.bool true) rfl rfl (by kernel_rfl) (fun _ _ _ h => h) rfl (HS.out) (fun w' hw' => ?_) ?_
          · go_simp
          go_frame
          refine Frm.wh_take 14 44 (.bool true) rfl rfl (by kernel_rfl) (fun _ _ _ h => h) rfl (HS.out) (fun w' hw' => ?_) ?_
          · exact rfl
          go_frame
          refine Frm.wh_pass 15 45 rfl rfl (by kernel_rfl) (fun _ _ _ h => h) rfl (HS.out) ?_
          go_frame
          refine Frm.wh_pass 16 46 rfl rfl (by kernel_rfl) (fun _ _ _ h => h) rfl (HS.out) ?_
          go_frame
          refine Frm.wh_pass 17 47 rfl rfl (by kernel_rfl) (fun _ _ _ h => h) rfl (HS.out) ?_
          go_frame
          refine Frm.wh_pass 18 48 rfl rfl (by kernel_rfl) (fun _ _ _ h => h) rfl (HS.out) ?_
          go_frame
          refine Frm.wh_pass 19 49 rfl rfl (by kernel_rfl) (fun _ _ _ h => h) rfl (HS.out) ?_
          go_frame
          refine Frm.wh_pass 20 50 rfl rfl (by kernel_rfl) (fun _ _ _ h => h) rfl (HS.out) ?_
          go_frame
          refine Frm.wh_take 21 51 (.bool true) rfl rfl (by kernel_rfl) (fun _ _ _ h => h) rfl (HS.out) (fun w' hw' => ?_) ?_
          · go_simp
          go_frame
          refine Frm.wh_take 22 52 (.bool true) rfl rfl (by kernel_rfl) (fun _ _ _ h => h) rfl (HS.out) (fun w' hw' => ?_) ?_
          · exact rfl
          go_frame
          refine Frm.wh_pass 23 53 rfl rfl (by kernel_rfl) (fun _ _ _ h => h) rfl (HS.out) ?_
          go_frame
          refine Frm.wh_pass 24 54 rfl rfl (by kernel_rfl) (fun _ _ _ h => h) rfl (HS.out) ?_
          go_frame
          refine Frm.wh_pass 25 55 rfl rfl (by kernel_rfl) (fun _ _ _ h => h) rfl (HS.out) ?_
          go_frame
          refine Frm.wh_pass 26 56 rfl rfl (by kernel_rfl) (fun _ _ _ h => h) rfl (HS.out) ?_
          go_frame
          refine Frm.wh_pass 27 57 rfl rfl (by kernel_rfl) (fun _ _ _ h => h) rfl (HS.out) ?_
          go_frame
          refine Frm.wh_pass 28 58 rfl rfl (by kernel_rfl) (fun _ _ _ h => h) rfl (HS.out) ?_
          go_frame
          refine Frm.wh_pass 29 59 rfl rfl (by kernel_rfl) (fun _ _ _ h => h) rfl (HS.out) ?_
          go_frame
          refine Frm.wh_pass 30 60 rfl rfl (by kernel_rfl) (fun _ _ _ h => h) rfl (HS.out) ?_
          go_frame
          refine Frm.wh_pass 31 61 rfl rfl (by kernel_rfl) (fun _ _ _ h => h) rfl (HS.out) ?_
          go_frame
          refine Frm.wh_pass 32 62 rfl rfl (by kernel_rfl) (fun _ _ _ h => h) rfl (HS.out) ?_
          go_frame
          refine Frm.wh_pass 33 63 rfl rfl (by kernel_rfl) (fun _ _ _ h => h) rfl (HS.out) ?_
          go_frame
          refine Frm.wh_pass 34 64 rfl rfl (by kernel_rfl) (fun _ _ _ h => h) rfl (HS.out) ?_
          go_frame
          refine Frm.wh_pass 35 65 rfl rfl (by kernel_rfl) (fun _ _ _ h => h) rfl (HS.out) ?_
          go_frame
          refine Frm.wh_pass 36 66 rfl rfl (by kernel_rfl) (fun _ _ _ h => h) rfl (HS.out) ?_
          go_frame
          refine Frm.wh_pass 37 67 rfl rfl (by kernel_rfl) (fun _ _ _ h => h) rfl (HS.out) ?_
          go_frame
          refine Frm.wh_pass 38 68 rfl rfl (by kernel_rfl) (fun _ _ _ h => h) rfl (HS.out) ?_
          go_frame
          refine Frm.wh_pass 39 69 rfl rfl (by kernel_rfl) (fun _ _ _ h => h) rfl (HS.out) ?_
          go_frame
          refine Frm.wh_pass 40 70 rfl rfl (by kernel_rfl) (fun _ _ _ h => h) rfl (HS.out) ?_
          go_frame
          refine Frm.wh_pass 41 71 rfl rfl (by kernel_rfl) (fun _ _ _ h => h) rfl (HS.out) ?_
          go_frame
          refine Frm.wh_pass 42 72 rfl rfl (by kernel_rfl) (fun _ _ _ h => h) rfl (HS.out) ?_
          go_frame
          refine Frm.wh_pass 43 73 rfl rfl (by kernel_rfl) (fun _ _ _ h => h) rfl (HS.out) ?_
          go_frame
          refine Frm.wh_pass 44 74 rfl rfl (by kernel_rfl) (fun _ _ _ h => h) rfl (HS.out) ?_
          go_frame
          refine Frm.wh_pass 45 75 rfl rfl (by kernel_rfl) (fun _ _ _ h => h) rfl (HS.out) ?_
          go_frame
          refine Frm.wh_pass 46 76 rfl rfl (by kernel_rfl) (fun _ _ _ h => h) rfl (HS.out) ?_
          go_frame
          refine Frm.wh_pass 47 77 rfl rfl (by kernel_rfl) (fun _ _ _ h => h) rfl (HS.out) ?_
          go_frame
          refine Frm.wh_pass 48 78 rfl rfl (by kernel_rfl) (fun _ _ _ h => h) rfl (HS.out) ?_
          go_frame
          refine Frm.wh_pass 49 79 rfl rfl (by kernel_rfl) (fun _ _ _ h => h) rfl (HS.out) ?_
          go_frame
          refine Frm.wh_pass 50 80 rfl rfl (by kernel_rfl) (fun _ _ _ h => h) rfl (HS.out) ?_
          go_frame
          refine Frm.wh_pass 51 81 rfl rfl (by kernel_rfl) (fun _ _ _ h => h) rfl (HS.out) ?_
          go_frame
          refine Frm.wh_take 52 82 (.bool true) rfl rfl (by kernel_rfl) (fun _ _ _ h => h) rfl (HS.out) (fun w' hw' => ?_) ?_
          · go_simp
          go_frame
          refine Frm.wh_take 53 83 (.bool true) rfl rfl (by kernel_rfl) (fun _ _ _ h => h) rfl (HS.out) (fun w' hw' => ?_) ?_
          · exact rfl
          go_frame
          refine Frm.wh_pass 54 84 rfl rfl (by kernel_rfl) (fun _ _ _ h => h) rfl (HS.out) ?_
          go_frame
          refine Frm.wh_pass 55 85 rfl rfl (by kernel_rfl) (fun _ _ _ h => h) rfl (HS.out) ?_
          go_frame
          refine Frm.wh_pass 56 86 rfl rfl (by kernel_rfl) (fun _ _ _ h => h) rfl (HS.out) ?_
          go_frame
          refine Frm.wh_pass 57 87 rfl rfl (by kernel_rfl) (fun _ _ _ h => h) rfl (HS.out) ?_
          go_frame
          refine Frm.wh_pass 58 88 rfl rfl (by kernel_rfl) (fun _ _ _ h => h) rfl (HS.out) ?_
          go_frame
          refine Frm.wh_pass 59 89 rfl rfl (by kernel_rfl) (fun _ _ _ h => h) rfl (HS.out) ?_
          go_frame
          refine Frm.wh_take 60 90 (.bool true) rfl rfl (by kernel_rfl) (fun _ _ _ h => h) rfl (HS.out) (fun w' hw' => ?_) ?_
          · go_simp
          go_frame
          refine wpAnyH_done (by kernel_rfl) ?_ _
          go_wp2_with fail
          go_meet
          exact ⟨true, rfl, by rw [HX1.out]; simp [hB1], by rw [HX2.out]; simpa [hB1] using HJ1.out, HT1.out⟩
      | true =>
        rw [hB1] at HWR
        cases hG1 : JourM.go d1 with
        | false =>
          as_aux_lemma =>
            refine Frm.wh_take 0 30 (.pointer (some ⟨y, 0, none⟩)) rfl rfl (by kernel_rfl) (fun _ _ _ h => h) rfl (HS.out) (fun w' hw' => ?_) ?_
            · exact rfl
            go_frame
            refine Frm.wh_take 1 31 (.pointer (some ⟨y, 0, none⟩)) rfl rfl (by kernel_rfl) (fun _ _ _ h => h) rfl (HS.out) (fun w' hw' => ?_) ?_
            · exact rfl
            go_frame
            refine Frm.wh_take 2 32 (.pointer (some ⟨y, 0, none⟩)) rfl rfl (by kernel_rfl) (fun _ _ _ h => h) rfl (HS.out) (fun w' hw' => ?_) ?_
            · go_simp
            go_frame
            refine Frm.wh_take 3 33 (.pointer (some ⟨y, 1, none⟩)) rfl rfl (by kernel_rfl) (fun _ _ _ h => h) rfl (HS.out) (fun w' hw' => ?_) ?_
            · go_simp
            go_frame
            refine Frm.wh_take 4 34 (.int .i64 jr.gen) rfl rfl (by kernel_rfl) (fun _ _ _ h => h) rfl (HS.out) (fun w' hw' => ?_) ?_
            · have h1 := yc1 hw'
              go_simp
            go_frame
            refine Frm.wh_take 5 35 (.int .i64 (takes jr.gs)) rfl rfl (by kernel_rfl) (fun _ _ _ h => h) rfl (HS.out) (fun w' hw' => ?_) ?_
            · exact rfl
            go_frame
            refine Frm.wh_take 6 36 (.pointer (some ⟨y, 0, none⟩)) rfl rfl (by kernel_rfl) (fun _ _ _ h => h) rfl (HS.out) (fun w' hw' => ?_) ?_
            · exact rfl
            go_frame
            refine Frm.wh_take 7 37 (.pointer (some ⟨y, 0, none⟩)) rfl rfl (by kernel_rfl) (fun _ _ _ h => h) rfl (HS.out) (fun w' hw' => ?_) ?_
            · go_simp
            go_frame
            refine Frm.wh_take 8 38 (.pointer (some ⟨y, 2, none⟩)) rfl rfl (by kernel_rfl) (fun _ _ _ h => h) rfl (HS.out) (fun w' hw' => ?_) ?_
            · go_simp
            go_frame
            refine Frm.wh_take 9 39 (.slice Aj jr.gs.length cj) rfl rfl (by kernel_rfl) (fun _ _ _ h => h) rfl (HS.out) (fun w' hw' => ?_) ?_
            · have h2 := yc2 hw'
              go_simp
            go_frame
            refine Frm.wh_take 10 40 (.int .i64 jr.gs.length) rfl rfl (by kernel_rfl) (fun _ _ _ h => h) rfl (HS.out) (fun w' hw' => ?_) ?_
            · go_simp
            go_frame
            refine Frm.wh_take 11 41 (.slice A n c) rfl rfl (by kernel_rfl) (fun _ _ _ h => h) rfl (HS.out) (fun w' hw' => ?_) ?_
            · exact rfl
            go_frame
            refine Frm.wh_call 12 42 69 #[.pointer (some ⟨y, 0, none⟩), .int .i64 jr.gen, .int .i64 (takes jr.gs), .int .i64 jr.gs.length, .slice A n c, .bool false, .bool true] rfl rfl (by kernel_rfl) rfl ?_ ?_
            · go_simp
            refine (HWR.out).mono ?_
            rintro e w1 ⟨rfl, hj1, ht1⟩
            have HJ1 := Lib.hid hj1
            have HT1 := Lib.hid (HT0.out.trans (ht1.more (by simp)))
            have HS := Lib.hid ((ht1.block y HJ0.out.ylt (fun hm => HJ0.out.yout (List.mem_append_left _ hm))).trans HS.out)
            clear hj1 ht1
            have HSY := Lib.hid (rsync_any w1 (y :: S) r bs bw d1 HJ1.out.disk)
            rw [hG1] at HSY
            unfold ptr at HSY
            refine ⟨_, rfl, HS.out, ?_⟩
            go_frame
            refine Frm.wh_take 13 43 (.bool false) rfl rfl (by kernel_rfl) (fun _ _ _ h => h) rfl (HS.out) (fun w' hw' => ?_) ?_
            · go_simp
            go_frame
            refine Frm.wh_take 14 44 (.bool false) rfl rfl (by kernel_rfl) (fun _ _ _ h => h) rfl (HS.out) (fun w' hw' => ?_) ?_
            · exact rfl
            go_frame
            refine Frm.wh_take 15 45 (.pointer (some ⟨y, 0, none⟩)) rfl rfl (by kernel_rfl) (fun _ _ _ h => h) rfl (HS.out) (fun w' hw' => ?_) ?_
            · exact rfl
            go_frame
            refine Frm.wh_take 16 46 (.pointer (some ⟨y, 0, none⟩)) rfl rfl (by kernel_rfl) (fun _ _ _ h => h) rfl (HS.out) (fun w' hw' => ?_) ?_
            · go_simp
            go_frame
            refine Frm.wh_take 17 47 (.pointer (some ⟨y, 0, none⟩)) rfl rfl (by kernel_rfl) (fun _ _ _ h => h) rfl (HS.out) (fun w' hw' => ?_) ?_
            · go_simp
            go_frame
            refine Frm.wh_take 18 48 (.pointer (some ⟨r, 0, none⟩)) rfl rfl (by kernel_rfl) (fun _ _ _ h => h) rfl (HS.out) (fun w' hw' => ?_) ?_
            · have h0 := yc0 hw'
              go_simp
            go_frame
            refine Frm.wh_call 19 49 61 #[.pointer (some ⟨r, 0, none⟩)] rfl rfl (by kernel_rfl) rfl ?_ ?_
            · go_simp
            refine (HSY.out).mono ?_
            rintro e w2 ⟨rfl, hr2, ht2⟩
            have HJ2 := Lib.hid (HJ1.out.disked hr2 ht2 (sy_n d1))
            have HT2 := Lib.hid (HT1.out.trans (ht2.more (by simp)))
            have HS := Lib.hid ((ht2.block y HJ1.out.ylt (fun hm => HJ1.out.yout (List.mem_append_left _ hm))).trans HS.out)
            clear hr2 ht2
            refine ⟨_, rfl, HS.out, ?_⟩
            go_frame
            refine Frm.wh_take 20 50 (.bool true) rfl rfl (by kernel_rfl) (fun _ _ _ h => h) rfl (HS.out) (fun w' hw' => ?_) ?_
            · have hz1 := err_true
              have hz2 := err_false
              go_simp
            go_frame
            refine Frm.wh_take 21 51 (.bool true) rfl rfl (by kernel_rfl) (fun _ _ _ h => h) rfl (HS.out) (fun w' hw' => ?_) ?_
            · go_simp
            go_frame
            refine Frm.wh_take 22 52 (.bool true) rfl rfl (by kernel_rfl) (fun _ _ _ h => h) rfl (HS.out) (fun w' hw' => ?_) ?_
            · exact rfl
            go_frame
            refine Frm.wh_pass 23 53 rfl rfl (by kernel_rfl) (fun _ _ _ h => h) rfl (HS.out) ?_
            go_frame
            refine Frm.wh_pass 24 54 rfl rfl (by kernel_rfl) (fun _ _ _ h => h) rfl (HS.out) ?_
            go_frame
            refine Frm.wh_pass 25 55 rfl rfl (by kernel_rfl) (fun _ _ _ h => h) rfl (HS.out) ?_
            go_frame
            refine Frm.wh_pass 26 56 rfl rfl (by kernel_rfl) (fun _ _ _ h => h) rfl (HS.out) ?_
            go_frame
            refine Frm.wh_pass 27 57 rfl rfl (by kernel_rfl) (fun _ _ _ h => h) rfl (HS.out) ?_
            go_frame
            refine Frm.wh_pass 28 58 rfl rfl (by kernel_rfl) (fun _ _ _ h => h) rfl (HS.out) ?_
            go_frame
            refine Frm.wh_pass 29 59 rfl rfl (by kernel_rfl) (fun _ _ _ h => h) rfl (HS.out) ?_
            go_frame
            refine Frm.wh_pass 30 60 rfl rfl (by kernel_rfl) (fun _ _ _ h => h) rfl (HS.out) ?_
            go_frame
            refine Frm.wh_pass 31 61 rfl rfl (by kernel_rfl) (fun _ _ _ h => h) rfl (HS.out) ?_
            go_frame
            refine Frm.wh_pass 32 62 rfl rfl (by kernel_rfl) (fun _ _ _ h => h) rfl (HS.out) ?_
            go_frame
            refine Frm.wh_pass 33 63 rfl rfl (by kernel_rfl) (fun _ _ _ h => h) rfl (HS.out) ?_
            go_frame
            refine Frm.wh_pass 34 64 rfl rfl (by kernel_rfl) (fun _ _ _ h => h) rfl (HS.out) ?_
            go_frame
            refine Frm.wh_pass 35 65 rfl rfl (by kernel_rfl) (fun _ _ _ h => h) rfl (HS.out) ?_
            go_frame
            refine Frm.wh_pass 36 66 rfl rfl (by kernel_rfl) (fun _ _ _ h => h) rfl (HS.out) ?_
            go_frame
            refine Frm.wh_pass 37 67 rfl rfl (by kernel_rfl) (fun _ _ _ h => h) rfl (HS.out) ?_
            go_frame
            refine Frm.wh_pass 38 68 rfl rfl (by kernel_rfl) (fun _ _ _ h => h) rfl (HS.out) ?_
            go_frame
            refine Frm.wh_pass 39 69 rfl rfl (by kernel_rfl) (fun _ _ _ h => h) rfl (HS.out) ?_
            go_frame
            refine Frm.wh_pass 40 70 rfl rfl (by kernel_rfl) (fun _ _ _ h => h) rfl (HS.out) ?_
            go_frame
            refine Frm.wh_pass 41 71 rfl rfl (by kernel_rfl) (fun _ _ _ h => h) rfl (HS.out) ?_
            go_frame
            refine Frm.wh_pass 42 72 rfl rfl (by kernel_rfl) (fun _ _ _ h => h) rfl (HS.out) ?_
            go_frame
            refine Frm.wh_pass 43 73 rfl rfl (by kernel_rfl) (fun _ _ _ h => h) rfl (HS.out) ?_
            go_frame
            refine Frm.wh_pass 44 74 rfl rfl (by kernel_rfl) (fun _ _ _ h => h) rfl (HS.out) ?_
            go_frame
            refine Frm.wh_pass 45 75 rfl rfl (by kernel_rfl) (fun _ _ _ h => h) rfl (HS.out) ?_
            go_frame
            refine Frm.wh_pass 46 76 rfl rfl (by kernel_rfl) (fun _ _ _ h => h) rfl (HS.out) ?_
            go_frame
            refine Frm.wh_pass 47 77 rfl rfl (by kernel_rfl) (fun _ _ _ h => h) rfl (HS.out) ?_
            go_frame
            refine Frm.wh_pass 48 78 rfl rfl (by kernel_rfl) (fun _ _ _ h => h) rfl (HS.out) ?_
            go_frame
            refine Frm.wh_pass 49 79 rfl rfl (by kernel_rfl) (fun _ _ _ h => h) rfl (HS.out) ?_
            go_frame
            refine Frm.wh_pass 50 80 rfl rfl (by kernel_rfl) (fun _ _ _ h => h) rfl (HS.out) ?_
            go_frame
            refine Frm.wh_pass 51 81 rfl rfl (by kernel_rfl) (fun _ _ _ h => h) rfl (HS.out) ?_
            go_frame
            refine Frm.wh_take 52 82 (.bool true) rfl rfl (by kernel_rfl) (fun _ _ _ h => h) rfl (HS.out) (fun w' hw' => ?_) ?_
            · go_simp
            go_frame
            refine Frm.wh_take 53 83 (.bool true) rfl rfl (by kernel_rfl) (fun _ _ _ h => h) rfl (HS.out) (fun w' hw' => ?_) ?_
            · exact rfl
            go_frame
            refine Frm.wh_pass 54 84 rfl rfl (by kernel_rfl) (fun _ _ _ h => h) rfl (HS.out) ?_
            go_frame
            refine Frm.wh_pass 55 85 rfl rfl (by kernel_rfl) (fun _ _ _ h => h) rfl (HS.out) ?_
            go_frame
            refine Frm.wh_pass 56 86 rfl rfl (by kernel_rfl) (fun _ _ _ h => h) rfl (HS.out) ?_
            go_frame
            refine Frm.wh_pass 57 87 rfl rfl (by kernel_rfl) (fun _ _ _ h => h) rfl (HS.out) ?_
            go_frame
            refine Frm.wh_pass 58 88 rfl rfl (by kernel_rfl) (fun _ _ _ h => h) rfl (HS.out) ?_
            go_frame
            refine Frm.wh_pass 59 89 rfl rfl (by kernel_rfl) (fun _ _ _ h => h) rfl (HS.out) ?_
            go_frame
            refine Frm.wh_take 60 90 (.bool true) rfl rfl (by kernel_rfl) (fun _ _ _ h => h) rfl (HS.out) (fun w' hw' => ?_) ?_
            · go_simp
            go_frame
            refine wpAnyH_done (by kernel_rfl) ?_ _
            go_wp2_with fail
            go_meet
            exact ⟨true, rfl, by rw [HX1.out]; simp [hB1, hG1], by rw [HX2.out]; simpa [hB1, hG1] using HJ2.out, HT2.out⟩
        | true =>
          cases hG2 : JourM.go (sy d1) with
          | false =>
            as_aux_lemma =>
              refine Frm.wh_take 0 30 (.pointer (some ⟨y, 0, none⟩)) rfl rfl (by kernel_rfl) (fun _ _ _ h => h) rfl (HS.out) (fun w' hw' => ?_) ?_
              · exact rfl
              go_frame
              refine Frm.wh_take 1 31 (.pointer (some ⟨y, 0, none⟩)) rfl rfl (by kernel_rfl) (fun _ _ _ h => h) rfl (HS.out) (fun w' hw' => ?_) ?_
              · exact rfl
              go_frame
              refine Frm.wh_take 2 32 (.pointer (some ⟨y, 0, none⟩)) rfl rfl (by kernel_rfl) (fun _ _ _ h => h) rfl (HS.out) (fun w' hw' => ?_) ?_
              · go_simp
              go_frame
              refine Frm.wh_take 3 33 (.pointer (some ⟨y, 1, none⟩)) rfl rfl (by kernel_rfl) (fun _ _ _ h => h) rfl (HS.out) (fun w' hw' => ?_) ?_
              · go_simp
              go_frame
              refine Frm.wh_take 4 34 (.int .i64 jr.gen) rfl rfl (by kernel_rfl) (fun _ _ _ h => h) rfl (HS.out) (fun w' hw' => ?_) ?_
              · have h1 := yc1 hw'
                go_simp
              go_frame
              refine Frm.wh_take 5 35 (.int .i64 (takes jr.gs)) rfl rfl (by kernel_rfl) (fun _ _ _ h => h) rfl (HS.out) (fun w' hw' => ?_) ?_
              · exact rfl
              go_frame
              refine Frm.wh_take 6 36 (.pointer (some ⟨y, 0, none⟩)) rfl rfl (by kernel_rfl) (fun _ _ _ h => h) rfl (HS.out) (fun w' hw' => ?_) ?_
              · exact rfl
              go_frame
              refine Frm.wh_take 7 37 (.pointer (some ⟨y, 0, none⟩)) rfl rfl (by kernel_rfl) (fun _ _ _ h => h) rfl (HS.out) (fun w' hw' => ?_) ?_
              · go_simp
              go_frame
              refine Frm.wh_take 8 38 (.pointer (some ⟨y, 2, none⟩)) rfl rfl (by kernel_rfl) (fun _ _ _ h => h) rfl (HS.out) (fun w' hw' => ?_) ?_
              · go_simp
              go_frame
              refine Frm.wh_take 9 39 (.slice Aj jr.gs.length cj) rfl rfl (by kernel_rfl) (fun _ _ _ h => h) rfl (HS.out) (fun w' hw' => ?_) ?_
              · have h2 := yc2 hw'
                go_simp
              go_frame
              refine Frm.wh_take 10 40 (.int .i64 jr.gs.length) rfl rfl (by kernel_rfl) (fun _ _ _ h => h) rfl (HS.out) (fun w' hw' => ?_) ?_
              · go_simp
              go_frame
              refine Frm.wh_take 11 41 (.slice A n c) rfl rfl (by kernel_rfl) (fun _ _ _ h => h) rfl (HS.out) (fun w' hw' => ?_) ?_
              · exact rfl
              go_frame
              refine Frm.wh_call 12 42 69 #[.pointer (some ⟨y, 0, none⟩), .int .i64 jr.gen, .int .i64 (takes jr.gs), .int .i64 jr.gs.length, .slice A n c, .bool false, .bool true] rfl rfl (by kernel_rfl) rfl ?_ ?_
              · go_simp
              refine (HWR.out).mono ?_
              rintro e w1 ⟨rfl, hj1, ht1⟩
              have HJ1 := Lib.hid hj1
              have HT1 := Lib.hid (HT0.out.trans (ht1.more (by simp)))
              have HS := Lib.hid ((ht1.block y HJ0.out.ylt (fun hm => HJ0.out.yout (List.mem_append_left _ hm))).trans HS.out)
              clear hj1 ht1
              have HSY := Lib.hid (rsync_any w1 (y :: S) r bs bw d1 HJ1.out.disk)
              rw [hG1] at HSY
              unfold ptr at HSY
              refine ⟨_, rfl, HS.out, ?_⟩
              go_frame
              refine Frm.wh_take 13 43 (.bool false) rfl rfl (by kernel_rfl) (fun _ _ _ h => h) rfl (HS.out) (fun w' hw' => ?_) ?_
              · go_simp
              go_frame
              refine Frm.wh_take 14 44 (.bool false) rfl rfl (by kernel_rfl) (fun _ _ _ h => h) rfl (HS.out) (fun w' hw' => ?_) ?_
              · exact rfl
              go_frame
              refine Frm.wh_take 15 45 (.pointer (some ⟨y, 0, none⟩)) rfl rfl (by kernel_rfl) (fun _ _ _ h => h) rfl (HS.out) (fun w' hw' => ?_) ?_
              · exact rfl
              go_frame
              refine Frm.wh_take 16 46 (.pointer (some ⟨y, 0, none⟩)) rfl rfl (by kernel_rfl) (fun _ _ _ h => h) rfl (HS.out) (fun w' hw' => ?_) ?_
              · go_simp
              go_frame
              refine Frm.wh_take 17 47 (.pointer (some ⟨y, 0, none⟩)) rfl rfl (by kernel_rfl) (fun _ _ _ h => h) rfl (HS.out) (fun w' hw' => ?_) ?_
              · go_simp
              go_frame
              refine Frm.wh_take 18 48 (.pointer (some ⟨r, 0, none⟩)) rfl rfl (by kernel_rfl) (fun _ _ _ h => h) rfl (HS.out) (fun w' hw' => ?_) ?_
              · have h0 := yc0 hw'
                go_simp
              go_frame
              refine Frm.wh_call 19 49 61 #[.pointer (some ⟨r, 0, none⟩)] rfl rfl (by kernel_rfl) rfl ?_ ?_
              · go_simp
              refine (HSY.out).mono ?_
              rintro e w2 ⟨rfl, hr2, ht2⟩
              have HJ2 := Lib.hid (HJ1.out.disked hr2 ht2 (sy_n d1))
              have HT2 := Lib.hid (HT1.out.trans (ht2.more (by simp)))
              have HS := Lib.hid ((ht2.block y HJ1.out.ylt (fun hm => HJ1.out.yout (List.mem_append_left _ hm))).trans HS.out)
              clear hr2 ht2
              have HF := Lib.hid (first_any w2 (y :: S) r bs bw (sy d1) jr.gen HJ2.out.disk (by have := HJ2.out.n8; omega))
              rw [HN2.out] at HF
              unfold ptr at HF
              have HB2 := Lib.hid (HBB.out.turn HT2.out (fun q hq => .inl hq))
              have HMC := Lib.hid (rmark_any w2 jr.gen jr.gs.length w2.heap.size n c A b HB2.out.byts (Nat.le_refl _) HNM.out)
              refine ⟨_, rfl, HS.out, ?_⟩
              go_frame
              refine Frm.wh_take 20 50 (.bool false) rfl rfl (by kernel_rfl) (fun _ _ _ h => h) rfl (HS.out) (fun w' hw' => ?_) ?_
              · have hz1 := err_true
                have hz2 := err_false
                go_simp
              go_frame
              refine Frm.wh_take 21 51 (.bool false) rfl rfl (by kernel_rfl) (fun _ _ _ h => h) rfl (HS.out) (fun w' hw' => ?_) ?_
              · go_simp
              go_frame
              refine Frm.wh_take 22 52 (.bool false) rfl rfl (by kernel_rfl) (fun _ _ _ h => h) rfl (HS.out) (fun w' hw' => ?_) ?_
              · exact rfl
              go_frame
              refine Frm.wh_take 23 53 (.pointer (some ⟨y, 0, none⟩)) rfl rfl (by kernel_rfl) (fun _ _ _ h => h) rfl (HS.out) (fun w' hw' => ?_) ?_
              · exact rfl
              go_frame
              refine Frm.wh_take 24 54 (.pointer (some ⟨y, 0, none⟩)) rfl rfl (by kernel_rfl) (fun _ _ _ h => h) rfl (HS.out) (fun w' hw' => ?_) ?_
              · go_simp
              go_frame
              refine Frm.wh_take 25 55 (.pointer (some ⟨y, 0, none⟩)) rfl rfl (by kernel_rfl) (fun _ _ _ h => h) rfl (HS.out) (fun w' hw' => ?_) ?_
              · go_simp
              go_frame
              refine Frm.wh_take 26 56 (.pointer (some ⟨r, 0, none⟩)) rfl rfl (by kernel_rfl) (fun _ _ _ h => h) rfl (HS.out) (fun w' hw' => ?_) ?_
              · have h0 := yc0 hw'
                go_simp
              go_frame
              refine Frm.wh_take 27 57 (.pointer (some ⟨y, 0, none⟩)) rfl rfl (by kernel_rfl) (fun _ _ _ h => h) rfl (HS.out) (fun w' hw' => ?_) ?_
              · exact rfl
              go_frame
              refine Frm.wh_take 28 58 (.pointer (some ⟨y, 0, none⟩)) rfl rfl (by kernel_rfl) (fun _ _ _ h => h) rfl (HS.out) (fun w' hw' => ?_) ?_
              · go_simp
              go_frame
              refine Frm.wh_take 29 59 (.pointer (some ⟨y, 0, none⟩)) rfl rfl (by kernel_rfl) (fun _ _ _ h => h) rfl (HS.out) (fun w' hw' => ?_) ?_
              · go_simp
              go_frame
              refine Frm.wh_take 30 60 (.pointer (some ⟨r, 0, none⟩)) rfl rfl (by kernel_rfl) (fun _ _ _ h => h) rfl (HS.out) (fun w' hw' => ?_) ?_
              · have h0 := yc0 hw'
                go_simp
              go_frame
              refine Frm.wh_take 31 61 (.pointer (some ⟨y, 0, none⟩)) rfl rfl (by kernel_rfl) (fun _ _ _ h => h) rfl (HS.out) (fun w' hw' => ?_) ?_
              · exact rfl
              go_frame
              refine Frm.wh_take 32 62 (.pointer (some ⟨y, 0, none⟩)) rfl rfl (by kernel_rfl) (fun _ _ _ h => h) rfl (HS.out) (fun w' hw' => ?_) ?_
              · go_simp
              go_frame
              refine Frm.wh_take 33 63 (.pointer (some ⟨y, 1, none⟩)) rfl rfl (by kernel_rfl) (fun _ _ _ h => h) rfl (HS.out) (fun w' hw' => ?_) ?_
              · go_simp
              go_frame
              refine Frm.wh_take 34 64 (.int .i64 jr.gen) rfl rfl (by kernel_rfl) (fun _ _ _ h => h) rfl (HS.out) (fun w' hw' => ?_) ?_
              · have h1 := yc1 hw'
                go_simp
              go_frame
              refine Frm.wh_take 36 66 (.int .i64 (takes jr.gs)) rfl rfl (by kernel_rfl) (fun _ _ _ h => h) rfl (HS.out) (fun w' hw' => ?_) ?_
              · exact rfl
              go_frame
              refine Frm.wh_take 38 68 (.pointer (some ⟨y, 0, none⟩)) rfl rfl (by kernel_rfl) (fun _ _ _ h => h) rfl (HS.out) (fun w' hw' => ?_) ?_
              · exact rfl
              go_frame
              refine Frm.wh_take 39 69 (.pointer (some ⟨y, 0, none⟩)) rfl rfl (by kernel_rfl) (fun _ _ _ h => h) rfl (HS.out) (fun w' hw' => ?_) ?_
              · go_simp
              go_frame
              refine Frm.wh_take 40 70 (.pointer (some ⟨y, 1, none⟩)) rfl rfl (by kernel_rfl) (fun _ _ _ h => h) rfl (HS.out) (fun w' hw' => ?_) ?_
              · go_simp
              go_frame
              refine Frm.wh_take 41 71 (.int .i64 jr.gen) rfl rfl (by kernel_rfl) (fun _ _ _ h => h) rfl (HS.out) (fun w' hw' => ?_) ?_
              · have h1 := yc1 hw'
                go_simp
              go_frame
              refine Frm.wh_take 42 72 (.pointer (some ⟨y, 0, none⟩)) rfl rfl (by kernel_rfl) (fun _ _ _ h => h) rfl (HS.out) (fun w' hw' => ?_) ?_
              · exact rfl
              go_frame
              refine Frm.wh_take 43 73 (.pointer (some ⟨y, 0, none⟩)) rfl rfl (by kernel_rfl) (fun _ _ _ h => h) rfl (HS.out) (fun w' hw' => ?_) ?_
              · go_simp
              go_frame
              refine Frm.wh_take 44 74 (.pointer (some ⟨y, 2, none⟩)) rfl rfl (by kernel_rfl) (fun _ _ _ h => h) rfl (HS.out) (fun w' hw' => ?_) ?_
              · go_simp
              go_frame
              refine Frm.wh_take 45 75 (.slice Aj jr.gs.length cj) rfl rfl (by kernel_rfl) (fun _ _ _ h => h) rfl (HS.out) (fun w' hw' => ?_) ?_
              · have h2 := yc2 hw'
                go_simp
              go_frame
              refine Frm.wh_take 46 76 (.int .i64 jr.gs.length) rfl rfl (by kernel_rfl) (fun _ _ _ h => h) rfl (HS.out) (fun w' hw' => ?_) ?_
              · go_simp
              go_frame
              refine Frm.wh_take 47 77 (.slice A n c) rfl rfl (by kernel_rfl) (fun _ _ _ h => h) rfl (HS.out) (fun w' hw' => ?_) ?_
              · exact rfl
              go_frame
              refine Frm.wh_call 35 65 60 #[.pointer (some ⟨r, 0, none⟩), .int .i64 jr.gen] rfl rfl (by kernel_rfl) rfl ?_ ?_
              · go_simp
              refine (HF.out).mono ?_
              rintro e u ⟨rfl, rfl⟩
              refine ⟨_, rfl, HS.out, ?_⟩
              go_frame
              refine Frm.wh_take 37 67 (.int .i64 P) rfl rfl (by kernel_rfl) (fun _ _ _ h => h) rfl (HS.out) (fun w' hw' => ?_) ?_
              · go_simp
              go_frame
              refine Frm.wh_call 48 78 70 #[.int .i64 jr.gen, .int .i64 jr.gs.length, .slice A n c] rfl rfl (by kernel_rfl) rfl ?_ ?_
              · go_simp
              refine (HMC.out).mono ?_
              rintro e w3 ⟨rfl, hb3⟩
              have HS := Lib.hid ((hb3.block y HJ2.out.ylt).trans HS.out)
              have HJ3 := Lib.hid (HJ2.out.below hb3)
              have HT3 := Lib.hid (HT2.out.below hb3)
              clear hb3
              refine ⟨_, rfl, HS.out, ?_⟩
              go_frame
              refine Frm.wh_call 49 79 62 #[Frm.mkV (markM jr.gen jr.gs.length b)] rfl rfl (by kernel_rfl) rfl ?_ ?_
              · go_simp
              refine (Frm.rput_any (markM jr.gen jr.gs.length b) w3).mono ?_
              rintro e w4 ⟨A4, c4, rfl, hy4, hb4, hc4, hm4, ha4⟩
              rw [HML.out] at hy4 hc4 ⊢
              have HS := Lib.hid ((hb4.block y HJ3.out.ylt).trans HS.out)
              have HJ4 := Lib.hid (HJ3.out.below hb4)
              have HT4 := Lib.hid (HT3.out.below hb4)
              have HX4 : Hid (Bts w4 [r, bs, bw] A4 64 (put (markM jr.gen jr.gs.length b))) := Lib.hid (Bts.above hy4 ha4 (fun q hq => HJ3.out.disk.lows q hq))
              have HWC := Lib.hid (rwrite_any w4 (y :: S) r bs bw (sy d1) P c4 A4 (put (markM jr.gen jr.gs.length b)) HJ4.out.disk HPY.out HX4.out (fun q hq => Nat.lt_of_lt_of_le (HSS.out q hq) HT4.out.size))
              rw [hG2] at HWC
              unfold ptr at HWC
              clear hy4 hb4 hc4 hm4 ha4
              refine ⟨_, rfl, HS.out, ?_⟩
              go_frame
              refine Frm.wh_call 50 80 59 #[.pointer (some ⟨r, 0, none⟩), .int .i64 P, .slice A4 64 c4] rfl rfl (by kernel_rfl) rfl ?_ ?_
              · go_simp
              refine (HWC.out).mono ?_
              rintro e w5 ⟨rfl, hr5, ht5⟩
              have HJ5 := Lib.hid (HJ4.out.disked hr5 ht5 (wr_n (sy d1) P _))
              have HT5 := Lib.hid (HT4.out.trans (ht5.more (by simp)))
              have HS := Lib.hid ((ht5.block y HJ4.out.ylt (fun hm => HJ4.out.yout (List.mem_append_left _ hm))).trans HS.out)
              clear hr5 ht5
              refine ⟨_, rfl, HS.out, ?_⟩
              go_frame
              refine Frm.wh_take 51 81 (.bool true) rfl rfl (by kernel_rfl) (fun _ _ _ h => h) rfl (HS.out) (fun w' hw' => ?_) ?_
              · have hz1 := err_true
                have hz2 := err_false
                go_simp
              go_frame
              refine Frm.wh_take 52 82 (.bool true) rfl rfl (by kernel_rfl) (fun _ _ _ h => h) rfl (HS.out) (fun w' hw' => ?_) ?_
              · go_simp
              go_frame
              refine Frm.wh_take 53 83 (.bool true) rfl rfl (by kernel_rfl) (fun _ _ _ h => h) rfl (HS.out) (fun w' hw' => ?_) ?_
              · exact rfl
              go_frame
              refine Frm.wh_pass 54 84 rfl rfl (by kernel_rfl) (fun _ _ _ h => h) rfl (HS.out) ?_
              go_frame
              refine Frm.wh_pass 55 85 rfl rfl (by kernel_rfl) (fun _ _ _ h => h) rfl (HS.out) ?_
              go_frame
              refine Frm.wh_pass 56 86 rfl rfl (by kernel_rfl) (fun _ _ _ h => h) rfl (HS.out) ?_
              go_frame
              refine Frm.wh_pass 57 87 rfl rfl (by kernel_rfl) (fun _ _ _ h => h) rfl (HS.out) ?_
              go_frame
              refine Frm.wh_pass 58 88 rfl rfl (by kernel_rfl) (fun _ _ _ h => h) rfl (HS.out) ?_
              go_frame
              refine Frm.wh_pass 59 89 rfl rfl (by kernel_rfl) (fun _ _ _ h => h) rfl (HS.out) ?_
              go_frame
              refine Frm.wh_take 60 90 (.bool true) rfl rfl (by kernel_rfl) (fun _ _ _ h => h) rfl (HS.out) (fun w' hw' => ?_) ?_
              · go_simp
              go_frame
              refine wpAnyH_done (by kernel_rfl) ?_ _
              go_wp2_with fail
              go_meet
              exact ⟨true, rfl, by rw [HX1.out]; simp [hB1, hG1, hG2], by rw [HX2.out]; simpa [hB1, hG1, hG2] using HJ5.out, HT5.out⟩
          | true =>
            cases hG3 : JourM.go (JourM.wr (sy d1) P (put (markM jr.gen jr.gs.length b))) with
            | false =>
              as_aux_lemma =>
                refine Frm.wh_take 0 30 (.pointer (some ⟨y, 0, none⟩)) rfl rfl (by kernel_rfl) (fun _ _ _ h => h) rfl (HS.out) (fun w' hw' => ?_) ?_
                · exact rfl
                go_frame
                refine Frm.wh_take 1 31 (.pointer (some ⟨y, 0, none⟩)) rfl rfl (by kernel_rfl) (fun _ _ _ h => h) rfl (HS.out) (fun w' hw' => ?_) ?_
                · exact rfl
                go_frame
                refine Frm.wh_take 2 32 (.pointer (some ⟨y, 0, none⟩)) rfl rfl (by kernel_rfl) (fun _ _ _ h => h) rfl (HS.out) (fun w' hw' => ?_) ?_
                · go_simp
                go_frame
                refine Frm.wh_take 3 33 (.pointer (some ⟨y, 1, none⟩)) rfl rfl (by kernel_rfl) (fun _ _ _ h => h) rfl (HS.out) (fun w' hw' => ?_) ?_
                · go_simp
                go_frame
                refine Frm.wh_take 4 34 (.int .i64 jr.gen) rfl rfl (by kernel_rfl) (fun _ _ _ h => h) rfl (HS.out) (fun w' hw' => ?_) ?_
                · have h1 := yc1 hw'
                  go_simp
                go_frame
                refine Frm.wh_take 5 35 (.int .i64 (takes jr.gs)) rfl rfl (by kernel_rfl) (fun _ _ _ h => h) rfl (HS.out) (fun w' hw' => ?_) ?_
                · exact rfl
                go_frame
                refine Frm.wh_take 6 36 (.pointer (some ⟨y, 0, none⟩)) rfl rfl (by kernel_rfl) (fun _ _ _ h => h) rfl (HS.out) (fun w' hw' => ?_) ?_
                · exact rfl
                go_frame
                refine Frm.wh_take 7 37 (.pointer (some ⟨y, 0, none⟩)) rfl rfl (by kernel_rfl) (fun _ _ _ h => h) rfl (HS.out) (fun w' hw' => ?_) ?_
                · go_simp
                go_frame
                refine Frm.wh_take 8 38 (.pointer (some ⟨y, 2, none⟩)) rfl rfl (by kernel_rfl) (fun _ _ _ h => h) rfl (HS.out) (fun w' hw' => ?_) ?_
                · go_simp
                go_frame
                refine Frm.wh_take 9 39 (.slice Aj jr.gs.length cj) rfl rfl (by kernel_rfl) (fun _ _ _ h => h) rfl (HS.out) (fun w' hw' => ?_) ?_
                · have h2 := yc2 hw'
                  go_simp
                go_frame
                refine Frm.wh_take 10 40 (.int .i64 jr.gs.length) rfl rfl (by kernel_rfl) (fun _ _ _ h => h) rfl (HS.out) (fun w' hw' => ?_) ?_
                · go_simp
                go_frame
                refine Frm.wh_take 11 41 (.slice A n c) rfl rfl (by kernel_rfl) (fun _ _ _ h => h) rfl (HS.out) (fun w' hw' => ?_) ?_
                · exact rfl
                go_frame
                refine Frm.wh_call 12 42 69 #[.pointer (some ⟨y, 0, none⟩), .int .i64 jr.gen, .int .i64 (takes jr.gs), .int .i64 jr.gs.length, .slice A n c, .bool false, .bool true] rfl rfl (by kernel_rfl) rfl ?_ ?_
                · go_simp
                refine (HWR.out).mono ?_
                rintro e w1 ⟨rfl, hj1, ht1⟩
                have HJ1 := Lib.hid hj1
                have HT1 := Lib.hid (HT0.out.trans (ht1.more (by simp)))
                have HS := Lib.hid ((ht1.block y HJ0.out.ylt (fun hm => HJ0.out.yout (List.mem_append_left _ hm))).trans HS.out)
                clear hj1 ht1
                have HSY := Lib.hid (rsync_any w1 (y :: S) r bs bw d1 HJ1.out.disk)
                rw [hG1] at HSY
                unfold ptr at HSY
                refine ⟨_, rfl, HS.out, ?_⟩
                go_frame
                refine Frm.wh_take 13 43 (.bool false) rfl rfl (by kernel_rfl) (fun _ _ _ h => h) rfl (HS.out) (fun w' hw' => ?_) ?_
                · go_simp
                go_frame
                refine Frm.wh_take 14 44 (.bool false) rfl rfl (by kernel_rfl) (fun _ _ _ h => h) rfl (HS.out) (fun w' hw' => ?_) ?_
                · exact rfl
                go_frame
                refine Frm.wh_take 15 45 (.pointer (some ⟨y, 0, none⟩)) rfl rfl (by kernel_rfl) (fun _ _ _ h => h) rfl (HS.out) (fun w' hw' => ?_) ?_
                · exact rfl
                go_frame
                refine Frm.wh_take 16 46 (.pointer (some ⟨y, 0, none⟩)) rfl rfl (by kernel_rfl) (fun _ _ _ h => h) rfl (HS.out) (fun w' hw' => ?_) ?_
                · go_simp
                go_frame
                refine Frm.wh_take 17 47 (.pointer (some ⟨y, 0, none⟩)) rfl rfl (by kernel_rfl) (fun _ _ _ h => h) rfl (HS.out) (fun w' hw' => ?_) ?_
                · go_simp
                go_frame
                refine Frm.wh_take 18 48 (.pointer (some ⟨r, 0, none⟩)) rfl rfl (by kernel_rfl) (fun _ _ _ h => h) rfl (HS.out) (fun w' hw' => ?_) ?_
                · have h0 := yc0 hw'
                  go_simp
                go_frame
                refine Frm.wh_call 19 49 61 #[.pointer (some ⟨r, 0, none⟩)] rfl rfl (by kernel_rfl) rfl ?_ ?_
                · go_simp
                refine (HSY.out).mono ?_
                rintro e w2 ⟨rfl, hr2, ht2⟩
                have HJ2 := Lib.hid (HJ1.out.disked hr2 ht2 (sy_n d1))
                have HT2 := Lib.hid (HT1.out.trans (ht2.more (by simp)))
                have HS := Lib.hid ((ht2.block y HJ1.out.ylt (fun hm => HJ1.out.yout (List.mem_append_left _ hm))).trans HS.out)
                clear hr2 ht2
                have HF := Lib.hid (first_any w2 (y :: S) r bs bw (sy d1) jr.gen HJ2.out.disk (by have := HJ2.out.n8; omega))
                rw [HN2.out] at HF
                unfold ptr at HF
                have HB2 := Lib.hid (HBB.out.turn HT2.out (fun q hq => .inl hq))
                have HMC := Lib.hid (rmark_any w2 jr.gen jr.gs.length w2.heap.size n c A b HB2.out.byts (Nat.le_refl _) HNM.out)
                refine ⟨_, rfl, HS.out, ?_⟩
                go_frame
                refine Frm.wh_take 20 50 (.bool false) rfl rfl (by kernel_rfl) (fun _ _ _ h => h) rfl (HS.out) (fun w' hw' => ?_) ?_
                · have hz1 := err_true
                  have hz2 := err_false
                  go_simp
                go_frame
                refine Frm.wh_take 21 51 (.bool false) rfl rfl (by kernel_rfl) (fun _ _ _ h => h) rfl (HS.out) (fun w' hw' => ?_) ?_
                · go_simp
                go_frame
                refine Frm.wh_take 22 52 (.bool false) rfl rfl (by kernel_rfl) (fun _ _ _ h => h) rfl (HS.out) (fun w' hw' => ?_) ?_
                · exact rfl
                go_frame
                refine Frm.wh_take 23 53 (.pointer (some ⟨y, 0, none⟩)) rfl rfl (by kernel_rfl) (fun _ _ _ h => h) rfl (HS.out) (fun w' hw' => ?_) ?_
                · exact rfl
                go_frame
                refine Frm.wh_take 24 54 (.pointer (some ⟨y, 0, none⟩)) rfl rfl (by kernel_rfl) (fun _ _ _ h => h) rfl (HS.out) (fun w' hw' => ?_) ?_
                · go_simp
                go_frame
                refine Frm.wh_take 25 55 (.pointer (some ⟨y, 0, none⟩)) rfl rfl (by kernel_rfl) (fun _ _ _ h => h) rfl (HS.out) (fun w' hw' => ?_) ?_
                · go_simp
                go_frame
                refine Frm.wh_take 26 56 (.pointer (some ⟨r, 0, none⟩)) rfl rfl (by kernel_rfl) (fun _ _ _ h => h) rfl (HS.out) (fun w' hw' => ?_) ?_
                · have h0 := yc0 hw'
                  go_simp
                go_frame
                refine Frm.wh_take 27 57 (.pointer (some ⟨y, 0, none⟩)) rfl rfl (by kernel_rfl) (fun _ _ _ h => h) rfl (HS.out) (fun w' hw' => ?_) ?_
                · exact rfl
                go_frame
                refine Frm.wh_take 28 58 (.pointer (some ⟨y, 0, none⟩)) rfl rfl (by kernel_rfl) (fun _ _ _ h => h) rfl (HS.out) (fun w' hw' => ?_) ?_
                · go_simp
                go_frame
                refine Frm.wh_take 29 59 (.pointer (some ⟨y, 0, none⟩)) rfl rfl (by kernel_rfl) (fun _ _ _ h => h) rfl (HS.out) (fun w' hw' => ?_) ?_
                · go_simp
                go_frame
                refine Frm.wh_take 30 60 (.pointer (some ⟨r, 0, none⟩)) rfl rfl (by kernel_rfl) (fun _ _ _ h => h) rfl (HS.out) (fun w' hw' => ?_) ?_
                · have h0 := yc0 hw'
                  go_simp
                go_frame
                refine Frm.wh_take 31 61 (.pointer (some ⟨y, 0, none⟩)) rfl rfl (by kernel_rfl) (fun _ _ _ h => h) rfl (HS.out) (fun w' hw' => ?_) ?_
                · exact rfl
                go_frame
                refine Frm.wh_take 32 62 (.pointer (some ⟨y, 0, none⟩)) rfl rfl (by kernel_rfl) (fun _ _ _ h => h) rfl (HS.out) (fun w' hw' => ?_) ?_
                · go_simp
                go_frame
                refine Frm.wh_take 33 63 (.pointer (some ⟨y, 1, none⟩)) rfl rfl (by kernel_rfl) (fun _ _ _ h => h) rfl (HS.out) (fun w' hw' => ?_) ?_
                · go_simp
                go_frame
                refine Frm.wh_take 34 64 (.int .i64 jr.gen) rfl rfl (by kernel_rfl) (fun _ _ _ h => h) rfl (HS.out) (fun w' hw' => ?_) ?_
                · have h1 := yc1 hw'
                  go_simp
                go_frame
                refine Frm.wh_take 36 66 (.int .i64 (takes jr.gs)) rfl rfl (by kernel_rfl) (fun _ _ _ h => h) rfl (HS.out) (fun w' hw' => ?_) ?_
                · exact rfl
                go_frame
                refine Frm.wh_take 38 68 (.pointer (some ⟨y, 0, none⟩)) rfl rfl (by kernel_rfl) (fun _ _ _ h => h) rfl (HS.out) (fun w' hw' => ?_) ?_
                · exact rfl
                go_frame
                refine Frm.wh_take 39 69 (.pointer (some ⟨y, 0, none⟩)) rfl rfl (by kernel_rfl) (fun _ _ _ h => h) rfl (HS.out) (fun w' hw' => ?_) ?_
                · go_simp
                go_frame
                refine Frm.wh_take 40 70 (.pointer (some ⟨y, 1, none⟩)) rfl rfl (by kernel_rfl) (fun _ _ _ h => h) rfl (HS.out) (fun w' hw' => ?_) ?_
                · go_simp
                go_frame
                refine Frm.wh_take 41 71 (.int .i64 jr.gen) rfl rfl (by kernel_rfl) (fun _ _ _ h => h) rfl (HS.out) (fun w' hw' => ?_) ?_
                · have h1 := yc1 hw'
                  go_simp
                go_frame
                refine Frm.wh_take 42 72 (.pointer (some ⟨y, 0, none⟩)) rfl rfl (by kernel_rfl) (fun _ _ _ h => h) rfl (HS.out) (fun w' hw' => ?_) ?_
                · exact rfl
                go_frame
                refine Frm.wh_take 43 73 (.pointer (some ⟨y, 0, none⟩)) rfl rfl (by kernel_rfl) (fun _ _ _ h => h) rfl (HS.out) (fun w' hw' => ?_) ?_
                · go_simp
                go_frame
                refine Frm.wh_take 44 74 (.pointer (some ⟨y, 2, none⟩)) rfl rfl (by kernel_rfl) (fun _ _ _ h => h) rfl (HS.out) (fun w' hw' => ?_) ?_
                · go_simp
                go_frame
                refine Frm.wh_take 45 75 (.slice Aj jr.gs.length cj) rfl rfl (by kernel_rfl) (fun _ _ _ h => h) rfl (HS.out) (fun w' hw' => ?_) ?_
                · have h2 := yc2 hw'
                  go_simp
                go_frame
                refine Frm.wh_take 46 76 (.int .i64 jr.gs.length) rfl rfl (by kernel_rfl) (fun _ _ _ h => h) rfl (HS.out) (fun w' hw' => ?_) ?_
                · go_simp
                go_frame
                refine Frm.wh_take 47 77 (.slice A n c) rfl rfl (by kernel_rfl) (fun _ _ _ h => h) rfl (HS.out) (fun w' hw' => ?_) ?_
                · exact rfl
                go_frame
                refine Frm.wh_call 35 65 60 #[.pointer (some ⟨r, 0, none⟩), .int .i64 jr.gen] rfl rfl (by kernel_rfl) rfl ?_ ?_
                · go_simp
                refine (HF.out).mono ?_
                rintro e u ⟨rfl, rfl⟩
                refine ⟨_, rfl, HS.out, ?_⟩
                go_frame
                refine Frm.wh_take 37 67 (.int .i64 P) rfl rfl (by kernel_rfl) (fun _ _ _ h => h) rfl (HS.out) (fun w' hw' => ?_) ?_
                · go_simp
                go_frame
                refine Frm.wh_call 48 78 70 #[.int .i64 jr.gen, .int .i64 jr.gs.length, .slice A n c] rfl rfl (by kernel_rfl) rfl ?_ ?_
                · go_simp
                refine (HMC.out).mono ?_
                rintro e w3 ⟨rfl, hb3⟩
                have HS := Lib.hid ((hb3.block y HJ2.out.ylt).trans HS.out)
                have HJ3 := Lib.hid (HJ2.out.below hb3)
                have HT3 := Lib.hid (HT2.out.below hb3)
                clear hb3
                refine ⟨_, rfl, HS.out, ?_⟩
                go_frame
                refine Frm.wh_call 49 79 62 #[Frm.mkV (markM jr.gen jr.gs.length b)] rfl rfl (by kernel_rfl) rfl ?_ ?_
                · go_simp
                refine (Frm.rput_any (markM jr.gen jr.gs.length b) w3).mono ?_
                rintro e w4 ⟨A4, c4, rfl, hy4, hb4, hc4, hm4, ha4⟩
                rw [HML.out] at hy4 hc4 ⊢
                have HS := Lib.hid ((hb4.block y HJ3.out.ylt).trans HS.out)
                have HJ4 := Lib.hid (HJ3.out.below hb4)
                have HT4 := Lib.hid (HT3.out.below hb4)
                have HX4 : Hid (Bts w4 [r, bs, bw] A4 64 (put (markM jr.gen jr.gs.length b))) := Lib.hid (Bts.above hy4 ha4 (fun q hq => HJ3.out.disk.lows q hq))
                have HWC := Lib.hid (rwrite_any w4 (y :: S) r bs bw (sy d1) P c4 A4 (put (markM jr.gen jr.gs.length b)) HJ4.out.disk HPY.out HX4.out (fun q hq => Nat.lt_of_lt_of_le (HSS.out q hq) HT4.out.size))
                rw [hG2] at HWC
                unfold ptr at HWC
                clear hy4 hb4 hc4 hm4 ha4
                refine ⟨_, rfl, HS.out, ?_⟩
                go_frame
                refine Frm.wh_call 50 80 59 #[.pointer (some ⟨r, 0, none⟩), .int .i64 P, .slice A4 64 c4] rfl rfl (by kernel_rfl) rfl ?_ ?_
                · go_simp
                refine (HWC.out).mono ?_
                rintro e w5 ⟨rfl, hr5, ht5⟩
                have HJ5 := Lib.hid (HJ4.out.disked hr5 ht5 (wr_n (sy d1) P _))
                have HT5 := Lib.hid (HT4.out.trans (ht5.more (by simp)))
                have HS := Lib.hid ((ht5.block y HJ4.out.ylt (fun hm => HJ4.out.yout (List.mem_append_left _ hm))).trans HS.out)
                clear hr5 ht5
                have HSZ := Lib.hid (rsync_any w5 (y :: S) r bs bw (JourM.wr (sy d1) P (put (markM jr.gen jr.gs.length b))) HJ5.out.disk)
                rw [hG3] at HSZ
                unfold ptr at HSZ
                refine ⟨_, rfl, HS.out, ?_⟩
                go_frame
                refine Frm.wh_take 51 81 (.bool false) rfl rfl (by kernel_rfl) (fun _ _ _ h => h) rfl (HS.out) (fun w' hw' => ?_) ?_
                · have hz1 := err_true
                  have hz2 := err_false
                  go_simp
                go_frame
                refine Frm.wh_take 52 82 (.bool false) rfl rfl (by kernel_rfl) (fun _ _ _ h => h) rfl (HS.out) (fun w' hw' => ?_) ?_
                · go_simp
                go_frame
                refine Frm.wh_take 53 83 (.bool false) rfl rfl (by kernel_rfl) (fun _ _ _ h => h) rfl (HS.out) (fun w' hw' => ?_) ?_
                · exact rfl
                go_frame
                refine Frm.wh_take 54 84 (.pointer (some ⟨y, 0, none⟩)) rfl rfl (by kernel_rfl) (fun _ _ _ h => h) rfl (HS.out) (fun w' hw' => ?_) ?_
                · exact rfl
                go_frame
                refine Frm.wh_take 55 85 (.pointer (some ⟨y, 0, none⟩)) rfl rfl (by kernel_rfl) (fun _ _ _ h => h) rfl (HS.out) (fun w' hw' => ?_) ?_
                · go_simp
                go_frame
                refine Frm.wh_take 56 86 (.pointer (some ⟨y, 0, none⟩)) rfl rfl (by kernel_rfl) (fun _ _ _ h => h) rfl (HS.out) (fun w' hw' => ?_) ?_
                · go_simp
                go_frame
                refine Frm.wh_take 57 87 (.pointer (some ⟨r, 0, none⟩)) rfl rfl (by kernel_rfl) (fun _ _ _ h => h) rfl (HS.out) (fun w' hw' => ?_) ?_
                · have h0 := yc0 hw'
                  go_simp
                go_frame
                refine Frm.wh_call 58 88 61 #[.pointer (some ⟨r, 0, none⟩)] rfl rfl (by kernel_rfl) rfl ?_ ?_
                · go_simp
                refine (HSZ.out).mono ?_
                rintro e w6 ⟨rfl, hr6, ht6⟩
                have HJ6 := Lib.hid (HJ5.out.disked hr6 ht6 (sy_n _))
                have HT6 := Lib.hid (HT5.out.trans (ht6.more (by simp)))
                have HS := Lib.hid ((ht6.block y HJ5.out.ylt (fun hm => HJ5.out.yout (List.mem_append_left _ hm))).trans HS.out)
                clear hr6 ht6
                refine ⟨_, rfl, HS.out, ?_⟩
                go_frame
                refine Frm.wh_take 59 89 (.bool true) rfl rfl (by kernel_rfl) (fun _ _ _ h => h) rfl (HS.out) (fun w' hw' => ?_) ?_
                · have hz1 := err_true
                  have hz2 := err_false
                  go_simp
                go_frame
                refine Frm.wh_take 60 90 (.bool true) rfl rfl (by kernel_rfl) (fun _ _ _ h => h) rfl (HS.out) (fun w' hw' => ?_) ?_
                · go_simp
                go_frame
                refine wpAnyH_done (by kernel_rfl) ?_ _
                go_wp2_with fail
                go_meet
                exact ⟨true, rfl, by rw [HX1.out]; simp [hB1, hG1, hG2, hG3], by rw [HX2.out]; simpa [hB1, hG1, hG2] using HJ6.out, HT6.out⟩
            | true =>
              as_aux_lemma =>
                refine Frm.wh_take 0 30 (.pointer (some ⟨y, 0, none⟩)) rfl rfl (by kernel_rfl) (fun _ _ _ h => h) rfl (HS.out) (fun w' hw' => ?_) ?_
                · exact rfl
                go_frame
                refine Frm.wh_take 1 31 (.pointer (some ⟨y, 0, none⟩)) rfl rfl (by kernel_rfl) (fun _ _ _ h => h) rfl (HS.out) (fun w' hw' => ?_) ?_
                · exact rfl
                go_frame
                refine Frm.wh_take 2 32 (.pointer (some ⟨y, 0, none⟩)) rfl rfl (by kernel_rfl) (fun _ _ _ h => h) rfl (HS.out) (fun w' hw' => ?_) ?_
                · go_simp
                go_frame
                refine Frm.wh_take 3 33 (.pointer (some ⟨y, 1, none⟩)) rfl rfl (by kernel_rfl) (fun _ _ _ h => h) rfl (HS.out) (fun w' hw' => ?_) ?_
                · go_simp
                go_frame
                refine Frm.wh_take 4 34 (.int .i64 jr.gen) rfl rfl (by kernel_rfl) (fun _ _ _ h => h) rfl (HS.out) (fun w' hw' => ?_) ?_
                · have h1 := yc1 hw'
                  go_simp
                go_frame
                refine Frm.wh_take 5 35 (.int .i64 (takes jr.gs)) rfl rfl (by kernel_rfl) (fun _ _ _ h => h) rfl (HS.out) (fun w' hw' => ?_) ?_
                · exact rfl
                go_frame
                refine Frm.wh_take 6 36 (.pointer (some ⟨y, 0, none⟩)) rfl rfl (by kernel_rfl) (fun _ _ _ h => h) rfl (HS.out) (fun w' hw' => ?_) ?_
                · exact rfl
                go_frame
                refine Frm.wh_take 7 37 (.pointer (some ⟨y, 0, none⟩)) rfl rfl (by kernel_rfl) (fun _ _ _ h => h) rfl (HS.out) (fun w' hw' => ?_) ?_
                · go_simp
                go_frame
                refine Frm.wh_take 8 38 (.pointer (some ⟨y, 2, none⟩)) rfl rfl (by kernel_rfl) (fun _ _ _ h => h) rfl (HS.out) (fun w' hw' => ?_) ?_
                · go_simp
                go_frame
                refine Frm.wh_take 9 39 (.slice Aj jr.gs.length cj) rfl rfl (by kernel_rfl) (fun _ _ _ h => h) rfl (HS.out) (fun w' hw' => ?_) ?_
                · have h2 := yc2 hw'
                  go_simp
                go_frame
                refine Frm.wh_take 10 40 (.int .i64 jr.gs.length) rfl rfl (by kernel_rfl) (fun _ _ _ h => h) rfl (HS.out) (fun w' hw' => ?_) ?_
                · go_simp
                go_frame
                refine Frm.wh_take 11 41 (.slice A n c) rfl rfl (by kernel_rfl) (fun _ _ _ h => h) rfl (HS.out) (fun w' hw' => ?_) ?_
                · exact rfl
                go_frame
                refine Frm.wh_call 12 42 69 #[.pointer (some ⟨y, 0, none⟩), .int .i64 jr.gen, .int .i64 (takes jr.gs), .int .i64 jr.gs.length, .slice A n c, .bool false, .bool true] rfl rfl (by kernel_rfl) rfl ?_ ?_
                · go_simp
                refine (HWR.out).mono ?_
                rintro e w1 ⟨rfl, hj1, ht1⟩
                have HJ1 := Lib.hid hj1
                have HT1 := Lib.hid (HT0.out.trans (ht1.more (by simp)))
                have HS := Lib.hid ((ht1.block y HJ0.out.ylt (fun hm => HJ0.out.yout (List.mem_append_left _ hm))).trans HS.out)
                clear hj1 ht1
                have HSY := Lib.hid (rsync_any w1 (y :: S) r bs bw d1 HJ1.out.disk)
                rw [hG1] at HSY
                unfold ptr at HSY
                refine ⟨_, rfl, HS.out, ?_⟩
                go_frame
                refine Frm.wh_take 13 43 (.bool false) rfl rfl (by kernel_rfl) (fun _ _ _ h => h) rfl (HS.out) (fun w' hw' => ?_) ?_
                · go_simp
                go_frame
                refine Frm.wh_take 14 44 (.bool false) rfl rfl (by kernel_rfl) (fun _ _ _ h => h) rfl (HS.out) (fun w' hw' => ?_) ?_
                · exact rfl
                go_frame
                refine Frm.wh_take 15 45 (.pointer (some ⟨y, 0, none⟩)) rfl rfl (by kernel_rfl) (fun _ _ _ h => h) rfl (HS.out) (fun w' hw' => ?_) ?_
                · exact rfl
                go_frame
                refine Frm.wh_take 16 46 (.pointer (some ⟨y, 0, none⟩)) rfl rfl (by kernel_rfl) (fun _ _ _ h => h) rfl (HS.out) (fun w' hw' => ?_) ?_
                · go_simp
                go_frame
                refine Frm.wh_take 17 47 (.pointer (some ⟨y, 0, none⟩)) rfl rfl (by kernel_rfl) (fun _ _ _ h => h) rfl (HS.out) (fun w' hw' => ?_) ?_
                · go_simp
                go_frame
                refine Frm.wh_take 18 48 (.pointer (some ⟨r, 0, none⟩)) rfl rfl (by kernel_rfl) (fun _ _ _ h => h) rfl (HS.out) (fun w' hw' => ?_) ?_
                · have h0 := yc0 hw'
                  go_simp
                go_frame
                refine Frm.wh_call 19 49 61 #[.pointer (some ⟨r, 0, none⟩)] rfl rfl (by kernel_rfl) rfl ?_ ?_
                · go_simp
                refine (HSY.out).mono ?_
                rintro e w2 ⟨rfl, hr2, ht2⟩
                have HJ2 := Lib.hid (HJ1.out.disked hr2 ht2 (sy_n d1))
                have HT2 := Lib.hid (HT1.out.trans (ht2.more (by simp)))
                have HS := Lib.hid ((ht2.block y HJ1.out.ylt (fun hm => HJ1.out.yout (List.mem_append_left _ hm))).trans HS.out)
                clear hr2 ht2
                have HF := Lib.hid (first_any w2 (y :: S) r bs bw (sy d1) jr.gen HJ2.out.disk (by have := HJ2.out.n8; omega))
                rw [HN2.out] at HF
                unfold ptr at HF
                have HB2 := Lib.hid (HBB.out.turn HT2.out (fun q hq => .inl hq))
                have HMC := Lib.hid (rmark_any w2 jr.gen jr.gs.length w2.heap.size n c A b HB2.out.byts (Nat.le_refl _) HNM.out)
                refine ⟨_, rfl, HS.out, ?_⟩
                go_frame
                refine Frm.wh_take 20 50 (.bool false) rfl rfl (by kernel_rfl) (fun _ _ _ h => h) rfl (HS.out) (fun w' hw' => ?_) ?_
                · have hz1 := err_true
                  have hz2 := err_false
                  go_simp
                go_frame
                refine Frm.wh_take 21 51 (.bool false) rfl rfl (by kernel_rfl) (fun _ _ _ h => h) rfl (HS.out) (fun w' hw' => ?_) ?_
                · go_simp
                go_frame
                refine Frm.wh_take 22 52 (.bool false) rfl rfl (by kernel_rfl) (fun _ _ _ h => h) rfl (HS.out) (fun w' hw' => ?_) ?_
                · exact rfl
                go_frame
                refine Frm.wh_take 23 53 (.pointer (some ⟨y, 0, none⟩)) rfl rfl (by kernel_rfl) (fun _ _ _ h => h) rfl (HS.out) (fun w' hw' => ?_) ?_
                · exact rfl
                go_frame
                refine Frm.wh_take 24 54 (.pointer (some ⟨y, 0, none⟩)) rfl rfl (by kernel_rfl) (fun _ _ _ h => h) rfl (HS.out) (fun w' hw' => ?_) ?_
                · go_simp
                go_frame
                refine Frm.wh_take 25 55 (.pointer (some ⟨y, 0, none⟩)) rfl rfl (by kernel_rfl) (fun _ _ _ h => h) rfl (HS.out) (fun w' hw' => ?_) ?_
                · go_simp
                go_frame
                refine Frm.wh_take 26 56 (.pointer (some ⟨r, 0, none⟩)) rfl rfl (by kernel_rfl) (fun _ _ _ h => h) rfl (HS.out) (fun w' hw' => ?_) ?_
                · have h0 := yc0 hw'
                  go_simp
                go_frame
                refine Frm.wh_take 27 57 (.pointer (some ⟨y, 0, none⟩)) rfl rfl (by kernel_rfl) (fun _ _ _ h => h) rfl (HS.out) (fun w' hw' => ?_) ?_
                · exact rfl
                go_frame
                refine Frm.wh_take 28 58 (.pointer (some ⟨y, 0, none⟩)) rfl rfl (by kernel_rfl) (fun _ _ _ h => h) rfl (HS.out) (fun w' hw' => ?_) ?_
                · go_simp
                go_frame
                refine Frm.wh_take 29 59 (.pointer (some ⟨y, 0, none⟩)) rfl rfl (by kernel_rfl) (fun _ _ _ h => h) rfl (HS.out) (fun w' hw' => ?_) ?_
                · go_simp
                go_frame
                refine Frm.wh_take 30 60 (.pointer (some ⟨r, 0, none⟩)) rfl rfl (by kernel_rfl) (fun _ _ _ h => h) rfl (HS.out) (fun w' hw' => ?_) ?_
                · have h0 := yc0 hw'
                  go_simp
                go_frame
                refine Frm.wh_take 31 61 (.pointer (some ⟨y, 0, none⟩)) rfl rfl (by kernel_rfl) (fun _ _ _ h => h) rfl (HS.out) (fun w' hw' => ?_) ?_
                · exact rfl
                go_frame
                refine Frm.wh_take 32 62 (.pointer (some ⟨y, 0, none⟩)) rfl rfl (by kernel_rfl) (fun _ _ _ h => h) rfl (HS.out) (fun w' hw' => ?_) ?_
                · go_simp
                go_frame
                refine Frm.wh_take 33 63 (.pointer (some ⟨y, 1, none⟩)) rfl rfl (by kernel_rfl) (fun _ _ _ h => h) rfl (HS.out) (fun w' hw' => ?_) ?_
                · go_simp
                go_frame
                refine Frm.wh_take 34 64 (.int .i64 jr.gen) rfl rfl (by kernel_rfl) (fun _ _ _ h => h) rfl (HS.out) (fun w' hw' => ?_) ?_
                · have h1 := yc1 hw'
                  go_simp
                go_frame
                refine Frm.wh_take 36 66 (.int .i64 (takes jr.gs)) rfl rfl (by kernel_rfl) (fun _ _ _ h => h) rfl (HS.out) (fun w' hw' => ?_) ?_
                · exact rfl
                go_frame
                refine Frm.wh_take 38 68 (.pointer (some ⟨y, 0, none⟩)) rfl rfl (by kernel_rfl) (fun _ _ _ h => h) rfl (HS.out) (fun w' hw' => ?_) ?_
                · exact rfl
                go_frame
                refine Frm.wh_take 39 69 (.pointer (some ⟨y, 0, none⟩)) rfl rfl (by kernel_rfl) (fun _ _ _ h => h) rfl (HS.out) (fun w' hw' => ?_) ?_
                · go_simp
                go_frame
                refine Frm.wh_take 40 70 (.pointer (some ⟨y, 1, none⟩)) rfl rfl (by kernel_rfl) (fun _ _ _ h => h) rfl (HS.out) (fun w' hw' => ?_) ?_
                · go_simp
                go_frame
                refine Frm.wh_take 41 71 (.int .i64 jr.gen) rfl rfl (by kernel_rfl) (fun _ _ _ h => h) rfl (HS.out) (fun w' hw' => ?_) ?_
                · have h1 := yc1 hw'
                  go_simp
                go_frame
                refine Frm.wh_take 42 72 (.pointer (some ⟨y, 0, none⟩)) rfl rfl (by kernel_rfl) (fun _ _ _ h => h) rfl (HS.out) (fun w' hw' => ?_) ?_
                · exact rfl
                go_frame
                refine Frm.wh_take 43 73 (.pointer (some ⟨y, 0, none⟩)) rfl rfl (by kernel_rfl) (fun _ _ _ h => h) rfl (HS.out) (fun w' hw' => ?_) ?_
                · go_simp
                go_frame
                refine Frm.wh_take 44 74 (.pointer (some ⟨y, 2, none⟩)) rfl rfl (by kernel_rfl) (fun _ _ _ h => h) rfl (HS.out) (fun w' hw' => ?_) ?_
                · go_simp
                go_frame
                refine Frm.wh_take 45 75 (.slice Aj jr.gs.length cj) rfl rfl (by kernel_rfl) (fun _ _ _ h => h) rfl (HS.out) (fun w' hw' => ?_) ?_
                · have h2 := yc2 hw'
                  go_simp
                go_frame
                refine Frm.wh_take 46 76 (.int .i64 jr.gs.length) rfl rfl (by kernel_rfl) (fun _ _ _ h => h) rfl (HS.out) (fun w' hw' => ?_) ?_
                · go_simp
                go_frame
                refine Frm.wh_take 47 77 (.slice A n c) rfl rfl (by kernel_rfl) (fun _ _ _ h => h) rfl (HS.out) (fun w' hw' => ?_) ?_
                · exact rfl
                go_frame
                refine Frm.wh_call 35 65 60 #[.pointer (some ⟨r, 0, none⟩), .int .i64 jr.gen] rfl rfl (by kernel_rfl) rfl ?_ ?_
                · go_simp
                refine (HF.out).mono ?_
                rintro e u ⟨rfl, rfl⟩
                refine ⟨_, rfl, HS.out, ?_⟩
                go_frame
                refine Frm.wh_take 37 67 (.int .i64 P) rfl rfl (by kernel_rfl) (fun _ _ _ h => h) rfl (HS.out) (fun w' hw' => ?_) ?_
                · go_simp
                go_frame
                refine Frm.wh_call 48 78 70 #[.int .i64 jr.gen, .int .i64 jr.gs.length, .slice A n c] rfl rfl (by kernel_rfl) rfl ?_ ?_
                · go_simp
                refine (HMC.out).mono ?_
                rintro e w3 ⟨rfl, hb3⟩
                have HS := Lib.hid ((hb3.block y HJ2.out.ylt).trans HS.out)
                have HJ3 := Lib.hid (HJ2.out.below hb3)
                have HT3 := Lib.hid (HT2.out.below hb3)
                clear hb3
                refine ⟨_, rfl, HS.out, ?_⟩
                go_frame
                refine Frm.wh_call 49 79 62 #[Frm.mkV (markM jr.gen jr.gs.length b)] rfl rfl (by kernel_rfl) rfl ?_ ?_
                · go_simp
                refine (Frm.rput_any (markM jr.gen jr.gs.length b) w3).mono ?_
                rintro e w4 ⟨A4, c4, rfl, hy4, hb4, hc4, hm4, ha4⟩
                rw [HML.out] at hy4 hc4 ⊢
                have HS := Lib.hid ((hb4.block y HJ3.out.ylt).trans HS.out)
                have HJ4 := Lib.hid (HJ3.out.below hb4)
                have HT4 := Lib.hid (HT3.out.below hb4)
                have HX4 : Hid (Bts w4 [r, bs, bw] A4 64 (put (markM jr.gen jr.gs.length b))) := Lib.hid (Bts.above hy4 ha4 (fun q hq => HJ3.out.disk.lows q hq))
                have HWC := Lib.hid (rwrite_any w4 (y :: S) r bs bw (sy d1) P c4 A4 (put (markM jr.gen jr.gs.length b)) HJ4.out.disk HPY.out HX4.out (fun q hq => Nat.lt_of_lt_of_le (HSS.out q hq) HT4.out.size))
                rw [hG2] at HWC
                unfold ptr at HWC
                clear hy4 hb4 hc4 hm4 ha4
                refine ⟨_, rfl, HS.out, ?_⟩
                go_frame
                refine Frm.wh_call 50 80 59 #[.pointer (some ⟨r, 0, none⟩), .int .i64 P, .slice A4 64 c4] rfl rfl (by kernel_rfl) rfl ?_ ?_
                · go_simp
                refine (HWC.out).mono ?_
                rintro e w5 ⟨rfl, hr5, ht5⟩
                have HJ5 := Lib.hid (HJ4.out.disked hr5 ht5 (wr_n (sy d1) P _))
                have HT5 := Lib.hid (HT4.out.trans (ht5.more (by simp)))
                have HS := Lib.hid ((ht5.block y HJ4.out.ylt (fun hm => HJ4.out.yout (List.mem_append_left _ hm))).trans HS.out)
                clear hr5 ht5
                have HSZ := Lib.hid (rsync_any w5 (y :: S) r bs bw (JourM.wr (sy d1) P (put (markM jr.gen jr.gs.length b))) HJ5.out.disk)
                rw [hG3] at HSZ
                unfold ptr at HSZ
                refine ⟨_, rfl, HS.out, ?_⟩
                go_frame
                refine Frm.wh_take 51 81 (.bool false) rfl rfl (by kernel_rfl) (fun _ _ _ h => h) rfl (HS.out) (fun w' hw' => ?_) ?_
                · have hz1 := err_true
                  have hz2 := err_false
                  go_simp
                go_frame
                refine Frm.wh_take 52 82 (.bool false) rfl rfl (by kernel_rfl) (fun _ _ _ h => h) rfl (HS.out) (fun w' hw' => ?_) ?_
                · go_simp
                go_frame
                refine Frm.wh_take 53 83 (.bool false) rfl rfl (by kernel_rfl) (fun _ _ _ h => h) rfl (HS.out) (fun w' hw' => ?_) ?_
                · exact rfl
                go_frame
                refine Frm.wh_take 54 84 (.pointer (some ⟨y, 0, none⟩)) rfl rfl (by kernel_rfl) (fun _ _ _ h => h) rfl (HS.out) (fun w' hw' => ?_) ?_
                · exact rfl
                go_frame
                refine Frm.wh_take 55 85 (.pointer (some ⟨y, 0, none⟩)) rfl rfl (by kernel_rfl) (fun _ _ _ h => h) rfl (HS.out) (fun w' hw' => ?_) ?_
                · go_simp
                go_frame
                refine Frm.wh_take 56 86 (.pointer (some ⟨y, 0, none⟩)) rfl rfl (by kernel_rfl) (fun _ _ _ h => h) rfl (HS.out) (fun w' hw' => ?_) ?_
                · go_simp
                go_frame
                refine Frm.wh_take 57 87 (.pointer (some ⟨r, 0, none⟩)) rfl rfl (by kernel_rfl) (fun _ _ _ h => h) rfl (HS.out) (fun w' hw' => ?_) ?_
                · have h0 := yc0 hw'
                  go_simp
                go_frame
                refine Frm.wh_call 58 88 61 #[.pointer (some ⟨r, 0, none⟩)] rfl rfl (by kernel_rfl) rfl ?_ ?_
                · go_simp
                refine (HSZ.out).mono ?_
                rintro e w6 ⟨rfl, hr6, ht6⟩
                have HJ6 := Lib.hid (HJ5.out.disked hr6 ht6 (sy_n _))
                have HT6 := Lib.hid (HT5.out.trans (ht6.more (by simp)))
                have HS := Lib.hid ((ht6.block y HJ5.out.ylt (fun hm => HJ5.out.yout (List.mem_append_left _ hm))).trans HS.out)
                clear hr6 ht6
                refine ⟨_, rfl, HS.out, ?_⟩
                go_frame
                refine Frm.wh_take 59 89 (.bool false) rfl rfl (by kernel_rfl) (fun _ _ _ h => h) rfl (HS.out) (fun w' hw' => ?_) ?_
                · have hz1 := err_true
                  have hz2 := err_false
                  go_simp
                go_frame
                refine Frm.wh_take 60 90 (.bool false) rfl rfl (by kernel_rfl) (fun _ _ _ h => h) rfl (HS.out) (fun w' hw' => ?_) ?_
                · go_simp
                go_frame
                refine wpAnyH_done (by kernel_rfl) ?_ _
                go_wp2_with fail
                go_meet
                exact ⟨false, rfl, by rw [HX1.out]; simp [hB1, hG1, hG2, hG3], by rw [HX2.out]; simpa [hB1, hG1, hG2] using HJ6.out, HT6.out⟩
    case rest =>
      obtain ⟨v', rfl, hv, hj, ht⟩ := hcut
      clear HX1 HX2 HW1 HW2 hw3 HJ HYO HT
      rcases HLAST.out with ⟨_, _, _, hx, hz, hD, hJ⟩ | ⟨_, _, _, hx, hz, hD, hJ⟩
      · as_aux_lemma =>
          rw [hx] at hv
          subst hv
          have HZ := Lib.hid (And.intro hz (And.intro hD hJ))
          obtain ⟨Aj2, cj2, hyo2, _⟩ := hj.hd
          have c3 := yc3 hyo2
          have f3 : wc.frozen? ⟨y, 3, none⟩ = false := free_at hyo2 3
          have HF := Lib.hid hj.fell
          have HTT := Lib.hid ht
          clear hj ht hyo2 hz hD hJ
          go_wp2_with fail
          go_ret
          exact ⟨by rw [HZ.out.1]; rfl, by rw [HZ.out.2.1, HZ.out.2.2]; exact HF.out.1, HTT.out.trans HF.out.2⟩
      · as_aux_lemma =>
          rw [hx] at hv
          subst hv
          have HZ := Lib.hid (And.intro hz (And.intro hD hJ))
          obtain ⟨Aj, cj, hyo2, hrw2⟩ := hj.hd
          have HJc := Lib.hid hj
          have HTT := Lib.hid ht
          have HSc : Hid (∀ q ∈ [y, r, bs, bw] ++ S, q < wc.heap.size) := Lib.hid (fun q hq => by
            rcases List.mem_append.1 hq with e | e
            · exact hj.lows q e
            · exact Nat.lt_of_lt_of_le (HSS.out q (List.mem_cons_of_mem _ e)) ht.size)
          have HBC := Lib.hid (HBB.out.turn ht (fun q hq => .inl hq)).byts
          obtain ⟨us, hus, huc, hu3⟩ := hrw2.vals
          have HU3 := Lib.hid hu3
          have HUC : Hid (0 < jr.gs.length → ∃ b' off, Aj = some ⟨b', off, none⟩ ∧ ∀ j, j < jr.gs.length → (wc.alloc (.cells #[] 39)).cell? ⟨b', off + j, none⟩ = some (us.getD j undef) ∧ ∃ Aj nj cj, us.getD j undef = .slice Aj nj cj) := Lib.hid (fun h0 => by
            obtain ⟨b', off, e, hl, _, hc⟩ := huc h0
            exact ⟨b', off, e, fun j hj => ⟨(World.cell?_of_block (w := wc) (Below.heap_alloc wc _ b' hl)).trans (hc j hj), by obtain ⟨Aj, cj, h1, _⟩ := hu3 j hj; exact ⟨Aj, _, cj, h1⟩⟩⟩)
          have HUS := Lib.hid hus
          have HBa := Lib.hid (Frm.alloc_below wc (.cells #[] 39))
          have HO0 : Hid ((wc.alloc (.cells #[] 39)).ownsRow wc.heap.size 39 1 (.slice (some ⟨wc.heap.size, 0, none⟩) 0 0) 0 []) := Lib.hid (World.ownsRow_made wc #[] 0 (Nat.le_refl _) (Nat.zero_le _) rfl)
          have HYc := Lib.hid hyo2
          have c2a : (wc.alloc (.cells #[] 39)).cell? ⟨y, 2, none⟩ = some (.slice Aj jr.gs.length cj) := yc2 ((HBa.out.block y HJc.out.ylt).trans hyo2)
          have hgl : jr.gs.length ≤ 65536 := by have h1 := takes_length jr.gs; have h2 := HJc.out.fit; have h3 := HJc.out.disk.ok.2.1; unfold room at h2; omega
          clear hj ht hyo2 hrw2 hu3 huc hz hD hJ
          go_wp2_with (at_builtin; first
            | (refine wpList_app_vals _ rfl (.tmp 95) (.tmp 99) rfl wc.heap.size (.slice (some ⟨wc.heap.size, 0, none⟩) 0 0) 0 [] rfl HO0.out Aj jr.gs.length cj us rfl hus HUC.out jr.gs.length (by omega) (by omega) HBa.out.size ?_; intro A6 c6 w6 ho6 hg6; have HO6 := Lib.hid ho6; have HB6 := Lib.hid (HBa.out.trans (own_below_v HO0.out HBa.out.size hg6)); clear ho6 hg6)
            | (refine wpList_app_k _ rfl (.tmp 101) (.tmp 102) rfl w6.heap.size (.slice (some ⟨w6.heap.size, 0, none⟩) 0 0) 0 [] rfl (World.ownsRow_made w6 #[] 0 (Nat.le_refl _) (Nat.zero_le _) rfl) wc.heap.size A n c b rfl (HBC.out.below (HB6.out.alloc HB6.out.size _)) n (by omega) (by omega) (by rw [World.size_alloc]; omega) ?_; intro A7 c7 w7 ho7 hg7; have HO7 := Lib.hid ho7; have HG7 := Lib.hid hg7; clear ho7 hg7)
            | (refine wpList_app_vals _ rfl (.tmp 100) (.tmp 104) rfl wc.heap.size (.slice A6 jr.gs.length c6) jr.gs.length ([] ++ us) rfl (app_keep HO6.out HG7.out w7.heap.size) (some ⟨w7.heap.size, 0, none⟩) 1 1 [.slice A7 n c7] rfl rfl (vals_one (heap_alloc_new w7 _)) (jr.gs.length + 1) rfl (by omega) (by rw [World.size_alloc]; have := HB6.out.size; have := HG7.out.size; rw [World.size_alloc] at this; omega) ?_; intro A8 c8 w8 ho8 hg8; have HSUM := Lib.hid (app_sum HB6.out rfl HBL.out hus HU3.out HSc.out HO6.out HO7.out HG7.out ho8 hg8); have k8 := yc2 ((HSUM.out.2.block y HJc.out.ylt).trans HYc.out); have k8f : w8.frozen? ⟨y, 2, none⟩ = false := free_at ((HSUM.out.2.block y HJc.out.ylt).trans HYc.out) 2; clear ho8 hg8))
          have HL := Lib.hid (HJc.out.listed (c := c8) HSUM.out.2 HSUM.out.1 (by rw [takes_snoc, extD_n]; exact HFT.out))
          go_ret
          exact ⟨by rw [HZ.out.1]; rfl, by rw [HZ.out.2.1, HZ.out.2.2]; exact HL.out.1, HTT.out.trans HL.out.2⟩
end Go.Proofs.YtdjhlhellkajfaaGreat.Jou
/-
  The document's journal: Reset, where it does nothing. Conditions: the journal is known whole; the groups lie in no block of its own.
-/
namespace Go.Proofs.YtdjhlhellkajfaaGreat.Jou
open Go.RowKit Codec FrameM Cod JourM
open Disk (Turn Dk Dsk ptr Now upd)
set_option maxRecDepth 100000
theorem rreset_no (w : World) (S : List Nat) (y r bs bw : Nat) (d : Dsk) (jr : Jr) (n c : Nat) (A : Option Addr) (ls : List (List UInt8)) (h : RJ w S y r bs bw d jr) (hr : RowsB w [y, r, bs, bw] A n ls) (hn : n ≤ 1000000) (hno : rstDo d jr ls = false) :
    Calls Tryz.prog 18 #[ptr y, .slice A n c] w (RJNow (rstE d jr ls) w S y r bs bw (rstD d jr ls) (rstJ d jr ls)) := by
  have HJ := Lib.hid h
  have HR := Lib.hid hr
  have hlen := hr.len
  have HLEN := Lib.hid hlen
  obtain ⟨Aj, cj, hyo, hrows⟩ := h.hd
  have HYO := Lib.hid hyo
  have h65 := h.disk.ok.2.1
  have hn1 : (n : Int) ≤ 1000000 := by omega
  have hnot : ¬ (jr.down = false ∧ anyLong ls = false ∧ takes ls ≤ room d.n) := by
    rintro ⟨e1, e2, e3⟩
    unfold rstDo at hno
    rw [e1, e2] at hno
    simp [e3] at hno
  rcases rst_parts d jr ls with ⟨hdn, hz, hD, hJ⟩ | ⟨hdn, hl, hz, hD, hJ⟩ | ⟨hdn, hl, hfit, hz, hD, hJ⟩ | ⟨hdn, hl, hfit, _⟩ | ⟨hdn, hl, hfit, _⟩
  · rw [hz, hD, hJ]
    have c3 := yc3 hyo
    rw [hdn] at c3
    clear h hr hyo hrows hz hD hJ hnot hno
    unfold ptr
    go_enter Tryz.func18, Tryz.ntmps18
    go_wp2_with fail
    go_ret
    exact ⟨rfl, HJ.out, Turn.refl _ _⟩
  · rw [hz, hD, hJ]
    have c3 := yc3 hyo
    rw [hdn] at c3
    have HLG := Lib.hid hl
    clear h hr hyo hrows hz hD hJ hnot hno hl hlen
    unfold ptr
    go_enter Tryz.func18, Tryz.ntmps18
    go_wp2_with fail
    go_loop [5] (fun i => ∃ k : Nat, k ≤ n ∧ i = .int .i64 k ∧ ∀ q, q < k → (ls.getD q []).length ≤ 1048576) (fun i => n - (Go.RowKit.intOf i).toNat)
    case atStart => exact ⟨0, by omega, rfl, fun q hq => absurd hq (by omega)⟩
    case round =>
      obtain ⟨k, hk, rfl, hq⟩ := hrel
      have HQ := Lib.hid hq
      clear hq
      by_cases hlt : k < n
      · obtain ⟨b, o, Aj1, cj1, hat, hcell⟩ := HR.out.rowl.at hlt
        have hidx := hat c
        clear hat
        by_cases hl2 : (ls.getD k []).length ≤ 1048576
        · have HL := Lib.hid hl2
          have hl3 : ((ls.getD k []).length : Int) ≤ 1048576 := by omega
          clear hl2
          obtain ⟨lx, hlx⟩ : ∃ lx, (ls.getD k []).length = lx := ⟨_, rfl⟩
          rw [hlx] at hcell hl3
          clear hlx
          go_wp2
          go_round
          case rel =>
            refine ⟨k + 1, by omega, by go_num, fun q hq => ?_⟩
            by_cases he : q = k
            · subst he
              exact HL.out
            · exact HQ.out q (by omega)
          case measure => simp [Go.RowKit.intOf]; omega
        · have hl3 : (1048576 : Int) < ((ls.getD k []).length : Int) := by omega
          clear hl2
          generalize (ls.getD k []).length = lx at *
          go_wp2
          go_ret
          exact ⟨rfl, HJ.out, Turn.refl _ _⟩
      · obtain rfl : k = n := by omega
        have hno := anyLong_no (fun q hq => HQ.out q (by rw [← HLEN.out]; exact hq))
        rw [HLG.out] at hno
        cases hno
  · rw [hz, hD, hJ]
    have c3 := yc3 hyo
    rw [hdn] at c3
    have HAL := Lib.hid (anyLong_all hl)
    have HTB : Hid (takes ls ≤ 1000000000000) := Lib.hid (by have := takes_le ls HAL.out; rw [hlen] at this; omega)
    have hfi : (room d.n : Int) < (takes ls : Int) := by omega
    have HT : Hid (Turn [y, r, bs, bw] w w) := Lib.hid (Turn.refl _ w)
    clear h hr hyo hrows hz hD hJ hnot hno hl hlen hfit
    unfold ptr
    go_enter Tryz.func18, Tryz.ntmps18
    go_wp2_with fail
    go_loop [5] (fun i => ∃ k : Nat, k ≤ n ∧ i = .int .i64 k) (fun i => n - (Go.RowKit.intOf i).toNat)
    case atStart => exact ⟨0, by omega, rfl⟩
    case round =>
      obtain ⟨k, hk, rfl⟩ := hrel
      by_cases hlt : k < n
      · obtain ⟨b, o, Aj1, cj1, hat, hcell⟩ := HR.out.rowl.at hlt
        have hidx := hat c
        have hl2 : ((ls.getD k []).length : Int) ≤ 1048576 := by have := HAL.out (ls.getD k []) (by rw [List.getD_eq_getElem?_getD, List.getElem?_eq_getElem (by rw [HLEN.out]; exact hlt)]; exact List.getElem_mem _); omega
        clear hat
        generalize (ls.getD k []).length = lx at *
        go_wp2
        go_round
        case rel => exact ⟨k + 1, by omega, by go_num⟩
        case measure => simp [Go.RowKit.intOf]; omega
      · obtain rfl : n = k := by omega
        go_upto_region 8 with fail
        have HS : Hid (w.drew.heap[y]? = some (yobj r jr.gen Aj jr.gs.length cj jr.down)) := Lib.hid HYO.out
        have HJ0 := Lib.hid (HJ.out.below (Below.refl w.heap.size w).drew)
        have HT0 : Hid (Turn [y, r, bs, bw] w w.drew) := Lib.hid HT.out.drew
        have HR0 := Lib.hid (HR.out.below (Below.refl w.heap.size w).drew)
        refine Frm.wh_start (fun u => u.heap[y]? = some (yobj r jr.gen Aj jr.gs.length cj jr.down)) (by kernel_rfl) ?_
        generalize w.drew = u0 at *
        have HTK := Lib.hid (rtakes_any u0 n c A ls HR0.out.rowl HTB.out)
        have HRM := Lib.hid (rroom_any u0 (y :: S) r bs bw d HJ0.out.disk (by have := HJ0.out.n8; omega))
        unfold ptr at HRM
        refine Frm.wh_take 0 27 (.slice A n c) rfl rfl (by kernel_rfl) (fun _ _ _ h => h) rfl (HS.out) (fun w' hw' => ?_) ?_
        · exact rfl
        go_frame
        refine Frm.wh_take 2 29 (.pointer (some ⟨y, 0, none⟩)) rfl rfl (by kernel_rfl) (fun _ _ _ h => h) rfl (HS.out) (fun w' hw' => ?_) ?_
        · exact rfl
        go_frame
        refine Frm.wh_take 3 30 (.pointer (some ⟨y, 0, none⟩)) rfl rfl (by kernel_rfl) (fun _ _ _ h => h) rfl (HS.out) (fun w' hw' => ?_) ?_
        · go_simp
        go_frame
        refine Frm.wh_take 4 31 (.pointer (some ⟨y, 0, none⟩)) rfl rfl (by kernel_rfl) (fun _ _ _ h => h) rfl (HS.out) (fun w' hw' => ?_) ?_
        · go_simp
        go_frame
        refine Frm.wh_take 5 32 (.pointer (some ⟨r, 0, none⟩)) rfl rfl (by kernel_rfl) (fun _ _ _ h => h) rfl (HS.out) (fun w' hw' => ?_) ?_
        · have h0 := yc0 hw'
          go_simp
        go_frame
        refine Frm.wh_call 1 28 28 #[.slice A n c] rfl rfl (by kernel_rfl) rfl ?_ ?_
        · go_simp
        refine (HTK.out).mono ?_
        rintro e u ⟨rfl, rfl⟩
        refine ⟨_, rfl, HS.out, ?_⟩
        go_frame
        refine Frm.wh_call 6 33 30 #[.pointer (some ⟨r, 0, none⟩)] rfl rfl (by kernel_rfl) rfl ?_ ?_
        · go_simp
        refine (HRM.out).mono ?_
        rintro e u ⟨rfl, rfl⟩
        refine ⟨_, rfl, HS.out, ?_⟩
        go_frame
        refine Frm.wh_take 7 34 (.bool true) rfl rfl (by kernel_rfl) (fun _ _ _ h => h) rfl (HS.out) (fun w' hw' => ?_) ?_
        · go_simp
        go_frame
        refine wpAnyH_done (by kernel_rfl) ?_ _
        go_wp2_with fail
        go_ret
        exact ⟨rfl, HJ0.out, HT0.out⟩
  · exact absurd ⟨hdn, hl, hfit⟩ hnot
  · exact absurd ⟨hdn, hl, hfit⟩ hnot
end Go.Proofs.YtdjhlhellkajfaaGreat.Jou
