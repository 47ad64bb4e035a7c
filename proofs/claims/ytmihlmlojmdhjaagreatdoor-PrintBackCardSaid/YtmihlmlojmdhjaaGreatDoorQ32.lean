/-
  Show: a word as it is written. Conditions: sizes; the number is an int64; the library's table of powers lies as it is laid.
-/
import Derived.Test.YtmihlmlojmdhjaaGreatDoorQ05
import Derived.Test.YtmihlmlojmdhjaaGreatDoorQ26
import Derived.Test.YtmihlmlojmdhjaaGreatDoorQ30
import Derived.Test.YtmihlmlojmdhjaaGreatDoorQ31
namespace Go.Proofs.YtmihlmlojmdhjaaGreatDoor.Lex
open Go.RowKit
open Num (EndsW)
set_option maxRecDepth 100000
theorem digits_at (n : Int) (w : World) (h0 : -9223372036854775808 ≤ n) (h1 : n ≤ 9223372036854775807) (ht : Num.Tab w) : Calls Tryz.prog 90 #[.int .i64 n] w (EndsB (str (Lib.itoa n)) w) := Num.digits_any n w h0 h1 ht
theorem cat_bs (a b : List UInt8) : bs a ++ bs b = bs (a ++ b) := by
  apply ByteArray.ext
  simp [bs]
def newW (w : World) (k : Int) (S : ByteArray) (n : Int) : World := w.alloc (.cells #[.int .i64 k, .string S, .int .i64 n] 82)
theorem new_below (w : World) (k : Int) (S : ByteArray) (n : Int) : Below w.heap.size w (newW w k S n) := (Below.refl _ w).alloc (Nat.le_refl _) _
theorem new_at (w : World) (k : Int) (S : ByteArray) (n : Int) : (newW w k S n).heap[w.heap.size]? = some (.cells #[.int .i64 k, .string S, .int .i64 n] 82 (0, 0)) := heap_alloc_new _ _
theorem endsb_str {a b : List UInt8} {w w1 w' : World} (hab : a = b) (h1 : Below w.heap.size w w1) (h2 : Below w1.heap.size w1 w') : EndsB (str b) w (.returned (.string (bs a))) w' := by subst hab; exact ⟨rfl, h1.trans (h2.mono h1.size)⟩
set_option maxHeartbeats 2000000 in
theorem show_w1 (w : World) (s : List UInt8) (n : Int) (hs : s.length ≤ 1000000) :
    Calls Tryz.prog 45 #[.agg #[.int .i64 1, .string (bs s), .int .i64 n]] w (EndsB (str s) w) := by
  have HB := Lib.hid (new_below w 1 (bs s) n)
  have HN := Lib.hid (new_at w 1 (bs s) n)
  have z0 := cell_at HN.out 0
  have z1 := cell_at HN.out 1
  have z2 := cell_at HN.out 2
  unfold newW at *
  have C := fun w' => Lib.hid (clone_any (bs s) w' (by rw [bs_size]; omega))
  clear hs HN
  go_enter Tryz.func45, Tryz.ntmps45
  go_wp2_with fail
  refine (C _).out.mono ?_
  rintro e w1 ⟨rfl, hb1⟩
  have HB1 := Lib.hid hb1
  clear hb1 z0 z1 z2
  go_wp2_with fail
  go_ret
  exact endsb_str rfl HB.out HB1.out
set_option maxHeartbeats 2000000 in
theorem show_w4 (w : World) (s : List UInt8) (n : Int) (hs : s.length ≤ 1000000) :
    Calls Tryz.prog 45 #[.agg #[.int .i64 4, .string (bs s), .int .i64 n]] w (EndsB (str s) w) := by
  have HB := Lib.hid (new_below w 4 (bs s) n)
  have HN := Lib.hid (new_at w 4 (bs s) n)
  have z0 := cell_at HN.out 0
  have z1 := cell_at HN.out 1
  have z2 := cell_at HN.out 2
  unfold newW at *
  have C := fun w' => Lib.hid (clone_any (bs s) w' (by rw [bs_size]; omega))
  clear hs HN
  go_enter Tryz.func45, Tryz.ntmps45
  go_wp2_with fail
  refine (C _).out.mono ?_
  rintro e w1 ⟨rfl, hb1⟩
  have HB1 := Lib.hid hb1
  clear hb1 z0 z1 z2
  go_wp2_with fail
  go_ret
  exact endsb_str rfl HB.out HB1.out
set_option maxHeartbeats 2000000 in
theorem show_w5 (w : World) (s : List UInt8) (n : Int) (hs : s.length ≤ 1000000) :
    Calls Tryz.prog 45 #[.agg #[.int .i64 5, .string (bs s), .int .i64 n]] w (EndsB (str s) w) := by
  have HB := Lib.hid (new_below w 5 (bs s) n)
  have HN := Lib.hid (new_at w 5 (bs s) n)
  have z0 := cell_at HN.out 0
  have z1 := cell_at HN.out 1
  have z2 := cell_at HN.out 2
  unfold newW at *
  have C := fun w' => Lib.hid (clone_any (bs s) w' (by rw [bs_size]; omega))
  clear hs HN
  go_enter Tryz.func45, Tryz.ntmps45
  go_wp2_with fail
  refine (C _).out.mono ?_
  rintro e w1 ⟨rfl, hb1⟩
  have HB1 := Lib.hid hb1
  clear hb1 z0 z1 z2
  go_wp2_with fail
  go_ret
  exact endsb_str rfl HB.out HB1.out
set_option maxHeartbeats 2000000 in
theorem show_w3 (w : World) (s : List UInt8) (n : Int) (hs : s.length ≤ 1000000) :
    Calls Tryz.prog 45 #[.agg #[.int .i64 3, .string (bs s), .int .i64 n]] w (EndsB (str (quoted s)) w) := by
  have HB := Lib.hid (new_below w 3 (bs s) n)
  have HN := Lib.hid (new_at w 3 (bs s) n)
  have z0 := cell_at HN.out 0
  have z1 := cell_at HN.out 1
  have z2 := cell_at HN.out 2
  unfold newW at *
  have hz : (bs s).size ≤ 1000000 := hs
  have HQ : Hid ((⟨#[34]⟩ : ByteArray) ++ bs s ++ ⟨#[34]⟩ = bs (quoted s)) := Lib.hid (by unfold quoted; rw [← cat_bs, ← cat_bs]; rfl)
  clear hs HN
  go_enter Tryz.func45, Tryz.ntmps45
  go_wp2_with fail
  go_ret
  refine ⟨?_, HB.out⟩
  show Ending.returned (Value.string ((⟨#[34]⟩ : ByteArray) ++ bs s ++ ⟨#[34]⟩)) = _
  rw [HQ.out]; rfl
set_option maxHeartbeats 2000000 in
theorem show_w2 (w : World) (s : List UInt8) (n : Int)  (h0 : 0 ≤ n) (h1 : n ≤ 9223372036854775807) (ht : Num.Tab w) :
    Calls Tryz.prog 45 #[.agg #[.int .i64 2, .string (bs s), .int .i64 n]] w (EndsB (str (Lib.itoa n)) w) := by
  have HB := Lib.hid (new_below w 2 (bs s) n)
  have HN := Lib.hid (new_at w 2 (bs s) n)
  have z0 := cell_at HN.out 0
  have z1 := cell_at HN.out 1
  have z2 := cell_at HN.out 2
  unfold newW at *
  have C := Lib.hid (digits_at n (w.alloc (.cells #[.int .i64 2, .string (bs s), .int .i64 n] 82)) (by omega) h1 (Num.tab_below ht HB.out))
  clear HN h1 ht
  go_enter Tryz.func45, Tryz.ntmps45
  go_wp2_with fail
  refine C.out.mono ?_
  rintro e w1 ⟨rfl, hb1⟩
  have HB1 := Lib.hid hb1
  clear hb1 z0 z1 z2
  unfold str
  go_wp2_with fail
  go_ret
  exact endsb_str rfl HB.out HB1.out
set_option maxHeartbeats 2000000 in
theorem show_w2n (w : World) (s : List UInt8) (n : Int)  (h0 : n < 0) :
    Calls Tryz.prog 45 #[.agg #[.int .i64 2, .string (bs s), .int .i64 n]] w (EndsB (str []) w) := by
  have HB := Lib.hid (new_below w 2 (bs s) n)
  have HN := Lib.hid (new_at w 2 (bs s) n)
  have z0 := cell_at HN.out 0
  have z1 := cell_at HN.out 1
  have z2 := cell_at HN.out 2
  unfold newW at *
  clear HN
  go_enter Tryz.func45, Tryz.ntmps45
  go_wp2_with fail
  go_ret
  exact ⟨rfl, HB.out⟩
set_option maxHeartbeats 2000000 in
theorem show_wx (w : World) (k : Int) (s : List UInt8) (n : Int)  (h1 : (k == 1) = false) (h4 : (k == 4) = false) (h5 : (k == 5) = false) (h3 : (k == 3) = false) (h2 : (k == 2) = false) :
    Calls Tryz.prog 45 #[.agg #[.int .i64 k, .string (bs s), .int .i64 n]] w (EndsB (str []) w) := by
  have HB := Lib.hid (new_below w k (bs s) n)
  have HN := Lib.hid (new_at w k (bs s) n)
  have z0 := cell_at HN.out 0
  have z1 := cell_at HN.out 1
  have z2 := cell_at HN.out 2
  unfold newW at *
  clear HN
  go_enter Tryz.func45, Tryz.ntmps45
  go_wp2_with fail
  go_ret
  exact ⟨rfl, HB.out⟩
theorem show_any (x : Wd) (w : World) (hs : x.s.length ≤ 1000000) (h1 : x.n ≤ 9223372036854775807) (ht : Num.Tab w) : Calls Tryz.prog 45 #[wdV x] w (EndsB (str (shown x)) w) := by
  obtain ⟨k, s, n⟩ := x
  unfold wdV shown
  dsimp only at *
  by_cases k1 : k = 1
  · subst k1; simp only [true_or, if_true]; exact show_w1 w s n hs
  by_cases k4 : k = 4
  · subst k4; simp only [true_or, or_true, if_true]; exact show_w4 w s n hs
  by_cases k5 : k = 5
  · subst k5; simp only [or_true, if_true]; exact show_w5 w s n hs
  rw [if_neg (by omega)]
  by_cases k3 : k = 3
  · subst k3; rw [if_pos rfl]; exact show_w3 w s n hs
  rw [if_neg k3]
  by_cases k2 : k = 2
  · subst k2
    by_cases h0 : 0 ≤ n
    · rw [if_pos ⟨rfl, h0⟩]; exact show_w2 w s n h0 h1 ht
    · rw [if_neg (by omega)]; exact show_w2n w s n (by omega)
  rw [if_neg (by omega)]
  exact show_wx w k s n (by simpa using k1) (by simpa using k4) (by simpa using k5) (by simpa using k3) (by simpa using k2)
end Go.Proofs.YtmihlmlojmdhjaaGreatDoor.Lex
/- What words tell has numbers that an int64 holds. No condition. -/
namespace Go.Proofs.YtmihlmlojmdhjaaGreatDoor.Prg
open Tre Prs
set_option maxRecDepth 100000
theorem lo_mk {op n : Int} {s q : List UInt8} {x : List Tx} (h : n ≤ 9223372036854775807) (hx : ∀ y ∈ x, LoX y) : LoX (.mk op n s q x) := .mk op n s q x h hx
theorem lo_zero {op : Int} {s q : List UInt8} {x : List Tx} (hx : ∀ y ∈ x, LoX y) : LoX (.mk op 0 s q x) := .mk op 0 s q x (by decide) hx
theorem lo_leaf {op n : Int} {s q : List UInt8} (h : n ≤ 9223372036854775807) : LoX (.mk op n s q []) := .mk op n s q [] h (fun y hy => by simp at hy)
theorem lo_nil : LoX nilT := lo_leaf (by decide)
theorem good_most {x : Lex.Wd} (h : Lex.Good x) (hk : x.k = 2) : x.n ≤ 9223372036854775807 := by
  cases h with
  | name s c q e ha hd hl => dsimp only at hk; split at hk <;> omega
  | num n h0 h1 => exact h1
  | text s h => simp at hk
  | sign s h => simp at hk
def LoJ : Job → Prop
  | .rest _ x => LoX x
  | .args _ _ x => ∀ y ∈ x, LoX y
  | _ => True
theorem lo_call {q s : List UInt8} {x : List Tx} {r : PS} (h : ∀ y ∈ x, LoX y) : LoX (callEnd q s x r).1 := lo_zero h
theorem run_lo : ∀ (n : Nat) (j : Job) (r : PS), Goods r → LoJ j → LoX (run n j r).1
  | 0, _, _, _, _ => lo_nil
  | n + 1, .row k, r, hg, _ => by
    unfold run
    split
    · exact run_lo n _ _ hg trivial
    · exact run_lo n (.rest k _) _ (hg.suf (run_suf _ _ _)) (run_lo n (.row (k + 1)) r hg trivial)
  | n + 1, .rest k x, r, hg, hj => by
    unfold run
    split
    · exact hj
    · split
      · exact hj
      · have h1 : Goods (tl r) := hg.suf (tl_suf r)
        have h2 := run_lo n (.row (k + 1)) (tl r) h1 trivial
        exact run_lo n (.rest k _) _ (h1.suf (run_suf _ _ _)) (lo_zero (fun y hy => by
          simp only [List.mem_cons, List.not_mem_nil, or_false] at hy
          rcases hy with rfl | rfl
          · exact hj
          · exact h2))
  | n + 1, .unary, r, hg, _ => by
    have h1 : Goods (tl r) := hg.suf (tl_suf r)
    have hu := run_lo n .unary (tl r) h1 trivial
    have h2 := run_lo n (.row 0) (tl r) h1 trivial
    have h3 := run_lo n (.call (wordS r 1 false)) (wordR r 1 false) (hg.suf (wordR_suf _ _ _)) trivial
    have one : ∀ {op : Int} {y : Tx}, LoX y → LoX (.mk op 0 [] [] [y]) := fun h => lo_zero (fun z hz => by
      simp only [List.mem_cons, List.not_mem_nil, or_false] at hz
      subst hz
      exact h)
    unfold run
    split
    · exact one hu
    split
    · exact one hu
    split
    · exact lo_leaf (by decide)
    split
    · exact lo_leaf (by decide)
    split
    · exact h2
    split
    · next hk =>
      have hk2 : (peek r).k = 2 := by simpa using hk
      exact lo_leaf (good_most (hg _ (peek_mem (by omega))) hk2)
    split
    · exact h3
    · exact lo_leaf (by decide)
  | n + 1, .call s, r, hg, _ => by
    unfold run
    split
    · exact run_lo n (.args _ _ []) _ (hg.suf ((mustW_suf _ _).trans ((wordR_suf _ _ _).trans (tl_suf r)))) (fun y hy => by simp at hy)
    · exact run_lo n (.args _ _ []) _ (hg.suf (mustW_suf _ _)) (fun y hy => by simp at hy)
  | n + 1, .args q s x, r, hg, hj => by
    have h2 := run_lo n (.row 0) r hg trivial
    have h3 : ∀ y ∈ x ++ [(run n (.row 0) r).1], LoX y := fun y hy => by
      rcases List.mem_append.1 hy with hy | hy
      · exact hj y hy
      · simp only [List.mem_cons, List.not_mem_nil, or_false] at hy
        subst hy
        exact h2
    unfold run
    split
    · exact lo_call hj
    split
    · split
      · exact lo_call h3
      · exact run_lo n (.args q s _) _ (hg.suf ((tl_suf _).trans (run_suf _ _ _))) h3
    · exact lo_call h3
theorem tell_lo {j : Job} {r : PS} (hg : Goods r) (hj : LoJ j) : LoX (tell j r).1 := run_lo _ _ _ hg hj
theorem los_mk {op : Int} {s : List UInt8} {e : Tx} {b b2 : List Ts} (he : LoX e) (hb : ∀ y ∈ b, LoS y) (hb2 : ∀ y ∈ b2, LoS y) : LoS (.mk op s e b b2) := .mk op s e b b2 (fun _ => he) hb hb2
theorem los_leaf {op : Int} {s : List UInt8} {e : Tx} (he : LoX e) : ∀ y ∈ [Ts.mk op s e [] []], LoS y := fun y hy => by
  simp only [List.mem_cons, List.not_mem_nil, or_false] at hy
  subst hy
  exact los_mk he (fun z hz => by simp at hz) (fun z hz => by simp at hz)
theorem los_one {t : Ts} (h : LoS t) : ∀ y ∈ [t], LoS y := fun y hy => by
  simp only [List.mem_cons, List.not_mem_nil, or_false] at hy
  subst hy
  exact h
theorem los_app {a b : List Ts} (h : ∀ y ∈ a, LoS y) (h2 : ∀ y ∈ b, LoS y) : ∀ y ∈ a ++ b, LoS y := fun y hy => (List.mem_append.1 hy).elim (h y) (h2 y)
def LoSJ : SJob → Prop
  | .loop l => ∀ y ∈ l, LoS y
  | _ => True
theorem for_lo {r : PS} (hg : Goods r) : LoX (forX r).1 := by
  unfold forX
  split
  · exact lo_leaf (by decide)
  · exact tell_lo hg trivial
theorem runS_lo : ∀ (n : Nat) (j : SJob) (r : PS), Goods r → LoSJ j → ∀ y ∈ (runS n j r).1, LoS y := by
  intro n
  induction n with
  | zero => intro j r _ _ y hy; simp [runS] at hy
  | succ n ih =>
    intro j r hg hj
    cases j with
    | block => exact ih (.loop []) _ (hg.suf (mustW_suf _ _)) (fun y hy => by simp at hy)
    | loop l =>
      have h1 := los_app hj (ih .stmt r hg trivial)
      unfold runS
      split
      · exact hj
      split
      · exact ih (.loop _) _ (hg.suf ((tl_suf _).trans (runS_suf _ _ _))) h1
      · exact h1
    | when =>
      have hs := (runS_suf n .block (tell (.row 0) r).2).trans (tell_suf (.row 0) r)
      have he := tell_lo (j := .row 0) hg trivial
      have hb := ih .block _ (hg.suf (tell_suf (.row 0) r)) trivial
      unfold runS
      split
      · split
        · exact los_one (los_mk he hb (ih .when _ (hg.suf ((tl_suf _).trans ((tl_suf _).trans hs))) trivial))
        · exact los_one (los_mk he hb (ih .block _ (hg.suf ((tl_suf _).trans hs)) trivial))
      · exact los_one (los_mk he hb (fun y hy => by simp at hy))
    | stmt =>
      have ht : Goods (tl r) := hg.suf (tl_suf r)
      have hw : Goods (wordR r 1 false) := hg.suf (wordR_suf _ _ _)
      unfold runS
      split
      · exact ih .when _ ht trivial
      split
      · exact los_one (los_mk (for_lo ht) (ih .block _ (ht.suf (forX_suf _)) trivial) (fun y hy => by simp at hy))
      split
      · unfold retS
        split
        · exact los_leaf (tell_lo ht trivial)
        · exact los_leaf lo_nil
      split
      · exact los_leaf (tell_lo (ht.suf (mustW_suf _ _)) trivial)
      split
      · exact los_leaf lo_nil
      split
      · exact los_leaf lo_nil
      · unfold nameS
        split
        · exact los_leaf (tell_lo (hw.suf (tl_suf _)) trivial)
        split
        · exact los_leaf (tell_lo (hw.suf (tl_suf _)) trivial)
        · exact los_leaf (tell_lo hw trivial)
theorem tellS_lo {j : SJob} {r : PS} (hg : Goods r) (hj : LoSJ j) : ∀ y ∈ (tellS j r).1, LoS y := runS_lo _ _ _ hg hj
theorem runP_suf : ∀ (n : Nat) (xs : List Tp) (r : PS), (runP n xs r).2.l <:+ r.l
  | 0, _, _ => List.suffix_refl _
  | n + 1, xs, r => by
    have h1 := (typeMust_suf (wordR r 1 false)).trans (wordR_suf r 1 false)
    unfold runP
    split
    · exact mustW_suf _ _
    split
    · split
      · exact (mustW_suf _ _).trans ((show (badR (tl (typeMust (wordR r 1 false)))).l <:+ _ from tl_suf _).trans h1)
      · exact (runP_suf n _ _).trans ((tl_suf _).trans h1)
    · exact (mustW_suf _ _).trans h1
theorem fn_suf (r : PS) : (fnD r).2.l <:+ r.l := by
  show (tellS .block (typeR (tellP [] (mustW (wordR r 1 false) [40])).2)).2.l <:+ r.l
  exact (tellS_suf _ _).trans ((typeR_suf _).trans ((runP_suf _ _ _).trans ((mustW_suf _ _).trans (wordR_suf _ _ _))))
theorem fn_lo {r : PS} (hg : Goods r) : LoF (fnD r).1 := by
  show ∀ y ∈ (tellS .block (typeR (tellP [] (mustW (wordR r 1 false) [40])).2)).1, LoS y
  exact tellS_lo (hg.suf ((typeR_suf _).trans ((runP_suf _ _ _).trans ((mustW_suf _ _).trans (wordR_suf _ _ _))))) trivial
theorem runF_lo : ∀ (n : Nat) (xs : List Tf) (r : PS), Goods r → (∀ f ∈ xs, LoF f) → ∀ f ∈ (runF n xs r).1, LoF f
  | 0, _, _, _, h => h
  | n + 1, xs, r, hg, h => by
    unfold runF
    split
    · have ht : Goods (tl r) := hg.suf (tl_suf r)
      refine runF_lo n _ _ (ht.suf ((mustW_suf _ _).trans (fn_suf _))) (fun f hf => ?_)
      rcases List.mem_append.1 hf with hf | hf
      · exact h f hf
      · simp only [List.mem_cons, List.not_mem_nil, or_false] at hf
        subst hf
        exact fn_lo ht
    · exact h
theorem runI_suf : ∀ (n : Nat) (xs : List (List UInt8)) (r : PS), (runI n xs r).2.l <:+ r.l
  | 0, _, _ => List.suffix_refl _
  | n + 1, xs, r => by
    unfold runI
    split
    · exact (runI_suf n _ _).trans ((mustW_suf _ _).trans ((wordR_suf _ _ _).trans (tl_suf r)))
    · exact List.suffix_refl _
theorem file_lo {r : PS} (hg : Goods r) : LoL (fileD r).1 := by
  show ∀ f ∈ (tellF [] (tellI [] (headR r)).2).1, LoF f
  exact runF_lo _ _ _ (hg.suf ((runI_suf _ _ _).trans ((mustW_suf _ _).trans ((wordR_suf _ _ _).trans (mustW_suf _ _))))) (fun f hf => by simp at hf)
end Go.Proofs.YtmihlmlojmdhjaaGreatDoor.Prg
/- What is told is right, and not too great: of the tree that holds it. No condition. -/
namespace Go.Proofs.YtmihlmlojmdhjaaGreatDoor.Prg
open Tre Prs
set_option maxRecDepth 100000
theorem empty_of {s : ByteArray} (h : s.data.toList = []) : (s.toList == []) = true := by
  rw [ByteArray.toList_eq, h]
  rfl
theorem size_core_upto : ∀ (m : Nat) (e : Ex), size e ≤ m → sizeT (core e) = size e
  | 0, e, h => by rw [size_eq] at h; omega
  | m + 1, e, h => by
    rw [core_eq, sizeT_eq, size_eq]
    have : ∀ l : List Ex, (∀ y ∈ l, size y ≤ m) → sumT (l.map core) = sizeL l := by
      intro l
      induction l with
      | nil => intro _; rfl
      | cons y l ih =>
        intro hl
        have h1 := size_core_upto m y (hl y (by simp))
        have h2 := ih (fun z hz => hl z (by simp [hz]))
        rw [sizeL_cons, List.map_cons]
        unfold sumT at h2 ⊢
        rw [List.map_cons, List.sum_cons, h1, h2]
    rw [this e.x (fun y hy => by have := size_part hy; omega)]
theorem size_core (e : Ex) : sizeT (core e) = size e := size_core_upto _ e (Nat.le_refl _)
theorem map_one {α β : Type} {c : α → β} {l : List α} {x : β} (h : l.map c = [x]) : ∃ a, l = [a] ∧ c a = x := by
  cases l with
  | nil => cases h
  | cons a l => cases l with
    | nil => injection h with h _; exact ⟨a, rfl, h⟩
    | cons b l => simp at h
theorem map_two {α β : Type} {c : α → β} {l : List α} {x y : β} (h : l.map c = [x, y]) : ∃ a b, l = [a, b] ∧ c a = x ∧ c b = y := by
  cases l with
  | nil => cases h
  | cons a l => cases l with
    | nil => simp at h
    | cons b l => cases l with
      | nil => simp only [List.map_cons, List.map_nil, List.cons.injEq, and_true] at h; exact ⟨a, b, rfl, h.1, h.2⟩
      | cons d l => simp at h
/-- One node. -/
theorem rX_ok {e : Ex} (h : OkX (core e)) : rX e = true ∧ ∀ y ∈ e.x, OkX (core y) := by
  rw [core_eq] at h
  generalize ho : e.op = op at h
  generalize hn : e.n = n at h
  generalize hs : e.s.data.toList = s at h
  generalize hq : e.q.data.toList = q at h
  generalize hx : e.x.map core = x at h
  unfold rX
  cases h with
  | num n h =>
    have hx0 : e.x = [] := List.map_eq_nil_iff.1 hx
    rw [hx0]
    unfold numOk namesOk partsOk partsI
    rw [ho, hn, hx0, empty_of hs, empty_of hq]
    simp [h]
  | truth n h =>
    have hx0 : e.x = [] := List.map_eq_nil_iff.1 hx
    rw [hx0]
    unfold numOk namesOk partsOk partsI
    rw [ho, hn, hx0, empty_of hs, empty_of hq]
    rcases h with rfl | rfl <;> simp
  | name s h =>
    have hx0 : e.x = [] := List.map_eq_nil_iff.1 hx
    rw [hx0]
    unfold numOk namesOk partsOk partsI nameB
    rw [ho, hn, hx0, hs, h, empty_of hq]
    simp
  | call s q x h h2 hl hy =>
    unfold numOk namesOk partsOk nameB
    rw [ho, hn, hs, h]
    have hl2 : e.x.length ≤ 255 := by rw [← hx, List.length_map] at hl; exact hl
    refine ⟨?_, fun y hm => hy _ (by rw [← hx]; exact List.mem_map_of_mem hm)⟩
    rcases h2 with h2 | h2
    · rw [empty_of (hq.trans h2)]
      simp [hl2]
    · rw [hq, h2]
      simp [hl2]
  | one op y h hy =>
    obtain ⟨a, ha, hc⟩ := map_one hx
    rw [ha]
    unfold numOk namesOk partsOk partsI
    rw [ho, hn, ha, empty_of hs, empty_of hq]
    refine ⟨?_, fun z hz => by simp at hz; subst hz; rw [hc]; exact hy⟩
    rcases h with rfl | rfl <;> simp
  | two op y z h h2 hy hz =>
    obtain ⟨a, b, ha, hc, hd⟩ := map_two hx
    rw [ha]
    unfold numOk namesOk partsOk partsI
    rw [ho, hn, ha, empty_of hs, empty_of hq]
    refine ⟨?_, fun u hu => by
      simp at hu
      rcases hu with rfl | rfl
      · rw [hc]; exact hy
      · rw [hd]; exact hz⟩
    have e1 : (op == 1) = false := by simp; omega
    have e2 : (op == 2) = false := by simp; omega
    have e3 : (op == 3) = false := by simp; omega
    have e4 : (op == 4) = false := by simp; omega
    have e5 : (op == 5) = false := by simp; omega
    have e6 : (op == 6) = false := by simp; omega
    rw [e1, e2, e3, e4, e5, e6]
    simp [h, h2]
theorem rExpr_upto : ∀ (m : Nat) (e : Ex), size e ≤ m → OkX (core e) → rExpr e = true
  | 0, e, h, _ => by rw [size_eq] at h; omega
  | m + 1, e, h, ho => by
    obtain ⟨h1, h2⟩ := rX_ok ho
    unfold rExpr
    rw [flat_eq, List.all_cons, h1, Bool.true_and]
    unfold flatL
    rw [List.all_flatMap, List.all_eq_true]
    intro y hy
    exact rExpr_upto m y (by have := size_part hy; omega) (h2 y hy)
theorem rExpr_ok {e : Ex} (h : OkX (core e)) : rExpr e = true := rExpr_upto _ e (Nat.le_refl _) h
theorem zero_nil {e : Ex} (h : core e = nilT) : zeroX e = true := by
  rw [core_eq] at h
  unfold nilT at h
  injection h with h1 h2 h3 h4 h5
  unfold zeroX
  rw [h1, h2, empty_of h3, empty_of h4, List.map_eq_nil_iff.1 h5]
  rfl
/-- One statement. -/
theorem rStmt_ok {s : St} (h : OkS (coreS s)) : rStmt s = true ∧ (∀ y ∈ s.b, OkS (coreS y)) ∧ ∀ y ∈ s.b2, OkS (coreS y) := by
  rw [coreS_eq] at h
  generalize ho : s.op = op at h
  generalize hs : s.s.data.toList = t at h
  generalize he : core s.e = e at h
  generalize hb : s.b.map coreS = b at h
  generalize hb2 : s.b2.map coreS = b2 at h
  unfold rStmt targetOk blocksOk askedOk nameB
  rw [ho]
  cases h with
  | def_ s e h hx =>
    have h0 := List.map_eq_nil_iff.1 hb
    have h2 := List.map_eq_nil_iff.1 hb2
    rw [hs, h, h0, h2, rExpr_ok (he.symm ▸ hx)]
    simp
  | set_ s e h hx =>
    have h0 := List.map_eq_nil_iff.1 hb
    have h2 := List.map_eq_nil_iff.1 hb2
    rw [hs, h, h0, h2, rExpr_ok (he.symm ▸ hx)]
    simp
  | if_ e b b2 hx h1 h2 =>
    rw [empty_of hs, rExpr_ok (he.symm ▸ hx)]
    exact ⟨rfl, fun y hy => h1 _ (by rw [← hb]; exact List.mem_map_of_mem hy), fun y hy => h2 _ (by rw [← hb2]; exact List.mem_map_of_mem hy)⟩
  | for_ e b hx h1 =>
    have h2 := List.map_eq_nil_iff.1 hb2
    rw [empty_of hs, h2, rExpr_ok (he.symm ▸ hx)]
    exact ⟨rfl, fun y hy => h1 _ (by rw [← hb]; exact List.mem_map_of_mem hy), fun y hy => by simp at hy⟩
  | ret e hx =>
    have h0 := List.map_eq_nil_iff.1 hb
    have h2 := List.map_eq_nil_iff.1 hb2
    rw [empty_of hs, h0, h2, rExpr_ok (he.symm ▸ hx)]
    simp
  | retn =>
    have h0 := List.map_eq_nil_iff.1 hb
    have h2 := List.map_eq_nil_iff.1 hb2
    rw [empty_of hs, h0, h2, zero_nil he]
    simp
  | print e hx =>
    have h0 := List.map_eq_nil_iff.1 hb
    have h2 := List.map_eq_nil_iff.1 hb2
    rw [empty_of hs, h0, h2, rExpr_ok (he.symm ▸ hx)]
    simp
  | call t q x hx =>
    have h0 := List.map_eq_nil_iff.1 hb
    have h2 := List.map_eq_nil_iff.1 hb2
    have h4 : s.e.op = 4 := by
      rw [core_eq] at he
      injection he
    rw [empty_of hs, h0, h2, rExpr_ok (he.symm ▸ hx), h4]
    simp
  | brk =>
    have h0 := List.map_eq_nil_iff.1 hb
    have h2 := List.map_eq_nil_iff.1 hb2
    rw [empty_of hs, h0, h2, zero_nil he]
    simp
  | nxt =>
    have h0 := List.map_eq_nil_iff.1 hb
    have h2 := List.map_eq_nil_iff.1 hb2
    rw [empty_of hs, h0, h2, zero_nil he]
    simp
theorem rStmts_upto : ∀ (m : Nat) (l : List St), sizeB l ≤ m → (∀ y ∈ l, OkS (coreS y)) → (flatB l).all rStmt = true
  | _, [], _, _ => rfl
  | 0, s :: l, h, _ => by rw [sizeB_cons, sizeS_eq] at h; omega
  | m + 1, s :: l, h, ho => by
    obtain ⟨h1, h2, h3⟩ := rStmt_ok (ho s (by simp))
    rw [sizeB_cons, sizeS_eq] at h
    rw [flatB_cons, flatS_eq, List.all_append, List.all_cons, List.all_append, h1, rStmts_upto m s.b (by omega) h2, rStmts_upto m s.b2 (by omega) h3, rStmts_upto m l (by omega) (fun y hy => ho y (by simp [hy]))]
    rfl
theorem rStmts_ok {l : List St} (h : ∀ y ∈ l, OkS (coreS y)) : (flatB l).all rStmt = true := rStmts_upto _ l (Nat.le_refl _) h
theorem word_ok {s : ByteArray} (h : wordOk s.data.toList) : wordB s = true := by
  unfold wordB nameB
  rcases h with h | h <;> rw [h] <;> simp
theorem par_ok {p : Par} (h : OkP (coreP p)) : wPar p = false := by
  obtain ⟨h1, h2⟩ := h
  unfold wPar nameB valB
  rw [show Lex.nameOk p.s.data.toList = true from h1]
  rcases h2 with h2 | h2
  · rw [show p.t = 1 from h2]; rfl
  · rw [show p.t = 2 from h2]; rfl
theorem fn_ok {f : Tre.Fn} (h : OkF (coreF f)) : wFn f = false := by
  obtain ⟨h1, h2, h3, h4, h5⟩ := h
  unfold wFn nameB
  rw [show Lex.nameOk f.s.data.toList = true from h1]
  have e2 : f.p.length ≤ 4 := by have : (f.p.map coreP).length ≤ 4 := h2; rwa [List.length_map] at this
  have e3 : f.p.any wPar = false := by
    rw [List.any_eq_false]
    intro p hp
    rw [par_ok (h3 _ (List.mem_map_of_mem hp))]
    simp
  have e5 : (flatB f.b).all rStmt = true := rStmts_ok (fun y hy => h5 _ (List.mem_map_of_mem hy))
  rw [e3, e5, show decide (4 < f.p.length) = false from decide_eq_false (by omega)]
  rcases h4 with h4 | h4 | h4
  · rw [show f.r = 0 from h4]; rfl
  · rw [show f.r = 1 from h4]; rfl
  · rw [show f.r = 2 from h4]; rfl
theorem file_right {f : Fl} (h : OkL (coreL f)) : rFile f = true := by
  obtain ⟨h1, h2, h3, h4, h5⟩ := h
  unfold rFile rHead
  have e2 : f.i.length ≤ 8 := by have : (f.i.map _).length ≤ 8 := h2; rwa [List.length_map] at this
  have e3 : f.f.length ≤ 32 := by have : (f.f.map coreF).length ≤ 32 := h3; rwa [List.length_map] at this
  have e4 : f.i.any (fun s => !wordB s) = false := by
    rw [List.any_eq_false]
    intro s hs
    rw [word_ok (h4 _ (List.mem_map_of_mem hs))]
    simp
  have e5 : f.f.any wFn = false := by
    rw [List.any_eq_false]
    intro g hg
    rw [fn_ok (h5 _ (List.mem_map_of_mem hg))]
    simp
  rw [word_ok h1, e4, e5, decide_eq_true e2, decide_eq_true e3]
  rfl
/-- How many nodes. -/
theorem nodesS_le (s : St) : (nodesS givenB s).length ≤ 1 + sizeT (core s.e) := by
  unfold nodesS
  rw [size_core]
  split
  · unfold size; simp; omega
  · simp
theorem nodesB_le : ∀ (m : Nat) (l : List St), sizeB l ≤ m → ((flatB l).flatMap (nodesS givenB)).length ≤ sumS (l.map coreS)
  | _, [], _ => by simp [flatB, sumS]
  | 0, s :: l, h => by rw [sizeB_cons, sizeS_eq] at h; omega
  | m + 1, s :: l, h => by
    rw [sizeB_cons, sizeS_eq] at h
    have h1 := nodesB_le m s.b (by omega)
    have h2 := nodesB_le m s.b2 (by omega)
    have h3 := nodesB_le m l (by omega)
    have h4 := nodesS_le s
    have h5 : sumS ((s :: l).map coreS) = wtS (coreS s) + sumS (l.map coreS) := by simp [sumS]
    rw [h5, coreS_eq, wtS_eq, flatB_cons, flatS_eq, List.flatMap_append, List.flatMap_cons, List.flatMap_append, List.length_append, List.length_append, List.length_append]
    omega
theorem nodes_le (l : List Tre.Fn) : (nodes givenB l).length ≤ sumF (l.map coreF) := by
  induction l with
  | nil => simp [nodes]
  | cons f l ih =>
    have h1 := nodesB_le _ f.b (Nat.le_refl _)
    have h5 : sumF ((f :: l).map coreF) = wtF (coreF f) + sumF (l.map coreF) := by simp [sumF]
    have h6 : wtF (coreF f) = 1 + sumS (f.b.map coreS) := rfl
    rw [h5, h6]
    unfold nodes at ih ⊢
    rw [List.flatMap_cons, List.length_append, show nodesF givenB f = nilX :: (flatB f.b).flatMap (nodesS givenB) from rfl, List.length_cons]
    omega
end Go.Proofs.YtmihlmlojmdhjaaGreatDoor.Prg
/- What is right is told again from its text: of the tree that holds it (the other way than GRgt's). No condition. -/
namespace Go.Proofs.YtmihlmlojmdhjaaGreatDoor.Prg
open Tre Prs
set_option maxRecDepth 100000
theorem of_empty {s : ByteArray} (h : (s.toList == []) = true) : s.data.toList = [] := by
  rw [ByteArray.toList_eq] at h
  simpa using h
theorem rX_back {e : Ex} (h : rX e = true) (hx : ∀ y ∈ e.x, OkX (core y)) : OkX (core e) := by
  rw [core_eq]
  unfold rX numOk namesOk partsOk nameB partsI at h
  simp only [Bool.and_eq_true] at h
  obtain ⟨⟨h1, h2⟩, h3⟩ := h
  generalize e.op = op at *
  generalize e.n = n at *
  generalize e.s = s at *
  generalize e.q = q at *
  generalize e.x = x at *
  by_cases o4 : op = 4
  · subst o4
    simp at h1 h2 h3
    subst h1
    refine .call _ _ _ h2.1 ?_ (by rw [List.length_map]; simpa using h3) (fun y hy => ?_)
    · rcases h2.2 with h | h
      · exact .inl (of_empty (by simpa using h))
      · exact .inr h
    · obtain ⟨z, hz, rfl⟩ := List.mem_map.1 hy
      exact hx z hz
  have e4 : (op == 4) = false := by simpa using o4
  rw [e4] at h2 h3
  simp only [Bool.false_eq_true, if_false] at h2 h3
  by_cases o3 : op = 3
  · subst o3
    simp at h1 h2 h3
    have hx0 : x = [] := by simpa using h3
    subst hx0
    subst h1
    rw [show q.data.toList = [] from of_empty (by simpa using h2.2)]
    exact .name _ h2.1
  have e3 : (op == 3) = false := by simpa using o3
  rw [e3] at h2 h3
  simp only [Bool.false_eq_true, if_false, Bool.and_eq_true] at h2
  have hs := of_empty h2.1
  have hq := of_empty h2.2
  rw [hs, hq]
  by_cases o1 : op = 1
  · subst o1
    simp at h1 h3
    have hx0 : x = [] := by simpa using h3
    subst hx0
    exact .num _ h1
  by_cases o2 : op = 2
  · subst o2
    simp at h1 h3
    have hx0 : x = [] := by simpa using h3
    subst hx0
    exact .truth _ h1
  have e1 : (op == 1) = false := by simpa using o1
  have e2 : (op == 2) = false := by simpa using o2
  rw [e1, e2] at h1 h3
  simp only [Bool.false_eq_true, if_false, Bool.or_false, beq_iff_eq] at h1 h3
  subst h1
  by_cases o5 : op = 5 ∨ op = 6
  · have hl : x.length = 1 := by rcases o5 with rfl | rfl <;> simp at h3 <;> omega
    obtain ⟨y, rfl⟩ := List.length_eq_one_iff.1 hl
    exact .one op _ o5 (hx y (by simp))
  · have o7 : 7 ≤ op ∧ op ≤ 19 := by
      refine Decidable.byContradiction fun hn => ?_
      rw [if_neg (by simpa using o5)] at h3
      rw [if_neg (by simpa using hn)] at h3
      omega
    have hl : x.length = 2 := by
      rw [if_neg (by simpa using o5)] at h3
      rw [if_pos (by simpa using o7)] at h3
      omega
    match x, hl with
    | [y, z], _ => exact .two op _ _ o7.1 o7.2 (hx y (by simp)) (hx z (by simp))
theorem rExpr_back_upto : ∀ (m : Nat) (e : Ex), size e ≤ m → rExpr e = true → OkX (core e)
  | 0, e, h, _ => by rw [size_eq] at h; omega
  | m + 1, e, h, hr => by
    unfold rExpr at hr
    rw [flat_eq, List.all_cons, Bool.and_eq_true] at hr
    refine rX_back hr.1 (fun y hy => rExpr_back_upto m y (by have := size_part hy; omega) ?_)
    have h2 := hr.2
    unfold flatL at h2
    rw [List.all_flatMap, List.all_eq_true] at h2
    exact h2 y hy
theorem rExpr_back {e : Ex} (h : rExpr e = true) : OkX (core e) := rExpr_back_upto _ e (Nat.le_refl _) h
theorem zero_back {e : Ex} (h : zeroX e = true) : core e = nilT := by
  unfold zeroX at h
  simp only [Bool.and_eq_true, beq_iff_eq] at h
  obtain ⟨⟨⟨⟨h1, h2⟩, h3⟩, h4⟩, h5⟩ := h
  rw [core_eq, h1, h2, of_empty (by simpa using h3), of_empty (by simpa using h4), List.length_eq_zero_iff.1 h5]
  rfl
theorem rStmt_back {s : St} (h : rStmt s = true) (hb : ∀ y ∈ s.b, OkS (coreS y)) (hb2 : ∀ y ∈ s.b2, OkS (coreS y)) : OkS (coreS s) := by
  rw [coreS_eq]
  unfold rStmt targetOk blocksOk askedOk nameB at h
  simp only [Bool.and_eq_true] at h
  obtain ⟨⟨h1, h2⟩, h3⟩ := h
  generalize s.op = op at *
  generalize s.s = t at *
  generalize s.e = e at *
  generalize s.b = b at *
  generalize s.b2 = b2 at *
  have hm : ∀ y ∈ b.map coreS, OkS y := fun y hy => by
    obtain ⟨z, hz, rfl⟩ := List.mem_map.1 hy
    exact hb z hz
  have hm2 : ∀ y ∈ b2.map coreS, OkS y := fun y hy => by
    obtain ⟨z, hz, rfl⟩ := List.mem_map.1 hy
    exact hb2 z hz
  by_cases o1 : op = 1
  · subst o1
    simp at h1 h2 h3
    rw [h2.1, h2.2]
    exact .def_ _ _ h1 (rExpr_back h3)
  by_cases o2 : op = 2
  · subst o2
    simp at h1 h2 h3
    rw [h2.1, h2.2]
    exact .set_ _ _ h1 (rExpr_back h3)
  have ht : t.data.toList = [] := by
    rw [if_neg (by simp [o1, o2])] at h1
    exact of_empty h1
  rw [ht]
  by_cases o3 : op = 3
  · subst o3
    simp at h3
    exact .if_ _ _ _ (rExpr_back h3) hm hm2
  by_cases o4 : op = 4
  · subst o4
    simp at h2 h3
    rw [h2]
    exact .for_ _ _ (rExpr_back h3) hm
  have h2' : b = [] ∧ b2 = [] := by
    rw [if_neg (by simp [o3]), if_neg (by simp [o4])] at h2
    simpa using h2
  rw [h2'.1, h2'.2]
  by_cases o5 : op = 5
  · subst o5
    simp at h3
    rcases h3 with h3 | h3
    · rw [zero_back h3]; exact .retn
    · exact .ret _ (rExpr_back h3)
  by_cases o6 : op = 6
  · subst o6
    simp at h3
    exact .print _ (rExpr_back h3)
  by_cases o7 : op = 7
  · subst o7
    simp at h3
    have hk := rExpr_back h3.2
    rw [core_eq, h3.1] at hk ⊢
    have hn : e.n = 0 := by
      generalize e.n = n at hk ⊢
      generalize e.s.data.toList = s at hk
      generalize e.q.data.toList = q at hk
      generalize e.x.map core = x at hk
      cases hk <;> rfl
    rw [hn] at hk ⊢
    exact .call _ _ _ hk
  by_cases o8 : op = 8
  · subst o8
    simp at h3
    rw [zero_back h3]; exact .brk
  by_cases o9 : op = 9
  · subst o9
    simp at h3
    rw [zero_back h3]; exact .nxt
  · exfalso
    simp [o1, o2, o3, o4, o5, o6, o7, o8, o9] at h3
theorem rStmts_back : ∀ (m : Nat) (l : List St), sizeB l ≤ m → (flatB l).all rStmt = true → ∀ y ∈ l, OkS (coreS y)
  | _, [], _, _ => fun y hy => by simp at hy
  | 0, s :: l, h, _ => by rw [sizeB_cons, sizeS_eq] at h; omega
  | m + 1, s :: l, h, hr => by
    rw [sizeB_cons, sizeS_eq] at h
    rw [flatB_cons, flatS_eq, List.all_append, List.all_cons, List.all_append] at hr
    simp only [Bool.and_eq_true] at hr
    intro y hy
    rcases List.mem_cons.1 hy with rfl | hy
    · exact rStmt_back hr.1.1 (rStmts_back m _ (by omega) hr.1.2.1) (rStmts_back m _ (by omega) hr.1.2.2)
    · exact rStmts_back m l (by omega) hr.2 y hy
theorem word_back {s : ByteArray} (h : wordB s = true) : wordOk s.data.toList := by
  unfold wordB nameB at h
  unfold wordOk
  simpa using h
theorem val_back {t : Int} (h : valB t = true) : t = 1 ∨ t = 2 := by
  unfold valB at h
  simpa using h
theorem fn_back {f : Tre.Fn} (h : wFn f = false) : OkF (coreF f) := by
  unfold wFn nameB at h
  simp only [Bool.or_eq_false_iff, Bool.not_eq_false'] at h
  obtain ⟨⟨⟨⟨h1, h2⟩, h3⟩, h4⟩, h5⟩ := h
  refine ⟨h1, ?_, fun p hp => ?_, ?_, fun y hy => ?_⟩
  · show (f.p.map coreP).length ≤ 4
    rw [List.length_map]
    have := of_decide_eq_false h2
    omega
  · obtain ⟨z, hz, rfl⟩ := List.mem_map.1 hp
    have h6 := List.any_eq_false.1 h3 z hz
    unfold wPar nameB at h6
    simp only [Bool.or_eq_true, not_or, Bool.not_eq_true', Bool.not_eq_false] at h6
    exact ⟨h6.1, val_back h6.2⟩
  · show f.r = 0 ∨ f.r = 1 ∨ f.r = 2
    simp only [Bool.and_eq_false_iff, Bool.not_eq_false'] at h4
    rcases h4 with h4 | h4
    · exact .inl (by simpa using h4)
    · exact .inr (val_back h4)
  · obtain ⟨z, hz, rfl⟩ := List.mem_map.1 hy
    exact rStmts_back _ f.b (Nat.le_refl _) h5 z hz
theorem file_back {f : Fl} (h : rFile f = true) : OkL (coreL f) := by
  unfold rFile rHead at h
  simp only [Bool.and_eq_true, Bool.not_eq_true', decide_eq_true_eq] at h
  obtain ⟨⟨⟨⟨h1, h2⟩, h3⟩, h4⟩, h5⟩ := h
  refine ⟨word_back h1, ?_, ?_, fun s hs => ?_, fun g hg => ?_⟩
  · show (f.i.map _).length ≤ 8
    rw [List.length_map]
    exact h2
  · show (f.f.map coreF).length ≤ 32
    rw [List.length_map]
    exact h3
  · obtain ⟨z, hz, rfl⟩ := List.mem_map.1 hs
    have h6 := List.any_eq_false.1 h4 z hz
    exact word_back (by simpa using h6)
  · obtain ⟨z, hz, rfl⟩ := List.mem_map.1 hg
    have h6 := List.any_eq_false.1 h5 z hz
    exact fn_back (by simpa using h6)
end Go.Proofs.YtmihlmlojmdhjaaGreatDoor.Prg
/- The program's writer writes an expression as its text. Conditions: the expression is right and lies in memory below the writer; sizes. -/
namespace Go.Proofs.YtmihlmlojmdhjaaGreatDoor.Wr
open Go.RowKit Tre
open Lex (Ch textC textC_cons textC_app textC_nil chT wdV)
open Prg (cw bl sg nm kw nu chX partC commasC opOf opS LoX OkX chX_call chX_one chX_two headC)
set_option maxRecDepth 100000
/-- The signs of the ops, as the table of package print has them. -/
def sgnP : List (List UInt8) := [[], [], [], [], [], [45], [33], [42], [47], [37], [43], [45], [61, 61], [33, 61], [60], [60, 61], [62], [62, 61], [38, 38], [124, 124]]
def PSg (w : World) : Prop := ∀ i, i < 20 → w.cell? ⟨0, i, none⟩ = some (.string ⟨(sgnP.getD i []).toArray⟩)
theorem PSg.pos {w : World} (h : PSg w) : 0 < w.heap.size := World.block_lt_of_cell? w _ (h 0 (by decide))
theorem PSg.below {w w' : World} (h : PSg w) (hb : Below w.heap.size w w') : PSg w' := fun i hi => (World.cell?_of_block (w := w) (hb.block _ h.pos)).trans (h i hi)
structure Gd (w : World) : Prop where
  s : PSg w
  t : Num.Tab w
theorem Gd.below {w w' : World} (h : Gd w) (hb : Below w.heap.size w w') : Gd w' := ⟨h.s.below hb, Num.tab_below h.t hb⟩
def truthT (n : Int) : List UInt8 := if n = 0 then [102, 97, 108, 115, 101] else [116, 114, 117, 101]
set_option maxHeartbeats 4000000 in
theorem truth_any {lo b : Nat} {n : Int} {l : List UInt8} {w : World} (h : Wt w lo b n l) (v : Int) (hs : l.length + (truthT v).length ≤ room) :
    Calls Tryz.prog 46 #[pb b, .int .i64 v] w (Wrote lo b n (l ++ truthT v) w) := by
  unfold truthT at hs ⊢
  rcases Bool.eq_false_or_eq_true (v == 0) with hv | hv
  · obtain rfl : v = 0 := by simpa using hv
    rw [if_pos rfl] at hs ⊢
    have C1 := Lib.hid (lay1 h ⟨#[102, 97, 108, 115, 101]⟩ hs)
    clear h hs
    go_enter Tryz.func46, Tryz.ntmps46
    go_wp2_with fail
    refine C1.out.mono ?_
    rintro e1 w1 ⟨rfl, h1, h2⟩
    have K := Lib.hid (And.intro h1 h2)
    clear h1 h2
    go_wp2_with fail
    go_end0
    exact ⟨rfl, K.out⟩
  · rw [if_neg (by simpa using hv)] at hs ⊢
    have C1 := Lib.hid (lay1 h ⟨#[116, 114, 117, 101]⟩ hs)
    clear h hs
    go_enter Tryz.func46, Tryz.ntmps46
    go_wp2_with fail
    refine C1.out.mono ?_
    rintro e1 w1 ⟨rfl, h1, h2⟩
    have K := Lib.hid (And.intro h1 h2)
    clear h1 h2
    go_wp2_with fail
    go_end0
    exact ⟨rfl, K.out⟩
theorem TX_num (n : Int) (s q : ByteArray) (a : Option Addr) (c : Nat) (x : List Ex) : TX (.mk 1 n s q a c x) = Lex.shown (nu n) := by
  unfold TX
  rw [core_eq, chX]
  simp only [Ex.op, Ex.n, if_true]
  rw [text_w, textC_nil, List.append_nil]
theorem TX_truth (n : Int) (s q : ByteArray) (a : Option Addr) (c : Nat) (x : List Ex) (h : n = 0 ∨ n = 1) : TX (.mk 2 n s q a c x) = truthT n := by
  unfold TX truthT
  rw [core_eq, chX]
  simp only [Ex.op, Ex.n, show ¬ (2 : Int) = 1 by decide, if_false, if_true]
  rw [text_w, textC_nil, List.append_nil, shown_kw]
  rcases h with rfl | rfl <;> rfl
theorem TX_name (n : Int) (s q : ByteArray) (a : Option Addr) (c : Nat) (x : List Ex) : TX (.mk 3 n s q a c x) = s.data.toList := by
  unfold TX
  rw [core_eq, chX]
  simp only [Ex.op, Ex.s, show ¬ (3 : Int) = 1 by decide, show ¬ (3 : Int) = 2 by decide, if_false, if_true]
  rw [text_w, textC_nil, List.append_nil, shown_nm]
def headT (s q : ByteArray) : List UInt8 := if q.data.toList = [] then s.data.toList else q.data.toList ++ ([46] ++ s.data.toList)
theorem TX_call (n : Int) (s q : ByteArray) (a : Option Addr) (c : Nat) (x : List Ex) : TX (.mk 4 n s q a c x) = headT s q ++ TLX x := by
  unfold TX headT TLX TCX
  rw [core_eq]
  simp only [Ex.op, Ex.s, Ex.q, Ex.n, Ex.x]
  rw [chX_call, textC_app, text_w, textC_app, text_w, textC_nil, shown_sg, shown_sg, List.map_map]
  unfold headC
  split
  · rw [text_w, textC_nil, shown_nm]; simp; rfl
  · rw [text_w, text_w, text_w, textC_nil, shown_nm, shown_nm, shown_sg]; simp; rfl
theorem TX_one (op n : Int) (s q : ByteArray) (a : Option Addr) (c : Nat) (y : Ex) (h : op = 5 ∨ op = 6) : TX (.mk op n s q a c [y]) = (if op = 5 then [45] else [33]) ++ TP y := by
  unfold TX TP
  rw [core_eq]
  simp only [Ex.op, Ex.s, Ex.q, Ex.n, Ex.x, List.map_cons, List.map_nil]
  rw [chX_one _ _ _ _ _ h, text_w, shown_sg]
theorem TX_two (op n : Int) (s q : ByteArray) (a : Option Addr) (c : Nat) (y z : Ex) (h : 7 ≤ op) : TX (.mk op n s q a c [y, z]) = TP y ++ (([32] ++ (opS op ++ [32])) ++ TP z) := by
  unfold TX TP
  rw [core_eq]
  simp only [Ex.op, Ex.s, Ex.q, Ex.n, Ex.x, List.map_cons, List.map_nil]
  rw [chX_two _ _ _ _ _ _ h, textC_app, text_bl, text_w, text_bl, shown_sg]
  simp
theorem sgn_op {k : Nat} (h1 : 7 ≤ k) (h2 : k ≤ 19) : sgnP.getD k [] = opS (k : Int) := by
  obtain rfl | rfl | rfl | rfl | rfl | rfl | rfl | rfl | rfl | rfl | rfl | rfl | rfl : k = 7 ∨ k = 8 ∨ k = 9 ∨ k = 10 ∨ k = 11 ∨ k = 12 ∨ k = 13 ∨ k = 14 ∨ k = 15 ∨ k = 16 ∨ k = 17 ∨ k = 18 ∨ k = 19 := by omega
  all_goals decide
section
variable {w0 : World} {b : Nat} {n : Int} {w : World} {l : List UInt8}
set_option maxHeartbeats 4000000 in
theorem expr_num (v : Int) (s q : ByteArray) (a : Option Addr) (c k : Nat) (h1 : v ≤ 9223372036854775807) (hG : Gd w) (h : Wt w w0.heap.size b n l) (hs : l.length + (Lex.shown (nu v)).length ≤ room) :
    Calls Tryz.prog 22 #[pb b, .agg #[.int .i64 1, .int .i64 v, .string s, .string q, .slice a k c]] w (Wrote w0.heap.size b n (l ++ Lex.shown (nu v)) w) := by
  obtain ⟨T0, S0, HN0, hne⟩ := h.box #[.int .i64 1, .int .i64 v, .string s, .string q, .slice a k c] 42
  have CS := Lex.show_any (nu v) (w.alloc (.cells #[.int .i64 1, .int .i64 v, .string s, .string q, .slice a k c] 42)) (by simp) h1 (hG.below ((Below.refl _ w).alloc (Nat.le_refl _) _)).t
  obtain ⟨W0, hW0⟩ : ∃ W0, w.alloc (.cells #[.int .i64 1, .int .i64 v, .string s, .string q, .slice a k c] 42) = W0 := ⟨_, rfl⟩
  rw [hW0] at T0 S0 HN0 CS
  obtain ⟨z0, z1, z2, z3, z4⟩ := x5 HN0
  have CS' : Calls Tryz.prog 45 #[.agg #[.int .i64 2, .string ⟨#[]⟩, .int .i64 v]] W0 (fun e w' => e = .returned (.string ⟨(Lex.shown (nu v)).toArray⟩) ∧ Below W0.heap.size W0 w') := CS
  have C1 := Lib.hid CS'
  have G1 := Lib.hid T0
  have G2 := Lib.hid S0
  have G6 := Lib.hid hs
  generalize Lex.shown (nu v) = z at *
  clear CS CS' T0 S0 HN0 hs h h1 hG hne
  go_enter Tryz.func22, Tryz.ntmps22
  go_wp2_with fail
  refine C1.out.mono ?_
  rintro e1 w1 ⟨rfl, hb1⟩
  have C2 := Lib.hid (lay1 (G1.out.new hb1) ⟨z.toArray⟩ (by have := G6.out; simpa [ByteArray.size] using this))
  have G3 := Lib.hid (G2.out.trans (Stp.new hb1 G1.out.lo))
  clear hb1
  go_wp2_with fail
  refine C2.out.mono ?_
  rintro e1 w2 ⟨rfl, h1, h2⟩
  have K := Lib.hid (And.intro h1 (G3.out.trans h2))
  clear h1 h2
  go_wp2_with fail
  go_end0
  exact ⟨rfl, by simpa using K.out.1, K.out.2⟩
set_option maxHeartbeats 4000000 in
theorem expr_truth (v : Int) (s q : ByteArray) (a : Option Addr) (c k : Nat) (h : Wt w w0.heap.size b n l) (hs : l.length + (truthT v).length ≤ room) :
    Calls Tryz.prog 22 #[pb b, .agg #[.int .i64 2, .int .i64 v, .string s, .string q, .slice a k c]] w (Wrote w0.heap.size b n (l ++ truthT v) w) := by
  obtain ⟨T0, S0, HN0, hne⟩ := h.box #[.int .i64 2, .int .i64 v, .string s, .string q, .slice a k c] 42
  obtain ⟨W0, hW0⟩ : ∃ W0, w.alloc (.cells #[.int .i64 2, .int .i64 v, .string s, .string q, .slice a k c] 42) = W0 := ⟨_, rfl⟩
  rw [hW0] at T0 S0 HN0
  obtain ⟨z0, z1, z2, z3, z4⟩ := x5 HN0
  have C1 := Lib.hid (truth_any T0 v hs)
  have G2 := Lib.hid S0
  generalize truthT v = z at *
  clear T0 S0 HN0 hs h hne
  go_enter Tryz.func22, Tryz.ntmps22
  go_wp2_with fail
  refine C1.out.mono ?_
  rintro e1 w2 ⟨rfl, h1, h2⟩
  have K := Lib.hid (And.intro h1 (G2.out.trans h2))
  clear h1 h2
  go_wp2_with fail
  go_end0
  exact ⟨rfl, K.out⟩
set_option maxHeartbeats 4000000 in
theorem expr_name (v : Int) (s q : ByteArray) (a : Option Addr) (c k : Nat) (h : Wt w w0.heap.size b n l) (hs : l.length + s.size ≤ room) :
    Calls Tryz.prog 22 #[pb b, .agg #[.int .i64 3, .int .i64 v, .string s, .string q, .slice a k c]] w (Wrote w0.heap.size b n (l ++ s.data.toList) w) := by
  obtain ⟨T0, S0, HN0, hne⟩ := h.box #[.int .i64 3, .int .i64 v, .string s, .string q, .slice a k c] 42
  obtain ⟨W0, hW0⟩ : ∃ W0, w.alloc (.cells #[.int .i64 3, .int .i64 v, .string s, .string q, .slice a k c] 42) = W0 := ⟨_, rfl⟩
  rw [hW0] at T0 S0 HN0
  obtain ⟨z0, z1, z2, z3, z4⟩ := x5 HN0
  have C1 := Lib.hid (lay1 T0 s hs)
  have G2 := Lib.hid S0
  clear T0 S0 HN0 hs h hne
  go_enter Tryz.func22, Tryz.ntmps22
  go_wp2_with fail
  refine C1.out.mono ?_
  rintro e1 w2 ⟨rfl, h1, h2⟩
  have K := Lib.hid (And.intro h1 (G2.out.trans h2))
  clear h1 h2
  go_wp2_with fail
  go_end0
  exact ⟨rfl, K.out⟩
end
end Go.Proofs.YtmihlmlojmdhjaaGreatDoor.Wr
