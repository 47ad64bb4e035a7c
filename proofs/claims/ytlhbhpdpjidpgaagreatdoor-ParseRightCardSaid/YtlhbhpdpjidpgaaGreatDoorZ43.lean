/-
  What the grammar tells is right, and no greater than its words: statements, functions, files. No condition.
-/
import Derived.Test.YtlhbhpdpjidpgaaGreatDoorZ28
import Derived.Test.YtlhbhpdpjidpgaaGreatDoorZ33
import Derived.Test.YtlhbhpdpjidpgaaGreatDoorZ42
namespace Go.Proofs.YtlhbhpdpjidpgaaGreatDoor.Prg
open Tre Prs
set_option maxRecDepth 100000
/-- How much a statement is: itself, its expression, its parts. -/
def wtS : Ts → Nat
  | .mk _ _ e b b2 => 1 + sizeT e + (b.attach.map (fun ⟨y, _⟩ => wtS y)).sum + (b2.attach.map (fun ⟨y, _⟩ => wtS y)).sum
def sumS (l : List Ts) : Nat := (l.map wtS).sum
theorem wtS_eq (op : Int) (s : List UInt8) (e : Tx) (b b2 : List Ts) : wtS (.mk op s e b b2) = 1 + sizeT e + sumS b + sumS b2 := by
  rw [wtS]
  congr 1
  · congr 1
    unfold sumS
    congr 1
    exact List.map_subtype (fun _ _ => rfl) |>.trans (by simp)
  · unfold sumS
    congr 1
    exact List.map_subtype (fun _ _ => rfl) |>.trans (by simp)
theorem sumS_app (l m : List Ts) : sumS (l ++ m) = sumS l + sumS m := by simp [sumS]
theorem sumS_one (x : Ts) : sumS [x] = wtS x := by simp [sumS]
theorem sumS_nil : sumS [] = 0 := rfl
theorem size_nil : sizeT nilT = 1 := by unfold nilT; rw [sizeT_eq, sumT_nil]
/-- A right statement. -/
inductive OkS : Ts → Prop
  | def_ (s : List UInt8) (e : Tx) (h : Lex.nameOk s = true) (he : OkX e) : OkS (.mk 1 s e [] [])
  | set_ (s : List UInt8) (e : Tx) (h : Lex.nameOk s = true) (he : OkX e) : OkS (.mk 2 s e [] [])
  | if_ (e : Tx) (b b2 : List Ts) (he : OkX e) (hb : ∀ y ∈ b, OkS y) (hb2 : ∀ y ∈ b2, OkS y) : OkS (.mk 3 [] e b b2)
  | for_ (e : Tx) (b : List Ts) (he : OkX e) (hb : ∀ y ∈ b, OkS y) : OkS (.mk 4 [] e b [])
  | ret (e : Tx) (he : OkX e) : OkS (.mk 5 [] e [] [])
  | retn : OkS (.mk 5 [] nilT [] [])
  | print (e : Tx) (he : OkX e) : OkS (.mk 6 [] e [] [])
  | call (s q : List UInt8) (x : List Tx) (he : OkX (.mk 4 0 s q x)) : OkS (.mk 7 [] (.mk 4 0 s q x) [] [])
  | brk : OkS (.mk 8 [] nilT [] [])
  | nxt : OkS (.mk 9 [] nilT [] [])
theorem not_badS {j : SJob} {r : PS} (h : (tellS j r).2.bad = false) : r.bad = false := by
  cases hb : r.bad with
  | false => rfl
  | true => rw [tellS_bad hb] at h; cases h
theorem forX_suf (r : PS) : (forX r).2.l <:+ r.l := by
  unfold forX
  split
  · exact List.suffix_refl _
  · exact tell_suf _ _
theorem retS_suf (r : PS) : (retS r).2.l <:+ r.l := by
  unfold retS
  split
  · exact tell_suf _ _
  · exact List.suffix_refl _
theorem prtS_suf (r : PS) : (prtS r).2.l <:+ r.l := (mustW_suf _ _).trans ((tell_suf _ _).trans (mustW_suf _ _))
theorem nameS_suf (s : List UInt8) (r : PS) : (nameS s r).2.l <:+ r.l := by
  unfold nameS
  split
  · exact (tell_suf _ _).trans (tl_suf r)
  split
  · exact (tell_suf _ _).trans (tl_suf r)
  · exact tell_suf _ _
theorem runS_suf : ∀ (n : Nat) (j : SJob) (r : PS), (runS n j r).2.l <:+ r.l
  | 0, _, _ => List.suffix_refl _
  | n + 1, .block, r => (runS_suf n _ _).trans (mustW_suf _ _)
  | n + 1, .loop l, r => by
    unfold runS
    split
    · exact mustW_suf _ _
    split
    · exact (runS_suf n _ _).trans ((tl_suf _).trans (runS_suf n _ _))
    · exact (mustW_suf _ _).trans (runS_suf n _ _)
  | n + 1, .when, r => by
    have h1 := (runS_suf n .block (tell (.row 0) r).2).trans (tell_suf (.row 0) r)
    unfold runS
    split
    · split
      · exact (runS_suf n _ _).trans ((tl_suf _).trans ((tl_suf _).trans h1))
      · exact (runS_suf n _ _).trans ((tl_suf _).trans h1)
    · exact h1
  | n + 1, .stmt, r => by
    unfold runS
    split
    · exact (runS_suf n _ _).trans (tl_suf r)
    split
    · exact (runS_suf n _ _).trans ((forX_suf _).trans (tl_suf r))
    split
    · exact (retS_suf _).trans (tl_suf r)
    split
    · exact (prtS_suf _).trans (tl_suf r)
    split
    · exact tl_suf r
    split
    · exact tl_suf r
    · exact (nameS_suf _ _).trans (wordR_suf _ _ _)
theorem tellS_suf (j : SJob) (r : PS) : (tellS j r).2.l <:+ r.l := runS_suf _ _ _
theorem forX_big {r : PS} (h : (forX r).2.big = false) : r.big = false := by
  unfold forX at h
  split at h
  · exact h
  · exact tell_big h
theorem runS_big : ∀ (n : Nat) (j : SJob) (r : PS), r.big = true → (runS n j r).2.big = true := by
  have ht : ∀ (j : Job) (r : PS), r.big = true → (tell j r).2.big = true := fun j r h => run_big _ _ _ h
  have hm : ∀ (r : PS) (s : List UInt8), r.big = true → (mustW r s).big = true := fun r s h => by rw [mustW_big]; exact h
  intro n
  induction n with
  | zero => exact fun _ _ h => h
  | succ n ih =>
    intro j r h
    cases j with
    | block => exact ih _ _ (hm _ _ h)
    | loop l =>
      unfold runS
      split
      · exact hm _ _ h
      split
      · exact ih _ _ (ih .stmt r h)
      · exact hm _ _ (ih _ _ h)
    | when =>
      have h1 := ih .block _ (ht (.row 0) r h)
      unfold runS
      split
      · split
        · exact ih _ _ h1
        · exact ih _ _ h1
      · exact h1
    | stmt =>
      unfold runS
      split
      · exact ih _ _ h
      split
      · refine ih _ _ ?_
        unfold forX
        split
        · exact h
        · exact ht _ _ h
      split
      · unfold retS
        split
        · exact ht _ _ h
        · exact h
      split
      · exact hm _ _ (ht _ _ (hm _ _ h))
      split
      · exact h
      split
      · exact h
      · unfold nameS
        split
        · exact ht _ _ (by show (wordR r 1 false).big = true; rw [wordR_big]; exact h)
        split
        · exact ht _ _ (by show (wordR r 1 false).big = true; rw [wordR_big]; exact h)
        · exact ht _ _ (by rw [wordR_big]; exact h)
theorem tellS_big {j : SJob} {r : PS} (h : (tellS j r).2.big = false) : r.big = false := by
  cases hb : r.big with
  | false => rfl
  | true => rw [show (tellS j r).2.big = true from runS_big _ _ _ hb] at h; cases h
/-- What a job of statements brings along, and how much it takes at least. -/
def SOk : SJob → Prop
  | .loop l => ∀ y ∈ l, OkS y
  | _ => True
def sbase : SJob → Nat
  | .loop l => sumS l
  | _ => 0
def sless : SJob → Nat
  | .block => 6
  | .loop _ => 3
  | _ => 0
theorem expr_size {r : PS} (h : (tell (.row 0) r).2.bad = false) : sizeT (tell (.row 0) r).1 + 3 * lenR (tell (.row 0) r).2 ≤ 3 * lenR r := by
  have h1 := size_tell h
  have h2 := tell_lenR (.row 0) r
  simp only [base] at h1
  omega
theorem one_le (x : Tx) : 1 ≤ sizeT x := by cases x; rw [sizeT_eq]; omega
theorem call_form (s : List UInt8) (r : PS) (h : (tell (.call s) r).2.bad = false) : ∃ s' q x, (tell (.call s) r).1 = .mk 4 0 s' q x := by
  have args : ∀ (N : Nat) (q s' : List UInt8) (x : List Tx) (r : PS), lenB r ≤ N → (tell (.args q s' x) r).2.bad = false → ∃ s2 q2 x2, (tell (.args q s' x) r).1 = .mk 4 0 s2 q2 x2 := by
    intro N
    induction N with
    | zero =>
      intro q s' x r hl hb
      have := not_bad hb
      unfold lenB at hl
      rw [this] at hl
      simp at hl
    | succ N ih =>
      intro q s' x r hl hb
      rw [tell_args] at hb ⊢
      split
      · exact ⟨_, _, _, rfl⟩
      next hi =>
      rw [if_neg hi] at hb
      split
      · next hc =>
        rw [if_pos hc] at hb
        split
        · exact ⟨_, _, _, rfl⟩
        · next hd =>
          rw [if_neg hd] at hb
          have h1 := lenB_tl hc
          have hr : r.bad = false := not_bad (isW_pos hc).2
          have h2 : lenB (tell (.row 0) r).2 ≤ lenB r := by
            rw [lenB_lenR (isW_pos hc).2, lenB_lenR hr]
            have := tell_lenR (.row 0) r
            omega
          exact ih _ _ _ _ (by omega) hb
      · exact ⟨_, _, _, rfl⟩
  rw [tell_call] at h ⊢
  split
  · next hi => rw [if_pos hi] at h; exact args _ _ _ _ _ (Nat.le_refl _) h
  · next hi => rw [if_neg hi] at h; exact args _ _ _ _ _ (Nat.le_refl _) h
set_option maxHeartbeats 16000000 in
/-- No statement is greater than three times its words; and what is told is right. -/
theorem st_upto2 : ∀ (N : Nat) (j : SJob) (r : PS), enoughS j r ≤ N → (tellS j r).2.bad = false → (sumS (tellS j r).1 + 3 * lenR (tellS j r).2 + sless j ≤ 3 * lenR r + sbase j) ∧ (Goods r → SOk j → (tellS j r).2.big = false → ∀ y ∈ (tellS j r).1, OkS y)
  | 0, j, r, h, _ => by
    exfalso
    cases j <;> simp only [enoughS] at h
    case loop => split at h <;> omega
    all_goals omega
  | N + 1, .block, r, h, hb => by
    simp only [enoughS] at h
    rw [tellS_block] at hb ⊢
    obtain ⟨m1, m2, m3, m4⟩ := mustW_ok (not_badS hb)
    have h5 := enough_loop [] (mustW r [123])
    obtain ⟨a1, a2⟩ := st_upto2 N (.loop []) (mustW r [123]) (by omega) hb
    refine ⟨?_, fun hg _ hbig => a2 (hg.suf (mustW_suf _ _)) (fun y hy => by simp at hy) hbig⟩
    simp only [sbase, sless, sumS_nil] at *
    omega
  | N + 1, .loop l, r, h, hb => by
    have hr := not_badS hb
    simp only [enoughS, hr, Bool.false_eq_true, if_false] at h
    rw [tellS_loop] at hb ⊢
    split at hb
    · next hi =>
      rw [if_pos hi]
      obtain ⟨m1, _, _, _⟩ := mustW_ok hb
      refine ⟨?_, fun hg hj hbig => hj⟩
      simp only [sbase, sless]
      omega
    next hi =>
    rw [if_neg hi]
    have hl := tellS_lenR .stmt r
    split at hb
    · next hc =>
      rw [if_pos hc]
      have h1 := tl_ok hc
      obtain ⟨a1, a2⟩ := st_upto2 N .stmt r (by simp only [enoughS]; omega) (isW_pos hc).2
      have h5 := enough_loop (l ++ (tellS .stmt r).1) (tl (tellS .stmt r).2)
      obtain ⟨b1, b2⟩ := st_upto2 N (.loop (l ++ (tellS .stmt r).1)) (tl (tellS .stmt r).2) (by omega) hb
      refine ⟨?_, fun hg hj hbig => ?_⟩
      · simp only [sbase, sless, sumS_app] at *
        omega
      · have hbg : (tellS .stmt r).2.big = false := tellS_big (r := tl (tellS .stmt r).2) hbig
        refine b2 (hg.suf ((tl_suf _).trans (tellS_suf _ _))) (fun y hy => ?_) hbig
        rcases List.mem_append.1 hy with hy | hy
        · exact hj y hy
        · exact a2 hg trivial hbg y hy
    · next hc =>
      rw [if_neg hc]
      obtain ⟨m1, m2, m3, _⟩ := mustW_ok (r := (tellS .stmt r).2) (s := [125]) hb
      obtain ⟨a1, a2⟩ := st_upto2 N .stmt r (by simp only [enoughS]; omega) m2
      refine ⟨?_, fun hg hj hbig y hy => ?_⟩
      · simp only [sbase, sless, sumS_app] at *
        omega
      · have hbg : (tellS .stmt r).2.big = false := by rw [← m3]; exact hbig
        rcases List.mem_append.1 hy with hy | hy
        · exact hj y hy
        · exact a2 hg trivial hbg y hy
  | N + 1, .when, r, h, hb => by
    simp only [enoughS] at h
    have hxl := tell_lenR (.row 0) r
    have hbl := tellS_lenR .block (tell (.row 0) r).2
    rw [tellS_when] at hb ⊢
    split at hb
    · next hi =>
      rw [if_pos hi]
      have h1 := tl_ok hi
      have hbk := (isW_pos hi).2
      have hx := expr_size (not_badS hbk)
      obtain ⟨a1, a2⟩ := st_upto2 N .block (tell (.row 0) r).2 (by simp only [enoughS]; omega) hbk
      split at hb
      · next h2 =>
        rw [if_pos h2]
        have h3 := tl_ok h2
        obtain ⟨b1, b2⟩ := st_upto2 N .when (tl (tl (tellS .block (tell (.row 0) r).2).2)) (by simp only [enoughS]; omega) hb
        refine ⟨?_, fun hg _ hbig y hy => ?_⟩
        · simp only [one1, sbase, sless, sumS_one, wtS_eq] at *
          omega
        · have hbg : (tellS .block (tell (.row 0) r).2).2.big = false := tellS_big (r := tl (tl (tellS .block (tell (.row 0) r).2).2)) hbig
          have hg2 : Goods (tell (.row 0) r).2 := hg.suf (tell_suf _ _)
          obtain rfl : y = _ := by simpa [one1] using hy
          exact .if_ _ _ _ (ok_tell hg trivial (not_badS hbk) (tellS_big hbg)) (a2 hg2 trivial hbg) (b2 (hg2.suf ((tl_suf _).trans ((tl_suf _).trans (tellS_suf _ _)))) trivial hbig)
      · next h2 =>
        rw [if_neg h2]
        obtain ⟨b1, b2⟩ := st_upto2 N .block (tl (tellS .block (tell (.row 0) r).2).2) (by simp only [enoughS]; omega) hb
        refine ⟨?_, fun hg _ hbig y hy => ?_⟩
        · simp only [one1, sbase, sless, sumS_one, wtS_eq] at *
          omega
        · have hbg : (tellS .block (tell (.row 0) r).2).2.big = false := tellS_big (r := tl (tellS .block (tell (.row 0) r).2).2) hbig
          have hg2 : Goods (tell (.row 0) r).2 := hg.suf (tell_suf _ _)
          obtain rfl : y = _ := by simpa [one1] using hy
          exact .if_ _ _ _ (ok_tell hg trivial (not_badS hbk) (tellS_big hbg)) (a2 hg2 trivial hbg) (b2 (hg2.suf ((tl_suf _).trans (tellS_suf _ _))) trivial hbig)
    · next hi =>
      rw [if_neg hi]
      have hx := expr_size (not_badS hb)
      obtain ⟨a1, a2⟩ := st_upto2 N .block (tell (.row 0) r).2 (by simp only [enoughS]; omega) hb
      refine ⟨?_, fun hg _ hbig y hy => ?_⟩
      · simp only [one1, sbase, sless, sumS_one, wtS_eq, sumS_nil] at *
        omega
      · have hg2 : Goods (tell (.row 0) r).2 := hg.suf (tell_suf _ _)
        obtain rfl : y = _ := by simpa [one1] using hy
        exact .if_ _ _ _ (ok_tell hg trivial (not_badS hb) (tellS_big hbig)) (a2 hg2 trivial hbig) (fun y hy => by simp at hy)
  | N + 1, .stmt, r, h, hb => by
    simp only [enoughS] at h
    rw [tellS_stmt] at hb ⊢
    split at hb
    · next hi =>
      rw [if_pos hi]
      have h1 := tl_ok hi
      obtain ⟨a1, a2⟩ := st_upto2 N .when (tl r) (by simp only [enoughS]; omega) hb
      refine ⟨?_, fun hg _ hbig => a2 (hg.suf (tl_suf r)) trivial hbig⟩
      simp only [sbase, sless] at *
      omega
    next n0 =>
    rw [if_neg n0]
    split at hb
    · next hi =>
      rw [if_pos hi]
      have h1 := tl_ok hi
      have hfl := forX_lenR (tl r)
      have hbk : (tellS .block (forX (tl r)).2).2.bad = false := hb
      obtain ⟨a1, a2⟩ := st_upto2 N .block (forX (tl r)).2 (by simp only [enoughS]; omega) hbk
      have hfx : sizeT (forX (tl r)).1 + 3 * lenR (forX (tl r)).2 ≤ 3 * lenR (tl r) + 1 := by
        have hnb := not_badS hbk
        unfold forX at hnb ⊢
        split at hnb
        · next h2 =>
          rw [if_pos h2]
          show sizeT (.mk 2 1 [] [] []) + 3 * lenR (tl r) ≤ _
          rw [sizeT_eq, sumT_nil]
          omega
        · next h2 => rw [if_neg h2]; have := expr_size hnb; omega
      refine ⟨?_, fun hg _ hbig y hy => ?_⟩
      · simp only [one1, sbase, sless, sumS_one, wtS_eq, sumS_nil] at *
        omega
      · have hg1 : Goods (tl r) := hg.suf (tl_suf r)
        have hbig : (tellS .block (forX (tl r)).2).2.big = false := hbig
        have hg2 : Goods (forX (tl r)).2 := hg1.suf (forX_suf _)
        obtain rfl : y = _ := by simpa [one1] using hy
        refine .for_ _ _ ?_ (a2 hg2 trivial hbig)
        have hnb := not_badS hbk
        have hbg := tellS_big hbig
        unfold forX at hnb hbg ⊢
        split at hnb
        · next h2 => rw [if_pos h2]; exact .truth 1 (.inr rfl)
        · next h2 => rw [if_neg h2] at hbg ⊢; exact ok_tell hg1 trivial hnb hbg
    next n1 =>
    rw [if_neg n1]
    split at hb
    · next hi =>
      rw [if_pos hi]
      have h1 := tl_ok hi
      unfold retS at hb ⊢
      split at hb
      · next h2 =>
        rw [if_pos h2]
        have hx := expr_size hb
        refine ⟨?_, fun hg _ hbig y hy => ?_⟩
        · simp only [one1, sbase, sless, sumS_one, wtS_eq, sumS_nil] at *
          omega
        · obtain rfl : y = _ := by simpa [one1] using hy
          exact .ret _ (ok_tell (hg.suf (tl_suf r)) trivial hb hbig)
      · next h2 =>
        rw [if_neg h2]
        refine ⟨?_, fun hg _ hbig y hy => ?_⟩
        · simp only [one1, sbase, sless, sumS_one, wtS_eq, sumS_nil, size_nil] at *
          omega
        · obtain rfl : y = _ := by simpa [one1] using hy
          exact .retn
    next n2 =>
    rw [if_neg n2]
    split at hb
    · next hi =>
      rw [if_pos hi]
      have h1 := tl_ok hi
      obtain ⟨m1, m2, m3, _⟩ := mustW_ok (r := (tell (.row 0) (mustW (tl r) [40])).2) (s := [41]) hb
      obtain ⟨q1, q2, q3, _⟩ := mustW_ok (not_bad m2)
      have hx := expr_size m2
      refine ⟨?_, fun hg _ hbig y hy => ?_⟩
      · simp only [prtS, one1, sbase, sless, sumS_one, wtS_eq, sumS_nil] at *
        omega
      · have hbg : (tell (.row 0) (mustW (tl r) [40])).2.big = false := by rw [← m3]; exact hbig
        obtain rfl : y = _ := by simpa [prtS, one1] using hy
        exact .print _ (ok_tell ((hg.suf (tl_suf r)).suf (mustW_suf _ _)) trivial m2 hbg)
    next n3 =>
    rw [if_neg n3]
    split at hb
    · next hi =>
      rw [if_pos hi]
      have h1 := tl_ok hi
      refine ⟨?_, fun hg _ hbig y hy => ?_⟩
      · simp only [one1, sbase, sless, sumS_one, wtS_eq, sumS_nil, size_nil] at *
        omega
      · obtain rfl : y = _ := by simpa [one1] using hy
        exact .brk
    next n4 =>
    rw [if_neg n4]
    split at hb
    · next hi =>
      rw [if_pos hi]
      have h1 := tl_ok hi
      refine ⟨?_, fun hg _ hbig y hy => ?_⟩
      · simp only [one1, sbase, sless, sumS_one, wtS_eq, sumS_nil, size_nil] at *
        omega
      · obtain rfl : y = _ := by simpa [one1] using hy
        exact .nxt
    next n5 =>
    rw [if_neg n5]
    have hw : (wordR r 1 false).bad = false := by
      cases hc : (wordR r 1 false).bad with
      | false => rfl
      | true => rw [nameS_bad hc] at hb; cases hb
    have hwl := wordR_lt hw
    unfold nameS at hb ⊢
    split at hb
    · next hi =>
      rw [if_pos hi]
      have h1 := tl_ok hi
      have hx := expr_size hb
      refine ⟨?_, fun hg _ hbig y hy => ?_⟩
      · simp only [one1, sbase, sless, sumS_one, wtS_eq, sumS_nil] at *
        omega
      · obtain rfl : y = _ := by simpa [one1] using hy
        exact .def_ _ _ (name_ok hw hg).1 (ok_tell ((hg.suf (wordR_suf _ _ _)).suf (tl_suf _)) trivial hb hbig)
    next i1 =>
    rw [if_neg i1]
    split at hb
    · next hi =>
      rw [if_pos hi]
      have h1 := tl_ok hi
      have hx := expr_size hb
      refine ⟨?_, fun hg _ hbig y hy => ?_⟩
      · simp only [one1, sbase, sless, sumS_one, wtS_eq, sumS_nil] at *
        omega
      · obtain rfl : y = _ := by simpa [one1] using hy
        exact .set_ _ _ (name_ok hw hg).1 (ok_tell ((hg.suf (wordR_suf _ _ _)).suf (tl_suf _)) trivial hb hbig)
    next i2 =>
    rw [if_neg i2]
    have hx := size_tell hb
    have hxl := tell_lenR (.call (wordS r 1 false)) (wordR r 1 false)
    refine ⟨?_, fun hg _ hbig y hy => ?_⟩
    · simp only [one1, sbase, sless, sumS_one, wtS_eq, sumS_nil, base] at *
      omega
    · obtain rfl : y = _ := by simpa [one1] using hy
      have hok := ok_tell (j := .call (wordS r 1 false)) (hg.suf (wordR_suf _ _ _)) (name_ok hw hg).1 hb hbig
      obtain ⟨s', q, x, e⟩ := call_form _ _ hb
      rw [e] at hok ⊢
      exact .call s' q x hok
theorem block_told {r : PS} (hb : (tellS .block r).2.bad = false) : sumS (tellS .block r).1 + 3 * lenR (tellS .block r).2 ≤ 3 * lenR r ∧ (Goods r → (tellS .block r).2.big = false → ∀ y ∈ (tellS .block r).1, OkS y) := by
  obtain ⟨h1, h2⟩ := st_upto2 _ .block r (Nat.le_refl _) hb
  simp only [sless, sbase] at h1
  exact ⟨by omega, fun hg hbig => h2 hg trivial hbig⟩
end Go.Proofs.YtlhbhpdpjidpgaaGreatDoor.Prg
