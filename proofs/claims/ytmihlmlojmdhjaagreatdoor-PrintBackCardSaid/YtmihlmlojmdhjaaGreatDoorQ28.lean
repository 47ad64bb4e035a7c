/-
  A text of words with blanks and line feeds between them is read as these words: the lexer. No condition but the limits.
-/
import Derived.Test.YtmihlmlojmdhjaaGreatDoorQ07
import Derived.Test.YtmihlmlojmdhjaaGreatDoorQ26
namespace Go.Proofs.YtmihlmlojmdhjaaGreatDoor.Lex
set_option maxRecDepth 100000
/-- What a text is put together from. -/
inductive Ch where
  | w (x : Wd)
  | b (c : UInt8)
  | nl
def chT : Ch → List UInt8
  | .w x => shown x
  | .b c => [c]
  | .nl => [10]
def textC (cs : List Ch) : List UInt8 := cs.flatMap chT
theorem textC_nil : textC [] = [] := rfl
theorem textC_cons (c : Ch) (r : List Ch) : textC (c :: r) = chT c ++ textC r := by simp [textC]
theorem textC_app (a r : List Ch) : textC (a ++ r) = textC a ++ textC r := by simp [textC]
/-- The words of it. -/
def foldC : List Wd → List Ch → List Wd
  | ws, [] => ws
  | ws, .w x :: r => foldC (ws ++ [x]) r
  | ws, .b _ :: r => foldC ws r
  | ws, .nl :: r => foldC (endLn ws) r
theorem foldC_app : ∀ (a : List Ch) (ws : List Wd) (r : List Ch), foldC ws (a ++ r) = foldC (foldC ws a) r
  | [], _, _ => rfl
  | .w _ :: a, _, r => foldC_app a _ r
  | .b _ :: a, _, r => foldC_app a _ r
  | .nl :: a, _, r => foldC_app a _ r
/-- No byte of a name begins it. -/
def cool : List UInt8 → Prop
  | [] => True
  | c :: _ => nameB c = false
/-- What is behind a word does not go on with it. -/
def fit (x : Wd) (r : List UInt8) : Prop := x.k = 3 ∨ (x.k = 5 ∧ longest (x.s ++ r) = x.s ∧ [47, 47].isPrefixOf (x.s ++ r) = false) ∨ ((x.k = 1 ∨ x.k = 2 ∨ x.k = 4) ∧ cool r)
def Ap : List Ch → List UInt8 → Prop
  | [], _ => True
  | .w x :: r, t => Good x ∧ fit x (textC r ++ t) ∧ Ap r t
  | .b c :: r, t => blank c = true ∧ Ap r t
  | .nl :: r, t => Ap r t
theorem ap_app : ∀ (a r : List Ch) (t : List UInt8), Ap a (textC r ++ t) → Ap r t → Ap (a ++ r) t
  | [], _, _, _, h => h
  | .w x :: a, r, t, h, h2 => ⟨h.1, by have h3 := h.2.1; rw [← List.append_assoc, ← textC_app] at h3; exact h3, ap_app a r t h.2.2 h2⟩
  | .b _ :: a, r, t, h, h2 => ⟨h.1, ap_app a r t h.2 h2⟩
  | .nl :: a, r, t, h, h2 => ap_app a r t h h2
theorem rowN_cool (p : UInt8 → Bool) (s r : List UInt8) (hp : s.all p = true) (hb : ∀ c ∈ r.head?, p c = false) : rowN p (s ++ r) = s.length := by
  have hl : ∀ k (hk : k < (s ++ r).length), k < s.length → p (s ++ r)[k] = true := fun k hk hks => by
    rw [List.getElem_append_left hks]
    exact List.all_eq_true.1 hp _ (List.getElem_mem hks)
  rw [rowN_app p _ s.length (by simp) hl, List.drop_left]
  unfold rowN
  cases r with
  | nil => simp
  | cons c r => rw [List.takeWhile_cons, if_neg (by rw [hb c (by simp)]; simp)]; simp
theorem cool_head {r : List UInt8} (h : cool r) : ∀ c ∈ r.head?, nameB c = false := by
  intro c hc
  cases r with
  | nil => simp at hc
  | cons d r => simp at hc; subst hc; exact h
theorem step_nameC (s r : List UInt8) (c : UInt8) (q : List UInt8) (e : s = c :: q) (ha : s.all nameB = true) (hd : dig c = false) (hl : s.length ≤ 16) (hr : cool r) (ws : List Wd) :
    step (s ++ r) ws = ⟨0, r, ws ++ [⟨if keyB s = true then 4 else 1, s, 0⟩]⟩ := by
  have hc : nameB c = true := by rw [e] at ha; simp at ha; exact ha.1
  obtain ⟨n1, n2, n3, n4, _⟩ := nameB_not hc
  have hS : nameS (s ++ r) ws = ⟨0, r, ws ++ [⟨if keyB s = true then 4 else 1, s, 0⟩]⟩ := by
    unfold nameS
    dsimp only
    rw [rowN_cool nameB s r ha (cool_head hr), if_neg (by omega), List.take_left, List.drop_left]
  rw [← hS]
  subst e
  show step (c :: (q ++ r)) ws = nameS (c :: (q ++ r)) ws
  unfold step
  simp only [n1, n2, slash_no _ n3, hd, hc, if_false, if_true, Bool.false_eq_true]
theorem step_numC (n : Int) (h0 : 0 ≤ n) (h1 : n ≤ 9223372036854775807) (r : List UInt8) (hr : cool r) (ws : List Wd) : step (Lib.itoa n ++ r) ws = ⟨0, r, ws ++ [⟨2, [], n⟩]⟩ := by
  have hi : Lib.itoa n = Lib.decDigits n.natAbs := by unfold Lib.itoa; rw [if_neg (by omega)]; congr 1; omega
  have ha : (Lib.itoa n).all dig = true := by rw [hi]; exact Num.all_decDigits _
  have hv : Num.readV (Lib.itoa n) = (n, true) := by rw [Num.readV_itoa n h1, if_pos h0]
  obtain ⟨c, q, e⟩ : ∃ c q, Lib.itoa n = c :: q := by
    cases h : Lib.itoa n with
    | nil => rw [hi] at h; exact absurd h (Num.decDigits_ne _)
    | cons c q => exact ⟨c, q, rfl⟩
  have hd : dig c = true := by rw [e] at ha; simp at ha; exact ha.1
  obtain ⟨n1, n2, n3, n4, _⟩ := nameB_not (dig_name hd)
  have hS : numS (Lib.itoa n ++ r) ws = ⟨0, r, ws ++ [⟨2, [], n⟩]⟩ := by
    have hr := rowN_cool dig (Lib.itoa n) r ha (fun c hc => by
      have := cool_head hr c hc
      cases hd : dig c with
      | false => rfl
      | true => rw [dig_name hd] at this; cases this)
    rw [numS_ok (n := n) (by rw [hr, List.take_left, hv]), hr, List.drop_left]
  rw [← hS, e]
  show step (c :: (q ++ r)) ws = numS (c :: (q ++ r)) ws
  unfold step
  simp only [n1, n2, slash_no _ n3, hd, if_false, if_true, Bool.false_eq_true]
theorem step_textC (s r : List UInt8) (h : textOk s = true) (ws : List Wd) : step (quoted s ++ r) ws = ⟨0, r, ws ++ [⟨3, s, 0⟩]⟩ := by
  have e : quoted s ++ r = 34 :: (s ++ 34 :: r) := by simp [quoted]
  rw [e]
  have hS : textS (34 :: (s ++ 34 :: r)) ws = ⟨0, r, ws ++ [⟨3, s, 0⟩]⟩ := by
    rw [textS_ok (s := s) (by rw [List.drop_succ_cons, List.drop_zero]; exact cutQ_text (text_all h).1 _) h]
    have hd : (34 :: (s ++ 34 :: r)).drop (s.length + 2) = r := by
      rw [show s.length + 2 = (s.length + 1) + 1 by omega, List.drop_succ_cons, List.drop_append]
      simp
    rw [hd]
  rw [← hS]
  rfl
theorem sign_head {s : List UInt8} (h : s ∈ signsL) : ∃ c q, s = c :: q ∧ c.toNat ≠ 10 ∧ blank c = false ∧ dig c = false ∧ nameB c = false ∧ c.toNat ≠ 34 := by
  simp only [signsL, List.mem_cons, List.not_mem_nil, or_false] at h
  rcases h with rfl | rfl | rfl | rfl | rfl | rfl | rfl | rfl | rfl | rfl | rfl | rfl | rfl | rfl | rfl | rfl | rfl | rfl | rfl | rfl | rfl | rfl | rfl <;> exact ⟨_, _, rfl, by decide, by decide, by decide, by decide, by decide⟩
theorem step_signC (s r : List UInt8) (h : s ∈ signsL) (hl : longest (s ++ r) = s) (h47 : [47, 47].isPrefixOf (s ++ r) = false) (ws : List Wd) : step (s ++ r) ws = ⟨0, r, ws ++ [⟨5, s, 0⟩]⟩ := by
  obtain ⟨c, q, e, n1, n2, n3, n4, n5⟩ := sign_head h
  have hS : signS (s ++ r) ws = ⟨0, r, ws ++ [⟨5, s, 0⟩]⟩ := by
    unfold signS
    rw [hl, if_neg (by rw [e]; simp), List.drop_left]
  rw [← hS]
  subst e
  show step (c :: (q ++ r)) ws = signS (c :: (q ++ r)) ws
  rw [List.cons_append] at h47
  unfold step
  simp only [n1, n2, h47, n3, n4, n5, if_false, Bool.false_eq_true]
theorem step_fit {x : Wd} (h : Good x) {r : List UInt8} (hf : fit x r) (ws : List Wd) : step (shown x ++ r) ws = ⟨0, r, ws ++ [x]⟩ := by
  cases h with
  | name s c q e ha hd hl =>
    have es : shown ⟨if keyB s = true then 4 else 1, s, 0⟩ = s := by
      unfold shown
      rw [if_pos (by dsimp only; split <;> simp)]
    rw [es]
    refine step_nameC s r c q e ha hd hl ?_ ws
    rcases hf with h | h | h
    · dsimp only at h; split at h <;> omega
    · have h := h.1; dsimp only at h; split at h <;> omega
    · exact h.2
  | num n h0 h1 =>
    have es : shown ⟨2, [], n⟩ = Lib.itoa n := by
      unfold shown
      rw [if_neg (by dsimp only; omega), if_neg (by dsimp only; omega), if_pos ⟨rfl, h0⟩]
    rw [es]
    refine step_numC n h0 h1 r ?_ ws
    rcases hf with h | h | h
    · dsimp only at h; omega
    · have h := h.1; dsimp only at h; omega
    · exact h.2
  | text s h =>
    have es : shown ⟨3, s, 0⟩ = quoted s := by
      unfold shown
      rw [if_neg (by dsimp only; omega), if_pos rfl]
    rw [es]
    exact step_textC s r h ws
  | sign s h =>
    have es : shown ⟨5, s, 0⟩ = s := by
      unfold shown
      rw [if_pos (by simp)]
    rw [es]
    rcases hf with h1 | h1 | h1
    · dsimp only at h1; omega
    · exact step_signC s r h h1.2.1 h1.2.2 ws
    · have h2 := h1.1; dsimp only at h2; omega
theorem step_blankC {c : UInt8} (h : blank c = true) (r : List UInt8) (ws : List Wd) : step (c :: r) ws = ⟨0, r, ws⟩ := by
  have h2 : c.toNat ≠ 10 := by unfold blank at h; simp at h; omega
  unfold step
  simp only [h2, h, if_false, if_true]
theorem run_ch : ∀ (cs : List Ch) (ws : List Wd) (n : Nat), Ap cs [] → (textC cs).length ≤ n → run n (textC cs) ws = (0, foldC ws cs)
  | [], ws, n, _, _ => by rw [textC_nil, run_nil]; rfl
  | .w x :: r, ws, n, h, hn => by
    have h1 := (shown_len h.1).1
    rw [textC_cons] at hn ⊢
    have e : chT (.w x) = shown x := rfl
    rw [e, List.length_append] at hn
    obtain ⟨m, rfl⟩ : ∃ m, n = m + 1 := ⟨n - 1, by omega⟩
    have hf := h.2.1
    rw [List.append_nil] at hf
    have hs := step_fit h.1 hf ws
    rw [e, run_go (k := m) (by intro hh; rw [List.append_eq_nil_iff] at hh; rw [hh.1] at h1; simp at h1) (by rw [hs]), hs]
    exact run_ch r _ m h.2.2 (by omega)
  | .b c :: r, ws, n, h, hn => by
    rw [textC_cons] at hn ⊢
    have e : chT (.b c) ++ textC r = c :: textC r := rfl
    rw [e, List.length_cons] at hn
    obtain ⟨m, rfl⟩ : ∃ m, n = m + 1 := ⟨n - 1, by omega⟩
    have hs := step_blankC h.1 (textC r) ws
    rw [e, run_go (k := m) (by simp) (by rw [hs]), hs]
    exact run_ch r _ m h.2 (by omega)
  | .nl :: r, ws, n, h, hn => by
    rw [textC_cons] at hn ⊢
    have e : chT .nl ++ textC r = 10 :: textC r := rfl
    rw [e, List.length_cons] at hn
    obtain ⟨m, rfl⟩ : ∃ m, n = m + 1 := ⟨n - 1, by omega⟩
    have hs : step (10 :: textC r) ws = ⟨0, textC r, endLn ws⟩ := rfl
    rw [e, run_go (k := m) (by simp) (by rw [hs]), hs]
    exact run_ch r _ m h (by omega)
/-- Such a text is read as its words, or it is too great. -/
theorem words_ch {cs : List Ch} (h : Ap cs []) : words (textC cs) = (endLn (foldC [] cs), 0) ∨ words (textC cs) = ([], 11) := by
  by_cases h1 : 4096 < (textC cs).length
  · exact .inr (words_long h1)
  · have hr := run_ch cs [] _ h (Nat.le_refl _)
    by_cases h2 : 2048 < (endLn (foldC [] cs)).length
    · exact .inr (words_many h1 hr h2)
    · exact .inl (words_ok h1 hr h2)
/-- Signs that nothing goes on with; a bang, if no = is behind it; any sign, if a blank is behind it. -/
theorem fit_one {c : UInt8} (h : c ∈ [40, 41, 123, 125, 44, 59, 46, 45]) (r : List UInt8) : fit ⟨5, [c], 0⟩ r := by
  refine .inr (.inl ⟨rfl, ?_, ?_⟩)
  · simp only [List.mem_cons, List.not_mem_nil, or_false] at h
    show longest (c :: r) = [c]
    rcases h with rfl | rfl | rfl | rfl | rfl | rfl | rfl | rfl <;> simp [longest, signsL, better, List.isPrefixOf]
  · show [47, 47].isPrefixOf (c :: r) = false
    simp only [List.mem_cons, List.not_mem_nil, or_false] at h
    rcases h with rfl | rfl | rfl | rfl | rfl | rfl | rfl | rfl <;> rfl
theorem fit_bang {d : UInt8} (h : d ≠ 61) (r : List UInt8) : fit ⟨5, [33], 0⟩ (d :: r) := by
  refine .inr (.inl ⟨rfl, ?_, rfl⟩)
  have h2 : ((61 : UInt8) == d) = false := by rw [beq_eq_false_iff_ne]; exact fun e => h e.symm
  show longest (33 :: d :: r) = [33]
  simp [longest, signsL, better, List.isPrefixOf, h2]
theorem fit_blank {s : List UInt8} (h : s ∈ signsL) (r : List UInt8) : fit ⟨5, s, 0⟩ (32 :: r) := by
  refine .inr (.inl ⟨rfl, ?_, ?_⟩)
  · show longest (s ++ 32 :: r) = s
    simp only [signsL, List.mem_cons, List.not_mem_nil, or_false] at h
    rcases h with rfl | rfl | rfl | rfl | rfl | rfl | rfl | rfl | rfl | rfl | rfl | rfl | rfl | rfl | rfl | rfl | rfl | rfl | rfl | rfl | rfl | rfl | rfl <;> kernel_rfl
  · show [47, 47].isPrefixOf (s ++ 32 :: r) = false
    simp only [signsL, List.mem_cons, List.not_mem_nil, or_false] at h
    rcases h with rfl | rfl | rfl | rfl | rfl | rfl | rfl | rfl | rfl | rfl | rfl | rfl | rfl | rfl | rfl | rfl | rfl | rfl | rfl | rfl | rfl | rfl | rfl <;> kernel_rfl
theorem good_name {s : List UInt8} (h : nameOk s = true) : Good ⟨1, s, 0⟩ ∧ keyB s = false := by
  unfold nameOk at h
  simp only [Bool.and_eq_true, Bool.not_eq_true', decide_eq_false_iff_not] at h
  obtain ⟨⟨⟨⟨h1, h2⟩, h3⟩, h4⟩, h5⟩ := h
  obtain ⟨c, q, e⟩ : ∃ c q, s = c :: q := by
    cases s with
    | nil => exact absurd rfl h1
    | cons c q => exact ⟨c, q, rfl⟩
  have := Good.name s c q e h5 (by rw [e] at h4; exact h4) (by omega)
  rw [h3, if_neg (by simp)] at this
  exact ⟨this, h3⟩
theorem good_key {s : List UInt8} (h : keyB s = true) : Good ⟨4, s, 0⟩ := by
  have hd : ∀ s ∈ keysL, ∃ c q, s = c :: q ∧ dig c = false := by
    intro s h
    simp only [keysL, List.mem_cons, List.not_mem_nil, or_false] at h
    rcases h with rfl | rfl | rfl | rfl | rfl | rfl | rfl | rfl | rfl | rfl | rfl | rfl | rfl | rfl <;> exact ⟨_, _, rfl, by decide⟩
  obtain ⟨c, q, e, h4⟩ := hd s (List.contains_iff_mem.1 h)
  have := Good.name s c q e (key_all h).1 h4 (key_all h).2
  rw [h, if_pos rfl] at this
  exact this
end Go.Proofs.YtmihlmlojmdhjaaGreatDoor.Lex
/- What the grammar tells is right, and no greater than its words: expressions. No condition. -/
namespace Go.Proofs.YtmihlmlojmdhjaaGreatDoor.Prg
open Tre Prs
set_option maxRecDepth 100000
/-- How many expressions. -/
def sizeT : Tx → Nat
  | .mk _ _ _ _ x => 1 + (x.attach.map (fun ⟨y, _⟩ => sizeT y)).sum
def sumT (l : List Tx) : Nat := (l.map sizeT).sum
theorem sizeT_eq (op n : Int) (s q : List UInt8) (x : List Tx) : sizeT (.mk op n s q x) = 1 + sumT x := by
  rw [sizeT]
  congr 1
  unfold sumT
  congr 1
  exact List.map_subtype (fun _ _ => rfl) |>.trans (by simp)
theorem sumT_app (l m : List Tx) : sumT (l ++ m) = sumT l + sumT m := by simp [sumT]
theorem sumT_one (x : Tx) : sumT [x] = sizeT x := by simp [sumT]
theorem sumT_nil : sumT [] = 0 := rfl
/-- A right expression. -/
inductive OkX : Tx → Prop
  | num (n : Int) (h : 0 ≤ n) : OkX (.mk 1 n [] [] [])
  | truth (n : Int) (h : n = 0 ∨ n = 1) : OkX (.mk 2 n [] [] [])
  | name (s : List UInt8) (h : Lex.nameOk s = true) : OkX (.mk 3 0 s [] [])
  | call (s q : List UInt8) (x : List Tx) (h : Lex.nameOk s = true) (hq : q = [] ∨ Lex.nameOk q = true) (hl : x.length ≤ 255) (hx : ∀ y ∈ x, OkX y) : OkX (.mk 4 0 s q x)
  | one (op : Int) (x : Tx) (h : op = 5 ∨ op = 6) (hx : OkX x) : OkX (.mk op 0 [] [] [x])
  | two (op : Int) (x y : Tx) (h : 7 ≤ op) (h2 : op ≤ 19) (hx : OkX x) (hy : OkX y) : OkX (.mk op 0 [] [] [x, y])
/-- The words behind are among those ahead. -/
theorem tl_suf (r : PS) : (tl r).l <:+ r.l := List.tail_suffix r.l
theorem mustW_suf (r : PS) (s : List UInt8) : (mustW r s).l <:+ r.l := by
  unfold mustW
  split
  · exact tl_suf r
  · exact List.suffix_refl _
theorem wordR_suf (r : PS) (k : Int) (key : Bool) : (wordR r k key).l <:+ r.l := by
  unfold wordR
  split
  · exact List.suffix_refl _
  · exact tl_suf r
theorem run_suf : ∀ (n : Nat) (j : Job) (r : PS), (run n j r).2.l <:+ r.l
  | 0, _, _ => List.suffix_refl _
  | n + 1, .row k, r => by
    unfold run
    split
    · exact run_suf n _ _
    · exact (run_suf n _ _).trans (run_suf n _ _)
  | n + 1, .rest k x, r => by
    unfold run
    split
    · exact List.suffix_refl _
    · split
      · exact List.suffix_refl _
      · exact (run_suf n _ _).trans ((run_suf n _ _).trans (tl_suf r))
  | n + 1, .unary, r => by
    unfold run
    split
    · exact (run_suf n _ _).trans (tl_suf r)
    split
    · exact (run_suf n _ _).trans (tl_suf r)
    split
    · exact tl_suf r
    split
    · exact tl_suf r
    split
    · exact (mustW_suf _ _).trans ((run_suf n _ _).trans (tl_suf r))
    split
    · exact tl_suf r
    split
    · exact (run_suf n _ _).trans (wordR_suf _ _ _)
    · exact wordR_suf _ _ _
  | n + 1, .call s, r => by
    unfold run
    split
    · exact (run_suf n _ _).trans ((mustW_suf _ _).trans ((wordR_suf _ _ _).trans (tl_suf r)))
    · exact (run_suf n _ _).trans (mustW_suf _ _)
  | n + 1, .args q s x, r => by
    unfold run
    split
    · exact mustW_suf r _
    split
    · split
      · exact (mustW_suf _ _).trans ((tl_suf _).trans (run_suf n _ _))
      · exact (run_suf n _ _).trans ((tl_suf _).trans (run_suf n _ _))
    · exact (mustW_suf _ _).trans (run_suf n _ _)
theorem tell_suf (j : Job) (r : PS) : (tell j r).2.l <:+ r.l := run_suf _ _ _
/-- Words as a text has them. -/
def Goods (r : PS) : Prop := ∀ x ∈ r.l, Lex.Good x
theorem Goods.suf {r r' : PS} (h : Goods r) (hs : r'.l <:+ r.l) : Goods r' := fun x hx => h x (hs.subset hx)
theorem peek_mem {r : PS} (h : (peek r).k ≠ 0) : peek r ∈ r.l := by
  obtain ⟨h1, h2⟩ := peek_k h
  unfold peek
  cases hl : r.l with
  | nil => rw [hl] at h2; simp at h2
  | cons x t => simp [h1]
theorem good_name {x : Lex.Wd} (h : Lex.Good x) (hk : x.k = 1) : Lex.nameOk x.s = true := by
  cases h with
  | name s c q e ha hd hl =>
    have hkey : Lex.keyB s = false := by
      cases hc : Lex.keyB s with
      | false => rfl
      | true => simp [hc] at hk
    show Lex.nameOk s = true
    unfold Lex.nameOk
    subst e
    rw [hkey, ha]
    simp only [hd]
    simp
    simpa using hl
  | num n h0 h1 => simp at hk
  | text s h => simp at hk
  | sign s h => simp at hk
theorem good_num {x : Lex.Wd} (h : Lex.Good x) (hk : x.k = 2) : 0 ≤ x.n := by
  cases h with
  | name s c q e ha hd hl => dsimp only at hk; split at hk <;> omega
  | num n h0 h1 => exact h0
  | text s h => simp at hk
  | sign s h => simp at hk
theorem wordNo_kind {r : PS} (h : (wordR r 1 false).bad = false) : (peek r).k = 1 ∧ wordS r 1 false = (peek r).s ∧ wordR r 1 false = tl r := by
  unfold wordR at h
  by_cases hw : wordNo r 1 false = true
  · rw [if_pos hw] at h
    simp [badR] at h
  · have hk : (peek r).k = 1 := by simpa [wordNo] using hw
    unfold wordS wordR
    rw [if_neg hw, if_neg hw]
    exact ⟨hk, rfl, rfl⟩
theorem mustW_ok {r : PS} {s : List UInt8} (h : (mustW r s).bad = false) : lenR (mustW r s) + 1 = lenR r ∧ r.bad = false ∧ (mustW r s).big = r.big ∧ mustW r s = tl r := by
  unfold mustW at h ⊢
  by_cases hi : isW r s = true
  · rw [if_pos hi]
    have := lenR_pos hi
    rw [lenR_tl]
    exact ⟨by omega, (isW_pos hi).2, rfl, rfl⟩
  · rw [if_neg hi] at h
    cases h
theorem tl_ok {r : PS} {s : List UInt8} (hi : isW r s = true) : lenR (tl r) + 1 = lenR r := by
  have := lenR_pos hi
  rw [lenR_tl]
  omega
/-- What a job must bring along. -/
def JobOk : Job → Prop
  | .rest _ x => OkX x
  | .call s => Lex.nameOk s = true
  | .args q s x => Lex.nameOk s = true ∧ (q = [] ∨ Lex.nameOk q = true) ∧ ∀ y ∈ x, OkX y
  | _ => True
def base : Job → Nat
  | .rest _ x => sizeT x
  | .args _ _ x => 1 + sumT x
  | .call _ => 0
  | _ => 0
theorem not_bad {j : Job} {r : PS} (h : (tell j r).2.bad = false) : r.bad = false := by
  cases hb : r.bad with
  | false => rfl
  | true => rw [tell_bad hb] at h; cases h
theorem mustW_big (r : PS) (s : List UInt8) : (mustW r s).big = r.big := by unfold mustW; split <;> rfl
theorem wordR_big (r : PS) (k : Int) (key : Bool) : (wordR r k key).big = r.big := by unfold wordR; split <;> rfl
theorem callEnd_size {q s : List UInt8} {x : List Tx} {r : PS} (h : (callEnd q s x r).2.bad = false) : sizeT (callEnd q s x r).1 + lenR (callEnd q s x r).2 + 1 = lenR r + (1 + sumT x) := by
  obtain ⟨h1, _, _, _⟩ := mustW_ok (r := r) (s := [41]) h
  have e : lenR (callEnd q s x r).2 = lenR (mustW r [41]) := rfl
  have e2 : sizeT (callEnd q s x r).1 = 1 + sumT x := sizeT_eq _ _ _ _ _
  omega
theorem callEnd_ok {q s : List UInt8} {x : List Tx} {r : PS} (hj : JobOk (.args q s x)) (h : (callEnd q s x r).2.big = false) : OkX (callEnd q s x r).1 := by
  obtain ⟨j1, j2, j3⟩ := hj
  have hb : ((mustW r [41]).big || decide (255 < x.length)) = false := h
  simp only [Bool.or_eq_false_iff, decide_eq_false_iff_not] at hb
  exact .call s q x j1 j2 (by omega) j3
end Go.Proofs.YtmihlmlojmdhjaaGreatDoor.Prg
