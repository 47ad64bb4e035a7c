/-
  What the grammar tells is right, and no greater than its words: functions, files. No condition.
-/
import Derived.Test.YtlhbhpdpjidpgaaGreatDoorX27
import Derived.Test.YtlhbhpdpjidpgaaGreatDoorX30
import Derived.Test.YtlhbhpdpjidpgaaGreatDoorX32
namespace Go.Proofs.YtlhbhpdpjidpgaaGreatDoor.Prg
open Tre Prs
set_option maxRecDepth 100000
def OkP (p : Tp) : Prop := Lex.nameOk p.s = true ∧ (p.t = 1 ∨ p.t = 2)
def OkF (f : Tf) : Prop := Lex.nameOk f.s = true ∧ f.p.length ≤ 4 ∧ (∀ p ∈ f.p, OkP p) ∧ (f.r = 0 ∨ f.r = 1 ∨ f.r = 2) ∧ ∀ y ∈ f.b, OkS y
def wordOk (s : List UInt8) : Prop := Lex.nameOk s = true ∨ Lex.keyB s = true
def OkL (f : Tl) : Prop := wordOk f.s ∧ f.i.length ≤ 8 ∧ f.f.length ≤ 32 ∧ (∀ s ∈ f.i, wordOk s) ∧ ∀ g ∈ f.f, OkF g
def wtF (f : Tf) : Nat := 1 + sumS f.b
def sumF (l : List Tf) : Nat := (l.map wtF).sum
theorem sumF_app (l m : List Tf) : sumF (l ++ m) = sumF l + sumF m := by simp [sumF]
theorem sumF_one (x : Tf) : sumF [x] = wtF x := by simp [sumF]
theorem typeN_kind (r : PS) : typeN r = 0 ∨ typeN r = 1 ∨ typeN r = 2 := by
  unfold typeN
  split
  · exact .inr (.inl rfl)
  split
  · exact .inr (.inr rfl)
  · exact .inl rfl
theorem typeMust_ok {r : PS} (h : (typeMust r).bad = false) : (typeN r = 1 ∨ typeN r = 2) ∧ typeMust r = typeR r ∧ lenR (typeMust r) ≤ lenR r ∧ r.bad = false ∧ (typeMust r).big = r.big := by
  have hb : r.bad = false := by
    cases hb : r.bad with
    | false => rfl
    | true => rw [typeMust_bad hb] at h; cases h
  have hl := typeMust_lenR r
  unfold typeMust at h hl ⊢
  by_cases h0 : (typeN r == 0) = true
  · rw [if_pos h0] at h; cases h
  · rw [if_neg h0] at hl ⊢
    refine ⟨?_, rfl, hl, hb, ?_⟩
    · rcases typeN_kind r with h1 | h1 | h1
      · simp [h1] at h0
      · exact .inl h1
      · exact .inr h1
    · unfold typeR
      split <;> rfl
theorem typeR_suf (r : PS) : (typeR r).l <:+ r.l := by
  unfold typeR
  split
  · exact tl_suf r
  · exact List.suffix_refl _
theorem typeMust_suf (r : PS) : (typeMust r).l <:+ r.l := by
  unfold typeMust
  split
  · exact typeR_suf r
  · exact typeR_suf r
end Go.Proofs.YtlhbhpdpjidpgaaGreatDoor.Prg
/- What is told is right, and not too great: of the tree that holds it. No condition. -/
namespace Go.Proofs.YtlhbhpdpjidpgaaGreatDoor.Prg
open Tre Prs
set_option maxRecDepth 100000
theorem empty_of {s : ByteArray} (h : s.data.toList = []) : (s.toList == []) = true := by
  rw [ByteArray.toList_eq, h]
  rfl
theorem size_core_upto : ∀ (m : Nat) (e : Ex), size e ≤ m → sizeT (core e) = size e
  | 0, e, h => by rw [size_eq] at h; omega
  | m + 1, e, h => by
    rw [core_eq, sizeT_eq, size_eq]
    have : ∀ l : List Ex, (∀ y ∈ l, size y ≤ m) → sumT (l.map core) = sizeL l := by
      intro l
      induction l with
      | nil => intro _; rfl
      | cons y l ih =>
        intro hl
        have h1 := size_core_upto m y (hl y (by simp))
        have h2 := ih (fun z hz => hl z (by simp [hz]))
        rw [sizeL_cons, List.map_cons]
        unfold sumT at h2 ⊢
        rw [List.map_cons, List.sum_cons, h1, h2]
    rw [this e.x (fun y hy => by have := size_part hy; omega)]
theorem size_core (e : Ex) : sizeT (core e) = size e := size_core_upto _ e (Nat.le_refl _)
theorem map_one {α β : Type} {c : α → β} {l : List α} {x : β} (h : l.map c = [x]) : ∃ a, l = [a] ∧ c a = x := by
  cases l with
  | nil => cases h
  | cons a l => cases l with
    | nil => injection h with h _; exact ⟨a, rfl, h⟩
    | cons b l => simp at h
theorem map_two {α β : Type} {c : α → β} {l : List α} {x y : β} (h : l.map c = [x, y]) : ∃ a b, l = [a, b] ∧ c a = x ∧ c b = y := by
  cases l with
  | nil => cases h
  | cons a l => cases l with
    | nil => simp at h
    | cons b l => cases l with
      | nil => simp only [List.map_cons, List.map_nil, List.cons.injEq, and_true] at h; exact ⟨a, b, rfl, h.1, h.2⟩
      | cons d l => simp at h
theorem zero_nil {e : Ex} (h : core e = nilT) : zeroX e = true := by
  rw [core_eq] at h
  unfold nilT at h
  injection h with h1 h2 h3 h4 h5
  unfold zeroX
  rw [h1, h2, empty_of h3, empty_of h4, List.map_eq_nil_iff.1 h5]
  rfl
theorem word_ok {s : ByteArray} (h : wordOk s.data.toList) : wordB s = true := by
  unfold wordB nameB
  rcases h with h | h <;> rw [h] <;> simp
theorem par_ok {p : Par} (h : OkP (coreP p)) : wPar p = false := by
  obtain ⟨h1, h2⟩ := h
  unfold wPar nameB valB
  rw [show Lex.nameOk p.s.data.toList = true from h1]
  rcases h2 with h2 | h2
  · rw [show p.t = 1 from h2]; rfl
  · rw [show p.t = 2 from h2]; rfl
/-- How many nodes. -/
theorem nodesS_le (s : St) : (nodesS givenB s).length ≤ 1 + sizeT (core s.e) := by
  unfold nodesS
  rw [size_core]
  split
  · unfold size; simp; omega
  · simp
theorem nodesB_le : ∀ (m : Nat) (l : List St), sizeB l ≤ m → ((flatB l).flatMap (nodesS givenB)).length ≤ sumS (l.map coreS)
  | _, [], _ => by simp [flatB, sumS]
  | 0, s :: l, h => by rw [sizeB_cons, sizeS_eq] at h; omega
  | m + 1, s :: l, h => by
    rw [sizeB_cons, sizeS_eq] at h
    have h1 := nodesB_le m s.b (by omega)
    have h2 := nodesB_le m s.b2 (by omega)
    have h3 := nodesB_le m l (by omega)
    have h4 := nodesS_le s
    have h5 : sumS ((s :: l).map coreS) = wtS (coreS s) + sumS (l.map coreS) := by simp [sumS]
    rw [h5, coreS_eq, wtS_eq, flatB_cons, flatS_eq, List.flatMap_append, List.flatMap_cons, List.flatMap_append, List.length_append, List.length_append, List.length_append]
    omega
theorem nodes_le (l : List Tre.Fn) : (nodes givenB l).length ≤ sumF (l.map coreF) := by
  induction l with
  | nil => simp [nodes]
  | cons f l ih =>
    have h1 := nodesB_le _ f.b (Nat.le_refl _)
    have h5 : sumF ((f :: l).map coreF) = wtF (coreF f) + sumF (l.map coreF) := by simp [sumF]
    have h6 : wtF (coreF f) = 1 + sumS (f.b.map coreS) := rfl
    rw [h5, h6]
    unfold nodes at ih ⊢
    rw [List.flatMap_cons, List.length_append, show nodesF givenB f = nilX :: (flatB f.b).flatMap (nodesS givenB) from rfl, List.length_cons]
    omega
end Go.Proofs.YtlhbhpdpjidpgaaGreatDoor.Prg
/- The words of a text with something behind it, in a line of its own, or a bracket ahead of it. No condition. -/
namespace Go.Proofs.YtlhbhpdpjidpgaaGreatDoor.Lex
set_option maxRecDepth 100000
theorem prefix_nl : ∀ (s l r : List UInt8), (10 : UInt8) ∉ s → s.isPrefixOf (l ++ 10 :: r) = s.isPrefixOf l
  | [], l, r, _ => by cases l <;> simp
  | a :: s, [], r, h => by
    have : (a == 10) = false := by
      cases hc : a == 10 with
      | false => rfl
      | true => exact absurd (by simp [show a = 10 by simpa using hc]) h
    simp [List.isPrefixOf, this]
  | a :: s, c :: l, r, h => by
    show (a == c && s.isPrefixOf (l ++ 10 :: r)) = (a == c && s.isPrefixOf l)
    rw [prefix_nl s l r (fun hm => h (by simp [hm]))]
theorem longest_nl (l r : List UInt8) : longest (l ++ 10 :: r) = longest l := by
  unfold longest
  suffices h : ∀ (ss : List (List UInt8)) (b : List UInt8), (∀ s ∈ ss, (10 : UInt8) ∉ s) → ss.foldl (better (l ++ 10 :: r)) b = ss.foldl (better l) b from h signsL [] (by decide)
  intro ss
  induction ss with
  | nil => intro b _; rfl
  | cons s ss ih =>
    intro b hs
    rw [List.foldl_cons, List.foldl_cons]
    have e : better (l ++ 10 :: r) b s = better l b s := by
      unfold better
      rw [prefix_nl s l r (hs s (by simp))]
    rw [e]
    exact ih _ (fun x hx => hs x (by simp [hx]))
theorem rowN_nl (p : UInt8 → Bool) (hp : p 10 = false) : ∀ (l r : List UInt8), rowN p (l ++ 10 :: r) = rowN p l
  | [], r => by unfold rowN; simp [hp]
  | c :: l, r => by
    have ih := rowN_nl p hp l r
    unfold rowN at ih ⊢
    rw [List.cons_append, List.takeWhile_cons, List.takeWhile_cons]
    split
    · simp [ih]
    · rfl
theorem take_nl (k : Nat) (l r : List UInt8) (h : k ≤ l.length) : (l ++ r).take k = l.take k := List.take_append_of_le_length h
theorem drop_nl (k : Nat) (l r : List UInt8) (h : k ≤ l.length) : (l ++ r).drop k = l.drop k ++ r := List.drop_append_of_le_length h
theorem cutQ_nl {l r s : List UInt8} (h : cutQ l = some s) : cutQ (l ++ r) = some s ∧ s.length < l.length := by
  unfold cutQ at h ⊢
  split at h
  · next hl =>
    injection h with h
    have e : ∀ (l : List UInt8), (l.takeWhile fun c => decide (c.toNat ≠ 34)).length < l.length → (l ++ r).takeWhile (fun c => decide (c.toNat ≠ 34)) = l.takeWhile (fun c => decide (c.toNat ≠ 34)) := by
      intro l
      induction l with
      | nil => intro h; simp at h
      | cons c l ih =>
        intro h
        rw [List.cons_append, List.takeWhile_cons, List.takeWhile_cons] at *
        split
        · next hc =>
          rw [if_pos hc] at h
          rw [ih (by simpa using h)]
        · rfl
    rw [e l hl, h, if_pos (by rw [List.length_append]; rw [h] at hl; omega)]
    exact ⟨rfl, by rw [← h]; exact hl⟩
  · cases h
theorem words_run {t : List UInt8} {l : List Wd} (h : words t = (l, 0)) : ∃ ws, run t.length t [] = (0, ws) ∧ endLn ws = l := by
  unfold words at h
  split at h
  · cases h
  split at h
  · next h0 =>
    split at h
    · cases h
    · injection h with h _
      exact ⟨(run t.length t []).2, by rw [← h0], h⟩
  · next h0 => injection h with _ h; exact absurd h h0
theorem run_end {n : Nat} {r : List UInt8} {ws : List Wd} (hr : r ≠ []) {x : Wd} (hs : ∀ ws, step r ws = ⟨0, [], ws ++ [x]⟩) (hn : (10 :: r).length ≤ n) : run n (10 :: r) ws = (0, endLn ws ++ [x]) := by
  obtain ⟨k, rfl⟩ : ∃ k, n = k + 2 := ⟨n - 2, by
    have : 0 < r.length := List.length_pos_iff.2 hr
    simp at hn
    omega⟩
  have h1 : step (10 :: r) ws = ⟨0, r, endLn ws⟩ := rfl
  rw [run_go (k := k + 1) (by simp) (by rw [h1]), h1]
  dsimp only
  rw [run_go (k := k) hr (by rw [hs]), hs]
  dsimp only
  exact run_nil _ _
def impB : List UInt8 := [105, 109, 112, 111, 114, 116]
def openW : Wd := ⟨5, [123], 0⟩
theorem endLn_open (ws : List Wd) : endLn (openW :: ws) = openW :: endLn ws := by
  rcases List.eq_nil_or_concat ws with rfl | ⟨p, x, rfl⟩
  · rfl
  · rw [List.concat_eq_append]
    have hl : (p ++ [x]).getLast? = some x := by simp
    have hl2 : (openW :: (p ++ [x])).getLast? = some x := by
      rw [show openW :: (p ++ [x]) = (openW :: p) ++ [x] from rfl, List.getLast?_append]
      rfl
    rcases Bool.eq_false_or_eq_true (mayB x) with hm | hm
    · rw [endLn_yes hl hm, endLn_yes hl2 hm]
      simp
    · rw [endLn_no hl hm, endLn_no hl2 hm]
set_option maxHeartbeats 4000000 in
theorem step_open (l : List UInt8) (ws : List Wd) : step l (openW :: ws) = ⟨(step l ws).e, (step l ws).l, openW :: (step l ws).ws⟩ := by
  cases l with
  | nil => rfl
  | cons c q =>
  unfold step
  dsimp only
  split
  · rw [endLn_open]
  split
  · rfl
  split
  · rfl
  split
  · unfold numS
    dsimp only
    split
    · rfl
    split <;> rfl
  split
  · unfold nameS
    dsimp only
    split <;> rfl
  split
  · unfold textS
    split
    · split <;> rfl
    · rfl
  · unfold signS
    generalize longest (c :: q) = s
    split <;> rfl
theorem run_open : ∀ (n : Nat) (l : List UInt8) (ws ws2 : List Wd), run n l ws = (0, ws2) → run n l (openW :: ws) = (0, openW :: ws2)
  | 0, l, ws, ws2, h => by
    unfold run at h ⊢
    injection h with _ h
    rw [h]
  | n + 1, l, ws, ws2, h => by
    by_cases he : l = []
    · subst he
      rw [run_nil] at h ⊢
      injection h with _ h
      rw [h]
    · have h0 : (step l ws).e = 0 := by
        unfold run at h
        rw [if_neg he] at h
        split at h
        · next h0 => exact h0
        · next h0 => injection h with h _
      rw [run_go (k := n) he h0] at h
      have hs := step_open l ws
      rw [run_go (k := n) he (by rw [hs]; exact h0), hs]
      exact run_open n _ _ _ h
theorem longest_open (t : List UInt8) : longest (123 :: t) = [123] := by
  simp [longest, signsL, better, List.isPrefixOf]
theorem words_open {t : List UInt8} {l : List Wd} (h : words t = (l, 0)) : (words (123 :: t)).2 ≠ 0 ∨ words (123 :: t) = (openW :: l, 0) := by
  obtain ⟨ws, h1, h2⟩ := words_run h
  have hs : step (123 :: t) [] = ⟨0, t, [openW]⟩ := by
    have : step (123 :: t) [] = signS (123 :: t) [] := by
      unfold step
      dsimp only
      rw [if_neg (by decide), if_neg (by decide), if_neg (by cases t <;> simp [List.isPrefixOf]), if_neg (by decide), if_neg (by decide), if_neg (by decide)]
    rw [this]
    unfold signS
    rw [longest_open]
    rfl
  have h3 : run (123 :: t).length (123 :: t) [] = (0, openW :: ws) := by
    rw [List.length_cons, run_go (k := t.length) (by simp) (by rw [hs]), hs]
    exact run_open _ _ [] ws h1
  unfold words
  rw [h3]
  split
  · exact .inl (by decide)
  · rw [if_pos rfl, endLn_open, h2]
    split
    · exact .inl (by decide)
    · exact .inr rfl
end Go.Proofs.YtlhbhpdpjidpgaaGreatDoor.Lex
