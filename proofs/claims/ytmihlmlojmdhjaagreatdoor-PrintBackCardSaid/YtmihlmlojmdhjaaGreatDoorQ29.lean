/-
  What is printed of an expression, word by word, is told as it was: the grammar. No condition.
-/
import Derived.Test.YtmihlmlojmdhjaaGreatDoorQ28
namespace Go.Proofs.YtmihlmlojmdhjaaGreatDoor.Prg
open Tre Prs
open Lex (Wd)
set_option maxRecDepth 100000
abbrev sg (s : List UInt8) : Wd := ⟨5, s, 0⟩
abbrev kw (s : List UInt8) : Wd := ⟨4, s, 0⟩
abbrev nm (s : List UInt8) : Wd := ⟨1, s, 0⟩
abbrev nu (n : Int) : Wd := ⟨2, [], n⟩
def opOf : Tx → Int | .mk op _ _ _ _ => op
/-- The signs of ops of two. -/
def opS (op : Int) : List UInt8 :=
  if op = 7 then [42] else if op = 8 then [47] else if op = 9 then [37] else if op = 10 then [43] else if op = 11 then [45]
  else if op = 12 then [61, 61] else if op = 13 then [33, 61] else if op = 14 then [60] else if op = 15 then [60, 61] else if op = 16 then [62] else if op = 17 then [62, 61]
  else if op = 18 then [38, 38] else [124, 124]
/-- An op's level. -/
def opL (op : Int) : Nat := if op ≤ 9 then 4 else if op ≤ 11 then 3 else if op ≤ 17 then 2 else if op = 18 then 1 else 0
def commas : List (List Wd) → List Wd
  | [] => []
  | [w] => w
  | w :: v :: r => w ++ sg [44] :: commas (v :: r)
/-- In brackets, if it has two parts. -/
def partW (x : Tx) (w : List Wd) : List Wd := if 7 ≤ opOf x then sg [40] :: (w ++ [sg [41]]) else w
def headW (s q : List UInt8) : List Wd := if q = [] then [nm s] else [nm q, sg [46], nm s]
def wordsX : Tx → List Wd
  | .mk op n s q x =>
    if op = 1 then [nu n] else if op = 2 then [kw (if n = 1 then [116, 114, 117, 101] else [102, 97, 108, 115, 101])] else if op = 3 then [nm s]
    else if op = 4 then headW s q ++ sg [40] :: (commas (x.attach.map fun ⟨y, _⟩ => wordsX y) ++ [sg [41]])
    else match x.attach.map (fun ⟨y, _⟩ => partW y (wordsX y)) with
      | [v] => sg (if op = 5 then [45] else [33]) :: v
      | [v, w] => v ++ sg (opS op) :: w
      | _ => []
theorem wordsX_call (n : Int) (s q : List UInt8) (x : List Tx) : wordsX (.mk 4 n s q x) = headW s q ++ sg [40] :: (commas (x.map wordsX) ++ [sg [41]]) := by
  rw [wordsX]
  simp only [show ¬ (4 : Int) = 1 by decide, show ¬ (4 : Int) = 2 by decide, show ¬ (4 : Int) = 3 by decide, if_false, if_true]
  rw [show (x.attach.map fun ⟨y, _⟩ => wordsX y) = x.map wordsX from List.map_subtype (fun _ _ => rfl) |>.trans (by simp)]
theorem wordsX_one (op n : Int) (s q : List UInt8) (x : Tx) (h : op = 5 ∨ op = 6) : wordsX (.mk op n s q [x]) = sg (if op = 5 then [45] else [33]) :: partW x (wordsX x) := by
  rw [wordsX]
  rcases h with rfl | rfl <;> simp
theorem wordsX_two (op n : Int) (s q : List UInt8) (x y : Tx) (h : 7 ≤ op) : wordsX (.mk op n s q [x, y]) = partW x (wordsX x) ++ sg (opS op) :: partW y (wordsX y) := by
  rw [wordsX]
  rw [if_neg (by omega), if_neg (by omega), if_neg (by omega), if_neg (by omega)]
  simp
theorem isW_sg (s t : List UInt8) (l : List Wd) (B : Bool) : isW ⟨sg s :: l, false, B⟩ t = (s == t) := by simp [isW, peek]
theorem isW_kw (s t : List UInt8) (l : List Wd) (B : Bool) : isW ⟨kw s :: l, false, B⟩ t = (s == t) := by simp [isW, peek]
theorem isW_nm (s t : List UInt8) (l : List Wd) (B : Bool) : isW ⟨nm s :: l, false, B⟩ t = false := by simp [isW, peek]
theorem isW_nu (n : Int) (t : List UInt8) (l : List Wd) (B : Bool) : isW ⟨nu n :: l, false, B⟩ t = false := by simp [isW, peek]
theorem tl_cons (w : Wd) (l : List Wd) (b B : Bool) : tl ⟨w :: l, b, B⟩ = ⟨l, b, B⟩ := rfl
/-- No op stands next, nor what makes a name a call. -/
structure StopX (r : PS) : Prop where
  ok : r.bad = false
  ops : ∀ k, ∀ p ∈ level k, isW r p.1 = false
  par : isW r [40] = false
  dot : isW r [46] = false
theorem rest_stop {r : PS} (h : StopX r) (k : Nat) (x : Tx) : tell (.rest k x) r = (x, r) := by
  rw [tell_rest, if_neg (by rw [h.ok]; simp)]
  have e : (level k).find? (fun p => isW r p.1) = none := List.find?_eq_none.2 (fun p hp => by rw [h.ops k p hp]; simp)
  rw [e]
theorem row_down {r r' : PS} {x : Tx} (hu : tell .unary r = (x, r')) (hr : r'.bad = false) : ∀ (m k : Nat), k + m = 5 → (∀ j, k ≤ j → j ≤ 4 → ∀ p ∈ level j, isW r' p.1 = false) → tell (.row k) r = (x, r')
  | 0, k, hk, _ => by rw [tell_top (by omega), hu]
  | m + 1, k, hk, h => by
    rw [tell_row (by omega), row_down hu hr m (k + 1) (by omega) (fun j hj => h j (by omega)), tell_rest, if_neg (by rw [hr]; simp)]
    have e : (level k).find? (fun p => isW r' p.1) = none := List.find?_eq_none.2 (fun p hp => by rw [h k (Nat.le_refl _) (by omega) p hp]; simp)
    rw [e]
theorem row_up {r r' : PS} {x : Tx} (h : StopX r') : ∀ (m k : Nat), k + m ≤ 5 → tell (.row (k + m)) r = (x, r') → tell (.row k) r = (x, r')
  | 0, k, _, hx => hx
  | m + 1, k, hk, hx => by
    rw [tell_row (by omega), row_up h m (k + 1) (by omega) (by rw [show k + 1 + m = k + (m + 1) by omega]; exact hx)]
    exact rest_stop h k x
theorem op_cases {op : Int} (h1 : 7 ≤ op) (h2 : op ≤ 19) : op = 7 ∨ op = 8 ∨ op = 9 ∨ op = 10 ∨ op = 11 ∨ op = 12 ∨ op = 13 ∨ op = 14 ∨ op = 15 ∨ op = 16 ∨ op = 17 ∨ op = 18 ∨ op = 19 := by omega
/-- An op's sign: at its level it is found, at no level above; it is no bracket, no dot. -/
theorem op_found {op : Int} (h1 : 7 ≤ op) (h2 : op ≤ 19) (l : List Wd) (B : Bool) : (level (opL op)).find? (fun p => isW ⟨sg (opS op) :: l, false, B⟩ p.1) = some (opS op, op) := by
  simp only [isW_sg]
  rcases op_cases h1 h2 with rfl | rfl | rfl | rfl | rfl | rfl | rfl | rfl | rfl | rfl | rfl | rfl | rfl <;> decide
theorem op_not {op : Int} (h1 : 7 ≤ op) (h2 : op ≤ 19) (l : List Wd) (B : Bool) {j : Nat} (hj : opL op < j) (hj4 : j ≤ 4) : ∀ p ∈ level j, isW ⟨sg (opS op) :: l, false, B⟩ p.1 = false := by
  simp only [isW_sg]
  have key : ∀ j ∈ [1, 2, 3, 4], opL op < j → ∀ p ∈ level j, (opS op == p.1) = false := by
    rcases op_cases h1 h2 with rfl | rfl | rfl | rfl | rfl | rfl | rfl | rfl | rfl | rfl | rfl | rfl | rfl <;> decide
  have hj5 : j = 1 ∨ j = 2 ∨ j = 3 ∨ j = 4 := by omega
  rcases hj5 with rfl | rfl | rfl | rfl
  · exact key 1 (by simp) hj
  · exact key 2 (by simp) hj
  · exact key 3 (by simp) hj
  · exact key 4 (by simp) hj
theorem op_plain {op : Int} (h1 : 7 ≤ op) (h2 : op ≤ 19) (l : List Wd) (B : Bool) : isW ⟨sg (opS op) :: l, false, B⟩ [40] = false ∧ isW ⟨sg (opS op) :: l, false, B⟩ [46] = false := by
  simp only [isW_sg]
  rcases op_cases h1 h2 with rfl | rfl | rfl | rfl | rfl | rfl | rfl | rfl | rfl | rfl | rfl | rfl | rfl <;> decide
theorem opL_le {op : Int} : opL op ≤ 4 := by
  unfold opL
  split
  · omega
  split
  · omega
  split
  · omega
  split <;> omega
theorem level_any (k : Nat) : level k = level 0 ∨ level k = level 1 ∨ level k = level 2 ∨ level k = level 3 ∨ level k = level 4 := by
  rcases (show k = 0 ∨ k = 1 ∨ k = 2 ∨ k = 3 ∨ 4 ≤ k by omega) with rfl | rfl | rfl | rfl | h
  · exact .inl rfl
  · exact .inr (.inl rfl)
  · exact .inr (.inr (.inl rfl))
  · exact .inr (.inr (.inr (.inl rfl)))
  · refine .inr (.inr (.inr (.inr ?_)))
    unfold level
    have a0 : (k == 0) = false := by simp; omega
    have a1 : (k == 1) = false := by simp; omega
    have a2 : (k == 2) = false := by simp; omega
    have a3 : (k == 3) = false := by simp; omega
    rw [a0, a1, a2, a3]
    rfl
theorem stop_sg (s : List UInt8) (l : List Wd) (B : Bool) (hs : s ∈ [[41], [44], [59], [123], [125]]) : StopX ⟨sg s :: l, false, B⟩ := by
  simp only [List.mem_cons, List.not_mem_nil, or_false] at hs
  refine ⟨rfl, fun k p hp => ?_, ?_, ?_⟩
  · rw [isW_sg]
    revert p
    rcases level_any k with e | e | e | e | e <;> rw [e] <;> rcases hs with rfl | rfl | rfl | rfl | rfl <;> decide
  · rw [isW_sg]
    rcases hs with rfl | rfl | rfl | rfl | rfl <;> decide
  · rw [isW_sg]
    rcases hs with rfl | rfl | rfl | rfl | rfl <;> decide
theorem wordR_nm (s : List UInt8) (l : List Wd) (B : Bool) : wordR ⟨nm s :: l, false, B⟩ 1 false = ⟨l, false, B⟩ := by simp [wordR, wordNo, peek, tl]
theorem wordS_nm (s : List UInt8) (l : List Wd) (B : Bool) : wordS ⟨nm s :: l, false, B⟩ 1 false = s := by simp [wordS, wordNo, peek]
theorem mustW_sg (s : List UInt8) (l : List Wd) (B : Bool) : mustW ⟨sg s :: l, false, B⟩ s = ⟨l, false, B⟩ := by simp [mustW, isW, peek, tl]
theorem mustW_kw (s : List UInt8) (l : List Wd) (B : Bool) : mustW ⟨kw s :: l, false, B⟩ s = ⟨l, false, B⟩ := by simp [mustW, isW, peek, tl]
theorem un_num (n : Int) (l : List Wd) (B : Bool) : tell .unary ⟨nu n :: l, false, B⟩ = (.mk 1 n [] [] [], ⟨l, false, B⟩) := by
  rw [tell_unary]
  simp only [isW_nu, Bool.false_eq_true, if_false]
  rw [if_pos (by simp [peek])]
  simp [peek, tl]
theorem un_true (l : List Wd) (B : Bool) : tell .unary ⟨kw [116, 114, 117, 101] :: l, false, B⟩ = (.mk 2 1 [] [] [], ⟨l, false, B⟩) := by
  rw [tell_unary]
  simp only [isW_kw]
  rw [if_neg (by decide), if_neg (by decide), if_pos (by decide)]
  rfl
theorem un_false (l : List Wd) (B : Bool) : tell .unary ⟨kw [102, 97, 108, 115, 101] :: l, false, B⟩ = (.mk 2 0 [] [] [], ⟨l, false, B⟩) := by
  rw [tell_unary]
  simp only [isW_kw]
  rw [if_neg (by decide), if_neg (by decide), if_neg (by decide), if_pos (by decide)]
  rfl
theorem un_nm (s : List UInt8) (l : List Wd) (B : Bool) : tell .unary ⟨nm s :: l, false, B⟩ = if isW ⟨l, false, B⟩ [40] || isW ⟨l, false, B⟩ [46] then tell (.call s) ⟨l, false, B⟩ else (.mk 3 0 s [] [], ⟨l, false, B⟩) := by
  rw [tell_unary]
  simp only [isW_nm, Bool.false_eq_true, if_false, wordR_nm, wordS_nm]
  rw [if_neg (by simp [peek])]
theorem un_neg (l : List Wd) (B : Bool) : tell .unary ⟨sg [45] :: l, false, B⟩ = (.mk 5 0 [] [] [(tell .unary ⟨l, false, B⟩).1], (tell .unary ⟨l, false, B⟩).2) := by
  rw [tell_unary]
  simp only [isW_sg]
  rw [if_pos (by decide)]
  rfl
theorem un_bang (l : List Wd) (B : Bool) : tell .unary ⟨sg [33] :: l, false, B⟩ = (.mk 6 0 [] [] [(tell .unary ⟨l, false, B⟩).1], (tell .unary ⟨l, false, B⟩).2) := by
  rw [tell_unary]
  simp only [isW_sg]
  rw [if_neg (by decide), if_pos (by decide)]
  rfl
theorem un_par (l : List Wd) (B : Bool) : tell .unary ⟨sg [40] :: l, false, B⟩ = ((tell (.row 0) ⟨l, false, B⟩).1, mustW (tell (.row 0) ⟨l, false, B⟩).2 [41]) := by
  rw [tell_unary]
  simp only [isW_sg]
  rw [if_neg (by decide), if_neg (by decide), if_neg (by decide), if_neg (by decide), if_pos (by decide)]
  rfl
/-- What an expression's words begin with is no sign that ends something. -/
theorem head_not {e : Tx} (h : OkX e) (l : List Wd) (B : Bool) {t : List UInt8} (ht : t = [41] ∨ t = [59] ∨ t = [125] ∨ t = [123]) : isW ⟨wordsX e ++ l, false, B⟩ t = false := by
  induction h generalizing l with
  | num n h => simp only [wordsX, if_true, List.cons_append]; exact isW_nu _ _ _ _
  | truth n h =>
    simp only [wordsX, show ¬ (2 : Int) = 1 by decide, if_false, if_true, List.cons_append]
    rw [isW_kw]
    rcases h with rfl | rfl <;> rcases ht with rfl | rfl | rfl | rfl <;> decide
  | name s h =>
    simp only [wordsX, show ¬ (3 : Int) = 1 by decide, show ¬ (3 : Int) = 2 by decide, if_false, if_true, List.cons_append]
    exact isW_nm _ _ _ _
  | call s q x h hq hl hx ih =>
    rw [wordsX_call]
    unfold headW
    split <;> (simp only [List.cons_append]; exact isW_nm _ _ _ _)
  | one op x h hx ih =>
    rw [wordsX_one _ _ _ _ _ h]
    simp only [List.cons_append]
    rw [isW_sg]
    rcases h with rfl | rfl <;> rcases ht with rfl | rfl | rfl | rfl <;> decide
  | two op x y h h2 hx hy ihx ihy =>
    rw [wordsX_two _ _ _ _ _ _ h]
    unfold partW
    split
    · simp only [List.cons_append]
      rw [isW_sg]
      rcases ht with rfl | rfl | rfl | rfl <;> decide
    · rw [List.append_assoc]
      exact ihx _
def UnX (e : Tx) : Prop := ¬ 7 ≤ opOf e → ∀ (l : List Wd) (B : Bool), isW ⟨l, false, B⟩ [40] = false → isW ⟨l, false, B⟩ [46] = false → tell .unary ⟨wordsX e ++ l, false, B⟩ = (e, ⟨l, false, B⟩)
def RowX (e : Tx) : Prop := ∀ (l : List Wd) (B : Bool), StopX ⟨l, false, B⟩ → tell (.row 0) ⟨wordsX e ++ l, false, B⟩ = (e, ⟨l, false, B⟩)
theorem part_of {e : Tx} (hu : UnX e) (hr : RowX e) (l : List Wd) (B : Bool) (h1 : isW ⟨l, false, B⟩ [40] = false) (h2 : isW ⟨l, false, B⟩ [46] = false) : tell .unary ⟨partW e (wordsX e) ++ l, false, B⟩ = (e, ⟨l, false, B⟩) := by
  unfold partW
  split
  · rw [List.cons_append, un_par, List.append_assoc, List.singleton_append, hr _ B (stop_sg [41] l B (by simp))]
    dsimp only
    rw [mustW_sg]
  · next h => exact hu h l B h1 h2
theorem row_of {e : Tx} (hu : UnX e) (h7 : ¬ 7 ≤ opOf e) : RowX e := fun l B h =>
  row_down (hu h7 l B h.par h.dot) rfl 5 0 rfl (fun j _ _ => h.ops j)
theorem args_of (s q : List UInt8) (l : List Wd) (B : Bool) : ∀ (ys xs : List Tx), (∀ y ∈ ys, OkX y ∧ RowX y) → tell (.args q s xs) ⟨commas (ys.map wordsX) ++ sg [41] :: l, false, B⟩ = callEnd q s (xs ++ ys) ⟨sg [41] :: l, false, B⟩
  | [], xs, _ => by
    rw [tell_args, if_pos (by simp [commas, isW_sg])]
    simp [commas]
  | [y], xs, h => by
    have hy := h y (by simp)
    simp only [List.map_cons, List.map_nil, commas]
    rw [tell_args, if_neg (by rw [head_not hy.1 _ B (.inl rfl)]; simp), hy.2 _ B (stop_sg [41] l B (by simp))]
    dsimp only
    rw [if_neg (by rw [isW_sg]; decide)]
  | y :: z :: r, xs, h => by
    have hy := h y (by simp)
    have hz := h z (by simp)
    simp only [List.map_cons, commas]
    rw [List.append_assoc, List.cons_append, tell_args, if_neg (by rw [head_not hy.1 _ B (.inl rfl)]; simp), hy.2 _ B (stop_sg [44] _ B (by simp))]
    dsimp only
    rw [if_pos (by rw [isW_sg]; decide), tl_cons]
    have ih := args_of s q l B (z :: r) (xs ++ [y]) (fun w hw => h w (by simp only [List.mem_cons] at hw ⊢; exact .inr hw))
    simp only [List.map_cons] at ih
    have hn : isW ⟨commas (wordsX z :: r.map wordsX) ++ sg [41] :: l, false, B⟩ [41] = false := by
      cases r with
      | nil => simp only [List.map_nil, commas]; exact head_not hz.1 _ B (.inl rfl)
      | cons a r => simp only [List.map_cons, commas]; rw [List.append_assoc]; exact head_not hz.1 _ B (.inl rfl)
    rw [if_neg (by rw [hn]; simp), ih, List.append_assoc, List.singleton_append]
theorem le_sumT {y : Tx} : ∀ {l : List Tx}, y ∈ l → sizeT y ≤ sumT l
  | [], h => by simp at h
  | x :: l, h => by
    have e : sumT (x :: l) = sizeT x + sumT l := by simp [sumT]
    rcases List.mem_cons.1 h with rfl | h
    · omega
    · have := le_sumT h
      omega
theorem told_upto : ∀ (m : Nat) (e : Tx), sizeT e ≤ m → OkX e → UnX e ∧ RowX e
  | 0, .mk _ _ _ _ _, h, _ => by rw [sizeT_eq] at h; omega
  | m + 1, e, hm, h => by
    cases h with
    | num n h =>
      have hu : UnX (.mk 1 n [] [] []) := fun _ l B _ _ => by simp only [wordsX, if_true, List.cons_append, List.nil_append]; exact un_num n l B
      exact ⟨hu, row_of hu (by simp [opOf])⟩
    | truth n h =>
      have hu : UnX (.mk 2 n [] [] []) := fun _ l B _ _ => by
        simp only [wordsX, show ¬ (2 : Int) = 1 by decide, if_false, if_true, List.cons_append, List.nil_append]
        rcases h with rfl | rfl
        · rw [if_neg (by decide)]; exact un_false l B
        · rw [if_pos rfl]; exact un_true l B
      exact ⟨hu, row_of hu (by simp [opOf])⟩
    | name s h =>
      have hu : UnX (.mk 3 0 s [] []) := fun _ l B h1 h2 => by
        simp only [wordsX, show ¬ (3 : Int) = 1 by decide, show ¬ (3 : Int) = 2 by decide, if_false, if_true, List.cons_append, List.nil_append]
        rw [un_nm, h1, h2]
        rfl
      exact ⟨hu, row_of hu (by simp [opOf])⟩
    | call s q x h hq hl hx =>
      have hys : ∀ y ∈ x, OkX y ∧ RowX y := fun y hy => ⟨hx y hy, (told_upto m y (by
        rw [sizeT_eq] at hm
        have := le_sumT hy
        omega) (hx y hy)).2⟩
      have hu : UnX (.mk 4 0 s q x) := fun _ l B _ _ => by
        rw [wordsX_call]
        have hend : ∀ B, callEnd q s x ⟨sg [41] :: l, false, B⟩ = (.mk 4 0 s q x, ⟨l, false, B⟩) := fun B => by
          unfold callEnd
          rw [mustW_sg]
          simp
          omega
        unfold headW
        split
        · next hq0 =>
          subst hq0
          rw [List.append_assoc, List.cons_append, List.nil_append, un_nm, List.cons_append, isW_sg, if_pos (by simp), tell_call, if_neg (by rw [isW_sg]; decide), mustW_sg, List.append_assoc, List.singleton_append, args_of s [] l B x [] hys]
          exact hend B
        · rw [List.append_assoc, List.cons_append, un_nm, List.cons_append, isW_sg, if_pos (by simp [isW_sg]), tell_call, if_pos (by rw [isW_sg]; decide), tl_cons, List.cons_append, List.nil_append, wordS_nm, wordR_nm, List.cons_append, mustW_sg, List.append_assoc, List.singleton_append, args_of s q l B x [] hys]
          exact hend B
      exact ⟨hu, row_of hu (by simp [opOf])⟩
    | one op x h hx =>
      have ih := told_upto m x (by rw [sizeT_eq, sumT_one] at hm; omega) hx
      have hu : UnX (.mk op 0 [] [] [x]) := fun _ l B h1 h2 => by
        rw [wordsX_one _ _ _ _ _ h]
        rcases h with rfl | rfl
        · rw [if_pos rfl, List.cons_append, un_neg, part_of ih.1 ih.2 l B h1 h2]
        · rw [if_neg (by decide), List.cons_append, un_bang, part_of ih.1 ih.2 l B h1 h2]
      exact ⟨hu, row_of hu (by simp only [opOf]; rcases h with rfl | rfl <;> decide)⟩
    | two op x y h h2 hx hy =>
      rw [sizeT_eq, show [x, y] = [x] ++ [y] from rfl, sumT_app, sumT_one, sumT_one] at hm
      have ix := told_upto m x (by omega) hx
      have iy := told_upto m y (by omega) hy
      refine ⟨fun h7 => absurd h h7, fun l B hs => ?_⟩
      rw [wordsX_two _ _ _ _ _ _ h, List.append_assoc, List.cons_append]
      have hp := op_plain h h2 (partW y (wordsX y) ++ l) B
      have hxu := part_of ix.1 ix.2 (sg (opS op) :: (partW y (wordsX y) ++ l)) B hp.1 hp.2
      have hL := opL_le (op := op)
      have h1 : tell (.row (opL op + 1)) ⟨partW x (wordsX x) ++ sg (opS op) :: (partW y (wordsX y) ++ l), false, B⟩ = (x, ⟨sg (opS op) :: (partW y (wordsX y) ++ l), false, B⟩) :=
        row_down hxu rfl (4 - opL op) (opL op + 1) (by omega) (fun j hj hj4 => op_not h h2 _ B (by omega) hj4)
      have hy1 : tell (.row (opL op + 1)) ⟨partW y (wordsX y) ++ l, false, B⟩ = (y, ⟨l, false, B⟩) :=
        row_down (part_of iy.1 iy.2 l B hs.par hs.dot) rfl (4 - opL op) (opL op + 1) (by omega) (fun j _ _ => hs.ops j)
      refine row_up hs (opL op) 0 (by omega) ?_
      rw [Nat.zero_add, tell_row hL, h1]
      dsimp only
      rw [tell_rest, if_neg (by simp), op_found h h2]
      dsimp only
      rw [tl_cons, hy1]
      exact rest_stop hs _ _
/-- An expression's words tell it, wherever no more of it can come. -/
theorem told_words {e : Tx} (h : OkX e) {l : List Wd} {B : Bool} (hs : StopX ⟨l, false, B⟩) : tell (.row 0) ⟨wordsX e ++ l, false, B⟩ = (e, ⟨l, false, B⟩) := (told_upto _ e (Nat.le_refl _) h).2 l B hs
end Go.Proofs.YtmihlmlojmdhjaaGreatDoor.Prg
/- An expression's text is read as its words. No condition but numbers that an int64 holds. -/
namespace Go.Proofs.YtmihlmlojmdhjaaGreatDoor.Prg
open Tre Prs
open Lex (Wd Ch textC foldC Ap cool fit textC_cons textC_app textC_nil foldC_app ap_app mayB)
set_option maxRecDepth 100000
abbrev cw (x : Wd) : Ch := .w x
abbrev bl : Ch := .b 32
/-- Numbers that an int64 holds. -/
inductive LoX : Tx → Prop where
  | mk (op n : Int) (s q : List UInt8) (x : List Tx) (h : n ≤ 9223372036854775807) (hx : ∀ y ∈ x, LoX y) : LoX (.mk op n s q x)
def commasC : List (List Ch) → List Ch
  | [] => []
  | [w] => w
  | w :: v :: r => w ++ cw (sg [44]) :: bl :: commasC (v :: r)
def partC (x : Tx) (w : List Ch) : List Ch := if 7 ≤ opOf x then cw (sg [40]) :: (w ++ [cw (sg [41])]) else w
def headC (s q : List UInt8) : List Ch := if q = [] then [cw (nm s)] else [cw (nm q), cw (sg [46]), cw (nm s)]
def chX : Tx → List Ch
  | .mk op n s q x =>
    if op = 1 then [cw (nu n)] else if op = 2 then [cw (kw (if n = 1 then [116, 114, 117, 101] else [102, 97, 108, 115, 101]))] else if op = 3 then [cw (nm s)]
    else if op = 4 then headC s q ++ cw (sg [40]) :: (commasC (x.attach.map fun ⟨y, _⟩ => chX y) ++ [cw (sg [41])])
    else match x.attach.map (fun ⟨y, _⟩ => partC y (chX y)) with
      | [v] => cw (sg (if op = 5 then [45] else [33])) :: v
      | [v, w] => v ++ bl :: cw (sg (opS op)) :: bl :: w
      | _ => []
theorem chX_call (n : Int) (s q : List UInt8) (x : List Tx) : chX (.mk 4 n s q x) = headC s q ++ cw (sg [40]) :: (commasC (x.map chX) ++ [cw (sg [41])]) := by
  rw [chX]
  simp only [show ¬ (4 : Int) = 1 by decide, show ¬ (4 : Int) = 2 by decide, show ¬ (4 : Int) = 3 by decide, if_false, if_true]
  rw [show (x.attach.map fun ⟨y, _⟩ => chX y) = x.map chX from List.map_subtype (fun _ _ => rfl) |>.trans (by simp)]
theorem chX_one (op n : Int) (s q : List UInt8) (x : Tx) (h : op = 5 ∨ op = 6) : chX (.mk op n s q [x]) = cw (sg (if op = 5 then [45] else [33])) :: partC x (chX x) := by
  rw [chX]
  rcases h with rfl | rfl <;> simp
theorem chX_two (op n : Int) (s q : List UInt8) (x y : Tx) (h : 7 ≤ op) : chX (.mk op n s q [x, y]) = partC x (chX x) ++ bl :: cw (sg (opS op)) :: bl :: partC y (chX y) := by
  rw [chX]
  rw [if_neg (by omega), if_neg (by omega), if_neg (by omega), if_neg (by omega)]
  simp
theorem opS_sign {op : Int} (h1 : 7 ≤ op) (h2 : op ≤ 19) : opS op ∈ Lex.signsL := by
  rcases op_cases h1 h2 with rfl | rfl | rfl | rfl | rfl | rfl | rfl | rfl | rfl | rfl | rfl | rfl | rfl <;> decide
/-- The words of the chunks are the expression's. -/
def Folds (cs : List Ch) (l : List Wd) : Prop := ∀ ws, foldC ws cs = ws ++ l
theorem folds_app {a b : List Ch} {l m : List Wd} (h : Folds a l) (h2 : Folds b m) : Folds (a ++ b) (l ++ m) := fun ws => by rw [foldC_app, h, h2, List.append_assoc]
theorem folds_w (x : Wd) {r : List Ch} {l : List Wd} (h : Folds r l) : Folds (cw x :: r) (x :: l) := fun ws => by
  show foldC (ws ++ [x]) r = _
  rw [h]
  simp
theorem folds_bl {r : List Ch} {l : List Wd} (h : Folds r l) : Folds (bl :: r) l := fun ws => h ws
theorem folds_nil : Folds [] [] := fun ws => by simp [foldC]
theorem folds_commas : ∀ (x : List Tx), (∀ y ∈ x, Folds (chX y) (wordsX y)) → Folds (commasC (x.map chX)) (commas (x.map wordsX))
  | [], _ => folds_nil
  | [y], h => h y (by simp)
  | y :: z :: r, h => by
    simp only [List.map_cons, commasC, commas]
    exact folds_app (h y (by simp)) (folds_w _ (folds_bl (folds_commas (z :: r) (fun v hv => h v (by simp at hv ⊢; exact .inr hv)))))
theorem folds_part {x : Tx} (h : Folds (chX x) (wordsX x)) : Folds (partC x (chX x)) (partW x (wordsX x)) := by
  unfold partC partW
  split
  · exact folds_w _ (folds_app h (folds_w _ folds_nil))
  · exact h
theorem folds_x {e : Tx} (h : OkX e) : Folds (chX e) (wordsX e) := by
  induction h with
  | num n h => simp only [chX, wordsX, if_true]; exact folds_w _ folds_nil
  | truth n h => simp only [chX, wordsX, show ¬ (2 : Int) = 1 by decide, if_false, if_true]; exact folds_w _ folds_nil
  | name s h => simp only [chX, wordsX, show ¬ (3 : Int) = 1 by decide, show ¬ (3 : Int) = 2 by decide, if_false, if_true]; exact folds_w _ folds_nil
  | call s q x h hq hl hx ih =>
    rw [chX_call, wordsX_call]
    refine folds_app ?_ (folds_w _ (folds_app (folds_commas x ih) (folds_w _ folds_nil)))
    unfold headC headW
    split
    · exact folds_w _ folds_nil
    · exact folds_w _ (folds_w _ (folds_w _ folds_nil))
  | one op x h hx ih =>
    rw [chX_one _ _ _ _ _ h, wordsX_one _ _ _ _ _ h]
    exact folds_w _ (folds_part ih)
  | two op x y h h2 hx hy ihx ihy =>
    rw [chX_two _ _ _ _ _ _ h, wordsX_two _ _ _ _ _ _ h]
    exact folds_app (folds_part ihx) (folds_bl (folds_w _ (folds_bl (folds_part ihy))))
/-- An expression's text begins with no =. -/
def Heads (cs : List Ch) : Prop := ∃ c r, textC cs = c :: r ∧ c ≠ 61
theorem heads_w {x : Wd} (r : List Ch) (h : ∃ c q, Lex.shown x = c :: q ∧ c ≠ 61) : Heads (cw x :: r) := by
  obtain ⟨c, q, e, h⟩ := h
  exact ⟨c, q ++ textC r, by rw [textC_cons]; show Lex.shown x ++ _ = _; rw [e]; rfl, h⟩
theorem name_head {s : List UInt8} (h : Lex.nameOk s = true) : ∃ c q, Lex.shown (nm s) = c :: q ∧ c ≠ 61 := by
  unfold Lex.nameOk at h
  simp only [Bool.and_eq_true, Bool.not_eq_true', decide_eq_false_iff_not] at h
  cases s with
  | nil => exact absurd rfl h.1.1.1.1
  | cons c q =>
    refine ⟨c, q, rfl, fun e => ?_⟩
    have h5 := h.2
    subst e
    simp at h5
    exact absurd h5.1 (by decide)
theorem num_head {n : Int} (h0 : 0 ≤ n) : ∃ c q, Lex.shown (nu n) = c :: q ∧ c ≠ 61 := by
  have es : Lex.shown (nu n) = Lib.itoa n := by
    unfold Lex.shown
    rw [if_neg (by dsimp only; omega), if_neg (by dsimp only; omega), if_pos ⟨rfl, h0⟩]
  have hi : Lib.itoa n = Lib.decDigits n.natAbs := by unfold Lib.itoa; rw [if_neg (by omega)]; congr 1; omega
  have ha : (Lib.itoa n).all Lex.dig = true := by rw [hi]; exact Num.all_decDigits _
  rw [es]
  cases h : Lib.itoa n with
  | nil => rw [hi] at h; exact absurd h (Num.decDigits_ne _)
  | cons c q =>
    refine ⟨c, q, rfl, fun e => ?_⟩
    rw [h] at ha
    subst e
    simp at ha
    exact absurd ha.1 (by decide)
theorem heads_x {e : Tx} (h : OkX e) (r : List Ch) : Heads (chX e ++ r) := by
  induction h generalizing r with
  | num n h => simp only [chX, if_true, List.cons_append]; exact heads_w _ (num_head h)
  | truth n h =>
    simp only [chX, show ¬ (2 : Int) = 1 by decide, if_false, if_true, List.cons_append]
    rcases h with rfl | rfl
    · exact heads_w _ ⟨_, _, rfl, by decide⟩
    · exact heads_w _ ⟨_, _, rfl, by decide⟩
  | name s h => simp only [chX, show ¬ (3 : Int) = 1 by decide, show ¬ (3 : Int) = 2 by decide, if_false, if_true, List.cons_append]; exact heads_w _ (name_head h)
  | call s q x h hq hl hx ih =>
    rw [chX_call]
    unfold headC
    split
    · simp only [List.cons_append, List.nil_append]; exact heads_w _ (name_head h)
    · next hn => simp only [List.cons_append, List.nil_append]; exact heads_w _ (name_head (hq.resolve_left hn))
  | one op x h hx ih =>
    rw [chX_one _ _ _ _ _ h]
    simp only [List.cons_append]
    rcases h with rfl | rfl
    · exact heads_w _ ⟨45, [], rfl, by decide⟩
    · exact heads_w _ ⟨33, [], rfl, by decide⟩
  | two op x y h h2 hx hy ihx ihy =>
    rw [chX_two _ _ _ _ _ _ h]
    unfold partC
    split
    · simp only [List.cons_append]; exact heads_w _ ⟨40, [], rfl, by decide⟩
    · rw [List.append_assoc]; exact ihx _
theorem heads_part {x : Tx} (h : OkX x) (r : List Ch) : Heads (partC x (chX x) ++ r) := by
  unfold partC
  split
  · simp only [List.cons_append]; exact heads_w _ ⟨40, [], rfl, by decide⟩
  · exact heads_x h r
theorem good_sg {s : List UInt8} (h : s ∈ Lex.signsL) : Lex.Good (sg s) := .sign s h
theorem fit_sg {c : UInt8} (h : c ∈ [40, 41, 123, 125, 44, 59, 46, 45]) (r : List UInt8) : fit (sg [c]) r := Lex.fit_one h r
theorem cool_sg {c : UInt8} (h : c ∈ [32, 40, 41, 123, 125, 44, 59, 46, 10]) (r : List UInt8) : cool (c :: r) := by
  simp only [List.mem_cons, List.not_mem_nil, or_false] at h
  show Lex.nameB c = false
  rcases h with rfl | rfl | rfl | rfl | rfl | rfl | rfl | rfl | rfl <;> decide
theorem ap_nm {s : List UInt8} (h : Lex.nameOk s = true) {r : List Ch} {t : List UInt8} (hc : cool (textC r ++ t)) (hr : Ap r t) : Ap (cw (nm s) :: r) t := ⟨(Lex.good_name h).1, .inr (.inr ⟨.inl rfl, hc⟩), hr⟩
theorem ap_kw {s : List UInt8} (h : Lex.keyB s = true) {r : List Ch} {t : List UInt8} (hc : cool (textC r ++ t)) (hr : Ap r t) : Ap (cw (kw s) :: r) t := ⟨Lex.good_key h, .inr (.inr ⟨.inr (.inr rfl), hc⟩), hr⟩
theorem ap_sg {c : UInt8} (h : c ∈ [40, 41, 123, 125, 44, 59, 46, 45]) (h2 : [c] ∈ Lex.signsL) {r : List Ch} {t : List UInt8} (hr : Ap r t) : Ap (cw (sg [c]) :: r) t := ⟨good_sg h2, fit_sg h _, hr⟩
theorem ap_bl {r : List Ch} {t : List UInt8} (hr : Ap r t) : Ap (bl :: r) t := ⟨by decide, hr⟩
theorem ap_sb {s : List UInt8} (h2 : s ∈ Lex.signsL) {r : List Ch} {t : List UInt8} (hr : Ap r t) : Ap (cw (sg s) :: bl :: r) t := ⟨good_sg h2, Lex.fit_blank h2 _, ap_bl hr⟩
theorem ap_bang {r : List Ch} {t : List UInt8} (h : Heads r) (hr : Ap r t) : Ap (cw (sg [33]) :: r) t := by
  obtain ⟨c, q, e, h⟩ := h
  refine ⟨good_sg (by decide), ?_, hr⟩
  rw [e]
  exact Lex.fit_bang h _
theorem ap_commas {t : List UInt8} (ht : cool t) : ∀ (x : List Tx), (∀ y ∈ x, ∀ t, cool t → Ap (chX y) t) → Ap (commasC (x.map chX)) t
  | [], _ => trivial
  | [y], h => h y (by simp) t ht
  | y :: z :: r, h => by
    simp only [List.map_cons, commasC]
    refine ap_app _ _ _ (h y (by simp) _ ?_) (ap_sg (by decide) (by decide) (ap_bl (ap_commas ht (z :: r) (fun v hv => h v (by simp at hv ⊢; exact .inr hv)))))
    rw [textC_cons]
    exact cool_sg (c := 44) (by decide) _
theorem ap_part {x : Tx} (h : ∀ t, cool t → Ap (chX x) t) {t : List UInt8} (ht : cool t) : Ap (partC x (chX x)) t := by
  unfold partC
  split
  · refine ap_sg (by decide) (by decide) (ap_app _ _ _ (h _ ?_) (ap_sg (by decide) (by decide) trivial))
    rw [textC_cons]
    exact cool_sg (c := 41) (by decide) _
  · exact h t ht
/-- Its chunks stand apart, if no name's byte is behind them. -/
theorem ap_x {e : Tx} (h : OkX e) (hlo : LoX e) : ∀ t, cool t → Ap (chX e) t := by
  induction h with
  | num n h =>
    intro t ht
    cases hlo with
    | mk _ _ _ _ _ h1 _ =>
      simp only [chX, if_true]
      exact ⟨.num n h h1, .inr (.inr ⟨.inr (.inl rfl), by simpa [textC] using ht⟩), trivial⟩
  | truth n h =>
    intro t ht
    simp only [chX, show ¬ (2 : Int) = 1 by decide, if_false, if_true]
    exact ap_kw (by rcases h with rfl | rfl <;> decide) (by simpa [textC] using ht) trivial
  | name s h =>
    intro t ht
    simp only [chX, show ¬ (3 : Int) = 1 by decide, show ¬ (3 : Int) = 2 by decide, if_false, if_true]
    exact ap_nm h (by simpa [textC] using ht) trivial
  | call s q x h hq hl hx ih =>
    intro t ht
    cases hlo with
    | mk _ _ _ _ _ _ hlo =>
      rw [chX_call]
      have hin : Ap (cw (sg [40]) :: (commasC (x.map chX) ++ [cw (sg [41])])) t := by
        refine ap_sg (by decide) (by decide) (ap_app _ _ _ (ap_commas ?_ x (fun y hy => ih y hy (hlo y hy))) (ap_sg (by decide) (by decide) trivial))
        rw [textC_cons]
        exact cool_sg (c := 41) (by decide) _
      have hco : cool (textC (cw (sg [40]) :: (commasC (x.map chX) ++ [cw (sg [41])])) ++ t) := by
        rw [textC_cons]
        exact cool_sg (c := 40) (by decide) _
      unfold headC
      split
      · simp only [List.cons_append, List.nil_append]
        exact ap_nm h hco hin
      · next hn =>
        simp only [List.cons_append, List.nil_append]
        refine ap_nm (hq.resolve_left hn) ?_ (ap_sg (by decide) (by decide) (ap_nm h hco hin))
        rw [textC_cons]
        exact cool_sg (c := 46) (by decide) _
  | one op x h hx ih =>
    intro t ht
    cases hlo with
    | mk _ _ _ _ _ _ hlo =>
      have hp := ap_part (ih (hlo x (by simp))) ht
      rw [chX_one _ _ _ _ _ h]
      rcases h with rfl | rfl
      · exact ap_sg (by decide) (by decide) hp
      · exact ap_bang (by have := heads_part hx []; rw [List.append_nil] at this; exact this) hp
  | two op x y h h2 hx hy ihx ihy =>
    intro t ht
    cases hlo with
    | mk _ _ _ _ _ _ hlo =>
      rw [chX_two _ _ _ _ _ _ h]
      refine ap_app _ _ _ (ap_part (ihx (hlo x (by simp))) ?_) (ap_bl (ap_sb (opS_sign h h2) (ap_part (ihy (hlo y (by simp))) ht)))
      rw [textC_cons]
      exact cool_sg (c := 32) (by decide) _
/-- The last word of an expression may end a line. -/
def Lasts (l : List Wd) : Prop := ∃ x, l.getLast? = some x ∧ mayB x = true
theorem lasts_app {a b : List Wd} (h : Lasts b) : Lasts (a ++ b) := by
  obtain ⟨x, h, hm⟩ := h
  exact ⟨x, by rw [List.getLast?_append, h]; rfl, hm⟩
theorem lasts_cons {a : Wd} {b : List Wd} (h : Lasts b) : Lasts (a :: b) := lasts_app (a := [a]) h
theorem lasts_one {x : Wd} (h : mayB x = true) : Lasts [x] := ⟨x, rfl, h⟩
theorem lasts_part {x : Tx} (h : Lasts (wordsX x)) : Lasts (partW x (wordsX x)) := by
  unfold partW
  split
  · exact lasts_cons (lasts_app (lasts_one (by decide)))
  · exact h
theorem lasts_x {e : Tx} (h : OkX e) : Lasts (wordsX e) := by
  induction h with
  | num n h => simp only [wordsX, if_true]; exact lasts_one rfl
  | truth n h =>
    simp only [wordsX, show ¬ (2 : Int) = 1 by decide, if_false, if_true]
    rcases h with rfl | rfl
    · exact lasts_one (by decide)
    · exact lasts_one (by decide)
  | name s h => simp only [wordsX, show ¬ (3 : Int) = 1 by decide, show ¬ (3 : Int) = 2 by decide, if_false, if_true]; exact lasts_one rfl
  | call s q x h hq hl hx ih =>
    rw [wordsX_call]
    exact lasts_app (lasts_cons (lasts_app (lasts_one (by decide))))
  | one op x h hx ih =>
    rw [wordsX_one _ _ _ _ _ h]
    exact lasts_cons (lasts_part ih)
  | two op x y h h2 hx hy ihx ihy =>
    rw [wordsX_two _ _ _ _ _ _ h]
    exact lasts_app (lasts_cons (lasts_part ihy))
end Go.Proofs.YtmihlmlojmdhjaaGreatDoor.Prg
