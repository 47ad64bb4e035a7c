/-
  What the grammar tells is right, and no greater than its words: expressions. No condition.
-/
import Derived.Test.YtlhbhpdpjidpgaaGreatDoorX06
import Derived.Test.YtlhbhpdpjidpgaaGreatDoorX21
import Derived.Test.YtlhbhpdpjidpgaaGreatDoorX26
import Derived.Test.YtlhbhpdpjidpgaaGreatDoorX30
namespace Go.Proofs.YtlhbhpdpjidpgaaGreatDoor.Prg
open Tre Prs
set_option maxRecDepth 100000
/-- How many expressions. -/
def sizeT : Tx → Nat
  | .mk _ _ _ _ x => 1 + (x.attach.map (fun ⟨y, _⟩ => sizeT y)).sum
def sumT (l : List Tx) : Nat := (l.map sizeT).sum
theorem sizeT_eq (op n : Int) (s q : List UInt8) (x : List Tx) : sizeT (.mk op n s q x) = 1 + sumT x := by
  rw [sizeT]
  congr 1
  unfold sumT
  congr 1
  exact List.map_subtype (fun _ _ => rfl) |>.trans (by simp)
theorem sumT_app (l m : List Tx) : sumT (l ++ m) = sumT l + sumT m := by simp [sumT]
theorem sumT_one (x : Tx) : sumT [x] = sizeT x := by simp [sumT]
theorem sumT_nil : sumT [] = 0 := rfl
/-- A right expression. -/
inductive OkX : Tx → Prop
  | num (n : Int) (h : 0 ≤ n) : OkX (.mk 1 n [] [] [])
  | truth (n : Int) (h : n = 0 ∨ n = 1) : OkX (.mk 2 n [] [] [])
  | name (s : List UInt8) (h : Lex.nameOk s = true) : OkX (.mk 3 0 s [] [])
  | call (s q : List UInt8) (x : List Tx) (h : Lex.nameOk s = true) (hq : q = [] ∨ Lex.nameOk q = true) (hl : x.length ≤ 255) (hx : ∀ y ∈ x, OkX y) : OkX (.mk 4 0 s q x)
  | one (op : Int) (x : Tx) (h : op = 5 ∨ op = 6) (hx : OkX x) : OkX (.mk op 0 [] [] [x])
  | two (op : Int) (x y : Tx) (h : 7 ≤ op) (h2 : op ≤ 19) (hx : OkX x) (hy : OkX y) : OkX (.mk op 0 [] [] [x, y])
/-- The words behind are among those ahead. -/
theorem tl_suf (r : PS) : (tl r).l <:+ r.l := List.tail_suffix r.l
theorem mustW_suf (r : PS) (s : List UInt8) : (mustW r s).l <:+ r.l := by
  unfold mustW
  split
  · exact tl_suf r
  · exact List.suffix_refl _
theorem wordR_suf (r : PS) (k : Int) (key : Bool) : (wordR r k key).l <:+ r.l := by
  unfold wordR
  split
  · exact List.suffix_refl _
  · exact tl_suf r
theorem run_suf : ∀ (n : Nat) (j : Job) (r : PS), (run n j r).2.l <:+ r.l
  | 0, _, _ => List.suffix_refl _
  | n + 1, .row k, r => by
    unfold run
    split
    · exact run_suf n _ _
    · exact (run_suf n _ _).trans (run_suf n _ _)
  | n + 1, .rest k x, r => by
    unfold run
    split
    · exact List.suffix_refl _
    · split
      · exact List.suffix_refl _
      · exact (run_suf n _ _).trans ((run_suf n _ _).trans (tl_suf r))
  | n + 1, .unary, r => by
    unfold run
    split
    · exact (run_suf n _ _).trans (tl_suf r)
    split
    · exact (run_suf n _ _).trans (tl_suf r)
    split
    · exact tl_suf r
    split
    · exact tl_suf r
    split
    · exact (mustW_suf _ _).trans ((run_suf n _ _).trans (tl_suf r))
    split
    · exact tl_suf r
    split
    · exact (run_suf n _ _).trans (wordR_suf _ _ _)
    · exact wordR_suf _ _ _
  | n + 1, .call s, r => by
    unfold run
    split
    · exact (run_suf n _ _).trans ((mustW_suf _ _).trans ((wordR_suf _ _ _).trans (tl_suf r)))
    · exact (run_suf n _ _).trans (mustW_suf _ _)
  | n + 1, .args q s x, r => by
    unfold run
    split
    · exact mustW_suf r _
    split
    · split
      · exact (mustW_suf _ _).trans ((tl_suf _).trans (run_suf n _ _))
      · exact (run_suf n _ _).trans ((tl_suf _).trans (run_suf n _ _))
    · exact (mustW_suf _ _).trans (run_suf n _ _)
theorem tell_suf (j : Job) (r : PS) : (tell j r).2.l <:+ r.l := run_suf _ _ _
/-- Words as a text has them. -/
def Goods (r : PS) : Prop := ∀ x ∈ r.l, Lex.Good x
theorem Goods.suf {r r' : PS} (h : Goods r) (hs : r'.l <:+ r.l) : Goods r' := fun x hx => h x (hs.subset hx)
theorem peek_mem {r : PS} (h : (peek r).k ≠ 0) : peek r ∈ r.l := by
  obtain ⟨h1, h2⟩ := peek_k h
  unfold peek
  cases hl : r.l with
  | nil => rw [hl] at h2; simp at h2
  | cons x t => simp [h1]
theorem good_name {x : Lex.Wd} (h : Lex.Good x) (hk : x.k = 1) : Lex.nameOk x.s = true := by
  cases h with
  | name s c q e ha hd hl =>
    have hkey : Lex.keyB s = false := by
      cases hc : Lex.keyB s with
      | false => rfl
      | true => simp [hc] at hk
    show Lex.nameOk s = true
    unfold Lex.nameOk
    subst e
    rw [hkey, ha]
    simp only [hd]
    simp
    simpa using hl
  | num n h0 h1 => simp at hk
  | text s h => simp at hk
  | sign s h => simp at hk
theorem good_num {x : Lex.Wd} (h : Lex.Good x) (hk : x.k = 2) : 0 ≤ x.n := by
  cases h with
  | name s c q e ha hd hl => dsimp only at hk; split at hk <;> omega
  | num n h0 h1 => exact h0
  | text s h => simp at hk
  | sign s h => simp at hk
theorem wordNo_kind {r : PS} (h : (wordR r 1 false).bad = false) : (peek r).k = 1 ∧ wordS r 1 false = (peek r).s ∧ wordR r 1 false = tl r := by
  unfold wordR at h
  by_cases hw : wordNo r 1 false = true
  · rw [if_pos hw] at h
    simp [badR] at h
  · have hk : (peek r).k = 1 := by simpa [wordNo] using hw
    unfold wordS wordR
    rw [if_neg hw, if_neg hw]
    exact ⟨hk, rfl, rfl⟩
theorem name_ok {r : PS} (h : (wordR r 1 false).bad = false) (hg : Goods r) : Lex.nameOk (wordS r 1 false) = true ∧ lenR (wordR r 1 false) + 1 = lenR r ∧ r.bad = false ∧ (wordR r 1 false).big = r.big := by
  have hb : r.bad = false := by
    cases hb : r.bad with
    | false => rfl
    | true => rw [wordR_bad hb 1 false (by decide)] at h; cases h
  obtain ⟨h1, h2, h3⟩ := wordNo_kind h
  rw [h2, h3]
  have h4 := good_name (hg _ (peek_mem (by omega))) h1
  obtain ⟨h5, h6⟩ := peek_k (r := r) (by omega)
  refine ⟨h4, ?_, hb, rfl⟩
  rw [lenR_tl]
  have : lenR r = r.l.length := by simp [lenR, h5]
  omega
theorem mustW_ok {r : PS} {s : List UInt8} (h : (mustW r s).bad = false) : lenR (mustW r s) + 1 = lenR r ∧ r.bad = false ∧ (mustW r s).big = r.big ∧ mustW r s = tl r := by
  unfold mustW at h ⊢
  by_cases hi : isW r s = true
  · rw [if_pos hi]
    have := lenR_pos hi
    rw [lenR_tl]
    exact ⟨by omega, (isW_pos hi).2, rfl, rfl⟩
  · rw [if_neg hi] at h
    cases h
theorem tl_ok {r : PS} {s : List UInt8} (hi : isW r s = true) : lenR (tl r) + 1 = lenR r := by
  have := lenR_pos hi
  rw [lenR_tl]
  omega
/-- What a job must bring along. -/
def JobOk : Job → Prop
  | .rest _ x => OkX x
  | .call s => Lex.nameOk s = true
  | .args q s x => Lex.nameOk s = true ∧ (q = [] ∨ Lex.nameOk q = true) ∧ ∀ y ∈ x, OkX y
  | _ => True
def base : Job → Nat
  | .rest _ x => sizeT x
  | .args _ _ x => 1 + sumT x
  | .call _ => 0
  | _ => 0
theorem level_op {k : Nat} : ∀ p ∈ level k, 7 ≤ p.2 ∧ p.2 ≤ 19 := by
  intro p hp
  unfold level at hp
  repeat' split at hp
  all_goals (simp at hp; rcases hp with rfl | hp <;> first | decide | skip)
  all_goals (first | (rcases hp with rfl | rfl | rfl | rfl | rfl <;> decide) | (rcases hp with rfl | rfl <;> decide) | (subst hp; decide))
theorem not_bad {j : Job} {r : PS} (h : (tell j r).2.bad = false) : r.bad = false := by
  cases hb : r.bad with
  | false => rfl
  | true => rw [tell_bad hb] at h; cases h
theorem mustW_big (r : PS) (s : List UInt8) : (mustW r s).big = r.big := by unfold mustW; split <;> rfl
theorem wordR_big (r : PS) (k : Int) (key : Bool) : (wordR r k key).big = r.big := by unfold wordR; split <;> rfl
theorem callEnd_size {q s : List UInt8} {x : List Tx} {r : PS} (h : (callEnd q s x r).2.bad = false) : sizeT (callEnd q s x r).1 + lenR (callEnd q s x r).2 + 1 = lenR r + (1 + sumT x) := by
  obtain ⟨h1, _, _, _⟩ := mustW_ok (r := r) (s := [41]) h
  have e : lenR (callEnd q s x r).2 = lenR (mustW r [41]) := rfl
  have e2 : sizeT (callEnd q s x r).1 = 1 + sumT x := sizeT_eq _ _ _ _ _
  omega
theorem callEnd_ok {q s : List UInt8} {x : List Tx} {r : PS} (hj : JobOk (.args q s x)) (h : (callEnd q s x r).2.big = false) : OkX (callEnd q s x r).1 := by
  obtain ⟨j1, j2, j3⟩ := hj
  have hb : ((mustW r [41]).big || decide (255 < x.length)) = false := h
  simp only [Bool.or_eq_false_iff, decide_eq_false_iff_not] at hb
  exact .call s q x j1 j2 (by omega) j3
end Go.Proofs.YtlhbhpdpjidpgaaGreatDoor.Prg
/- What the grammar tells is right, and no greater than its words: statements, functions, files. No condition. -/
namespace Go.Proofs.YtlhbhpdpjidpgaaGreatDoor.Prg
open Tre Prs
set_option maxRecDepth 100000
/-- How much a statement is: itself, its expression, its parts. -/
def wtS : Ts → Nat
  | .mk _ _ e b b2 => 1 + sizeT e + (b.attach.map (fun ⟨y, _⟩ => wtS y)).sum + (b2.attach.map (fun ⟨y, _⟩ => wtS y)).sum
def sumS (l : List Ts) : Nat := (l.map wtS).sum
theorem wtS_eq (op : Int) (s : List UInt8) (e : Tx) (b b2 : List Ts) : wtS (.mk op s e b b2) = 1 + sizeT e + sumS b + sumS b2 := by
  rw [wtS]
  congr 1
  · congr 1
    unfold sumS
    congr 1
    exact List.map_subtype (fun _ _ => rfl) |>.trans (by simp)
  · unfold sumS
    congr 1
    exact List.map_subtype (fun _ _ => rfl) |>.trans (by simp)
theorem sumS_app (l m : List Ts) : sumS (l ++ m) = sumS l + sumS m := by simp [sumS]
theorem sumS_one (x : Ts) : sumS [x] = wtS x := by simp [sumS]
theorem sumS_nil : sumS [] = 0 := rfl
theorem size_nil : sizeT nilT = 1 := by unfold nilT; rw [sizeT_eq, sumT_nil]
/-- A right statement. -/
inductive OkS : Ts → Prop
  | def_ (s : List UInt8) (e : Tx) (h : Lex.nameOk s = true) (he : OkX e) : OkS (.mk 1 s e [] [])
  | set_ (s : List UInt8) (e : Tx) (h : Lex.nameOk s = true) (he : OkX e) : OkS (.mk 2 s e [] [])
  | if_ (e : Tx) (b b2 : List Ts) (he : OkX e) (hb : ∀ y ∈ b, OkS y) (hb2 : ∀ y ∈ b2, OkS y) : OkS (.mk 3 [] e b b2)
  | for_ (e : Tx) (b : List Ts) (he : OkX e) (hb : ∀ y ∈ b, OkS y) : OkS (.mk 4 [] e b [])
  | ret (e : Tx) (he : OkX e) : OkS (.mk 5 [] e [] [])
  | retn : OkS (.mk 5 [] nilT [] [])
  | print (e : Tx) (he : OkX e) : OkS (.mk 6 [] e [] [])
  | call (s q : List UInt8) (x : List Tx) (he : OkX (.mk 4 0 s q x)) : OkS (.mk 7 [] (.mk 4 0 s q x) [] [])
  | brk : OkS (.mk 8 [] nilT [] [])
  | nxt : OkS (.mk 9 [] nilT [] [])
theorem not_badS {j : SJob} {r : PS} (h : (tellS j r).2.bad = false) : r.bad = false := by
  cases hb : r.bad with
  | false => rfl
  | true => rw [tellS_bad hb] at h; cases h
theorem forX_suf (r : PS) : (forX r).2.l <:+ r.l := by
  unfold forX
  split
  · exact List.suffix_refl _
  · exact tell_suf _ _
theorem retS_suf (r : PS) : (retS r).2.l <:+ r.l := by
  unfold retS
  split
  · exact tell_suf _ _
  · exact List.suffix_refl _
theorem prtS_suf (r : PS) : (prtS r).2.l <:+ r.l := (mustW_suf _ _).trans ((tell_suf _ _).trans (mustW_suf _ _))
theorem nameS_suf (s : List UInt8) (r : PS) : (nameS s r).2.l <:+ r.l := by
  unfold nameS
  split
  · exact (tell_suf _ _).trans (tl_suf r)
  split
  · exact (tell_suf _ _).trans (tl_suf r)
  · exact tell_suf _ _
/-- What a job of statements brings along, and how much it takes at least. -/
def SOk : SJob → Prop
  | .loop l => ∀ y ∈ l, OkS y
  | _ => True
def sbase : SJob → Nat
  | .loop l => sumS l
  | _ => 0
def sless : SJob → Nat
  | .block => 6
  | .loop _ => 3
  | _ => 0
theorem one_le (x : Tx) : 1 ≤ sizeT x := by cases x; rw [sizeT_eq]; omega
end Go.Proofs.YtlhbhpdpjidpgaaGreatDoor.Prg
