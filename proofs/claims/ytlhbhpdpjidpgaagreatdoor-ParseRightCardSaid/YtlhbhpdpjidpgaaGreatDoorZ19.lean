/-
  The program's reader in memory; ended, next, is, at, fail: what they answer, and what they leave. Condition: the reader is known.
-/
import Derived.Test.YtlhbhpdpjidpgaaGreatDoorZ05
import Derived.Test.YtlhbhpdpjidpgaaGreatDoorZ09
import Derived.Test.YtlhbhpdpjidpgaaGreatDoorZ18
namespace Go.Proofs.YtlhbhpdpjidpgaaGreatDoor.Prg
open Go.RowKit Tre Prs
open Lex (Wd wdC wdV bs str Turn)
set_option maxRecDepth 100000
set_option linter.unusedSimpArgs false
variable {lo : Nat}
/-- A word of the kind of keys is a key, a sign is none. -/
def KS (x : Wd) : Prop := (x.k = 4 → Lex.keyB x.s = true) ∧ (x.k = 5 → Lex.keyB x.s = false)
/-- Is it such a key, or such a sign? -/
def isK (x : Wd) (s : List UInt8) : Bool := x.k == (if Lex.keyB s = true then 4 else 5) && x.s == s
theorem isK_ks {x : Wd} (h : KS x) (s : List UInt8) : isK x s = ((x.k == 5 || x.k == 4) && x.s == s) := by
  unfold isK
  by_cases hs : x.s = s
  · subst hs
    by_cases hk : Lex.keyB x.s = true
    · have h5 : (x.k == 5) = false := by
        cases h5 : x.k == 5 with
        | false => rfl
        | true => have := h.2 (by simpa using h5); rw [hk] at this; cases this
      rw [if_pos hk, h5]
      simp
    · have h4 : (x.k == 4) = false := by
        cases h4 : x.k == 4 with
        | false => rfl
        | true => exact absurd (h.1 (by simpa using h4)) hk
      rw [if_neg hk, h4]
      simp
  · have : (x.s == s) = false := by simpa using hs
    rw [this]
    simp
/-- The reader in block g. -/
structure RdG (lo : Nat) (w : World) (g : Nat) (r : PS) : Prop where
  at_ : ∃ a c, w.heap[g]? = some (.cells #[.slice a r.l.length c, .bool r.bad, .bool r.big] 88 (0, 0)) ∧ r.l.length ≤ c ∧ Row 3 wdC w a r.l ∧ (∀ b o, a = some ⟨b, o, none⟩ → b ≠ g ∧ b < lo)
  len : r.l.length ≤ 100000
  glo : g < lo
  wlo : lo ≤ w.heap.size
  txt : ∀ x ∈ r.l, x.s.length ≤ 1000000 ∧ KS x
  ok : r.bad = true → r.l = []
theorem RdG.lt {w : World} {g : Nat} {r : PS} (h : RdG lo w g r) : g < w.heap.size := by
  obtain ⟨a, c, h1, _⟩ := h.at_
  exact lt_of_heap h1
theorem RdG.below {w w' : World} {g : Nat} {r : PS} (h : RdG lo w g r) (hb : Below w.heap.size w w') : RdG lo w' g r := by
  obtain ⟨a, c, h1, h2, h3, h4⟩ := h.at_
  exact ⟨⟨a, c, (hb.block g (lt_of_heap h1)).trans h1, h2, h3.below hb, h4⟩, h.len, h.glo, Nat.le_trans h.wlo hb.size, h.txt, h.ok⟩
theorem RdG.but {w w' : World} {g b : Nat} {r : PS} (h : RdG lo w g r) (ht : Turn [b] w w') (hb : lo ≤ b) : RdG lo w' g r := by
  obtain ⟨a, c, h1, h2, h3, h4⟩ := h.at_
  have hg := h.glo
  exact ⟨⟨a, c, (ht.block g (lt_of_heap h1) (by simp; omega)).trans h1, h2, Row.kept h3 ht.size (fun b' o e hlt => ht.block b' hlt (by have := (h4 b' o e).2; simp; omega)), h4⟩, h.len, h.glo, Nat.le_trans h.wlo ht.size, h.txt, h.ok⟩
theorem RdG.buts {w w' : World} {g : Nat} {S : List Nat} {r : PS} (h : RdG lo w g r) (ht : Turn S w w') (hb : ∀ b ∈ S, lo ≤ b) : RdG lo w' g r := by
  obtain ⟨a, c, h1, h2, h3, h4⟩ := h.at_
  have hg := h.glo
  exact ⟨⟨a, c, (ht.block g (lt_of_heap h1) (fun hm => by have := hb _ hm; omega)).trans h1, h2, Row.kept h3 ht.size (fun b' o e hlt => ht.block b' hlt (fun hm => by have := (h4 b' o e).2; have := hb _ hm; omega)), h4⟩, h.len, h.glo, Nat.le_trans h.wlo ht.size, h.txt, h.ok⟩
/-- The reader's own cells turn; the words lie as they lay. -/
theorem RdG.set {w : World} {g : Nat} {r : PS} {a : Option Addr} {c : Nat} (hg : w.heap[g]? = some (.cells #[.slice a r.l.length c, .bool r.bad, .bool r.big] 88 (0, 0))) (hl : RdG lo w g r)
    (r' : PS) (a' : Option Addr) (c' i : Nat) (v : Value) (h1 : (#[.slice a r.l.length c, .bool r.bad, .bool r.big] : Array Value).setIfInBounds i v = #[.slice a' r'.l.length c', .bool r'.bad, .bool r'.big]) (h2 : r'.l.length ≤ c') (h3 : Row 3 wdC w a' r'.l) (h4 : ∀ b o, a' = some ⟨b, o, none⟩ → b ≠ g ∧ b < lo) (h5 : r'.l.length ≤ r.l.length) (h6 : ∀ x ∈ r'.l, x ∈ r.l) (h7 : r'.bad = true → r'.l = []) :
    RdG lo (w.setCell ⟨g, i, none⟩ v) g r' := by
  refine ⟨⟨a', c', ?_, h2, Row.kept h3 ?_ (fun b o e _ => Below.heap_setCell w _ v b (h4 b o e).1), h4⟩, by have := hl.len; omega, hl.glo, Nat.le_trans hl.wlo (KeepsWalks.setCell w ⟨g, i, none⟩ v).size, fun x hx => hl.txt x (h6 x hx), h7⟩
  · rw [← h1]
    exact set_at hg i v
  · exact (KeepsWalks.setCell w ⟨g, i, none⟩ v).size
/-- One word goes. -/
theorem RdG.pop {w : World} {g : Nat} {r : PS} (h : RdG lo w g r) (h0 : 0 < r.l.length) : ∃ A c, w.heap[g]? = some (.cells #[.slice A r.l.length c, .bool r.bad, .bool r.big] 88 (0, 0)) ∧
    RdG lo (w.setCell ⟨g, 0, none⟩ (.slice (if c = 1 then A else A.map (·.add 3)) (r.l.length - 1) (c - 1))) g (tl r) := by
  obtain ⟨A, c, h1, h2, h3, h4⟩ := h.at_
  obtain ⟨b, o, rfl, hlt, hc⟩ := h3 h0
  refine ⟨some ⟨b, o, none⟩, c, h1, ?_⟩
  refine RdG.set h1 h (tl r) (if c = 1 then some ⟨b, o, none⟩ else (some (⟨b, o, none⟩ : Addr)).map (·.add 3)) (c - 1) 0 _ (by simp [tl]) (by rw [tl_len]; omega) ?_ ?_ (by rw [tl_len]; omega) (fun x hx => List.mem_of_mem_tail hx) (fun hb => by have := h.ok hb; rw [this] at h0; simp at h0)
  · by_cases h5 : r.l.length = 1
    · have e : (tl r).l = [] := by
        have := tl_len r
        exact List.eq_nil_of_length_eq_zero (by omega)
      rw [e]
      exact Row.nil _ _ _ _
    · rw [if_neg (by omega)]
      have := tail_row (w := w) (b := b) (o := o) (l := r.l) h3 (by omega)
      rw [Option.map_some, Lex.plain_add]
      exact this
  · intro b' o' e
    split at e
    · injection e with e
      injection e with e1 _
      exact e1 ▸ h4 b o rfl
    · rw [Option.map_some, Lex.plain_add] at e
      injection e with e
      injection e with e1 _
      exact e1 ▸ h4 b o rfl
/-- What a call on the reader leaves. -/
def Lg (lo : Nat) (w : World) (g : Nat) (v : Value) (r : PS) (e : Ending) (w' : World) : Prop := e = .returned v ∧ RdG lo w' g r ∧ Turn [g] w w'
set_option maxHeartbeats 4000000 in
theorem ended_any (w : World) (g : Nat) (r : PS) (h : RdG lo w g r) : Calls Tryz.prog 44 #[.pointer (some ⟨g, 0, none⟩)] w (EndsW (.bool (r.l.length == 0)) w) := by
  obtain ⟨a, c, h1, h2, h3, h4⟩ := h.at_
  have g0 := cell_at h1 0
  simp only [List.getElem?_toArray, List.getElem?_cons_zero] at g0
  have hl := h.len
  have HE : Hid (decide ((r.l.length : Int) = 0) = (r.l.length == 0)) := Lib.hid (by rw [Bool.eq_iff_iff]; simp)
  generalize r.l.length = n at *
  clear h h1 h3 h4 h2
  go_enter Tryz.func44, Tryz.ntmps44
  go_wp2
  go_ret
  refine ⟨?_, rfl⟩
  rw [← HE.out]
  first
    | rfl
    | (congr 2; rw [Bool.eq_iff_iff]; simp)
theorem ended_no {w : World} {g : Nat} {r : PS} (h : RdG lo w g r) (h0 : 0 < r.l.length) : Calls Tryz.prog 44 #[.pointer (some ⟨g, 0, none⟩)] w (EndsW (.bool false) w) := by
  have := ended_any w g r h
  rwa [show (r.l.length == 0) = false by simp; intro e; rw [e] at h0; simp at h0] at this
theorem ended_yes {w : World} {g : Nat} {r : PS} (h : RdG lo w g r) (h0 : r.l = []) : Calls Tryz.prog 44 #[.pointer (some ⟨g, 0, none⟩)] w (EndsW (.bool true) w) := by
  have := ended_any w g r h
  rwa [h0] at this
set_option maxHeartbeats 4000000 in
theorem next_any (w : World) (g : Nat) (r : PS) (h : RdG lo w g r) : Calls Tryz.prog 79 #[.pointer (some ⟨g, 0, none⟩)] w (EndsB (wdV (peek r)) w) := by
  have hb := ball_new w #[.int .i64 0, .string ⟨#[]⟩, .int .i64 0] 73
  have H0 := Lib.hid (h.below hb)
  obtain ⟨a, c, h1, h2, h3, h4⟩ := H0.out.at_
  have hl := h.len
  have HB := Lib.hid hb
  have g0 := cell_at h1 0
  simp only [List.getElem?_toArray, List.getElem?_cons_succ, List.getElem?_cons_zero] at g0
  have HNEW := Lib.hid (fun (v0 v1 v2 : Value) => new_at w #[v0, v1, v2] 73)
  have HBN := Lib.hid (fun (v0 v1 v2 : Value) => ball_new w #[v0, v1, v2] 73)
  have HOK := Lib.hid h.ok
  obtain ⟨l, bad, big⟩ := r
  dsimp only at g0 h3 hl h2 HOK
  cases l with
  | nil =>
    have e1 : peek (⟨[], bad, big⟩ : PS) = zeroW := by simp [peek]
    have C := Lib.hid (ended_yes H0.out rfl)
    rw [e1, wdV_eq]
    clear h h1 h3 h4 hb h2 hl H0 g0
    go_enter Tryz.func79, Tryz.ntmps79
    go_wp2_with fail
    refine C.out.mono ?_
    rintro e w1 ⟨rfl, rfl⟩
    go_wp2_with fail
    refine bodyPost_ret (results_word rfl _ _ w.heap.size _ _ _ rfl (HNEW.out _ _ _)) rfl ?_
    exact ⟨rfl, HBN.out _ _ _⟩
  | cons x t =>
    have hbad : bad = false := by
      cases bad with
      | false => rfl
      | true => have := HOK.out rfl; cases this
    subst hbad
    have e1 : peek (⟨x :: t, false, big⟩ : PS) = x := by simp [peek]
    have C := Lib.hid (ended_no H0.out (by simp))
    rw [e1, wdV_eq]
    obtain ⟨b1, o1, rfl, hlt1, hc1⟩ := h3 (by simp)
    have hc1 := hc1 0 x rfl
    obtain ⟨p0, p1, p2⟩ := wdC_at hc1
    simp only [Nat.zero_mul, Nat.add_zero] at p0 p1 p2
    simp only [List.length_cons] at g0 hl
    generalize t.length = n at *
    generalize bs x.s = S at *
    clear h h1 h3 h4 hb h2 hc1 H0 hlt1
    go_enter Tryz.func79, Tryz.ntmps79
    go_wp2_with fail
    refine C.out.mono ?_
    rintro e w1 ⟨rfl, rfl⟩
    go_wp2_with fail
    refine bodyPost_ret (results_word rfl _ _ w.heap.size _ _ _ rfl (HNEW.out _ _ _)) rfl ?_
    exact ⟨rfl, HBN.out _ _ _⟩
theorem RdG.ks {w : World} {g : Nat} {r : PS} (h : RdG lo w g r) (s : List UInt8) : isK (peek r) s = isW r s := by
  have : KS (peek r) := by
    unfold peek
    split
    · exact ⟨fun e => by simp [zeroW] at e, fun e => by simp [zeroW] at e⟩
    · cases hl : r.l with
      | nil => exact ⟨fun e => by simp [zeroW] at e, fun e => by simp [zeroW] at e⟩
      | cons x t => exact (h.txt x (by rw [hl]; simp)).2
  rw [isK_ks this]
  rfl
set_option maxHeartbeats 4000000 in
theorem is_any (w : World) (x : Wd) (s : List UInt8) : Calls Tryz.prog 33 #[wdV x, .string (bs s)] w (EndsB (.bool (isK x s)) w) := by
  have CK := Lib.hid (Lex.key_any s)
  rw [wdV_eq]
  have HB := Lib.hid (word_box w x)
  have HN := new_at w #[.int .i64 x.k, .string (bs x.s), .int .i64 x.n] 73
  rcases Bool.eq_false_or_eq_true (Lex.keyB s) with hk | hk
  · have HI : Hid (isK x s = (x.k == 4 && (bs x.s).toList == (bs s).toList)) := Lib.hid (by unfold isK; rw [hk, if_pos rfl, Lex.bs_toList, Lex.bs_toList])
    rw [hk] at CK
    rw [HI.out]
    clear HI hk
    obtain ⟨k, xs, n⟩ := x
    dsimp only at HB HN ⊢
    generalize bs xs = X at *
    generalize bs s = T at *
    have c0 := cell_at HN 0
    have c1 := cell_at HN 1
    simp only [List.getElem?_toArray, List.getElem?_cons_succ, List.getElem?_cons_zero] at c0 c1
    clear HN
    rcases Bool.eq_false_or_eq_true (k == 4) with h4 | h4
    all_goals
      rw [h4]
      simp only [Bool.true_and, Bool.false_and]
      go_enter Tryz.func33, Tryz.ntmps33
      go_wp2_with fail
      refine (CK.out _).mono ?_
      rintro e w1 ⟨rfl, rfl⟩
      go_wp2_with fail
      go_ret
      exact ends_bool (by simp [*]) HB.out
  · have HI : Hid (isK x s = (x.k == 5 && (bs x.s).toList == (bs s).toList)) := Lib.hid (by unfold isK; rw [hk, if_neg (by simp), Lex.bs_toList, Lex.bs_toList])
    rw [hk] at CK
    rw [HI.out]
    clear HI hk
    obtain ⟨k, xs, n⟩ := x
    dsimp only at HB HN ⊢
    generalize bs xs = X at *
    generalize bs s = T at *
    have c0 := cell_at HN 0
    have c1 := cell_at HN 1
    simp only [List.getElem?_toArray, List.getElem?_cons_succ, List.getElem?_cons_zero] at c0 c1
    clear HN
    rcases Bool.eq_false_or_eq_true (k == 5) with h4 | h4
    all_goals
      rw [h4]
      simp only [Bool.true_and, Bool.false_and]
      go_enter Tryz.func33, Tryz.ntmps33
      go_wp2_with fail
      refine (CK.out _).mono ?_
      rintro e w1 ⟨rfl, rfl⟩
      go_wp2_with fail
      go_ret
      exact ends_bool (by simp [*]) HB.out
set_option maxHeartbeats 4000000 in
theorem at_any (w : World) (g : Nat) (r : PS) (s : List UInt8) (h : RdG lo w g r) : Calls Tryz.prog 80 #[.pointer (some ⟨g, 0, none⟩), .string (bs s)] w (EndsB (.bool (isW r s)) w) := by
  have C := Lib.hid (next_any w g r h)
  have CI := Lib.hid (fun w' => is_any w' (peek r) s)
  rw [← h.ks s]
  generalize peek r = x at *
  rw [wdV_eq] at C CI
  generalize isK x s = B at *
  clear h
  go_enter Tryz.func80, Tryz.ntmps80
  go_wp2_with fail
  refine C.out.mono ?_
  rintro e w1 ⟨rfl, hb1⟩
  have HB1 := Lib.hid hb1
  clear hb1
  go_wp2_with fail
  refine (CI.out _).mono ?_
  rintro e w2 ⟨rfl, hb2⟩
  have HB2 := Lib.hid (HB1.out.trans (hb2.mono HB1.out.size))
  clear hb2
  go_wp2_with fail
  go_ret
  exact ⟨rfl, HB2.out⟩
/-- Two cells turn: the reader fails. -/
theorem RdG.fall {w : World} {g : Nat} {r : PS} (h : RdG lo w g r) : RdG lo ((w.setCell ⟨g, 1, none⟩ (.bool true)).setCell ⟨g, 0, none⟩ (.slice none 0 0)) g (failR r) := by
  obtain ⟨a, c, h1, h2, h3, h4⟩ := h.at_
  refine ⟨⟨none, 0, ?_, Nat.le_refl _, Row.nil _ _ _ _, fun b o e => by cases e⟩, by simp [failR], h.glo, Nat.le_trans h.wlo ?_, fun x hx => by simp [failR] at hx, fun _ => rfl⟩
  · have := set_at (set_at h1 1 (.bool true)) 0 (.slice none 0 0)
    exact this
  · exact Nat.le_trans (KeepsWalks.setCell w ⟨g, 1, none⟩ (.bool true)).size (KeepsWalks.setCell _ ⟨g, 0, none⟩ (.slice none 0 0)).size
set_option maxHeartbeats 4000000 in
theorem fail_any (w : World) (g : Nat) (r : PS) (h : RdG lo w g r) : Calls Tryz.prog 56 #[.pointer (some ⟨g, 0, none⟩)] w (Lg lo w g (.tuple #[]) (failR r)) := by
  have HF := Lib.hid h.fall
  obtain ⟨a, c, h1, -⟩ := h.at_
  have g0 := cell_at h1 0
  have g1 := cell_at h1 1
  simp only [List.getElem?_toArray, List.getElem?_cons_succ, List.getElem?_cons_zero] at g0 g1
  have f0 := free_at h1 0
  have f1 := free_at h1 1
  clear h h1
  go_enter Tryz.func56, Tryz.ntmps56
  go_wp2_with fail
  go_end0
  exact ⟨rfl, HF.out, ((Turn.refl [g] w).setCell (.inl (by simp)) _).setCell (.inl (by simp)) _⟩
end Go.Proofs.YtlhbhpdpjidpgaaGreatDoor.Prg
/- The document's unary, step by step. Conditions: the reader is known; what it calls does as the plain grammar says. -/
namespace Go.Proofs.YtlhbhpdpjidpgaaGreatDoor.Prs
open Go.RowKit Tre
open Lex (Wd wdC wdV bs str Turn)
set_option maxRecDepth 100000
set_option linter.unusedSimpArgs false
variable {lo : Nat}
/-- All of the tree lies from block b on. -/
def New (b : Nat) (x : Ex) : Prop := ∀ y ∈ flat x, ∀ ad, y.a = some ad → b ≤ ad.block
theorem New.mono {b c : Nat} {x : Ex} (h : New b x) (hc : c ≤ b) : New c x := fun y hy ad e => Nat.le_trans hc (h y hy ad e)
theorem ExIn.turn {w w' : World} {g : Nat} {x : Ex} (h : ExIn w x) {b : Nat} (ho : New b x) (hg : g < b) (ht : Turn [g] w w') : ExIn w' x := fun y hy => by
  have hn := h y hy
  exact ⟨Row.kept hn.row ht.size (fun b' o e hlt => ht.block b' hlt (by simp; have := ho y hy _ e; simp at this; omega)), hn.len, hn.cap, hn.s, hn.q⟩
/-- What a call leaves that tells an expression. -/
def Ev (lo : Nat) (w : World) (g : Nat) (p : Tx × PS) (e : Ending) (w' : World) : Prop := ∃ x : Ex, e = .returned (exV x) ∧ core x = p.1 ∧ ExIn w' x ∧ New w.heap.size x ∧ RdM lo w' g p.2 ∧ Turn [g] w w'
theorem results_expr {fn : Func} {p : Tmp} (h : fn.results = #[.cell p 36]) (tmps : Array Value) (w : World) (g : Nat) (v0 v1 v2 v3 v4 : Value) (hv : tmps.getD p undef = .pointer (some ⟨g, 0, none⟩)) (hc : w.heap[g]? = some (.cells #[v0, v1, v2, v3, v4] 36 (0, 0))) :
    (results fn tmps).run Tryz.prog w = .ok (.agg #[v0, v1, v2, v3, v4]) w := by
  have a4 := Tryz.isAgg36
  have z4 := Tryz.sizeOf36
  obtain ⟨c0, c1, c2, c3, c4⟩ := five_at hc
  simp only [Array.getD_eq_getD_getElem?] at hv
  unfold results
  rw [h]
  go_simp
/-- A leaf: no parts. -/
theorem leaf_in (w : World) (op n : Int) (s : ByteArray) (hs : s.size ≤ maxLen) : ExIn w (.mk op n s ⟨#[]⟩ none 0 []) := fun y hy => by
  rw [flat_eq] at hy
  obtain rfl : y = .mk op n s ⟨#[]⟩ none 0 [] := by simpa [flatL, Ex.x] using hy
  exact ⟨Row.nil _ _ _ _, by simp [Ex.x, most], by simp [Ex.x], hs, by show (⟨#[]⟩ : ByteArray).size ≤ maxLen; unfold maxLen; simp [ByteArray.size]⟩
theorem leaf_new (g : Nat) (op n : Int) (s : ByteArray) : New g (.mk op n s ⟨#[]⟩ none 0 []) := fun y hy ad e => by
  rw [flat_eq] at hy
  obtain rfl : y = .mk op n s ⟨#[]⟩ none 0 [] := by simpa [flatL, Ex.x] using hy
  cases e
theorem one_in {w : World} {x : Ex} {b c : Nat} {op : Int} (hx : ExIn w x) (hb : ∀ (r : Nat) (u : Value), (exC x)[r]? = some u → w.cell? ⟨b, r, none⟩ = some u) (hlt : b < w.heap.size) (hc : 1 ≤ c) : ExIn w (.mk op 0 ⟨#[]⟩ ⟨#[]⟩ (some ⟨b, 0, none⟩) c [x]) := by
  refine ExIn.mk ⟨fun _ => ⟨b, 0, rfl, hlt, fun j y hy r u hu => ?_⟩, by simp [Ex.x, most], by simpa [Ex.x, Ex.c] using hc, ?_, ?_⟩ (fun y hy => ?_)
  · have : j = 0 ∧ x = y := by
      cases j with
      | zero => exact ⟨rfl, by simpa [Ex.x] using hy⟩
      | succ j => simp [Ex.x] at hy
    obtain ⟨rfl, rfl⟩ := this
    simpa using hb r u hu
  · show (⟨#[]⟩ : ByteArray).size ≤ maxLen; unfold maxLen; simp [ByteArray.size]
  · show (⟨#[]⟩ : ByteArray).size ≤ maxLen; unfold maxLen; simp [ByteArray.size]
  · obtain rfl : y = x := by simpa [Ex.x] using hy
    exact hx
theorem one_new {g b c : Nat} {x : Ex} {op : Int} (hx : New g x) (hb : g ≤ b) : New g (.mk op 0 ⟨#[]⟩ ⟨#[]⟩ (some ⟨b, 0, none⟩) c [x]) := fun y hy ad e => by
  rw [flat_eq] at hy
  rcases List.mem_cons.1 hy with rfl | hy
  · injection e with e
    subst e
    exact hb
  · exact hx y (by simpa [flatL, Ex.x] using hy) ad e
theorem set5 {w : World} {b : Nat} {a0 a1 a2 a3 a4 v0 v1 v2 v3 v4 : Value} {T : TypeId} (h : w.heap[b]? = some (.cells #[a0, a1, a2, a3, a4] T (0, 0))) :
    (((((w.setCell ⟨b, 0, none⟩ v0).setCell ⟨b, 1, none⟩ v1).setCell ⟨b, 2, none⟩ v2).setCell ⟨b, 3, none⟩ v3).setCell ⟨b, 4, none⟩ v4).heap[b]? = some (.cells #[v0, v1, v2, v3, v4] T (0, 0)) :=
  set_at (set_at (set_at (set_at (set_at h 0 v0) 1 v1) 2 v2) 3 v3) 4 v4
theorem turn5 (w : World) (b : Nat) (v0 v1 v2 v3 v4 : Value) : Turn [b] w (((((w.setCell ⟨b, 0, none⟩ v0).setCell ⟨b, 1, none⟩ v1).setCell ⟨b, 2, none⟩ v2).setCell ⟨b, 3, none⟩ v3).setCell ⟨b, 4, none⟩ v4) :=
  (((((Turn.refl [b] w).setCell (.inl (by simp)) v0).setCell (.inl (by simp)) v1).setCell (.inl (by simp)) v2).setCell (.inl (by simp)) v3).setCell (.inl (by simp)) v4
theorem RdM.but {w w' : World} {g b : Nat} {r : PS} (h : RdM lo w g r) (ht : Turn [b] w w') (hb : lo ≤ b) : RdM lo w' g r := by
  obtain ⟨a, c, h1, h2, h3, h4⟩ := h.at_
  have hg := h.glo
  exact ⟨⟨a, c, (ht.block g (lt_of_heap h1) (by simp; omega)).trans h1, h2, Row.kept h3 ht.size (fun b' o e hlt => ht.block b' hlt (by have := (h4 b' o e).2; simp; omega)), h4⟩, h.len, h.glo, Nat.le_trans h.wlo ht.size, h.txt⟩
/-- The end of a call that wraps one expression. -/
theorem un_end {w w1 w2 w3 w4 : World} {g op : Nat} {x : Ex} {p : Tx × PS} {cs : Array Value} {T : TypeId} {t : Tx} (hw : w.heap.size < w1.heap.size) (hlo : lo ≤ w.heap.size) (_ : core x = p.1) (hx2 : ExIn w2 x) (hx3 : New w1.heap.size x) (hx4 : RdM lo w2 g p.2)
    (hb : Below w.heap.size w (w.alloc (.cells cs T))) (h2 : Turn [g] (w.alloc (.cells cs T)) w1) (hx5 : Turn [g] w1 w2) (hb3 : Below w2.heap.size w2 w3) (hn3 : w3.heap[w2.heap.size]? = some (.cells #[.int .i64 x.op, .int .i64 x.n, .string x.s, .string x.q, .slice x.a x.x.length x.c] 36 (0, 0)))
    (ht : Turn [w.heap.size] w3 w4) (hc : core (.mk op 0 ⟨#[]⟩ ⟨#[]⟩ (some ⟨w2.heap.size, 0, none⟩) 1 [x]) = t) : Ev lo w g (t, p.2) (.returned (.agg #[.int .i64 op, .int .i64 0, .string ⟨#[]⟩, .string ⟨#[]⟩, .slice (some ⟨w2.heap.size, 0, none⟩) 1 1])) w4 := by
  have s2 := hx5.size
  have hx : ExIn w4 x := ExIn.turn (Tre.ExIn.below hx2 hb3) (b := w1.heap.size) (g := w.heap.size) hx3 hw ht
  have hrow : w4.heap[w2.heap.size]? = some (.cells #[.int .i64 x.op, .int .i64 x.n, .string x.s, .string x.q, .slice x.a x.x.length x.c] 36 (0, 0)) := (ht.block _ (lt_of_heap hn3) (by simp; omega)).trans hn3
  refine ⟨_, rfl, hc, one_in hx (fun r u hu => ?_) (lt_of_heap hrow) (Nat.le_refl _), one_new (hx3.mono (by omega)) (by omega), (hx4.below hb3).but ht hlo, ?_⟩
  · rw [cell_at hrow]
    cases x
    simpa [exC, Ex.op, Ex.n, Ex.s, Ex.q, Ex.a, Ex.x, Ex.c] using hu
  · have h1 : Turn [g] w w1 := ((Turn.refl [g] w).below hb).then_ h2 (fun k hk => .inl hk)
    exact ((h1.trans hx5).below hb3).then_ ht (fun k hk => by simp at hk; subst hk; exact .inr (Nat.le_refl _))
set_option maxHeartbeats 4000000 in
theorem unary_neg (w : World) (g : Nat) (r : PS) (h : RdM lo w g r) (hi : isW r [45] = true) (p : Tx × PS) (CU : ∀ w', RdM lo w' g (tl r) → Hid (Calls Tryz.prog 57 #[.pointer (some ⟨g, 0, none⟩)] w' (Ev lo w' g p))) :
    Calls Tryz.prog 57 #[.pointer (some ⟨g, 0, none⟩)] w (Ev lo w g (.mk 5 0 [] [] [p.1], p.2)) := by
  have hb := ball_new w #[.int .i64 0, .int .i64 0, .string ⟨#[]⟩, .string ⟨#[]⟩, .slice none 0 0] 36
  have C := Lib.hid (skip_any _ g r [45] (h.below hb))
  have HN := Lib.hid (new_at w #[.int .i64 0, .int .i64 0, .string ⟨#[]⟩, .string ⟨#[]⟩, .slice none 0 0] 36)
  have HG := Lib.hid h.lt
  have HB := Lib.hid hb
  have HLO := Lib.hid h.wlo
  unfold skipW at C
  rw [hi] at C
  have e2 : (if true = true then tl r else r) = tl r := rfl
  rw [e2] at C
  clear h hb hi
  go_enter Tryz.func57, Tryz.ntmps57
  go_wp2_with fail
  refine C.out.mono ?_
  rintro e w1 ⟨rfl, h1, h2⟩
  have H2 := Lib.hid h2
  have CU1 := CU w1 h1
  have HW : Hid (w.heap.size < w1.heap.size) := Lib.hid (by have := h2.size; simp at this; omega)
  clear h1 h2
  go_wp2_with fail
  refine CU1.out.mono ?_
  rintro e w2 ⟨x, rfl, hx1, hx2, hx3, hx4, hx5⟩
  have HX1 := Lib.hid hx1
  have HX2 := Lib.hid hx2
  have HX3 := Lib.hid hx3
  have HX4 := Lib.hid hx4
  have HX5 := Lib.hid hx5
  rw [exV_eq]
  have HW2 := Lib.hid hx5.size
  obtain ⟨W3, hW3⟩ : ∃ W3, w2.alloc (.cells #[.int .i64 x.op, .int .i64 x.n, .string x.s, .string x.q, .slice x.a x.x.length x.c] 36) = W3 := ⟨_, rfl⟩
  have hb3 : Below w2.heap.size w2 W3 := by rw [← hW3]; exact ball_new _ _ _
  have HB3 := Lib.hid hb3
  have HN3 : Hid (W3.heap[w2.heap.size]? = some (.cells #[.int .i64 x.op, .int .i64 x.n, .string x.s, .string x.q, .slice x.a x.x.length x.c] 36 (0, 0))) := Lib.hid (by rw [← hW3]; exact new_at _ _ _)
  have HR3 : Hid (W3.heap[w.heap.size]? = some (.cells #[.int .i64 0, .int .i64 0, .string ⟨#[]⟩, .string ⟨#[]⟩, .slice none 0 0] 36 (0, 0))) := Lib.hid (by
    have h0 := HN.out
    have h1 : w1.heap[w.heap.size]? = _ := (H2.out.block _ (by simp) (by have := HG.out; simp; omega)).trans h0
    have h2 : w2.heap[w.heap.size]? = _ := (hx5.block _ (lt_of_heap h1) (by have := HG.out; simp; omega)).trans h1
    exact (hb3.block _ (lt_of_heap h2)).trans h2)
  rw [← hW3] at HR3 HN3 HB3
  clear hx1 hx2 hx3 hx4 hx5 hb3 hW3
  obtain ⟨y0, y1, y2, y3, y4⟩ := five_at HR3.out
  have f0 := free_at HR3.out 0
  have f1 := free_at HR3.out 1
  have f2 := free_at HR3.out 2
  have f3 := free_at HR3.out 3
  have f4 := free_at HR3.out 4
  go_wp2_with fail
  have HT := Lib.hid (turn5 (w2.alloc (.cells #[.int .i64 x.op, .int .i64 x.n, .string x.s, .string x.q, .slice x.a x.x.length x.c] 36)) w.heap.size (.int .i64 5) (.int .i64 0) (.string ⟨#[]⟩) (.string ⟨#[]⟩) (.slice (some ⟨w2.heap.size, 0, none⟩) 1 1))
  refine bodyPost_ret (results_expr rfl _ _ w.heap.size _ _ _ _ _ rfl (set5 HR3.out)) rfl ?_
  exact un_end HW.out HLO.out HX1.out HX2.out HX3.out HX4.out HB.out H2.out HX5.out HB3.out HN3.out HT.out (by rw [core_eq, ← HX1.out]; rfl)
end Go.Proofs.YtlhbhpdpjidpgaaGreatDoor.Prs
/- The document's unary: each of its other ways. Conditions: the reader is known; what it calls does as the plain grammar says. -/
namespace Go.Proofs.YtlhbhpdpjidpgaaGreatDoor.Prs
open Go.RowKit Tre
open Lex (Wd wdC wdV bs str Turn)
set_option maxRecDepth 100000
set_option linter.unusedSimpArgs false
variable {lo : Nat}
theorem skip_no (w : World) (g : Nat) (r : PS) (s : List UInt8) (h : RdM lo w g r) (hi : isW r s = false) : Calls Tryz.prog 24 #[.pointer (some ⟨g, 0, none⟩), .string (bs s)] w (Lv lo w g (.bool false) r) := by
  have := skip_any w g r s h
  unfold skipW at this
  rwa [hi] at this
theorem skip_yes (w : World) (g : Nat) (r : PS) (s : List UInt8) (h : RdM lo w g r) (hi : isW r s = true) : Calls Tryz.prog 24 #[.pointer (some ⟨g, 0, none⟩), .string (bs s)] w (Lv lo w g (.bool true) (tl r)) := by
  have := skip_any w g r s h
  unfold skipW at this
  rwa [hi] at this
/-- The end of a call that tells a leaf. -/
theorem leaf_end {w w1 w4 : World} {g : Nat} {op n : Int} {s : ByteArray} {r : PS} {cs : Array Value} {T : TypeId} {t : Tx} (hlo : lo ≤ w.heap.size) (hs : s.size ≤ maxLen) (hr : RdM lo w1 g r) (hb : Below w.heap.size w (w.alloc (.cells cs T))) (h2 : Turn [g] (w.alloc (.cells cs T)) w1) (ht : Turn [w.heap.size] w1 w4) (hc : core (.mk op n s ⟨#[]⟩ none 0 []) = t) :
    Ev lo w g (t, r) (.returned (.agg #[.int .i64 op, .int .i64 n, .string s, .string ⟨#[]⟩, .slice none 0 0])) w4 :=
  ⟨_, rfl, hc, leaf_in _ _ _ _ hs, leaf_new _ _ _ _, hr.but ht hlo, (((Turn.refl [g] w).below hb).then_ h2 (fun k hk => .inl hk)).then_ ht (fun k hk => by simp at hk; subst hk; exact .inr (Nat.le_refl _))⟩
/-- The result's cell through calls that turn the reader alone. -/
theorem res_keep {w w1 : World} {g : Nat} {cs : Array Value} {T : TypeId} (hg : g < w.heap.size) (h2 : Turn [g] (w.alloc (.cells cs T)) w1) : w1.heap[w.heap.size]? = some (.cells cs T (0, 0)) :=
  (h2.block _ (by simp) (by simp; omega)).trans (new_at w cs T)
set_option maxHeartbeats 4000000 in
theorem unary_bang (w : World) (g : Nat) (r : PS) (h : RdM lo w g r) (n0 : isW r [45] = false) (hi : isW r [33] = true) (p : Tx × PS) (CU : ∀ w', RdM lo w' g (tl r) → Hid (Calls Tryz.prog 57 #[.pointer (some ⟨g, 0, none⟩)] w' (Ev lo w' g p))) :
    Calls Tryz.prog 57 #[.pointer (some ⟨g, 0, none⟩)] w (Ev lo w g (.mk 6 0 [] [] [p.1], p.2)) := by
  have hb := ball_new w #[.int .i64 0, .int .i64 0, .string ⟨#[]⟩, .string ⟨#[]⟩, .slice none 0 0] 36
  have HG := Lib.hid h.lt
  have HB := Lib.hid hb
  have HLO := Lib.hid h.wlo
  have H0 := Lib.hid (h.below hb)
  have N0 := fun w' (h' : RdM lo w' g r) => Lib.hid (skip_no w' g r [45] h' n0)
  have Y := fun w' (h' : RdM lo w' g r) => Lib.hid (skip_yes w' g r [33] h' hi)
  clear h hb n0 hi
  go_enter Tryz.func57, Tryz.ntmps57
  go_wp2_with fail
  refine (N0 _ H0.out).out.mono ?_
  rintro e v0 ⟨rfl, h1, h2⟩
  have P0 := Lib.hid h1
  have T0 := Lib.hid (h2)
  clear h1 h2
  go_wp2_with fail
  refine (Y _ P0.out).out.mono ?_
  rintro e w1 ⟨rfl, h1, h2⟩
  have H1 := Lib.hid h1
  have H2 := Lib.hid (T0.out.trans h2)
  have HW : Hid (w.heap.size < w1.heap.size) := Lib.hid (by have := H2.out.size; simp at this; omega)
  clear h1 h2
  have CU1 := CU w1 H1.out
  go_wp2_with fail
  refine CU1.out.mono ?_
  rintro e w2 ⟨x, rfl, hx1, hx2, hx3, hx4, hx5⟩
  have HX1 := Lib.hid hx1
  have HX2 := Lib.hid hx2
  have HX3 := Lib.hid hx3
  have HX4 := Lib.hid hx4
  have HX5 := Lib.hid hx5
  rw [exV_eq]
  have hr1 := res_keep HG.out H2.out
  have hr2 := (hx5.block _ (lt_of_heap hr1) (by have := HG.out; simp; omega)).trans hr1
  have HB3 := Lib.hid (ball_new w2 #[.int .i64 x.op, .int .i64 x.n, .string x.s, .string x.q, .slice x.a x.x.length x.c] 36)
  have HN3 := Lib.hid (new_at w2 #[.int .i64 x.op, .int .i64 x.n, .string x.s, .string x.q, .slice x.a x.x.length x.c] 36)
  have HR3 := Lib.hid ((HB3.out.block _ (lt_of_heap hr2)).trans hr2)
  clear hx1 hx2 hx3 hx4 hx5 hr1 hr2
  obtain ⟨y0, y1, y2, y3, y4⟩ := five_at HR3.out
  have f0 := free_at HR3.out 0
  have f1 := free_at HR3.out 1
  have f2 := free_at HR3.out 2
  have f3 := free_at HR3.out 3
  have f4 := free_at HR3.out 4
  go_wp2_with fail
  have HT := Lib.hid (turn5 (w2.alloc (.cells #[.int .i64 x.op, .int .i64 x.n, .string x.s, .string x.q, .slice x.a x.x.length x.c] 36)) w.heap.size (.int .i64 6) (.int .i64 0) (.string ⟨#[]⟩) (.string ⟨#[]⟩) (.slice (some ⟨w2.heap.size, 0, none⟩) 1 1))
  refine bodyPost_ret (results_expr rfl _ _ w.heap.size _ _ _ _ _ rfl (set5 HR3.out)) rfl ?_
  exact un_end HW.out HLO.out HX1.out HX2.out HX3.out HX4.out HB.out H2.out HX5.out HB3.out HN3.out HT.out (by rw [core_eq, ← HX1.out]; rfl)
set_option maxHeartbeats 4000000 in
theorem unary_true (w : World) (g : Nat) (r : PS) (h : RdM lo w g r) (n0 : isW r [45] = false) (n1 : isW r [33] = false) (hi : isW r [116, 114, 117, 101] = true) :
    Calls Tryz.prog 57 #[.pointer (some ⟨g, 0, none⟩)] w (Ev lo w g (.mk 2 1 [] [] [], tl r)) := by
  have hb := ball_new w #[.int .i64 0, .int .i64 0, .string ⟨#[]⟩, .string ⟨#[]⟩, .slice none 0 0] 36
  have HG := Lib.hid h.lt
  have HB := Lib.hid hb
  have HLO := Lib.hid h.wlo
  have H0 := Lib.hid (h.below hb)
  have N0 := fun w' (h' : RdM lo w' g r) => Lib.hid (skip_no w' g r [45] h' n0)
  have N1 := fun w' (h' : RdM lo w' g r) => Lib.hid (skip_no w' g r [33] h' n1)
  have Y := fun w' (h' : RdM lo w' g r) => Lib.hid (skip_yes w' g r [116, 114, 117, 101] h' hi)
  clear h hb n0 n1 hi
  go_enter Tryz.func57, Tryz.ntmps57
  go_wp2_with fail
  refine (N0 _ H0.out).out.mono ?_
  rintro e v0 ⟨rfl, h1, h2⟩
  have P0 := Lib.hid h1
  have T0 := Lib.hid (h2)
  clear h1 h2
  go_wp2_with fail
  refine (N1 _ P0.out).out.mono ?_
  rintro e v1 ⟨rfl, h1, h2⟩
  have P1 := Lib.hid h1
  have T1 := Lib.hid (T0.out.trans h2)
  clear h1 h2
  go_wp2_with fail
  refine (Y _ P1.out).out.mono ?_
  rintro e w1 ⟨rfl, h1, h2⟩
  have H1 := Lib.hid h1
  have H2 := Lib.hid (T1.out.trans h2)
  have HW : Hid (w.heap.size < w1.heap.size) := Lib.hid (by have := H2.out.size; simp at this; omega)
  clear h1 h2
  have HR1 := Lib.hid (res_keep HG.out H2.out)
  obtain ⟨y0, y1, y2, y3, y4⟩ := five_at HR1.out
  have f0 := free_at HR1.out 0
  have f1 := free_at HR1.out 1
  have f2 := free_at HR1.out 2
  have f3 := free_at HR1.out 3
  have f4 := free_at HR1.out 4
  go_wp2_with fail
  have HT := Lib.hid (turn5 w1 w.heap.size (.int .i64 2) (.int .i64 1) (.string ⟨#[]⟩) (.string ⟨#[]⟩) (.slice none 0 0))
  refine bodyPost_ret (results_expr rfl _ _ w.heap.size _ _ _ _ _ rfl (set5 HR1.out)) rfl ?_
  exact leaf_end HLO.out (by show (⟨#[]⟩ : ByteArray).size ≤ maxLen; unfold maxLen; simp [ByteArray.size]) H1.out HB.out H2.out HT.out (by rw [core_eq]; rfl)
set_option maxHeartbeats 4000000 in
theorem unary_false (w : World) (g : Nat) (r : PS) (h : RdM lo w g r) (n0 : isW r [45] = false) (n1 : isW r [33] = false) (n2 : isW r [116, 114, 117, 101] = false) (hi : isW r [102, 97, 108, 115, 101] = true) :
    Calls Tryz.prog 57 #[.pointer (some ⟨g, 0, none⟩)] w (Ev lo w g (.mk 2 0 [] [] [], tl r)) := by
  have hb := ball_new w #[.int .i64 0, .int .i64 0, .string ⟨#[]⟩, .string ⟨#[]⟩, .slice none 0 0] 36
  have HG := Lib.hid h.lt
  have HB := Lib.hid hb
  have HLO := Lib.hid h.wlo
  have H0 := Lib.hid (h.below hb)
  have N0 := fun w' (h' : RdM lo w' g r) => Lib.hid (skip_no w' g r [45] h' n0)
  have N1 := fun w' (h' : RdM lo w' g r) => Lib.hid (skip_no w' g r [33] h' n1)
  have N2 := fun w' (h' : RdM lo w' g r) => Lib.hid (skip_no w' g r [116, 114, 117, 101] h' n2)
  have Y := fun w' (h' : RdM lo w' g r) => Lib.hid (skip_yes w' g r [102, 97, 108, 115, 101] h' hi)
  clear h hb n0 n1 n2 hi
  go_enter Tryz.func57, Tryz.ntmps57
  go_wp2_with fail
  refine (N0 _ H0.out).out.mono ?_
  rintro e v0 ⟨rfl, h1, h2⟩
  have P0 := Lib.hid h1
  have T0 := Lib.hid (h2)
  clear h1 h2
  go_wp2_with fail
  refine (N1 _ P0.out).out.mono ?_
  rintro e v1 ⟨rfl, h1, h2⟩
  have P1 := Lib.hid h1
  have T1 := Lib.hid (T0.out.trans h2)
  clear h1 h2
  go_wp2_with fail
  refine (N2 _ P1.out).out.mono ?_
  rintro e v2 ⟨rfl, h1, h2⟩
  have P2 := Lib.hid h1
  have T2 := Lib.hid (T1.out.trans h2)
  clear h1 h2
  go_wp2_with fail
  refine (Y _ P2.out).out.mono ?_
  rintro e w1 ⟨rfl, h1, h2⟩
  have H1 := Lib.hid h1
  have H2 := Lib.hid (T2.out.trans h2)
  have HW : Hid (w.heap.size < w1.heap.size) := Lib.hid (by have := H2.out.size; simp at this; omega)
  clear h1 h2
  have HR1 := Lib.hid (res_keep HG.out H2.out)
  obtain ⟨y0, y1, y2, y3, y4⟩ := five_at HR1.out
  have f0 := free_at HR1.out 0
  have f1 := free_at HR1.out 1
  have f2 := free_at HR1.out 2
  have f3 := free_at HR1.out 3
  have f4 := free_at HR1.out 4
  go_wp2_with fail
  have HT := Lib.hid (turn5 w1 w.heap.size (.int .i64 2) (.int .i64 0) (.string ⟨#[]⟩) (.string ⟨#[]⟩) (.slice none 0 0))
  refine bodyPost_ret (results_expr rfl _ _ w.heap.size _ _ _ _ _ rfl (set5 HR1.out)) rfl ?_
  exact leaf_end HLO.out (by show (⟨#[]⟩ : ByteArray).size ≤ maxLen; unfold maxLen; simp [ByteArray.size]) H1.out HB.out H2.out HT.out (by rw [core_eq]; rfl)
end Go.Proofs.YtlhbhpdpjidpgaaGreatDoor.Prs
