/-
  The program's reader in memory; ended, next, is, at, fail: what they answer, and what they leave. Condition: the reader is known.
-/
import Derived.Test.YtmihlmlojmdhjaaGreatDoorQ04
import Derived.Test.YtmihlmlojmdhjaaGreatDoorQ07
import Derived.Test.YtmihlmlojmdhjaaGreatDoorQ13
namespace Go.Proofs.YtmihlmlojmdhjaaGreatDoor.Prg
open Go.RowKit Tre Prs
open Lex (Wd wdC wdV bs str Turn)
set_option maxRecDepth 100000
set_option linter.unusedSimpArgs false
variable {lo : Nat}
/-- A word of the kind of keys is a key, a sign is none. -/
def KS (x : Wd) : Prop := (x.k = 4 → Lex.keyB x.s = true) ∧ (x.k = 5 → Lex.keyB x.s = false)
/-- Is it such a key, or such a sign? -/
def isK (x : Wd) (s : List UInt8) : Bool := x.k == (if Lex.keyB s = true then 4 else 5) && x.s == s
theorem isK_ks {x : Wd} (h : KS x) (s : List UInt8) : isK x s = ((x.k == 5 || x.k == 4) && x.s == s) := by
  unfold isK
  by_cases hs : x.s = s
  · subst hs
    by_cases hk : Lex.keyB x.s = true
    · have h5 : (x.k == 5) = false := by
        cases h5 : x.k == 5 with
        | false => rfl
        | true => have := h.2 (by simpa using h5); rw [hk] at this; cases this
      rw [if_pos hk, h5]
      simp
    · have h4 : (x.k == 4) = false := by
        cases h4 : x.k == 4 with
        | false => rfl
        | true => exact absurd (h.1 (by simpa using h4)) hk
      rw [if_neg hk, h4]
      simp
  · have : (x.s == s) = false := by simpa using hs
    rw [this]
    simp
/-- The reader in block g. -/
structure RdG (lo : Nat) (w : World) (g : Nat) (r : PS) : Prop where
  at_ : ∃ a c, w.heap[g]? = some (.cells #[.slice a r.l.length c, .bool r.bad, .bool r.big] 118 (0, 0)) ∧ r.l.length ≤ c ∧ Row 3 wdC w a r.l ∧ (∀ b o, a = some ⟨b, o, none⟩ → b ≠ g ∧ b < lo)
  len : r.l.length ≤ 100000
  glo : g < lo
  wlo : lo ≤ w.heap.size
  txt : ∀ x ∈ r.l, x.s.length ≤ 1000000 ∧ KS x
  ok : r.bad = true → r.l = []
theorem RdG.lt {w : World} {g : Nat} {r : PS} (h : RdG lo w g r) : g < w.heap.size := by
  obtain ⟨a, c, h1, _⟩ := h.at_
  exact lt_of_heap h1
theorem RdG.below {w w' : World} {g : Nat} {r : PS} (h : RdG lo w g r) (hb : Below w.heap.size w w') : RdG lo w' g r := by
  obtain ⟨a, c, h1, h2, h3, h4⟩ := h.at_
  exact ⟨⟨a, c, (hb.block g (lt_of_heap h1)).trans h1, h2, h3.below hb, h4⟩, h.len, h.glo, Nat.le_trans h.wlo hb.size, h.txt, h.ok⟩
theorem RdG.but {w w' : World} {g b : Nat} {r : PS} (h : RdG lo w g r) (ht : Turn [b] w w') (hb : lo ≤ b) : RdG lo w' g r := by
  obtain ⟨a, c, h1, h2, h3, h4⟩ := h.at_
  have hg := h.glo
  exact ⟨⟨a, c, (ht.block g (lt_of_heap h1) (by simp; omega)).trans h1, h2, Row.kept h3 ht.size (fun b' o e hlt => ht.block b' hlt (by have := (h4 b' o e).2; simp; omega)), h4⟩, h.len, h.glo, Nat.le_trans h.wlo ht.size, h.txt, h.ok⟩
theorem RdG.buts {w w' : World} {g : Nat} {S : List Nat} {r : PS} (h : RdG lo w g r) (ht : Turn S w w') (hb : ∀ b ∈ S, lo ≤ b) : RdG lo w' g r := by
  obtain ⟨a, c, h1, h2, h3, h4⟩ := h.at_
  have hg := h.glo
  exact ⟨⟨a, c, (ht.block g (lt_of_heap h1) (fun hm => by have := hb _ hm; omega)).trans h1, h2, Row.kept h3 ht.size (fun b' o e hlt => ht.block b' hlt (fun hm => by have := (h4 b' o e).2; have := hb _ hm; omega)), h4⟩, h.len, h.glo, Nat.le_trans h.wlo ht.size, h.txt, h.ok⟩
/-- The reader's own cells turn; the words lie as they lay. -/
theorem RdG.set {w : World} {g : Nat} {r : PS} {a : Option Addr} {c : Nat} (hg : w.heap[g]? = some (.cells #[.slice a r.l.length c, .bool r.bad, .bool r.big] 118 (0, 0))) (hl : RdG lo w g r)
    (r' : PS) (a' : Option Addr) (c' i : Nat) (v : Value) (h1 : (#[.slice a r.l.length c, .bool r.bad, .bool r.big] : Array Value).setIfInBounds i v = #[.slice a' r'.l.length c', .bool r'.bad, .bool r'.big]) (h2 : r'.l.length ≤ c') (h3 : Row 3 wdC w a' r'.l) (h4 : ∀ b o, a' = some ⟨b, o, none⟩ → b ≠ g ∧ b < lo) (h5 : r'.l.length ≤ r.l.length) (h6 : ∀ x ∈ r'.l, x ∈ r.l) (h7 : r'.bad = true → r'.l = []) :
    RdG lo (w.setCell ⟨g, i, none⟩ v) g r' := by
  refine ⟨⟨a', c', ?_, h2, Row.kept h3 ?_ (fun b o e _ => Below.heap_setCell w _ v b (h4 b o e).1), h4⟩, by have := hl.len; omega, hl.glo, Nat.le_trans hl.wlo (KeepsWalks.setCell w ⟨g, i, none⟩ v).size, fun x hx => hl.txt x (h6 x hx), h7⟩
  · rw [← h1]
    exact set_at hg i v
  · exact (KeepsWalks.setCell w ⟨g, i, none⟩ v).size
/-- One word goes. -/
theorem RdG.pop {w : World} {g : Nat} {r : PS} (h : RdG lo w g r) (h0 : 0 < r.l.length) : ∃ A c, w.heap[g]? = some (.cells #[.slice A r.l.length c, .bool r.bad, .bool r.big] 118 (0, 0)) ∧
    RdG lo (w.setCell ⟨g, 0, none⟩ (.slice (if c = 1 then A else A.map (·.add 3)) (r.l.length - 1) (c - 1))) g (tl r) := by
  obtain ⟨A, c, h1, h2, h3, h4⟩ := h.at_
  obtain ⟨b, o, rfl, hlt, hc⟩ := h3 h0
  refine ⟨some ⟨b, o, none⟩, c, h1, ?_⟩
  refine RdG.set h1 h (tl r) (if c = 1 then some ⟨b, o, none⟩ else (some (⟨b, o, none⟩ : Addr)).map (·.add 3)) (c - 1) 0 _ (by simp [tl]) (by rw [tl_len]; omega) ?_ ?_ (by rw [tl_len]; omega) (fun x hx => List.mem_of_mem_tail hx) (fun hb => by have := h.ok hb; rw [this] at h0; simp at h0)
  · by_cases h5 : r.l.length = 1
    · have e : (tl r).l = [] := by
        have := tl_len r
        exact List.eq_nil_of_length_eq_zero (by omega)
      rw [e]
      exact Row.nil _ _ _ _
    · rw [if_neg (by omega)]
      have := tail_row (w := w) (b := b) (o := o) (l := r.l) h3 (by omega)
      rw [Option.map_some, Lex.plain_add]
      exact this
  · intro b' o' e
    split at e
    · injection e with e
      injection e with e1 _
      exact e1 ▸ h4 b o rfl
    · rw [Option.map_some, Lex.plain_add] at e
      injection e with e
      injection e with e1 _
      exact e1 ▸ h4 b o rfl
/-- What a call on the reader leaves. -/
def Lg (lo : Nat) (w : World) (g : Nat) (v : Value) (r : PS) (e : Ending) (w' : World) : Prop := e = .returned v ∧ RdG lo w' g r ∧ Turn [g] w w'
set_option maxHeartbeats 4000000 in
theorem ended_any (w : World) (g : Nat) (r : PS) (h : RdG lo w g r) : Calls Tryz.prog 77 #[.pointer (some ⟨g, 0, none⟩)] w (EndsW (.bool (r.l.length == 0)) w) := by
  obtain ⟨a, c, h1, h2, h3, h4⟩ := h.at_
  have g0 := cell_at h1 0
  simp only [List.getElem?_toArray, List.getElem?_cons_zero] at g0
  have hl := h.len
  have HE : Hid (decide ((r.l.length : Int) = 0) = (r.l.length == 0)) := Lib.hid (by rw [Bool.eq_iff_iff]; simp)
  generalize r.l.length = n at *
  clear h h1 h3 h4 h2
  go_enter Tryz.func77, Tryz.ntmps77
  go_wp2
  go_ret
  refine ⟨?_, rfl⟩
  rw [← HE.out]
  first
    | rfl
    | (congr 2; rw [Bool.eq_iff_iff]; simp)
theorem ended_no {w : World} {g : Nat} {r : PS} (h : RdG lo w g r) (h0 : 0 < r.l.length) : Calls Tryz.prog 77 #[.pointer (some ⟨g, 0, none⟩)] w (EndsW (.bool false) w) := by
  have := ended_any w g r h
  rwa [show (r.l.length == 0) = false by simp; intro e; rw [e] at h0; simp at h0] at this
theorem ended_yes {w : World} {g : Nat} {r : PS} (h : RdG lo w g r) (h0 : r.l = []) : Calls Tryz.prog 77 #[.pointer (some ⟨g, 0, none⟩)] w (EndsW (.bool true) w) := by
  have := ended_any w g r h
  rwa [h0] at this
set_option maxHeartbeats 4000000 in
theorem next_any (w : World) (g : Nat) (r : PS) (h : RdG lo w g r) : Calls Tryz.prog 113 #[.pointer (some ⟨g, 0, none⟩)] w (EndsB (wdV (peek r)) w) := by
  have hb := ball_new w #[.int .i64 0, .string ⟨#[]⟩, .int .i64 0] 82
  have H0 := Lib.hid (h.below hb)
  obtain ⟨a, c, h1, h2, h3, h4⟩ := H0.out.at_
  have hl := h.len
  have HB := Lib.hid hb
  have g0 := cell_at h1 0
  simp only [List.getElem?_toArray, List.getElem?_cons_succ, List.getElem?_cons_zero] at g0
  have HNEW := Lib.hid (fun (v0 v1 v2 : Value) => new_at w #[v0, v1, v2] 82)
  have HBN := Lib.hid (fun (v0 v1 v2 : Value) => ball_new w #[v0, v1, v2] 82)
  have HOK := Lib.hid h.ok
  obtain ⟨l, bad, big⟩ := r
  dsimp only at g0 h3 hl h2 HOK
  cases l with
  | nil =>
    have e1 : peek (⟨[], bad, big⟩ : PS) = zeroW := by simp [peek]
    have C := Lib.hid (ended_yes H0.out rfl)
    rw [e1, wdV_eq]
    clear h h1 h3 h4 hb h2 hl H0 g0
    go_enter Tryz.func113, Tryz.ntmps113
    go_wp2_with fail
    refine C.out.mono ?_
    rintro e w1 ⟨rfl, rfl⟩
    go_wp2_with fail
    refine bodyPost_ret (results_word rfl _ _ w.heap.size _ _ _ rfl (HNEW.out _ _ _)) rfl ?_
    exact ⟨rfl, HBN.out _ _ _⟩
  | cons x t =>
    have hbad : bad = false := by
      cases bad with
      | false => rfl
      | true => have := HOK.out rfl; cases this
    subst hbad
    have e1 : peek (⟨x :: t, false, big⟩ : PS) = x := by simp [peek]
    have C := Lib.hid (ended_no H0.out (by simp))
    rw [e1, wdV_eq]
    obtain ⟨b1, o1, rfl, hlt1, hc1⟩ := h3 (by simp)
    have hc1 := hc1 0 x rfl
    obtain ⟨p0, p1, p2⟩ := wdC_at hc1
    simp only [Nat.zero_mul, Nat.add_zero] at p0 p1 p2
    simp only [List.length_cons] at g0 hl
    generalize t.length = n at *
    generalize bs x.s = S at *
    clear h h1 h3 h4 hb h2 hc1 H0 hlt1
    go_enter Tryz.func113, Tryz.ntmps113
    go_wp2_with fail
    refine C.out.mono ?_
    rintro e w1 ⟨rfl, rfl⟩
    go_wp2_with fail
    refine bodyPost_ret (results_word rfl _ _ w.heap.size _ _ _ rfl (HNEW.out _ _ _)) rfl ?_
    exact ⟨rfl, HBN.out _ _ _⟩
theorem RdG.ks {w : World} {g : Nat} {r : PS} (h : RdG lo w g r) (s : List UInt8) : isK (peek r) s = isW r s := by
  have : KS (peek r) := by
    unfold peek
    split
    · exact ⟨fun e => by simp [zeroW] at e, fun e => by simp [zeroW] at e⟩
    · cases hl : r.l with
      | nil => exact ⟨fun e => by simp [zeroW] at e, fun e => by simp [zeroW] at e⟩
      | cons x t => exact (h.txt x (by rw [hl]; simp)).2
  rw [isK_ks this]
  rfl
set_option maxHeartbeats 4000000 in
theorem is_any (w : World) (x : Wd) (s : List UInt8) : Calls Tryz.prog 34 #[wdV x, .string (bs s)] w (EndsB (.bool (isK x s)) w) := by
  have CK := Lib.hid (Lex.key_any s)
  rw [wdV_eq]
  have HB := Lib.hid (word_box w x)
  have HN := new_at w #[.int .i64 x.k, .string (bs x.s), .int .i64 x.n] 82
  rcases Bool.eq_false_or_eq_true (Lex.keyB s) with hk | hk
  · have HI : Hid (isK x s = (x.k == 4 && (bs x.s).toList == (bs s).toList)) := Lib.hid (by unfold isK; rw [hk, if_pos rfl, Lex.bs_toList, Lex.bs_toList])
    rw [hk] at CK
    rw [HI.out]
    clear HI hk
    obtain ⟨k, xs, n⟩ := x
    dsimp only at HB HN ⊢
    generalize bs xs = X at *
    generalize bs s = T at *
    have c0 := cell_at HN 0
    have c1 := cell_at HN 1
    simp only [List.getElem?_toArray, List.getElem?_cons_succ, List.getElem?_cons_zero] at c0 c1
    clear HN
    rcases Bool.eq_false_or_eq_true (k == 4) with h4 | h4
    all_goals
      rw [h4]
      simp only [Bool.true_and, Bool.false_and]
      go_enter Tryz.func34, Tryz.ntmps34
      go_wp2_with fail
      refine (CK.out _).mono ?_
      rintro e w1 ⟨rfl, rfl⟩
      go_wp2_with fail
      go_ret
      exact ends_bool (by simp [*]) HB.out
  · have HI : Hid (isK x s = (x.k == 5 && (bs x.s).toList == (bs s).toList)) := Lib.hid (by unfold isK; rw [hk, if_neg (by simp), Lex.bs_toList, Lex.bs_toList])
    rw [hk] at CK
    rw [HI.out]
    clear HI hk
    obtain ⟨k, xs, n⟩ := x
    dsimp only at HB HN ⊢
    generalize bs xs = X at *
    generalize bs s = T at *
    have c0 := cell_at HN 0
    have c1 := cell_at HN 1
    simp only [List.getElem?_toArray, List.getElem?_cons_succ, List.getElem?_cons_zero] at c0 c1
    clear HN
    rcases Bool.eq_false_or_eq_true (k == 5) with h4 | h4
    all_goals
      rw [h4]
      simp only [Bool.true_and, Bool.false_and]
      go_enter Tryz.func34, Tryz.ntmps34
      go_wp2_with fail
      refine (CK.out _).mono ?_
      rintro e w1 ⟨rfl, rfl⟩
      go_wp2_with fail
      go_ret
      exact ends_bool (by simp [*]) HB.out
set_option maxHeartbeats 4000000 in
theorem at_any (w : World) (g : Nat) (r : PS) (s : List UInt8) (h : RdG lo w g r) : Calls Tryz.prog 114 #[.pointer (some ⟨g, 0, none⟩), .string (bs s)] w (EndsB (.bool (isW r s)) w) := by
  have C := Lib.hid (next_any w g r h)
  have CI := Lib.hid (fun w' => is_any w' (peek r) s)
  rw [← h.ks s]
  generalize peek r = x at *
  rw [wdV_eq] at C CI
  generalize isK x s = B at *
  clear h
  go_enter Tryz.func114, Tryz.ntmps114
  go_wp2_with fail
  refine C.out.mono ?_
  rintro e w1 ⟨rfl, hb1⟩
  have HB1 := Lib.hid hb1
  clear hb1
  go_wp2_with fail
  refine (CI.out _).mono ?_
  rintro e w2 ⟨rfl, hb2⟩
  have HB2 := Lib.hid (HB1.out.trans (hb2.mono HB1.out.size))
  clear hb2
  go_wp2_with fail
  go_ret
  exact ⟨rfl, HB2.out⟩
/-- Two cells turn: the reader fails. -/
theorem RdG.fall {w : World} {g : Nat} {r : PS} (h : RdG lo w g r) : RdG lo ((w.setCell ⟨g, 1, none⟩ (.bool true)).setCell ⟨g, 0, none⟩ (.slice none 0 0)) g (failR r) := by
  obtain ⟨a, c, h1, h2, h3, h4⟩ := h.at_
  refine ⟨⟨none, 0, ?_, Nat.le_refl _, Row.nil _ _ _ _, fun b o e => by cases e⟩, by simp [failR], h.glo, Nat.le_trans h.wlo ?_, fun x hx => by simp [failR] at hx, fun _ => rfl⟩
  · have := set_at (set_at h1 1 (.bool true)) 0 (.slice none 0 0)
    exact this
  · exact Nat.le_trans (KeepsWalks.setCell w ⟨g, 1, none⟩ (.bool true)).size (KeepsWalks.setCell _ ⟨g, 0, none⟩ (.slice none 0 0)).size
set_option maxHeartbeats 4000000 in
theorem fail_any (w : World) (g : Nat) (r : PS) (h : RdG lo w g r) : Calls Tryz.prog 112 #[.pointer (some ⟨g, 0, none⟩)] w (Lg lo w g (.tuple #[]) (failR r)) := by
  have HF := Lib.hid h.fall
  obtain ⟨a, c, h1, -⟩ := h.at_
  have g0 := cell_at h1 0
  have g1 := cell_at h1 1
  simp only [List.getElem?_toArray, List.getElem?_cons_succ, List.getElem?_cons_zero] at g0 g1
  have f0 := free_at h1 0
  have f1 := free_at h1 1
  clear h h1
  go_enter Tryz.func112, Tryz.ntmps112
  go_wp2_with fail
  go_end0
  exact ⟨rfl, HF.out, ((Turn.refl [g] w).setCell (.inl (by simp)) _).setCell (.inl (by simp)) _⟩
end Go.Proofs.YtmihlmlojmdhjaaGreatDoor.Prg
/- The document's unary, step by step. Conditions: the reader is known; what it calls does as the plain grammar says. -/
namespace Go.Proofs.YtmihlmlojmdhjaaGreatDoor.Prs
open Go.RowKit Tre
open Lex (Wd wdC wdV bs str Turn)
set_option maxRecDepth 100000
set_option linter.unusedSimpArgs false
variable {lo : Nat}
/-- All of the tree lies from block b on. -/
def New (b : Nat) (x : Ex) : Prop := ∀ y ∈ flat x, ∀ ad, y.a = some ad → b ≤ ad.block
theorem New.mono {b c : Nat} {x : Ex} (h : New b x) (hc : c ≤ b) : New c x := fun y hy ad e => Nat.le_trans hc (h y hy ad e)
theorem ExIn.turn {w w' : World} {g : Nat} {x : Ex} (h : ExIn w x) {b : Nat} (ho : New b x) (hg : g < b) (ht : Turn [g] w w') : ExIn w' x := fun y hy => by
  have hn := h y hy
  exact ⟨Row.kept hn.row ht.size (fun b' o e hlt => ht.block b' hlt (by simp; have := ho y hy _ e; simp at this; omega)), hn.len, hn.cap, hn.s, hn.q⟩
theorem results_expr {fn : Func} {p : Tmp} (h : fn.results = #[.cell p 42]) (tmps : Array Value) (w : World) (g : Nat) (v0 v1 v2 v3 v4 : Value) (hv : tmps.getD p undef = .pointer (some ⟨g, 0, none⟩)) (hc : w.heap[g]? = some (.cells #[v0, v1, v2, v3, v4] 42 (0, 0))) :
    (results fn tmps).run Tryz.prog w = .ok (.agg #[v0, v1, v2, v3, v4]) w := by
  have a4 := Tryz.isAgg42
  have z4 := Tryz.sizeOf42
  obtain ⟨c0, c1, c2, c3, c4⟩ := five_at hc
  simp only [Array.getD_eq_getD_getElem?] at hv
  unfold results
  rw [h]
  go_simp
/-- A leaf: no parts. -/
theorem leaf_in (w : World) (op n : Int) (s : ByteArray) (hs : s.size ≤ maxLen) : ExIn w (.mk op n s ⟨#[]⟩ none 0 []) := fun y hy => by
  rw [flat_eq] at hy
  obtain rfl : y = .mk op n s ⟨#[]⟩ none 0 [] := by simpa [flatL, Ex.x] using hy
  exact ⟨Row.nil _ _ _ _, by simp [Ex.x, most], by simp [Ex.x], hs, by show (⟨#[]⟩ : ByteArray).size ≤ maxLen; unfold maxLen; simp [ByteArray.size]⟩
theorem leaf_new (g : Nat) (op n : Int) (s : ByteArray) : New g (.mk op n s ⟨#[]⟩ none 0 []) := fun y hy ad e => by
  rw [flat_eq] at hy
  obtain rfl : y = .mk op n s ⟨#[]⟩ none 0 [] := by simpa [flatL, Ex.x] using hy
  cases e
theorem one_in {w : World} {x : Ex} {b c : Nat} {op : Int} (hx : ExIn w x) (hb : ∀ (r : Nat) (u : Value), (exC x)[r]? = some u → w.cell? ⟨b, r, none⟩ = some u) (hlt : b < w.heap.size) (hc : 1 ≤ c) : ExIn w (.mk op 0 ⟨#[]⟩ ⟨#[]⟩ (some ⟨b, 0, none⟩) c [x]) := by
  refine ExIn.mk ⟨fun _ => ⟨b, 0, rfl, hlt, fun j y hy r u hu => ?_⟩, by simp [Ex.x, most], by simpa [Ex.x, Ex.c] using hc, ?_, ?_⟩ (fun y hy => ?_)
  · have : j = 0 ∧ x = y := by
      cases j with
      | zero => exact ⟨rfl, by simpa [Ex.x] using hy⟩
      | succ j => simp [Ex.x] at hy
    obtain ⟨rfl, rfl⟩ := this
    simpa using hb r u hu
  · show (⟨#[]⟩ : ByteArray).size ≤ maxLen; unfold maxLen; simp [ByteArray.size]
  · show (⟨#[]⟩ : ByteArray).size ≤ maxLen; unfold maxLen; simp [ByteArray.size]
  · obtain rfl : y = x := by simpa [Ex.x] using hy
    exact hx
theorem one_new {g b c : Nat} {x : Ex} {op : Int} (hx : New g x) (hb : g ≤ b) : New g (.mk op 0 ⟨#[]⟩ ⟨#[]⟩ (some ⟨b, 0, none⟩) c [x]) := fun y hy ad e => by
  rw [flat_eq] at hy
  rcases List.mem_cons.1 hy with rfl | hy
  · injection e with e
    subst e
    exact hb
  · exact hx y (by simpa [flatL, Ex.x] using hy) ad e
theorem set5 {w : World} {b : Nat} {a0 a1 a2 a3 a4 v0 v1 v2 v3 v4 : Value} {T : TypeId} (h : w.heap[b]? = some (.cells #[a0, a1, a2, a3, a4] T (0, 0))) :
    (((((w.setCell ⟨b, 0, none⟩ v0).setCell ⟨b, 1, none⟩ v1).setCell ⟨b, 2, none⟩ v2).setCell ⟨b, 3, none⟩ v3).setCell ⟨b, 4, none⟩ v4).heap[b]? = some (.cells #[v0, v1, v2, v3, v4] T (0, 0)) :=
  set_at (set_at (set_at (set_at (set_at h 0 v0) 1 v1) 2 v2) 3 v3) 4 v4
theorem turn5 (w : World) (b : Nat) (v0 v1 v2 v3 v4 : Value) : Turn [b] w (((((w.setCell ⟨b, 0, none⟩ v0).setCell ⟨b, 1, none⟩ v1).setCell ⟨b, 2, none⟩ v2).setCell ⟨b, 3, none⟩ v3).setCell ⟨b, 4, none⟩ v4) :=
  (((((Turn.refl [b] w).setCell (.inl (by simp)) v0).setCell (.inl (by simp)) v1).setCell (.inl (by simp)) v2).setCell (.inl (by simp)) v3).setCell (.inl (by simp)) v4
end Go.Proofs.YtmihlmlojmdhjaaGreatDoor.Prs
/- The document's unary: each of its other ways. Conditions: the reader is known; what it calls does as the plain grammar says. -/
namespace Go.Proofs.YtmihlmlojmdhjaaGreatDoor.Prs
open Go.RowKit Tre
open Lex (Wd wdC wdV bs str Turn)
set_option maxRecDepth 100000
set_option linter.unusedSimpArgs false
variable {lo : Nat}
/-- The result's cell through calls that turn the reader alone. -/
theorem res_keep {w w1 : World} {g : Nat} {cs : Array Value} {T : TypeId} (hg : g < w.heap.size) (h2 : Turn [g] (w.alloc (.cells cs T)) w1) : w1.heap[w.heap.size]? = some (.cells cs T (0, 0)) :=
  (h2.block _ (by simp) (by simp; omega)).trans (new_at w cs T)
end Go.Proofs.YtmihlmlojmdhjaaGreatDoor.Prs
/- The document's unary: brackets, numbers, names, calls. Conditions: the reader is known; what it calls does as the plain grammar says. -/
namespace Go.Proofs.YtmihlmlojmdhjaaGreatDoor.Prs
open Go.RowKit Tre
open Lex (Wd wdC wdV bs str Turn)
set_option maxRecDepth 100000
set_option linter.unusedSimpArgs false
variable {lo : Nat}
end Go.Proofs.YtmihlmlojmdhjaaGreatDoor.Prs
/- The document's unary: names, calls. Conditions: the reader is known; what it calls does as the plain grammar says. -/
namespace Go.Proofs.YtmihlmlojmdhjaaGreatDoor.Prs
open Go.RowKit Tre
open Lex (Wd wdC wdV bs str Turn)
set_option maxRecDepth 100000
set_option linter.unusedSimpArgs false
variable {lo : Nat}
end Go.Proofs.YtmihlmlojmdhjaaGreatDoor.Prs
/- The program's has, must, bound, take, name, typed, truth: what they answer, and what they leave. Condition: the reader is known. -/
namespace Go.Proofs.YtmihlmlojmdhjaaGreatDoor.Prg
open Go.RowKit Tre Prs
open Lex (Wd wdC wdV bs str Turn)
set_option maxRecDepth 100000
set_option linter.unusedSimpArgs false
variable {lo : Nat}
set_option maxHeartbeats 4000000 in
theorem has_yes (w : World) (g : Nat) (r : PS) (s : List UInt8) (h : RdG lo w g r) (hi : isW r s = true) : Calls Tryz.prog 80 #[.pointer (some ⟨g, 0, none⟩), .string (bs s)] w (Lg lo w g (.bool true) (tl r)) := by
  have C := Lib.hid (at_any w g r s h)
  rw [hi] at C
  have H := Lib.hid h
  have HT := Lib.hid hi
  clear h hi
  go_enter Tryz.func80, Tryz.ntmps80
  go_wp2_with fail
  refine C.out.mono ?_
  rintro e w1 ⟨rfl, hb1⟩
  have hr1 := H.out.below hb1
  obtain ⟨A, c, hg, hp⟩ := hr1.pop (isW_pos HT.out).1
  have HP := Lib.hid hp
  have HB1 := Lib.hid hb1
  have g0 := cell_at hg 0
  simp only [List.getElem?_toArray, List.getElem?_cons_zero] at g0
  have f0 := free_at hg 0
  have CU := fun w' => cut1 w' A r.l.length c (isW_pos HT.out).1
  generalize r.l.length - 1 = n1 at *
  generalize r.l.length = n at *
  clear hb1 hr1 hp hg
  generalize (if c = 1 then A else A.map (·.add 3)) = A2 at *
  go_wp2_with fail
  go_ret
  exact ⟨rfl, HP.out, ((Turn.refl [g] w).below HB1.out).setCell (.inl (by simp)) _⟩
set_option maxHeartbeats 4000000 in
theorem has_no (w : World) (g : Nat) (r : PS) (s : List UInt8) (h : RdG lo w g r) (hi : isW r s = false) : Calls Tryz.prog 80 #[.pointer (some ⟨g, 0, none⟩), .string (bs s)] w (Lg lo w g (.bool false) r) := by
  have C := Lib.hid (at_any w g r s h)
  rw [hi] at C
  have H := Lib.hid h
  clear h hi
  go_enter Tryz.func80, Tryz.ntmps80
  go_wp2_with fail
  refine C.out.mono ?_
  rintro e w1 ⟨rfl, hb1⟩
  have HB1 := Lib.hid hb1
  clear hb1
  go_wp2_with fail
  go_ret
  exact ⟨rfl, H.out.below HB1.out, (Turn.refl [g] w).below HB1.out⟩
set_option maxHeartbeats 4000000 in
theorem must_any (w : World) (g : Nat) (r : PS) (s : List UInt8) (h : RdG lo w g r) : Calls Tryz.prog 78 #[.pointer (some ⟨g, 0, none⟩), .string (bs s)] w (Lg lo w g (.tuple #[]) (mustP r s)) := by
  unfold mustP
  rcases Bool.eq_false_or_eq_true (isW r s) with hi | hi
  · have C := Lib.hid (has_yes w g r s h hi)
    rw [if_pos hi]
    clear h hi
    go_enter Tryz.func78, Tryz.ntmps78
    go_wp2_with fail
    refine C.out.mono ?_
    rintro e w1 ⟨rfl, h1, h2⟩
    have H1 := Lib.hid h1
    have H2 := Lib.hid h2
    clear h1 h2
    go_wp2_with fail
    go_end0
    exact ⟨rfl, H1.out, H2.out⟩
  · have C := Lib.hid (has_no w g r s h hi)
    rw [if_neg (by simp [hi])]
    clear h hi
    go_enter Tryz.func78, Tryz.ntmps78
    go_wp2_with fail
    refine C.out.mono ?_
    rintro e w1 ⟨rfl, h1, h2⟩
    have CF := Lib.hid (fail_any w1 g r h1)
    have H2 := Lib.hid h2
    clear h1 h2
    go_wp2_with fail
    refine CF.out.mono ?_
    rintro e w2 ⟨rfl, h1, h3⟩
    have H1 := Lib.hid h1
    have H3 := Lib.hid (H2.out.trans h3)
    clear h1 h3
    go_wp2_with fail
    go_end0
    exact ⟨rfl, H1.out, H3.out⟩
theorem RdG.bigged {w : World} {g : Nat} {r : PS} (h : RdG lo w g r) (B : Bool) : RdG lo (w.setCell ⟨g, 2, none⟩ (.bool B)) g ⟨r.l, r.bad, B⟩ := by
  obtain ⟨A, c, h1, h2, h3, h4⟩ := h.at_
  exact RdG.set h1 h ⟨r.l, r.bad, B⟩ A c 2 _ (by simp) h2 h3 h4 (Nat.le_refl _) (fun x hx => hx) h.ok
set_option maxHeartbeats 4000000 in
theorem bound_any (w : World) (g : Nat) (r : PS) (n m : Nat) (k : Int) (hk : k = m) (h : RdG lo w g r) : Calls Tryz.prog 82 #[.pointer (some ⟨g, 0, none⟩), .int .i64 n, .int .i64 k] w (Lg lo w g (.tuple #[]) (boundR r n m)) := by
  have HB := Lib.hid (h.bigged true)
  obtain ⟨a, c, h1, -⟩ := h.at_
  have f2 := free_at h1 2
  have g2 := cell_at h1 2
  simp only [List.getElem?_toArray, List.getElem?_cons_succ, List.getElem?_cons_zero] at g2
  have H := Lib.hid h
  clear h h1
  rcases Nat.lt_or_ge m n with hlt | hge
  · have HE : Hid (boundR r n m = ⟨r.l, r.bad, true⟩) := Lib.hid (by unfold boundR; simp [hlt])
    have hq : k < (n : Int) := by omega
    clear hlt hk
    go_enter Tryz.func82, Tryz.ntmps82
    go_wp2_with fail
    go_end0
    rw [HE.out]
    exact ⟨rfl, HB.out, (Turn.refl [g] w).setCell (.inl (by simp)) _⟩
  · have HE : Hid (boundR r n m = r) := Lib.hid (by unfold boundR; simp [Nat.not_lt.2 hge])
    have hq : ¬ k < (n : Int) := by omega
    clear hge hk
    go_enter Tryz.func82, Tryz.ntmps82
    go_wp2_with fail
    go_end0
    rw [HE.out]
    exact ⟨rfl, H.out, Turn.refl [g] w⟩
end Go.Proofs.YtmihlmlojmdhjaaGreatDoor.Prg
/- The program's take, name, typed, truth: what they answer, and what they leave. Condition: the reader is known. -/
namespace Go.Proofs.YtmihlmlojmdhjaaGreatDoor.Prg
open Go.RowKit Tre Prs
open Lex (Wd wdC wdV bs str Turn)
set_option maxRecDepth 100000
set_option linter.unusedSimpArgs false
variable {lo : Nat}
/-- The kinds, from k on, none of which is the next word's. -/
structure TakeAt (lo : Nat) (w W : World) (g kb xb : Nat) (x : Wd) (r : PS) (ks : List Int) : Prop where
  rd : RdG lo W g r
  res : W.heap[w.heap.size]? = some (.cells #[.int .i64 0, .string ⟨#[]⟩, .int .i64 0] 82 (0, 0))
  box : W.heap[xb]? = some (.cells #[.int .i64 x.k, .string (bs x.s), .int .i64 x.n] 82 (0, 0))
  kin : ∃ T, W.heap[kb]? = some (.cells (ks.map (fun k => Value.int .i64 k)).toArray T (0, 0))
  turn : Turn [g] w W
  lo : lo ≤ w.heap.size
theorem three_at {w : World} {b : Nat} {v0 v1 v2 : Value} {T : TypeId} (h : w.heap[b]? = some (.cells #[v0, v1, v2] T (0, 0))) : w.cell? ⟨b, 0, none⟩ = some v0 ∧ w.cell? ⟨b, 1, none⟩ = some v1 ∧ w.cell? ⟨b, 2, none⟩ = some v2 := ⟨cell_at h 0, cell_at h 1, cell_at h 2⟩
theorem set3 {w : World} {b : Nat} {a0 a1 a2 v0 v1 v2 : Value} {T : TypeId} (h : w.heap[b]? = some (.cells #[a0, a1, a2] T (0, 0))) : (((w.setCell ⟨b, 0, none⟩ v0).setCell ⟨b, 1, none⟩ v1).setCell ⟨b, 2, none⟩ v2).heap[b]? = some (.cells #[v0, v1, v2] T (0, 0)) := set_at (set_at (set_at h 0 v0) 1 v1) 2 v2
theorem turn3 (w : World) (b : Nat) (v0 v1 v2 : Value) : Turn [b] w (((w.setCell ⟨b, 0, none⟩ v0).setCell ⟨b, 1, none⟩ v1).setCell ⟨b, 2, none⟩ v2) := (((Turn.refl [b] w).setCell (.inl (by simp)) v0).setCell (.inl (by simp)) v1).setCell (.inl (by simp)) v2
theorem take_yes {r : PS} {ks : List Int} {k : Nat} (h : ks[k]? = some (peek r).k) : takeW r ks = peek r ∧ takeR r ks = tl r := by
  have : ks.contains (peek r).k = true := List.contains_iff_mem.2 (List.mem_of_getElem? h)
  unfold takeW takeR
  rw [if_pos this, if_pos this]
  exact ⟨rfl, rfl⟩
theorem take_not {r : PS} {ks : List Int} (h : ∀ j : Nat, j < ks.length → ks[j]? ≠ some (peek r).k) : takeW r ks = zeroW ∧ takeR r ks = failR r := by
  have : ¬ ks.contains (peek r).k = true := fun hc => by
    obtain ⟨j, hj⟩ := List.mem_iff_getElem?.1 (List.contains_iff_mem.1 hc)
    exact h j (List.getElem?_eq_some_iff.1 hj).1 hj
  unfold takeW takeR
  rw [if_neg this, if_neg this]
  exact ⟨rfl, rfl⟩
set_option maxHeartbeats 8000000 in
theorem take_any (w : World) (g kb : Nat) (r : PS) (ks : List Int) (h : RdG lo w g r) (hn10 : ks.length ≤ 10) (h0 : (0 : Int) ∉ ks) (hkb : kb ≠ g) (hks : ∃ T, w.heap[kb]? = some (.cells (ks.map (fun k => Value.int .i64 k)).toArray T (0, 0))) :
    Calls Tryz.prog 79 #[.pointer (some ⟨g, 0, none⟩), .slice (some ⟨kb, 0, none⟩) ks.length ks.length] w (Lg lo w g (wdV (takeW r ks)) (takeR r ks)) := by
  have hb := ball_new w #[.int .i64 0, .string ⟨#[]⟩, .int .i64 0] 82
  have C := Lib.hid (next_any _ g r (h.below hb))
  have HN := Lib.hid (new_at w #[.int .i64 0, .string ⟨#[]⟩, .int .i64 0] 82)
  have HG := Lib.hid h.lt
  have HB := Lib.hid hb
  have H := Lib.hid h
  obtain ⟨x, hx⟩ : ∃ x, peek r = x := ⟨_, rfl⟩
  have HX := Lib.hid hx
  have H0 := Lib.hid h0
  have HKB := Lib.hid hkb
  have HKS := Lib.hid hks
  rw [hx, wdV_eq] at C
  have HBX := Lib.hid (fun w' => word_box w' x)
  have HNX := Lib.hid (fun w' => new_at w' #[.int .i64 x.k, .string (bs x.s), .int .i64 x.n] 82)
  clear h hb hx h0 hkb hks
  obtain ⟨n, hn⟩ : ∃ n, ks.length = n := ⟨_, rfl⟩
  have HNN := Lib.hid hn
  rw [hn] at hn10 ⊢
  clear hn
  go_enter Tryz.func79, Tryz.ntmps79
  go_wp2_with fail
  refine C.out.mono ?_
  rintro e w1 ⟨rfl, hb1⟩
  have HB1 := Lib.hid hb1
  clear hb1
  go_wp2_with fail
  have HT : Hid (TakeAt lo w (w1.alloc (.cells #[.int .i64 x.k, .string (bs x.s), .int .i64 x.n] 82)) g kb w1.heap.size x r ks) := Lib.hid (by
    have b2 := HB1.out.trans ((HBX.out w1).mono HB1.out.size)
    have r1 := (b2.block _ (lt_of_heap HN.out)).trans HN.out
    obtain ⟨T, hT⟩ := HKS.out
    refine ⟨(H.out.below HB.out).below b2, r1, HNX.out w1, ⟨T, ?_⟩, ((Turn.refl [g] w).below HB.out).below b2, H.out.wlo⟩
    have hl := lt_of_heap hT
    exact (b2.block _ (by simp; omega)).trans ((HB.out.block _ hl).trans hT))
  clear HB1 C HN HB H HBX HNX HKS
  generalize (w1.alloc (.cells #[.int .i64 x.k, .string (bs x.s), .int .i64 x.n] 82)) = W at *
  generalize w1.heap.size = xb at *
  go_loopw [12] (fun i wr => ∃ k : Nat, i = .int .i64 k ∧ k ≤ n ∧ wr = W ∧ Hid (∀ j : Nat, j < k → ks[j]? ≠ some x.k)) (fun i _ => n - (intOf i).toNat)
  case atStart => exact ⟨0, rfl, Nat.zero_le _, rfl, Lib.hid (fun j hj => by omega)⟩
  case round =>
    obtain ⟨k, rfl, hk, rfl, HNO⟩ := hrel
    obtain ⟨c0, c1, c2⟩ := three_at HT.out.box
    obtain ⟨y0, y1, y2⟩ := three_at HT.out.res
    have f0 := free_at HT.out.res 0
    have f1 := free_at HT.out.res 1
    have f2 := free_at HT.out.res 2
    rcases Nat.lt_or_ge k n with hlt | hge
    · obtain ⟨q, hq⟩ : ∃ q, ks[k]? = some q := ⟨_, List.getElem?_eq_getElem (by rw [HNN.out]; exact hlt)⟩
      have s1 : wr.cell? ⟨kb, k, none⟩ = some (.int .i64 q) := by
        obtain ⟨T, hT⟩ := HT.out.kin
        rw [cell_at hT]
        simp [hq]
      rcases Bool.eq_false_or_eq_true (x.k == q) with he | he
      · have hE : x.k = q := by simpa using he
        have HTK := Lib.hid (take_yes (r := r) (ks := ks) (k := k) (by rw [hq, HX.out, hE]))
        have HKK : Hid (x.k ≠ 0) := Lib.hid (fun e => H0.out (by rw [hE] at e; rw [← e]; exact List.mem_of_getElem? hq))
        obtain ⟨A, c, hg, hp⟩ := HT.out.rd.pop (peek_k (by rw [HX.out]; exact HKK.out)).2
        have HP := Lib.hid hp
        have g0 := cell_at hg 0
        simp only [List.getElem?_toArray, List.getElem?_cons_zero] at g0
        have fg := free_at hg 0
        have CU := fun w' => cut1 w' A r.l.length c (peek_k (by rw [HX.out]; exact HKK.out)).2
        generalize r.l.length - 1 = n1 at *
        generalize r.l.length = nn at *
        clear hp hg hq hE
        generalize (if c = 1 then A else A.map (·.add 3)) = A2 at *
        have HGN : Hid (g ≠ w.heap.size) := Lib.hid (by have := HG.out; omega)
        have HGB : Hid (g ≠ xb) := Lib.hid (fun e => by
          have h1 := HT.out.box
          rw [← e] at h1
          obtain ⟨A, c, h2, -⟩ := HT.out.rd.at_
          rw [h1] at h2
          injection h2 with h2
          injection h2 with h3 h4
          cases h4)
        have hg1 := HGN.out
        have hg2 := HGB.out
        go_wp2_with fail
        have hres : (wr.setCell ⟨g, 0, none⟩ (.slice A2 n1 (c - 1))).heap[w.heap.size]? = some (.cells #[.int .i64 0, .string ⟨#[]⟩, .int .i64 0] 82 (0, 0)) := (Below.heap_setCell wr _ _ _ (fun e => hg1 e.symm)).trans HT.out.res
        refine bodyPost_ret (results_word rfl _ _ w.heap.size _ _ _ rfl (set3 hres)) rfl ?_
        rw [HTK.out.1, HTK.out.2, HX.out]
        exact ⟨rfl, HP.out.but (turn3 _ _ _ _ _) HT.out.lo, ((HT.out.turn.setCell (.inl (by simp)) _)).then_ (turn3 _ _ _ _ _) (fun k hk => by simp at hk; subst hk; exact .inr (Nat.le_refl _))⟩
      · have HNO2 : Hid (∀ j : Nat, j < k + 1 → ks[j]? ≠ some x.k) := Lib.hid (fun j hj e => by
          rcases Nat.lt_or_ge j k with h1 | h1
          · exact HNO.out j h1 e
          · obtain rfl : j = k := by omega
            rw [hq] at e
            injection e with e
            rw [e] at he
            simp at he)
        clear hq
        go_wp2_with fail
        go_roundw
        case rel => refine ⟨k + 1, ?_, ?_, ?_, HNO2⟩ <;> first | trivial | rfl | omega
        case measure => simp [intOf]; omega
    · obtain rfl : k = n := by omega
      have HTK := Lib.hid (take_not (r := r) (ks := ks) (by rw [HNN.out, HX.out]; exact HNO.out))
      have CF := Lib.hid (fail_any wr g r HT.out.rd)
      clear c0 c1 c2 y0 y1 y2 f0 f1 f2
      go_wp2_with fail
      refine CF.out.mono ?_
      rintro e w3 ⟨rfl, h1, h2⟩
      have HR3 := Lib.hid h1
      have H2 := Lib.hid h2
      have hres : w3.heap[w.heap.size]? = some (.cells #[.int .i64 0, .string ⟨#[]⟩, .int .i64 0] 82 (0, 0)) := (h2.block _ (lt_of_heap HT.out.res) (by have := HG.out; simp; omega)).trans HT.out.res
      have HRES := Lib.hid hres
      obtain ⟨y0, y1, y2⟩ := three_at hres
      have f0 := free_at hres 0
      have f1 := free_at hres 1
      have f2 := free_at hres 2
      clear h1 h2 hres CF
      go_wp2_with fail
      refine bodyPost_ret (results_word rfl _ _ w.heap.size _ _ _ rfl (set3 HRES.out)) rfl ?_
      rw [HTK.out.1, HTK.out.2]
      exact ⟨rfl, HR3.out.but (turn3 _ _ _ _ _) HT.out.lo, (HT.out.turn.trans H2.out).then_ (turn3 _ _ _ _ _) (fun k hk => by simp at hk; subst hk; exact .inr (Nat.le_refl _))⟩
theorem field_s (a b c : Value) (w : World) : (Instr.field 82 (.agg #[a, b, c]) 1).run Tryz.prog w = .ok b w := by kernel_rfl
theorem field_n (a b c : Value) (w : World) : (Instr.field 82 (.agg #[a, b, c]) 2).run Tryz.prog w = .ok c w := by kernel_rfl
theorem field_k (a b c : Value) (w : World) : (Instr.field 82 (.agg #[a, b, c]) 0).run Tryz.prog w = .ok a w := by kernel_rfl
set_option maxHeartbeats 4000000 in
theorem name_any (w : World) (g : Nat) (r : PS) (h : RdG lo w g r) : Calls Tryz.prog 115 #[.pointer (some ⟨g, 0, none⟩)] w (Lg lo w g (.string (bs (takeW r [1]).s)) (takeR r [1])) := by
  have hb := ball_new w #[.int .i64 1] 3
  have HG := h.lt
  have C := Lib.hid (take_any _ g w.heap.size r [1] (h.below hb) (by decide) (by decide) (by omega) ⟨_, new_at w _ _⟩)
  have HB := Lib.hid hb
  rw [wdV_eq] at C
  clear h hb
  generalize takeW r [1] = x at *
  have HF := fun w' => field_s (.int .i64 x.k) (.string (bs x.s)) (.int .i64 x.n) w'
  go_enter Tryz.func115, Tryz.ntmps115
  go_wp2_with fail
  refine C.out.mono ?_
  rintro e w1 ⟨rfl, h1, h2⟩
  have H1 := Lib.hid h1
  have H2 := Lib.hid h2
  clear h1 h2
  go_wp2_with fail
  go_ret
  exact ⟨rfl, H1.out, ((Turn.refl [g] w).below HB.out).then_ H2.out (fun k hk => .inl hk)⟩
def typN (r : PS) : Int := if isW r [105, 110, 116] then 1 else 2
def typR (r : PS) : PS := if isW r [105, 110, 116] then tl r else mustP r [98, 111, 111, 108]
set_option maxHeartbeats 4000000 in
theorem typed_any (w : World) (g : Nat) (r : PS) (h : RdG lo w g r) : Calls Tryz.prog 118 #[.pointer (some ⟨g, 0, none⟩)] w (Lg lo w g (.int .u8 (typN r)) (typR r)) := by
  unfold typN typR
  rcases Bool.eq_false_or_eq_true (isW r [105, 110, 116]) with hi | hi
  · have C := Lib.hid (has_yes w g r [105, 110, 116] h hi)
    rw [if_pos hi, if_pos hi]
    clear h hi
    go_enter Tryz.func118, Tryz.ntmps118
    go_wp2_with fail
    refine C.out.mono ?_
    rintro e w1 ⟨rfl, h1, h2⟩
    have H1 := Lib.hid h1
    have H2 := Lib.hid h2
    clear h1 h2
    go_wp2_with fail
    go_ret
    exact ⟨rfl, H1.out, H2.out⟩
  · have C := Lib.hid (has_no w g r [105, 110, 116] h hi)
    rw [if_neg (by simp [hi]), if_neg (by simp [hi])]
    clear h hi
    go_enter Tryz.func118, Tryz.ntmps118
    go_wp2_with fail
    refine C.out.mono ?_
    rintro e w1 ⟨rfl, h1, h2⟩
    have CF := Lib.hid (must_any w1 g r [98, 111, 111, 108] h1)
    have H2 := Lib.hid h2
    clear h1 h2
    go_wp2_with fail
    refine CF.out.mono ?_
    rintro e w2 ⟨rfl, h1, h3⟩
    have H1 := Lib.hid h1
    have H3 := Lib.hid (H2.out.trans h3)
    clear h1 h3
    go_wp2_with fail
    go_ret
    exact ⟨rfl, H1.out, H3.out⟩
theorem below5 {w u : World} {n b : Nat} (h : Below n w u) (hb : n ≤ b) (v0 v1 v2 v3 v4 : Value) : Below n w (((((u.setCell ⟨b, 0, none⟩ v0).setCell ⟨b, 1, none⟩ v1).setCell ⟨b, 2, none⟩ v2).setCell ⟨b, 3, none⟩ v3).setCell ⟨b, 4, none⟩ v4) :=
  ((((h.setCell hb _).setCell hb _).setCell hb _).setCell hb _).setCell hb _
set_option maxHeartbeats 4000000 in
theorem truth_any (w : World) (n : Int) : Calls Tryz.prog 157 #[.int .i64 n] w (EndsB (.agg #[.int .i64 2, .int .i64 n, .string ⟨#[]⟩, .string ⟨#[]⟩, .slice none 0 0]) w) := by
  have HB := Lib.hid (ball_new w #[.int .i64 2, .int .i64 n, .string ⟨#[]⟩, .string ⟨#[]⟩, .slice none 0 0] 42)
  go_enter Tryz.func157, Tryz.ntmps157
  go_wp2_with fail
  refine bodyPost_ret (results_expr rfl _ _ w.heap.size _ _ _ _ _ rfl (new_at _ _ _)) rfl ?_
  exact ⟨rfl, HB.out⟩
end Go.Proofs.YtmihlmlojmdhjaaGreatDoor.Prg
