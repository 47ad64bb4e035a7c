/-
  rightHead, Right: is a file one that a text may stand for. Condition: the file lies in memory.
-/
import Derived.Test.YtlhbhpdpjidpgaaGreatDoorX03
import Derived.Test.YtlhbhpdpjidpgaaGreatDoorX05
import Derived.Test.YtlhbhpdpjidpgaaGreatDoorX06
import Derived.Test.YtlhbhpdpjidpgaaGreatDoorX12
namespace Go.Proofs.YtlhbhpdpjidpgaaGreatDoor.Tre
open Go.RowKit
set_option maxRecDepth 100000
set_option linter.unusedSimpArgs false
end Go.Proofs.YtlhbhpdpjidpgaaGreatDoor.Tre
/- The document's reader in memory; peek, is, skip, must, word: what they answer, and what they leave. Condition: the reader is known. -/
namespace Go.Proofs.YtlhbhpdpjidpgaaGreatDoor.Prs
open Go.RowKit Tre
open Lex (Wd wdC wdV bs str Turn)
set_option maxRecDepth 100000
set_option linter.unusedSimpArgs false
variable {lo : Nat}
/-- The reader in block g. -/
structure RdM (lo : Nat) (w : World) (g : Nat) (r : PS) : Prop where
  at_ : ∃ a c, w.heap[g]? = some (.cells #[.slice a r.l.length c, .bool r.bad, .bool r.big] 63 (0, 0)) ∧ r.l.length ≤ c ∧ Row 3 wdC w a r.l ∧ (∀ b o, a = some ⟨b, o, none⟩ → b ≠ g ∧ b < lo)
  len : r.l.length ≤ 100000
  glo : g < lo
  wlo : lo ≤ w.heap.size
  txt : ∀ x ∈ r.l, x.s.length ≤ 1000000
theorem RdM.lt {w : World} {g : Nat} {r : PS} (h : RdM lo w g r) : g < w.heap.size := by
  obtain ⟨a, c, h1, _⟩ := h.at_
  exact lt_of_heap h1
theorem Row.kept {α : Type} {k : Nat} {C : α → List Value} {w w' : World} {A : Option Addr} {l : List α} (h : Row k C w A l) (hs : w.heap.size ≤ w'.heap.size) (hk : ∀ b o, A = some ⟨b, o, none⟩ → b < w.heap.size → w'.heap[b]? = w.heap[b]?) : Row k C w' A l := fun h0 => by
  obtain ⟨b, o, e, hlt, hc⟩ := h h0
  exact ⟨b, o, e, by omega, fun j x hx r u hu => (World.cell?_of_block (w := w) (hk b o e hlt)).trans (hc j x hx r u hu)⟩
theorem RdM.below {w w' : World} {g : Nat} {r : PS} (h : RdM lo w g r) (hb : Below w.heap.size w w') : RdM lo w' g r := by
  obtain ⟨a, c, h1, h2, h3, h4⟩ := h.at_
  exact ⟨⟨a, c, (hb.block g (lt_of_heap h1)).trans h1, h2, h3.below hb, h4⟩, h.len, h.glo, Nat.le_trans h.wlo hb.size, h.txt⟩
/-- What a call on the reader leaves. -/
def Lv (lo : Nat) (w : World) (g : Nat) (v : Value) (r : PS) (e : Ending) (w' : World) : Prop := e = .returned v ∧ RdM lo w' g r ∧ Turn [g] w w'
theorem wdV_eq (x : Wd) : wdV x = .agg #[.int .i64 x.k, .string (bs x.s), .int .i64 x.n] := rfl
theorem wdC_at {e : Wd} {w : World} {b o : Nat} (h : ∀ (r : Nat) (u : Value), (wdC e)[r]? = some u → w.cell? ⟨b, o + r, none⟩ = some u) :
    w.cell? ⟨b, o, none⟩ = some (.int .i64 e.k) ∧ w.cell? ⟨b, o + 1, none⟩ = some (.string (bs e.s)) ∧ w.cell? ⟨b, o + 2, none⟩ = some (.int .i64 e.n) := ⟨h 0 _ rfl, h 1 _ rfl, h 2 _ rfl⟩
theorem results_word {fn : Func} {p : Tmp} (h : fn.results = #[.cell p 73]) (tmps : Array Value) (w : World) (g : Nat) (v0 v1 v2 : Value) (hv : tmps.getD p undef = .pointer (some ⟨g, 0, none⟩)) (hc : w.heap[g]? = some (.cells #[v0, v1, v2] 73 (0, 0))) :
    (results fn tmps).run Tryz.prog w = .ok (.agg #[v0, v1, v2]) w := by
  have a4 := Tryz.isAgg73
  have z4 := Tryz.sizeOf73
  have c0 := cell_at hc 0
  have c1 := cell_at hc 1
  have c2 := cell_at hc 2
  simp only [List.getElem?_toArray, List.getElem?_cons_succ, List.getElem?_cons_zero] at c0 c1 c2
  simp only [Array.getD_eq_getD_getElem?] at hv
  unfold results
  rw [h]
  go_simp
set_option maxHeartbeats 4000000 in
theorem peek_any (w : World) (g : Nat) (r : PS) (h : RdM lo w g r) : Calls Tryz.prog 50 #[.pointer (some ⟨g, 0, none⟩)] w (EndsB (wdV (peek r)) w) := by
  obtain ⟨a, c, h1, h2, h3, h4⟩ := h.at_
  have hl := h.len
  have hb := ball_new w #[.int .i64 0, .string ⟨#[]⟩, .int .i64 0] 73
  have HB := Lib.hid hb
  have h1' := (hb.block g (lt_of_heap h1)).trans h1
  have g0 := cell_at h1' 0
  have g1 := cell_at h1' 1
  simp only [List.getElem?_toArray, List.getElem?_cons_succ, List.getElem?_cons_zero] at g0 g1
  have HNEW := Lib.hid (fun (v0 v1 v2 : Value) => new_at w #[v0, v1, v2] 73)
  have HBN := Lib.hid (fun (v0 v1 v2 : Value) => ball_new w #[v0, v1, v2] 73)
  obtain ⟨l, bad, big⟩ := r
  dsimp only at g0 g1 h3 hl h2
  unfold peek
  cases l with
  | nil =>
    simp only [List.length_nil] at g0
    have e1 : (if ((⟨[], bad, big⟩ : PS).l.length == 0 || (⟨[], bad, big⟩ : PS).bad) = true then zeroW else (⟨[], bad, big⟩ : PS).l.headD zeroW) = zeroW := rfl
    rw [e1, wdV_eq]
    clear h h1 h1' h3 h4 hb h2 hl
    go_enter Tryz.func50, Tryz.ntmps50
    go_wp2
    refine bodyPost_ret (results_word rfl _ _ w.heap.size _ _ _ rfl (HNEW.out _ _ _)) rfl ?_
    exact ⟨rfl, HBN.out _ _ _⟩
  | cons x t =>
    cases bad with
    | true =>
      have e1 : (if ((⟨x :: t, true, big⟩ : PS).l.length == 0 || (⟨x :: t, true, big⟩ : PS).bad) = true then zeroW else (⟨x :: t, true, big⟩ : PS).l.headD zeroW) = zeroW := by simp
      rw [e1, wdV_eq]
      simp only [List.length_cons] at g0 hl
      generalize t.length = n at *
      clear h h1 h1' h3 h4 hb h2
      go_enter Tryz.func50, Tryz.ntmps50
      go_wp2
      refine bodyPost_ret (results_word rfl _ _ w.heap.size _ _ _ rfl (HNEW.out _ _ _)) rfl ?_
      exact ⟨rfl, HBN.out _ _ _⟩
    | false =>
      have e1 : (if ((⟨x :: t, false, big⟩ : PS).l.length == 0 || (⟨x :: t, false, big⟩ : PS).bad) = true then zeroW else (⟨x :: t, false, big⟩ : PS).l.headD zeroW) = x := by simp
      rw [e1, wdV_eq]
      obtain ⟨b1, o1, rfl, hc1⟩ := h3.at_ hb (j := 0) (x := x) rfl
      obtain ⟨p0, p1, p2⟩ := wdC_at hc1
      simp only [Nat.zero_mul, Nat.add_zero] at p0 p1 p2
      simp only [List.length_cons] at g0 hl
      generalize t.length = n at *
      generalize bs x.s = S at *
      clear h h1 h1' h3 h4 hb h2 hc1
      go_enter Tryz.func50, Tryz.ntmps50
      go_wp2
      refine bodyPost_ret (results_word rfl _ _ w.heap.size _ _ _ rfl (HNEW.out _ _ _)) rfl ?_
      exact ⟨rfl, HBN.out _ _ _⟩
end Go.Proofs.YtlhbhpdpjidpgaaGreatDoor.Prs
/- The document's is, skip, must, word, level: what they answer, and what they leave. Condition: the reader is known. -/
namespace Go.Proofs.YtlhbhpdpjidpgaaGreatDoor.Prs
open Go.RowKit Tre
open Lex (Wd wdC wdV bs str Turn)
set_option maxRecDepth 100000
set_option linter.unusedSimpArgs false
variable {lo : Nat}
theorem word_box (w : World) (x : Wd) : Below w.heap.size w (w.alloc (.cells #[.int .i64 x.k, .string (bs x.s), .int .i64 x.n] 73)) := ball_new w _ _
set_option maxHeartbeats 4000000 in
theorem is_any (w : World) (g : Nat) (r : PS) (s : List UInt8) (h : RdM lo w g r) : Calls Tryz.prog 51 #[.pointer (some ⟨g, 0, none⟩), .string (bs s)] w (EndsB (.bool (isW r s)) w) := by
  have C := Lib.hid (peek_any w g r h)
  clear h
  obtain ⟨x, hx⟩ : ∃ x, peek r = x := ⟨_, rfl⟩
  have HI : Hid (isW r s = ((x.k == 5 || x.k == 4) && (bs x.s).toList == (bs s).toList)) := Lib.hid (by unfold isW; rw [hx, Lex.bs_toList, Lex.bs_toList])
  rw [hx, wdV_eq] at C
  clear hx
  have HBX := Lib.hid (fun w' => word_box w' x)
  obtain ⟨k, xs, n⟩ := x
  dsimp only at C HI HBX
  generalize bs xs = X at *
  generalize bs s = T at *
  rcases Bool.eq_false_or_eq_true (k == 5) with h5 | h5
  · rcases Bool.eq_false_or_eq_true (X.toList == T.toList) with h6 | h6
    all_goals go_enter Tryz.func51, Tryz.ntmps51
    all_goals go_wp2_with fail
    all_goals refine C.out.mono ?_
    all_goals rintro e w1 ⟨rfl, hb1⟩
    all_goals have HB1 := Lib.hid (hb1.trans ((HBX.out w1).mono hb1.size))
    all_goals clear hb1
    all_goals go_wp2_with fail
    all_goals go_ret
    all_goals exact ends_bool (by rw [HI.out]; simp [*]) HB1.out
  · rcases Bool.eq_false_or_eq_true (k == 4) with h4 | h4
    · rcases Bool.eq_false_or_eq_true (X.toList == T.toList) with h6 | h6
      all_goals go_enter Tryz.func51, Tryz.ntmps51
      all_goals go_wp2_with fail
      all_goals refine C.out.mono ?_
      all_goals rintro e w1 ⟨rfl, hb1⟩
      all_goals have HB1 := Lib.hid (hb1.trans ((HBX.out w1).mono hb1.size))
      all_goals clear hb1
      all_goals go_wp2_with fail
      all_goals go_ret
      all_goals exact ends_bool (by rw [HI.out]; simp [*]) HB1.out
    · go_enter Tryz.func51, Tryz.ntmps51
      go_wp2_with fail
      refine C.out.mono ?_
      rintro e w1 ⟨rfl, hb1⟩
      have HB1 := Lib.hid (hb1.trans ((HBX.out w1).mono hb1.size))
      clear hb1
      go_wp2_with fail
      go_ret
      exact ends_bool (by rw [HI.out]; simp [*]) HB1.out
/-- The reader's own cells turn; the words lie as they lay. -/
theorem RdM.set {w : World} {g : Nat} {r : PS} {a : Option Addr} {c : Nat} (hg : w.heap[g]? = some (.cells #[.slice a r.l.length c, .bool r.bad, .bool r.big] 63 (0, 0))) (hl : RdM lo w g r)
    (r' : PS) (a' : Option Addr) (c' i : Nat) (v : Value) (h1 : (#[.slice a r.l.length c, .bool r.bad, .bool r.big] : Array Value).setIfInBounds i v = #[.slice a' r'.l.length c', .bool r'.bad, .bool r'.big]) (h2 : r'.l.length ≤ c') (h3 : Row 3 wdC w a' r'.l) (h4 : ∀ b o, a' = some ⟨b, o, none⟩ → b ≠ g ∧ b < lo) (h5 : r'.l.length ≤ r.l.length) (h6 : ∀ x ∈ r'.l, x ∈ r.l) :
    RdM lo (w.setCell ⟨g, i, none⟩ v) g r' := by
  refine ⟨⟨a', c', ?_, h2, Row.kept h3 ?_ (fun b o e _ => Below.heap_setCell w _ v b (h4 b o e).1), h4⟩, by have := hl.len; omega, hl.glo, Nat.le_trans hl.wlo (KeepsWalks.setCell w ⟨g, i, none⟩ v).size, fun x hx => hl.txt x (h6 x hx)⟩
  · rw [← h1]
    exact set_at hg i v
  · exact (KeepsWalks.setCell w ⟨g, i, none⟩ v).size
theorem tail_row {w : World} {b o : Nat} {l : List Wd} (h : Row 3 wdC w (some ⟨b, o, none⟩) l) (h0 : 1 < l.length) : Row 3 wdC w (some ⟨b, o + 3, none⟩) l.tail := fun _ => by
  obtain ⟨b', o', e, hlt, hc⟩ := h (by omega)
  injection e with e
  injection e with e1 e2
  subst e1; subst e2
  refine ⟨b, o + 3, rfl, hlt, fun j x hx r u hu => ?_⟩
  have := hc (j + 1) x (by rw [← hx]; cases l <;> simp) r u hu
  rwa [show o + (j + 1) * 3 + r = o + 3 + j * 3 + r by omega] at this
theorem size3 : ∀ w, (sizeOf 73).run Tryz.prog w = .ok 3 w := fun w => Tryz.sizeOf73 (w := w)
theorem cut1 (w : World) (A : Option Addr) (n c : Nat) (h1 : 1 ≤ n) :
    (Instr.slice 33 (.slice A n c) (some (.int .i64 1)) none none).run Tryz.prog w = .ok (.slice (if c = 1 then A else A.map (·.add 3)) (n - 1) (c - 1)) w := by
  rw [run_slice_l (P := Tryz.prog) w 33 A n c Tryz.underlying33 .i64 1 (by omega) (by omega)]
  have e : Tryz.prog.elem 33 = 73 := by kernel_rfl
  rw [e, size3]
  simp [Result.andThen, sliced]
/-- One word goes. -/
theorem RdM.pop {w : World} {g : Nat} {r : PS} (h : RdM lo w g r) (h0 : 0 < r.l.length) : ∃ A c, w.heap[g]? = some (.cells #[.slice A r.l.length c, .bool r.bad, .bool r.big] 63 (0, 0)) ∧
    RdM lo (w.setCell ⟨g, 0, none⟩ (.slice (if c = 1 then A else A.map (·.add 3)) (r.l.length - 1) (c - 1))) g (tl r) := by
  obtain ⟨A, c, h1, h2, h3, h4⟩ := h.at_
  obtain ⟨b, o, rfl, hlt, hc⟩ := h3 h0
  refine ⟨some ⟨b, o, none⟩, c, h1, ?_⟩
  refine RdM.set h1 h (tl r) (if c = 1 then some ⟨b, o, none⟩ else (some (⟨b, o, none⟩ : Addr)).map (·.add 3)) (c - 1) 0 _ (by simp [tl]) (by rw [tl_len]; omega) ?_ ?_ (by rw [tl_len]; omega) (fun x hx => List.mem_of_mem_tail hx)
  · by_cases h5 : r.l.length = 1
    · have e : (tl r).l = [] := by
        have := tl_len r
        exact List.eq_nil_of_length_eq_zero (by omega)
      rw [e]
      exact Row.nil _ _ _ _
    · rw [if_neg (by omega)]
      have := tail_row (w := w) (b := b) (o := o) (l := r.l) h3 (by omega)
      rw [Option.map_some, Lex.plain_add]
      exact this
  · intro b' o' e
    split at e
    · injection e with e
      injection e with e1 _
      exact e1 ▸ h4 b o rfl
    · rw [Option.map_some, Lex.plain_add] at e
      injection e with e
      injection e with e1 _
      exact e1 ▸ h4 b o rfl
set_option maxHeartbeats 4000000 in
theorem skip_any (w : World) (g : Nat) (r : PS) (s : List UInt8) (h : RdM lo w g r) : Calls Tryz.prog 24 #[.pointer (some ⟨g, 0, none⟩), .string (bs s)] w (Lv lo w g (.bool (isW r s)) (skipW r s)) := by
  have C := Lib.hid (is_any w g r s h)
  have H := Lib.hid h
  unfold skipW
  obtain ⟨t, ht⟩ : ∃ t, isW r s = t := ⟨_, rfl⟩
  have HT := Lib.hid ht
  rw [ht] at C ⊢
  clear ht h
  rcases Bool.eq_false_or_eq_true t with h9 | h9 <;> subst h9
  · have e1 : (if true = true then tl r else r) = tl r := rfl
    rw [e1]
    go_enter Tryz.func24, Tryz.ntmps24
    go_wp2_with fail
    refine C.out.mono ?_
    rintro e w1 ⟨rfl, hb1⟩
    have hr1 := H.out.below hb1
    obtain ⟨A, c, hg, hp⟩ := hr1.pop (isW_pos HT.out).1
    have HP := Lib.hid hp
    have HB1 := Lib.hid hb1
    have HG : Hid (g < w1.heap.size) := Lib.hid hr1.lt
    have g0 := cell_at hg 0
    simp only [List.getElem?_toArray, List.getElem?_cons_zero] at g0
    have f0 := free_at hg 0
    have CU := fun w' => cut1 w' A r.l.length c (isW_pos HT.out).1
    generalize r.l.length - 1 = n1 at *
    generalize r.l.length = n at *
    clear hb1 hr1 hp hg
    generalize (if c = 1 then A else A.map (·.add 3)) = A2 at *
    go_wp2_with fail
    go_ret
    exact ⟨rfl, HP.out, ((Turn.refl [g] w).below HB1.out).setCell (.inl (by simp)) _⟩
  · have e1 : (if false = true then tl r else r) = r := rfl
    rw [e1]
    go_enter Tryz.func24, Tryz.ntmps24
    go_wp2_with fail
    refine C.out.mono ?_
    rintro e w1 ⟨rfl, hb1⟩
    have HB1 := Lib.hid hb1
    clear hb1
    go_wp2_with fail
    go_ret
    exact ⟨rfl, H.out.below HB1.out, (Turn.refl [g] w).below HB1.out⟩
end Go.Proofs.YtlhbhpdpjidpgaaGreatDoor.Prs
/- The document's must, word: what they answer, and what they leave. Condition: the reader is known. -/
namespace Go.Proofs.YtlhbhpdpjidpgaaGreatDoor.Prs
open Go.RowKit Tre
open Lex (Wd wdC wdV bs str Turn)
set_option maxRecDepth 100000
set_option linter.unusedSimpArgs false
variable {lo : Nat}
/-- The reader is bad from now on. -/
theorem RdM.spoil {w : World} {g : Nat} {r : PS} (h : RdM lo w g r) : ∃ A c, w.heap[g]? = some (.cells #[.slice A r.l.length c, .bool r.bad, .bool r.big] 63 (0, 0)) ∧ RdM lo (w.setCell ⟨g, 1, none⟩ (.bool true)) g (badR r) := by
  obtain ⟨A, c, h1, h2, h3, h4⟩ := h.at_
  exact ⟨A, c, h1, RdM.set h1 h (badR r) A c 1 _ (by simp [badR]) h2 h3 h4 (Nat.le_refl _) (fun x hx => hx)⟩
set_option maxHeartbeats 4000000 in
theorem must_any (w : World) (g : Nat) (r : PS) (s : List UInt8) (h : RdM lo w g r) : Calls Tryz.prog 22 #[.pointer (some ⟨g, 0, none⟩), .string (bs s)] w (Lv lo w g (.tuple #[]) (mustW r s)) := by
  have C := Lib.hid (skip_any w g r s h)
  unfold mustW
  unfold skipW at C
  obtain ⟨t, ht⟩ : ∃ t, isW r s = t := ⟨_, rfl⟩
  rw [ht] at C ⊢
  clear ht h
  rcases Bool.eq_false_or_eq_true t with h9 | h9 <;> subst h9
  · have e1 : (if true = true then tl r else badR r) = tl r := rfl
    have e2 : (if true = true then tl r else r) = tl r := rfl
    rw [e1]
    rw [e2] at C
    go_enter Tryz.func22, Tryz.ntmps22
    go_wp2_with fail
    refine C.out.mono ?_
    rintro e w1 ⟨rfl, h1, h2⟩
    have H1 := Lib.hid h1
    have H2 := Lib.hid h2
    clear h1 h2
    go_wp2_with fail
    go_end0
    exact ⟨rfl, H1.out, H2.out⟩
  · have e1 : (if false = true then tl r else badR r) = badR r := rfl
    have e2 : (if false = true then tl r else r) = r := rfl
    rw [e1]
    rw [e2] at C
    go_enter Tryz.func22, Tryz.ntmps22
    go_wp2_with fail
    refine C.out.mono ?_
    rintro e w1 ⟨rfl, h1, h2⟩
    obtain ⟨A, c, hg, hp⟩ := h1.spoil
    have HP := Lib.hid hp
    have H2 := Lib.hid h2
    have HG : Hid (g < w1.heap.size) := Lib.hid h1.lt
    have g0 := cell_at hg 1
    simp only [List.getElem?_toArray, List.getElem?_cons_succ, List.getElem?_cons_zero] at g0
    have f0 := free_at hg 1
    clear h1 h2 hp hg
    go_wp2_with fail
    go_end0
    exact ⟨rfl, HP.out, H2.out.setCell (.inl (by simp)) _⟩
theorem wordNo_pos {r : PS} {k : Int} {key : Bool} (hk : k ≠ 0) (h : wordNo r k key = false) : 0 < r.l.length := by
  unfold wordNo peek at h
  by_cases hc : (r.l.length == 0 || r.bad) = true
  · rw [if_pos hc] at h
    simp [zeroW] at h
    exact absurd h (fun e => hk e.symm)
  · have h1 : ¬ r.l.length = 0 ∧ r.bad = false := by simpa using hc
    omega
set_option maxHeartbeats 4000000 in
theorem word_any (w : World) (g : Nat) (r : PS) (k : Int) (key : Bool) (hk : k ≠ 0) (h : RdM lo w g r) : Calls Tryz.prog 23 #[.pointer (some ⟨g, 0, none⟩), .int .i64 k, .bool key] w (Lv lo w g (.string (bs (wordS r k key))) (wordR r k key)) := by
  have C := Lib.hid (peek_any w g r h)
  have H := Lib.hid h
  clear h
  obtain ⟨x, hx⟩ : ∃ x, peek r = x := ⟨_, rfl⟩
  have HX := Lib.hid hx
  have HNO : Hid (wordNo r k key = (x.k != k && !(key && x.k == 4))) := Lib.hid (by unfold wordNo; rw [hx])
  have HK := Lib.hid hk
  unfold wordS wordR
  rw [hx] at C ⊢
  rw [wdV_eq] at C
  clear hx hk
  have HBX := Lib.hid (fun w' => word_box w' x)
  have HPOS : Hid (wordNo r k key = false → 0 < r.l.length) := Lib.hid (wordNo_pos HK.out)
  obtain ⟨t, ht⟩ : ∃ t, wordNo r k key = t := ⟨_, rfl⟩
  rw [ht] at HNO HPOS ⊢
  clear ht
  obtain ⟨xk, xs, xn⟩ := x
  dsimp only at C HNO HBX ⊢
  rcases Bool.eq_false_or_eq_true t with h9 | h9 <;> subst h9
  · have e1 : (if true = true then ([] : List UInt8) else xs) = [] := rfl
    have e2 : (if true = true then badR r else tl r) = badR r := rfl
    rw [e1, e2]
    have hn := HNO.out.symm
    have h1 : (xk != k) = true := by simp at hn; simpa using hn.1
    have h2 : (key && xk == 4) = false := by simp only [Bool.and_eq_true, Bool.not_eq_true'] at hn; exact hn.2
    generalize bs xs = X at *
    clear hn
    rcases Bool.eq_false_or_eq_true key with h3 | h3 <;> subst h3
    · have h4 : (xk == 4) = false := by simpa using h2
      clear h2
      go_enter Tryz.func23, Tryz.ntmps23
      go_wp2_with fail
      refine C.out.mono ?_
      rintro e w1 ⟨rfl, hb1⟩
      have HB1 := Lib.hid (hb1.trans ((HBX.out w1).mono hb1.size))
      obtain ⟨A, c, hg, hp⟩ := (H.out.below HB1.out).spoil
      have HP := Lib.hid hp
      have g0 := cell_at hg 1
      simp only [List.getElem?_toArray, List.getElem?_cons_succ, List.getElem?_cons_zero] at g0
      have f0 := free_at hg 1
      clear hb1 hp hg
      go_wp2_with fail
      go_ret
      exact ⟨rfl, HP.out, ((Turn.refl [g] w).below HB1.out).setCell (.inl (by simp)) _⟩
    · clear h2
      go_enter Tryz.func23, Tryz.ntmps23
      go_wp2_with fail
      refine C.out.mono ?_
      rintro e w1 ⟨rfl, hb1⟩
      have HB1 := Lib.hid (hb1.trans ((HBX.out w1).mono hb1.size))
      obtain ⟨A, c, hg, hp⟩ := (H.out.below HB1.out).spoil
      have HP := Lib.hid hp
      have g0 := cell_at hg 1
      simp only [List.getElem?_toArray, List.getElem?_cons_succ, List.getElem?_cons_zero] at g0
      have f0 := free_at hg 1
      clear hb1 hp hg
      go_wp2_with fail
      go_ret
      exact ⟨rfl, HP.out, ((Turn.refl [g] w).below HB1.out).setCell (.inl (by simp)) _⟩
  · have e1 : (if false = true then ([] : List UInt8) else xs) = xs := rfl
    have e2 : (if false = true then badR r else tl r) = tl r := rfl
    rw [e1, e2]
    have hn := HNO.out.symm
    have hpos := HPOS.out rfl
    rcases Bool.eq_false_or_eq_true (xk != k) with h1 | h1
    · have h2 : key = true ∧ (xk == 4) = true := by rw [h1] at hn; simpa using hn
      obtain ⟨rfl, h4⟩ := h2
      clear hn
      go_enter Tryz.func23, Tryz.ntmps23
      go_wp2_with fail
      refine C.out.mono ?_
      rintro e w1 ⟨rfl, hb1⟩
      have HB1 := Lib.hid (hb1.trans ((HBX.out w1).mono hb1.size))
      have hr1 := H.out.below HB1.out
      obtain ⟨A, c, hg, hp⟩ := hr1.pop hpos
      have HP := Lib.hid hp
      have g0 := cell_at hg 0
      simp only [List.getElem?_toArray, List.getElem?_cons_zero] at g0
      have f0 := free_at hg 0
      have CU := fun w' => cut1 w' A r.l.length c hpos
      generalize r.l.length - 1 = n1 at *
      generalize r.l.length = n at *
      clear hb1 hr1 hp hg hpos
      generalize (if c = 1 then A else A.map (·.add 3)) = A2 at *
      go_wp2_with fail
      go_ret
      exact ⟨rfl, HP.out, ((Turn.refl [g] w).below HB1.out).setCell (.inl (by simp)) _⟩
    · clear hn
      go_enter Tryz.func23, Tryz.ntmps23
      go_wp2_with fail
      refine C.out.mono ?_
      rintro e w1 ⟨rfl, hb1⟩
      have HB1 := Lib.hid (hb1.trans ((HBX.out w1).mono hb1.size))
      have hr1 := H.out.below HB1.out
      obtain ⟨A, c, hg, hp⟩ := hr1.pop hpos
      have HP := Lib.hid hp
      have g0 := cell_at hg 0
      simp only [List.getElem?_toArray, List.getElem?_cons_zero] at g0
      have f0 := free_at hg 0
      have CU := fun w' => cut1 w' A r.l.length c hpos
      generalize r.l.length - 1 = n1 at *
      generalize r.l.length = n at *
      clear hb1 hr1 hp hg hpos
      generalize (if c = 1 then A else A.map (·.add 3)) = A2 at *
      go_wp2_with fail
      go_ret
      exact ⟨rfl, HP.out, ((Turn.refl [g] w).below HB1.out).setCell (.inl (by simp)) _⟩
end Go.Proofs.YtlhbhpdpjidpgaaGreatDoor.Prs
/- The program's reader in memory; ended, next, is, at, fail: what they answer, and what they leave. Condition: the reader is known. -/
namespace Go.Proofs.YtlhbhpdpjidpgaaGreatDoor.Prg
open Go.RowKit Tre Prs
open Lex (Wd wdC wdV bs str Turn)
set_option maxRecDepth 100000
set_option linter.unusedSimpArgs false
variable {lo : Nat}
/-- A word of the kind of keys is a key, a sign is none. -/
def KS (x : Wd) : Prop := (x.k = 4 → Lex.keyB x.s = true) ∧ (x.k = 5 → Lex.keyB x.s = false)
/-- Is it such a key, or such a sign? -/
def isK (x : Wd) (s : List UInt8) : Bool := x.k == (if Lex.keyB s = true then 4 else 5) && x.s == s
theorem isK_ks {x : Wd} (h : KS x) (s : List UInt8) : isK x s = ((x.k == 5 || x.k == 4) && x.s == s) := by
  unfold isK
  by_cases hs : x.s = s
  · subst hs
    by_cases hk : Lex.keyB x.s = true
    · have h5 : (x.k == 5) = false := by
        cases h5 : x.k == 5 with
        | false => rfl
        | true => have := h.2 (by simpa using h5); rw [hk] at this; cases this
      rw [if_pos hk, h5]
      simp
    · have h4 : (x.k == 4) = false := by
        cases h4 : x.k == 4 with
        | false => rfl
        | true => exact absurd (h.1 (by simpa using h4)) hk
      rw [if_neg hk, h4]
      simp
  · have : (x.s == s) = false := by simpa using hs
    rw [this]
    simp
/-- The reader in block g. -/
structure RdG (lo : Nat) (w : World) (g : Nat) (r : PS) : Prop where
  at_ : ∃ a c, w.heap[g]? = some (.cells #[.slice a r.l.length c, .bool r.bad, .bool r.big] 88 (0, 0)) ∧ r.l.length ≤ c ∧ Row 3 wdC w a r.l ∧ (∀ b o, a = some ⟨b, o, none⟩ → b ≠ g ∧ b < lo)
  len : r.l.length ≤ 100000
  glo : g < lo
  wlo : lo ≤ w.heap.size
  txt : ∀ x ∈ r.l, x.s.length ≤ 1000000 ∧ KS x
  ok : r.bad = true → r.l = []
theorem RdG.lt {w : World} {g : Nat} {r : PS} (h : RdG lo w g r) : g < w.heap.size := by
  obtain ⟨a, c, h1, _⟩ := h.at_
  exact lt_of_heap h1
theorem RdG.below {w w' : World} {g : Nat} {r : PS} (h : RdG lo w g r) (hb : Below w.heap.size w w') : RdG lo w' g r := by
  obtain ⟨a, c, h1, h2, h3, h4⟩ := h.at_
  exact ⟨⟨a, c, (hb.block g (lt_of_heap h1)).trans h1, h2, h3.below hb, h4⟩, h.len, h.glo, Nat.le_trans h.wlo hb.size, h.txt, h.ok⟩
theorem RdG.but {w w' : World} {g b : Nat} {r : PS} (h : RdG lo w g r) (ht : Turn [b] w w') (hb : lo ≤ b) : RdG lo w' g r := by
  obtain ⟨a, c, h1, h2, h3, h4⟩ := h.at_
  have hg := h.glo
  exact ⟨⟨a, c, (ht.block g (lt_of_heap h1) (by simp; omega)).trans h1, h2, Row.kept h3 ht.size (fun b' o e hlt => ht.block b' hlt (by have := (h4 b' o e).2; simp; omega)), h4⟩, h.len, h.glo, Nat.le_trans h.wlo ht.size, h.txt, h.ok⟩
theorem RdG.buts {w w' : World} {g : Nat} {S : List Nat} {r : PS} (h : RdG lo w g r) (ht : Turn S w w') (hb : ∀ b ∈ S, lo ≤ b) : RdG lo w' g r := by
  obtain ⟨a, c, h1, h2, h3, h4⟩ := h.at_
  have hg := h.glo
  exact ⟨⟨a, c, (ht.block g (lt_of_heap h1) (fun hm => by have := hb _ hm; omega)).trans h1, h2, Row.kept h3 ht.size (fun b' o e hlt => ht.block b' hlt (fun hm => by have := (h4 b' o e).2; have := hb _ hm; omega)), h4⟩, h.len, h.glo, Nat.le_trans h.wlo ht.size, h.txt, h.ok⟩
/-- The reader's own cells turn; the words lie as they lay. -/
theorem RdG.set {w : World} {g : Nat} {r : PS} {a : Option Addr} {c : Nat} (hg : w.heap[g]? = some (.cells #[.slice a r.l.length c, .bool r.bad, .bool r.big] 88 (0, 0))) (hl : RdG lo w g r)
    (r' : PS) (a' : Option Addr) (c' i : Nat) (v : Value) (h1 : (#[.slice a r.l.length c, .bool r.bad, .bool r.big] : Array Value).setIfInBounds i v = #[.slice a' r'.l.length c', .bool r'.bad, .bool r'.big]) (h2 : r'.l.length ≤ c') (h3 : Row 3 wdC w a' r'.l) (h4 : ∀ b o, a' = some ⟨b, o, none⟩ → b ≠ g ∧ b < lo) (h5 : r'.l.length ≤ r.l.length) (h6 : ∀ x ∈ r'.l, x ∈ r.l) (h7 : r'.bad = true → r'.l = []) :
    RdG lo (w.setCell ⟨g, i, none⟩ v) g r' := by
  refine ⟨⟨a', c', ?_, h2, Row.kept h3 ?_ (fun b o e _ => Below.heap_setCell w _ v b (h4 b o e).1), h4⟩, by have := hl.len; omega, hl.glo, Nat.le_trans hl.wlo (KeepsWalks.setCell w ⟨g, i, none⟩ v).size, fun x hx => hl.txt x (h6 x hx), h7⟩
  · rw [← h1]
    exact set_at hg i v
  · exact (KeepsWalks.setCell w ⟨g, i, none⟩ v).size
/-- One word goes. -/
theorem RdG.pop {w : World} {g : Nat} {r : PS} (h : RdG lo w g r) (h0 : 0 < r.l.length) : ∃ A c, w.heap[g]? = some (.cells #[.slice A r.l.length c, .bool r.bad, .bool r.big] 88 (0, 0)) ∧
    RdG lo (w.setCell ⟨g, 0, none⟩ (.slice (if c = 1 then A else A.map (·.add 3)) (r.l.length - 1) (c - 1))) g (tl r) := by
  obtain ⟨A, c, h1, h2, h3, h4⟩ := h.at_
  obtain ⟨b, o, rfl, hlt, hc⟩ := h3 h0
  refine ⟨some ⟨b, o, none⟩, c, h1, ?_⟩
  refine RdG.set h1 h (tl r) (if c = 1 then some ⟨b, o, none⟩ else (some (⟨b, o, none⟩ : Addr)).map (·.add 3)) (c - 1) 0 _ (by simp [tl]) (by rw [tl_len]; omega) ?_ ?_ (by rw [tl_len]; omega) (fun x hx => List.mem_of_mem_tail hx) (fun hb => by have := h.ok hb; rw [this] at h0; simp at h0)
  · by_cases h5 : r.l.length = 1
    · have e : (tl r).l = [] := by
        have := tl_len r
        exact List.eq_nil_of_length_eq_zero (by omega)
      rw [e]
      exact Row.nil _ _ _ _
    · rw [if_neg (by omega)]
      have := tail_row (w := w) (b := b) (o := o) (l := r.l) h3 (by omega)
      rw [Option.map_some, Lex.plain_add]
      exact this
  · intro b' o' e
    split at e
    · injection e with e
      injection e with e1 _
      exact e1 ▸ h4 b o rfl
    · rw [Option.map_some, Lex.plain_add] at e
      injection e with e
      injection e with e1 _
      exact e1 ▸ h4 b o rfl
/-- What a call on the reader leaves. -/
def Lg (lo : Nat) (w : World) (g : Nat) (v : Value) (r : PS) (e : Ending) (w' : World) : Prop := e = .returned v ∧ RdG lo w' g r ∧ Turn [g] w w'
set_option maxHeartbeats 4000000 in
theorem ended_any (w : World) (g : Nat) (r : PS) (h : RdG lo w g r) : Calls Tryz.prog 44 #[.pointer (some ⟨g, 0, none⟩)] w (EndsW (.bool (r.l.length == 0)) w) := by
  obtain ⟨a, c, h1, h2, h3, h4⟩ := h.at_
  have g0 := cell_at h1 0
  simp only [List.getElem?_toArray, List.getElem?_cons_zero] at g0
  have hl := h.len
  have HE : Hid (decide ((r.l.length : Int) = 0) = (r.l.length == 0)) := Lib.hid (by rw [Bool.eq_iff_iff]; simp)
  generalize r.l.length = n at *
  clear h h1 h3 h4 h2
  go_enter Tryz.func44, Tryz.ntmps44
  go_wp2
  go_ret
  refine ⟨?_, rfl⟩
  rw [← HE.out]
  first
    | rfl
    | (congr 2; rw [Bool.eq_iff_iff]; simp)
theorem ended_no {w : World} {g : Nat} {r : PS} (h : RdG lo w g r) (h0 : 0 < r.l.length) : Calls Tryz.prog 44 #[.pointer (some ⟨g, 0, none⟩)] w (EndsW (.bool false) w) := by
  have := ended_any w g r h
  rwa [show (r.l.length == 0) = false by simp; intro e; rw [e] at h0; simp at h0] at this
theorem ended_yes {w : World} {g : Nat} {r : PS} (h : RdG lo w g r) (h0 : r.l = []) : Calls Tryz.prog 44 #[.pointer (some ⟨g, 0, none⟩)] w (EndsW (.bool true) w) := by
  have := ended_any w g r h
  rwa [h0] at this
set_option maxHeartbeats 4000000 in
theorem next_any (w : World) (g : Nat) (r : PS) (h : RdG lo w g r) : Calls Tryz.prog 79 #[.pointer (some ⟨g, 0, none⟩)] w (EndsB (wdV (peek r)) w) := by
  have hb := ball_new w #[.int .i64 0, .string ⟨#[]⟩, .int .i64 0] 73
  have H0 := Lib.hid (h.below hb)
  obtain ⟨a, c, h1, h2, h3, h4⟩ := H0.out.at_
  have hl := h.len
  have HB := Lib.hid hb
  have g0 := cell_at h1 0
  simp only [List.getElem?_toArray, List.getElem?_cons_succ, List.getElem?_cons_zero] at g0
  have HNEW := Lib.hid (fun (v0 v1 v2 : Value) => new_at w #[v0, v1, v2] 73)
  have HBN := Lib.hid (fun (v0 v1 v2 : Value) => ball_new w #[v0, v1, v2] 73)
  have HOK := Lib.hid h.ok
  obtain ⟨l, bad, big⟩ := r
  dsimp only at g0 h3 hl h2 HOK
  cases l with
  | nil =>
    have e1 : peek (⟨[], bad, big⟩ : PS) = zeroW := by simp [peek]
    have C := Lib.hid (ended_yes H0.out rfl)
    rw [e1, wdV_eq]
    clear h h1 h3 h4 hb h2 hl H0 g0
    go_enter Tryz.func79, Tryz.ntmps79
    go_wp2_with fail
    refine C.out.mono ?_
    rintro e w1 ⟨rfl, rfl⟩
    go_wp2_with fail
    refine bodyPost_ret (results_word rfl _ _ w.heap.size _ _ _ rfl (HNEW.out _ _ _)) rfl ?_
    exact ⟨rfl, HBN.out _ _ _⟩
  | cons x t =>
    have hbad : bad = false := by
      cases bad with
      | false => rfl
      | true => have := HOK.out rfl; cases this
    subst hbad
    have e1 : peek (⟨x :: t, false, big⟩ : PS) = x := by simp [peek]
    have C := Lib.hid (ended_no H0.out (by simp))
    rw [e1, wdV_eq]
    obtain ⟨b1, o1, rfl, hlt1, hc1⟩ := h3 (by simp)
    have hc1 := hc1 0 x rfl
    obtain ⟨p0, p1, p2⟩ := wdC_at hc1
    simp only [Nat.zero_mul, Nat.add_zero] at p0 p1 p2
    simp only [List.length_cons] at g0 hl
    generalize t.length = n at *
    generalize bs x.s = S at *
    clear h h1 h3 h4 hb h2 hc1 H0 hlt1
    go_enter Tryz.func79, Tryz.ntmps79
    go_wp2_with fail
    refine C.out.mono ?_
    rintro e w1 ⟨rfl, rfl⟩
    go_wp2_with fail
    refine bodyPost_ret (results_word rfl _ _ w.heap.size _ _ _ rfl (HNEW.out _ _ _)) rfl ?_
    exact ⟨rfl, HBN.out _ _ _⟩
theorem RdG.ks {w : World} {g : Nat} {r : PS} (h : RdG lo w g r) (s : List UInt8) : isK (peek r) s = isW r s := by
  have : KS (peek r) := by
    unfold peek
    split
    · exact ⟨fun e => by simp [zeroW] at e, fun e => by simp [zeroW] at e⟩
    · cases hl : r.l with
      | nil => exact ⟨fun e => by simp [zeroW] at e, fun e => by simp [zeroW] at e⟩
      | cons x t => exact (h.txt x (by rw [hl]; simp)).2
  rw [isK_ks this]
  rfl
set_option maxHeartbeats 4000000 in
theorem is_any (w : World) (x : Wd) (s : List UInt8) : Calls Tryz.prog 33 #[wdV x, .string (bs s)] w (EndsB (.bool (isK x s)) w) := by
  have CK := Lib.hid (Lex.key_any s)
  rw [wdV_eq]
  have HB := Lib.hid (word_box w x)
  have HN := new_at w #[.int .i64 x.k, .string (bs x.s), .int .i64 x.n] 73
  rcases Bool.eq_false_or_eq_true (Lex.keyB s) with hk | hk
  · have HI : Hid (isK x s = (x.k == 4 && (bs x.s).toList == (bs s).toList)) := Lib.hid (by unfold isK; rw [hk, if_pos rfl, Lex.bs_toList, Lex.bs_toList])
    rw [hk] at CK
    rw [HI.out]
    clear HI hk
    obtain ⟨k, xs, n⟩ := x
    dsimp only at HB HN ⊢
    generalize bs xs = X at *
    generalize bs s = T at *
    have c0 := cell_at HN 0
    have c1 := cell_at HN 1
    simp only [List.getElem?_toArray, List.getElem?_cons_succ, List.getElem?_cons_zero] at c0 c1
    clear HN
    rcases Bool.eq_false_or_eq_true (k == 4) with h4 | h4
    all_goals
      rw [h4]
      simp only [Bool.true_and, Bool.false_and]
      go_enter Tryz.func33, Tryz.ntmps33
      go_wp2_with fail
      refine (CK.out _).mono ?_
      rintro e w1 ⟨rfl, rfl⟩
      go_wp2_with fail
      go_ret
      exact ends_bool (by simp [*]) HB.out
  · have HI : Hid (isK x s = (x.k == 5 && (bs x.s).toList == (bs s).toList)) := Lib.hid (by unfold isK; rw [hk, if_neg (by simp), Lex.bs_toList, Lex.bs_toList])
    rw [hk] at CK
    rw [HI.out]
    clear HI hk
    obtain ⟨k, xs, n⟩ := x
    dsimp only at HB HN ⊢
    generalize bs xs = X at *
    generalize bs s = T at *
    have c0 := cell_at HN 0
    have c1 := cell_at HN 1
    simp only [List.getElem?_toArray, List.getElem?_cons_succ, List.getElem?_cons_zero] at c0 c1
    clear HN
    rcases Bool.eq_false_or_eq_true (k == 5) with h4 | h4
    all_goals
      rw [h4]
      simp only [Bool.true_and, Bool.false_and]
      go_enter Tryz.func33, Tryz.ntmps33
      go_wp2_with fail
      refine (CK.out _).mono ?_
      rintro e w1 ⟨rfl, rfl⟩
      go_wp2_with fail
      go_ret
      exact ends_bool (by simp [*]) HB.out
set_option maxHeartbeats 4000000 in
theorem at_any (w : World) (g : Nat) (r : PS) (s : List UInt8) (h : RdG lo w g r) : Calls Tryz.prog 80 #[.pointer (some ⟨g, 0, none⟩), .string (bs s)] w (EndsB (.bool (isW r s)) w) := by
  have C := Lib.hid (next_any w g r h)
  have CI := Lib.hid (fun w' => is_any w' (peek r) s)
  rw [← h.ks s]
  generalize peek r = x at *
  rw [wdV_eq] at C CI
  generalize isK x s = B at *
  clear h
  go_enter Tryz.func80, Tryz.ntmps80
  go_wp2_with fail
  refine C.out.mono ?_
  rintro e w1 ⟨rfl, hb1⟩
  have HB1 := Lib.hid hb1
  clear hb1
  go_wp2_with fail
  refine (CI.out _).mono ?_
  rintro e w2 ⟨rfl, hb2⟩
  have HB2 := Lib.hid (HB1.out.trans (hb2.mono HB1.out.size))
  clear hb2
  go_wp2_with fail
  go_ret
  exact ⟨rfl, HB2.out⟩
/-- Two cells turn: the reader fails. -/
theorem RdG.fall {w : World} {g : Nat} {r : PS} (h : RdG lo w g r) : RdG lo ((w.setCell ⟨g, 1, none⟩ (.bool true)).setCell ⟨g, 0, none⟩ (.slice none 0 0)) g (failR r) := by
  obtain ⟨a, c, h1, h2, h3, h4⟩ := h.at_
  refine ⟨⟨none, 0, ?_, Nat.le_refl _, Row.nil _ _ _ _, fun b o e => by cases e⟩, by simp [failR], h.glo, Nat.le_trans h.wlo ?_, fun x hx => by simp [failR] at hx, fun _ => rfl⟩
  · have := set_at (set_at h1 1 (.bool true)) 0 (.slice none 0 0)
    exact this
  · exact Nat.le_trans (KeepsWalks.setCell w ⟨g, 1, none⟩ (.bool true)).size (KeepsWalks.setCell _ ⟨g, 0, none⟩ (.slice none 0 0)).size
set_option maxHeartbeats 4000000 in
theorem fail_any (w : World) (g : Nat) (r : PS) (h : RdG lo w g r) : Calls Tryz.prog 56 #[.pointer (some ⟨g, 0, none⟩)] w (Lg lo w g (.tuple #[]) (failR r)) := by
  have HF := Lib.hid h.fall
  obtain ⟨a, c, h1, -⟩ := h.at_
  have g0 := cell_at h1 0
  have g1 := cell_at h1 1
  simp only [List.getElem?_toArray, List.getElem?_cons_succ, List.getElem?_cons_zero] at g0 g1
  have f0 := free_at h1 0
  have f1 := free_at h1 1
  clear h h1
  go_enter Tryz.func56, Tryz.ntmps56
  go_wp2_with fail
  go_end0
  exact ⟨rfl, HF.out, ((Turn.refl [g] w).setCell (.inl (by simp)) _).setCell (.inl (by simp)) _⟩
end Go.Proofs.YtlhbhpdpjidpgaaGreatDoor.Prg
