/-
  rightHead, Right: is a file one that a text may stand for. Condition: the file lies in memory.
-/
import Derived.Test.YtlhbhpdpjidpgaaGreatDoorZ07
import Derived.Test.YtlhbhpdpjidpgaaGreatDoorZ17
namespace Go.Proofs.YtlhbhpdpjidpgaaGreatDoor.Tre
open Go.RowKit
set_option maxRecDepth 100000
set_option linter.unusedSimpArgs false
set_option maxHeartbeats 4000000 in
theorem index_fn (x : List Fn) (A : Option Addr) (c : Nat) (w : World) (hx : Row 4 fnC w A x) (hl : x.length ≤ most) (CC : ∀ a ∈ x, ∀ w', Below w.heap.size w w' → Hid (Calls Tryz.prog 42 #[fnV a] w' (EndsB (.bool (wFn a)) w'))) :
    Calls Tryz.prog 71 #[.slice A x.length c, .func (.func 42) #[] #[]] w fun e w' => ∃ r : Int, e = .returned (.int .i64 r) ∧ decide (0 ≤ r) = x.any (fun a => wFn a) ∧ -1 ≤ r ∧ r ≤ 1000000000000 ∧ Below w.heap.size w w' := by
  unfold most at hl
  have HX := Lib.hid hx
  have HC := Lib.hid CC
  clear hx CC
  obtain ⟨n, hn⟩ : ∃ n, x.length = n := ⟨_, rfl⟩
  rw [hn] at hl ⊢
  have HN := Lib.hid hn
  clear hn
  go_enter Tryz.func71, Tryz.ntmps71
  go_wp2
  go_loopw [8] (fun i wr => ∃ k : Nat, k ≤ n ∧ i = .int .i64 k ∧ Below w.heap.size w wr ∧ Hid ((x.take k).any (fun a => wFn a) = false)) (fun i _ => n - (intOf i).toNat)
  case atStart => exact ⟨0, Nat.zero_le _, rfl, Below.refl _ _, Lib.hid rfl⟩
  case round =>
    obtain ⟨k, hk, rfl, hb, hs⟩ := hrel
    by_cases hlt : k < n
    · obtain ⟨a, ha⟩ : ∃ a, x[k]? = some a := ⟨_, List.getElem?_eq_getElem (by rw [HN.out]; exact hlt)⟩
      have C1 := HC.out a (List.mem_of_getElem? ha) wr hb
      obtain ⟨b1, o1, rfl, hc1⟩ := HX.out.at_ hb ha
      obtain ⟨p0, p1, p2, p3⟩ := fnC_at hc1
      have HA := Lib.hid ha
      clear hc1 ha
      obtain ⟨t, ht⟩ : ∃ t, (wFn a) = t := ⟨_, rfl⟩
      rw [ht] at C1
      have HT := Lib.hid ht
      have HS := hs
      clear ht hs
      rw [fnV_eq] at C1
      rcases Bool.eq_false_or_eq_true t with h9 | h9 <;> subst h9
      · go_wp2_with fail
        refine C1.out.mono ?_
        rintro e1 w1 ⟨rfl, hb1⟩
        have HB1 := Lib.hid (hb.trans (hb1.mono hb.size))
        clear hb1
        go_wp2_with fail
        go_ret
        exact ⟨k, rfl, by rw [any_yes HA.out HT.out]; simp, by omega, by omega, HB1.out⟩
      · go_wp2_with fail
        refine C1.out.mono ?_
        rintro e1 w1 ⟨rfl, hb1⟩
        have HB1 := Lib.hid (hb.trans (hb1.mono hb.size))
        clear hb1
        go_wp2_with fail
        go_roundw
        case rel => exact ⟨k + 1, by omega, rfl, HB1.out, Lib.hid (any_no HA.out HS.out HT.out)⟩
        case measure => simp [intOf]; omega
    · obtain rfl : k = n := by omega
      have HS := hs
      go_wp2_with fail
      go_ret
      have := HS.out
      rw [List.take_of_length_le (Nat.le_of_eq HN.out)] at this
      exact ⟨-1, rfl, by rw [this]; rfl, by omega, by omega, hb⟩
set_option maxHeartbeats 1000000 in
theorem contains_fn (x : List Fn) (A : Option Addr) (c : Nat) (w : World) (hx : Row 4 fnC w A x) (hl : x.length ≤ most) (CC : ∀ a ∈ x, ∀ w', Below w.heap.size w w' → Hid (Calls Tryz.prog 42 #[fnV a] w' (EndsB (.bool (wFn a)) w'))) :
    Calls Tryz.prog 41 #[.slice A x.length c, .func (.func 42) #[] #[]] w (EndsB (.bool (x.any (fun a => wFn a))) w) := by
  have C := Lib.hid (index_fn x A c w hx hl CC)
  clear hx hl CC
  generalize x.any (fun a => wFn a) = t at *
  generalize x.length = n at *
  go_enter Tryz.func41, Tryz.ntmps41
  go_wp2_with fail
  refine C.out.mono ?_
  rintro e1 w1 ⟨r, rfl, hr, h1, h2, hb1⟩
  have HR := Lib.hid hr
  have HB1 := Lib.hid hb1
  clear hr h1 h2 hb1
  rcases Bool.eq_false_or_eq_true (decide (0 ≤ r)) with h3 | h3
  · have h4 : 0 ≤ r := by simpa using h3
    go_wp2_with fail
    go_ret
    exact ends_bool (by rw [← HR.out]; simp; omega) HB1.out
  · have h4 : ¬ 0 ≤ r := by simpa using h3
    go_wp2_with fail
    go_ret
    exact ends_bool (by rw [← HR.out]; simp; omega) HB1.out
set_option maxHeartbeats 4000000 in
theorem rightHead_any (a : Fl) (w : World) (ha : FlIn w a) : Calls Tryz.prog 40 #[flV a] w (EndsB (.bool (rHead a)) w) := by
  have C1 := fun (w' : World) => Lib.hid (rightWord_any a.s w' ha.s)
  have C2 := fun (w' : World) (hw : Below w.heap.size w w') => Lib.hid (contains_word a.i a.ia a.ic w' (ha.irow.below hw) ha.ilen (fun s hs w2 _ => Lib.hid (wrongWord_any s w2 (ha.is s hs))))
  have HA : Hid (∀ w1, Below (w.alloc (.cells #[.string a.s, .slice a.ia a.i.length a.ic, .slice a.fa a.f.length a.fc] 26)).heap.size (w.alloc (.cells #[.string a.s, .slice a.ia a.i.length a.ic, .slice a.fa a.f.length a.fc] 26)) w1 → ∀ i, w1.cell? ⟨w.heap.size, i, none⟩ = (#[.string a.s, .slice a.ia a.i.length a.ic, .slice a.fa a.f.length a.fc] : Array Value)[i]?) := Lib.hid (fun w1 h1 i => one_at h1 i)
  have HB := Lib.hid (ball_new w #[.string a.s, .slice a.ia a.i.length a.ic, .slice a.fa a.f.length a.fc] 26)
  have l1 := ha.ilen
  have l2 := ha.flen
  unfold most at l1 l2
  rw [flV_eq]
  unfold rHead
  clear ha
  generalize wordB a.s = t1 at *
  generalize (a.i.any fun s => !wordB s) = t2 at *
  generalize a.i.length = k1 at *
  generalize a.f.length = k2 at *
  go_enter Tryz.func40, Tryz.ntmps40
  go_wp2_with fail
  refine (C1 _).out.mono ?_
  rintro e1 w1 ⟨rfl, hb1⟩
  have HB1 := Lib.hid (HB.out.trans (hb1.mono HB.out.size))
  have z1 := HA.out _ hb1 1
  have z2 := HA.out _ hb1 2
  simp only [List.getElem?_toArray, List.getElem?_cons_succ, List.getElem?_cons_zero] at z1 z2
  clear hb1
  rcases Bool.eq_false_or_eq_true t1 with ht | ht <;> subst ht
  · by_cases h1 : k1 ≤ 8
    · by_cases h2 : k2 ≤ 32
      · go_wp2_with fail
        refine (C2 _ HB1.out).out.mono ?_
        rintro e2 w2 ⟨rfl, hb2⟩
        have HB2 := Lib.hid (HB1.out.trans (hb2.mono HB1.out.size))
        clear hb2
        go_wp2_with fail
        go_ret
        exact ends_bool (by simp [h1, h2]; try omega) HB2.out
      · go_wp2_with fail
        go_ret
        exact ends_bool (by simp [h2]; try omega) HB1.out
    · go_wp2_with fail
      go_ret
      exact ends_bool (by simp [h1]; try omega) HB1.out
  · go_wp2_with fail
    go_ret
    exact ends_bool (by simp) HB1.out
set_option maxHeartbeats 4000000 in
theorem right_any (a : Fl) (w : World) (ha : FlIn w a) : Calls Tryz.prog 18 #[flV a] w (EndsB (.bool (decide ((nodes givenB a.f).length ≤ 100000) && rFile a)) w) := by
  obtain ⟨X0, hX0⟩ : ∃ X0, w.alloc (.cells #[.string a.s, .slice a.ia a.i.length a.ic, .slice a.fa a.f.length a.fc] 26) = X0 := ⟨_, rfl⟩
  have HB0 : Hid (Below w.heap.size w X0) := Lib.hid (by rw [← hX0]; exact ball_new w _ _)
  have HN : Hid (∀ w1, Below X0.heap.size X0 w1 → ∀ i, w1.cell? ⟨w.heap.size, i, none⟩ = (#[.string a.s, .slice a.ia a.i.length a.ic, .slice a.fa a.f.length a.fc] : Array Value)[i]?) := Lib.hid (fun w1 h1 i => by subst hX0; exact one_at h1 i)
  have CN := Lib.hid ((callsIn_wide (n := 5)).1 (nodes_any Fence.wide 5 trivial rfl a.fa a.f.length a.fc 36 X0))
  have hb1 : Below X0.heap.size X0 ((X0.alloc (.cells #[.slice a.fa a.f.length a.fc] 24)).alloc (.cells #[.func (.func 36) #[] #[]] 79)) := ((Below.refl _ X0).alloc (Nat.le_refl _) _).alloc (by simp) _
  have HB1 := Lib.hid hb1
  have hg := nodes1_given w a.f a.fa a.fc ha.frow ha.flen ha.fns X0.heap.size (X0.heap.size + 1) ((X0.alloc (.cells #[.slice a.fa a.f.length a.fc] 24)).alloc (.cells #[.func (.func 36) #[] #[]] 79)) (Low.below (HB0.out.trans (hb1.mono HB0.out.size))) ((Below.heap_alloc _ _ _ (by simp)).trans (new_at X0 _ _)) (by have := new_at (X0.alloc (.cells #[.slice a.fa a.f.length a.fc] 24)) #[.func (.func 36) #[] #[]] 79; rwa [World.size_alloc] at this) (by have := HB0.out.size; have := hb1.size; omega)
  have CF := Lib.hid (fits_any hg (enters_of Tryz.func61 (by kernel_rfl) rfl) (by have := HB0.out.size; have := hb1.size; omega) (fun b hb => by simp at hb; subst hb; simp))
  have CH := fun (w' : World) (hw : Below w.heap.size w w') => Lib.hid (rightHead_any a w' (ha.below hw))
  have CC := fun (w' : World) (hw : Below w.heap.size w w') => Lib.hid (contains_fn a.f a.fa a.fc w' (ha.frow.below hw) ha.flen (fun f hf w2 hw2 => Lib.hid (wrongFunc_any f w2 (((ha.fns f hf).below hw).below hw2))))
  have HX0 := Lib.hid hX0
  clear hb1 hg ha hX0
  unfold rFile
  rw [flV_eq] at CH ⊢
  generalize (nodes givenB a.f).length = N at *
  obtain ⟨t3, ht3⟩ : ∃ t, (a.f.any fun f => wFn f) = t := ⟨_, rfl⟩
  rw [ht3] at CC
  have HT3 : Hid (a.f.any wFn = t3) := Lib.hid ht3
  clear ht3
  rw [HT3.out]
  generalize rHead a = t2 at *
  generalize a.i.length = k1 at *
  generalize a.f.length = k3 at *
  generalize decide (N ≤ 100000) = t1 at *
  go_enter Tryz.func18, Tryz.ntmps18
  go_wp2_with fail
  rw [HX0.out]
  refine CN.out.mono ?_
  rintro e w1 ⟨rfl, rfl⟩
  go_wp2_with fail
  refine CF.out.mono ?_
  rintro e w2 ⟨rfl, hb2⟩
  have HX2 := Lib.hid (HB1.out.trans (hb2.mono HB1.out.size))
  have HB2 := Lib.hid (HB0.out.trans (HX2.out.mono HB0.out.size))
  have z0 := HN.out w2 HX2.out 0
  have z1 := HN.out w2 HX2.out 1
  have z2 := HN.out w2 HX2.out 2
  simp only [List.getElem?_toArray, List.getElem?_cons_succ, List.getElem?_cons_zero] at z0 z1 z2
  clear hb2 CN CF
  rcases Bool.eq_false_or_eq_true t1 with ht | ht <;> subst ht
  · go_wp2_with fail
    refine (CH _ HB2.out).out.mono ?_
    rintro e w3 ⟨rfl, hb3⟩
    have HX3 := Lib.hid (HX2.out.trans (hb3.mono HX2.out.size))
    have HB3 := Lib.hid (HB0.out.trans (HX3.out.mono HB0.out.size))
    clear hb3 z0 z1 z2
    have z2 := HN.out w3 HX3.out 2
    simp only [List.getElem?_toArray, List.getElem?_cons_succ, List.getElem?_cons_zero] at z2
    rcases Bool.eq_false_or_eq_true t2 with ht | ht <;> subst ht
    · go_wp2_with fail
      refine (CC _ HB3.out).out.mono ?_
      rintro e w4 ⟨rfl, hb4⟩
      have HB4 := Lib.hid (HB3.out.trans (hb4.mono HB3.out.size))
      clear hb4
      go_wp2_with fail
      go_ret
      exact ends_bool (by simp) HB4.out
    · go_wp2_with fail
      go_ret
      exact ends_bool (by simp) HB3.out
  · go_wp2_with fail
    go_ret
    exact ends_bool (by simp) HB2.out
end Go.Proofs.YtlhbhpdpjidpgaaGreatDoor.Tre
/- The document's reader in memory; peek, is, skip, must, word: what they answer, and what they leave. Condition: the reader is known. -/
namespace Go.Proofs.YtlhbhpdpjidpgaaGreatDoor.Prs
open Go.RowKit Tre
open Lex (Wd wdC wdV bs str Turn)
set_option maxRecDepth 100000
set_option linter.unusedSimpArgs false
variable {lo : Nat}
/-- The reader in block g. -/
structure RdM (lo : Nat) (w : World) (g : Nat) (r : PS) : Prop where
  at_ : ∃ a c, w.heap[g]? = some (.cells #[.slice a r.l.length c, .bool r.bad, .bool r.big] 63 (0, 0)) ∧ r.l.length ≤ c ∧ Row 3 wdC w a r.l ∧ (∀ b o, a = some ⟨b, o, none⟩ → b ≠ g ∧ b < lo)
  len : r.l.length ≤ 100000
  glo : g < lo
  wlo : lo ≤ w.heap.size
  txt : ∀ x ∈ r.l, x.s.length ≤ 1000000
theorem RdM.lt {w : World} {g : Nat} {r : PS} (h : RdM lo w g r) : g < w.heap.size := by
  obtain ⟨a, c, h1, _⟩ := h.at_
  exact lt_of_heap h1
theorem Row.kept {α : Type} {k : Nat} {C : α → List Value} {w w' : World} {A : Option Addr} {l : List α} (h : Row k C w A l) (hs : w.heap.size ≤ w'.heap.size) (hk : ∀ b o, A = some ⟨b, o, none⟩ → b < w.heap.size → w'.heap[b]? = w.heap[b]?) : Row k C w' A l := fun h0 => by
  obtain ⟨b, o, e, hlt, hc⟩ := h h0
  exact ⟨b, o, e, by omega, fun j x hx r u hu => (World.cell?_of_block (w := w) (hk b o e hlt)).trans (hc j x hx r u hu)⟩
theorem RdM.below {w w' : World} {g : Nat} {r : PS} (h : RdM lo w g r) (hb : Below w.heap.size w w') : RdM lo w' g r := by
  obtain ⟨a, c, h1, h2, h3, h4⟩ := h.at_
  exact ⟨⟨a, c, (hb.block g (lt_of_heap h1)).trans h1, h2, h3.below hb, h4⟩, h.len, h.glo, Nat.le_trans h.wlo hb.size, h.txt⟩
/-- What a call on the reader leaves. -/
def Lv (lo : Nat) (w : World) (g : Nat) (v : Value) (r : PS) (e : Ending) (w' : World) : Prop := e = .returned v ∧ RdM lo w' g r ∧ Turn [g] w w'
theorem wdV_eq (x : Wd) : wdV x = .agg #[.int .i64 x.k, .string (bs x.s), .int .i64 x.n] := rfl
theorem wdC_at {e : Wd} {w : World} {b o : Nat} (h : ∀ (r : Nat) (u : Value), (wdC e)[r]? = some u → w.cell? ⟨b, o + r, none⟩ = some u) :
    w.cell? ⟨b, o, none⟩ = some (.int .i64 e.k) ∧ w.cell? ⟨b, o + 1, none⟩ = some (.string (bs e.s)) ∧ w.cell? ⟨b, o + 2, none⟩ = some (.int .i64 e.n) := ⟨h 0 _ rfl, h 1 _ rfl, h 2 _ rfl⟩
theorem results_word {fn : Func} {p : Tmp} (h : fn.results = #[.cell p 73]) (tmps : Array Value) (w : World) (g : Nat) (v0 v1 v2 : Value) (hv : tmps.getD p undef = .pointer (some ⟨g, 0, none⟩)) (hc : w.heap[g]? = some (.cells #[v0, v1, v2] 73 (0, 0))) :
    (results fn tmps).run Tryz.prog w = .ok (.agg #[v0, v1, v2]) w := by
  have a4 := Tryz.isAgg73
  have z4 := Tryz.sizeOf73
  have c0 := cell_at hc 0
  have c1 := cell_at hc 1
  have c2 := cell_at hc 2
  simp only [List.getElem?_toArray, List.getElem?_cons_succ, List.getElem?_cons_zero] at c0 c1 c2
  simp only [Array.getD_eq_getD_getElem?] at hv
  unfold results
  rw [h]
  go_simp
set_option maxHeartbeats 4000000 in
theorem peek_any (w : World) (g : Nat) (r : PS) (h : RdM lo w g r) : Calls Tryz.prog 50 #[.pointer (some ⟨g, 0, none⟩)] w (EndsB (wdV (peek r)) w) := by
  obtain ⟨a, c, h1, h2, h3, h4⟩ := h.at_
  have hl := h.len
  have hb := ball_new w #[.int .i64 0, .string ⟨#[]⟩, .int .i64 0] 73
  have HB := Lib.hid hb
  have h1' := (hb.block g (lt_of_heap h1)).trans h1
  have g0 := cell_at h1' 0
  have g1 := cell_at h1' 1
  simp only [List.getElem?_toArray, List.getElem?_cons_succ, List.getElem?_cons_zero] at g0 g1
  have HNEW := Lib.hid (fun (v0 v1 v2 : Value) => new_at w #[v0, v1, v2] 73)
  have HBN := Lib.hid (fun (v0 v1 v2 : Value) => ball_new w #[v0, v1, v2] 73)
  obtain ⟨l, bad, big⟩ := r
  dsimp only at g0 g1 h3 hl h2
  unfold peek
  cases l with
  | nil =>
    simp only [List.length_nil] at g0
    have e1 : (if ((⟨[], bad, big⟩ : PS).l.length == 0 || (⟨[], bad, big⟩ : PS).bad) = true then zeroW else (⟨[], bad, big⟩ : PS).l.headD zeroW) = zeroW := rfl
    rw [e1, wdV_eq]
    clear h h1 h1' h3 h4 hb h2 hl
    go_enter Tryz.func50, Tryz.ntmps50
    go_wp2
    refine bodyPost_ret (results_word rfl _ _ w.heap.size _ _ _ rfl (HNEW.out _ _ _)) rfl ?_
    exact ⟨rfl, HBN.out _ _ _⟩
  | cons x t =>
    cases bad with
    | true =>
      have e1 : (if ((⟨x :: t, true, big⟩ : PS).l.length == 0 || (⟨x :: t, true, big⟩ : PS).bad) = true then zeroW else (⟨x :: t, true, big⟩ : PS).l.headD zeroW) = zeroW := by simp
      rw [e1, wdV_eq]
      simp only [List.length_cons] at g0 hl
      generalize t.length = n at *
      clear h h1 h1' h3 h4 hb h2
      go_enter Tryz.func50, Tryz.ntmps50
      go_wp2
      refine bodyPost_ret (results_word rfl _ _ w.heap.size _ _ _ rfl (HNEW.out _ _ _)) rfl ?_
      exact ⟨rfl, HBN.out _ _ _⟩
    | false =>
      have e1 : (if ((⟨x :: t, false, big⟩ : PS).l.length == 0 || (⟨x :: t, false, big⟩ : PS).bad) = true then zeroW else (⟨x :: t, false, big⟩ : PS).l.headD zeroW) = x := by simp
      rw [e1, wdV_eq]
      obtain ⟨b1, o1, rfl, hc1⟩ := h3.at_ hb (j := 0) (x := x) rfl
      obtain ⟨p0, p1, p2⟩ := wdC_at hc1
      simp only [Nat.zero_mul, Nat.add_zero] at p0 p1 p2
      simp only [List.length_cons] at g0 hl
      generalize t.length = n at *
      generalize bs x.s = S at *
      clear h h1 h1' h3 h4 hb h2 hc1
      go_enter Tryz.func50, Tryz.ntmps50
      go_wp2
      refine bodyPost_ret (results_word rfl _ _ w.heap.size _ _ _ rfl (HNEW.out _ _ _)) rfl ?_
      exact ⟨rfl, HBN.out _ _ _⟩
end Go.Proofs.YtlhbhpdpjidpgaaGreatDoor.Prs
/- The document's is, skip, must, word, level: what they answer, and what they leave. Condition: the reader is known. -/
namespace Go.Proofs.YtlhbhpdpjidpgaaGreatDoor.Prs
open Go.RowKit Tre
open Lex (Wd wdC wdV bs str Turn)
set_option maxRecDepth 100000
set_option linter.unusedSimpArgs false
variable {lo : Nat}
theorem word_box (w : World) (x : Wd) : Below w.heap.size w (w.alloc (.cells #[.int .i64 x.k, .string (bs x.s), .int .i64 x.n] 73)) := ball_new w _ _
set_option maxHeartbeats 4000000 in
theorem is_any (w : World) (g : Nat) (r : PS) (s : List UInt8) (h : RdM lo w g r) : Calls Tryz.prog 51 #[.pointer (some ⟨g, 0, none⟩), .string (bs s)] w (EndsB (.bool (isW r s)) w) := by
  have C := Lib.hid (peek_any w g r h)
  clear h
  obtain ⟨x, hx⟩ : ∃ x, peek r = x := ⟨_, rfl⟩
  have HI : Hid (isW r s = ((x.k == 5 || x.k == 4) && (bs x.s).toList == (bs s).toList)) := Lib.hid (by unfold isW; rw [hx, Lex.bs_toList, Lex.bs_toList])
  rw [hx, wdV_eq] at C
  clear hx
  have HBX := Lib.hid (fun w' => word_box w' x)
  obtain ⟨k, xs, n⟩ := x
  dsimp only at C HI HBX
  generalize bs xs = X at *
  generalize bs s = T at *
  rcases Bool.eq_false_or_eq_true (k == 5) with h5 | h5
  · rcases Bool.eq_false_or_eq_true (X.toList == T.toList) with h6 | h6
    all_goals go_enter Tryz.func51, Tryz.ntmps51
    all_goals go_wp2_with fail
    all_goals refine C.out.mono ?_
    all_goals rintro e w1 ⟨rfl, hb1⟩
    all_goals have HB1 := Lib.hid (hb1.trans ((HBX.out w1).mono hb1.size))
    all_goals clear hb1
    all_goals go_wp2_with fail
    all_goals go_ret
    all_goals exact ends_bool (by rw [HI.out]; simp [*]) HB1.out
  · rcases Bool.eq_false_or_eq_true (k == 4) with h4 | h4
    · rcases Bool.eq_false_or_eq_true (X.toList == T.toList) with h6 | h6
      all_goals go_enter Tryz.func51, Tryz.ntmps51
      all_goals go_wp2_with fail
      all_goals refine C.out.mono ?_
      all_goals rintro e w1 ⟨rfl, hb1⟩
      all_goals have HB1 := Lib.hid (hb1.trans ((HBX.out w1).mono hb1.size))
      all_goals clear hb1
      all_goals go_wp2_with fail
      all_goals go_ret
      all_goals exact ends_bool (by rw [HI.out]; simp [*]) HB1.out
    · go_enter Tryz.func51, Tryz.ntmps51
      go_wp2_with fail
      refine C.out.mono ?_
      rintro e w1 ⟨rfl, hb1⟩
      have HB1 := Lib.hid (hb1.trans ((HBX.out w1).mono hb1.size))
      clear hb1
      go_wp2_with fail
      go_ret
      exact ends_bool (by rw [HI.out]; simp [*]) HB1.out
/-- The reader's own cells turn; the words lie as they lay. -/
theorem RdM.set {w : World} {g : Nat} {r : PS} {a : Option Addr} {c : Nat} (hg : w.heap[g]? = some (.cells #[.slice a r.l.length c, .bool r.bad, .bool r.big] 63 (0, 0))) (hl : RdM lo w g r)
    (r' : PS) (a' : Option Addr) (c' i : Nat) (v : Value) (h1 : (#[.slice a r.l.length c, .bool r.bad, .bool r.big] : Array Value).setIfInBounds i v = #[.slice a' r'.l.length c', .bool r'.bad, .bool r'.big]) (h2 : r'.l.length ≤ c') (h3 : Row 3 wdC w a' r'.l) (h4 : ∀ b o, a' = some ⟨b, o, none⟩ → b ≠ g ∧ b < lo) (h5 : r'.l.length ≤ r.l.length) (h6 : ∀ x ∈ r'.l, x ∈ r.l) :
    RdM lo (w.setCell ⟨g, i, none⟩ v) g r' := by
  refine ⟨⟨a', c', ?_, h2, Row.kept h3 ?_ (fun b o e _ => Below.heap_setCell w _ v b (h4 b o e).1), h4⟩, by have := hl.len; omega, hl.glo, Nat.le_trans hl.wlo (KeepsWalks.setCell w ⟨g, i, none⟩ v).size, fun x hx => hl.txt x (h6 x hx)⟩
  · rw [← h1]
    exact set_at hg i v
  · exact (KeepsWalks.setCell w ⟨g, i, none⟩ v).size
theorem tail_row {w : World} {b o : Nat} {l : List Wd} (h : Row 3 wdC w (some ⟨b, o, none⟩) l) (h0 : 1 < l.length) : Row 3 wdC w (some ⟨b, o + 3, none⟩) l.tail := fun _ => by
  obtain ⟨b', o', e, hlt, hc⟩ := h (by omega)
  injection e with e
  injection e with e1 e2
  subst e1; subst e2
  refine ⟨b, o + 3, rfl, hlt, fun j x hx r u hu => ?_⟩
  have := hc (j + 1) x (by rw [← hx]; cases l <;> simp) r u hu
  rwa [show o + (j + 1) * 3 + r = o + 3 + j * 3 + r by omega] at this
theorem size3 : ∀ w, (sizeOf 73).run Tryz.prog w = .ok 3 w := fun w => Tryz.sizeOf73 (w := w)
theorem cut1 (w : World) (A : Option Addr) (n c : Nat) (h1 : 1 ≤ n) :
    (Instr.slice 33 (.slice A n c) (some (.int .i64 1)) none none).run Tryz.prog w = .ok (.slice (if c = 1 then A else A.map (·.add 3)) (n - 1) (c - 1)) w := by
  rw [run_slice_l (P := Tryz.prog) w 33 A n c Tryz.underlying33 .i64 1 (by omega) (by omega)]
  have e : Tryz.prog.elem 33 = 73 := by kernel_rfl
  rw [e, size3]
  simp [Result.andThen, sliced]
/-- One word goes. -/
theorem RdM.pop {w : World} {g : Nat} {r : PS} (h : RdM lo w g r) (h0 : 0 < r.l.length) : ∃ A c, w.heap[g]? = some (.cells #[.slice A r.l.length c, .bool r.bad, .bool r.big] 63 (0, 0)) ∧
    RdM lo (w.setCell ⟨g, 0, none⟩ (.slice (if c = 1 then A else A.map (·.add 3)) (r.l.length - 1) (c - 1))) g (tl r) := by
  obtain ⟨A, c, h1, h2, h3, h4⟩ := h.at_
  obtain ⟨b, o, rfl, hlt, hc⟩ := h3 h0
  refine ⟨some ⟨b, o, none⟩, c, h1, ?_⟩
  refine RdM.set h1 h (tl r) (if c = 1 then some ⟨b, o, none⟩ else (some (⟨b, o, none⟩ : Addr)).map (·.add 3)) (c - 1) 0 _ (by simp [tl]) (by rw [tl_len]; omega) ?_ ?_ (by rw [tl_len]; omega) (fun x hx => List.mem_of_mem_tail hx)
  · by_cases h5 : r.l.length = 1
    · have e : (tl r).l = [] := by
        have := tl_len r
        exact List.eq_nil_of_length_eq_zero (by omega)
      rw [e]
      exact Row.nil _ _ _ _
    · rw [if_neg (by omega)]
      have := tail_row (w := w) (b := b) (o := o) (l := r.l) h3 (by omega)
      rw [Option.map_some, Lex.plain_add]
      exact this
  · intro b' o' e
    split at e
    · injection e with e
      injection e with e1 _
      exact e1 ▸ h4 b o rfl
    · rw [Option.map_some, Lex.plain_add] at e
      injection e with e
      injection e with e1 _
      exact e1 ▸ h4 b o rfl
set_option maxHeartbeats 4000000 in
theorem skip_any (w : World) (g : Nat) (r : PS) (s : List UInt8) (h : RdM lo w g r) : Calls Tryz.prog 24 #[.pointer (some ⟨g, 0, none⟩), .string (bs s)] w (Lv lo w g (.bool (isW r s)) (skipW r s)) := by
  have C := Lib.hid (is_any w g r s h)
  have H := Lib.hid h
  unfold skipW
  obtain ⟨t, ht⟩ : ∃ t, isW r s = t := ⟨_, rfl⟩
  have HT := Lib.hid ht
  rw [ht] at C ⊢
  clear ht h
  rcases Bool.eq_false_or_eq_true t with h9 | h9 <;> subst h9
  · have e1 : (if true = true then tl r else r) = tl r := rfl
    rw [e1]
    go_enter Tryz.func24, Tryz.ntmps24
    go_wp2_with fail
    refine C.out.mono ?_
    rintro e w1 ⟨rfl, hb1⟩
    have hr1 := H.out.below hb1
    obtain ⟨A, c, hg, hp⟩ := hr1.pop (isW_pos HT.out).1
    have HP := Lib.hid hp
    have HB1 := Lib.hid hb1
    have HG : Hid (g < w1.heap.size) := Lib.hid hr1.lt
    have g0 := cell_at hg 0
    simp only [List.getElem?_toArray, List.getElem?_cons_zero] at g0
    have f0 := free_at hg 0
    have CU := fun w' => cut1 w' A r.l.length c (isW_pos HT.out).1
    generalize r.l.length - 1 = n1 at *
    generalize r.l.length = n at *
    clear hb1 hr1 hp hg
    generalize (if c = 1 then A else A.map (·.add 3)) = A2 at *
    go_wp2_with fail
    go_ret
    exact ⟨rfl, HP.out, ((Turn.refl [g] w).below HB1.out).setCell (.inl (by simp)) _⟩
  · have e1 : (if false = true then tl r else r) = r := rfl
    rw [e1]
    go_enter Tryz.func24, Tryz.ntmps24
    go_wp2_with fail
    refine C.out.mono ?_
    rintro e w1 ⟨rfl, hb1⟩
    have HB1 := Lib.hid hb1
    clear hb1
    go_wp2_with fail
    go_ret
    exact ⟨rfl, H.out.below HB1.out, (Turn.refl [g] w).below HB1.out⟩
end Go.Proofs.YtlhbhpdpjidpgaaGreatDoor.Prs
/- The document's must, word: what they answer, and what they leave. Condition: the reader is known. -/
namespace Go.Proofs.YtlhbhpdpjidpgaaGreatDoor.Prs
open Go.RowKit Tre
open Lex (Wd wdC wdV bs str Turn)
set_option maxRecDepth 100000
set_option linter.unusedSimpArgs false
variable {lo : Nat}
/-- The reader is bad from now on. -/
theorem RdM.spoil {w : World} {g : Nat} {r : PS} (h : RdM lo w g r) : ∃ A c, w.heap[g]? = some (.cells #[.slice A r.l.length c, .bool r.bad, .bool r.big] 63 (0, 0)) ∧ RdM lo (w.setCell ⟨g, 1, none⟩ (.bool true)) g (badR r) := by
  obtain ⟨A, c, h1, h2, h3, h4⟩ := h.at_
  exact ⟨A, c, h1, RdM.set h1 h (badR r) A c 1 _ (by simp [badR]) h2 h3 h4 (Nat.le_refl _) (fun x hx => hx)⟩
set_option maxHeartbeats 4000000 in
theorem must_any (w : World) (g : Nat) (r : PS) (s : List UInt8) (h : RdM lo w g r) : Calls Tryz.prog 22 #[.pointer (some ⟨g, 0, none⟩), .string (bs s)] w (Lv lo w g (.tuple #[]) (mustW r s)) := by
  have C := Lib.hid (skip_any w g r s h)
  unfold mustW
  unfold skipW at C
  obtain ⟨t, ht⟩ : ∃ t, isW r s = t := ⟨_, rfl⟩
  rw [ht] at C ⊢
  clear ht h
  rcases Bool.eq_false_or_eq_true t with h9 | h9 <;> subst h9
  · have e1 : (if true = true then tl r else badR r) = tl r := rfl
    have e2 : (if true = true then tl r else r) = tl r := rfl
    rw [e1]
    rw [e2] at C
    go_enter Tryz.func22, Tryz.ntmps22
    go_wp2_with fail
    refine C.out.mono ?_
    rintro e w1 ⟨rfl, h1, h2⟩
    have H1 := Lib.hid h1
    have H2 := Lib.hid h2
    clear h1 h2
    go_wp2_with fail
    go_end0
    exact ⟨rfl, H1.out, H2.out⟩
  · have e1 : (if false = true then tl r else badR r) = badR r := rfl
    have e2 : (if false = true then tl r else r) = r := rfl
    rw [e1]
    rw [e2] at C
    go_enter Tryz.func22, Tryz.ntmps22
    go_wp2_with fail
    refine C.out.mono ?_
    rintro e w1 ⟨rfl, h1, h2⟩
    obtain ⟨A, c, hg, hp⟩ := h1.spoil
    have HP := Lib.hid hp
    have H2 := Lib.hid h2
    have HG : Hid (g < w1.heap.size) := Lib.hid h1.lt
    have g0 := cell_at hg 1
    simp only [List.getElem?_toArray, List.getElem?_cons_succ, List.getElem?_cons_zero] at g0
    have f0 := free_at hg 1
    clear h1 h2 hp hg
    go_wp2_with fail
    go_end0
    exact ⟨rfl, HP.out, H2.out.setCell (.inl (by simp)) _⟩
theorem wordNo_pos {r : PS} {k : Int} {key : Bool} (hk : k ≠ 0) (h : wordNo r k key = false) : 0 < r.l.length := by
  unfold wordNo peek at h
  by_cases hc : (r.l.length == 0 || r.bad) = true
  · rw [if_pos hc] at h
    simp [zeroW] at h
    exact absurd h (fun e => hk e.symm)
  · have h1 : ¬ r.l.length = 0 ∧ r.bad = false := by simpa using hc
    omega
set_option maxHeartbeats 4000000 in
theorem word_any (w : World) (g : Nat) (r : PS) (k : Int) (key : Bool) (hk : k ≠ 0) (h : RdM lo w g r) : Calls Tryz.prog 23 #[.pointer (some ⟨g, 0, none⟩), .int .i64 k, .bool key] w (Lv lo w g (.string (bs (wordS r k key))) (wordR r k key)) := by
  have C := Lib.hid (peek_any w g r h)
  have H := Lib.hid h
  clear h
  obtain ⟨x, hx⟩ : ∃ x, peek r = x := ⟨_, rfl⟩
  have HX := Lib.hid hx
  have HNO : Hid (wordNo r k key = (x.k != k && !(key && x.k == 4))) := Lib.hid (by unfold wordNo; rw [hx])
  have HK := Lib.hid hk
  unfold wordS wordR
  rw [hx] at C ⊢
  rw [wdV_eq] at C
  clear hx hk
  have HBX := Lib.hid (fun w' => word_box w' x)
  have HPOS : Hid (wordNo r k key = false → 0 < r.l.length) := Lib.hid (wordNo_pos HK.out)
  obtain ⟨t, ht⟩ : ∃ t, wordNo r k key = t := ⟨_, rfl⟩
  rw [ht] at HNO HPOS ⊢
  clear ht
  obtain ⟨xk, xs, xn⟩ := x
  dsimp only at C HNO HBX ⊢
  rcases Bool.eq_false_or_eq_true t with h9 | h9 <;> subst h9
  · have e1 : (if true = true then ([] : List UInt8) else xs) = [] := rfl
    have e2 : (if true = true then badR r else tl r) = badR r := rfl
    rw [e1, e2]
    have hn := HNO.out.symm
    have h1 : (xk != k) = true := by simp at hn; simpa using hn.1
    have h2 : (key && xk == 4) = false := by simp only [Bool.and_eq_true, Bool.not_eq_true'] at hn; exact hn.2
    generalize bs xs = X at *
    clear hn
    rcases Bool.eq_false_or_eq_true key with h3 | h3 <;> subst h3
    · have h4 : (xk == 4) = false := by simpa using h2
      clear h2
      go_enter Tryz.func23, Tryz.ntmps23
      go_wp2_with fail
      refine C.out.mono ?_
      rintro e w1 ⟨rfl, hb1⟩
      have HB1 := Lib.hid (hb1.trans ((HBX.out w1).mono hb1.size))
      obtain ⟨A, c, hg, hp⟩ := (H.out.below HB1.out).spoil
      have HP := Lib.hid hp
      have g0 := cell_at hg 1
      simp only [List.getElem?_toArray, List.getElem?_cons_succ, List.getElem?_cons_zero] at g0
      have f0 := free_at hg 1
      clear hb1 hp hg
      go_wp2_with fail
      go_ret
      exact ⟨rfl, HP.out, ((Turn.refl [g] w).below HB1.out).setCell (.inl (by simp)) _⟩
    · clear h2
      go_enter Tryz.func23, Tryz.ntmps23
      go_wp2_with fail
      refine C.out.mono ?_
      rintro e w1 ⟨rfl, hb1⟩
      have HB1 := Lib.hid (hb1.trans ((HBX.out w1).mono hb1.size))
      obtain ⟨A, c, hg, hp⟩ := (H.out.below HB1.out).spoil
      have HP := Lib.hid hp
      have g0 := cell_at hg 1
      simp only [List.getElem?_toArray, List.getElem?_cons_succ, List.getElem?_cons_zero] at g0
      have f0 := free_at hg 1
      clear hb1 hp hg
      go_wp2_with fail
      go_ret
      exact ⟨rfl, HP.out, ((Turn.refl [g] w).below HB1.out).setCell (.inl (by simp)) _⟩
  · have e1 : (if false = true then ([] : List UInt8) else xs) = xs := rfl
    have e2 : (if false = true then badR r else tl r) = tl r := rfl
    rw [e1, e2]
    have hn := HNO.out.symm
    have hpos := HPOS.out rfl
    rcases Bool.eq_false_or_eq_true (xk != k) with h1 | h1
    · have h2 : key = true ∧ (xk == 4) = true := by rw [h1] at hn; simpa using hn
      obtain ⟨rfl, h4⟩ := h2
      clear hn
      go_enter Tryz.func23, Tryz.ntmps23
      go_wp2_with fail
      refine C.out.mono ?_
      rintro e w1 ⟨rfl, hb1⟩
      have HB1 := Lib.hid (hb1.trans ((HBX.out w1).mono hb1.size))
      have hr1 := H.out.below HB1.out
      obtain ⟨A, c, hg, hp⟩ := hr1.pop hpos
      have HP := Lib.hid hp
      have g0 := cell_at hg 0
      simp only [List.getElem?_toArray, List.getElem?_cons_zero] at g0
      have f0 := free_at hg 0
      have CU := fun w' => cut1 w' A r.l.length c hpos
      generalize r.l.length - 1 = n1 at *
      generalize r.l.length = n at *
      clear hb1 hr1 hp hg hpos
      generalize (if c = 1 then A else A.map (·.add 3)) = A2 at *
      go_wp2_with fail
      go_ret
      exact ⟨rfl, HP.out, ((Turn.refl [g] w).below HB1.out).setCell (.inl (by simp)) _⟩
    · clear hn
      go_enter Tryz.func23, Tryz.ntmps23
      go_wp2_with fail
      refine C.out.mono ?_
      rintro e w1 ⟨rfl, hb1⟩
      have HB1 := Lib.hid (hb1.trans ((HBX.out w1).mono hb1.size))
      have hr1 := H.out.below HB1.out
      obtain ⟨A, c, hg, hp⟩ := hr1.pop hpos
      have HP := Lib.hid hp
      have g0 := cell_at hg 0
      simp only [List.getElem?_toArray, List.getElem?_cons_zero] at g0
      have f0 := free_at hg 0
      have CU := fun w' => cut1 w' A r.l.length c hpos
      generalize r.l.length - 1 = n1 at *
      generalize r.l.length = n at *
      clear hb1 hr1 hp hg hpos
      generalize (if c = 1 then A else A.map (·.add 3)) = A2 at *
      go_wp2_with fail
      go_ret
      exact ⟨rfl, HP.out, ((Turn.refl [g] w).below HB1.out).setCell (.inl (by simp)) _⟩
end Go.Proofs.YtlhbhpdpjidpgaaGreatDoor.Prs
