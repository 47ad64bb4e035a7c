/-
  The program's has, must, bound, take, name, typed, truth: what they answer, and what they leave. Condition: the reader is known.
-/
import Derived.Test.YtlhbhpdpjidpgaaGreatDoorX13
import Derived.Test.YtlhbhpdpjidpgaaGreatDoorX14
import Derived.Deep.MidRow
import Derived.ChangeKeysEq
namespace Go.Proofs.YtlhbhpdpjidpgaaGreatDoor.Prg
open Go.RowKit Tre Prs
open Lex (Wd wdC wdV bs str Turn)
set_option maxRecDepth 100000
set_option linter.unusedSimpArgs false
variable {lo : Nat}
set_option maxHeartbeats 4000000 in
theorem has_yes (w : World) (g : Nat) (r : PS) (s : List UInt8) (h : RdG lo w g r) (hi : isW r s = true) : Calls Tryz.prog 46 #[.pointer (some ⟨g, 0, none⟩), .string (bs s)] w (Lg lo w g (.bool true) (tl r)) := by
  have C := Lib.hid (at_any w g r s h)
  rw [hi] at C
  have H := Lib.hid h
  have HT := Lib.hid hi
  clear h hi
  go_enter Tryz.func46, Tryz.ntmps46
  go_wp2_with fail
  refine C.out.mono ?_
  rintro e w1 ⟨rfl, hb1⟩
  have hr1 := H.out.below hb1
  obtain ⟨A, c, hg, hp⟩ := hr1.pop (isW_pos HT.out).1
  have HP := Lib.hid hp
  have HB1 := Lib.hid hb1
  have g0 := cell_at hg 0
  simp only [List.getElem?_toArray, List.getElem?_cons_zero] at g0
  have f0 := free_at hg 0
  have CU := fun w' => cut1 w' A r.l.length c (isW_pos HT.out).1
  generalize r.l.length - 1 = n1 at *
  generalize r.l.length = n at *
  clear hb1 hr1 hp hg
  generalize (if c = 1 then A else A.map (·.add 3)) = A2 at *
  go_wp2_with fail
  go_ret
  exact ⟨rfl, HP.out, ((Turn.refl [g] w).below HB1.out).setCell (.inl (by simp)) _⟩
set_option maxHeartbeats 4000000 in
theorem has_no (w : World) (g : Nat) (r : PS) (s : List UInt8) (h : RdG lo w g r) (hi : isW r s = false) : Calls Tryz.prog 46 #[.pointer (some ⟨g, 0, none⟩), .string (bs s)] w (Lg lo w g (.bool false) r) := by
  have C := Lib.hid (at_any w g r s h)
  rw [hi] at C
  have H := Lib.hid h
  clear h hi
  go_enter Tryz.func46, Tryz.ntmps46
  go_wp2_with fail
  refine C.out.mono ?_
  rintro e w1 ⟨rfl, hb1⟩
  have HB1 := Lib.hid hb1
  clear hb1
  go_wp2_with fail
  go_ret
  exact ⟨rfl, H.out.below HB1.out, (Turn.refl [g] w).below HB1.out⟩
set_option maxHeartbeats 4000000 in
theorem must_any (w : World) (g : Nat) (r : PS) (s : List UInt8) (h : RdG lo w g r) : Calls Tryz.prog 31 #[.pointer (some ⟨g, 0, none⟩), .string (bs s)] w (Lg lo w g (.tuple #[]) (mustP r s)) := by
  unfold mustP
  rcases Bool.eq_false_or_eq_true (isW r s) with hi | hi
  · have C := Lib.hid (has_yes w g r s h hi)
    rw [if_pos hi]
    clear h hi
    go_enter Tryz.func31, Tryz.ntmps31
    go_wp2_with fail
    refine C.out.mono ?_
    rintro e w1 ⟨rfl, h1, h2⟩
    have H1 := Lib.hid h1
    have H2 := Lib.hid h2
    clear h1 h2
    go_wp2_with fail
    go_end0
    exact ⟨rfl, H1.out, H2.out⟩
  · have C := Lib.hid (has_no w g r s h hi)
    rw [if_neg (by simp [hi])]
    clear h hi
    go_enter Tryz.func31, Tryz.ntmps31
    go_wp2_with fail
    refine C.out.mono ?_
    rintro e w1 ⟨rfl, h1, h2⟩
    have CF := Lib.hid (fail_any w1 g r h1)
    have H2 := Lib.hid h2
    clear h1 h2
    go_wp2_with fail
    refine CF.out.mono ?_
    rintro e w2 ⟨rfl, h1, h3⟩
    have H1 := Lib.hid h1
    have H3 := Lib.hid (H2.out.trans h3)
    clear h1 h3
    go_wp2_with fail
    go_end0
    exact ⟨rfl, H1.out, H3.out⟩
theorem RdG.bigged {w : World} {g : Nat} {r : PS} (h : RdG lo w g r) (B : Bool) : RdG lo (w.setCell ⟨g, 2, none⟩ (.bool B)) g ⟨r.l, r.bad, B⟩ := by
  obtain ⟨A, c, h1, h2, h3, h4⟩ := h.at_
  exact RdG.set h1 h ⟨r.l, r.bad, B⟩ A c 2 _ (by simp) h2 h3 h4 (Nat.le_refl _) (fun x hx => hx) h.ok
set_option maxHeartbeats 4000000 in
theorem bound_any (w : World) (g : Nat) (r : PS) (n m : Nat) (k : Int) (hk : k = m) (h : RdG lo w g r) : Calls Tryz.prog 48 #[.pointer (some ⟨g, 0, none⟩), .int .i64 n, .int .i64 k] w (Lg lo w g (.tuple #[]) (boundR r n m)) := by
  have HB := Lib.hid (h.bigged true)
  obtain ⟨a, c, h1, -⟩ := h.at_
  have f2 := free_at h1 2
  have g2 := cell_at h1 2
  simp only [List.getElem?_toArray, List.getElem?_cons_succ, List.getElem?_cons_zero] at g2
  have H := Lib.hid h
  clear h h1
  rcases Nat.lt_or_ge m n with hlt | hge
  · have HE : Hid (boundR r n m = ⟨r.l, r.bad, true⟩) := Lib.hid (by unfold boundR; simp [hlt])
    have hq : k < (n : Int) := by omega
    clear hlt hk
    go_enter Tryz.func48, Tryz.ntmps48
    go_wp2_with fail
    go_end0
    rw [HE.out]
    exact ⟨rfl, HB.out, (Turn.refl [g] w).setCell (.inl (by simp)) _⟩
  · have HE : Hid (boundR r n m = r) := Lib.hid (by unfold boundR; simp [Nat.not_lt.2 hge])
    have hq : ¬ k < (n : Int) := by omega
    clear hge hk
    go_enter Tryz.func48, Tryz.ntmps48
    go_wp2_with fail
    go_end0
    rw [HE.out]
    exact ⟨rfl, H.out, Turn.refl [g] w⟩
end Go.Proofs.YtlhbhpdpjidpgaaGreatDoor.Prg
/- The program's take, name, typed, truth: what they answer, and what they leave. Condition: the reader is known. -/
namespace Go.Proofs.YtlhbhpdpjidpgaaGreatDoor.Prg
open Go.RowKit Tre Prs
open Lex (Wd wdC wdV bs str Turn)
set_option maxRecDepth 100000
set_option linter.unusedSimpArgs false
variable {lo : Nat}
/-- The kinds, from k on, none of which is the next word's. -/
structure TakeAt (lo : Nat) (w W : World) (g kb xb : Nat) (x : Wd) (r : PS) (ks : List Int) : Prop where
  rd : RdG lo W g r
  res : W.heap[w.heap.size]? = some (.cells #[.int .i64 0, .string ⟨#[]⟩, .int .i64 0] 73 (0, 0))
  box : W.heap[xb]? = some (.cells #[.int .i64 x.k, .string (bs x.s), .int .i64 x.n] 73 (0, 0))
  kin : ∃ T, W.heap[kb]? = some (.cells (ks.map (fun k => Value.int .i64 k)).toArray T (0, 0))
  turn : Turn [g] w W
  lo : lo ≤ w.heap.size
theorem three_at {w : World} {b : Nat} {v0 v1 v2 : Value} {T : TypeId} (h : w.heap[b]? = some (.cells #[v0, v1, v2] T (0, 0))) : w.cell? ⟨b, 0, none⟩ = some v0 ∧ w.cell? ⟨b, 1, none⟩ = some v1 ∧ w.cell? ⟨b, 2, none⟩ = some v2 := ⟨cell_at h 0, cell_at h 1, cell_at h 2⟩
theorem set3 {w : World} {b : Nat} {a0 a1 a2 v0 v1 v2 : Value} {T : TypeId} (h : w.heap[b]? = some (.cells #[a0, a1, a2] T (0, 0))) : (((w.setCell ⟨b, 0, none⟩ v0).setCell ⟨b, 1, none⟩ v1).setCell ⟨b, 2, none⟩ v2).heap[b]? = some (.cells #[v0, v1, v2] T (0, 0)) := set_at (set_at (set_at h 0 v0) 1 v1) 2 v2
theorem turn3 (w : World) (b : Nat) (v0 v1 v2 : Value) : Turn [b] w (((w.setCell ⟨b, 0, none⟩ v0).setCell ⟨b, 1, none⟩ v1).setCell ⟨b, 2, none⟩ v2) := (((Turn.refl [b] w).setCell (.inl (by simp)) v0).setCell (.inl (by simp)) v1).setCell (.inl (by simp)) v2
theorem take_yes {r : PS} {ks : List Int} {k : Nat} (h : ks[k]? = some (peek r).k) : takeW r ks = peek r ∧ takeR r ks = tl r := by
  have : ks.contains (peek r).k = true := List.contains_iff_mem.2 (List.mem_of_getElem? h)
  unfold takeW takeR
  rw [if_pos this, if_pos this]
  exact ⟨rfl, rfl⟩
theorem take_not {r : PS} {ks : List Int} (h : ∀ j : Nat, j < ks.length → ks[j]? ≠ some (peek r).k) : takeW r ks = zeroW ∧ takeR r ks = failR r := by
  have : ¬ ks.contains (peek r).k = true := fun hc => by
    obtain ⟨j, hj⟩ := List.mem_iff_getElem?.1 (List.contains_iff_mem.1 hc)
    exact h j (List.getElem?_eq_some_iff.1 hj).1 hj
  unfold takeW takeR
  rw [if_neg this, if_neg this]
  exact ⟨rfl, rfl⟩
set_option maxHeartbeats 8000000 in
theorem take_any (w : World) (g kb : Nat) (r : PS) (ks : List Int) (h : RdG lo w g r) (hn10 : ks.length ≤ 10) (h0 : (0 : Int) ∉ ks) (hkb : kb ≠ g) (hks : ∃ T, w.heap[kb]? = some (.cells (ks.map (fun k => Value.int .i64 k)).toArray T (0, 0))) :
    Calls Tryz.prog 45 #[.pointer (some ⟨g, 0, none⟩), .slice (some ⟨kb, 0, none⟩) ks.length ks.length] w (Lg lo w g (wdV (takeW r ks)) (takeR r ks)) := by
  have hb := ball_new w #[.int .i64 0, .string ⟨#[]⟩, .int .i64 0] 73
  have C := Lib.hid (next_any _ g r (h.below hb))
  have HN := Lib.hid (new_at w #[.int .i64 0, .string ⟨#[]⟩, .int .i64 0] 73)
  have HG := Lib.hid h.lt
  have HB := Lib.hid hb
  have H := Lib.hid h
  obtain ⟨x, hx⟩ : ∃ x, peek r = x := ⟨_, rfl⟩
  have HX := Lib.hid hx
  have H0 := Lib.hid h0
  have HKB := Lib.hid hkb
  have HKS := Lib.hid hks
  rw [hx, wdV_eq] at C
  have HBX := Lib.hid (fun w' => word_box w' x)
  have HNX := Lib.hid (fun w' => new_at w' #[.int .i64 x.k, .string (bs x.s), .int .i64 x.n] 73)
  clear h hb hx h0 hkb hks
  obtain ⟨n, hn⟩ : ∃ n, ks.length = n := ⟨_, rfl⟩
  have HNN := Lib.hid hn
  rw [hn] at hn10 ⊢
  clear hn
  go_enter Tryz.func45, Tryz.ntmps45
  go_wp2_with fail
  refine C.out.mono ?_
  rintro e w1 ⟨rfl, hb1⟩
  have HB1 := Lib.hid hb1
  clear hb1
  go_wp2_with fail
  have HT : Hid (TakeAt lo w (w1.alloc (.cells #[.int .i64 x.k, .string (bs x.s), .int .i64 x.n] 73)) g kb w1.heap.size x r ks) := Lib.hid (by
    have b2 := HB1.out.trans ((HBX.out w1).mono HB1.out.size)
    have r1 := (b2.block _ (lt_of_heap HN.out)).trans HN.out
    obtain ⟨T, hT⟩ := HKS.out
    refine ⟨(H.out.below HB.out).below b2, r1, HNX.out w1, ⟨T, ?_⟩, ((Turn.refl [g] w).below HB.out).below b2, H.out.wlo⟩
    have hl := lt_of_heap hT
    exact (b2.block _ (by simp; omega)).trans ((HB.out.block _ hl).trans hT))
  clear HB1 C HN HB H HBX HNX HKS
  generalize (w1.alloc (.cells #[.int .i64 x.k, .string (bs x.s), .int .i64 x.n] 73)) = W at *
  generalize w1.heap.size = xb at *
  go_loopw [12] (fun i wr => ∃ k : Nat, i = .int .i64 k ∧ k ≤ n ∧ wr = W ∧ Hid (∀ j : Nat, j < k → ks[j]? ≠ some x.k)) (fun i _ => n - (intOf i).toNat)
  case atStart => exact ⟨0, rfl, Nat.zero_le _, rfl, Lib.hid (fun j hj => by omega)⟩
  case round =>
    obtain ⟨k, rfl, hk, rfl, HNO⟩ := hrel
    obtain ⟨c0, c1, c2⟩ := three_at HT.out.box
    obtain ⟨y0, y1, y2⟩ := three_at HT.out.res
    have f0 := free_at HT.out.res 0
    have f1 := free_at HT.out.res 1
    have f2 := free_at HT.out.res 2
    rcases Nat.lt_or_ge k n with hlt | hge
    · obtain ⟨q, hq⟩ : ∃ q, ks[k]? = some q := ⟨_, List.getElem?_eq_getElem (by rw [HNN.out]; exact hlt)⟩
      have s1 : wr.cell? ⟨kb, k, none⟩ = some (.int .i64 q) := by
        obtain ⟨T, hT⟩ := HT.out.kin
        rw [cell_at hT]
        simp [hq]
      rcases Bool.eq_false_or_eq_true (x.k == q) with he | he
      · have hE : x.k = q := by simpa using he
        have HTK := Lib.hid (take_yes (r := r) (ks := ks) (k := k) (by rw [hq, HX.out, hE]))
        have HKK : Hid (x.k ≠ 0) := Lib.hid (fun e => H0.out (by rw [hE] at e; rw [← e]; exact List.mem_of_getElem? hq))
        obtain ⟨A, c, hg, hp⟩ := HT.out.rd.pop (peek_k (by rw [HX.out]; exact HKK.out)).2
        have HP := Lib.hid hp
        have g0 := cell_at hg 0
        simp only [List.getElem?_toArray, List.getElem?_cons_zero] at g0
        have fg := free_at hg 0
        have CU := fun w' => cut1 w' A r.l.length c (peek_k (by rw [HX.out]; exact HKK.out)).2
        generalize r.l.length - 1 = n1 at *
        generalize r.l.length = nn at *
        clear hp hg hq hE
        generalize (if c = 1 then A else A.map (·.add 3)) = A2 at *
        have HGN : Hid (g ≠ w.heap.size) := Lib.hid (by have := HG.out; omega)
        have HGB : Hid (g ≠ xb) := Lib.hid (fun e => by
          have h1 := HT.out.box
          rw [← e] at h1
          obtain ⟨A, c, h2, -⟩ := HT.out.rd.at_
          rw [h1] at h2
          injection h2 with h2
          injection h2 with h3 h4
          cases h4)
        have hg1 := HGN.out
        have hg2 := HGB.out
        go_wp2_with fail
        have hres : (wr.setCell ⟨g, 0, none⟩ (.slice A2 n1 (c - 1))).heap[w.heap.size]? = some (.cells #[.int .i64 0, .string ⟨#[]⟩, .int .i64 0] 73 (0, 0)) := (Below.heap_setCell wr _ _ _ (fun e => hg1 e.symm)).trans HT.out.res
        refine bodyPost_ret (results_word rfl _ _ w.heap.size _ _ _ rfl (set3 hres)) rfl ?_
        rw [HTK.out.1, HTK.out.2, HX.out]
        exact ⟨rfl, HP.out.but (turn3 _ _ _ _ _) HT.out.lo, ((HT.out.turn.setCell (.inl (by simp)) _)).then_ (turn3 _ _ _ _ _) (fun k hk => by simp at hk; subst hk; exact .inr (Nat.le_refl _))⟩
      · have HNO2 : Hid (∀ j : Nat, j < k + 1 → ks[j]? ≠ some x.k) := Lib.hid (fun j hj e => by
          rcases Nat.lt_or_ge j k with h1 | h1
          · exact HNO.out j h1 e
          · obtain rfl : j = k := by omega
            rw [hq] at e
            injection e with e
            rw [e] at he
            simp at he)
        clear hq
        go_wp2_with fail
        go_roundw
        case rel => refine ⟨k + 1, ?_, ?_, ?_, HNO2⟩ <;> first | trivial | rfl | omega
        case measure => simp [intOf]; omega
    · obtain rfl : k = n := by omega
      have HTK := Lib.hid (take_not (r := r) (ks := ks) (by rw [HNN.out, HX.out]; exact HNO.out))
      have CF := Lib.hid (fail_any wr g r HT.out.rd)
      clear c0 c1 c2 y0 y1 y2 f0 f1 f2
      go_wp2_with fail
      refine CF.out.mono ?_
      rintro e w3 ⟨rfl, h1, h2⟩
      have HR3 := Lib.hid h1
      have H2 := Lib.hid h2
      have hres : w3.heap[w.heap.size]? = some (.cells #[.int .i64 0, .string ⟨#[]⟩, .int .i64 0] 73 (0, 0)) := (h2.block _ (lt_of_heap HT.out.res) (by have := HG.out; simp; omega)).trans HT.out.res
      have HRES := Lib.hid hres
      obtain ⟨y0, y1, y2⟩ := three_at hres
      have f0 := free_at hres 0
      have f1 := free_at hres 1
      have f2 := free_at hres 2
      clear h1 h2 hres CF
      go_wp2_with fail
      refine bodyPost_ret (results_word rfl _ _ w.heap.size _ _ _ rfl (set3 HRES.out)) rfl ?_
      rw [HTK.out.1, HTK.out.2]
      exact ⟨rfl, HR3.out.but (turn3 _ _ _ _ _) HT.out.lo, (HT.out.turn.trans H2.out).then_ (turn3 _ _ _ _ _) (fun k hk => by simp at hk; subst hk; exact .inr (Nat.le_refl _))⟩
theorem field_s (a b c : Value) (w : World) : (Instr.field 73 (.agg #[a, b, c]) 1).run Tryz.prog w = .ok b w := by kernel_rfl
theorem field_n (a b c : Value) (w : World) : (Instr.field 73 (.agg #[a, b, c]) 2).run Tryz.prog w = .ok c w := by kernel_rfl
theorem field_k (a b c : Value) (w : World) : (Instr.field 73 (.agg #[a, b, c]) 0).run Tryz.prog w = .ok a w := by kernel_rfl
set_option maxHeartbeats 4000000 in
theorem name_any (w : World) (g : Nat) (r : PS) (h : RdG lo w g r) : Calls Tryz.prog 81 #[.pointer (some ⟨g, 0, none⟩)] w (Lg lo w g (.string (bs (takeW r [1]).s)) (takeR r [1])) := by
  have hb := ball_new w #[.int .i64 1] 3
  have HG := h.lt
  have C := Lib.hid (take_any _ g w.heap.size r [1] (h.below hb) (by decide) (by decide) (by omega) ⟨_, new_at w _ _⟩)
  have HB := Lib.hid hb
  rw [wdV_eq] at C
  clear h hb
  generalize takeW r [1] = x at *
  have HF := fun w' => field_s (.int .i64 x.k) (.string (bs x.s)) (.int .i64 x.n) w'
  go_enter Tryz.func81, Tryz.ntmps81
  go_wp2_with fail
  refine C.out.mono ?_
  rintro e w1 ⟨rfl, h1, h2⟩
  have H1 := Lib.hid h1
  have H2 := Lib.hid h2
  clear h1 h2
  go_wp2_with fail
  go_ret
  exact ⟨rfl, H1.out, ((Turn.refl [g] w).below HB.out).then_ H2.out (fun k hk => .inl hk)⟩
def typN (r : PS) : Int := if isW r [105, 110, 116] then 1 else 2
def typR (r : PS) : PS := if isW r [105, 110, 116] then tl r else mustP r [98, 111, 111, 108]
set_option maxHeartbeats 4000000 in
theorem typed_any (w : World) (g : Nat) (r : PS) (h : RdG lo w g r) : Calls Tryz.prog 84 #[.pointer (some ⟨g, 0, none⟩)] w (Lg lo w g (.int .u8 (typN r)) (typR r)) := by
  unfold typN typR
  rcases Bool.eq_false_or_eq_true (isW r [105, 110, 116]) with hi | hi
  · have C := Lib.hid (has_yes w g r [105, 110, 116] h hi)
    rw [if_pos hi, if_pos hi]
    clear h hi
    go_enter Tryz.func84, Tryz.ntmps84
    go_wp2_with fail
    refine C.out.mono ?_
    rintro e w1 ⟨rfl, h1, h2⟩
    have H1 := Lib.hid h1
    have H2 := Lib.hid h2
    clear h1 h2
    go_wp2_with fail
    go_ret
    exact ⟨rfl, H1.out, H2.out⟩
  · have C := Lib.hid (has_no w g r [105, 110, 116] h hi)
    rw [if_neg (by simp [hi]), if_neg (by simp [hi])]
    clear h hi
    go_enter Tryz.func84, Tryz.ntmps84
    go_wp2_with fail
    refine C.out.mono ?_
    rintro e w1 ⟨rfl, h1, h2⟩
    have CF := Lib.hid (must_any w1 g r [98, 111, 111, 108] h1)
    have H2 := Lib.hid h2
    clear h1 h2
    go_wp2_with fail
    refine CF.out.mono ?_
    rintro e w2 ⟨rfl, h1, h3⟩
    have H1 := Lib.hid h1
    have H3 := Lib.hid (H2.out.trans h3)
    clear h1 h3
    go_wp2_with fail
    go_ret
    exact ⟨rfl, H1.out, H3.out⟩
theorem below5 {w u : World} {n b : Nat} (h : Below n w u) (hb : n ≤ b) (v0 v1 v2 v3 v4 : Value) : Below n w (((((u.setCell ⟨b, 0, none⟩ v0).setCell ⟨b, 1, none⟩ v1).setCell ⟨b, 2, none⟩ v2).setCell ⟨b, 3, none⟩ v3).setCell ⟨b, 4, none⟩ v4) :=
  ((((h.setCell hb _).setCell hb _).setCell hb _).setCell hb _).setCell hb _
set_option maxHeartbeats 4000000 in
theorem truth_any (w : World) (n : Int) : Calls Tryz.prog 89 #[.int .i64 n] w (EndsB (.agg #[.int .i64 2, .int .i64 n, .string ⟨#[]⟩, .string ⟨#[]⟩, .slice none 0 0]) w) := by
  have HB := Lib.hid (ball_new w #[.int .i64 2, .int .i64 n, .string ⟨#[]⟩, .string ⟨#[]⟩, .slice none 0 0] 36)
  go_enter Tryz.func89, Tryz.ntmps89
  go_wp2_with fail
  refine bodyPost_ret (results_expr rfl _ _ w.heap.size _ _ _ _ _ rfl (new_at _ _ _)) rfl ?_
  exact ⟨rfl, HB.out⟩
end Go.Proofs.YtlhbhpdpjidpgaaGreatDoor.Prg
/- The program's op: which sign of a level is next. Conditions: the reader is known; the table of signs lies as the program's text lays it. -/
namespace Go.Proofs.YtlhbhpdpjidpgaaGreatDoor.Prg
open Go.RowKit Tre Prs
open Lex (Wd wdC wdV bs str Turn)
set_option maxRecDepth 100000
set_option linter.unusedSimpArgs false
variable {lo : Nat}
/-- The table of signs: each with its level and its op. -/
def sigsL : List (List UInt8 × Int × Int) := [([42], 0, 7), ([47], 0, 8), ([37], 0, 9), ([43], 1, 10), ([45], 1, 11), ([61, 61], 2, 12), ([33, 61], 2, 13), ([60], 2, 14), ([60, 61], 2, 15), ([62], 2, 16), ([62, 61], 2, 17), ([38, 38], 3, 18), ([124, 124], 4, 19)]
def sigV : List Value := sigsL.flatMap (fun e => [.string (bs e.1), .int .i64 e.2.1, .int .i64 e.2.2])
def sig (k : Nat) : List UInt8 × Int × Int := sigsL.getD k ([], 0, 0)
def Sigs (w : World) : Prop := w.rangeAt 0 0 sigV
theorem Sigs.pos {w : World} (h : Sigs w) : 0 < w.heap.size := by
  have h0 := h 0 (.string (bs [42])) rfl
  by_cases hz : 0 < w.heap.size
  · exact hz
  · have : w.heap[0]? = none := Array.getElem?_eq_none (by omega)
    simp [World.cell?, this] at h0
theorem Sigs.below {w w' : World} {n : Nat} (h : Sigs w) (h0 : 0 < n) (hb : Below n w w') : Sigs w' := fun j v hv => (World.cell?_of_block (w := w) (hb.block _ h0)).trans (h j v hv)
theorem Sigs.turn {w w' : World} {S : List Nat} (h : Sigs w) (ht : Turn S w w') (hs : 0 ∉ S) : Sigs w' := fun j v hv => (World.cell?_of_block (w := w) (ht.block _ h.pos hs)).trans (h j v hv)
theorem size_sigs : (Tryz.prog.info? 141).map (·.size) = some 39 := by kernel_rfl
theorem index_sig (k : Nat) (hk : k < 13) (w : World) : (Instr.index 141 (.agg sigV.toArray) (.int .i64 k)).run Tryz.prog w = .ok (.agg #[.string (bs (sig k).1), .int .i64 (sig k).2.1, .int .i64 (sig k).2.2]) w := by
  obtain rfl | rfl | rfl | rfl | rfl | rfl | rfl | rfl | rfl | rfl | rfl | rfl | rfl : k = 0 ∨ k = 1 ∨ k = 2 ∨ k = 3 ∨ k = 4 ∨ k = 5 ∨ k = 6 ∨ k = 7 ∨ k = 8 ∨ k = 9 ∨ k = 10 ∨ k = 11 ∨ k = 12 := by omega
  all_goals clear hk
  all_goals kernel_rfl
/-- Does an entry of the table tell the next word's op? -/
def hit (L : Int) (r : PS) (e : List UInt8 × Int × Int) : Bool := e.2.1 == L && isW r e.1
theorem find_level {L : Nat} (hL : L ≤ 4) (r : PS) : ((sigsL.find? (hit (L : Int) r)).map (·.2.2)) = ((level (4 - L)).find? (fun p => isW r p.1)).map (·.2) := by
  match L, hL with
  | 0, _ => simp only [sigsL, level, hit, List.find?]; simp; repeat' split <;> simp_all
  | 1, _ => simp only [sigsL, level, hit, List.find?]; simp; repeat' split <;> simp_all
  | 2, _ => simp only [sigsL, level, hit, List.find?]; simp; repeat' split <;> simp_all
  | 3, _ => simp only [sigsL, level, hit, List.find?]; simp; repeat' split <;> simp_all
  | 4, _ => simp only [sigsL, level, hit, List.find?]; simp; repeat' split <;> simp_all
  | L + 5, h => exact absurd h (by omega)
theorem op_hit {L k : Nat} {r : PS} (hL : L ≤ 4) (hk : k < 13) (no : ∀ j : Nat, j < k → hit L r (sig j) = false) (hi : hit L r (sig k) = true) : opN (4 - L) r = (sig k).2.2 ∧ opR (4 - L) r = tl r := by
  have hf : sigsL.find? (hit (L : Int) r) = some (sig k) := by
    have hk' : k < sigsL.length := hk
    have hs : sigsL[k] = sig k := by unfold sig; rw [List.getD_eq_getElem?_getD, List.getElem?_eq_getElem hk']; rfl
    have e : sigsL = sigsL.take k ++ sig k :: sigsL.drop (k + 1) := by
      rw [← hs, List.getElem_cons_drop, List.take_append_drop]
    rw [e, List.find?_append, List.find?_eq_none.2 (fun q hq => ?_)]
    · simp [hi]
    · obtain ⟨j, hj⟩ := List.mem_iff_getElem?.1 hq
      have hjl := (List.getElem?_eq_some_iff.1 hj).1
      rw [List.length_take] at hjl
      have hj2 : j < k := by omega
      rw [List.getElem?_take_of_lt hj2] at hj
      have : q = sig j := by unfold sig; rw [List.getD_eq_getElem?_getD, hj]; rfl
      rw [this]
      simp [no j hj2]
  have h2 := find_level hL r
  rw [hf] at h2
  unfold opN opR
  cases hc : (level (4 - L)).find? (fun p => isW r p.1) with
  | none => rw [hc] at h2; simp at h2
  | some p =>
    rw [hc] at h2
    simp at h2
    exact ⟨h2.symm, rfl⟩
theorem op_none {L : Nat} {r : PS} (hL : L ≤ 4) (no : ∀ j : Nat, j < 13 → hit L r (sig j) = false) : opN (4 - L) r = 0 ∧ opR (4 - L) r = r := by
  have hf : sigsL.find? (hit (L : Int) r) = none := List.find?_eq_none.2 fun q hq => by
    obtain ⟨j, hj⟩ := List.mem_iff_getElem?.1 hq
    have hjl : j < 13 := (List.getElem?_eq_some_iff.1 hj).1
    have : q = sig j := by unfold sig; rw [List.getD_eq_getElem?_getD, hj]; rfl
    rw [this]
    simp [no j hjl]
  have h2 := find_level hL r
  rw [hf] at h2
  unfold opN opR
  cases hc : (level (4 - L)).find? (fun p => isW r p.1) with
  | none => exact ⟨rfl, rfl⟩
  | some p => rw [hc] at h2; simp at h2
structure OpAt (lo : Nat) (w wr : World) (g : Nat) (r : PS) (L k : Nat) : Prop where
  rd : RdG lo wr g r
  turn : Turn [g] w wr
  no : ∀ j : Nat, j < k → hit L r (sig j) = false
set_option maxHeartbeats 8000000 in
theorem op_any (w : World) (g : Nat) (r : PS) (L : Nat) (hL : L ≤ 4) (h : RdG lo w g r) (hS : Sigs w) : Calls Tryz.prog 92 #[.pointer (some ⟨g, 0, none⟩), .int .i64 L] w (Lg lo w g (.int .i64 (opN (4 - L) r)) (opR (4 - L) r)) := by
  have HL := Lib.hid hL
  have HS := Lib.hid hS
  have HIX := Lib.hid (fun k (hk : k < 13) => index_sig k hk)
  have HSZ : Hid (sigV.length = 39) := Lib.hid rfl
  have START : Hid (OpAt lo w w g r L 0) := Lib.hid ⟨h, Turn.refl [g] w, fun j hj => by omega⟩
  have hr : w.rangeAt 0 0 sigV := hS
  have HR := Lib.hid hr
  clear h hS hL hr HS
  generalize sigV = SV at *
  go_enter Tryz.func92, Tryz.ntmps92
  go_wp2_with (with_reducible refine wpList_load_mid rfl 141 (.global 0) rfl 0 0 rfl SV _ HR.out Tryz.underlying141 rfl (by rw [HSZ.out]; exact size_sigs) ?_)
  go_loopw [8] (fun i wr => ∃ k : Nat, i = .int .i64 k ∧ k ≤ 13 ∧ Hid (OpAt lo w wr g r L k)) (fun i _ => 13 - (intOf i).toNat)
  case atStart => exact ⟨0, rfl, Nat.zero_le _, START⟩
  case round =>
    clear START
    obtain ⟨k, rfl, hk, HO⟩ := hrel
    rcases Nat.lt_or_ge k 13 with hlt | hge
    · have hix := HIX.out k hlt
      obtain ⟨e0, he0⟩ : ∃ e, sig k = e := ⟨_, rfl⟩
      have HE := Lib.hid he0
      rw [he0] at hix
      clear he0
      obtain ⟨s, lv, op⟩ := e0
      dsimp only at hix
      have HB := Lib.hid (ball_new wr #[.string (bs s), .int .i64 lv, .int .i64 op] 140)
      have HN := Lib.hid (new_at wr #[.string (bs s), .int .i64 lv, .int .i64 op] 140)
      have HR1 := Lib.hid (HO.out.rd.below HB.out)
      have HG : Hid (g < wr.heap.size) := Lib.hid HO.out.rd.lt
      have hn := HN.out
      obtain ⟨c0, c1, c2⟩ := three_at hn
      clear hn
      rcases Bool.eq_false_or_eq_true (lv == (L : Int)) with hlv | hlv
      · rcases Bool.eq_false_or_eq_true (isW r s) with hi | hi
        · have C := Lib.hid (has_yes _ g r s HR1.out hi)
          have HH := Lib.hid (op_hit (r := r) (k := k) HL.out hlt HO.out.no (by rw [HE.out]; unfold hit; simp only [hlv, hi, Bool.and_self]))
          clear hi
          go_wp2_with fail
          refine C.out.mono ?_
          rintro e w2 ⟨rfl, h1, h2⟩
          have hbx : w2.heap[wr.heap.size]? = _ := (h2.block _ (lt_of_heap HN.out) (by have := HG.out; simp; omega)).trans HN.out
          obtain ⟨d0, d1, d2⟩ := three_at hbx
          have H1 := Lib.hid h1
          have H2 := Lib.hid ((HO.out.turn.below HB.out).trans h2)
          clear h1 h2 hbx C c0 c1 c2
          go_wp2_with fail
          go_ret
          rw [HH.out.1, HH.out.2, HE.out]
          exact ⟨rfl, H1.out, H2.out⟩
        · have C := Lib.hid (has_no _ g r s HR1.out hi)
          have HNO : Hid (hit L r (sig k) = false) := Lib.hid (by rw [HE.out]; unfold hit; simp only [hi, Bool.and_false])
          clear hi
          go_wp2_with fail
          refine C.out.mono ?_
          rintro e w2 ⟨rfl, h1, h2⟩
          have HA : Hid (OpAt lo w w2 g r L (k + 1)) := Lib.hid ⟨h1, (HO.out.turn.below HB.out).trans h2, fun j hj => by
            rcases Nat.lt_or_ge j k with hjk | hjk
            · exact HO.out.no j hjk
            · obtain rfl : j = k := by omega
              exact HNO.out⟩
          clear h1 h2 C c0 c1 c2
          go_wp2_with fail
          go_roundw
          case rel => refine ⟨k + 1, ?_, ?_, HA⟩ <;> first | trivial | rfl | omega
          case measure => simp [intOf]; omega
      · have HNO : Hid (hit L r (sig k) = false) := Lib.hid (by rw [HE.out]; unfold hit; simp only [hlv, Bool.false_and])
        have HA : Hid (OpAt lo w (wr.alloc (.cells #[.string (bs s), .int .i64 lv, .int .i64 op] 140)) g r L (k + 1)) := Lib.hid ⟨HR1.out, HO.out.turn.below HB.out, fun j hj => by
            rcases Nat.lt_or_ge j k with hjk | hjk
            · exact HO.out.no j hjk
            · obtain rfl : j = k := by omega
              exact HNO.out⟩
        go_wp2_with fail
        go_roundw
        case rel => refine ⟨k + 1, ?_, ?_, HA⟩ <;> first | trivial | rfl | omega
        case measure => simp [intOf]; omega
    · obtain rfl : k = 13 := by omega
      have HH := Lib.hid (op_none (r := r) HL.out HO.out.no)
      go_wp2_with fail
      go_ret
      rw [HH.out.1, HH.out.2]
      exact ⟨rfl, HO.out.rd, HO.out.turn⟩
end Go.Proofs.YtlhbhpdpjidpgaaGreatDoor.Prg
/- The document's level: the signs of a row of ops and their ops. Condition: the level is one of the five. -/
namespace Go.Proofs.YtlhbhpdpjidpgaaGreatDoor.Prs
open Go.RowKit Tre
open Lex (Wd wdC wdV bs str Turn)
set_option maxRecDepth 100000
set_option linter.unusedSimpArgs false
def signsV (k : Nat) : Array Value := ((level k).map (fun p => Value.string (bs p.1))).toArray
def opsV (k : Nat) : Array Value := ((level k).map (fun p => Value.int .i64 p.2)).toArray
/-- What level leaves: two new rows. -/
def LevR (w : World) (k : Nat) (e : Ending) (w' : World) : Prop :=
  e = .returned (.tuple #[.slice (some ⟨w.heap.size, 0, none⟩) (level k).length (level k).length, .slice (some ⟨w.heap.size + 1, 0, none⟩) (level k).length (level k).length]) ∧ Below w.heap.size w w' ∧
  w'.heap[w.heap.size]? = some (.cells (signsV k) 9 (0, 0)) ∧ w'.heap[w.heap.size + 1]? = some (.cells (opsV k) 3 (0, 0))
theorem lev_end (w : World) (k : Nat) : LevR w k (.returned (.tuple #[.slice (some ⟨w.heap.size, 0, none⟩) (level k).length (level k).length, .slice (some ⟨w.heap.size + 1, 0, none⟩) (level k).length (level k).length])) ((w.alloc (.cells (signsV k) 9)).alloc (.cells (opsV k) 3)) := by
  refine ⟨rfl, ?_, ?_, ?_⟩
  · have h1 := ball_new w (signsV k) 9
    have h2 := ball_new (w.alloc (.cells (signsV k) 9)) (opsV k) 3
    exact h1.trans (h2.mono (by simp))
  · have h2 := ball_new (w.alloc (.cells (signsV k) 9)) (opsV k) 3
    exact (h2.block _ (by simp)).trans (new_at w _ _)
  · have := new_at (w.alloc (.cells (signsV k) 9)) (opsV k) 3
    simpa using this
set_option maxHeartbeats 4000000 in
theorem level_any (w : World) (k : Nat) (hk : k ≤ 4) : Calls Tryz.prog 58 #[.int .i64 k] w (LevR w k) := by
  obtain rfl | rfl | rfl | rfl | rfl : k = 0 ∨ k = 1 ∨ k = 2 ∨ k = 3 ∨ k = 4 := by omega
  all_goals clear hk
  all_goals go_enter Tryz.func58, Tryz.ntmps58
  all_goals go_wp2_with fail
  all_goals go_ret2
  · exact lev_end w 0
  · exact lev_end w 1
  · exact lev_end w 2
  · exact lev_end w 3
  · exact lev_end w 4
end Go.Proofs.YtlhbhpdpjidpgaaGreatDoor.Prs
