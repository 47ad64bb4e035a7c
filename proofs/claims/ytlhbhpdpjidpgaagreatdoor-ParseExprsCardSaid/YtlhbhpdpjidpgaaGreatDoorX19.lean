/-
  The document's expressions, whole: row, unary and call tell what the plain grammar tells. Condition: the reader is known.
-/
import Derived.Test.YtlhbhpdpjidpgaaGreatDoorX06
import Derived.Test.YtlhbhpdpjidpgaaGreatDoorX17
import Derived.Test.YtlhbhpdpjidpgaaGreatDoorX18
namespace Go.Proofs.YtlhbhpdpjidpgaaGreatDoor.Prs
open Go.RowKit Tre
open Lex (Wd wdC wdV bs str Turn)
set_option maxRecDepth 100000
set_option linter.unusedSimpArgs false
variable {lo : Nat}
theorem wordS_len {w : World} {g : Nat} {r : PS} (h : RdM lo w g r) (k : Int) (key : Bool) : (wordS r k key).length ≤ 1000000 := by
  unfold wordS
  split
  · simp
  · unfold peek
    split
    · simp [zeroW]
    · cases hl : r.l with
      | nil => simp [zeroW]
      | cons x t =>
        have := h.txt x (by rw [hl]; simp)
        exact this
set_option maxHeartbeats 4000000 in
theorem row_top (w : World) (g : Nat) (r : PS) (h : RdM lo w g r) (p : Tx × PS) (CU : ∀ w', RdM lo w' g r → Hid (Calls Tryz.prog 57 #[.pointer (some ⟨g, 0, none⟩)] w' (Ev lo w' g p))) :
    Calls Tryz.prog 32 #[.pointer (some ⟨g, 0, none⟩), .int .i64 5] w (Ev lo w g p) := by
  have hb := ball_new w #[.int .i64 0, .int .i64 0, .string ⟨#[]⟩, .string ⟨#[]⟩, .slice none 0 0] 36
  have HN := Lib.hid (new_at w #[.int .i64 0, .int .i64 0, .string ⟨#[]⟩, .string ⟨#[]⟩, .slice none 0 0] 36)
  have HG := Lib.hid h.lt
  have HB := Lib.hid hb
  have HLO := Lib.hid h.wlo
  have C := CU _ (h.below hb)
  clear h hb CU
  go_enter Tryz.func32, Tryz.ntmps32
  go_wp2_with fail
  refine C.out.mono ?_
  rintro e w2 ⟨x, rfl, hx1, hx2, hx3, hx4, hx5⟩
  rw [exV_eq]
  have HX1 := Lib.hid hx1
  have HX2 := Lib.hid hx2
  have HX3 := Lib.hid hx3
  have HX4 := Lib.hid hx4
  have HX5 := Lib.hid hx5
  have HR4 := Lib.hid (res_keep HG.out hx5)
  clear hx1 hx2 hx3 hx4 hx5 C
  obtain ⟨y0, y1, y2, y3, y4⟩ := five_at HR4.out
  have f0 := free_at HR4.out 0
  have f1 := free_at HR4.out 1
  have f2 := free_at HR4.out 2
  have f3 := free_at HR4.out 3
  have f4 := free_at HR4.out 4
  go_wp2_with fail
  have HT := Lib.hid (turn5 w2 w.heap.size (.int .i64 x.op) (.int .i64 x.n) (.string x.s) (.string x.q) (.slice x.a x.x.length x.c))
  refine bodyPost_ret (results_expr rfl _ _ w.heap.size _ _ _ _ _ rfl (set5 HR4.out)) rfl ?_
  exact pass_end (by simp) HLO.out HX1.out HX2.out HX3.out HB.out (Turn.refl [g] _) HX5.out HX4.out HT.out
/-- All three, as far as N steps are enough. -/
theorem all_upto (g : Nat) : ∀ (N : Nat),
    (∀ (k : Nat) (r : PS) (w : World), k ≤ 5 → enough (.row k) r ≤ N → RdM lo w g r → Calls Tryz.prog 32 #[.pointer (some ⟨g, 0, none⟩), .int .i64 (k : Int)] w (Ev lo w g (tell (.row k) r))) ∧
    (∀ (r : PS) (w : World), enough .unary r ≤ N → RdM lo w g r → Calls Tryz.prog 57 #[.pointer (some ⟨g, 0, none⟩)] w (Ev lo w g (tell .unary r))) ∧
    (∀ (s : List UInt8) (r : PS) (w : World), s.length ≤ 1000000 → enough (.call s) r ≤ N → RdM lo w g r → Calls Tryz.prog 93 #[.pointer (some ⟨g, 0, none⟩), .string (bs s)] w (Ev lo w g (tell (.call s) r)))
  | 0 => ⟨fun k r w _ h _ => by simp only [enough, need] at h; omega, fun r w h _ => by simp only [enough, need] at h; omega, fun s r w _ h _ => by simp only [enough, need] at h; omega⟩
  | N + 1 => by
    obtain ⟨IR, IU, IC⟩ := all_upto g N
    refine ⟨fun k r w hk h hr => ?_, fun r w h hr => ?_, fun s r w hs h hr => ?_⟩
    · simp only [enough, need] at h
      by_cases h4 : k ≤ 4
      · exact row_any w g r k h4 hr fun w' r' hr' hl => Lib.hid (IR (k + 1) r' w' (by omega) (by simp only [enough, need]; omega) hr')
      · obtain rfl : k = 5 := by omega
        rw [tell_top (by omega)]
        exact row_top w g r hr _ fun w' hr' => Lib.hid (IU r w' (by simp only [enough, need]; omega) hr')
    · simp only [enough, need] at h
      have h1 := lenR_tl r
      rw [tell_unary]
      rcases Bool.eq_false_or_eq_true (isW r [45]) with n0 | n0
      · rw [if_pos n0]
        have h2 := lenR_pos n0
        exact unary_neg w g r hr n0 _ fun w' hr' => Lib.hid (IU (tl r) w' (by simp only [enough, need]; omega) hr')
      rw [if_neg (by simp [n0])]
      rcases Bool.eq_false_or_eq_true (isW r [33]) with n1 | n1
      · rw [if_pos n1]
        have h2 := lenR_pos n1
        exact unary_bang w g r hr n0 n1 _ fun w' hr' => Lib.hid (IU (tl r) w' (by simp only [enough, need]; omega) hr')
      rw [if_neg (by simp [n1])]
      rcases Bool.eq_false_or_eq_true (isW r [116, 114, 117, 101]) with n2 | n2
      · rw [if_pos n2]
        exact unary_true w g r hr n0 n1 n2
      rw [if_neg (by simp [n2])]
      rcases Bool.eq_false_or_eq_true (isW r [102, 97, 108, 115, 101]) with n3 | n3
      · rw [if_pos n3]
        exact unary_false w g r hr n0 n1 n2 n3
      rw [if_neg (by simp [n3])]
      rcases Bool.eq_false_or_eq_true (isW r [40]) with n4 | n4
      · rw [if_pos n4]
        have h2 := lenR_pos n4
        exact unary_par w g r hr n0 n1 n2 n3 n4 (tell (.row 0) (tl r)) fun w' hr' => Lib.hid (IR 0 (tl r) w' (by omega) (by simp only [enough, need]; omega) hr')
      rw [if_neg (by simp [n4])]
      rcases Bool.eq_false_or_eq_true ((peek r).k == 2) with hk | hk
      · rw [if_pos hk]
        exact unary_num w g r hr n0 n1 n2 n3 n4 hk
      rw [if_neg (by simp [hk])]
      have hwl := fun (hi : isW (wordR r 1 false) [40] = true ∨ isW (wordR r 1 false) [46] = true) => word_pos (r := r) hi
      rcases Bool.eq_false_or_eq_true (isW (wordR r 1 false) [40]) with i1 | i1
      · rw [if_pos (by simp [i1])]
        have h2 := hwl (.inl i1)
        exact unary_call w g r hr n0 n1 n2 n3 n4 hk i1 _ fun w' hr' => Lib.hid (IC _ _ w' (wordS_len hr 1 false) (by simp only [enough, need]; omega) hr')
      rcases Bool.eq_false_or_eq_true (isW (wordR r 1 false) [46]) with i2 | i2
      · rw [if_pos (by simp [i2])]
        have h2 := hwl (.inr i2)
        exact unary_dot w g r hr n0 n1 n2 n3 n4 hk i1 i2 _ fun w' hr' => Lib.hid (IC _ _ w' (wordS_len hr 1 false) (by simp only [enough, need]; omega) hr')
      rw [if_neg (by simp [i1, i2])]
      exact unary_name w g r hr n0 n1 n2 n3 n4 hk i1 i2
    · simp only [enough, need] at h
      have CR : ∀ w' r', RdM lo w' g r' → lenR r' < lenR r → Hid (Calls Tryz.prog 32 #[.pointer (some ⟨g, 0, none⟩), .int .i64 0] w' (Ev lo w' g (tell (.row 0) r'))) := fun w' r' hr' hl => Lib.hid (IR 0 r' w' (by omega) (by simp only [enough, need]; omega) hr')
      rcases Bool.eq_false_or_eq_true (isW r [46]) with hi | hi
      · exact call_dot w g r s hr hs hi CR
      · exact call_plain w g r s hr hs hi CR
/-- row(0): an expression. -/
theorem expr_any (w : World) (g : Nat) (r : PS) (h : RdM lo w g r) : Calls Tryz.prog 32 #[.pointer (some ⟨g, 0, none⟩), .int .i64 0] w (Ev lo w g (tell (.row 0) r)) :=
  (all_upto g (enough (.row 0) r)).1 0 r w (by omega) (Nat.le_refl _) h
theorem call_any (w : World) (g : Nat) (s : List UInt8) (r : PS) (h : RdM lo w g r) (hs : s.length ≤ 1000000) : Calls Tryz.prog 93 #[.pointer (some ⟨g, 0, none⟩), .string (bs s)] w (Ev lo w g (tell (.call s) r)) :=
  (all_upto g (enough (.call s) r)).2.2 s r w hs (Nat.le_refl _) h
end Go.Proofs.YtlhbhpdpjidpgaaGreatDoor.Prs
/- The document's kind and end: what they answer, and what they leave. Condition: the reader is known. -/
namespace Go.Proofs.YtlhbhpdpjidpgaaGreatDoor.Prs
open Go.RowKit Tre
open Lex (Wd wdC wdV bs str Turn)
set_option maxRecDepth 100000
set_option linter.unusedSimpArgs false
variable {lo : Nat}
def kindN (r : PS) : Int := if isW r [105, 110, 116] then 1 else if isW r [98, 111, 111, 108] then 2 else 0
def kindR (r : PS) : PS := if isW r [105, 110, 116] || isW r [98, 111, 111, 108] then tl r else r
def endN (r : PS) : Int := if r.bad || decide (0 < r.l.length) then 7 else if r.big then 11 else 0
set_option maxHeartbeats 4000000 in
theorem kind_any (w : World) (g : Nat) (r : PS) (h : RdM lo w g r) : Calls Tryz.prog 52 #[.pointer (some ⟨g, 0, none⟩)] w (Lv lo w g (.int .u8 (kindN r)) (kindR r)) := by
  rcases Bool.eq_false_or_eq_true (isW r [105, 110, 116]) with h1 | h1
  · have C := Lib.hid (skip_yes w g r [105, 110, 116] h h1)
    have e1 : kindN r = 1 := by simp [kindN, h1]
    have e2 : kindR r = tl r := by simp [kindR, h1]
    rw [e1, e2]
    clear h h1 e1 e2
    go_enter Tryz.func52, Tryz.ntmps52
    go_wp2_with fail
    refine C.out.mono ?_
    rintro e v1 ⟨rfl, q1, q2⟩
    have H1 := Lib.hid q1
    have H2 := Lib.hid q2
    clear q1 q2
    go_wp2_with fail
    go_ret
    exact ⟨rfl, H1.out, H2.out⟩
  · have C := Lib.hid (skip_no w g r [105, 110, 116] h h1)
    rcases Bool.eq_false_or_eq_true (isW r [98, 111, 111, 108]) with h2 | h2
    · have C2 := fun w' (h' : RdM lo w' g r) => Lib.hid (skip_yes w' g r [98, 111, 111, 108] h' h2)
      have e1 : kindN r = 2 := by simp [kindN, h1, h2]
      have e2 : kindR r = tl r := by simp [kindR, h1, h2]
      rw [e1, e2]
      clear h h1 h2 e1 e2
      go_enter Tryz.func52, Tryz.ntmps52
      go_wp2_with fail
      refine C.out.mono ?_
      rintro e v1 ⟨rfl, q1, q2⟩
      have C3 := C2 _ q1
      have H2 := Lib.hid q2
      clear q1 q2
      go_wp2_with fail
      refine C3.out.mono ?_
      rintro e v2 ⟨rfl, q1, q2⟩
      have H3 := Lib.hid q1
      have H4 := Lib.hid (H2.out.trans q2)
      clear q1 q2
      go_wp2_with fail
      go_ret
      exact ⟨rfl, H3.out, H4.out⟩
    · have C2 := fun w' (h' : RdM lo w' g r) => Lib.hid (skip_no w' g r [98, 111, 111, 108] h' h2)
      have e1 : kindN r = 0 := by simp [kindN, h1, h2]
      have e2 : kindR r = r := by simp [kindR, h1, h2]
      rw [e1, e2]
      clear h h1 h2 e1 e2
      go_enter Tryz.func52, Tryz.ntmps52
      go_wp2_with fail
      refine C.out.mono ?_
      rintro e v1 ⟨rfl, q1, q2⟩
      have C3 := C2 _ q1
      have H2 := Lib.hid q2
      clear q1 q2
      go_wp2_with fail
      refine C3.out.mono ?_
      rintro e v2 ⟨rfl, q1, q2⟩
      have H3 := Lib.hid q1
      have H4 := Lib.hid (H2.out.trans q2)
      clear q1 q2
      go_wp2_with fail
      go_ret
      exact ⟨rfl, H3.out, H4.out⟩
set_option maxHeartbeats 4000000 in
theorem end_any (w : World) (g : Nat) (r : PS) (h : RdM lo w g r) : Calls Tryz.prog 26 #[.pointer (some ⟨g, 0, none⟩)] w (EndsB (.int .i64 (endN r)) w) := by
  obtain ⟨a, c, h1, -⟩ := h.at_
  have HL := Lib.hid h.len
  have g0 := cell_at h1 0
  have g1 := cell_at h1 1
  have g2 := cell_at h1 2
  simp only [List.getElem?_toArray, List.getElem?_cons_succ, List.getElem?_cons_zero] at g0 g1 g2
  have HB := Lib.hid (Below.refl w.heap.size w)
  unfold endN
  clear h1 h
  obtain ⟨l, bad, big⟩ := r
  dsimp only at g0 g1 g2 HL
  cases bad with
  | true =>
    have e1 : (if (true || decide (0 < l.length)) = true then (7 : Int) else if big = true then 11 else 0) = 7 := by simp
    rw [e1]
    clear e1
    go_enter Tryz.func26, Tryz.ntmps26
    go_wp2_with fail
    go_ret
    exact ⟨rfl, HB.out⟩
  | false =>
    have hl := HL.out
    rcases Nat.eq_zero_or_pos l.length with h0 | h0
    · rw [h0] at g0
      cases big with
      | true =>
        have e1 : (if (false || decide (0 < l.length)) = true then (7 : Int) else if true = true then 11 else 0) = 11 := by simp [h0]
        rw [e1]
        clear e1 h0 hl
        go_enter Tryz.func26, Tryz.ntmps26
        go_wp2_with fail
        go_ret
        exact ⟨rfl, HB.out⟩
      | false =>
        have e1 : (if (false || decide (0 < l.length)) = true then (7 : Int) else if false = true then 11 else 0) = 0 := by simp [h0]
        rw [e1]
        clear e1 h0 hl
        go_enter Tryz.func26, Tryz.ntmps26
        go_wp2_with fail
        go_ret
        exact ⟨rfl, HB.out⟩
    · have e1 : (if (false || decide (0 < l.length)) = true then (7 : Int) else if big = true then 11 else 0) = 7 := by simp [h0]
      rw [e1]
      clear e1
      generalize l.length = n at *
      have hd : decide ((0 : Int) < (n : Int)) = true := by simp; omega
      go_enter Tryz.func26, Tryz.ntmps26
      go_wp2_with fail
      go_ret
      exact ⟨rfl, HB.out⟩
end Go.Proofs.YtlhbhpdpjidpgaaGreatDoor.Prs
/- Statements in memory, behind a call that tells them. No condition. -/
namespace Go.Proofs.YtlhbhpdpjidpgaaGreatDoor.Prs
open Go.RowKit Tre
open Lex (Wd wdC wdV bs str Turn info_of)
set_option maxRecDepth 100000
set_option linter.unusedSimpArgs false
variable {lo : Nat}
/-- All of the statement's rows lie from block b on. -/
def NewS (b : Nat) (s : St) : Prop := ∀ y ∈ flatS s, New b y.e ∧ (∀ ad, y.a = some ad → b ≤ ad.block) ∧ (∀ ad, y.a2 = some ad → b ≤ ad.block)
theorem NewS.mono {b c : Nat} {s : St} (h : NewS b s) (hc : c ≤ b) : NewS c s := fun y hy => ⟨(h y hy).1.mono hc, fun ad e => Nat.le_trans hc ((h y hy).2.1 ad e), fun ad e => Nat.le_trans hc ((h y hy).2.2 ad e)⟩
/-- No row of the statement lies in the blocks S. -/
def OffS (S : List Nat) (s : St) : Prop := ∀ y ∈ flatS s, Off S y.e ∧ (0 < y.b.length → ∀ b o, y.a = some ⟨b, o, none⟩ → b ∉ S) ∧ (0 < y.b2.length → ∀ b o, y.a2 = some ⟨b, o, none⟩ → b ∉ S)
theorem StIn.off {S : List Nat} {w w' : World} {s : St} (h : StIn w s) (ho : OffS S s) (ht : Turn S w w') : StIn w' s := fun y hy => by
  have hn := h y hy
  have hf := ho y hy
  exact ⟨ExIn.off hn.e hf.1 ht, fun h0 => Row.kept hn.row ht.size (fun b' o e hlt => ht.block b' hlt (hf.2.1 h0 _ _ e)) h0, fun h0 => Row.kept hn.row2 ht.size (fun b' o e hlt => ht.block b' hlt (hf.2.2 h0 _ _ e)) h0, hn.len, hn.len2, hn.s⟩
theorem NewS.off {b : Nat} {S : List Nat} {s : St} (h : NewS b s) (hs : ∀ k ∈ S, k < b) : OffS S s := fun y hy => by
  obtain ⟨h1, h2, h3⟩ := h y hy
  refine ⟨h1.off hs, fun _ c o e hm => ?_, fun _ c o e hm => ?_⟩
  · have := h2 _ e
    have := hs _ hm
    simp only at *
    omega
  · have := h3 _ e
    have := hs _ hm
    simp only at *
    omega
theorem StIn.fresh {w : World} {s : St} (h : StIn w s) : OffS [w.heap.size] s := fun y hy => by
  have hn := h y hy
  refine ⟨ExIn.fresh hn.e, fun h0 b o e hm => ?_, fun h0 b o e hm => ?_⟩
  · obtain ⟨b', o', e', hlt, _⟩ := hn.row h0
    rw [e] at e'
    injection e' with e'
    injection e' with e1
    simp at hm
    omega
  · obtain ⟨b', o', e', hlt, _⟩ := hn.row2 h0
    rw [e] at e'
    injection e' with e'
    injection e' with e1
    simp at hm
    omega
/-- What a call leaves that tells a statement. -/
def EvS (lo : Nat) (w : World) (g : Nat) (t : Ts) (r : PS) (e : Ending) (w' : World) : Prop := ∃ s : St, e = .returned (stV s) ∧ coreS s = t ∧ StIn w' s ∧ NewS w.heap.size s ∧ RdM lo w' g r ∧ Turn [g] w w'
/-- What a call leaves that tells a row of statements. -/
def EvB (lo : Nat) (w : World) (g : Nat) (p : List Ts × PS) (e : Ending) (w' : World) : Prop := ∃ (A : Option Addr) (c : Nat) (l : List St), e = .returned (.slice A l.length c) ∧ l.map coreS = p.1 ∧ Row 9 stC w' A l ∧ l.length ≤ most ∧ (∀ ad, A = some ad → w.heap.size ≤ ad.block) ∧ (∀ s ∈ l, StIn w' s) ∧ (∀ s ∈ l, NewS w.heap.size s) ∧ RdM lo w' g p.2 ∧ Turn [g] w w'
theorem stC_len (s : St) : (stC s).length = 9 := by
  obtain ⟨o, s, ⟨eo, en, es, eq, ea, ec, ex⟩, a, c, b, a2, c2, b2⟩ := s
  rfl
theorem stC_one (s : St) : ∀ u ∈ stC s, u.oneCell' = true := by
  obtain ⟨o, s, ⟨eo, en, es, eq, ea, ec, ex⟩, a, c, b, a2, c2, b2⟩ := s
  intro u hu
  simp only [stC, List.mem_cons, List.not_mem_nil, or_false] at hu
  rcases hu with rfl | rfl | rfl | rfl | rfl | rfl | rfl | rfl | rfl <;> rfl
theorem infoS : (Tryz.prog.info? 47).map (fun i => (i.zero, i.size, i.bytes)) = some (some (.agg #[.int .i64 0, .string ⟨#[]⟩, .int .i64 0, .int .i64 0, .string ⟨#[]⟩, .string ⟨#[]⟩, .slice none 0 0, .slice none 0 0, .slice none 0 0]), 9, 144) := by kernel_rfl
theorem app_st (w : World) (b0 : Nat) (v : Value) (l : List St) (x : St) (eb : Nat) (h : OwnG 9 stC 47 w b0 v l) (he : w.heap[eb]? = some (.cells (stC x).toArray 47 (0, 0))) (hl : l.length ≤ 1000000) (hlo : b0 ≤ w.heap.size) :
    ∃ v2 w2, (∀ ty, (Builtin.append_ #[45, 45] ty #[v, .slice (some ⟨eb, 0, none⟩) 1 1]).run Tryz.prog w = .ok v2 w2) ∧ OwnG 9 stC 47 w2 b0 v2 (l ++ [x]) ∧ w.grownBy w2 v.ownBlock ∧ (v2.ownBlock = v.ownBlock ∨ v2.ownBlock = some w.heap.size) := by
  obtain ⟨i0, hi0, hz0, hz1, hz2⟩ := info_of infoS
  exact OwnG.app Tryz.underlying45 hi0 hz0 hz1 hz2 rfl (by decide) stC_len stC_one w v l x eb h he hl (by decide) hlo
/-- A block's own memory. -/
structure HeldB (w wr : World) (g : Nat) (xs : List St) (A : Option Addr) (c : Nat) : Prop where
  own : OwnG 9 stC 47 wr w.heap.size (.slice A xs.length c) xs
  ein : ∀ x ∈ xs, StIn wr x
  new : ∀ x ∈ xs, NewS w.heap.size x
  off : ∀ x ∈ xs, ∀ b, (Value.slice A xs.length c).ownBlock = some b → OffS [b] x
  turn : Turn [g] w wr
  g : g < w.heap.size
theorem HeldB.turned {w wr wr' : World} {g : Nat} {xs : List St} {A : Option Addr} {c : Nat} (h : HeldB w wr g xs A c) (ht : Turn [g] wr wr') : HeldB w wr' g xs A c := by
  have hg := h.g
  exact ⟨h.own.keep fun b hb => ht.block b (h.own.lt b hb).2 (by have := (h.own.lt b hb).1; simp; omega), fun x hx => StIn.off (h.ein x hx) (NewS.off (h.new x hx) (fun b hb => by simp at hb; omega)) ht, h.new, h.off, h.turn.trans ht, hg⟩
theorem HeldB.below {w wr wr' : World} {g : Nat} {xs : List St} {A : Option Addr} {c : Nat} (h : HeldB w wr g xs A c) (hb : Below wr.heap.size wr wr') : HeldB w wr' g xs A c :=
  h.turned ((Turn.refl [g] wr).below hb)
/-- One statement more. -/
theorem HeldB.more {w u1 u2 : World} {g c c2 b0 : Nat} {xs : List St} {A A2 : Option Addr} {y : St} (h : HeldB w u1 g xs A c) (hy : StIn u1 y) (ny : NewS b0 y) (hb : ∀ b, (Value.slice A xs.length c).ownBlock = some b → b < b0) (h0 : w.heap.size ≤ b0)
    (how : OwnG 9 stC 47 u2 w.heap.size (.slice A2 (xs ++ [y]).length c2) (xs ++ [y])) (hgr : u1.grownBy u2 (Value.slice A xs.length c).ownBlock) (hbo : (Value.slice A2 (xs ++ [y]).length c2).ownBlock = (Value.slice A xs.length c).ownBlock ∨ (Value.slice A2 (xs ++ [y]).length c2).ownBlock = some u1.heap.size) :
    HeldB w u2 g (xs ++ [y]) A2 c2 := by
  have hg := h.g
  have T2 : Turn (Value.slice A xs.length c).ownBlock.toList u1 u2 := (Turn.refl _ u1).grown hgr (fun k hk => .inl (by simp [hk]))
  have hlo : ∀ b ∈ (Value.slice A xs.length c).ownBlock.toList, w.heap.size ≤ b ∧ b < u1.heap.size := fun b hb => h.own.lt b (by simpa using hb)
  have hoff : ∀ x ∈ xs ++ [y], ∀ b, (Value.slice A xs.length c).ownBlock = some b → OffS [b] x := fun x hx b e => by
    rcases List.mem_append.1 hx with hx | hx
    · exact h.off x hx b e
    · obtain rfl : x = y := by simpa using hx
      exact ny.off (fun k hk => by simp at hk; subst hk; exact hb _ e)
  have hin : ∀ x ∈ xs ++ [y], StIn u1 x := fun x hx => by
    rcases List.mem_append.1 hx with hx | hx
    · exact h.ein x hx
    · obtain rfl : x = y := by simpa using hx
      exact hy
  have hoffL : ∀ x ∈ xs ++ [y], OffS (Value.slice A xs.length c).ownBlock.toList x := fun x hx => by
    cases ho : (Value.slice A xs.length c).ownBlock with
    | none => exact fun y hy => ⟨fun _ _ _ _ _ _ h => by simp at h, fun _ _ _ _ h => by simp at h, fun _ _ _ _ h => by simp at h⟩
    | some b => exact hoff x hx b ho
  refine ⟨how, fun x hx => StIn.off (hin x hx) (hoffL x hx) T2, fun x hx => ?_, fun x hx b e => ?_, h.turn.then_ T2 (fun k hk => .inr (hlo k hk).1), hg⟩
  · rcases List.mem_append.1 hx with hx | hx
    · exact h.new x hx
    · obtain rfl : x = y := by simpa using hx
      exact ny.mono h0
  · rcases hbo with e2 | e2
    · exact hoff x hx b (e2.symm.trans e)
    · rw [e2] at e
      injection e with e
      subst e
      exact StIn.fresh (hin x hx)
end Go.Proofs.YtlhbhpdpjidpgaaGreatDoor.Prs
/- The document's block: statements in brackets. Conditions: the reader is known; a statement tells what the plain grammar says. -/
namespace Go.Proofs.YtlhbhpdpjidpgaaGreatDoor.Prs
open Go.RowKit Tre
open Lex (Wd wdC wdV bs str Turn info_of)
set_option maxRecDepth 100000
set_option linter.unusedSimpArgs false
variable {lo : Nat}
/-- An append, where its run is known. -/
theorem wpList_appG {P : Program} (L : TypeId) {w w2 : World} {ops : Array Oper} {rest : List Oper} {o : Oper} {a : Act} {Q : Exit → Act → World → Prop} (hgd : o.guard = none) (s x : Operand)
    (ho : o.op = .call { callee := .builtin .append, args := #[s, x], argTypes := #[L, L] }) (v u v2 : Value) (hs : a.eval s = v) (hx : a.eval x = u) (hrun : ∀ ty, (Builtin.append_ #[L, L] ty #[v, u]).run P w = .ok v2 w2)
    (h : wpList P ops Q rest (a.put o.dst v2) w2) : wpList P ops Q (o :: rest) a w := by
  refine wpList_plain hgd fun _ hK => ?_
  unfold Oper.wp execOp
  simp only [ho, resolve, invoke, builtin, Sem.run_bind, Sem.run_pure, Result.andThen_ok, List.map_toArray, List.map_cons, List.map_nil, hs, hx, hrun]
  exact hK _ _ h
/-- What a call leaves that tells one statement. -/
def EvT (lo : Nat) (w : World) (g : Nat) (p : List Ts × PS) (e : Ending) (w' : World) : Prop := ∃ t, p.1 = [t] ∧ EvS lo w g t p.2 e w'
structure BlkAt (lo : Nat) (w wr : World) (g : Nat) (r r' : PS) (xs : List St) (A : Option Addr) (c : Nat) : Prop where
  rd : RdM lo wr g r'
  held : HeldB w wr g xs A c
  told : tellS .block r = tellS (.loop (xs.map coreS)) r'
  len : xs.length + lenR r' ≤ 100000
  lt : r'.bad = false → lenR r' < lenR r
theorem blk_end {s0 : PS} {r' : PS} {xs : List Ts} (h : tellS .block s0 = tellS (.loop xs) r') (hb : (r'.bad || isW r' [125]) = true) : tellS .block s0 = (xs, mustW r' [125]) := by
  rw [h, tellS_loop, if_pos hb]
theorem blk_last {s0 : PS} {r' : PS} {xs : List Ts} (h : tellS .block s0 = tellS (.loop xs) r') (hb : r'.bad = false) (hi : isW r' [125] = false) (hc : isW (tellS .stmt r').2 [59] = false) : tellS .block s0 = (xs ++ (tellS .stmt r').1, mustW (tellS .stmt r').2 [125]) := by
  rw [h, tellS_loop, if_neg (by simp [hb, hi]), if_neg (by simp [hc])]
theorem blk_more {s0 : PS} {r' : PS} {xs : List Ts} (h : tellS .block s0 = tellS (.loop xs) r') (hb : r'.bad = false) (hi : isW r' [125] = false) (hc : isW (tellS .stmt r').2 [59] = true) : tellS .block s0 = tellS (.loop (xs ++ (tellS .stmt r').1)) (tl (tellS .stmt r').2) := by
  rw [h, tellS_loop, if_neg (by simp [hb, hi]), if_pos hc]
theorem blk_out {w w6 w7 : World} {g : Nat} {xs : List St} {A : Option Addr} {c : Nat} {r6 : PS} {p : List Ts × PS} (hh : HeldB w w6 g xs A c) (h7 : Turn [g] w6 w7) (hr : RdM lo w7 g r6) (hx : xs.length ≤ 200000) (hp : p = (xs.map coreS, r6)) : EvB lo w g p (.returned (.slice A xs.length c)) w7 := by
  subst hp
  have h := hh.turned h7
  refine ⟨A, c, xs, rfl, rfl, h.own.row stC_len, by unfold most; omega, fun ad e => ?_, h.ein, h.new, hr, h.turn⟩
  subst e
  exact (h.own.lt ad.block rfl).1
set_option maxHeartbeats 4000000 in
theorem block_any (w : World) (g : Nat) (r : PS) (h : RdM lo w g r) (CS : ∀ w' r', RdM lo w' g r' → lenR r' < lenR r → Hid (Calls Tryz.prog 88 #[.pointer (some ⟨g, 0, none⟩)] w' (EvT lo w' g (tellS .stmt r')))) :
    Calls Tryz.prog 53 #[.pointer (some ⟨g, 0, none⟩)] w (EvB lo w g (tellS .block r)) := by
  have HG := Lib.hid h.lt
  have HLO := Lib.hid h.wlo
  have HRL := Lib.hid h.len
  have HCS := Lib.hid CS
  have C0 := Lib.hid (must_any w g r [123] h)
  have HTO := Lib.hid (tellS_block r)
  have HLT : Hid ((mustW r [123]).bad = false → lenR (mustW r [123]) < lenR r) := Lib.hid mustW_lt
  have HLL : Hid (lenR (mustW r [123]) ≤ 100000) := Lib.hid (by have := lenR_mustW r [123]; have := lenR_le h; omega)
  clear h CS
  generalize mustW r [123] = r1 at *
  go_enter Tryz.func53, Tryz.ntmps53
  go_wp2_with fail
  refine C0.out.mono ?_
  rintro e w2 ⟨rfl, h1, h2⟩
  have START : Hid (BlkAt lo w w2 g r r1 [] none 0) := Lib.hid ⟨h1, HeldB.turned ⟨OwnG.nil _ _, fun x hx => by simp at hx, fun x hx => by simp at hx, fun x hx => by simp at hx, Turn.refl [g] w, HG.out⟩ h2, HTO.out, by have := HLL.out; simp; omega, HLT.out⟩
  clear h1 h2 HTO HLT HLL C0 HRL
  go_wp2_with fail
  go_loopw [3] (fun l wr => ∃ (r' : PS) (xs : List St) (A : Option Addr) (c : Nat), l = .slice A xs.length c ∧ Hid (BlkAt lo w wr g r r' xs A c)) (fun _ wr => remW wr g)
  case atStart => exact ⟨r1, [], none, 0, rfl, START⟩
  case round =>
    clear START
    obtain ⟨r', xs, A, c, rfl, HC⟩ := hrel
    have HM : Hid (remW wr g = lenR r') := Lib.hid HC.out.rd.rem
    obtain ⟨a, cc, hrd, -⟩ := HC.out.rd.at_
    have b1 := cell_at hrd 1
    simp only [List.getElem?_toArray, List.getElem?_cons_succ, List.getElem?_cons_zero] at b1
    clear hrd
    rcases Bool.eq_false_or_eq_true r'.bad with hbad | hbad
    · rw [hbad] at b1
      have HO := Lib.hid (blk_end HC.out.told (by simp [hbad]))
      have CM := Lib.hid (must_any wr g r' [125] HC.out.rd)
      clear hbad
      go_wp2_with fail
      refine CM.out.mono ?_
      rintro e v6 ⟨rfl, h1, h2⟩
      have H1 := Lib.hid h1
      have H2 := Lib.hid h2
      clear h1 h2 b1
      go_wp2_with fail
      go_ret
      exact blk_out HC.out.held H2.out H1.out (by have := HC.out.len; omega) HO.out
    · rw [hbad] at b1
      rcases Bool.eq_false_or_eq_true (isW r' [125]) with hi | hi
      · have HO := Lib.hid (blk_end HC.out.told (by simp [hi]))
        have CI := (by have := is_any wr g r' [125] HC.out.rd; rw [hi] at this; exact Lib.hid this : Hid (Calls Tryz.prog 51 #[.pointer (some ⟨g, 0, none⟩), .string (bs [125])] wr (EndsB (.bool true) wr)))
        clear hbad hi
        go_wp2_with fail
        refine CI.out.mono ?_
        rintro e v1 ⟨rfl, hb1⟩
        have HH := Lib.hid (HC.out.held.below hb1)
        have CM := Lib.hid (must_any v1 g r' [125] (HC.out.rd.below hb1))
        clear hb1 b1 CI
        go_wp2_with fail
        refine CM.out.mono ?_
        rintro e v6 ⟨rfl, h1, h2⟩
        have H1 := Lib.hid h1
        have H2 := Lib.hid h2
        clear h1 h2
        go_wp2_with fail
        go_ret
        exact blk_out HH.out H2.out H1.out (by have := HC.out.len; omega) HO.out
      · have HBA := Lib.hid hbad
        have HI := Lib.hid hi
        have CI := (by have := is_any wr g r' [125] HC.out.rd; rw [hi] at this; exact Lib.hid this : Hid (Calls Tryz.prog 51 #[.pointer (some ⟨g, 0, none⟩), .string (bs [125])] wr (EndsB (.bool false) wr)))
        have HLT := Lib.hid (HC.out.lt hbad)
        clear hbad hi
        go_wp2_with fail
        refine CI.out.mono ?_
        rintro e v1 ⟨rfl, hb1⟩
        have HH1 := Lib.hid (HC.out.held.below hb1)
        have CY := HCS.out v1 r' (HC.out.rd.below hb1) HLT.out
        clear hb1 b1 CI
        go_wp2_with fail
        refine CY.out.mono ?_
        rintro e v2 ⟨t, ht, y, rfl, hy1, hy2, hy3, hy4, hy5⟩
        have HY : Hid ((tellS .stmt r').1 = [coreS y]) := Lib.hid (by rw [ht, hy1])
        have HH2 := Lib.hid (HH1.out.turned hy5)
        have HOB : Hid (∀ b, (Value.slice A xs.length c).ownBlock = some b → b < v1.heap.size) := Lib.hid (fun b hb => (HH1.out.own.lt b hb).2)
        have HSZ : Hid (w.heap.size ≤ v1.heap.size) := Lib.hid HH1.out.turn.size
        have HY2 := Lib.hid hy2
        have HY3 := Lib.hid hy3
        have HY4 := Lib.hid hy4
        clear hy1 hy2 hy3 hy4 hy5 ht CY HH1
        obtain ⟨CY9, hcy⟩ : ∃ C, (stC y).toArray = C := ⟨_, rfl⟩
        have HB3 := Lib.hid (ball_new v2 (stC y).toArray 47)
        have HN3 := Lib.hid (new_at v2 (stC y).toArray 47)
        have HH3 := Lib.hid (HH2.out.below HB3.out)
        have HR3 := Lib.hid (HY4.out.below HB3.out)
        have HY3' := Lib.hid (Tre.StIn.below HY2.out HB3.out)
        obtain ⟨vv, u2, hap, how, hgr, hbo⟩ := app_st _ w.heap.size (.slice A xs.length c) xs y v2.heap.size HH3.out.own HN3.out (by have := HC.out.len; omega) (HH3.out.turn.size)
        obtain ⟨A2, n2, c2, rfl, hn2⟩ : ∃ A m c, vv = .slice A m c ∧ m = (xs ++ [y]).length := by obtain ⟨A, c, e, -⟩ := how.form; exact ⟨A, _, c, e, rfl⟩
        have HH4 : Hid (HeldB w u2 g (xs ++ [y]) A2 c2) := Lib.hid (by
          subst hn2
          exact HH3.out.more HY3'.out HY3.out HOB.out HSZ.out how hgr hbo)
        have T2 : Turn (Value.slice A xs.length c).ownBlock.toList (v2.alloc (.cells (stC y).toArray 47)) u2 := (Turn.refl _ _).grown hgr (fun k hk => .inl (by simp [hk]))
        have HR4 : Hid (RdM lo u2 g (tellS .stmt r').2) := Lib.hid (HR3.out.buts T2 (fun b hb => by have := (HH3.out.own.lt b (by simpa using hb)).1; have := HLO.out; omega))
        obtain ⟨zs, hzs⟩ : ∃ zs, xs ++ [y] = zs := ⟨_, rfl⟩
        have HZ : Hid (zs.map coreS = xs.map coreS ++ (tellS .stmt r').1) := Lib.hid (by rw [← hzs, List.map_append, List.map_cons, List.map_nil, HY.out])
        have HZL : Hid (zs.length = xs.length + 1) := Lib.hid (by rw [← hzs, List.length_append]; rfl)
        have HN2 : Hid (n2 = zs.length) := Lib.hid (by rw [hn2, hzs])
        rw [hzs] at HH4
        clear hzs hn2 HY
        have HL2 := Lib.hid (tellS_lenR .stmt r')
        have HLN := Lib.hid HC.out.len
        obtain ⟨o, s, ⟨eo, en, es, eq, ea, ec, ex⟩, ya, yc, yb, ya2, yc2, yb2⟩ := y
        simp only [stC] at hap
        have HAP := Lib.hid hap
        unfold stV
        clear hap how hgr hbo T2 HB3 HN3 HH3 HR3 HY3' hcy CY9 HH2 HY2 HY3 HY4 HOB HSZ
        rcases Bool.eq_false_or_eq_true (isW (tellS .stmt r').2 [59]) with hc | hc
        · have HO := Lib.hid (blk_more HC.out.told HBA.out HI.out hc)
          rw [← HZ.out] at HO
          have HC4 := Lib.hid (lenR_pos hc)
          have HTL := Lib.hid (lenR_tl (tellS .stmt r').2)
          have CK := Lib.hid (skip_yes u2 g (tellS .stmt r').2 [59] HR4.out hc)
          clear hc HZ HC HR4
          generalize (tellS .stmt r').2 = r2 at *
          go_wp2_with (at_builtin; refine wpList_appG 45 rfl (.tmp 16) (.tmp 19) rfl (.slice A xs.length c) (.slice (some ⟨v2.heap.size, 0, none⟩) 1 1) _ rfl rfl HAP.out ?_)
          refine CK.out.mono ?_
          rintro e v5 ⟨rfl, h1, h2⟩
          have HN6 : Hid (BlkAt lo w v5 g r (tl r2) zs A2 c2) := Lib.hid ⟨h1, HH4.out.turned h2, HO.out, by
            have := HLN.out
            have := HL2.out
            have := HC4.out
            have := HZL.out
            have := HTL.out
            omega, fun _ => by
            have := HL2.out
            have := HLT.out
            have := HTL.out
            omega⟩
          clear h1 h2 CK HAP HH4
          go_wp2_with fail
          go_roundw
          case rel => exact ⟨_, zs, A2, c2, by rw [HN2.out], HN6⟩
          case measure =>
            rw [HN6.out.rd.rem, HM.out]
            have := HL2.out
            have := HC4.out
            have := HTL.out
            omega
        · have HO := Lib.hid (blk_last HC.out.told HBA.out HI.out hc)
          rw [← HZ.out] at HO
          have CK := Lib.hid (skip_no u2 g (tellS .stmt r').2 [59] HR4.out hc)
          clear hc HZ HC HR4
          generalize (tellS .stmt r').2 = r2 at *
          go_wp2_with (at_builtin; refine wpList_appG 45 rfl (.tmp 16) (.tmp 19) rfl (.slice A xs.length c) (.slice (some ⟨v2.heap.size, 0, none⟩) 1 1) _ rfl rfl HAP.out ?_)
          refine CK.out.mono ?_
          rintro e v5 ⟨rfl, h1, h2⟩
          have HH5 := Lib.hid (HH4.out.turned h2)
          have CM := Lib.hid (must_any v5 g r2 [125] h1)
          clear h1 h2 CK HAP HH4
          go_wp2_with fail
          refine CM.out.mono ?_
          rintro e v6 ⟨rfl, h1, h2⟩
          have H1 := Lib.hid h1
          have H2 := Lib.hid h2
          clear h1 h2 CM
          go_wp2_with fail
          go_ret
          have hn := HN2.out
          subst hn
          exact blk_out HH5.out H2.out H1.out (by have := HLN.out; have := HZL.out; omega) HO.out
end Go.Proofs.YtlhbhpdpjidpgaaGreatDoor.Prs
/- The program's list of expressions in brackets. Conditions: the reader is known; an expression is told as the plain grammar says. -/
namespace Go.Proofs.YtlhbhpdpjidpgaaGreatDoor.Prg
open Go.RowKit Tre Prs
open Lex (Wd wdC wdV bs str Turn)
set_option maxRecDepth 100000
set_option linter.unusedSimpArgs false
variable {lo : Nat}
/-- A list's own memory. -/
structure HeldL (w wr : World) (g : Nat) (xs : List Ex) (A : Option Addr) (c : Nat) : Prop where
  own : OwnG 5 exC 36 wr w.heap.size (.slice A xs.length c) xs
  ein : ∀ x ∈ xs, ExIn wr x
  new : ∀ x ∈ xs, New w.heap.size x
  off : ∀ x ∈ xs, ∀ b, (Value.slice A xs.length c).ownBlock = some b → Off [b] x
  turn : Turn [g] w wr
  g : g < w.heap.size
theorem HeldL.turned {w wr wr' : World} {g : Nat} {xs : List Ex} {A : Option Addr} {c : Nat} (h : HeldL w wr g xs A c) (ht : Turn [g] wr wr') : HeldL w wr' g xs A c := by
  have hg := h.g
  exact ⟨h.own.keep fun b hb => ht.block b (h.own.lt b hb).2 (by have := (h.own.lt b hb).1; simp; omega), fun x hx => ExIn.off (h.ein x hx) (New.off (h.new x hx) (fun b hb => by simp at hb; omega)) ht, h.new, h.off, h.turn.trans ht, hg⟩
theorem HeldL.below {w wr wr' : World} {g : Nat} {xs : List Ex} {A : Option Addr} {c : Nat} (h : HeldL w wr g xs A c) (hb : Below wr.heap.size wr wr') : HeldL w wr' g xs A c :=
  h.turned ((Turn.refl [g] wr).below hb)
theorem HeldL.nil (w : World) (g : Nat) (hg : g < w.heap.size) : HeldL w w g [] none 0 := ⟨OwnG.nil _ _, fun x hx => by simp at hx, fun x hx => by simp at hx, fun x hx => by simp at hx, Turn.refl [g] w, hg⟩
/-- One expression more. -/
theorem HeldL.more {w u1 u2 : World} {g c c2 b0 : Nat} {xs : List Ex} {A A2 : Option Addr} {y : Ex} (h : HeldL w u1 g xs A c) (hy : ExIn u1 y) (ny : New b0 y) (hb : ∀ b, (Value.slice A xs.length c).ownBlock = some b → b < b0) (h0 : w.heap.size ≤ b0)
    (how : OwnG 5 exC 36 u2 w.heap.size (.slice A2 (xs ++ [y]).length c2) (xs ++ [y])) (hgr : u1.grownBy u2 (Value.slice A xs.length c).ownBlock) (hbo : (Value.slice A2 (xs ++ [y]).length c2).ownBlock = (Value.slice A xs.length c).ownBlock ∨ (Value.slice A2 (xs ++ [y]).length c2).ownBlock = some u1.heap.size) :
    HeldL w u2 g (xs ++ [y]) A2 c2 := by
  have hg := h.g
  have T2 : Turn (Value.slice A xs.length c).ownBlock.toList u1 u2 := (Turn.refl _ u1).grown hgr (fun k hk => .inl (by simp [hk]))
  have hlo : ∀ b ∈ (Value.slice A xs.length c).ownBlock.toList, w.heap.size ≤ b ∧ b < u1.heap.size := fun b hb => h.own.lt b (by simpa using hb)
  have hoff : ∀ x ∈ xs ++ [y], ∀ b, (Value.slice A xs.length c).ownBlock = some b → Off [b] x := fun x hx b e => by
    rcases List.mem_append.1 hx with hx | hx
    · exact h.off x hx b e
    · obtain rfl : x = y := by simpa using hx
      exact ny.off (fun k hk => by simp at hk; subst hk; exact hb _ e)
  have hin : ∀ x ∈ xs ++ [y], ExIn u1 x := fun x hx => by
    rcases List.mem_append.1 hx with hx | hx
    · exact h.ein x hx
    · obtain rfl : x = y := by simpa using hx
      exact hy
  have hoffL : ∀ x ∈ xs ++ [y], Off (Value.slice A xs.length c).ownBlock.toList x := fun x hx => by
    cases ho : (Value.slice A xs.length c).ownBlock with
    | none => exact fun y hy _ b o _ hm => by simp at hm
    | some b => exact hoff x hx b ho
  refine ⟨how, fun x hx => ExIn.off (hin x hx) (hoffL x hx) T2, fun x hx => ?_, fun x hx b e => ?_, h.turn.then_ T2 (fun k hk => .inr (hlo k hk).1), hg⟩
  · rcases List.mem_append.1 hx with hx | hx
    · exact h.new x hx
    · obtain rfl : x = y := by simpa using hx
      exact ny.mono h0
  · rcases hbo with e2 | e2
    · exact hoff x hx b (e2.symm.trans e)
    · rw [e2] at e
      injection e with e
      subst e
      exact ExIn.fresh (hin x hx)
/-- An expression that was told behind a list, appended. -/
theorem HeldL.push {w v1 v2 : World} {g c : Nat} {xs : List Ex} {A : Option Addr} {y : Ex} {r' : PS} (hh : HeldL w v1 g xs A c) (hy2 : ExIn v2 y) (hy3 : New v1.heap.size y) (ht : Turn [g] v1 v2) (hl : xs.length ≤ 1000000) (hlo : lo ≤ w.heap.size) (hr : InG lo v2 g r') :
    ∃ A2 c2 u2, (∀ ty, (Builtin.append_ #[34, 34] ty #[.slice A xs.length c, .slice (some ⟨v2.heap.size, 0, none⟩) 1 1]).run Tryz.prog (v2.alloc (.cells #[.int .i64 y.op, .int .i64 y.n, .string y.s, .string y.q, .slice y.a y.x.length y.c] 36)) = .ok (.slice A2 (xs ++ [y]).length c2) u2) ∧ HeldL w u2 g (xs ++ [y]) A2 c2 ∧ InG lo u2 g r' := by
  have hb3 := ball_new v2 #[.int .i64 y.op, .int .i64 y.n, .string y.s, .string y.q, .slice y.a y.x.length y.c] 36
  have hn3 := new_at v2 #[.int .i64 y.op, .int .i64 y.n, .string y.s, .string y.q, .slice y.a y.x.length y.c] 36
  have hh2 := hh.turned ht
  have hh3 := hh2.below hb3
  obtain ⟨vv, u2, hap, how, hgr, hbo⟩ := app_ex _ w.heap.size (.slice A xs.length c) xs y v2.heap.size hh3.own hn3 hl hh3.turn.size
  obtain ⟨A2, c2, rfl, -⟩ := how.form
  have T2 : Turn (Value.slice A xs.length c).ownBlock.toList (v2.alloc (.cells #[.int .i64 y.op, .int .i64 y.n, .string y.s, .string y.q, .slice y.a y.x.length y.c] 36)) u2 := (Turn.refl _ _).grown hgr (fun k hk => .inl (by simp [hk]))
  exact ⟨A2, c2, u2, hap, hh3.more (Tre.ExIn.below hy2 hb3) hy3 (fun b hb => (hh.own.lt b hb).2) hh.turn.size how hgr hbo, (hr.below hb3).buts T2 (fun b hb => by have := (hh3.own.lt b (by simpa using hb)).1; omega)⟩
/-- How far the reader has to go. -/
def remG (w : World) (g : Nat) : Nat := match w.cell? ⟨g, 1, none⟩, w.cell? ⟨g, 0, none⟩ with
  | some (.bool false), some (.slice _ n _) => n + 1
  | _, _ => 0
theorem RdG.rem {w : World} {g : Nat} {r : PS} (h : RdG lo w g r) : remG w g = lenB r := by
  obtain ⟨a, c, h1, _⟩ := h.at_
  have c0 := cell_at h1 0
  have c1 := cell_at h1 1
  simp only [List.getElem?_toArray, List.getElem?_cons_succ, List.getElem?_cons_zero] at c0 c1
  unfold remG lenB
  rw [c0, c1]
  cases r.bad <;> rfl
theorem lenB_le {w : World} {g : Nat} {r : PS} (h : RdG lo w g r) : lenB r ≤ 100001 := by
  unfold lenB
  have := h.len
  split <;> omega
/-- What a call leaves that tells a list of expressions. -/
def EvL (lo : Nat) (w : World) (g : Nat) (r : PS) (e : Ending) (w' : World) : Prop := ∃ (A : Option Addr) (c : Nat) (xs : List Ex) (r' : PS), e = .returned (.slice A xs.length c) ∧ AgL r (xs.map core) r' ∧ Row 5 exC w' A xs ∧ xs.length ≤ 200000 ∧ xs.length ≤ c ∧ (∀ ad, A = some ad → w.heap.size ≤ ad.block) ∧ (∀ x ∈ xs, ExIn w' x) ∧ (∀ x ∈ xs, New w.heap.size x) ∧ RdG lo w' g r' ∧ Turn [g] w w'
theorem list_out {w w7 : World} {g : Nat} {xs : List Ex} {A : Option Addr} {c : Nat} {r r' : PS} (h : HeldL w w7 g xs A c) (hr : RdG lo w7 g r') (hx : xs.length ≤ 200000) (hp : AgL r (xs.map core) r') : EvL lo w g r (.returned (.slice A xs.length c)) w7 := by
  refine ⟨A, c, xs, r', rfl, hp, h.own.row exC_len, hx, ?_, fun ad e => ?_, h.ein, h.new, hr, h.turn⟩
  · obtain ⟨A', c', e, hc, -⟩ := h.own.form
    injection e with _ _ e
    omega
  · subst e
    exact (h.own.lt ad.block rfl).1
/-- What the loop knows. -/
structure LisAt (lo : Nat) (w wr : World) (g : Nat) (r r' : PS) (xs : List Ex) (A : Option Addr) (c : Nat) : Prop where
  rd : InG lo wr g r'
  held : HeldL w wr g xs A c
  told : AgI r (xs.map core) r'
  len : xs.length + lenB r' ≤ 100002
  le : lenB r' ≤ lenB r
set_option maxHeartbeats 8000000 in
theorem list_any (w : World) (g : Nat) (r : PS) (h : InG lo w g r) (CE : ∀ w' r', InG lo w' g r' → lenB r' ≤ lenB r → Hid (Calls Tryz.prog 30 #[.pointer (some ⟨g, 0, none⟩)] w' (EvG lo w' g (tell (.row 0) r')))) :
    Calls Tryz.prog 142 #[.pointer (some ⟨g, 0, none⟩), .func (.func 30) #[.pointer (some ⟨g, 0, none⟩)] #[]] w (EvL lo w g r) := by
  have HG := Lib.hid h.rd.lt
  have HLO := Lib.hid h.rd.wlo
  have HI := Lib.hid h
  have C0 := Lib.hid (must_any w g r [40] h.rd)
  have HCE := Lib.hid CE
  have HLM := Lib.hid (lenB_must r [40])
  have HLB := Lib.hid (lenB_le h.rd)
  clear h CE
  go_enter Tryz.func142, Tryz.ntmps142
  go_wp2_with fail
  refine C0.out.mono ?_
  rintro e w1 ⟨rfl, h1, h2⟩
  have H1 := Lib.hid (HI.out.step h2 h1)
  have H2 := Lib.hid h2
  have HH1 := Lib.hid ((HeldL.nil w g HG.out).turned h2)
  clear h1 h2 C0
  rcases Bool.eq_false_or_eq_true (isW (mustP r [40]) [41]) with hi | hi
  · have CH := Lib.hid (has_yes w1 g _ [41] H1.out.rd hi)
    have HO := Lib.hid (agl_none hi)
    clear hi
    go_wp2_with fail
    refine CH.out.mono ?_
    rintro e w2 ⟨rfl, h1, h2⟩
    have H3 := Lib.hid h1
    have HH2 := Lib.hid (HH1.out.turned h2)
    clear h1 h2
    go_wp2_with fail
    go_ret
    exact list_out HH2.out H3.out (by simp) HO.out
  · have CH := Lib.hid (has_no w1 g _ [41] H1.out.rd hi)
    have HNO := Lib.hid (fun t r' => agi_one (x := t) (r' := r') hi)
    clear hi
    go_wp2_with fail
    refine CH.out.mono ?_
    rintro e w2 ⟨rfl, h1, h2⟩
    have H3 := Lib.hid (H1.out.step h2 h1)
    have HH2 := Lib.hid (HH1.out.turned h2)
    have CX := HCE.out w2 _ H3.out HLM.out
    clear h1 h2 CH
    go_wp2_with fail
    refine CX.out.mono ?_
    rintro e v2 ⟨y, r3, rfl, hy1, hy2, hy3, hy4, hy5⟩
    rw [exV_eq]
    obtain ⟨A2, c2, u2, hap, hh, hin⟩ := HeldL.push HH2.out hy2 hy3 hy5 (by simp) HLO.out (H3.out.step hy5 hy4)
    have HAP := Lib.hid hap
    have START : Hid (LisAt lo w u2 g r r3 ([] ++ [y]) A2 c2) := Lib.hid ⟨hin, hh, HNO.out _ _ hy1, by
      have := ag_lenB hy1
      have := HLM.out
      have := HLB.out
      simp
      omega, by
      have := ag_lenB hy1
      have := HLM.out
      omega⟩
    clear hy1 hy2 hy3 hy4 hy5 hap hh hin CX HH1 HH2 H1 H2 H3 HNO HLM
    simp only [List.nil_append, List.length_cons, List.length_nil] at HAP START
    obtain ⟨ys, hys⟩ : ∃ ys, [y] = ys := ⟨_, rfl⟩
    have HYL : Hid (ys.length = 1) := Lib.hid (by rw [← hys]; rfl)
    rw [hys] at START
    clear hys
    go_wp2_with (at_builtin; refine wpList_appG 34 rfl (.tmp 11) (.tmp 14) rfl (.slice none 0 0) (.slice (some ⟨v2.heap.size, 0, none⟩) 1 1) _ rfl rfl HAP.out ?_)
    clear HAP
    go_loopw [5] (fun l wr => ∃ (r' : PS) (xs : List Ex) (A : Option Addr) (c : Nat), l = .slice A xs.length c ∧ Hid (LisAt lo w wr g r r' xs A c)) (fun _ wr => remG wr g)
    case atStart => exact ⟨r3, ys, A2, c2, by rw [HYL.out], START⟩
    case round =>
      clear START HYL
      obtain ⟨r', xs, A, c, rfl, HC⟩ := hrel
      have HM : Hid (remG wr g = lenB r') := Lib.hid HC.out.rd.rd.rem
      rcases Bool.eq_false_or_eq_true (isW r' [44]) with hi | hi
      · have CH := Lib.hid (has_yes wr g r' [44] HC.out.rd.rd hi)
        have HI2 := Lib.hid hi
        have HLT := Lib.hid (lenB_tl hi)
        clear hi
        go_wp2_with fail
        refine CH.out.mono ?_
        rintro e v1 ⟨rfl, h1, h2⟩
        have H3 := Lib.hid (HC.out.rd.step h2 h1)
        have HH2 := Lib.hid (HC.out.held.turned h2)
        have CX := HCE.out v1 _ H3.out (by have := HC.out.le; have := HLT.out; omega)
        clear h1 h2 CH
        go_wp2_with fail
        refine CX.out.mono ?_
        rintro e v2 ⟨y, r4, rfl, hy1, hy2, hy3, hy4, hy5⟩
        rw [exV_eq]
        obtain ⟨A4, c4, u4, hap, hh, hin⟩ := HeldL.push HH2.out hy2 hy3 hy5 (by have := HC.out.len; omega) HLO.out (H3.out.step hy5 hy4)
        have HAP := Lib.hid hap
        have HL4 := Lib.hid (ag_lenB hy1)
        have HN4 : Hid (LisAt lo w u4 g r r4 (xs ++ [y]) A4 c4) := Lib.hid ⟨hin, hh, by
          have := agi_more HC.out.told HI2.out hy1
          rw [List.map_append]
          exact this, by
          have := HL4.out
          have := HLT.out
          have := HC.out.len
          rw [List.length_append]
          simp
          omega, by
          have := HL4.out
          have := HLT.out
          have := HC.out.le
          omega⟩
        obtain ⟨n4, hn4⟩ : ∃ n, (xs ++ [y]).length = n := ⟨_, rfl⟩
        have HNL := Lib.hid hn4
        rw [hn4] at HAP
        clear hy1 hy2 hy3 hy4 hy5 hap hh hin CX HH2 H3 hn4
        go_wp2_with (at_builtin; refine wpList_appG 34 rfl (.tmp 18) (.tmp 21) rfl (.slice A xs.length c) (.slice (some ⟨v2.heap.size, 0, none⟩) 1 1) _ rfl rfl HAP.out ?_)
        go_roundw
        case rel => exact ⟨r4, xs ++ [y], A4, c4, by rw [HNL.out], HN4⟩
        case measure =>
          rw [HN4.out.rd.rd.rem, HM.out]
          have := HL4.out
          have := HLT.out
          omega
      · have CH := Lib.hid (has_no wr g r' [44] HC.out.rd.rd hi)
        have HO := Lib.hid (agl_end HC.out.told hi)
        clear hi
        go_wp2_with fail
        refine CH.out.mono ?_
        rintro e v1 ⟨rfl, h1, h2⟩
        have HH2 := Lib.hid (HC.out.held.turned h2)
        have CM := Lib.hid (must_any v1 g r' [41] h1)
        clear h1 h2 CH
        go_wp2_with fail
        refine CM.out.mono ?_
        rintro e v2 ⟨rfl, h1, h2⟩
        have H3 := Lib.hid h1
        have HH3 := Lib.hid (HH2.out.turned h2)
        clear h1 h2
        go_wp2_with fail
        go_ret
        exact list_out HH3.out H3.out (by have := HC.out.len; omega) HO.out
end Go.Proofs.YtlhbhpdpjidpgaaGreatDoor.Prg
