/-
  The program's unary: numbers, values. Conditions: the reader is known; what it calls does as the plain grammar says.
-/
import Derived.Test.YtmihlmlojmdhjaaGreatDoorQ06
import Derived.Test.YtmihlmlojmdhjaaGreatDoorQ15
import Derived.Maps.AppendAt
namespace Go.Proofs.YtmihlmlojmdhjaaGreatDoor.Prg
open Go.RowKit Tre Prs
open Lex (Wd wdC wdV bs str Turn)
set_option maxRecDepth 100000
set_option linter.unusedSimpArgs false
variable {lo : Nat}
set_option maxHeartbeats 4000000 in
theorem unary_num (w : World) (g : Nat) (r : PS) (h : InG lo w g r) (n0 : isW r [45] = false) (n1 : isW r [33] = false) (n2 : isW r [116, 114, 117, 101] = false) (n3 : isW r [102, 97, 108, 115, 101] = false) (n4 : isW r [40] = false) (hk : ((peek r).k == 2) = true) :
    Calls Tryz.prog 158 #[.pointer (some ⟨g, 0, none⟩)] w (EvG lo w g (tell .unary r)) := by
  have HQ := Lib.hid (ag_num n0 n1 n2 n3 n4 hk)
  have hb := ball_new w #[.int .i64 0, .int .i64 0, .string ⟨#[]⟩, .string ⟨#[]⟩, .slice none 0 0] 42
  have HG := Lib.hid h.rd.lt
  have HB := Lib.hid hb
  have HLO := Lib.hid h.rd.wlo
  have HI := Lib.hid (h.below hb)
  have N0 := fun w' (h' : RdG lo w' g r) => Lib.hid (has_no w' g r [45] h' n0)
  have N1 := fun w' (h' : RdG lo w' g r) => Lib.hid (has_no w' g r [33] h' n1)
  have N2 := fun w' (h' : RdG lo w' g r) => Lib.hid (has_no w' g r [116, 114, 117, 101] h' n2)
  have N3 := fun w' (h' : RdG lo w' g r) => Lib.hid (has_no w' g r [102, 97, 108, 115, 101] h' n3)
  have N4 := fun w' (h' : RdG lo w' g r) => Lib.hid (has_no w' g r [40] h' n4)
  clear h hb n0 n1 n2 n3 n4
  have CP := fun w' (h' : RdG lo w' g r) => Lib.hid (next_any w' g r h')
  obtain ⟨x, hx⟩ : ∃ x, peek r = x := ⟨_, rfl⟩
  rw [hx] at hk CP
  clear hx
  simp only [wdV_eq] at CP
  have HFK := fun w' => field_k (.int .i64 x.k) (.string (bs x.s)) (.int .i64 x.n) w'
  go_enter Tryz.func158, Tryz.ntmps158
  go_wp2_with fail
  refine (N0 _ HI.out.rd).out.mono ?_
  rintro e v0 ⟨rfl, h1, h2⟩
  have P0 := Lib.hid h1
  have T0 := Lib.hid (h2)
  clear h1 h2
  go_wp2_with fail
  refine (N1 _ P0.out).out.mono ?_
  rintro e v1 ⟨rfl, h1, h2⟩
  have P1 := Lib.hid h1
  have T1 := Lib.hid (T0.out.trans h2)
  clear h1 h2
  go_wp2_with fail
  refine (N2 _ P1.out).out.mono ?_
  rintro e v2 ⟨rfl, h1, h2⟩
  have P2 := Lib.hid h1
  have T2 := Lib.hid (T1.out.trans h2)
  clear h1 h2
  go_wp2_with fail
  refine (N3 _ P2.out).out.mono ?_
  rintro e v3 ⟨rfl, h1, h2⟩
  have P3 := Lib.hid h1
  have T3 := Lib.hid (T2.out.trans h2)
  clear h1 h2
  go_wp2_with fail
  refine (N4 _ P3.out).out.mono ?_
  rintro e v4 ⟨rfl, h1, h2⟩
  have P4 := Lib.hid h1
  have T4 := Lib.hid (T3.out.trans h2)
  clear h1 h2
  go_wp2_with fail
  refine (CP _ P4.out).out.mono ?_
  rintro e w1 ⟨rfl, hb1⟩
  have HB1 := Lib.hid hb1
  have HQ1 := Lib.hid (P4.out.below hb1)
  have HT1 := Lib.hid (T4.out.below hb1)
  clear hb1
  have HBK := Lib.hid (ball_new w1 #[.int .i64 2] 3)
  have CT := Lib.hid (take_any _ g w1.heap.size r [2] (HQ1.out.below HBK.out) (by decide) (by decide) (by have := HQ1.out.lt; omega) ⟨_, new_at w1 _ _⟩)
  have HT1b := Lib.hid (HT1.out.below HBK.out)
  obtain ⟨y, hy⟩ : ∃ y, takeW r [2] = y := ⟨_, rfl⟩
  rw [hy] at CT HQ
  rw [wdV_eq] at CT
  have HFN := fun w' => field_n (.int .i64 y.k) (.string (bs y.s)) (.int .i64 y.n) w'
  clear hy
  go_wp2_with fail
  refine CT.out.mono ?_
  rintro e w2 ⟨rfl, h1, h2⟩
  have H1 := Lib.hid h1
  have HT2 := Lib.hid (HT1b.out.trans h2)
  clear h1 h2
  have HR2 := Lib.hid (res_keep HG.out HT2.out)
  obtain ⟨y0, y1, y2, y3, y4⟩ := five_at HR2.out
  have f0 := free_at HR2.out 0
  have f1 := free_at HR2.out 1
  have f2 := free_at HR2.out 2
  have f3 := free_at HR2.out 3
  have f4 := free_at HR2.out 4
  go_wp2_with fail
  have HT := Lib.hid (turn5 w2 w.heap.size (.int .i64 1) (.int .i64 y.n) (.string ⟨#[]⟩) (.string ⟨#[]⟩) (.slice none 0 0))
  refine bodyPost_ret (results_expr rfl _ _ w.heap.size _ _ _ _ _ rfl (set5 HR2.out)) rfl ?_
  exact leaf_endG HLO.out (by show (⟨#[]⟩ : ByteArray).size ≤ maxLen; unfold maxLen; simp [ByteArray.size]) H1.out HB.out HT2.out HT.out HQ.out
set_option maxHeartbeats 4000000 in
theorem unary_val (w : World) (g : Nat) (r : PS) (h : InG lo w g r) (n0 : isW r [45] = false) (n1 : isW r [33] = false) (n2 : isW r [116, 114, 117, 101] = false) (n3 : isW r [102, 97, 108, 115, 101] = false) (n4 : isW r [40] = false) (hk : ((peek r).k == 2) = false) (CV : ∀ w', InG lo w' g r → Hid (Calls Tryz.prog 169 #[.pointer (some ⟨g, 0, none⟩)] w' (EvG lo w' g (tell .unary r)))) :
    Calls Tryz.prog 158 #[.pointer (some ⟨g, 0, none⟩)] w (EvG lo w g (tell .unary r)) := by
  have HQ := CV
  have hb := ball_new w #[.int .i64 0, .int .i64 0, .string ⟨#[]⟩, .string ⟨#[]⟩, .slice none 0 0] 42
  have HG := Lib.hid h.rd.lt
  have HB := Lib.hid hb
  have HLO := Lib.hid h.rd.wlo
  have HI := Lib.hid (h.below hb)
  have N0 := fun w' (h' : RdG lo w' g r) => Lib.hid (has_no w' g r [45] h' n0)
  have N1 := fun w' (h' : RdG lo w' g r) => Lib.hid (has_no w' g r [33] h' n1)
  have N2 := fun w' (h' : RdG lo w' g r) => Lib.hid (has_no w' g r [116, 114, 117, 101] h' n2)
  have N3 := fun w' (h' : RdG lo w' g r) => Lib.hid (has_no w' g r [102, 97, 108, 115, 101] h' n3)
  have N4 := fun w' (h' : RdG lo w' g r) => Lib.hid (has_no w' g r [40] h' n4)
  clear h hb n0 n1 n2 n3 n4
  have CP := fun w' (h' : RdG lo w' g r) => Lib.hid (next_any w' g r h')
  obtain ⟨x, hx⟩ : ∃ x, peek r = x := ⟨_, rfl⟩
  rw [hx] at hk CP
  clear hx
  simp only [wdV_eq] at CP
  have HFK := fun w' => field_k (.int .i64 x.k) (.string (bs x.s)) (.int .i64 x.n) w'
  go_enter Tryz.func158, Tryz.ntmps158
  go_wp2_with fail
  refine (N0 _ HI.out.rd).out.mono ?_
  rintro e v0 ⟨rfl, h1, h2⟩
  have P0 := Lib.hid h1
  have T0 := Lib.hid (h2)
  clear h1 h2
  go_wp2_with fail
  refine (N1 _ P0.out).out.mono ?_
  rintro e v1 ⟨rfl, h1, h2⟩
  have P1 := Lib.hid h1
  have T1 := Lib.hid (T0.out.trans h2)
  clear h1 h2
  go_wp2_with fail
  refine (N2 _ P1.out).out.mono ?_
  rintro e v2 ⟨rfl, h1, h2⟩
  have P2 := Lib.hid h1
  have T2 := Lib.hid (T1.out.trans h2)
  clear h1 h2
  go_wp2_with fail
  refine (N3 _ P2.out).out.mono ?_
  rintro e v3 ⟨rfl, h1, h2⟩
  have P3 := Lib.hid h1
  have T3 := Lib.hid (T2.out.trans h2)
  clear h1 h2
  go_wp2_with fail
  refine (N4 _ P3.out).out.mono ?_
  rintro e v4 ⟨rfl, h1, h2⟩
  have P4 := Lib.hid h1
  have T4 := Lib.hid (T3.out.trans h2)
  clear h1 h2
  go_wp2_with fail
  refine (CP _ P4.out).out.mono ?_
  rintro e w1 ⟨rfl, hb1⟩
  have HB1 := Lib.hid hb1
  have HQ1 := Lib.hid (P4.out.below hb1)
  have HT1 := Lib.hid (T4.out.below hb1)
  clear hb1
  have C1 := HQ _ (HI.out.step HT1.out HQ1.out)
  go_wp2_with fail
  refine C1.out.mono ?_
  rintro e w5 ⟨x, r', rfl, hx1, hx2, hx3, hx4, hx5⟩
  have HX1 := Lib.hid hx1
  have HX2 := Lib.hid hx2
  have HX3 := Lib.hid hx3
  have HX4 := Lib.hid hx4
  have HX5 := Lib.hid hx5
  rw [exV_eq]
  have hr1 := res_keep HG.out HT1.out
  have HR5 := Lib.hid ((hx5.block _ (lt_of_heap hr1) (by have := HG.out; simp; omega)).trans hr1)
  clear hx1 hx2 hx3 hx4 hx5 hr1
  obtain ⟨y0, y1, y2, y3, y4⟩ := five_at HR5.out
  have f0 := free_at HR5.out 0
  have f1 := free_at HR5.out 1
  have f2 := free_at HR5.out 2
  have f3 := free_at HR5.out 3
  have f4 := free_at HR5.out 4
  go_wp2_with fail
  have HT := Lib.hid (turn5 w5 w.heap.size (.int .i64 x.op) (.int .i64 x.n) (.string x.s) (.string x.q) (.slice x.a x.x.length x.c))
  refine bodyPost_ret (results_expr rfl _ _ w.heap.size _ _ _ _ _ rfl (set5 HR5.out)) rfl ?_
  exact pass_endG (by have := HT1.out.size; simp at this; omega) HLO.out HX2.out HX3.out HB.out HT1.out HX5.out HX4.out HT.out HX1.out
end Go.Proofs.YtmihlmlojmdhjaaGreatDoor.Prg
/- Rows of the call's own, of any element: what they read as; one more element behind the others. Conditions: sizes. -/
namespace Go.Proofs.YtmihlmlojmdhjaaGreatDoor.Prs
open Go.RowKit Tre
open Lex (Wd wdC wdV bs str Turn info_of plain_add)
set_option maxRecDepth 100000
set_option linter.unusedSimpArgs false
variable {lo : Nat} {α : Type} {k : Nat} {C : α → List Value} {T : TypeId}
/-- A row of the call's own, from block lo on. -/
def OwnG (k : Nat) (C : α → List Value) (T : TypeId) (w : World) (lo : Nat) (v : Value) (l : List α) : Prop := w.ownsRow lo T k v l.length (l.flatMap C)
theorem OwnG.nil (w : World) (lo : Nat) : OwnG k C T w lo (.slice none 0 0) [] := World.ownsRow_nil _ _ _ _
theorem OwnG.form {w : World} {v : Value} {l : List α} (h : OwnG k C T w lo v l) : ∃ A c, v = .slice A l.length c ∧ l.length ≤ c ∧ ∀ ad, A = some ad → ∃ b, ad = ⟨b, 0, none⟩ := by
  rcases h.2 with ⟨e1, e2⟩ | ⟨g, cap, cur, e, _, _, hc, _⟩
  · exact ⟨none, 0, by rw [e1, e2], by omega, fun ad e => by cases e⟩
  · exact ⟨_, cap, e, hc, fun ad e => by injection e with e; exact ⟨g, e.symm⟩⟩
theorem flat_get (hC : ∀ x, (C x).length = k) : ∀ (l : List α) (p r : Nat), r < k → (l.flatMap C)[p * k + r]? = (l[p]?).bind fun x => (C x)[r]?
  | [], p, r, _ => by simp
  | x :: l, 0, r, hr => by
    rw [List.flatMap_cons, List.getElem?_append_left (by rw [hC]; omega)]
    simp
  | x :: l, p + 1, r, hr => by
    rw [List.flatMap_cons, List.getElem?_append_right (by rw [hC, Nat.add_mul]; omega), hC, show (p + 1) * k + r - k = p * k + r by rw [Nat.add_mul]; omega, flat_get hC l p r hr]
    simp
theorem OwnG.row (hC : ∀ x, (C x).length = k) {w : World} {A : Option Addr} {n c : Nat} {l : List α} (h : OwnG k C T w lo (.slice A n c) l) : Row k C w A l := fun h0 => by
  obtain ⟨g, cap, hv, _, hlt⟩ := World.ownsRow.form h h0
  injection hv with e1 e2 e3
  subst e1
  have hc := World.ownsRow.cells h (g := g) rfl
  refine ⟨g, 0, rfl, hlt, fun j x hx r u hu => ?_⟩
  have hr : r < k := by have := (List.getElem?_eq_some_iff.1 hu).1; rwa [hC] at this
  have := hc (j * k + r) u (by rw [flat_get hC l j r hr, hx]; exact hu)
  rw [plain_add] at this
  rwa [Nat.add_assoc]
theorem OwnG.keep {w w' : World} {v : Value} {l : List α} (h : OwnG k C T w lo v l) (hb : ∀ g, v.ownBlock = some g → w'.heap[g]? = w.heap[g]?) : OwnG k C T w' lo v l := by
  refine ⟨h.1, ?_⟩
  rcases h.2 with h2 | ⟨g, cap, cur, e, hlo, hh, r⟩
  · exact .inl h2
  · exact .inr ⟨g, cap, cur, e, hlo, (hb g (by rw [e]; rfl)).trans hh, r⟩
theorem OwnG.lt {w : World} {v : Value} {l : List α} (h : OwnG k C T w lo v l) : ∀ b, v.ownBlock = some b → lo ≤ b ∧ b < w.heap.size := World.ownsRow.lt h
/-- One more behind a row. -/
theorem OwnG.app {P : Program} {L : TypeId} {i : TypeInfo} {z : Value} {bytes : Nat} (hL : P.underlying L = some (.slice T)) (hi : P.info? T = some i) (hz : i.zero = some z) (hk : i.size = k) (hby : i.bytes = bytes) (hzs : z.cells.size = k) (h0 : 0 < k)
    (hC : ∀ x, (C x).length = k) (h1 : ∀ x, ∀ u ∈ C x, u.oneCell' = true) (w : World) (v : Value) (l : List α) (x : α) (eb : Nat) (h : OwnG k C T w lo v l) (he : w.heap[eb]? = some (.cells (C x).toArray T (0, 0))) (hl : l.length ≤ 1000000) (hb : bytes ≤ 10000) (hlo : lo ≤ w.heap.size) :
    ∃ v2 w2, (∀ ty, (Builtin.append_ #[L, L] ty #[v, .slice (some ⟨eb, 0, none⟩) 1 1]).run P w = .ok v2 w2) ∧ OwnG k C T w2 lo v2 (l ++ [x]) ∧ w.grownBy w2 v.ownBlock ∧ (v2.ownBlock = v.ownBlock ∨ v2.ownBlock = some w.heap.size) := by
  have hm : (l.length + 1) * bytes ≤ 1000001 * 10000 := Nat.mul_le_mul (by omega) hb
  obtain ⟨v2, w2, hrun, r1, r2, _, r4⟩ := run_append_own_at (P := P) (w := w) lo L T T i z k bytes hL hi hz hk hby hzs h0 v l.length (l.flatMap C) h ⟨eb, 0, none⟩ 1 1 (C x) (by rw [hC]; omega) (fun j u hu => by
    rw [plain_add, Nat.zero_add, cell_at he]
    simpa using hu) (h1 x) (by unfold maxLen; omega) (by omega) hlo
  exact ⟨v2, w2, fun _ => hrun, by unfold OwnG; rw [List.flatMap_append, List.length_append]; simpa using r1, r2, r4⟩
end Go.Proofs.YtmihlmlojmdhjaaGreatDoor.Prs
/- The document's call: a call's name and its arguments. Conditions: the reader is known; the row of the first level does as the plain grammar says. -/
namespace Go.Proofs.YtmihlmlojmdhjaaGreatDoor.Prs
open Go.RowKit Tre
open Lex (Wd wdC wdV bs str Turn info_of)
set_option maxRecDepth 100000
set_option linter.unusedSimpArgs false
variable {lo : Nat}
theorem infoX : (Tryz.prog.info? 42).map (fun i => (i.zero, i.size, i.bytes)) = some (some (.agg #[.int .i64 0, .int .i64 0, .string ⟨#[]⟩, .string ⟨#[]⟩, .slice none 0 0]), 5, 72) := by kernel_rfl
theorem exC_arr (x : Ex) : (exC x).toArray = #[.int .i64 x.op, .int .i64 x.n, .string x.s, .string x.q, .slice x.a x.x.length x.c] := by
  cases x
  rfl
theorem exC_one (x : Ex) : ∀ u ∈ exC x, u.oneCell' = true := by
  obtain ⟨o, n, s, q, a, c, x⟩ := x
  intro u hu
  simp only [exC, List.mem_cons, List.not_mem_nil, or_false] at hu
  rcases hu with rfl | rfl | rfl | rfl | rfl <;> rfl
theorem app_ex (w : World) (b0 : Nat) (v : Value) (l : List Ex) (x : Ex) (eb : Nat) (h : OwnG 5 exC 42 w b0 v l) (he : w.heap[eb]? = some (.cells #[.int .i64 x.op, .int .i64 x.n, .string x.s, .string x.q, .slice x.a x.x.length x.c] 42 (0, 0))) (hl : l.length ≤ 1000000) (hlo : b0 ≤ w.heap.size) :
    ∃ v2 w2, (∀ ty, (Builtin.append_ #[40, 40] ty #[v, .slice (some ⟨eb, 0, none⟩) 1 1]).run Tryz.prog w = .ok v2 w2) ∧ OwnG 5 exC 42 w2 b0 v2 (l ++ [x]) ∧ w.grownBy w2 v.ownBlock ∧ (v2.ownBlock = v.ownBlock ∨ v2.ownBlock = some w.heap.size) := by
  obtain ⟨i0, hi0, hz0, hz1, hz2⟩ := info_of infoX
  exact OwnG.app Tryz.underlying40 hi0 hz0 hz1 hz2 rfl (by decide) exC_len exC_one w v l x eb h (by rw [exC_arr]; exact he) hl (by decide) hlo
theorem big_eq (n : Nat) : decide ((255 : Int) < (n : Int)) = decide (255 < n) := decide_eq_decide.2 (by omega)
theorem mustW_lt {r : PS} {s : List UInt8} (h : (mustW r s).bad = false) : lenR (mustW r s) < lenR r := by
  unfold mustW at h ⊢
  by_cases hi : isW r s = true
  · rw [if_pos hi] at h ⊢
    have := lenR_pos hi
    rw [lenR_tl]
    omega
  · rw [if_neg hi] at h
    cases h
theorem told_end {s0 ss qs : List UInt8} {r r' : PS} {xs : List Tx} (h : tell (.call s0) r = tell (.args qs ss xs) r') (hb : (r'.bad || isW r' [41]) = true) : tell (.call s0) r = callEnd qs ss xs r' := by
  rw [h, tell_args, if_pos hb]
theorem told_last {s0 ss qs : List UInt8} {r r' : PS} {xs : List Tx} (h : tell (.call s0) r = tell (.args qs ss xs) r') (hb : r'.bad = false) (hi : isW r' [41] = false) (hc : isW (tell (.row 0) r').2 [44] = false) : tell (.call s0) r = callEnd qs ss (xs ++ [(tell (.row 0) r').1]) (tell (.row 0) r').2 := by
  rw [h, tell_args, if_neg (by simp [hb, hi]), if_neg (by simp [hc])]
theorem told_more {s0 ss qs : List UInt8} {r r' : PS} {xs : List Tx} (h : tell (.call s0) r = tell (.args qs ss xs) r') (hb : r'.bad = false) (hi : isW r' [41] = false) (hc : isW (tell (.row 0) r').2 [44] = true) (hd : isW (tl (tell (.row 0) r').2) [41] = false) :
    tell (.call s0) r = tell (.args qs ss (xs ++ [(tell (.row 0) r').1])) (tl (tell (.row 0) r').2) := by
  rw [h, tell_args, if_neg (by simp [hb, hi]), if_pos hc, if_neg (by simp [hd])]
theorem told_bad {s0 ss qs : List UInt8} {r r' : PS} {xs : List Tx} (h : tell (.call s0) r = tell (.args qs ss xs) r') (hb : r'.bad = false) (hi : isW r' [41] = false) (hc : isW (tell (.row 0) r').2 [44] = true) (hd : isW (tl (tell (.row 0) r').2) [41] = true) :
    tell (.call s0) r = tell (.args qs ss (xs ++ [(tell (.row 0) r').1])) (badR (tl (tell (.row 0) r').2)) := by
  rw [h, tell_args, if_neg (by simp [hb, hi]), if_pos hc, if_pos hd, tell_args, if_pos (by simp [badR])]
end Go.Proofs.YtmihlmlojmdhjaaGreatDoor.Prs
/- The document's expressions, whole: row, unary and call tell what the plain grammar tells. Condition: the reader is known. -/
namespace Go.Proofs.YtmihlmlojmdhjaaGreatDoor.Prs
open Go.RowKit Tre
open Lex (Wd wdC wdV bs str Turn)
set_option maxRecDepth 100000
set_option linter.unusedSimpArgs false
variable {lo : Nat}
end Go.Proofs.YtmihlmlojmdhjaaGreatDoor.Prs
/- The document's kind and end: what they answer, and what they leave. Condition: the reader is known. -/
namespace Go.Proofs.YtmihlmlojmdhjaaGreatDoor.Prs
open Go.RowKit Tre
open Lex (Wd wdC wdV bs str Turn)
set_option maxRecDepth 100000
set_option linter.unusedSimpArgs false
variable {lo : Nat}
def kindN (r : PS) : Int := if isW r [105, 110, 116] then 1 else if isW r [98, 111, 111, 108] then 2 else 0
def kindR (r : PS) : PS := if isW r [105, 110, 116] || isW r [98, 111, 111, 108] then tl r else r
def endN (r : PS) : Int := if r.bad || decide (0 < r.l.length) then 7 else if r.big then 11 else 0
end Go.Proofs.YtmihlmlojmdhjaaGreatDoor.Prs
/- Statements in memory, behind a call that tells them. No condition. -/
namespace Go.Proofs.YtmihlmlojmdhjaaGreatDoor.Prs
open Go.RowKit Tre
open Lex (Wd wdC wdV bs str Turn info_of)
set_option maxRecDepth 100000
set_option linter.unusedSimpArgs false
variable {lo : Nat}
/-- All of the statement's rows lie from block b on. -/
def NewS (b : Nat) (s : St) : Prop := ∀ y ∈ flatS s, New b y.e ∧ (∀ ad, y.a = some ad → b ≤ ad.block) ∧ (∀ ad, y.a2 = some ad → b ≤ ad.block)
theorem NewS.mono {b c : Nat} {s : St} (h : NewS b s) (hc : c ≤ b) : NewS c s := fun y hy => ⟨(h y hy).1.mono hc, fun ad e => Nat.le_trans hc ((h y hy).2.1 ad e), fun ad e => Nat.le_trans hc ((h y hy).2.2 ad e)⟩
/-- No row of the statement lies in the blocks S. -/
def OffS (S : List Nat) (s : St) : Prop := ∀ y ∈ flatS s, Off S y.e ∧ (0 < y.b.length → ∀ b o, y.a = some ⟨b, o, none⟩ → b ∉ S) ∧ (0 < y.b2.length → ∀ b o, y.a2 = some ⟨b, o, none⟩ → b ∉ S)
theorem StIn.off {S : List Nat} {w w' : World} {s : St} (h : StIn w s) (ho : OffS S s) (ht : Turn S w w') : StIn w' s := fun y hy => by
  have hn := h y hy
  have hf := ho y hy
  exact ⟨ExIn.off hn.e hf.1 ht, fun h0 => Row.kept hn.row ht.size (fun b' o e hlt => ht.block b' hlt (hf.2.1 h0 _ _ e)) h0, fun h0 => Row.kept hn.row2 ht.size (fun b' o e hlt => ht.block b' hlt (hf.2.2 h0 _ _ e)) h0, hn.len, hn.len2, hn.s⟩
theorem NewS.off {b : Nat} {S : List Nat} {s : St} (h : NewS b s) (hs : ∀ k ∈ S, k < b) : OffS S s := fun y hy => by
  obtain ⟨h1, h2, h3⟩ := h y hy
  refine ⟨h1.off hs, fun _ c o e hm => ?_, fun _ c o e hm => ?_⟩
  · have := h2 _ e
    have := hs _ hm
    simp only at *
    omega
  · have := h3 _ e
    have := hs _ hm
    simp only at *
    omega
theorem StIn.fresh {w : World} {s : St} (h : StIn w s) : OffS [w.heap.size] s := fun y hy => by
  have hn := h y hy
  refine ⟨ExIn.fresh hn.e, fun h0 b o e hm => ?_, fun h0 b o e hm => ?_⟩
  · obtain ⟨b', o', e', hlt, _⟩ := hn.row h0
    rw [e] at e'
    injection e' with e'
    injection e' with e1
    simp at hm
    omega
  · obtain ⟨b', o', e', hlt, _⟩ := hn.row2 h0
    rw [e] at e'
    injection e' with e'
    injection e' with e1
    simp at hm
    omega
theorem stC_len (s : St) : (stC s).length = 9 := by
  obtain ⟨o, s, ⟨eo, en, es, eq, ea, ec, ex⟩, a, c, b, a2, c2, b2⟩ := s
  rfl
theorem stC_one (s : St) : ∀ u ∈ stC s, u.oneCell' = true := by
  obtain ⟨o, s, ⟨eo, en, es, eq, ea, ec, ex⟩, a, c, b, a2, c2, b2⟩ := s
  intro u hu
  simp only [stC, List.mem_cons, List.not_mem_nil, or_false] at hu
  rcases hu with rfl | rfl | rfl | rfl | rfl | rfl | rfl | rfl | rfl <;> rfl
theorem infoS : (Tryz.prog.info? 47).map (fun i => (i.zero, i.size, i.bytes)) = some (some (.agg #[.int .i64 0, .string ⟨#[]⟩, .int .i64 0, .int .i64 0, .string ⟨#[]⟩, .string ⟨#[]⟩, .slice none 0 0, .slice none 0 0, .slice none 0 0]), 9, 144) := by kernel_rfl
theorem app_st (w : World) (b0 : Nat) (v : Value) (l : List St) (x : St) (eb : Nat) (h : OwnG 9 stC 47 w b0 v l) (he : w.heap[eb]? = some (.cells (stC x).toArray 47 (0, 0))) (hl : l.length ≤ 1000000) (hlo : b0 ≤ w.heap.size) :
    ∃ v2 w2, (∀ ty, (Builtin.append_ #[34, 34] ty #[v, .slice (some ⟨eb, 0, none⟩) 1 1]).run Tryz.prog w = .ok v2 w2) ∧ OwnG 9 stC 47 w2 b0 v2 (l ++ [x]) ∧ w.grownBy w2 v.ownBlock ∧ (v2.ownBlock = v.ownBlock ∨ v2.ownBlock = some w.heap.size) := by
  obtain ⟨i0, hi0, hz0, hz1, hz2⟩ := info_of infoS
  exact OwnG.app Tryz.underlying34 hi0 hz0 hz1 hz2 rfl (by decide) stC_len stC_one w v l x eb h he hl (by decide) hlo
/-- A block's own memory. -/
structure HeldB (w wr : World) (g : Nat) (xs : List St) (A : Option Addr) (c : Nat) : Prop where
  own : OwnG 9 stC 47 wr w.heap.size (.slice A xs.length c) xs
  ein : ∀ x ∈ xs, StIn wr x
  new : ∀ x ∈ xs, NewS w.heap.size x
  off : ∀ x ∈ xs, ∀ b, (Value.slice A xs.length c).ownBlock = some b → OffS [b] x
  turn : Turn [g] w wr
  g : g < w.heap.size
theorem HeldB.turned {w wr wr' : World} {g : Nat} {xs : List St} {A : Option Addr} {c : Nat} (h : HeldB w wr g xs A c) (ht : Turn [g] wr wr') : HeldB w wr' g xs A c := by
  have hg := h.g
  exact ⟨h.own.keep fun b hb => ht.block b (h.own.lt b hb).2 (by have := (h.own.lt b hb).1; simp; omega), fun x hx => StIn.off (h.ein x hx) (NewS.off (h.new x hx) (fun b hb => by simp at hb; omega)) ht, h.new, h.off, h.turn.trans ht, hg⟩
theorem HeldB.below {w wr wr' : World} {g : Nat} {xs : List St} {A : Option Addr} {c : Nat} (h : HeldB w wr g xs A c) (hb : Below wr.heap.size wr wr') : HeldB w wr' g xs A c :=
  h.turned ((Turn.refl [g] wr).below hb)
/-- One statement more. -/
theorem HeldB.more {w u1 u2 : World} {g c c2 b0 : Nat} {xs : List St} {A A2 : Option Addr} {y : St} (h : HeldB w u1 g xs A c) (hy : StIn u1 y) (ny : NewS b0 y) (hb : ∀ b, (Value.slice A xs.length c).ownBlock = some b → b < b0) (h0 : w.heap.size ≤ b0)
    (how : OwnG 9 stC 47 u2 w.heap.size (.slice A2 (xs ++ [y]).length c2) (xs ++ [y])) (hgr : u1.grownBy u2 (Value.slice A xs.length c).ownBlock) (hbo : (Value.slice A2 (xs ++ [y]).length c2).ownBlock = (Value.slice A xs.length c).ownBlock ∨ (Value.slice A2 (xs ++ [y]).length c2).ownBlock = some u1.heap.size) :
    HeldB w u2 g (xs ++ [y]) A2 c2 := by
  have hg := h.g
  have T2 : Turn (Value.slice A xs.length c).ownBlock.toList u1 u2 := (Turn.refl _ u1).grown hgr (fun k hk => .inl (by simp [hk]))
  have hlo : ∀ b ∈ (Value.slice A xs.length c).ownBlock.toList, w.heap.size ≤ b ∧ b < u1.heap.size := fun b hb => h.own.lt b (by simpa using hb)
  have hoff : ∀ x ∈ xs ++ [y], ∀ b, (Value.slice A xs.length c).ownBlock = some b → OffS [b] x := fun x hx b e => by
    rcases List.mem_append.1 hx with hx | hx
    · exact h.off x hx b e
    · obtain rfl : x = y := by simpa using hx
      exact ny.off (fun k hk => by simp at hk; subst hk; exact hb _ e)
  have hin : ∀ x ∈ xs ++ [y], StIn u1 x := fun x hx => by
    rcases List.mem_append.1 hx with hx | hx
    · exact h.ein x hx
    · obtain rfl : x = y := by simpa using hx
      exact hy
  have hoffL : ∀ x ∈ xs ++ [y], OffS (Value.slice A xs.length c).ownBlock.toList x := fun x hx => by
    cases ho : (Value.slice A xs.length c).ownBlock with
    | none => exact fun y hy => ⟨fun _ _ _ _ _ _ h => by simp at h, fun _ _ _ _ h => by simp at h, fun _ _ _ _ h => by simp at h⟩
    | some b => exact hoff x hx b ho
  refine ⟨how, fun x hx => StIn.off (hin x hx) (hoffL x hx) T2, fun x hx => ?_, fun x hx b e => ?_, h.turn.then_ T2 (fun k hk => .inr (hlo k hk).1), hg⟩
  · rcases List.mem_append.1 hx with hx | hx
    · exact h.new x hx
    · obtain rfl : x = y := by simpa using hx
      exact ny.mono h0
  · rcases hbo with e2 | e2
    · exact hoff x hx b (e2.symm.trans e)
    · rw [e2] at e
      injection e with e
      subst e
      exact StIn.fresh (hin x hx)
end Go.Proofs.YtmihlmlojmdhjaaGreatDoor.Prs
/- The document's block: statements in brackets. Conditions: the reader is known; a statement tells what the plain grammar says. -/
namespace Go.Proofs.YtmihlmlojmdhjaaGreatDoor.Prs
open Go.RowKit Tre
open Lex (Wd wdC wdV bs str Turn info_of)
set_option maxRecDepth 100000
set_option linter.unusedSimpArgs false
variable {lo : Nat}
/-- An append, where its run is known. -/
theorem wpList_appG {P : Program} (L : TypeId) {w w2 : World} {ops : Array Oper} {rest : List Oper} {o : Oper} {a : Act} {Q : Exit → Act → World → Prop} (hgd : o.guard = none) (s x : Operand)
    (ho : o.op = .call { callee := .builtin .append, args := #[s, x], argTypes := #[L, L] }) (v u v2 : Value) (hs : a.eval s = v) (hx : a.eval x = u) (hrun : ∀ ty, (Builtin.append_ #[L, L] ty #[v, u]).run P w = .ok v2 w2)
    (h : wpList P ops Q rest (a.put o.dst v2) w2) : wpList P ops Q (o :: rest) a w := by
  refine wpList_plain hgd fun _ hK => ?_
  unfold Oper.wp execOp
  simp only [ho, resolve, invoke, builtin, Sem.run_bind, Sem.run_pure, Result.andThen_ok, List.map_toArray, List.map_cons, List.map_nil, hs, hx, hrun]
  exact hK _ _ h
theorem blk_end {s0 : PS} {r' : PS} {xs : List Ts} (h : tellS .block s0 = tellS (.loop xs) r') (hb : (r'.bad || isW r' [125]) = true) : tellS .block s0 = (xs, mustW r' [125]) := by
  rw [h, tellS_loop, if_pos hb]
theorem blk_last {s0 : PS} {r' : PS} {xs : List Ts} (h : tellS .block s0 = tellS (.loop xs) r') (hb : r'.bad = false) (hi : isW r' [125] = false) (hc : isW (tellS .stmt r').2 [59] = false) : tellS .block s0 = (xs ++ (tellS .stmt r').1, mustW (tellS .stmt r').2 [125]) := by
  rw [h, tellS_loop, if_neg (by simp [hb, hi]), if_neg (by simp [hc])]
theorem blk_more {s0 : PS} {r' : PS} {xs : List Ts} (h : tellS .block s0 = tellS (.loop xs) r') (hb : r'.bad = false) (hi : isW r' [125] = false) (hc : isW (tellS .stmt r').2 [59] = true) : tellS .block s0 = tellS (.loop (xs ++ (tellS .stmt r').1)) (tl (tellS .stmt r').2) := by
  rw [h, tellS_loop, if_neg (by simp [hb, hi]), if_pos hc]
end Go.Proofs.YtmihlmlojmdhjaaGreatDoor.Prs
/- The program's list of expressions in brackets. Conditions: the reader is known; an expression is told as the plain grammar says. -/
namespace Go.Proofs.YtmihlmlojmdhjaaGreatDoor.Prg
open Go.RowKit Tre Prs
open Lex (Wd wdC wdV bs str Turn)
set_option maxRecDepth 100000
set_option linter.unusedSimpArgs false
variable {lo : Nat}
/-- A list's own memory. -/
structure HeldL (w wr : World) (g : Nat) (xs : List Ex) (A : Option Addr) (c : Nat) : Prop where
  own : OwnG 5 exC 42 wr w.heap.size (.slice A xs.length c) xs
  ein : ∀ x ∈ xs, ExIn wr x
  new : ∀ x ∈ xs, New w.heap.size x
  off : ∀ x ∈ xs, ∀ b, (Value.slice A xs.length c).ownBlock = some b → Off [b] x
  turn : Turn [g] w wr
  g : g < w.heap.size
theorem HeldL.turned {w wr wr' : World} {g : Nat} {xs : List Ex} {A : Option Addr} {c : Nat} (h : HeldL w wr g xs A c) (ht : Turn [g] wr wr') : HeldL w wr' g xs A c := by
  have hg := h.g
  exact ⟨h.own.keep fun b hb => ht.block b (h.own.lt b hb).2 (by have := (h.own.lt b hb).1; simp; omega), fun x hx => ExIn.off (h.ein x hx) (New.off (h.new x hx) (fun b hb => by simp at hb; omega)) ht, h.new, h.off, h.turn.trans ht, hg⟩
theorem HeldL.below {w wr wr' : World} {g : Nat} {xs : List Ex} {A : Option Addr} {c : Nat} (h : HeldL w wr g xs A c) (hb : Below wr.heap.size wr wr') : HeldL w wr' g xs A c :=
  h.turned ((Turn.refl [g] wr).below hb)
theorem HeldL.nil (w : World) (g : Nat) (hg : g < w.heap.size) : HeldL w w g [] none 0 := ⟨OwnG.nil _ _, fun x hx => by simp at hx, fun x hx => by simp at hx, fun x hx => by simp at hx, Turn.refl [g] w, hg⟩
/-- One expression more. -/
theorem HeldL.more {w u1 u2 : World} {g c c2 b0 : Nat} {xs : List Ex} {A A2 : Option Addr} {y : Ex} (h : HeldL w u1 g xs A c) (hy : ExIn u1 y) (ny : New b0 y) (hb : ∀ b, (Value.slice A xs.length c).ownBlock = some b → b < b0) (h0 : w.heap.size ≤ b0)
    (how : OwnG 5 exC 42 u2 w.heap.size (.slice A2 (xs ++ [y]).length c2) (xs ++ [y])) (hgr : u1.grownBy u2 (Value.slice A xs.length c).ownBlock) (hbo : (Value.slice A2 (xs ++ [y]).length c2).ownBlock = (Value.slice A xs.length c).ownBlock ∨ (Value.slice A2 (xs ++ [y]).length c2).ownBlock = some u1.heap.size) :
    HeldL w u2 g (xs ++ [y]) A2 c2 := by
  have hg := h.g
  have T2 : Turn (Value.slice A xs.length c).ownBlock.toList u1 u2 := (Turn.refl _ u1).grown hgr (fun k hk => .inl (by simp [hk]))
  have hlo : ∀ b ∈ (Value.slice A xs.length c).ownBlock.toList, w.heap.size ≤ b ∧ b < u1.heap.size := fun b hb => h.own.lt b (by simpa using hb)
  have hoff : ∀ x ∈ xs ++ [y], ∀ b, (Value.slice A xs.length c).ownBlock = some b → Off [b] x := fun x hx b e => by
    rcases List.mem_append.1 hx with hx | hx
    · exact h.off x hx b e
    · obtain rfl : x = y := by simpa using hx
      exact ny.off (fun k hk => by simp at hk; subst hk; exact hb _ e)
  have hin : ∀ x ∈ xs ++ [y], ExIn u1 x := fun x hx => by
    rcases List.mem_append.1 hx with hx | hx
    · exact h.ein x hx
    · obtain rfl : x = y := by simpa using hx
      exact hy
  have hoffL : ∀ x ∈ xs ++ [y], Off (Value.slice A xs.length c).ownBlock.toList x := fun x hx => by
    cases ho : (Value.slice A xs.length c).ownBlock with
    | none => exact fun y hy _ b o _ hm => by simp at hm
    | some b => exact hoff x hx b ho
  refine ⟨how, fun x hx => ExIn.off (hin x hx) (hoffL x hx) T2, fun x hx => ?_, fun x hx b e => ?_, h.turn.then_ T2 (fun k hk => .inr (hlo k hk).1), hg⟩
  · rcases List.mem_append.1 hx with hx | hx
    · exact h.new x hx
    · obtain rfl : x = y := by simpa using hx
      exact ny.mono h0
  · rcases hbo with e2 | e2
    · exact hoff x hx b (e2.symm.trans e)
    · rw [e2] at e
      injection e with e
      subst e
      exact ExIn.fresh (hin x hx)
/-- An expression that was told behind a list, appended. -/
theorem HeldL.push {w v1 v2 : World} {g c : Nat} {xs : List Ex} {A : Option Addr} {y : Ex} {r' : PS} (hh : HeldL w v1 g xs A c) (hy2 : ExIn v2 y) (hy3 : New v1.heap.size y) (ht : Turn [g] v1 v2) (hl : xs.length ≤ 1000000) (hlo : lo ≤ w.heap.size) (hr : InG lo v2 g r') :
    ∃ A2 c2 u2, (∀ ty, (Builtin.append_ #[40, 40] ty #[.slice A xs.length c, .slice (some ⟨v2.heap.size, 0, none⟩) 1 1]).run Tryz.prog (v2.alloc (.cells #[.int .i64 y.op, .int .i64 y.n, .string y.s, .string y.q, .slice y.a y.x.length y.c] 42)) = .ok (.slice A2 (xs ++ [y]).length c2) u2) ∧ HeldL w u2 g (xs ++ [y]) A2 c2 ∧ InG lo u2 g r' := by
  have hb3 := ball_new v2 #[.int .i64 y.op, .int .i64 y.n, .string y.s, .string y.q, .slice y.a y.x.length y.c] 42
  have hn3 := new_at v2 #[.int .i64 y.op, .int .i64 y.n, .string y.s, .string y.q, .slice y.a y.x.length y.c] 42
  have hh2 := hh.turned ht
  have hh3 := hh2.below hb3
  obtain ⟨vv, u2, hap, how, hgr, hbo⟩ := app_ex _ w.heap.size (.slice A xs.length c) xs y v2.heap.size hh3.own hn3 hl hh3.turn.size
  obtain ⟨A2, c2, rfl, -⟩ := how.form
  have T2 : Turn (Value.slice A xs.length c).ownBlock.toList (v2.alloc (.cells #[.int .i64 y.op, .int .i64 y.n, .string y.s, .string y.q, .slice y.a y.x.length y.c] 42)) u2 := (Turn.refl _ _).grown hgr (fun k hk => .inl (by simp [hk]))
  exact ⟨A2, c2, u2, hap, hh3.more (Tre.ExIn.below hy2 hb3) hy3 (fun b hb => (hh.own.lt b hb).2) hh.turn.size how hgr hbo, (hr.below hb3).buts T2 (fun b hb => by have := (hh3.own.lt b (by simpa using hb)).1; omega)⟩
/-- How far the reader has to go. -/
def remG (w : World) (g : Nat) : Nat := match w.cell? ⟨g, 1, none⟩, w.cell? ⟨g, 0, none⟩ with
  | some (.bool false), some (.slice _ n _) => n + 1
  | _, _ => 0
theorem RdG.rem {w : World} {g : Nat} {r : PS} (h : RdG lo w g r) : remG w g = lenB r := by
  obtain ⟨a, c, h1, _⟩ := h.at_
  have c0 := cell_at h1 0
  have c1 := cell_at h1 1
  simp only [List.getElem?_toArray, List.getElem?_cons_succ, List.getElem?_cons_zero] at c0 c1
  unfold remG lenB
  rw [c0, c1]
  cases r.bad <;> rfl
theorem lenB_le {w : World} {g : Nat} {r : PS} (h : RdG lo w g r) : lenB r ≤ 100001 := by
  unfold lenB
  have := h.len
  split <;> omega
/-- What a call leaves that tells a list of expressions. -/
def EvL (lo : Nat) (w : World) (g : Nat) (r : PS) (e : Ending) (w' : World) : Prop := ∃ (A : Option Addr) (c : Nat) (xs : List Ex) (r' : PS), e = .returned (.slice A xs.length c) ∧ AgL r (xs.map core) r' ∧ Row 5 exC w' A xs ∧ xs.length ≤ 200000 ∧ xs.length ≤ c ∧ (∀ ad, A = some ad → w.heap.size ≤ ad.block) ∧ (∀ x ∈ xs, ExIn w' x) ∧ (∀ x ∈ xs, New w.heap.size x) ∧ RdG lo w' g r' ∧ Turn [g] w w'
theorem list_out {w w7 : World} {g : Nat} {xs : List Ex} {A : Option Addr} {c : Nat} {r r' : PS} (h : HeldL w w7 g xs A c) (hr : RdG lo w7 g r') (hx : xs.length ≤ 200000) (hp : AgL r (xs.map core) r') : EvL lo w g r (.returned (.slice A xs.length c)) w7 := by
  refine ⟨A, c, xs, r', rfl, hp, h.own.row exC_len, hx, ?_, fun ad e => ?_, h.ein, h.new, hr, h.turn⟩
  · obtain ⟨A', c', e, hc, -⟩ := h.own.form
    injection e with _ _ e
    omega
  · subst e
    exact (h.own.lt ad.block rfl).1
/-- What the loop knows. -/
structure LisAt (lo : Nat) (w wr : World) (g : Nat) (r r' : PS) (xs : List Ex) (A : Option Addr) (c : Nat) : Prop where
  rd : InG lo wr g r'
  held : HeldL w wr g xs A c
  told : AgI r (xs.map core) r'
  len : xs.length + lenB r' ≤ 100002
  le : lenB r' ≤ lenB r
set_option maxHeartbeats 8000000 in
theorem list_any (w : World) (g : Nat) (r : PS) (h : InG lo w g r) (CE : ∀ w' r', InG lo w' g r' → lenB r' ≤ lenB r → Hid (Calls Tryz.prog 143 #[.pointer (some ⟨g, 0, none⟩)] w' (EvG lo w' g (tell (.row 0) r')))) :
    Calls Tryz.prog 172 #[.pointer (some ⟨g, 0, none⟩), .func (.func 143) #[.pointer (some ⟨g, 0, none⟩)] #[]] w (EvL lo w g r) := by
  have HG := Lib.hid h.rd.lt
  have HLO := Lib.hid h.rd.wlo
  have HI := Lib.hid h
  have C0 := Lib.hid (must_any w g r [40] h.rd)
  have HCE := Lib.hid CE
  have HLM := Lib.hid (lenB_must r [40])
  have HLB := Lib.hid (lenB_le h.rd)
  clear h CE
  go_enter Tryz.func172, Tryz.ntmps172
  go_wp2_with fail
  refine C0.out.mono ?_
  rintro e w1 ⟨rfl, h1, h2⟩
  have H1 := Lib.hid (HI.out.step h2 h1)
  have H2 := Lib.hid h2
  have HH1 := Lib.hid ((HeldL.nil w g HG.out).turned h2)
  clear h1 h2 C0
  rcases Bool.eq_false_or_eq_true (isW (mustP r [40]) [41]) with hi | hi
  · have CH := Lib.hid (has_yes w1 g _ [41] H1.out.rd hi)
    have HO := Lib.hid (agl_none hi)
    clear hi
    go_wp2_with fail
    refine CH.out.mono ?_
    rintro e w2 ⟨rfl, h1, h2⟩
    have H3 := Lib.hid h1
    have HH2 := Lib.hid (HH1.out.turned h2)
    clear h1 h2
    go_wp2_with fail
    go_ret
    exact list_out HH2.out H3.out (by simp) HO.out
  · have CH := Lib.hid (has_no w1 g _ [41] H1.out.rd hi)
    have HNO := Lib.hid (fun t r' => agi_one (x := t) (r' := r') hi)
    clear hi
    go_wp2_with fail
    refine CH.out.mono ?_
    rintro e w2 ⟨rfl, h1, h2⟩
    have H3 := Lib.hid (H1.out.step h2 h1)
    have HH2 := Lib.hid (HH1.out.turned h2)
    have CX := HCE.out w2 _ H3.out HLM.out
    clear h1 h2 CH
    go_wp2_with fail
    refine CX.out.mono ?_
    rintro e v2 ⟨y, r3, rfl, hy1, hy2, hy3, hy4, hy5⟩
    rw [exV_eq]
    obtain ⟨A2, c2, u2, hap, hh, hin⟩ := HeldL.push HH2.out hy2 hy3 hy5 (by simp) HLO.out (H3.out.step hy5 hy4)
    have HAP := Lib.hid hap
    have START : Hid (LisAt lo w u2 g r r3 ([] ++ [y]) A2 c2) := Lib.hid ⟨hin, hh, HNO.out _ _ hy1, by
      have := ag_lenB hy1
      have := HLM.out
      have := HLB.out
      simp
      omega, by
      have := ag_lenB hy1
      have := HLM.out
      omega⟩
    clear hy1 hy2 hy3 hy4 hy5 hap hh hin CX HH1 HH2 H1 H2 H3 HNO HLM
    simp only [List.nil_append, List.length_cons, List.length_nil] at HAP START
    obtain ⟨ys, hys⟩ : ∃ ys, [y] = ys := ⟨_, rfl⟩
    have HYL : Hid (ys.length = 1) := Lib.hid (by rw [← hys]; rfl)
    rw [hys] at START
    clear hys
    go_wp2_with (at_builtin; refine wpList_appG 40 rfl (.tmp 11) (.tmp 14) rfl (.slice none 0 0) (.slice (some ⟨v2.heap.size, 0, none⟩) 1 1) _ rfl rfl HAP.out ?_)
    clear HAP
    go_loopw [5] (fun l wr => ∃ (r' : PS) (xs : List Ex) (A : Option Addr) (c : Nat), l = .slice A xs.length c ∧ Hid (LisAt lo w wr g r r' xs A c)) (fun _ wr => remG wr g)
    case atStart => exact ⟨r3, ys, A2, c2, by rw [HYL.out], START⟩
    case round =>
      clear START HYL
      obtain ⟨r', xs, A, c, rfl, HC⟩ := hrel
      have HM : Hid (remG wr g = lenB r') := Lib.hid HC.out.rd.rd.rem
      rcases Bool.eq_false_or_eq_true (isW r' [44]) with hi | hi
      · have CH := Lib.hid (has_yes wr g r' [44] HC.out.rd.rd hi)
        have HI2 := Lib.hid hi
        have HLT := Lib.hid (lenB_tl hi)
        clear hi
        go_wp2_with fail
        refine CH.out.mono ?_
        rintro e v1 ⟨rfl, h1, h2⟩
        have H3 := Lib.hid (HC.out.rd.step h2 h1)
        have HH2 := Lib.hid (HC.out.held.turned h2)
        have CX := HCE.out v1 _ H3.out (by have := HC.out.le; have := HLT.out; omega)
        clear h1 h2 CH
        go_wp2_with fail
        refine CX.out.mono ?_
        rintro e v2 ⟨y, r4, rfl, hy1, hy2, hy3, hy4, hy5⟩
        rw [exV_eq]
        obtain ⟨A4, c4, u4, hap, hh, hin⟩ := HeldL.push HH2.out hy2 hy3 hy5 (by have := HC.out.len; omega) HLO.out (H3.out.step hy5 hy4)
        have HAP := Lib.hid hap
        have HL4 := Lib.hid (ag_lenB hy1)
        have HN4 : Hid (LisAt lo w u4 g r r4 (xs ++ [y]) A4 c4) := Lib.hid ⟨hin, hh, by
          have := agi_more HC.out.told HI2.out hy1
          rw [List.map_append]
          exact this, by
          have := HL4.out
          have := HLT.out
          have := HC.out.len
          rw [List.length_append]
          simp
          omega, by
          have := HL4.out
          have := HLT.out
          have := HC.out.le
          omega⟩
        obtain ⟨n4, hn4⟩ : ∃ n, (xs ++ [y]).length = n := ⟨_, rfl⟩
        have HNL := Lib.hid hn4
        rw [hn4] at HAP
        clear hy1 hy2 hy3 hy4 hy5 hap hh hin CX HH2 H3 hn4
        go_wp2_with (at_builtin; refine wpList_appG 40 rfl (.tmp 18) (.tmp 21) rfl (.slice A xs.length c) (.slice (some ⟨v2.heap.size, 0, none⟩) 1 1) _ rfl rfl HAP.out ?_)
        go_roundw
        case rel => exact ⟨r4, xs ++ [y], A4, c4, by rw [HNL.out], HN4⟩
        case measure =>
          rw [HN4.out.rd.rd.rem, HM.out]
          have := HL4.out
          have := HLT.out
          omega
      · have CH := Lib.hid (has_no wr g r' [44] HC.out.rd.rd hi)
        have HO := Lib.hid (agl_end HC.out.told hi)
        clear hi
        go_wp2_with fail
        refine CH.out.mono ?_
        rintro e v1 ⟨rfl, h1, h2⟩
        have HH2 := Lib.hid (HC.out.held.turned h2)
        have CM := Lib.hid (must_any v1 g r' [41] h1)
        clear h1 h2 CH
        go_wp2_with fail
        refine CM.out.mono ?_
        rintro e v2 ⟨rfl, h1, h2⟩
        have H3 := Lib.hid h1
        have HH3 := Lib.hid (HH2.out.turned h2)
        clear h1 h2
        go_wp2_with fail
        go_ret
        exact list_out HH3.out H3.out (by have := HC.out.len; omega) HO.out
end Go.Proofs.YtmihlmlojmdhjaaGreatDoor.Prg
