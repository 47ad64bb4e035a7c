/-
  The program's expr: five closures, one in another. Conditions: the reader is known; unary tells what the plain grammar says.
-/
import Derived.Test.YtmihlmlojmdhjaaGreatDoorQ07
import Derived.Test.YtmihlmlojmdhjaaGreatDoorQ16
import Derived.Test.YtmihlmlojmdhjaaGreatDoorQ17
namespace Go.Proofs.YtmihlmlojmdhjaaGreatDoor.Prg
open Go.RowKit Tre Prs
open Lex (Wd wdC wdV bs str Turn)
set_option maxRecDepth 100000
set_option linter.unusedSimpArgs false
variable {lo : Nat}
/-- May a function's value be called? -/
def Callable (f : Nat) (fa fc : Array Value) : Prop := ∀ w' : World, (callFunc f (fa ++ fc)).run Tryz.prog w' = .ok (.enter f (fa ++ fc)) w'
theorem callable_un (g : Nat) : Callable 158 #[.pointer (some ⟨g, 0, none⟩)] #[] := fun w' => by kernel_rfl
theorem callable_ro (pb rb lb : Nat) : Callable 170 #[] #[.pointer (some ⟨pb, 0, none⟩), .pointer (some ⟨rb, 0, none⟩), .pointer (some ⟨lb, 0, none⟩)] := fun w' => by kernel_rfl
/-- The value that reads the row of level 5 - j. -/
def PartV (w : World) (g : Nat) : Nat → Nat → Array Value → Array Value → Prop
  | 0, f, fa, fc => f = 158 ∧ fa = #[.pointer (some ⟨g, 0, none⟩)] ∧ fc = #[]
  | j + 1, f, fa, fc => f = 170 ∧ fa = #[] ∧ ∃ (pb rb lb f' : Nat) (fa' fc' : Array Value), fc = #[.pointer (some ⟨pb, 0, none⟩), .pointer (some ⟨rb, 0, none⟩), .pointer (some ⟨lb, 0, none⟩)] ∧ Capt w g pb rb lb (.func (.func f') fa' fc') j ∧ Callable f' fa' fc' ∧ PartV w g j f' fa' fc'
theorem PartV.turn {w w' : World} {g : Nat} (ht : Turn [g] w w') : ∀ {j f : Nat} {fa fc : Array Value}, PartV w g j f fa fc → PartV w' g j f fa fc
  | 0, _, _, _, h => h
  | _ + 1, _, _, _, ⟨h1, h2, pb, rb, lb, f', fa', fc', h3, h4, h5, h6⟩ => ⟨h1, h2, pb, rb, lb, f', fa', fc', h3, h4.turn ht, h5, PartV.turn ht h6⟩
theorem PartV.callable {w : World} {g : Nat} : ∀ {j f : Nat} {fa fc : Array Value}, PartV w g j f fa fc → Callable f fa fc
  | 0, _, _, _, ⟨h1, h2, h3⟩ => by subst h1; subst h2; subst h3; exact callable_un g
  | _ + 1, _, _, _, ⟨h1, h2, pb, rb, lb, _, _, _, h3, _⟩ => by subst h1; subst h2; subst h3; exact callable_ro pb rb lb
/-- What such a value tells. -/
theorem part_calls (g N : Nat) (CU : ∀ w' r', InG lo w' g r' → lenB r' ≤ N → Hid (Calls Tryz.prog 158 #[.pointer (some ⟨g, 0, none⟩)] w' (EvG lo w' g (tell .unary r')))) :
    ∀ (j f : Nat) (fa fc : Array Value) (w : World) (r : PS), j ≤ 5 → InG lo w g r → lenB r ≤ N → PartV w g j f fa fc → Calls Tryz.prog f (fa ++ fc) w (EvG lo w g (tell (.row (5 - j)) r))
  | 0, _, _, _, w, r, _, h, hl, ⟨h1, h2, h3⟩ => by
    subst h1; subst h2; subst h3
    rw [show 5 - 0 = 5 from rfl, tell_top (by omega)]
    exact (CU w r h hl).out
  | j + 1, _, _, _, w, r, hj, h, hl, ⟨h1, h2, pb, rb, lb, f', fa', fc', h3, h4, h5, h6⟩ => by
    subst h1; subst h2; subst h3
    have e : 5 - (j + 1) = 4 - j := by omega
    rw [e]
    refine row1_any w g r j (4 - j) pb rb lb f' fa' fc' (by omega) h h4 h5 fun w' r' h' ht hl' => Lib.hid ?_
    have e2 : 4 - j + 1 = 5 - j := by omega
    rw [e2]
    exact part_calls g N CU j f' fa' fc' w' r' (by omega) h' (by omega) (PartV.turn ht h6)
/-- What row leaves: a new closure. -/
def RowL (w : World) (g : Nat) (V : Value) (L : Nat) (e : Ending) (w' : World) : Prop := ∃ pb rb lb : Nat, e = .returned (.func (.func 170) #[] #[.pointer (some ⟨pb, 0, none⟩), .pointer (some ⟨rb, 0, none⟩), .pointer (some ⟨lb, 0, none⟩)]) ∧ Capt w' g pb rb lb V L ∧ Below w.heap.size w w'
set_option maxHeartbeats 4000000 in
theorem row_new (w : World) (g f L : Nat) (fa fc : Array Value) (hg : g < w.heap.size) : Calls Tryz.prog 159 #[.pointer (some ⟨g, 0, none⟩), .func (.func f) fa fc, .int .i64 L] w (RowL w g (.func (.func f) fa fc) L) := by
  have b1 := ball_new w #[.pointer (some ⟨g, 0, none⟩)] 87
  have b2 := ball_new (w.alloc (.cells #[.pointer (some ⟨g, 0, none⟩)] 87)) #[.func (.func f) fa fc] 166
  have b3 := ball_new ((w.alloc (.cells #[.pointer (some ⟨g, 0, none⟩)] 87)).alloc (.cells #[.func (.func f) fa fc] 166)) #[.int .i64 L] 3
  have n1 := new_at w #[.pointer (some ⟨g, 0, none⟩)] 87
  have n2 := new_at (w.alloc (.cells #[.pointer (some ⟨g, 0, none⟩)] 87)) #[.func (.func f) fa fc] 166
  have n3 := new_at ((w.alloc (.cells #[.pointer (some ⟨g, 0, none⟩)] 87)).alloc (.cells #[.func (.func f) fa fc] 166)) #[.int .i64 L] 3
  have HC : Hid (RowL w g (.func (.func f) fa fc) L (.returned (.func (.func 170) #[] #[.pointer (some ⟨w.heap.size + 1, 0, none⟩), .pointer (some ⟨w.heap.size, 0, none⟩), .pointer (some ⟨w.heap.size + 1 + 1, 0, none⟩)])) (((w.alloc (.cells #[.pointer (some ⟨g, 0, none⟩)] 87)).alloc (.cells #[.func (.func f) fa fc] 166)).alloc (.cells #[.int .i64 L] 3))) := Lib.hid (by
    have e1 : (w.alloc (.cells #[.pointer (some ⟨g, 0, none⟩)] 87)).heap.size = w.heap.size + 1 := by simp
    have e2 : ((w.alloc (.cells #[.pointer (some ⟨g, 0, none⟩)] 87)).alloc (.cells #[.func (.func f) fa fc] 166)).heap.size = w.heap.size + 1 + 1 := by simp
    rw [e1] at n2 b2
    rw [e2] at n3 b3
    exact ⟨_, _, _, rfl, ⟨(b3.block _ (by omega)).trans n2, (b3.block _ (by omega)).trans ((b2.block _ (by omega)).trans n1), n3, by omega, by omega, by omega⟩, b1.trans ((b2.trans (b3.mono (by omega))).mono (by omega))⟩)
  clear b1 b2 b3 n1 n2 n3 hg
  go_enter Tryz.func159, Tryz.ntmps159
  go_wp2_with fail
  go_ret
  exact HC.out
structure ExpAt (lo : Nat) (w wr : World) (g j f : Nat) (fa fc : Array Value) (r : PS) : Prop where
  rd : InG lo wr g r
  part : PartV wr g j f fa fc
  bel : Below (w.heap.size + 1) (w.alloc (.cells #[.int .i64 0, .int .i64 0, .string ⟨#[]⟩, .string ⟨#[]⟩, .slice none 0 0] 42)) wr
set_option maxHeartbeats 8000000 in
theorem expr_any (w : World) (g : Nat) (r : PS) (h : InG lo w g r) (CU : ∀ w' r', InG lo w' g r' → lenB r' ≤ lenB r → Hid (Calls Tryz.prog 158 #[.pointer (some ⟨g, 0, none⟩)] w' (EvG lo w' g (tell .unary r')))) :
    Calls Tryz.prog 143 #[.pointer (some ⟨g, 0, none⟩)] w (EvG lo w g (tell (.row 0) r)) := by
  have hb := ball_new w #[.int .i64 0, .int .i64 0, .string ⟨#[]⟩, .string ⟨#[]⟩, .slice none 0 0] 42
  have HN := Lib.hid (new_at w #[.int .i64 0, .int .i64 0, .string ⟨#[]⟩, .string ⟨#[]⟩, .slice none 0 0] 42)
  have HG := Lib.hid h.rd.lt
  have HB := Lib.hid hb
  have HLO := Lib.hid h.rd.wlo
  have HSZ : Hid ((w.alloc (.cells #[.int .i64 0, .int .i64 0, .string ⟨#[]⟩, .string ⟨#[]⟩, .slice none 0 0] 42)).heap.size = w.heap.size + 1) := Lib.hid (by simp)
  have START : Hid (ExpAt lo w (w.alloc (.cells #[.int .i64 0, .int .i64 0, .string ⟨#[]⟩, .string ⟨#[]⟩, .slice none 0 0] 42)) g 0 158 #[.pointer (some ⟨g, 0, none⟩)] #[] r) := Lib.hid ⟨h.below hb, ⟨rfl, rfl, rfl⟩, Below.refl _ _⟩
  have HCU := Lib.hid CU
  clear h hb CU
  go_enter Tryz.func143, Tryz.ntmps143
  go_wp2_with fail
  go_loopw [3, 7] (fun v i wr => ∃ (j f : Nat) (fa fc : Array Value), v = .func (.func f) fa fc ∧ i = .int .i64 j ∧ j ≤ 5 ∧ Hid (ExpAt lo w wr g j f fa fc r)) (fun _ i _ => 5 - (intOf i).toNat)
  case atStart => exact ⟨0, _, _, _, rfl, rfl, Nat.zero_le _, START⟩
  case round =>
    clear START
    obtain ⟨j, f, fa, fc, rfl, rfl, hj, HA⟩ := hrel
    rcases Nat.lt_or_ge j 5 with hlt | hge
    · have CR := Lib.hid (row_new wr g f j fa fc HA.out.rd.rd.lt)
      go_wp2_with fail
      refine CR.out.mono ?_
      rintro e w2 ⟨pb, rb, lb, rfl, hc, hb2⟩
      have HA2 : Hid (ExpAt lo w w2 g (j + 1) 170 #[] #[.pointer (some ⟨pb, 0, none⟩), .pointer (some ⟨rb, 0, none⟩), .pointer (some ⟨lb, 0, none⟩)] r) := Lib.hid ⟨HA.out.rd.below hb2, ⟨rfl, rfl, pb, rb, lb, f, fa, fc, rfl, hc, HA.out.part.callable, PartV.turn ((Turn.refl [g] wr).below hb2) HA.out.part⟩, HA.out.bel.trans (hb2.mono (by have := HA.out.bel.size; rw [HSZ.out] at this; exact this))⟩
      clear hc hb2 CR
      go_wp2_with fail
      go_roundw
      case rel => refine ⟨j + 1, _, _, _, rfl, ?_, ?_, HA2⟩ <;> first | trivial | rfl | omega | go_num
      case measure => simp [intOf]; omega
    · obtain rfl : j = 5 := by omega
      have hcf := HA.out.part.callable
      unfold Callable at hcf
      have CX := Lib.hid (part_calls (lo := lo) g (lenB r) HCU.out 5 f fa fc wr r (Nat.le_refl _) HA.out.rd (Nat.le_refl _) HA.out.part)
      have HR1 : Hid (wr.heap[w.heap.size]? = some (.cells #[.int .i64 0, .int .i64 0, .string ⟨#[]⟩, .string ⟨#[]⟩, .slice none 0 0] 42 (0, 0))) := Lib.hid ((HA.out.bel.block _ (by omega)).trans HN.out)
      have HT1 : Hid (Turn [g] (w.alloc (.cells #[.int .i64 0, .int .i64 0, .string ⟨#[]⟩, .string ⟨#[]⟩, .slice none 0 0] 42)) wr) := Lib.hid ((Turn.refl [g] _).below (HA.out.bel.mono (by rw [HSZ.out]; exact Nat.le_refl _)))
      rw [show 5 - 5 = 0 from rfl] at CX
      go_wp2_with fail
      refine CX.out.mono ?_
      rintro e w5 ⟨x, r', rfl, hx1, hx2, hx3, hx4, hx5⟩
      have HX1 := Lib.hid hx1
      have HX2 := Lib.hid hx2
      have HX3 := Lib.hid hx3
      have HX4 := Lib.hid hx4
      have HX5 := Lib.hid hx5
      rw [exV_eq]
      have HR5 := Lib.hid ((hx5.block _ (lt_of_heap HR1.out) (by have := HG.out; simp; omega)).trans HR1.out)
      clear hx1 hx2 hx3 hx4 hx5
      obtain ⟨y0, y1, y2, y3, y4⟩ := five_at HR5.out
      have f0 := free_at HR5.out 0
      have f1 := free_at HR5.out 1
      have f2 := free_at HR5.out 2
      have f3 := free_at HR5.out 3
      have f4 := free_at HR5.out 4
      go_wp2_with fail
      have HT := Lib.hid (turn5 w5 w.heap.size (.int .i64 x.op) (.int .i64 x.n) (.string x.s) (.string x.q) (.slice x.a x.x.length x.c))
      refine bodyPost_ret (results_expr rfl _ _ w.heap.size _ _ _ _ _ rfl (set5 HR5.out)) rfl ?_
      exact pass_endG (by have := HT1.out.size; rw [HSZ.out] at this; omega) HLO.out HX2.out HX3.out HB.out HT1.out HX5.out HX4.out HT.out HX1.out
end Go.Proofs.YtmihlmlojmdhjaaGreatDoor.Prg
/- The program's expressions, whole: unary, expr and call tell what the plain grammar tells. Condition: the reader is known. -/
namespace Go.Proofs.YtmihlmlojmdhjaaGreatDoor.Prg
open Go.RowKit Tre Prs
open Lex (Wd wdC wdV bs str Turn)
set_option maxRecDepth 100000
set_option linter.unusedSimpArgs false
variable {lo : Nat}
theorem value_any (w : World) (g : Nat) (r : PS) (h : InG lo w g r) (hv : ValR r) (CC : ∀ w', InG lo w' g (takeR r [1]) → (takeR r [1]).bad = false → Hid (Calls Tryz.prog 160 #[.pointer (some ⟨g, 0, none⟩), .string (bs (takeW r [1]).s)] w' (EvG lo w' g (tell (.call (takeW r [1]).s) (takeR r [1]))))) :
    Calls Tryz.prog 169 #[.pointer (some ⟨g, 0, none⟩)] w (EvG lo w g (tell .unary r)) := by
  rcases Bool.eq_false_or_eq_true (isW (takeR r [1]) [46]) with i1 | i1
  · exact value_dot w g r h hv i1 (fun w' h' => CC w' h' (isW_pos i1).2)
  · rcases Bool.eq_false_or_eq_true (isW (takeR r [1]) [40]) with i2 | i2
    · exact value_call w g r h hv i1 i2 (fun w' h' => CC w' h' (isW_pos i2).2)
    · exact value_name w g r h hv i1 i2
/-- All three, as far as N steps are enough. -/
theorem all_upto (g : Nat) : ∀ (N : Nat),
    (∀ (r : PS) (w : World), 32 * lenB r + 1 ≤ N → InG lo w g r → Calls Tryz.prog 158 #[.pointer (some ⟨g, 0, none⟩)] w (EvG lo w g (tell .unary r))) ∧
    (∀ (r : PS) (w : World), 32 * lenB r + 14 ≤ N → InG lo w g r → Calls Tryz.prog 143 #[.pointer (some ⟨g, 0, none⟩)] w (EvG lo w g (tell (.row 0) r))) ∧
    (∀ (s : List UInt8) (r : PS) (w : World), s.length ≤ 1000000 → 32 * lenB r + 20 ≤ N → InG lo w g r → Calls Tryz.prog 160 #[.pointer (some ⟨g, 0, none⟩), .string (bs s)] w (EvG lo w g (tell (.call s) r)))
  | 0 => ⟨fun r w h _ => by omega, fun r w h _ => by omega, fun s r w _ h _ => by omega⟩
  | N + 1 => by
    obtain ⟨IU, IE, IC⟩ := all_upto g N
    refine ⟨fun r w h hr => ?_, fun r w h hr => ?_, fun s r w hs h hr => ?_⟩
    · rcases Bool.eq_false_or_eq_true (isW r [45]) with n0 | n0
      · have h2 := lenB_tl n0
        exact unary_neg w g r hr n0 fun w' hr' => Lib.hid (IU (tl r) w' (by omega) hr')
      rcases Bool.eq_false_or_eq_true (isW r [33]) with n1 | n1
      · have h2 := lenB_tl n1
        exact unary_bang w g r hr n0 n1 fun w' hr' => Lib.hid (IU (tl r) w' (by omega) hr')
      rcases Bool.eq_false_or_eq_true (isW r [116, 114, 117, 101]) with n2 | n2
      · exact unary_true w g r hr n0 n1 n2
      rcases Bool.eq_false_or_eq_true (isW r [102, 97, 108, 115, 101]) with n3 | n3
      · exact unary_false w g r hr n0 n1 n2 n3
      rcases Bool.eq_false_or_eq_true (isW r [40]) with n4 | n4
      · have h2 := lenB_tl n4
        exact unary_par w g r hr n0 n1 n2 n3 n4 fun w' hr' => Lib.hid (IE (tl r) w' (by omega) hr')
      rcases Bool.eq_false_or_eq_true ((peek r).k == 2) with nk | nk
      · exact unary_num w g r hr n0 n1 n2 n3 n4 nk
      have hv : ValR r := ⟨n0, n1, n2, n3, n4, nk⟩
      refine unary_val w g r hr n0 n1 n2 n3 n4 nk fun w' hr' => Lib.hid (value_any w' g r hr' hv fun w2 h2 hb => Lib.hid (IC _ _ w2 (takeS_size hr'.rd [1]).2 ?_ h2))
      have := lenB_take_lt (r := r) (ks := [1]) (by decide) hb
      omega
    · exact expr_any w g r hr fun w' r' h' hl => Lib.hid (IU r' w' (by omega) h')
    · rcases Bool.eq_false_or_eq_true (isW r [46]) with hi | hi
      · exact call_dot w g r s hr hs hi fun w' r' h' hl => Lib.hid (IE r' w' (by omega) h')
      · exact call_plain w g r s hr hs hi fun w' r' h' hl => Lib.hid (IE r' w' (by omega) h')
/-- The program's expressions. -/
theorem exprG (w : World) (g : Nat) (r : PS) (h : InG lo w g r) : Calls Tryz.prog 143 #[.pointer (some ⟨g, 0, none⟩)] w (EvG lo w g (tell (.row 0) r)) := (all_upto g _).2.1 r w (Nat.le_refl _) h
theorem callG (w : World) (g : Nat) (s : List UInt8) (r : PS) (hs : s.length ≤ 1000000) (h : InG lo w g r) : Calls Tryz.prog 160 #[.pointer (some ⟨g, 0, none⟩), .string (bs s)] w (EvG lo w g (tell (.call s) r)) := (all_upto g _).2.2 s r w hs (Nat.le_refl _) h
end Go.Proofs.YtmihlmlojmdhjaaGreatDoor.Prg
/- What the program's parser tells against the plain grammar: statements. No condition. -/
namespace Go.Proofs.YtmihlmlojmdhjaaGreatDoor.Prg
open Tre Prs
set_option maxRecDepth 100000
theorem forX_bad {r : PS} (h : r.bad = true) : (forX r).2.bad = true := by
  unfold forX
  rw [isW_bad h]
  exact tell_bad h
theorem retS_bad {r : PS} (h : r.bad = true) : (retS r).2.bad = true := by
  unfold retS
  rw [isW_bad h, isW_bad h]
  exact tell_bad h
theorem prtS_bad {r : PS} (h : r.bad = true) : (prtS r).2.bad = true := mustW_bad (tell_bad (mustW_bad h _)) _
theorem nameS_bad {s : List UInt8} {r : PS} (h : r.bad = true) : (nameS s r).2.bad = true := by
  unfold nameS
  rw [isW_bad h, isW_bad h]
  exact tell_bad h
theorem runS_bad : ∀ (n : Nat) (j : SJob) (r : PS), r.bad = true → (runS n j r).2.bad = true
  | 0, _, _, h => h
  | n + 1, .block, r, h => by unfold runS; exact runS_bad n _ _ (mustW_bad h _)
  | n + 1, .loop l, r, h => by
    unfold runS
    rw [h]
    exact mustW_bad h _
  | n + 1, .when, r, h => by
    have h1 := runS_bad n .block _ (tell_bad (j := .row 0) h)
    unfold runS
    rw [isW_bad h1]
    exact h1
  | n + 1, .stmt, r, h => by
    unfold runS
    rw [isW_bad h, isW_bad h, isW_bad h, isW_bad h, isW_bad h, isW_bad h]
    exact nameS_bad (wordR_bad h 1 false (by decide))
theorem tellS_bad {j : SJob} {r : PS} (h : r.bad = true) : (tellS j r).2.bad = true := runS_bad _ _ _ h
theorem ag_sif {r r' : PS} {t : List Ts} (hi : isW r wIf = true) (h : Ag (tellS .when (tl r)) t r') : Ag (tellS .stmt r) t r' := by
  rw [tellS_stmt, if_pos hi]; exact h
theorem ag_for {r r1 r2 : PS} {x : Tx} {b : List Ts} (n0 : isW r wIf = false) (hi : isW r wFor = true) (h1 : Ag (forX (tl r)) x r1) (h2 : Ag (tellS .block r1) b r2) : Ag (tellS .stmt r) [.mk 4 [] x b []] r2 := by
  rw [tellS_stmt, if_neg (by simp [n0]), if_pos hi]
  rcases h1 with ⟨h3, h4⟩ | ⟨h3, h4, h5⟩
  · refine .inl ⟨tellS_bad h3, ?_⟩
    rcases h2 with h2 | h2
    · exact h2.2
    · rw [tellS_bad h4] at h2; cases h2.1
  · subst h5; subst h4
    exact h2.wrap (fun b => [Ts.mk 4 [] (forX (tl r)).1 b []])
theorem ag_forx {r r1 : PS} {x : Tx} (hi : isW r [123] = false) (h : Ag (tell (.row 0) r) x r1) : Ag (forX r) x r1 := by
  unfold forX
  rw [if_neg (by simp [hi])]
  exact h
theorem ag_forn {r : PS} (hi : isW r [123] = true) : Ag (forX r) (.mk 2 1 [] [] []) r := by
  unfold forX
  rw [if_pos hi]
  exact Ag.refl _ _
/-- The signs that none of a statement's keys begins with. -/
structure RetW (r : PS) : Prop where
  n0 : isW r wIf = false
  n1 : isW r wFor = false
  hi : isW r wReturn = true
theorem ag_ret {r r1 : PS} {x : Tx} (h0 : RetW r) (i1 : isW (tl r) [59] = false) (i2 : isW (tl r) [125] = false) (h : Ag (tell (.row 0) (tl r)) x r1) : Ag (tellS .stmt r) [.mk 5 [] x [] []] r1 := by
  rw [tellS_stmt, if_neg (by simp [h0.n0]), if_neg (by simp [h0.n1]), if_pos h0.hi]
  unfold retS
  rw [if_pos (by simp [i1, i2])]
  exact h.wrap (fun x => [Ts.mk 5 [] x [] []])
theorem ag_retn {r : PS} (h0 : RetW r) (hi : isW (tl r) [59] = true ∨ isW (tl r) [125] = true) : Ag (tellS .stmt r) [.mk 5 [] nilT [] []] (tl r) := by
  rw [tellS_stmt, if_neg (by simp [h0.n0]), if_neg (by simp [h0.n1]), if_pos h0.hi]
  unfold retS
  rw [if_neg (by rcases hi with hi | hi <;> simp [hi])]
  exact Ag.refl _ _
theorem ag_print {r r1 : PS} {x : Tx} (n0 : isW r wIf = false) (n1 : isW r wFor = false) (n2 : isW r wReturn = false) (hi : isW r wPrint = true) (h : Ag (tell (.row 0) (mustP (tl r) [40])) x r1) : Ag (tellS .stmt r) [.mk 6 [] x [] []] (mustP r1 [41]) := by
  rw [tellS_stmt, if_neg (by simp [n0]), if_neg (by simp [n1]), if_neg (by simp [n2]), if_pos hi]
  unfold prtS
  obtain ⟨h1, h2⟩ := mustP_mustW (tl r) [40]
  cases hb : (mustP (tl r) [40]).bad with
  | true =>
    rw [hb] at h1
    refine .inl ⟨mustW_bad (tell_bad h1) _, ?_⟩
    have : r1.bad = true := by
      rcases h with h | h
      · exact h.2
      · rw [tell_bad hb] at h; cases h.1
    unfold mustP
    rw [isW_bad this]
    rfl
  | false =>
    rw [h2 hb]
    exact (ag_must h [41]).wrap (fun x => [Ts.mk 6 [] x [] []])
theorem ag_break {r : PS} (n0 : isW r wIf = false) (n1 : isW r wFor = false) (n2 : isW r wReturn = false) (n3 : isW r wPrint = false) (hi : isW r wBreak = true) : Ag (tellS .stmt r) [.mk 8 [] nilT [] []] (tl r) := by
  rw [tellS_stmt, if_neg (by simp [n0]), if_neg (by simp [n1]), if_neg (by simp [n2]), if_neg (by simp [n3]), if_pos hi]
  exact Ag.refl _ _
theorem ag_next {r : PS} (n0 : isW r wIf = false) (n1 : isW r wFor = false) (n2 : isW r wReturn = false) (n3 : isW r wPrint = false) (n4 : isW r wBreak = false) (hi : isW r wNext = true) : Ag (tellS .stmt r) [.mk 9 [] nilT [] []] (tl r) := by
  rw [tellS_stmt, if_neg (by simp [n0]), if_neg (by simp [n1]), if_neg (by simp [n2]), if_neg (by simp [n3]), if_neg (by simp [n4]), if_pos hi]
  exact Ag.refl _ _
/-- What is left for a statement that begins with a name. -/
structure NamW (r : PS) : Prop where
  n0 : isW r wIf = false
  n1 : isW r wFor = false
  n2 : isW r wReturn = false
  n3 : isW r wPrint = false
  n4 : isW r wBreak = false
  n5 : isW r wNext = false
theorem nam_eq {r : PS} (h : NamW r) : tellS .stmt r = nameS (wordS r 1 false) (wordR r 1 false) := by
  rw [tellS_stmt, if_neg (by simp [h.n0]), if_neg (by simp [h.n1]), if_neg (by simp [h.n2]), if_neg (by simp [h.n3]), if_neg (by simp [h.n4]), if_neg (by simp [h.n5])]
theorem ag_def {r r1 : PS} {x : Tx} (h0 : NamW r) (i1 : isW (takeR r [1]) [58, 61] = true) (h : Ag (tell (.row 0) (tl (takeR r [1]))) x r1) : Ag (tellS .stmt r) [.mk 1 (takeW r [1]).s x [] []] r1 := by
  obtain ⟨e1, e2⟩ := (takeR_word r).2 (isW_pos i1).2
  rw [nam_eq h0, e1, e2]
  unfold nameS
  rw [if_pos i1]
  exact h.wrap (fun x => [Ts.mk 1 (takeW r [1]).s x [] []])
theorem ag_set {r r1 : PS} {x : Tx} (h0 : NamW r) (i1 : isW (takeR r [1]) [58, 61] = false) (i2 : isW (takeR r [1]) [61] = true) (h : Ag (tell (.row 0) (tl (takeR r [1]))) x r1) : Ag (tellS .stmt r) [.mk 2 (takeW r [1]).s x [] []] r1 := by
  obtain ⟨e1, e2⟩ := (takeR_word r).2 (isW_pos i2).2
  rw [nam_eq h0, e1, e2]
  unfold nameS
  rw [if_neg (by simp [i1]), if_pos i2]
  exact h.wrap (fun x => [Ts.mk 2 (takeW r [1]).s x [] []])
theorem ag_ask {r r1 : PS} {x : Tx} (h0 : NamW r) (i1 : isW (takeR r [1]) [58, 61] = false) (i2 : isW (takeR r [1]) [61] = false) (h : Ag (tell (.call (takeW r [1]).s) (takeR r [1])) x r1) : Ag (tellS .stmt r) [.mk 7 [] x [] []] r1 := by
  obtain ⟨h1, h2⟩ := takeR_word r
  rw [nam_eq h0]
  cases hb : (takeR r [1]).bad with
  | true =>
    rw [hb] at h1
    refine .inl ⟨nameS_bad h1, ?_⟩
    rcases h with h | h
    · exact h.2
    · rw [tell_bad hb] at h; cases h.1
  | false =>
    obtain ⟨e1, e2⟩ := h2 hb
    rw [e1, e2]
    unfold nameS
    rw [if_neg (by simp [i1]), if_neg (by simp [i2])]
    exact h.wrap (fun x => [Ts.mk 7 [] x [] []])
/-- Behind an if's expression and block. -/
theorem when_bad {r r1 r2 : PS} {x : Tx} {b : List Ts} (h1 : Ag (tell (.row 0) r) x r1) (h2 : Ag (tellS .block r1) b r2) : ((tellS .when r).2.bad = true ∧ r2.bad = true) ∨ (r2.bad = false ∧ x = (tell (.row 0) r).1 ∧ b = (tellS .block (tell (.row 0) r).2).1 ∧ r2 = (tellS .block (tell (.row 0) r).2).2) := by
  have hw : (tellS .block (tell (.row 0) r).2).2.bad = true → (tellS .when r).2.bad = true := fun h => by
    rw [tellS_when, isW_bad h]
    exact h
  rcases h1 with ⟨h3, h4⟩ | ⟨h3, h4, h5⟩
  · refine .inl ⟨hw (tellS_bad h3), ?_⟩
    rcases h2 with h2 | h2
    · exact h2.2
    · rw [tellS_bad h4] at h2; cases h2.1
  · subst h5; subst h4
    rcases h2 with ⟨h6, h7⟩ | ⟨h6, h7, h8⟩
    · exact .inl ⟨hw h6, h7⟩
    · subst h8; exact .inr ⟨h6, rfl, h7, rfl⟩
theorem ag_when {r r1 r2 : PS} {x : Tx} {b : List Ts} (h1 : Ag (tell (.row 0) r) x r1) (h2 : Ag (tellS .block r1) b r2) (hi : isW r2 wElse = false) : Ag (tellS .when r) [.mk 3 [] x b []] r2 := by
  rcases when_bad h1 h2 with ⟨h3, h4⟩ | ⟨h3, h4, h5, h6⟩
  · exact .inl ⟨h3, h4⟩
  · subst h6; subst h5; subst h4
    rw [tellS_when, if_neg (by simp [hi])]
    exact Ag.refl _ _
theorem ag_whenb {r r1 r2 r3 : PS} {x : Tx} {b e : List Ts} (h1 : Ag (tell (.row 0) r) x r1) (h2 : Ag (tellS .block r1) b r2) (hi : isW r2 wElse = true) (i2 : isW (tl r2) wIf = false) (h3 : Ag (tellS .block (tl r2)) e r3) : Ag (tellS .when r) [.mk 3 [] x b e] r3 := by
  rcases when_bad h1 h2 with ⟨_, h4⟩ | ⟨_, h4, h5, h6⟩
  · rw [isW_bad h4] at hi; cases hi
  · subst h6; subst h5; subst h4
    rw [tellS_when, if_pos hi, if_neg (by simp [i2])]
    exact h3.wrap (fun e => [Ts.mk 3 [] (tell (.row 0) r).1 (tellS .block (tell (.row 0) r).2).1 e])
theorem ag_whenw {r r1 r2 r3 : PS} {x : Tx} {b e : List Ts} (h1 : Ag (tell (.row 0) r) x r1) (h2 : Ag (tellS .block r1) b r2) (hi : isW r2 wElse = true) (i2 : isW (tl r2) wIf = true) (h3 : Ag (tellS .when (tl (tl r2))) e r3) : Ag (tellS .when r) [.mk 3 [] x b e] r3 := by
  rcases when_bad h1 h2 with ⟨_, h4⟩ | ⟨_, h4, h5, h6⟩
  · rw [isW_bad h4] at hi; cases hi
  · subst h6; subst h5; subst h4
    rw [tellS_when, if_pos hi, if_pos i2]
    exact h3.wrap (fun e => [Ts.mk 3 [] (tell (.row 0) r).1 (tellS .block (tell (.row 0) r).2).1 e])
/-- A block: what was told so far. -/
def AgB (r : PS) (l : List Ts) (r' : PS) : Prop := ((tellS .block r).2.bad = true ∧ r'.bad = true) ∨ (r'.bad = false ∧ tellS .block r = tellS (.loop l) r')
theorem agb_start (r : PS) : AgB r [] (mustP r [123]) := by
  unfold AgB
  rw [tellS_block]
  obtain ⟨h1, h2⟩ := mustP_mustW r [123]
  cases hb : (mustP r [123]).bad with
  | true => rw [hb] at h1; exact .inl ⟨tellS_bad h1, rfl⟩
  | false => rw [h2 hb]; exact .inr ⟨rfl, rfl⟩
theorem agb_bad {r r' : PS} {l : List Ts} (h : AgB r l r') (hb : r'.bad = true) : Ag (tellS .block r) l r' := by
  rcases h with h | h
  · exact .inl h
  · rw [hb] at h; cases h.1
theorem agb_end {r r' : PS} {l : List Ts} (h : AgB r l r') (hi : isW r' [125] = true) : Ag (tellS .block r) l (tl r') := by
  have hb := (isW_pos hi).2
  rcases h with h | ⟨_, h⟩
  · rw [hb] at h; cases h.2
  · rw [h, tellS_loop, if_pos (by simp [hi])]
    unfold mustW
    rw [if_pos hi]
    exact Ag.refl _ _
theorem agb_more {r r' r2 : PS} {l t : List Ts} (h : AgB r l r') (hb : r'.bad = false) (hi : isW r' [125] = false) (ht : Ag (tellS .stmt r') t r2) : AgB r (l ++ t) (if isW r2 [125] then r2 else mustP r2 [59]) := by
  rcases h with ⟨_, h⟩ | ⟨_, h⟩
  · rw [hb] at h; cases h
  · unfold AgB
    rw [h, tellS_loop, if_neg (by simp [hb, hi])]
    rcases ht with ⟨h1, h2⟩ | ⟨h1, h2, h3⟩
    · refine .inl ⟨?_, ?_⟩
      · rw [isW_bad h1]
        exact mustW_bad h1 _
      · rw [isW_bad h2]
        unfold mustP
        rw [isW_bad h2]
        rfl
    · subst h3; subst h2
      by_cases h4 : isW (tellS .stmt r').2 [125] = true
      · have h5 : isW (tellS .stmt r').2 [59] = false := by
          unfold isW at h4 ⊢
          simp only [Bool.and_eq_true, beq_iff_eq] at h4
          rw [h4.2]
          simp
        rw [if_neg (by simp [h5]), if_pos h4]
        refine .inr ⟨h1, ?_⟩
        rw [tellS_loop, if_pos (by simp [h4])]
      · rw [if_neg h4]
        unfold mustP
        by_cases h5 : isW (tellS .stmt r').2 [59] = true
        · rw [if_pos h5, if_pos h5]
          exact .inr ⟨h1, rfl⟩
        · rw [if_neg h5, if_neg h5]
          refine .inl ⟨?_, rfl⟩
          unfold mustW
          rw [if_neg h4]
          rfl
theorem wordR_lt {r : PS} (h : (wordR r 1 false).bad = false) : lenR (wordR r 1 false) < lenR r := by
  unfold wordR at h ⊢
  by_cases hw : wordNo r 1 false = true
  · rw [if_pos hw] at h
    simp [badR] at h
  · rw [if_neg hw] at h ⊢
    have hk : (peek r).k = 1 := by simpa [wordNo] using hw
    obtain ⟨h1, h2⟩ := peek_k (r := r) (by omega)
    rw [lenR_tl]
    have : lenR r = r.l.length := by simp [lenR, h1]
    omega
/-- A statement takes a word at least. -/
theorem stmt_lt {r : PS} (h : (tellS .stmt r).2.bad = false) : lenR (tellS .stmt r).2 < lenR r := by
  have ht := lenR_tl r
  rw [tellS_stmt] at h ⊢
  split
  · next hi => have := lenR_pos hi; have := tellS_lenR .when (tl r); omega
  split
  · next hi =>
    have := lenR_pos hi
    have h1 := tellS_lenR .block (forX (tl r)).2
    have h2 := forX_lenR (tl r)
    show lenR (tellS .block (forX (tl r)).2).2 < _
    omega
  split
  · next hi => have := lenR_pos hi; have := retS_lenR (tl r); omega
  split
  · next hi => have := lenR_pos hi; have := prtS_lenR (tl r); omega
  split
  · next hi => have := lenR_pos hi; show lenR (tl r) < _; omega
  split
  · next hi => have := lenR_pos hi; show lenR (tl r) < _; omega
  · next n0 n1 n2 n3 n4 n5 =>
    rw [if_neg n0, if_neg n1, if_neg n2, if_neg n3, if_neg n4, if_neg n5] at h
    have hw : (wordR r 1 false).bad = false := by
      cases hb : (wordR r 1 false).bad with
      | false => rfl
      | true => rw [nameS_bad hb] at h; cases h
    have := wordR_lt hw
    have := nameS_lenR (wordS r 1 false) (wordR r 1 false)
    omega
theorem lenB_lenR {r : PS} (h : r.bad = false) : lenB r = lenR r + 1 := by
  unfold lenB lenR
  rw [h]
  rfl
theorem ags_lenB {j : SJob} {r r' : PS} {t : List Ts} (h : Ag (tellS j r) t r') : lenB r' ≤ lenB r := by
  rcases h with ⟨_, h2⟩ | ⟨h1, _, h3⟩
  · unfold lenB; rw [if_pos h2]; omega
  · have hb : r.bad = false := by
      cases hb : r.bad with
      | false => rfl
      | true => rw [tellS_bad hb] at h1; cases h1
    have := tellS_lenR j r
    subst h3
    rw [lenB_lenR h1, lenB_lenR hb]
    omega
theorem ag_stmt_lt {r r' : PS} {t : List Ts} (hb : r.bad = false) (h : Ag (tellS .stmt r) t r') : lenB r' < lenB r := by
  rcases h with ⟨_, h2⟩ | ⟨h1, _, h3⟩
  · unfold lenB; rw [if_pos h2, hb]; simp
  · have := stmt_lt h1
    subst h3
    rw [lenB_lenR h1, lenB_lenR hb]
    omega
end Go.Proofs.YtmihlmlojmdhjaaGreatDoor.Prg
/- A statement's nine cells: what is read of them, what a store of all leaves, what a call answers from them. No condition. -/
namespace Go.Proofs.YtmihlmlojmdhjaaGreatDoor.Prs
open Go.RowKit Tre
open Lex (Wd wdC wdV bs str Turn info_of)
set_option maxRecDepth 100000
set_option linter.unusedSimpArgs false
variable {lo : Nat}
theorem nine_at {w : World} {b : Nat} {v0 v1 v2 v3 v4 v5 v6 v7 v8 : Value} {T : TypeId} (h : w.heap[b]? = some (.cells #[v0, v1, v2, v3, v4, v5, v6, v7, v8] T (0, 0))) :
    w.cell? ⟨b, 0, none⟩ = some v0 ∧ w.cell? ⟨b, 1, none⟩ = some v1 ∧ w.cell? ⟨b, 2, none⟩ = some v2 ∧ w.cell? ⟨b, 3, none⟩ = some v3 ∧ w.cell? ⟨b, 4, none⟩ = some v4 ∧ w.cell? ⟨b, 5, none⟩ = some v5 ∧ w.cell? ⟨b, 6, none⟩ = some v6 ∧ w.cell? ⟨b, 7, none⟩ = some v7 ∧ w.cell? ⟨b, 8, none⟩ = some v8 :=
  ⟨cell_at h 0, cell_at h 1, cell_at h 2, cell_at h 3, cell_at h 4, cell_at h 5, cell_at h 6, cell_at h 7, cell_at h 8⟩
theorem set9 {w : World} {b : Nat} {a0 a1 a2 a3 a4 a5 a6 a7 a8 v0 v1 v2 v3 v4 v5 v6 v7 v8 : Value} {T : TypeId} (h : w.heap[b]? = some (.cells #[a0, a1, a2, a3, a4, a5, a6, a7, a8] T (0, 0))) :
    (((((((((w.setCell ⟨b, 0, none⟩ v0).setCell ⟨b, 1, none⟩ v1).setCell ⟨b, 2, none⟩ v2).setCell ⟨b, 3, none⟩ v3).setCell ⟨b, 4, none⟩ v4).setCell ⟨b, 5, none⟩ v5).setCell ⟨b, 6, none⟩ v6).setCell ⟨b, 7, none⟩ v7).setCell ⟨b, 8, none⟩ v8).heap[b]? = some (.cells #[v0, v1, v2, v3, v4, v5, v6, v7, v8] T (0, 0)) := by
  have e := set_at (set_at (set_at (set_at (set_at (set_at (set_at (set_at (set_at h 0 v0) 1 v1) 2 v2) 3 v3) 4 v4) 5 v5) 6 v6) 7 v7) 8 v8
  rw [e]
  simp only [List.setIfInBounds_toArray, List.set_cons_zero, List.set_cons_succ]
theorem turn9 (w : World) (b : Nat) (v0 v1 v2 v3 v4 v5 v6 v7 v8 : Value) : Turn [b] w (((((((((w.setCell ⟨b, 0, none⟩ v0).setCell ⟨b, 1, none⟩ v1).setCell ⟨b, 2, none⟩ v2).setCell ⟨b, 3, none⟩ v3).setCell ⟨b, 4, none⟩ v4).setCell ⟨b, 5, none⟩ v5).setCell ⟨b, 6, none⟩ v6).setCell ⟨b, 7, none⟩ v7).setCell ⟨b, 8, none⟩ v8) :=
  (((((((((Turn.refl [b] w).setCell (.inl (by simp)) v0).setCell (.inl (by simp)) v1).setCell (.inl (by simp)) v2).setCell (.inl (by simp)) v3).setCell (.inl (by simp)) v4).setCell (.inl (by simp)) v5).setCell (.inl (by simp)) v6).setCell (.inl (by simp)) v7).setCell (.inl (by simp)) v8
set_option maxHeartbeats 1000000 in
theorem results_stmt {fn : Func} {p : Tmp} (h : fn.results = #[.cell p 47]) (tmps : Array Value) (w : World) (g : Nat) (v0 v1 v2 v3 v4 v5 v6 v7 v8 : Value) (hv : tmps.getD p undef = .pointer (some ⟨g, 0, none⟩)) (hc : w.heap[g]? = some (.cells #[v0, v1, v2, v3, v4, v5, v6, v7, v8] 47 (0, 0))) :
    (results fn tmps).run Tryz.prog w = .ok (.agg #[v0, v1, v2, v3, v4, v5, v6, v7, v8]) w := by
  have a4 := Tryz.isAgg47
  have z4 := Tryz.sizeOf47
  obtain ⟨c0, c1, c2, c3, c4, c5, c6, c7, c8⟩ := nine_at hc
  simp only [Array.getD_eq_getD_getElem?] at hv
  unfold results
  rw [h]
  go_simp
end Go.Proofs.YtmihlmlojmdhjaaGreatDoor.Prs
/- The document's stmt: some of its ways. Conditions: the reader is known; what it calls does as the plain grammar says. -/
namespace Go.Proofs.YtmihlmlojmdhjaaGreatDoor.Prs
open Go.RowKit Tre
open Lex (Wd wdC wdV bs str Turn info_of)
set_option maxRecDepth 100000
set_option linter.unusedSimpArgs false
variable {lo : Nat}
theorem res_keep9 {w w1 : World} {g : Nat} {cs : Array Value} {T : TypeId} (hg : g < w.heap.size) (h2 : Turn [g] (w.alloc (.cells cs T)) w1) : w1.heap[w.heap.size]? = some (.cells cs T (0, 0)) := res_keep hg h2
theorem stleaf_in (w : World) (op : Int) : StIn w (.mk op ⟨#[]⟩ (.mk 0 0 ⟨#[]⟩ ⟨#[]⟩ none 0 []) none 0 [] none 0 []) :=
  StIn.mk ⟨leaf_in w 0 0 ⟨#[]⟩ (by unfold maxLen; simp [ByteArray.size]), Row.nil _ _ _ _, Row.nil _ _ _ _, by simp [St.b, most], by simp [St.b2, most], by show (⟨#[]⟩ : ByteArray).size ≤ maxLen; unfold maxLen; simp [ByteArray.size]⟩ (fun x hx => by rcases hx with hx | hx <;> simp [St.b, St.b2] at hx)
theorem stleaf_new (b : Nat) (op : Int) : NewS b (.mk op ⟨#[]⟩ (.mk 0 0 ⟨#[]⟩ ⟨#[]⟩ none 0 []) none 0 [] none 0 []) := fun y hy => by
  rw [flatS_eq] at hy
  obtain rfl : y = .mk op ⟨#[]⟩ (.mk 0 0 ⟨#[]⟩ ⟨#[]⟩ none 0 []) none 0 [] none 0 [] := by simpa [flatB, St.b, St.b2] using hy
  exact ⟨leaf_new b 0 0 ⟨#[]⟩, fun ad e => (by cases e), fun ad e => (by cases e)⟩
end Go.Proofs.YtmihlmlojmdhjaaGreatDoor.Prs
