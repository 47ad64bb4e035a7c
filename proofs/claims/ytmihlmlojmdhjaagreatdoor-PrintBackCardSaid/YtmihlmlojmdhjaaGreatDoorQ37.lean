/-
  The program's rightAlone, rightNodes: true of an expression each of whose nodes is right beside numbers, and has two parts at most. Conditions: it lies in memory.
-/
import Derived.Test.YtmihlmlojmdhjaaGreatDoorQ07
import Derived.Test.YtmihlmlojmdhjaaGreatDoorQ11
import Derived.Test.YtmihlmlojmdhjaaGreatDoorQ16
import Derived.Test.YtmihlmlojmdhjaaGreatDoorQ17
import Derived.Test.YtmihlmlojmdhjaaGreatDoorQ35
import Derived.Test.YtmihlmlojmdhjaaGreatDoorQ36
import Derived.LoopTactic
import Derived.Deep.QuietTactic
import Derived.BigQuiet
import Derived.Lib.Strings
namespace Go.Proofs.YtmihlmlojmdhjaaGreatDoor.Wr
open Go.RowKit Tre
open Prg (OkX OkL OkS OkF wordOk sizeT sumT)
set_option maxRecDepth 100000
theorem row_blk {α : Type} {k : Nat} {C : α → List Value} {T : TypeId} (hC : ∀ x, (C x).length = k) {w : World} {b : Nat} {l : List α} (h : w.heap[b]? = some (.cells (l.flatMap C).toArray T (0, 0))) : Row k C w (some ⟨b, 0, none⟩) l := fun _ =>
  ⟨b, 0, rfl, lt_of_heap h, fun j x hx r u hu => by
    have hr : r < k := by have := (List.getElem?_eq_some_iff.1 hu).1; rwa [hC] at this
    rw [cell_at h, Nat.zero_add, List.getElem?_toArray, Prs.flat_get hC l j r hr, hx]
    exact hu⟩
theorem exC_len (e : Ex) : (exC e).length = 5 := by cases e; rfl
theorem stC_len (e : St) : (stC e).length = 9 := by obtain ⟨o, s, ⟨eo, en, es, eq, ea, ec, ex⟩, a, c, b, a2, c2, b2⟩ := e; rfl
theorem fnC_len (e : Tre.Fn) : (fnC e).length = 4 := rfl
def numX : Ex := .mk 1 0 ⟨#[]⟩ ⟨#[]⟩ none 0 []
def numT : Tx := .mk 1 0 [] [] []
theorem core_num : core numX = numT := by rw [core_eq]; rfl
theorem num_in (w : World) : ExIn w numX := ExIn.mk ⟨Row.nil _ _ _ _, by simp [numX, Ex.x, most], by simp [numX, Ex.x, Ex.c], by simp [numX, Ex.s, maxLen, ByteArray.size], by simp [numX, Ex.q, maxLen, ByteArray.size]⟩ (fun x hx => by simp [numX, Ex.x] at hx)
/-- An expression beside numbers. -/
def bareX (e : Ex) (g k : Nat) : Ex := .mk e.op e.n e.s e.q (some ⟨g, 0, none⟩) k (List.replicate k numX)
def bareS (e : Ex) (g k : Nat) : St := .mk 6 ⟨#[]⟩ (bareX e g k) none 0 [] none 0 []
def bareF (e : Ex) (g k R1 : Nat) : Tre.Fn := ⟨⟨#[102]⟩, none, 0, [], 0, some ⟨R1, 0, none⟩, 1, [bareS e g k]⟩
def bareL (e : Ex) (g k R1 R3 : Nat) : Fl := ⟨⟨#[112]⟩, none, 0, [], some ⟨R3, 0, none⟩, 1, [bareF e g k R1]⟩
/-- What is right beside numbers. -/
structure Bare (e : Ex) : Prop where
  k : e.x.length ≤ 2
  ok : OkX (.mk e.op e.n e.s.data.toList e.q.data.toList (List.replicate e.x.length numT))
theorem flat_rep (k : Nat) : (List.replicate k numX).flatMap exC = (List.replicate k numL).flatten := by
  induction k with
  | zero => rfl
  | succ k ih => rw [List.replicate_succ, List.replicate_succ, List.flatMap_cons, List.flatten_cons, ih]; rfl
theorem bare_x {w : World} {e : Ex} {g k : Nat} (hk : k ≤ 2) (hs : e.s.size ≤ maxLen) (hq : e.q.size ≤ maxLen) (hg : w.heap[g]? = some (.cells ((List.replicate k numL).flatten).toArray 42 (0, 0))) : ExIn w (bareX e g k) :=
  ExIn.mk ⟨row_blk exC_len (by rw [show (bareX e g k).x = List.replicate k numX from rfl, flat_rep]; exact hg), by simp [bareX, Ex.x, most]; omega, by simp [bareX, Ex.x, Ex.c], hs, hq⟩ (fun x hx => by
    have : x = numX := by simp [bareX, Ex.x] at hx; exact hx.2
    rw [this]
    exact num_in w)
theorem bare_l {w : World} {e : Ex} {g k R1 R3 : Nat} (hk : k ≤ 2) (hs : e.s.size ≤ maxLen) (hq : e.q.size ≤ maxLen) (hg : w.heap[g]? = some (.cells ((List.replicate k numL).flatten).toArray 42 (0, 0)))
    (h1 : w.heap[R1]? = some (.cells (stC (bareS e g k)).toArray 47 (0, 0))) (h3 : w.heap[R3]? = some (.cells (fnC (bareF e g k R1)).toArray 36 (0, 0))) : FlIn w (bareL e g k R1 R3) := by
  have hst : StIn w (bareS e g k) := StIn.mk ⟨bare_x hk hs hq hg, Row.nil _ _ _ _, Row.nil _ _ _ _, by simp [bareS, St.b, most], by simp [bareS, St.b2, most], by simp [bareS, St.s, maxLen, ByteArray.size]⟩ (fun x hx => by simp [bareS, St.b, St.b2] at hx)
  have hfn : FnIn w (bareF e g k R1) := ⟨Row.nil _ _ _ _, row_blk stC_len (by simpa [bareF] using h1), fun s hs => by
    have : s = bareS e g k := by simpa [bareF] using hs
    rw [this]
    exact hst, by simp [bareF, most], by simp [bareF, most], by simp [bareF, maxLen, ByteArray.size], fun p hp => by simp [bareF] at hp⟩
  exact ⟨Row.nil _ _ _ _, row_blk fnC_len (by simpa [bareL] using h3), fun f hf => by
    have : f = bareF e g k R1 := by simpa [bareL] using hf
    rw [this]
    exact hfn, by simp [bareL, most], by simp [bareL, most], by simp [bareL, maxLen, ByteArray.size], fun s hs => by simp [bareL] at hs⟩
theorem bare_core (e : Ex) (g k : Nat) : core (bareX e g k) = .mk e.op e.n e.s.data.toList e.q.data.toList (List.replicate k numT) := by
  rw [core_eq]
  simp only [bareX, Ex.op, Ex.n, Ex.s, Ex.q, Ex.x, List.map_replicate, core_num]
theorem bare_ok {e : Ex} {g k R1 R3 : Nat} (h : OkX (.mk e.op e.n e.s.data.toList e.q.data.toList (List.replicate k numT))) : OkL (coreL (bareL e g k R1 R3)) := by
  have hs : coreS (bareS e g k) = .mk 6 [] (core (bareX e g k)) [] [] := by rw [coreS_eq]; rfl
  refine ⟨.inl (show Lex.nameOk [112] = true by decide), Nat.zero_le _, (show 1 ≤ 32 by decide), fun s hs => by simp [coreL, bareL] at hs, fun f hf => ?_⟩
  have : f = coreF (bareF e g k R1) := by simpa [coreL, bareL] using hf
  rw [this]
  refine ⟨(show Lex.nameOk [102] = true by decide), Nat.zero_le _, fun p hp => by simp [coreF, bareF] at hp, .inl rfl, fun y hy => ?_⟩
  have : y = coreS (bareS e g k) := by simpa [coreF, bareF] using hy
  rw [this, hs, bare_core]
  exact .print _ h
theorem sum_rep (k : Nat) : sumT (List.replicate k numT) = k := by
  induction k with
  | zero => rfl
  | succ k ih =>
    rw [List.replicate_succ, show sumT (numT :: List.replicate k numT) = sizeT numT + sumT (List.replicate k numT) by simp [sumT], ih, show sizeT numT = 1 by unfold numT; rw [Prg.sizeT_eq]; rfl]
    omega
theorem bare_few (e : Ex) (g k R1 R3 : Nat) (hk : k ≤ 2) : (nodes givenB (bareL e g k R1 R3).f).length ≤ 100000 := by
  refine Nat.le_trans (Prg.nodes_le _) ?_
  have hs : coreS (bareS e g k) = .mk 6 [] (core (bareX e g k)) [] [] := by rw [coreS_eq]; rfl
  have h1 : Prg.sumF ((bareL e g k R1 R3).f.map coreF) = 1 + (1 + sizeT (core (bareX e g k)) + 0 + 0) := by
    show Prg.sumF [coreF (bareF e g k R1)] = _
    rw [Prg.sumF_one, show Prg.wtF (coreF (bareF e g k R1)) = 1 + Prg.sumS [coreS (bareS e g k)] from rfl, Prg.sumS_one, hs, Prg.wtS_eq]
    rfl
  rw [h1, bare_core, Prg.sizeT_eq, sum_rep]
  omega
theorem bare_V (e : Ex) (g k R1 R3 : Nat) : flV (bareL e g k R1 R3) = .agg #[.string ⟨#[112]⟩, .slice none 0 0, .slice (some ⟨R3, 0, none⟩) 1 1] := rfl
set_option maxHeartbeats 8000000 in
theorem alone_any (e : Ex) (w : World) (hin : ExIn w e) (h : Bare e) : Calls Tryz.prog 87 #[exV e] w (EndsB (.bool true) w) := by
  obtain ⟨hk, hok⟩ := h
  have hs := hin.nd.s
  have hq := hin.nd.q
  rw [exV_eq]
  obtain ⟨k, hk2⟩ : ∃ k, e.x.length = k := ⟨_, rfl⟩
  rw [hk2] at hk hok ⊢
  obtain ⟨W0, hW0⟩ : ∃ W0, w.alloc (.cells #[.int .i64 e.op, .int .i64 e.n, .string e.s, .string e.q, .slice e.a k e.c] 42) = W0 := ⟨_, rfl⟩
  have HB0 : Hid (Below w.heap.size w W0) := Lib.hid (hW0 ▸ (Below.refl _ w).alloc (Nat.le_refl _) _)
  have HN0 : Hid (W0.heap[w.heap.size]? = some (.cells #[.int .i64 e.op, .int .i64 e.n, .string e.s, .string e.q, .slice e.a k e.c] 42 (0, 0))) := Lib.hid (hW0 ▸ new_at w _ _)
  have HB1 : Hid (Below w.heap.size w (W0.alloc (.cells #[.int .i64 1, .int .i64 0, .string ⟨#[]⟩, .string ⟨#[]⟩, .slice none 0 0] 42))) := Lib.hid (HB0.out.alloc HB0.out.size _)
  have HN1 : Hid ((W0.alloc (.cells #[.int .i64 1, .int .i64 0, .string ⟨#[]⟩, .string ⟨#[]⟩, .slice none 0 0] 42)).heap[w.heap.size]? = some (.cells #[.int .i64 e.op, .int .i64 e.n, .string e.s, .string e.q, .slice e.a k e.c] 42 (0, 0))) := Lib.hid ((Below.heap_alloc _ _ _ (lt_of_heap HN0.out)).trans HN0.out)
  have CP := Lib.hid (rep_any k hk W0.heap.size (W0.alloc (.cells #[.int .i64 1, .int .i64 0, .string ⟨#[]⟩, .string ⟨#[]⟩, .slice none 0 0] 42)) (new_at W0 _ _))
  have HALL : Hid (∀ (g R1 R3 : Nat) (u : World), u.heap[g]? = some (.cells ((List.replicate k numL).flatten).toArray 42 (0, 0)) → u.heap[R1]? = some (.cells (stC (bareS e g k)).toArray 47 (0, 0)) → u.heap[R3]? = some (.cells (fnC (bareF e g k R1)).toArray 36 (0, 0)) → Calls Tryz.prog 13 #[.agg #[.string ⟨#[112]⟩, .slice none 0 0, .slice (some ⟨R3, 0, none⟩) 1 1]] u (EndsB (.bool true) u)) := Lib.hid (fun g R1 R3 u h1 h2 h3 => by
    have := right_any (bareL e g k R1 R3) u (bare_l hk hs hq h1 h2 h3)
    rw [decide_eq_true (bare_few e g k R1 R3 hk), Prg.file_right (bare_ok hok)] at this
    exact this)
  obtain ⟨z0, z1, z2, z3, z4⟩ := x5 HN1.out
  obtain ⟨y0, y1, y2, y3, y4⟩ := x5 HN0.out
  have hlt : w.heap.size < W0.heap.size := lt_of_heap HN0.out
  have HLT := Lib.hid hlt
  clear hin hok hs hq hk hlt
  go_enter Tryz.func87, Tryz.ntmps87
  go_wp2_with fail
  refine CP.out.mono ?_
  rintro e1 w2 ⟨g, rfl, hg, hgl, hb2⟩
  have HB2 := Lib.hid (HB1.out.trans (hb2.mono HB1.out.size))
  have HN2 := Lib.hid ((hb2.block _ (lt_of_heap HN1.out)).trans HN1.out)
  have hgb : g ≠ w.heap.size := by have := HLT.out; simp at hgl; omega
  have f4 : w2.frozen? ⟨w.heap.size, 4, none⟩ = false := by simp [World.frozen?, HN2.out]
  have c4 : w2.cell? ⟨w.heap.size, 4, none⟩ = some (.slice e.a k e.c) := cell_at HN2.out 4
  obtain ⟨W3, hW3⟩ : ∃ W3, w2.setCell ⟨w.heap.size, 4, none⟩ (.slice (some ⟨g, 0, none⟩) k k) = W3 := ⟨_, rfl⟩
  have HN3 : Hid (W3.heap[w.heap.size]? = some (.cells #[.int .i64 e.op, .int .i64 e.n, .string e.s, .string e.q, .slice (some ⟨g, 0, none⟩) k k] 42 (0, 0))) := Lib.hid (by rw [← hW3]; exact (set_at HN2.out _).trans (by rfl))
  have HG3 : Hid (W3.heap[g]? = some (.cells ((List.replicate k numL).flatten).toArray 42 (0, 0))) := Lib.hid (by rw [← hW3]; exact (set_ne _ _ _ _ _ hgb).trans hg)
  have HB3 : Hid (Below w.heap.size w W3) := Lib.hid (by rw [← hW3]; exact HB2.out.setCell (p := ⟨w.heap.size, 4, none⟩) (Nat.le_refl _) _)
  obtain ⟨v0, v1, v2, v3, v4⟩ := x5 HN3.out
  clear hb2 hg hgl hgb z0 z1 z2 z3 z4 y0 y1 y2 y3 y4
  have q4 : (W3.alloc (.cells #[.int .i64 6, .string ⟨#[]⟩, .int .i64 e.op, .int .i64 e.n, .string e.s, .string e.q, .slice (some ⟨g, 0, none⟩) k k, .slice none 0 0, .slice none 0 0] 47)).heap[W3.heap.size]? = some (.cells #[.int .i64 6, .string ⟨#[]⟩, .int .i64 e.op, .int .i64 e.n, .string e.s, .string e.q, .slice (some ⟨g, 0, none⟩) k k, .slice none 0 0, .slice none 0 0] 47 (0, 0)) := new_at W3 _ _
  have g4 := (Below.heap_alloc W3 (.cells #[.int .i64 6, .string ⟨#[]⟩, .int .i64 e.op, .int .i64 e.n, .string e.s, .string e.q, .slice (some ⟨g, 0, none⟩) k k, .slice none 0 0, .slice none 0 0] 47) g (lt_of_heap HG3.out)).trans HG3.out
  have b4 := HB3.out.alloc HB3.out.size (.cells #[.int .i64 6, .string ⟨#[]⟩, .int .i64 e.op, .int .i64 e.n, .string e.s, .string e.q, .slice (some ⟨g, 0, none⟩) k k, .slice none 0 0, .slice none 0 0] 47)
  obtain ⟨W4, hW4⟩ : ∃ W4, W3.alloc (.cells #[.int .i64 6, .string ⟨#[]⟩, .int .i64 e.op, .int .i64 e.n, .string e.s, .string e.q, .slice (some ⟨g, 0, none⟩) k k, .slice none 0 0, .slice none 0 0] 47) = W4 := ⟨_, rfl⟩
  rw [hW4] at q4 g4 b4
  obtain ⟨R1, hR1⟩ : ∃ R1, W3.heap.size = R1 := ⟨_, rfl⟩
  rw [hR1] at q4
  have HQ4 := Lib.hid q4
  have HG4 := Lib.hid g4
  have HB4 := Lib.hid b4
  clear q4 g4 b4
  have q5 : (W4.alloc (.cells #[.string ⟨#[102]⟩, .slice none 0 0, .int .u8 0, .slice (some ⟨R1, 0, none⟩) 1 1] 36)).heap[W4.heap.size]? = some (.cells #[.string ⟨#[102]⟩, .slice none 0 0, .int .u8 0, .slice (some ⟨R1, 0, none⟩) 1 1] 36 (0, 0)) := new_at W4 _ _
  have g5 := (Below.heap_alloc W4 (.cells #[.string ⟨#[102]⟩, .slice none 0 0, .int .u8 0, .slice (some ⟨R1, 0, none⟩) 1 1] 36) g (lt_of_heap HG4.out)).trans HG4.out
  have r5 := (Below.heap_alloc W4 (.cells #[.string ⟨#[102]⟩, .slice none 0 0, .int .u8 0, .slice (some ⟨R1, 0, none⟩) 1 1] 36) R1 (lt_of_heap HQ4.out)).trans HQ4.out
  have b5 := HB4.out.alloc HB4.out.size (.cells #[.string ⟨#[102]⟩, .slice none 0 0, .int .u8 0, .slice (some ⟨R1, 0, none⟩) 1 1] 36)
  obtain ⟨W5, hW5⟩ : ∃ W5, W4.alloc (.cells #[.string ⟨#[102]⟩, .slice none 0 0, .int .u8 0, .slice (some ⟨R1, 0, none⟩) 1 1] 36) = W5 := ⟨_, rfl⟩
  rw [hW5] at q5 g5 r5 b5
  obtain ⟨u0, u1, u2, u3⟩ := x4 q5
  have q6 : (W5.alloc (.cells #[.string ⟨#[102]⟩, .slice none 0 0, .int .u8 0, .slice (some ⟨R1, 0, none⟩) 1 1] 36)).heap[W5.heap.size]? = some (.cells #[.string ⟨#[102]⟩, .slice none 0 0, .int .u8 0, .slice (some ⟨R1, 0, none⟩) 1 1] 36 (0, 0)) := new_at W5 _ _
  have g6 := (Below.heap_alloc W5 (.cells #[.string ⟨#[102]⟩, .slice none 0 0, .int .u8 0, .slice (some ⟨R1, 0, none⟩) 1 1] 36) g (lt_of_heap g5)).trans g5
  have r6 := (Below.heap_alloc W5 (.cells #[.string ⟨#[102]⟩, .slice none 0 0, .int .u8 0, .slice (some ⟨R1, 0, none⟩) 1 1] 36) R1 (lt_of_heap r5)).trans r5
  have b6 := b5.alloc b5.size (.cells #[.string ⟨#[102]⟩, .slice none 0 0, .int .u8 0, .slice (some ⟨R1, 0, none⟩) 1 1] 36)
  obtain ⟨W6, hW6⟩ : ∃ W6, W5.alloc (.cells #[.string ⟨#[102]⟩, .slice none 0 0, .int .u8 0, .slice (some ⟨R1, 0, none⟩) 1 1] 36) = W6 := ⟨_, rfl⟩
  rw [hW6] at q6 g6 r6 b6
  have C7 := Lib.hid (HALL.out g R1 W5.heap.size W6 g6 (by rw [r6]; simp [stC, bareS, bareX]) q6)
  have HB6 := Lib.hid b6
  clear q5 g5 r5 b5 q6 g6 r6 b6
  go_wp2_with fail
  refine C7.out.mono ?_
  rintro e1 w7 ⟨rfl, hb7⟩
  have HB7 := Lib.hid (HB6.out.trans (hb7.mono HB6.out.size))
  clear hb7
  go_wp2_with fail
  go_ret
  exact EndsB.of rfl HB7.out
end Go.Proofs.YtmihlmlojmdhjaaGreatDoor.Wr
/- The program's print.Expr, print.Type, and what they stand on. Conditions: the expression lies in memory; it is right, each node beside numbers, too. -/
namespace Go.Proofs.YtmihlmlojmdhjaaGreatDoor.Wr
open Go.RowKit Tre
open Prg (OkX LoX)
set_option maxRecDepth 100000
set_option maxHeartbeats 8000000 in
theorem nodes_step (e : Ex) (w : World) (hin : ExIn w e) (h : Bare e)
    (HC : ∀ x ∈ e.x, ∀ (w' : World), Below w.heap.size w w' → Calls Tryz.prog 43 #[exV x] w' (EndsB (.bool true) w')) :
    Calls Tryz.prog 43 #[exV e] w (EndsB (.bool true) w) := by
  have hlen := hin.nd.len
  unfold most at hlen
  have HROW := Lib.hid hin.nd.row
  have HEL := Lib.hid HC
  obtain ⟨W0, hW0⟩ : ∃ W0, w.alloc (.cells #[.int .i64 e.op, .int .i64 e.n, .string e.s, .string e.q, .slice e.a e.x.length e.c] 42) = W0 := ⟨_, rfl⟩
  have HB0 : Hid (Below w.heap.size w W0) := Lib.hid (hW0 ▸ (Below.refl _ w).alloc (Nat.le_refl _) _)
  have HN0 : Hid (W0.heap[w.heap.size]? = some (.cells #[.int .i64 e.op, .int .i64 e.n, .string e.s, .string e.q, .slice e.a e.x.length e.c] 42 (0, 0))) := Lib.hid (hW0 ▸ new_at w _ _)
  have CA := Lib.hid (alone_any e W0 (hin.below HB0.out) h)
  rw [exV_eq] at CA ⊢
  have HM : Hid (∀ k x, e.x[k]? = some x → x ∈ e.x) := Lib.hid (fun k x h => List.mem_of_getElem? h)
  have HLT : Hid (∀ k, k < e.x.length → ∃ x, e.x[k]? = some x) := Lib.hid (fun k hk => ⟨_, List.getElem?_eq_getElem hk⟩)
  obtain ⟨z0, z1, z2, z3, z4⟩ := x5 HN0.out
  clear HC hin h
  generalize e.x.length = m at *
  go_enter Tryz.func43, Tryz.ntmps43
  go_wp2_with fail
  refine CA.out.mono ?_
  rintro e1 w1 ⟨rfl, hb1⟩
  have HB1 := Lib.hid (HB0.out.trans (hb1.mono HB0.out.size))
  obtain ⟨y0, y1, y2, y3, y4⟩ := x5 ((hb1.block _ (lt_of_heap HN0.out)).trans HN0.out)
  clear hb1 z0 z1 z2 z3 z4
  go_wp2_with fail
  go_loopw [11] (fun i wr => ∃ k : Nat, k ≤ m ∧ i = .int .i64 k ∧ Hid (Below w.heap.size w wr)) (fun i _ => m - (intOf i).toNat)
  case atStart => exact ⟨0, Nat.zero_le _, rfl, HB1⟩
  case round =>
    obtain ⟨k, hk, rfl, HB⟩ := hrel
    by_cases hlt : k < m
    · obtain ⟨x, hx⟩ := HLT.out k hlt
      obtain ⟨b1, o1, ha, hc1⟩ := HROW.out.at_ HB.out hx
      obtain ⟨p0, p1, p2, p3, p4⟩ := exC_at hc1
      have hb2 := ball_new wr #[.int .i64 x.op, .int .i64 x.n, .string x.s, .string x.q, .slice x.a x.x.length x.c] 42
      have HB2 := Lib.hid (HB.out.trans (hb2.mono HB.out.size))
      have CX := HEL.out x (HM.out k x hx) _ HB2.out
      rw [exV_eq] at CX
      have CX := Lib.hid CX
      clear hc1 hx hb2
      rw [ha]
      clear ha
      go_wp2_with fail
      refine CX.out.mono ?_
      rintro e1 w3 ⟨rfl, hb3⟩
      have HB3 := Lib.hid (HB2.out.trans (hb3.mono HB2.out.size))
      clear hb3
      go_wp2_with fail
      go_roundw
      case rel => exact ⟨k + 1, by omega, rfl, HB3⟩
      case measure => simp [intOf]; omega
    · obtain rfl : k = m := by omega
      go_wp2_with fail
      go_ret
      exact EndsB.of rfl HB.out
theorem nodes_upto : ∀ (n : Nat) (e : Ex) (w : World), size e ≤ n → ExIn w e → (∀ y ∈ flat e, Bare y) → Calls Tryz.prog 43 #[exV e] w (EndsB (.bool true) w)
  | 0, e, w, h, _, _ => by rw [size_eq] at h; omega
  | n + 1, e, w, h, hin, hB => nodes_step e w hin (hB e (mem_flat e)) fun x hx w' hb => nodes_upto n x w' (by have := size_part hx; omega) ((hin.part hx).below hb) (fun y hy => hB y (flat_sub hx hy))
set_option maxHeartbeats 8000000 in
theorem self_any (e : Ex) (w : World) (hin : ExIn w e) (hs : size e ≤ 100000) : Calls Tryz.prog 42 #[exV e, exV e] w (EndsB (.bool true) w) := by
  obtain ⟨X0, hX0⟩ : ∃ X0, (w.alloc (.cells #[.int .i64 e.op, .int .i64 e.n, .string e.s, .string e.q, .slice e.a e.x.length e.c] 42)).alloc (.cells #[.int .i64 e.op, .int .i64 e.n, .string e.s, .string e.q, .slice e.a e.x.length e.c] 42) = X0 := ⟨_, rfl⟩
  have HB0 : Hid (Below w.heap.size w X0) := Lib.hid (hX0 ▸ two_new w _ _ _)
  have h2 := Prg.two_new_at w #[.int .i64 e.op, .int .i64 e.n, .string e.s, .string e.q, .slice e.a e.x.length e.c] #[.int .i64 e.op, .int .i64 e.n, .string e.s, .string e.q, .slice e.a e.x.length e.c] 42 42
  rw [hX0] at h2
  have HA := Lib.hid h2.1
  have HC := Lib.hid h2.2
  have CP := Lib.hid ((callsIn_wide (n := 5)).1 (parts_any Fence.wide 5 trivial rfl e X0))
  have hg := parts_gives w e hin X0.heap.size (X0.alloc (.cells #[.int .i64 e.op, .int .i64 e.n, .string e.s, .string e.q, .slice e.a e.x.length e.c] 42)) (Low.below (HB0.out.alloc HB0.out.size _)) (new_at X0 _ _)
  have hb1 := HB0.out.alloc HB0.out.size (.cells #[.int .i64 e.op, .int .i64 e.n, .string e.s, .string e.q, .slice e.a e.x.length e.c] 42)
  have CF := Lib.hid (fits_any hg (enters_of Tryz.func99 (by kernel_rfl) rfl) hb1.size (fun b hb => by cases hb))
  rw [show (flat e).length = size e from rfl, decide_eq_true hs] at CF
  have HB1 := Lib.hid hb1
  have CS := Lib.hid (fun (u : World) (hu : Below w.heap.size w u) => sameExpr_any e e u (hin.below hu) (hin.below hu))
  rw [same_core rfl] at CS
  rw [exV_eq] at CP CS ⊢
  have HAA : Hid ((X0.alloc (.cells #[.int .i64 e.op, .int .i64 e.n, .string e.s, .string e.q, .slice e.a e.x.length e.c] 42)).heap[w.heap.size]? = some (.cells #[.int .i64 e.op, .int .i64 e.n, .string e.s, .string e.q, .slice e.a e.x.length e.c] 42 (0, 0))) := Lib.hid ((Below.heap_alloc _ _ _ (lt_of_heap HA.out)).trans HA.out)
  have HCC : Hid ((X0.alloc (.cells #[.int .i64 e.op, .int .i64 e.n, .string e.s, .string e.q, .slice e.a e.x.length e.c] 42)).heap[w.heap.size + 1]? = some (.cells #[.int .i64 e.op, .int .i64 e.n, .string e.s, .string e.q, .slice e.a e.x.length e.c] 42 (0, 0))) := Lib.hid ((Below.heap_alloc _ _ _ (lt_of_heap HC.out)).trans HC.out)
  obtain ⟨z0, z1, z2, z3, z4⟩ := x5 HA.out
  have HX0 := Lib.hid hX0
  clear hg hb1 hin hs hX0 h2
  generalize e.x.length = m at *
  go_enter Tryz.func42, Tryz.ntmps42
  go_wp2_with fail
  rw [HX0.out]
  go_wp2_with fail
  refine CP.out.mono ?_
  rintro e1 w1 ⟨rfl, hw⟩
  have hw2 := hw.symm
  subst hw2
  go_wp2_with fail
  refine CF.out.mono ?_
  rintro e1 w2 ⟨rfl, hb2⟩
  obtain ⟨y0, y1, y2, y3, y4⟩ := x5 ((hb2.block _ (lt_of_heap HAA.out)).trans HAA.out)
  obtain ⟨v0, v1, v2, v3, v4⟩ := x5 ((hb2.block _ (lt_of_heap HCC.out)).trans HCC.out)
  have HB2 := Lib.hid (HB1.out.trans (hb2.mono HB1.out.size))
  have CS1 := Lib.hid (CS.out w2 HB2.out)
  clear hb2 z0 z1 z2 z3 z4
  go_wp2_with fail
  refine CS1.out.mono ?_
  rintro e1 w3 ⟨rfl, hb3⟩
  have HB3 := Lib.hid (HB2.out.trans (hb3.mono HB2.out.size))
  clear hb3
  go_wp2_with fail
  go_ret
  exact EndsB.of rfl HB3.out
end Go.Proofs.YtmihlmlojmdhjaaGreatDoor.Wr
/- The law's knows: true. Conditions: the tables lie as the program lays them. -/
namespace Go.Proofs.YtmihlmlojmdhjaaGreatDoor.Wr
open Go.RowKit Tre
open Prg (OkX LoX OkL OkS OkF LoL LoF LoS textL)
open Prs (nilT)
set_option maxRecDepth 100000
set_option maxHeartbeats 8000000 in
theorem rightx_any (e : Ex) (w : World) (hin : ExIn w e) (hs : size e ≤ 100000) (hB : ∀ y ∈ flat e, Bare y) : Calls Tryz.prog 21 #[exV e] w (EndsB (.bool true) w) := by
  obtain ⟨W0, hW0⟩ : ∃ W0, w.alloc (.cells #[.int .i64 e.op, .int .i64 e.n, .string e.s, .string e.q, .slice e.a e.x.length e.c] 42) = W0 := ⟨_, rfl⟩
  have HB0 : Hid (Below w.heap.size w W0) := Lib.hid (hW0 ▸ (Below.refl _ w).alloc (Nat.le_refl _) _)
  have HN0 : Hid (W0.heap[w.heap.size]? = some (.cells #[.int .i64 e.op, .int .i64 e.n, .string e.s, .string e.q, .slice e.a e.x.length e.c] 42 (0, 0))) := Lib.hid (hW0 ▸ new_at w _ _)
  have C1 := Lib.hid (self_any e W0 (hin.below HB0.out) hs)
  have C2 := Lib.hid (fun (u : World) (hu : Below w.heap.size w u) => nodes_upto _ e u (Nat.le_refl _) (hin.below hu) hB)
  rw [exV_eq] at C1 C2 ⊢
  obtain ⟨z0, z1, z2, z3, z4⟩ := x5 HN0.out
  clear hin hs hB
  generalize e.x.length = m at *
  go_enter Tryz.func21, Tryz.ntmps21
  go_wp2_with fail
  refine C1.out.mono ?_
  rintro e1 w1 ⟨rfl, hb1⟩
  have HB1 := Lib.hid (HB0.out.trans (hb1.mono HB0.out.size))
  obtain ⟨y0, y1, y2, y3, y4⟩ := x5 ((hb1.block _ (lt_of_heap HN0.out)).trans HN0.out)
  have C3 := Lib.hid (C2.out w1 HB1.out)
  clear hb1 z0 z1 z2 z3 z4
  go_wp2_with fail
  refine C3.out.mono ?_
  rintro e1 w2 ⟨rfl, hb2⟩
  have HB2 := Lib.hid (HB1.out.trans (hb2.mono HB1.out.size))
  clear hb2
  go_wp2_with fail
  go_ret
  exact EndsB.of rfl HB2.out
set_option maxHeartbeats 8000000 in
theorem printExpr_yes (e : Ex) (w : World) (hin : ExIn w e) (hG : Gd w) (hs : size e ≤ 100000) (hB : ∀ y ∈ flat e, Bare y) (hok : OkX (core e)) (hlo : LoX (core e)) (hne : TX e ≠ []) (hroom : (TX e).length ≤ room) : Calls Tryz.prog 10 #[exV e] w (Printed (TX e) true w) := by
  obtain ⟨W0, hW0⟩ : ∃ W0, w.alloc (.cells #[.int .i64 e.op, .int .i64 e.n, .string e.s, .string e.q, .slice e.a e.x.length e.c] 42) = W0 := ⟨_, rfl⟩
  have HB0 : Hid (Below w.heap.size w W0) := Lib.hid (hW0 ▸ (Below.refl _ w).alloc (Nat.le_refl _) _)
  have HN0 : Hid (W0.heap[w.heap.size]? = some (.cells #[.int .i64 e.op, .int .i64 e.n, .string e.s, .string e.q, .slice e.a e.x.length e.c] 42 (0, 0))) := Lib.hid (hW0 ▸ new_at w _ _)
  have CR := Lib.hid (rightx_any e W0 (hin.below HB0.out) hs hB)
  have CF := Lib.hid (fun (b : Nat) (u : World) (h : Wt u w.heap.size b 0 []) (hb : Below w.heap.size w u) => elX_any hG b 0 hin hok hlo u [] h hb (by simpa using hroom))
  have HNE := Lib.hid hne
  rw [exV_eq] at CR CF ⊢
  generalize TX e = t at *
  obtain ⟨z0, z1, z2, z3, z4⟩ := x5 HN0.out
  clear hin hG hs hB hok hlo hne hroom
  generalize e.x.length = m at *
  go_enter Tryz.func10, Tryz.ntmps10
  go_wp2_with fail
  refine CR.out.mono ?_
  rintro e1 w1 ⟨rfl, hb1⟩
  have HB1 := Lib.hid (HB0.out.trans (hb1.mono HB0.out.size))
  have HN1 := Lib.hid ((hb1.block _ (lt_of_heap HN0.out)).trans HN0.out)
  have HW := Lib.hid (Wt.start HB1.out.size)
  have HBA : Hid (Below w.heap.size w (w1.alloc (.cells #[.pointer none, .slice none 0 0, .int .i64 0] 66))) := Lib.hid (HB1.out.alloc HB1.out.size _)
  have HNA : Hid ((w1.alloc (.cells #[.pointer none, .slice none 0 0, .int .i64 0] 66)).heap[w.heap.size]? = some (.cells #[.int .i64 e.op, .int .i64 e.n, .string e.s, .string e.q, .slice e.a m e.c] 42 (0, 0))) := Lib.hid ((Below.heap_alloc _ _ _ (lt_of_heap HN1.out)).trans HN1.out)
  obtain ⟨y0, y1, y2, y3, y4⟩ := x5 HNA.out
  have CF1 := Lib.hid (CF.out _ _ HW.out HBA.out)
  have hlt : w.heap.size < w1.heap.size := lt_of_heap HN1.out
  have HLT := Lib.hid hlt
  clear hb1 hlt z0 z1 z2 z3 z4
  obtain ⟨W2, hW2⟩ : ∃ W2, w1.alloc (.cells #[.pointer none, .slice none 0 0, .int .i64 0] 66) = W2 := ⟨_, rfl⟩
  rw [hW2] at y0 y1 y2 y3 y4 CF1 HBA
  go_wp2_with fail
  refine CF1.out.mono ?_
  rintro e1 w3 ⟨rfl, h1, h2⟩
  have CS := Lib.hid (string_any h1 (by simpa using HNE.out))
  have HB3 := Lib.hid (HBA.out.trans h2.below)
  clear h1 h2
  go_wp2_with fail
  refine CS.out.mono ?_
  rintro e1 w4 ⟨rfl, hb4⟩
  have HB4 := Lib.hid (HB3.out.trans hb4)
  clear hb4
  go_wp2_with fail
  go_ret2
  exact ⟨by simp, HB4.out⟩
set_option maxHeartbeats 4000000 in
theorem printInt (w : World) : Calls Tryz.prog 12 #[.int .u8 1] w (EndsB (.string ⟨#[105, 110, 116]⟩) w) := by
  have HW : Hid (Wt (w.alloc (.cells #[.pointer none, .slice none 0 0, .int .i64 0] 66)) w.heap.size w.heap.size 0 []) := Lib.hid (Wt.start (Nat.le_refl _))
  have HB : Hid (Below w.heap.size w (w.alloc (.cells #[.pointer none, .slice none 0 0, .int .i64 0] 66))) := Lib.hid (ball_new w _ _)
  have CT := Lib.hid (typed_any HW.out 1 (.inl rfl) (by decide))
  obtain ⟨W2, hW2⟩ : ∃ W2, w.alloc (.cells #[.pointer none, .slice none 0 0, .int .i64 0] 66) = W2 := ⟨_, rfl⟩
  rw [hW2] at CT HB
  go_enter Tryz.func12, Tryz.ntmps12
  go_wp2_with fail
  refine CT.out.mono ?_
  rintro e1 w3 ⟨rfl, h1, h2⟩
  rw [TT_one] at h1
  have CS := Lib.hid (string_any h1 (by simp))
  have HB3 := Lib.hid (HB.out.trans h2.below)
  clear h1 h2
  go_wp2_with fail
  refine CS.out.mono ?_
  rintro e1 w4 ⟨rfl, hb4⟩
  have HB4 := Lib.hid (HB3.out.trans hb4)
  clear hb4
  go_wp2_with fail
  go_ret
  exact ⟨rfl, HB4.out⟩
def aX : Ex := .mk 3 0 ⟨#[97]⟩ ⟨#[]⟩ none 0 []
def addX (R1 : Nat) : Ex := .mk 10 0 ⟨#[]⟩ ⟨#[]⟩ (some ⟨R1, 0, none⟩) 2 [aX, aX]
def negX (R1 R2 : Nat) : Ex := .mk 5 0 ⟨#[]⟩ ⟨#[]⟩ (some ⟨R2, 0, none⟩) 1 [addX R1]
theorem core_a : core aX = .mk 3 0 [97] [] [] := by rw [core_eq]; rfl
theorem core_add (R1 : Nat) : core (addX R1) = .mk 10 0 [] [] [.mk 3 0 [97] [] [], .mk 3 0 [97] [] []] := by
  rw [core_eq]
  simp only [addX, Ex.op, Ex.n, Ex.s, Ex.q, Ex.x, List.map_cons, List.map_nil, core_a]
theorem core_neg (R1 R2 : Nat) : core (negX R1 R2) = .mk 5 0 [] [] [.mk 10 0 [] [] [.mk 3 0 [97] [] [], .mk 3 0 [97] [] []]] := by
  rw [core_eq]
  simp only [negX, Ex.op, Ex.n, Ex.s, Ex.q, Ex.x, List.map_cons, List.map_nil, core_add]
theorem ok_a : OkX (.mk 3 0 [97] [] []) := .name _ (by decide)
theorem neg_ok (R1 R2 : Nat) : OkX (core (negX R1 R2)) := by
  rw [core_neg]
  exact .one 5 _ (.inl rfl) (.two 10 _ _ (by decide) (by decide) ok_a ok_a)
theorem lo_a : LoX (.mk 3 0 [97] [] []) := .mk _ _ _ _ _ (by decide) (fun y hy => by simp at hy)
theorem neg_lo (R1 R2 : Nat) : LoX (core (negX R1 R2)) := by
  rw [core_neg]
  refine .mk _ _ _ _ _ (by decide) (fun y hy => ?_)
  obtain rfl : y = _ := by simpa using hy
  refine .mk _ _ _ _ _ (by decide) (fun y hy => ?_)
  obtain rfl : y = _ := by simpa using hy
  exact lo_a
theorem neg_text (R1 R2 : Nat) : TX (negX R1 R2) = [45, 40, 97, 32, 43, 32, 97, 41] := by
  have h3 : TX aX = [97] := TX_name _ _ _ _ _ _
  have h4 : TP aX = [97] := (TP_no (by decide)).trans h3
  have h2 : TX (addX R1) = TP aX ++ (([32] ++ (Prg.opS 10 ++ [32])) ++ TP aX) := TX_two _ _ _ _ _ _ _ _ (by decide)
  have h1 : TX (negX R1 R2) = (if (5 : Int) = 5 then [45] else [33]) ++ TP (addX R1) := TX_one _ _ _ _ _ _ _ (.inl rfl)
  rw [h1, TP_two (show 7 ≤ (addX R1).op by show (7 : Int) ≤ 10; decide), h2, h4]
  rfl
theorem flat_neg (R1 R2 : Nat) : flat (negX R1 R2) = [negX R1 R2, addX R1, aX, aX] := by
  rw [flat_eq]
  simp only [negX, Ex.x, flatL, List.flatMap_cons, List.flatMap_nil, List.append_nil]
  rw [flat_eq]
  simp only [addX, Ex.x, flatL, List.flatMap_cons, List.flatMap_nil, List.append_nil]
  rw [flat_eq]
  simp only [aX, Ex.x, flatL, List.flatMap_nil]
  rfl
theorem neg_bare (R1 R2 : Nat) : ∀ y ∈ flat (negX R1 R2), Bare y := fun y hy => by
  rw [flat_neg] at hy
  simp only [List.mem_cons, List.not_mem_nil, or_false] at hy
  have hn : OkX numT := .num 0 (by decide)
  rcases hy with rfl | rfl | rfl | rfl
  · exact ⟨by show 1 ≤ 2; decide, .one 5 numT (.inl rfl) hn⟩
  · exact ⟨by show 2 ≤ 2; decide, .two 10 numT numT (by decide) (by decide) hn hn⟩
  · exact ⟨by show 0 ≤ 2; decide, ok_a⟩
  · exact ⟨by show 0 ≤ 2; decide, ok_a⟩
theorem a_in (w : World) : ExIn w aX := ExIn.mk ⟨Row.nil _ _ _ _, by simp [aX, Ex.x, most], by simp [aX, Ex.x, Ex.c], by simp [aX, Ex.s, maxLen, ByteArray.size], by simp [aX, Ex.q, maxLen, ByteArray.size]⟩ (fun x hx => by simp [aX, Ex.x] at hx)
theorem neg_in {w : World} {R1 R2 : Nat} (h1 : w.heap[R1]? = some (.cells (exC aX ++ exC aX).toArray 42 (0, 0))) (h2 : w.heap[R2]? = some (.cells (exC (addX R1)).toArray 42 (0, 0))) : ExIn w (negX R1 R2) :=
  ExIn.mk ⟨row_blk exC_len (by simpa [negX, Ex.x] using h2), by simp [negX, Ex.x, most], by simp [negX, Ex.x, Ex.c], by simp [negX, Ex.s, maxLen, ByteArray.size], by simp [negX, Ex.q, maxLen, ByteArray.size]⟩ (fun x hx => by
    obtain rfl : x = addX R1 := by simpa [negX, Ex.x] using hx
    exact ExIn.mk ⟨row_blk exC_len (by simpa [addX, Ex.x] using h1), by simp [addX, Ex.x, most], by simp [addX, Ex.x, Ex.c], by simp [addX, Ex.s, maxLen, ByteArray.size], by simp [addX, Ex.q, maxLen, ByteArray.size]⟩ (fun y hy => by
      obtain rfl : y = aX := by simpa [addX, Ex.x] using hy
      exact a_in w))
theorem knowX {w : World} (hG : Gd w) {R1 R2 : Nat} (h1 : w.heap[R1]? = some (.cells (exC aX ++ exC aX).toArray 42 (0, 0))) (h2 : w.heap[R2]? = some (.cells (exC (addX R1)).toArray 42 (0, 0))) :
    Calls Tryz.prog 10 #[.agg #[.int .i64 5, .int .i64 0, .string ⟨#[]⟩, .string ⟨#[]⟩, .slice (some ⟨R2, 0, none⟩) 1 1]] w (fun e w' => e = .returned (.tuple #[.string ⟨#[45, 40, 97, 32, 43, 32, 97, 41]⟩, .bool true]) ∧ Below w.heap.size w w') := by
  have := printExpr_yes (negX R1 R2) w (neg_in h1 h2) hG (by unfold size; rw [flat_neg]; show 4 ≤ 100000; decide) (neg_bare R1 R2) (neg_ok R1 R2) (neg_lo R1 R2) (by rw [neg_text]; simp) (by rw [neg_text]; decide)
  rw [neg_text] at this
  exact this
def retS : St := .mk 5 ⟨#[]⟩ nilX none 0 [] none 0 []
def retF (R1 : Nat) : Tre.Fn := ⟨⟨#[102]⟩, none, 0, [], 0, some ⟨R1, 0, none⟩, 1, [retS]⟩
def retL (R1 R2 : Nat) : Fl := ⟨⟨#[112]⟩, none, 0, [], some ⟨R2, 0, none⟩, 1, [retF R1]⟩
theorem core_nilX : core nilX = nilT := by rw [core_eq]; rfl
theorem core_ret : coreS retS = .mk 5 [] nilT [] [] := by
  rw [coreS_eq]
  simp only [retS, St.op, St.s, St.e, St.b, St.b2, core_nilX, List.map_nil]
theorem ret_ok (R1 R2 : Nat) : OkL (coreL (retL R1 R2)) := by
  refine ⟨.inl (show Lex.nameOk [112] = true by decide), Nat.zero_le _, (show 1 ≤ 32 by decide), fun s hs => by simp [coreL, retL] at hs, fun f hf => ?_⟩
  have : f = coreF (retF R1) := by simpa [coreL, retL] using hf
  rw [this]
  refine ⟨(show Lex.nameOk [102] = true by decide), Nat.zero_le _, fun p hp => by simp [coreF, retF] at hp, .inl rfl, fun y hy => ?_⟩
  have : y = coreS retS := by simpa [coreF, retF] using hy
  rw [this, core_ret]
  exact .retn
theorem ret_lo (R1 R2 : Nat) : LoL (coreL (retL R1 R2)) := fun f hf => by
  have : f = coreF (retF R1) := by simpa [coreL, retL] using hf
  rw [this]
  intro y hy
  have : y = coreS retS := by simpa [coreF, retF] using hy
  rw [this, core_ret]
  exact .mk _ _ _ _ _ (fun _ => .mk _ _ _ _ _ (by decide) (fun y hy => by simp at hy)) (fun y hy => by simp at hy) (fun y hy => by simp at hy)
theorem ret_few (R1 R2 : Nat) : (nodes givenB (retL R1 R2).f).length ≤ 100000 := by
  refine Nat.le_trans (Prg.nodes_le _) ?_
  have h1 : Prg.sumF ((retL R1 R2).f.map coreF) = 1 + (1 + Prg.sizeT nilT + 0 + 0) := by
    show Prg.sumF [coreF (retF R1)] = _
    rw [Prg.sumF_one, show Prg.wtF (coreF (retF R1)) = 1 + Prg.sumS [coreS retS] from rfl, Prg.sumS_one, core_ret, Prg.wtS_eq]
    rfl
  rw [h1, Prg.size_nil]
  omega
theorem ret_text (R1 R2 : Nat) : textL (coreL (retL R1 R2)) = [112, 97, 99, 107, 97, 103, 101, 32, 112, 59, 10, 102, 117, 110, 99, 32, 102, 40, 41, 32, 123, 10, 9, 114, 101, 116, 117, 114, 110, 10, 125, 10] := by
  rw [text_file]
  have hs : TS 1 retS = [114, 101, 116, 117, 114, 110] := TS_ret_no _ _ _ _ _ _ _ _ _ rfl
  have hb : TB 0 [retS] = [32, 123, 10] ++ (([9] ++ ([114, 101, 116, 117, 114, 110] ++ [10])) ++ ([] ++ [125])) := by
    unfold TB TLn
    rw [List.flatMap_cons, hs]
    rfl
  have hf : TFn (retF R1) = [102, 117, 110, 99, 32] ++ ([102] ++ ([40, 41] ++ ([] ++ TB 0 [retS]))) := rfl
  have hl : TFl (retL R1 R2) = [112, 97, 99, 107, 97, 103, 101, 32] ++ ([112] ++ ([59, 10] ++ ([] ++ ((TFn (retF R1) ++ [10]) ++ [])))) := rfl
  rw [hl, hf, hb]
  rfl
theorem nil_in (w : World) : ExIn w nilX := ExIn.mk ⟨Row.nil _ _ _ _, by simp [nilX, Ex.x, most], by simp [nilX, Ex.x, Ex.c], by simp [nilX, Ex.s, maxLen, ByteArray.size], by simp [nilX, Ex.q, maxLen, ByteArray.size]⟩ (fun x hx => by simp [nilX, Ex.x] at hx)
theorem ret_in {w : World} {R1 R2 : Nat} (h1 : w.heap[R1]? = some (.cells (stC retS).toArray 47 (0, 0))) (h2 : w.heap[R2]? = some (.cells (fnC (retF R1)).toArray 36 (0, 0))) : FlIn w (retL R1 R2) := by
  have hst : StIn w retS := StIn.mk ⟨nil_in w, Row.nil _ _ _ _, Row.nil _ _ _ _, by simp [retS, St.b, most], by simp [retS, St.b2, most], by simp [retS, St.s, maxLen, ByteArray.size]⟩ (fun x hx => by simp [retS, St.b, St.b2] at hx)
  have hfn : FnIn w (retF R1) := ⟨Row.nil _ _ _ _, row_blk stC_len (by simpa [retF] using h1), fun s hs => by
    have : s = retS := by simpa [retF] using hs
    rw [this]
    exact hst, by simp [retF, most], by simp [retF, most], by simp [retF, maxLen, ByteArray.size], fun p hp => by simp [retF] at hp⟩
  exact ⟨Row.nil _ _ _ _, row_blk fnC_len (by simpa [retL] using h2), fun f hf => by
    have : f = retF R1 := by simpa [retL] using hf
    rw [this]
    exact hfn, by simp [retL, most], by simp [retL, most], by simp [retL, maxLen, ByteArray.size], fun s hs => by simp [retL] at hs⟩
theorem knowF {w : World} (hG : Gd w) {R1 R2 : Nat} (h1 : w.heap[R1]? = some (.cells (stC retS).toArray 47 (0, 0))) (h2 : w.heap[R2]? = some (.cells (fnC (retF R1)).toArray 36 (0, 0))) :
    Calls Tryz.prog 11 #[.agg #[.string ⟨#[112]⟩, .slice none 0 0, .slice (some ⟨R2, 0, none⟩) 1 1]] w (fun e w' => e = .returned (.tuple #[.string ⟨#[112, 97, 99, 107, 97, 103, 101, 32, 112, 59, 10, 102, 117, 110, 99, 32, 102, 40, 41, 32, 123, 10, 9, 114, 101, 116, 117, 114, 110, 10, 125, 10]⟩, .bool true]) ∧ Below w.heap.size w w') := by
  have := printFile_yes (retL R1 R2) w (ret_in h1 h2) hG (ret_lo R1 R2) (ret_few R1 R2) (Prg.file_right (ret_ok R1 R2))
  rw [ret_text] at this
  exact this
end Go.Proofs.YtmihlmlojmdhjaaGreatDoor.Wr
/- The document's countExpr: how many expressions, no further than most and one. Conditions: the tree lies in memory. -/
namespace Go.Proofs.YtmihlmlojmdhjaaGreatDoor.Tre
open Go.RowKit
set_option maxRecDepth 100000
theorem cnt_take {l : List Ex} {j : Nat} {x : Ex} (h : l[j]? = some x) : sizeL (l.take (j + 1)) = sizeL (l.take j) + size x := by
  rw [List.take_add_one, h]
  unfold sizeL
  rw [flatL_app, List.length_append]
  congr 1
  rw [show (some x).toList = [x] from rfl, flatL_cons]
  simp [size, flatL]
theorem exC_cells {w : World} {b o j : Nat} {x : Ex} (h : ∀ (r : Nat) (u : Value), (exC x)[r]? = some u → w.cell? ⟨b, o + j * 5 + r, none⟩ = some u) :
    w.cell? ⟨b, o + j * 5, none⟩ = some (.int .i64 x.op) ∧ w.cell? ⟨b, o + j * 5 + 1, none⟩ = some (.int .i64 x.n) ∧ w.cell? ⟨b, o + j * 5 + 2, none⟩ = some (.string x.s) ∧ w.cell? ⟨b, o + j * 5 + 3, none⟩ = some (.string x.q) ∧ w.cell? ⟨b, o + j * 5 + 4, none⟩ = some (.slice x.a x.x.length x.c) := by
  obtain ⟨o', n, s, q, a, c, y⟩ := x
  exact ⟨h 0 _ rfl, h 1 _ rfl, h 2 _ rfl, h 3 _ rfl, h 4 _ rfl⟩
theorem exV_agg (x : Ex) : exV x = .agg #[.int .i64 x.op, .int .i64 x.n, .string x.s, .string x.q, .slice x.a x.x.length x.c] := by cases x; rfl
set_option maxHeartbeats 8000000 in
theorem count_upto : ∀ (m : Nat) (e : Ex) (n t : Int) (w : World), size e ≤ m → ExIn w e → 0 ≤ n → n ≤ t + 1 → t ≤ 1000000000 → Calls Tryz.prog 41 #[exV e, .int .i64 n, .int .i64 t] w (EndsB (.int .i64 (min (n + size e) (t + 1))) w)
  | 0, e, _, _, w, h, _, _, _, _ => by rw [size_eq] at h; omega
  | m + 1, e, n, t, w, hm, he, h0, hn, ht => by
    by_cases hgt : t < n
    · have hr : min (n + (size e : Int)) (t + 1) = n := by omega
      rw [hr, exV_agg]
      have HB2 := Lib.hid (show Below w.heap.size w (w.alloc (.cells #[.int .i64 e.op, .int .i64 e.n, .string e.s, .string e.q, .slice e.a e.x.length e.c] 42)) from (Below.refl _ w).alloc (Nat.le_refl _) _)
      go_enter Tryz.func41, Tryz.ntmps41
      go_wp2_with fail
      go_ret
      exact ⟨rfl, HB2.out⟩
    · have IH := Lib.hid (fun (y : Ex) (n' : Int) (w' : World) (hy : y ∈ e.x) (hb : Below w.heap.size w w') (h1 : 0 ≤ n') (h2 : n' ≤ t + 1) => count_upto m y n' t w' (by have := size_part hy; omega) ((he.part hy).below hb) h1 h2 ht)
      have HR := Lib.hid he.nd.row
      have hlen := he.nd.len
      have hs := size_eq e
      rw [exV_agg]
      generalize size e = z at *
      obtain ⟨o, en, s, q, A, c, x⟩ := e
      simp only [Ex.op, Ex.n, Ex.s, Ex.q, Ex.x, Ex.a, Ex.c, most] at HR IH hlen hs ⊢
      obtain ⟨k, hk⟩ : ∃ k, x.length = k := ⟨_, rfl⟩
      rw [hk] at hlen ⊢
      have HK := Lib.hid hk
      clear he hm hk
      have HB2 := Lib.hid (show Below w.heap.size w (w.alloc (.cells #[.int .i64 o, .int .i64 en, .string s, .string q, .slice A k c] 42)) from (Below.refl _ w).alloc (Nat.le_refl _) _)
      have HN := Lib.hid (new_at w #[.int .i64 o, .int .i64 en, .string s, .string q, .slice A k c] 42)
      obtain ⟨W, hW⟩ : ∃ W, w.alloc (.cells #[.int .i64 o, .int .i64 en, .string s, .string q, .slice A k c] 42) = W := ⟨_, rfl⟩
      rw [hW] at HB2 HN
      have z4 : W.cell? ⟨w.heap.size, 4, none⟩ = some (.slice A k c) := cell_at HN.out 4
      go_enter Tryz.func41, Tryz.ntmps41
      go_wp2_with fail
      clear z4 hW
      go_loopw [1, 7] (fun nv iv wr => ∃ j : Nat, j ≤ k ∧ iv = .int .i64 j ∧ nv = .int .i64 (min (n + 1 + sizeL (x.take j)) (t + 1)) ∧ Hid (Below W.heap.size W wr)) (fun _ iv _ => k - (intOf iv).toNat)
      case atStart => exact ⟨0, Nat.zero_le _, rfl, by congr 1; simp [sizeL, flatL]; omega, Lib.hid (Below.refl _ _)⟩
      case round =>
        obtain ⟨j, hj, rfl, rfl, HB⟩ := hrel
        have a4 : wr.cell? ⟨w.heap.size, 4, none⟩ = some (.slice A k c) := cell_at ((HB.out.block _ (by have := HN.out; exact (Array.getElem?_eq_some_iff.1 this).1)).trans HN.out) 4
        by_cases hlt : j < k
        · obtain ⟨xe, hx⟩ : ∃ e, x[j]? = some e := ⟨_, List.getElem?_eq_getElem (by rw [HK.out]; exact hlt)⟩
          obtain ⟨b, o1, e1, _, hc⟩ := (HR.out.below (HB2.out.trans (HB.out.mono HB2.out.size))) (by rw [HK.out]; omega)
          subst e1
          obtain ⟨x0, x1, x2, x3, x4⟩ := exC_cells (hc j xe hx)
          have hst := cnt_take hx
          have CI := Lib.hid (fun (u : World) (hu : Below wr.heap.size wr u) => IH.out xe (min (n + 1 + sizeL (x.take j)) (t + 1)) u (List.mem_of_getElem? hx) (HB2.out.trans ((HB.out.trans (hu.mono HB.out.size)).mono HB2.out.size)) (by omega) (by omega))
          rw [exV_agg] at CI
          clear hc hx
          generalize size xe = z1 at *
          generalize hy2 : sizeL (x.take (j + 1)) = y2 at *
          generalize sizeL (x.take j) = y1 at *
          generalize hp : min (n + 1 + (y1 : Int)) (t + 1) = p at *
          go_wp2_with fail
          refine (CI.out wr (Below.refl _ _)).mono ?_
          rintro e w1 ⟨rfl, hb1⟩
          have HB5 := Lib.hid hb1
          clear hb1 CI x0 x1 x2 x3 x4 a4
          go_wp2_with fail
          go_roundw
          case rel => exact ⟨j + 1, by omega, by go_num, by rw [hy2, hst, ← hp]; congr 1; omega, Lib.hid (HB.out.trans (HB5.out.mono HB.out.size))⟩
          case measure => simp [intOf]; omega
        · obtain rfl : j = k := by omega
          clear hlt hj
          have hfin : min (n + 1 + (sizeL (x.take j) : Int)) (t + 1) = min (n + (z : Int)) (t + 1) := by
            rw [List.take_of_length_le (by rw [HK.out]; exact Nat.le_refl _)]
            omega
          rw [hfin]
          go_wp2_with fail
          go_ret
          exact ⟨rfl, HB2.out.trans (HB.out.mono HB2.out.size)⟩
end Go.Proofs.YtmihlmlojmdhjaaGreatDoor.Tre
/- The document's none: is an expression the zero one? Condition: the expression lies in memory. -/
namespace Go.Proofs.YtmihlmlojmdhjaaGreatDoor.Tre
open Go.RowKit
set_option maxRecDepth 100000
theorem cell_new (w : World) (cs : Array Value) (T : TypeId) : Below w.heap.size w (w.alloc (.cells cs T)) := (Below.refl _ w).alloc (Nat.le_refl _) _
set_option maxHeartbeats 4000000 in
theorem none9_any (e : Ex) (w : World) (hl : e.x.length ≤ most) : Calls Tryz.prog 40 #[exV e] w (EndsB (.bool (zeroX e)) w) := by
  unfold zeroX most at *
  rw [exV_agg]
  have HB := Lib.hid (cell_new w #[.int .i64 e.op, .int .i64 e.n, .string e.s, .string e.q, .slice e.a e.x.length e.c] 42)
  generalize e.x.length = k at *
  rcases Bool.eq_false_or_eq_true (e.op == 0) with h1 | h1
  · rcases Bool.eq_false_or_eq_true (e.n == 0) with h2 | h2
    · rcases Bool.eq_false_or_eq_true (e.s.toList == []) with h3 | h3
      · rcases Bool.eq_false_or_eq_true (e.q.toList == []) with h4 | h4
        · rcases Bool.eq_false_or_eq_true (k == 0) with h5 | h5
          · obtain rfl : k = 0 := by simpa using h5
            go_enter Tryz.func40, Tryz.ntmps40
            go_wp2_with fail
            go_ret
            exact ends_bool (by simp [*]) HB.out
          · have h6 : ((k : Int) == 0) = false := by simp at h5 ⊢; omega
            go_enter Tryz.func40, Tryz.ntmps40
            go_wp2_with fail
            go_ret
            exact ends_bool (by simp [*]) HB.out
        · go_enter Tryz.func40, Tryz.ntmps40
          go_wp2_with fail
          go_ret
          exact ends_bool (by simp [*]) HB.out
      · go_enter Tryz.func40, Tryz.ntmps40
        go_wp2_with fail
        go_ret
        exact ends_bool (by simp [*]) HB.out
    · go_enter Tryz.func40, Tryz.ntmps40
      go_wp2_with fail
      go_ret
      exact ends_bool (by simp [*]) HB.out
  · go_enter Tryz.func40, Tryz.ntmps40
    go_wp2_with fail
    go_ret
    exact ends_bool (by simp [*]) HB.out
end Go.Proofs.YtmihlmlojmdhjaaGreatDoor.Tre
