/-
  The program's list of expressions in brackets. Conditions: the reader is known; an expression is told as the plain grammar says.
-/
import Derived.Test.YtlhbhpdpjidpgaaGreatDoorZ23
import Derived.Test.YtlhbhpdpjidpgaaGreatDoorZ25
namespace Go.Proofs.YtlhbhpdpjidpgaaGreatDoor.Prg
open Go.RowKit Tre Prs
open Lex (Wd wdC wdV bs str Turn)
set_option maxRecDepth 100000
set_option linter.unusedSimpArgs false
variable {lo : Nat}
/-- A list's own memory. -/
structure HeldL (w wr : World) (g : Nat) (xs : List Ex) (A : Option Addr) (c : Nat) : Prop where
  own : OwnG 5 exC 36 wr w.heap.size (.slice A xs.length c) xs
  ein : ∀ x ∈ xs, ExIn wr x
  new : ∀ x ∈ xs, New w.heap.size x
  off : ∀ x ∈ xs, ∀ b, (Value.slice A xs.length c).ownBlock = some b → Off [b] x
  turn : Turn [g] w wr
  g : g < w.heap.size
theorem HeldL.turned {w wr wr' : World} {g : Nat} {xs : List Ex} {A : Option Addr} {c : Nat} (h : HeldL w wr g xs A c) (ht : Turn [g] wr wr') : HeldL w wr' g xs A c := by
  have hg := h.g
  exact ⟨h.own.keep fun b hb => ht.block b (h.own.lt b hb).2 (by have := (h.own.lt b hb).1; simp; omega), fun x hx => ExIn.off (h.ein x hx) (New.off (h.new x hx) (fun b hb => by simp at hb; omega)) ht, h.new, h.off, h.turn.trans ht, hg⟩
theorem HeldL.below {w wr wr' : World} {g : Nat} {xs : List Ex} {A : Option Addr} {c : Nat} (h : HeldL w wr g xs A c) (hb : Below wr.heap.size wr wr') : HeldL w wr' g xs A c :=
  h.turned ((Turn.refl [g] wr).below hb)
theorem HeldL.nil (w : World) (g : Nat) (hg : g < w.heap.size) : HeldL w w g [] none 0 := ⟨OwnG.nil _ _, fun x hx => by simp at hx, fun x hx => by simp at hx, fun x hx => by simp at hx, Turn.refl [g] w, hg⟩
/-- One expression more. -/
theorem HeldL.more {w u1 u2 : World} {g c c2 b0 : Nat} {xs : List Ex} {A A2 : Option Addr} {y : Ex} (h : HeldL w u1 g xs A c) (hy : ExIn u1 y) (ny : New b0 y) (hb : ∀ b, (Value.slice A xs.length c).ownBlock = some b → b < b0) (h0 : w.heap.size ≤ b0)
    (how : OwnG 5 exC 36 u2 w.heap.size (.slice A2 (xs ++ [y]).length c2) (xs ++ [y])) (hgr : u1.grownBy u2 (Value.slice A xs.length c).ownBlock) (hbo : (Value.slice A2 (xs ++ [y]).length c2).ownBlock = (Value.slice A xs.length c).ownBlock ∨ (Value.slice A2 (xs ++ [y]).length c2).ownBlock = some u1.heap.size) :
    HeldL w u2 g (xs ++ [y]) A2 c2 := by
  have hg := h.g
  have T2 : Turn (Value.slice A xs.length c).ownBlock.toList u1 u2 := (Turn.refl _ u1).grown hgr (fun k hk => .inl (by simp [hk]))
  have hlo : ∀ b ∈ (Value.slice A xs.length c).ownBlock.toList, w.heap.size ≤ b ∧ b < u1.heap.size := fun b hb => h.own.lt b (by simpa using hb)
  have hoff : ∀ x ∈ xs ++ [y], ∀ b, (Value.slice A xs.length c).ownBlock = some b → Off [b] x := fun x hx b e => by
    rcases List.mem_append.1 hx with hx | hx
    · exact h.off x hx b e
    · obtain rfl : x = y := by simpa using hx
      exact ny.off (fun k hk => by simp at hk; subst hk; exact hb _ e)
  have hin : ∀ x ∈ xs ++ [y], ExIn u1 x := fun x hx => by
    rcases List.mem_append.1 hx with hx | hx
    · exact h.ein x hx
    · obtain rfl : x = y := by simpa using hx
      exact hy
  have hoffL : ∀ x ∈ xs ++ [y], Off (Value.slice A xs.length c).ownBlock.toList x := fun x hx => by
    cases ho : (Value.slice A xs.length c).ownBlock with
    | none => exact fun y hy _ b o _ hm => by simp at hm
    | some b => exact hoff x hx b ho
  refine ⟨how, fun x hx => ExIn.off (hin x hx) (hoffL x hx) T2, fun x hx => ?_, fun x hx b e => ?_, h.turn.then_ T2 (fun k hk => .inr (hlo k hk).1), hg⟩
  · rcases List.mem_append.1 hx with hx | hx
    · exact h.new x hx
    · obtain rfl : x = y := by simpa using hx
      exact ny.mono h0
  · rcases hbo with e2 | e2
    · exact hoff x hx b (e2.symm.trans e)
    · rw [e2] at e
      injection e with e
      subst e
      exact ExIn.fresh (hin x hx)
/-- An expression that was told behind a list, appended. -/
theorem HeldL.push {w v1 v2 : World} {g c : Nat} {xs : List Ex} {A : Option Addr} {y : Ex} {r' : PS} (hh : HeldL w v1 g xs A c) (hy2 : ExIn v2 y) (hy3 : New v1.heap.size y) (ht : Turn [g] v1 v2) (hl : xs.length ≤ 1000000) (hlo : lo ≤ w.heap.size) (hr : InG lo v2 g r') :
    ∃ A2 c2 u2, (∀ ty, (Builtin.append_ #[34, 34] ty #[.slice A xs.length c, .slice (some ⟨v2.heap.size, 0, none⟩) 1 1]).run Tryz.prog (v2.alloc (.cells #[.int .i64 y.op, .int .i64 y.n, .string y.s, .string y.q, .slice y.a y.x.length y.c] 36)) = .ok (.slice A2 (xs ++ [y]).length c2) u2) ∧ HeldL w u2 g (xs ++ [y]) A2 c2 ∧ InG lo u2 g r' := by
  have hb3 := ball_new v2 #[.int .i64 y.op, .int .i64 y.n, .string y.s, .string y.q, .slice y.a y.x.length y.c] 36
  have hn3 := new_at v2 #[.int .i64 y.op, .int .i64 y.n, .string y.s, .string y.q, .slice y.a y.x.length y.c] 36
  have hh2 := hh.turned ht
  have hh3 := hh2.below hb3
  obtain ⟨vv, u2, hap, how, hgr, hbo⟩ := app_ex _ w.heap.size (.slice A xs.length c) xs y v2.heap.size hh3.own hn3 hl hh3.turn.size
  obtain ⟨A2, c2, rfl, -⟩ := how.form
  have T2 : Turn (Value.slice A xs.length c).ownBlock.toList (v2.alloc (.cells #[.int .i64 y.op, .int .i64 y.n, .string y.s, .string y.q, .slice y.a y.x.length y.c] 36)) u2 := (Turn.refl _ _).grown hgr (fun k hk => .inl (by simp [hk]))
  exact ⟨A2, c2, u2, hap, hh3.more (Tre.ExIn.below hy2 hb3) hy3 (fun b hb => (hh.own.lt b hb).2) hh.turn.size how hgr hbo, (hr.below hb3).buts T2 (fun b hb => by have := (hh3.own.lt b (by simpa using hb)).1; omega)⟩
/-- How far the reader has to go. -/
def remG (w : World) (g : Nat) : Nat := match w.cell? ⟨g, 1, none⟩, w.cell? ⟨g, 0, none⟩ with
  | some (.bool false), some (.slice _ n _) => n + 1
  | _, _ => 0
theorem RdG.rem {w : World} {g : Nat} {r : PS} (h : RdG lo w g r) : remG w g = lenB r := by
  obtain ⟨a, c, h1, _⟩ := h.at_
  have c0 := cell_at h1 0
  have c1 := cell_at h1 1
  simp only [List.getElem?_toArray, List.getElem?_cons_succ, List.getElem?_cons_zero] at c0 c1
  unfold remG lenB
  rw [c0, c1]
  cases r.bad <;> rfl
theorem lenB_le {w : World} {g : Nat} {r : PS} (h : RdG lo w g r) : lenB r ≤ 100001 := by
  unfold lenB
  have := h.len
  split <;> omega
/-- What a call leaves that tells a list of expressions. -/
def EvL (lo : Nat) (w : World) (g : Nat) (r : PS) (e : Ending) (w' : World) : Prop := ∃ (A : Option Addr) (c : Nat) (xs : List Ex) (r' : PS), e = .returned (.slice A xs.length c) ∧ AgL r (xs.map core) r' ∧ Row 5 exC w' A xs ∧ xs.length ≤ 200000 ∧ xs.length ≤ c ∧ (∀ ad, A = some ad → w.heap.size ≤ ad.block) ∧ (∀ x ∈ xs, ExIn w' x) ∧ (∀ x ∈ xs, New w.heap.size x) ∧ RdG lo w' g r' ∧ Turn [g] w w'
theorem list_out {w w7 : World} {g : Nat} {xs : List Ex} {A : Option Addr} {c : Nat} {r r' : PS} (h : HeldL w w7 g xs A c) (hr : RdG lo w7 g r') (hx : xs.length ≤ 200000) (hp : AgL r (xs.map core) r') : EvL lo w g r (.returned (.slice A xs.length c)) w7 := by
  refine ⟨A, c, xs, r', rfl, hp, h.own.row exC_len, hx, ?_, fun ad e => ?_, h.ein, h.new, hr, h.turn⟩
  · obtain ⟨A', c', e, hc, -⟩ := h.own.form
    injection e with _ _ e
    omega
  · subst e
    exact (h.own.lt ad.block rfl).1
/-- What the loop knows. -/
structure LisAt (lo : Nat) (w wr : World) (g : Nat) (r r' : PS) (xs : List Ex) (A : Option Addr) (c : Nat) : Prop where
  rd : InG lo wr g r'
  held : HeldL w wr g xs A c
  told : AgI r (xs.map core) r'
  len : xs.length + lenB r' ≤ 100002
  le : lenB r' ≤ lenB r
set_option maxHeartbeats 8000000 in
theorem list_any (w : World) (g : Nat) (r : PS) (h : InG lo w g r) (CE : ∀ w' r', InG lo w' g r' → lenB r' ≤ lenB r → Hid (Calls Tryz.prog 30 #[.pointer (some ⟨g, 0, none⟩)] w' (EvG lo w' g (tell (.row 0) r')))) :
    Calls Tryz.prog 142 #[.pointer (some ⟨g, 0, none⟩), .func (.func 30) #[.pointer (some ⟨g, 0, none⟩)] #[]] w (EvL lo w g r) := by
  have HG := Lib.hid h.rd.lt
  have HLO := Lib.hid h.rd.wlo
  have HI := Lib.hid h
  have C0 := Lib.hid (must_any w g r [40] h.rd)
  have HCE := Lib.hid CE
  have HLM := Lib.hid (lenB_must r [40])
  have HLB := Lib.hid (lenB_le h.rd)
  clear h CE
  go_enter Tryz.func142, Tryz.ntmps142
  go_wp2_with fail
  refine C0.out.mono ?_
  rintro e w1 ⟨rfl, h1, h2⟩
  have H1 := Lib.hid (HI.out.step h2 h1)
  have H2 := Lib.hid h2
  have HH1 := Lib.hid ((HeldL.nil w g HG.out).turned h2)
  clear h1 h2 C0
  rcases Bool.eq_false_or_eq_true (isW (mustP r [40]) [41]) with hi | hi
  · have CH := Lib.hid (has_yes w1 g _ [41] H1.out.rd hi)
    have HO := Lib.hid (agl_none hi)
    clear hi
    go_wp2_with fail
    refine CH.out.mono ?_
    rintro e w2 ⟨rfl, h1, h2⟩
    have H3 := Lib.hid h1
    have HH2 := Lib.hid (HH1.out.turned h2)
    clear h1 h2
    go_wp2_with fail
    go_ret
    exact list_out HH2.out H3.out (by simp) HO.out
  · have CH := Lib.hid (has_no w1 g _ [41] H1.out.rd hi)
    have HNO := Lib.hid (fun t r' => agi_one (x := t) (r' := r') hi)
    clear hi
    go_wp2_with fail
    refine CH.out.mono ?_
    rintro e w2 ⟨rfl, h1, h2⟩
    have H3 := Lib.hid (H1.out.step h2 h1)
    have HH2 := Lib.hid (HH1.out.turned h2)
    have CX := HCE.out w2 _ H3.out HLM.out
    clear h1 h2 CH
    go_wp2_with fail
    refine CX.out.mono ?_
    rintro e v2 ⟨y, r3, rfl, hy1, hy2, hy3, hy4, hy5⟩
    rw [exV_eq]
    obtain ⟨A2, c2, u2, hap, hh, hin⟩ := HeldL.push HH2.out hy2 hy3 hy5 (by simp) HLO.out (H3.out.step hy5 hy4)
    have HAP := Lib.hid hap
    have START : Hid (LisAt lo w u2 g r r3 ([] ++ [y]) A2 c2) := Lib.hid ⟨hin, hh, HNO.out _ _ hy1, by
      have := ag_lenB hy1
      have := HLM.out
      have := HLB.out
      simp
      omega, by
      have := ag_lenB hy1
      have := HLM.out
      omega⟩
    clear hy1 hy2 hy3 hy4 hy5 hap hh hin CX HH1 HH2 H1 H2 H3 HNO HLM
    simp only [List.nil_append, List.length_cons, List.length_nil] at HAP START
    obtain ⟨ys, hys⟩ : ∃ ys, [y] = ys := ⟨_, rfl⟩
    have HYL : Hid (ys.length = 1) := Lib.hid (by rw [← hys]; rfl)
    rw [hys] at START
    clear hys
    go_wp2_with (at_builtin; refine wpList_appG 34 rfl (.tmp 11) (.tmp 14) rfl (.slice none 0 0) (.slice (some ⟨v2.heap.size, 0, none⟩) 1 1) _ rfl rfl HAP.out ?_)
    clear HAP
    go_loopw [5] (fun l wr => ∃ (r' : PS) (xs : List Ex) (A : Option Addr) (c : Nat), l = .slice A xs.length c ∧ Hid (LisAt lo w wr g r r' xs A c)) (fun _ wr => remG wr g)
    case atStart => exact ⟨r3, ys, A2, c2, by rw [HYL.out], START⟩
    case round =>
      clear START HYL
      obtain ⟨r', xs, A, c, rfl, HC⟩ := hrel
      have HM : Hid (remG wr g = lenB r') := Lib.hid HC.out.rd.rd.rem
      rcases Bool.eq_false_or_eq_true (isW r' [44]) with hi | hi
      · have CH := Lib.hid (has_yes wr g r' [44] HC.out.rd.rd hi)
        have HI2 := Lib.hid hi
        have HLT := Lib.hid (lenB_tl hi)
        clear hi
        go_wp2_with fail
        refine CH.out.mono ?_
        rintro e v1 ⟨rfl, h1, h2⟩
        have H3 := Lib.hid (HC.out.rd.step h2 h1)
        have HH2 := Lib.hid (HC.out.held.turned h2)
        have CX := HCE.out v1 _ H3.out (by have := HC.out.le; have := HLT.out; omega)
        clear h1 h2 CH
        go_wp2_with fail
        refine CX.out.mono ?_
        rintro e v2 ⟨y, r4, rfl, hy1, hy2, hy3, hy4, hy5⟩
        rw [exV_eq]
        obtain ⟨A4, c4, u4, hap, hh, hin⟩ := HeldL.push HH2.out hy2 hy3 hy5 (by have := HC.out.len; omega) HLO.out (H3.out.step hy5 hy4)
        have HAP := Lib.hid hap
        have HL4 := Lib.hid (ag_lenB hy1)
        have HN4 : Hid (LisAt lo w u4 g r r4 (xs ++ [y]) A4 c4) := Lib.hid ⟨hin, hh, by
          have := agi_more HC.out.told HI2.out hy1
          rw [List.map_append]
          exact this, by
          have := HL4.out
          have := HLT.out
          have := HC.out.len
          rw [List.length_append]
          simp
          omega, by
          have := HL4.out
          have := HLT.out
          have := HC.out.le
          omega⟩
        obtain ⟨n4, hn4⟩ : ∃ n, (xs ++ [y]).length = n := ⟨_, rfl⟩
        have HNL := Lib.hid hn4
        rw [hn4] at HAP
        clear hy1 hy2 hy3 hy4 hy5 hap hh hin CX HH2 H3 hn4
        go_wp2_with (at_builtin; refine wpList_appG 34 rfl (.tmp 18) (.tmp 21) rfl (.slice A xs.length c) (.slice (some ⟨v2.heap.size, 0, none⟩) 1 1) _ rfl rfl HAP.out ?_)
        go_roundw
        case rel => exact ⟨r4, xs ++ [y], A4, c4, by rw [HNL.out], HN4⟩
        case measure =>
          rw [HN4.out.rd.rd.rem, HM.out]
          have := HL4.out
          have := HLT.out
          omega
      · have CH := Lib.hid (has_no wr g r' [44] HC.out.rd.rd hi)
        have HO := Lib.hid (agl_end HC.out.told hi)
        clear hi
        go_wp2_with fail
        refine CH.out.mono ?_
        rintro e v1 ⟨rfl, h1, h2⟩
        have HH2 := Lib.hid (HC.out.held.turned h2)
        have CM := Lib.hid (must_any v1 g r' [41] h1)
        clear h1 h2 CH
        go_wp2_with fail
        refine CM.out.mono ?_
        rintro e v2 ⟨rfl, h1, h2⟩
        have H3 := Lib.hid h1
        have HH3 := Lib.hid (HH2.out.turned h2)
        clear h1 h2
        go_wp2_with fail
        go_ret
        exact list_out HH3.out H3.out (by have := HC.out.len; omega) HO.out
end Go.Proofs.YtlhbhpdpjidpgaaGreatDoor.Prg
/- The program's call; its values. Conditions: the reader is known; an expression is told as the plain grammar says. -/
namespace Go.Proofs.YtlhbhpdpjidpgaaGreatDoor.Prg
open Go.RowKit Tre Prs
open Lex (Wd wdC wdV bs str Turn)
set_option maxRecDepth 100000
set_option linter.unusedSimpArgs false
variable {lo : Nat}
theorem call_endG {w W w4 w5 w6 w7 : World} {g : Nat} {S Q : ByteArray} {A : Option Addr} {c : Nat} {xs : List Ex} {r3 : PS} {q : Tx × PS} (hlo : lo ≤ w.heap.size) (hg : g < w.heap.size) (hW : w.heap.size + 2 ≤ W.heap.size) (hrow : Row 5 exC w4 A xs) (hlen : xs.length ≤ 200000) (hcap : xs.length ≤ c) (hnew : ∀ ad, A = some ad → W.heap.size ≤ ad.block)
    (hin : ∀ x ∈ xs, ExIn w4 x) (hn : ∀ x ∈ xs, New W.heap.size x) (hS : S.size ≤ maxLen) (hQ : Q.size ≤ maxLen) (t0 : Turn [g] w W) (t1 : Turn [g] W w4) (t2 : Turn [w.heap.size + 1] w4 w5) (t3 : Turn [g] w5 w6) (t4 : Turn [w.heap.size] w6 w7) (hr : RdG lo w6 g r3) (hq : Ag q (.mk 4 0 S.data.toList Q.data.toList (xs.map core)) r3) :
    EvG lo w g q (.returned (.agg #[.int .i64 4, .int .i64 0, .string S, .string Q, .slice A xs.length c])) w7 := by
  have T : Turn [g, w.heap.size, w.heap.size + 1] w4 w7 := (((Turn.refl _ w4).then_ t2 (fun k hk => .inl (by simp at hk; simp [hk]))).then_ t3 (fun k hk => .inl (by simp at hk; simp [hk]))).then_ t4 (fun k hk => .inl (by simp at hk; simp [hk]))
  have hne : ∀ b, W.heap.size ≤ b → b ∉ [g, w.heap.size, w.heap.size + 1] := fun b hb => by simp; omega
  refine ⟨.mk 4 0 S Q A c xs, r3, rfl, by rw [core_eq]; exact hq, ExIn.mk ⟨Row.kept hrow T.size (fun b o e hlt => T.block b hlt (hne b (hnew _ e))), by show xs.length ≤ most; unfold most; omega, hcap, hS, hQ⟩ (fun x hx => ?_), fun y hy ad e => ?_, hr.but t4 hlo, ?_⟩
  · exact ExIn.off (hin x hx) (New.off (hn x hx) (fun k hk => by simp at hk; omega)) T
  · rw [flat_eq] at hy
    rcases List.mem_cons.1 hy with rfl | hy
    · have := hnew ad e
      omega
    · obtain ⟨x, hx, hy⟩ := List.mem_flatMap.1 hy
      have := hn x hx y hy ad e
      omega
  · exact (((t0.trans t1).then_ t2 (fun k hk => by simp at hk; subst hk; exact .inr (by omega))).trans t3).then_ t4 (fun k hk => by simp at hk; subst hk; exact .inr (Nat.le_refl _))
theorem two_new_at (w : World) (cs ds : Array Value) (T U : TypeId) : ((w.alloc (.cells cs T)).alloc (.cells ds U)).heap[w.heap.size]? = some (.cells cs T (0, 0)) ∧ ((w.alloc (.cells cs T)).alloc (.cells ds U)).heap[w.heap.size + 1]? = some (.cells ds U (0, 0)) := by
  have h1 := new_at w cs T
  have h2 := ball_new (w.alloc (.cells cs T)) ds U
  have h3 := new_at (w.alloc (.cells cs T)) ds U
  refine ⟨(h2.block _ (lt_of_heap h1)).trans h1, ?_⟩
  simpa using h3
theorem two_below (w : World) (cs ds : Array Value) (T U : TypeId) : Below w.heap.size w ((w.alloc (.cells cs T)).alloc (.cells ds U)) := by
  have h1 := ball_new w cs T
  exact h1.trans ((ball_new _ ds U).mono h1.size)
theorem len_eq (n m : Nat) (h : n = m) : (n : Int) = m := by rw [h]
set_option maxHeartbeats 8000000 in
theorem call_plain (w : World) (g : Nat) (r : PS) (s0 : List UInt8) (h : InG lo w g r) (hs0 : s0.length ≤ 1000000) (hi : isW r [46] = false) (CE : ∀ w' r', InG lo w' g r' → lenB r' ≤ lenB r → Hid (Calls Tryz.prog 30 #[.pointer (some ⟨g, 0, none⟩)] w' (EvG lo w' g (tell (.row 0) r')))) :
    Calls Tryz.prog 127 #[.pointer (some ⟨g, 0, none⟩), .string (bs s0)] w (EvG lo w g (tell (.call s0) r)) := by
  have HG := Lib.hid h.rd.lt
  have HLO := Lib.hid h.rd.wlo
  have HSS : Hid ((bs s0).size ≤ maxLen ∧ (bs s0).data.toList = s0) := Lib.hid ⟨by rw [Lex.bs_size]; unfold maxLen; omega, Lex.bs_data _⟩
  have HQ := fun (xs : List Tx) (r' : PS) (h' : AgL r xs r') => Lib.hid (ag_call (s0 := s0) hi h')
  have CH := Lib.hid (fun w' (h' : RdG lo w' g r) => has_no w' g r [46] h' hi)
  have HCE := Lib.hid CE
  have HB2 := Lib.hid (two_below w #[.int .i64 0, .int .i64 0, .string ⟨#[]⟩, .string ⟨#[]⟩, .slice none 0 0] #[.int .i64 4, .int .i64 0, .string (bs s0), .string ⟨#[]⟩, .slice none 0 0] 36 36)
  have HN2 := Lib.hid (two_new_at w #[.int .i64 0, .int .i64 0, .string ⟨#[]⟩, .string ⟨#[]⟩, .slice none 0 0] #[.int .i64 4, .int .i64 0, .string (bs s0), .string ⟨#[]⟩, .slice none 0 0] 36 36)
  have HI := Lib.hid (h.below HB2.out)
  have HSZ : Hid (((w.alloc (.cells #[.int .i64 0, .int .i64 0, .string ⟨#[]⟩, .string ⟨#[]⟩, .slice none 0 0] 36)).alloc (.cells #[.int .i64 4, .int .i64 0, .string (bs s0), .string ⟨#[]⟩, .slice none 0 0] 36)).heap.size = w.heap.size + 2) := Lib.hid (by simp)
  clear h CE hs0 hi
  obtain ⟨S, hS⟩ : ∃ S, bs s0 = S := ⟨_, rfl⟩
  rw [hS] at HSS HB2 HN2 HI HSZ ⊢
  clear hS
  go_enter Tryz.func127, Tryz.ntmps127
  go_wp2_with fail
  refine (CH.out _ HI.out.rd).mono ?_
  rintro e w1 ⟨rfl, h1, h2⟩
  have H1 := Lib.hid (HI.out.step h2 h1)
  have H2 := Lib.hid h2
  have HE1 : Hid (w1.heap[w.heap.size + 1]? = some (.cells #[.int .i64 4, .int .i64 0, .string S, .string ⟨#[]⟩, .slice none 0 0] 36 (0, 0))) := Lib.hid ((h2.block _ (lt_of_heap HN2.out.2) (by have := HG.out; simp; omega)).trans HN2.out.2)
  have HR1 : Hid (w1.heap[w.heap.size]? = some (.cells #[.int .i64 0, .int .i64 0, .string ⟨#[]⟩, .string ⟨#[]⟩, .slice none 0 0] 36 (0, 0))) := Lib.hid ((h2.block _ (lt_of_heap HN2.out.1) (by have := HG.out; simp; omega)).trans HN2.out.1)
  have T1 : Hid (Turn [g] w w1) := Lib.hid (((Turn.refl [g] w).below HB2.out).then_ h2 (fun k hk => .inl hk))
  have W1 : Hid (w.heap.size + 2 ≤ w1.heap.size) := Lib.hid (by have := h2.size; rw [HSZ.out] at this; exact this)
  clear h1 h2 HB2 HN2 HI HSZ H2 CH
  obtain ⟨W, hW⟩ : ∃ W, w1 = W := ⟨_, rfl⟩
  subst hW
  have H3 := Lib.hid H1.out
  have HE3 := Lib.hid HE1.out
  have HR3 := Lib.hid HR1.out
  have T3 := Lib.hid T1.out
  have W3 := Lib.hid W1.out
  have CL := Lib.hid (list_any w1 g _ H3.out (fun w' r' h' hl => HCE.out w' r' h' hl))
  clear H1 HE1 HR1 T1 W1 HCE
  go_wp2_with fail
  refine CL.out.mono ?_
  rintro e w4 ⟨A, c, xs, r4, rfl, ha, hrow, hlen, hcap, hnew, hin, hnn, hr4, ht4⟩
  have HQ4 := HQ _ _ ha
  have HROW := Lib.hid hrow
  have HLEN := Lib.hid hlen
  have HCAP := Lib.hid hcap
  have HNEW := Lib.hid hnew
  have HIN := Lib.hid hin
  have HNN := Lib.hid hnn
  have T4 := Lib.hid ht4
  have HE4 := Lib.hid ((ht4.block _ (lt_of_heap HE3.out) (by have := HG.out; simp; omega)).trans HE3.out)
  have HR4 := Lib.hid ((ht4.block _ (lt_of_heap HR3.out) (by have := HG.out; simp; omega)).trans HR3.out)
  have T5 : Hid (Turn [w.heap.size + 1] w4 (w4.setCell ⟨w.heap.size + 1, 4, none⟩ (.slice A xs.length c))) := Lib.hid ((Turn.refl _ w4).setCell (.inl (by simp)) _)
  have HE5 : Hid ((w4.setCell ⟨w.heap.size + 1, 4, none⟩ (.slice A xs.length c)).heap[w.heap.size + 1]? = some (.cells #[.int .i64 4, .int .i64 0, .string S, .string ⟨#[]⟩, .slice A xs.length c] 36 (0, 0))) := Lib.hid (set_at HE4.out 4 (.slice A xs.length c))
  have HR5 := Lib.hid ((T5.out.block _ (lt_of_heap HR4.out) (by simp)).trans HR4.out)
  have CB := Lib.hid (bound_any _ g r4 xs.length 255 255 rfl (hr4.but T5.out (by have := HLO.out; omega)))
  have fe4 := free_at HE4.out 4
  have e4 := cell_at HE4.out 4
  have q4 := cell_at HE5.out 4
  simp only [List.getElem?_toArray, List.getElem?_cons_succ, List.getElem?_cons_zero] at e4 q4
  have HX5 : Hid (xs.length ≤ 200000) := HLEN
  obtain ⟨n, hn⟩ : ∃ n, xs.length = n := ⟨_, rfl⟩
  have HNL := Lib.hid hn
  rw [hn] at CB HE5 HR5 T5 q4
  clear ha hrow hlen hcap hnew hin hnn hr4 ht4 HE3 HR3 HE4 HR4 CL HQ
  have hn2 : n ≤ 200000 := by have := HLEN.out; omega
  rw [hn]
  clear hn
  go_wp2_with fail
  refine CB.out.mono ?_
  rintro e w6 ⟨rfl, h1, h2⟩
  have H6 := Lib.hid h1
  have T6 := Lib.hid h2
  have HE6 := Lib.hid ((h2.block _ (lt_of_heap HE5.out) (by have := HG.out; simp; omega)).trans HE5.out)
  have HR6 := Lib.hid ((h2.block _ (lt_of_heap HR5.out) (by have := HG.out; simp; omega)).trans HR5.out)
  clear h1 h2 CB HE5 HR5 fe4 e4 q4
  obtain ⟨x0, x1, x2, x3, x4⟩ := five_at HE6.out
  obtain ⟨y0, y1, y2, y3, y4⟩ := five_at HR6.out
  have f0 := free_at HR6.out 0
  have f1 := free_at HR6.out 1
  have f2 := free_at HR6.out 2
  have f3 := free_at HR6.out 3
  have f4 := free_at HR6.out 4
  go_wp2_with fail
  have HT := Lib.hid (turn5 w6 w.heap.size (.int .i64 4) (.int .i64 0) (.string S) (.string ⟨#[]⟩) (.slice A n c))
  refine bodyPost_ret (results_expr rfl _ _ w.heap.size _ _ _ _ _ rfl (set5 HR6.out)) rfl ?_
  have hn := HNL.out
  subst hn
  exact call_endG HLO.out HG.out W3.out HROW.out HLEN.out HCAP.out HNEW.out HIN.out HNN.out HSS.out.1 (by show (⟨#[]⟩ : ByteArray).size ≤ maxLen; unfold maxLen; simp [ByteArray.size]) T3.out T4.out T5.out T6.out HT.out H6.out (by
    have := HQ4.out
    rw [List.length_map] at this
    rw [HSS.out.2]
    exact this)
set_option maxHeartbeats 8000000 in
theorem call_dot (w : World) (g : Nat) (r : PS) (s0 : List UInt8) (h : InG lo w g r) (hs0 : s0.length ≤ 1000000) (hi : isW r [46] = true) (CE : ∀ w' r', InG lo w' g r' → lenB r' ≤ lenB r → Hid (Calls Tryz.prog 30 #[.pointer (some ⟨g, 0, none⟩)] w' (EvG lo w' g (tell (.row 0) r')))) :
    Calls Tryz.prog 127 #[.pointer (some ⟨g, 0, none⟩), .string (bs s0)] w (EvG lo w g (tell (.call s0) r)) := by
  have HG := Lib.hid h.rd.lt
  have HLO := Lib.hid h.rd.wlo
  have HSS : Hid ((bs s0).size ≤ maxLen ∧ (bs s0).data.toList = s0) := Lib.hid ⟨by rw [Lex.bs_size]; unfold maxLen; omega, Lex.bs_data _⟩
  have HQ := fun (xs : List Tx) (r' : PS) (h' : AgL (takeR (tl r) [1]) xs r') => Lib.hid (ag_dot (s0 := s0) hi h')
  have HTZ := Lib.hid (fun w' (h' : RdG lo w' g (tl r)) => (takeS_size h' [1]).1)
  have HTD : Hid ((bs (takeW (tl r) [1]).s).data.toList = (takeW (tl r) [1]).s) := Lib.hid (Lex.bs_data _)
  have HLE := Lib.hid (lenB_tl_le r)
  have HLE2 := Lib.hid (lenB_take (tl r) [1])
  have CH := Lib.hid (fun w' (h' : RdG lo w' g r) => has_yes w' g r [46] h' hi)
  have HCE := Lib.hid CE
  have HB2 := Lib.hid (two_below w #[.int .i64 0, .int .i64 0, .string ⟨#[]⟩, .string ⟨#[]⟩, .slice none 0 0] #[.int .i64 4, .int .i64 0, .string (bs s0), .string ⟨#[]⟩, .slice none 0 0] 36 36)
  have HN2 := Lib.hid (two_new_at w #[.int .i64 0, .int .i64 0, .string ⟨#[]⟩, .string ⟨#[]⟩, .slice none 0 0] #[.int .i64 4, .int .i64 0, .string (bs s0), .string ⟨#[]⟩, .slice none 0 0] 36 36)
  have HI := Lib.hid (h.below HB2.out)
  have HSZ : Hid (((w.alloc (.cells #[.int .i64 0, .int .i64 0, .string ⟨#[]⟩, .string ⟨#[]⟩, .slice none 0 0] 36)).alloc (.cells #[.int .i64 4, .int .i64 0, .string (bs s0), .string ⟨#[]⟩, .slice none 0 0] 36)).heap.size = w.heap.size + 2) := Lib.hid (by simp)
  clear h CE hs0 hi
  obtain ⟨S, hS⟩ : ∃ S, bs s0 = S := ⟨_, rfl⟩
  rw [hS] at HSS HB2 HN2 HI HSZ ⊢
  clear hS
  go_enter Tryz.func127, Tryz.ntmps127
  go_wp2_with fail
  refine (CH.out _ HI.out.rd).mono ?_
  rintro e w1 ⟨rfl, h1, h2⟩
  have H1 := Lib.hid (HI.out.step h2 h1)
  have H2 := Lib.hid h2
  have HE1 : Hid (w1.heap[w.heap.size + 1]? = some (.cells #[.int .i64 4, .int .i64 0, .string S, .string ⟨#[]⟩, .slice none 0 0] 36 (0, 0))) := Lib.hid ((h2.block _ (lt_of_heap HN2.out.2) (by have := HG.out; simp; omega)).trans HN2.out.2)
  have HR1 : Hid (w1.heap[w.heap.size]? = some (.cells #[.int .i64 0, .int .i64 0, .string ⟨#[]⟩, .string ⟨#[]⟩, .slice none 0 0] 36 (0, 0))) := Lib.hid ((h2.block _ (lt_of_heap HN2.out.1) (by have := HG.out; simp; omega)).trans HN2.out.1)
  have T1 : Hid (Turn [g] w w1) := Lib.hid (((Turn.refl [g] w).below HB2.out).then_ h2 (fun k hk => .inl hk))
  have W1 : Hid (w.heap.size + 2 ≤ w1.heap.size) := Lib.hid (by have := h2.size; rw [HSZ.out] at this; exact this)
  clear h1 h2 HB2 HN2 HI HSZ H2 CH
  have CN := Lib.hid (name_any w1 g _ H1.out.rd)
  have HTZ1 := Lib.hid (HTZ.out w1 H1.out.rd)
  obtain ⟨T, hT⟩ : ∃ T, bs (takeW (tl r) [1]).s = T := ⟨_, rfl⟩
  rw [hT] at CN HTD HTZ1
  clear hT HTZ
  go_wp2_with fail
  refine CN.out.mono ?_
  rintro e w2 ⟨rfl, h1, h2⟩
  have H2 := Lib.hid (H1.out.step h2 h1)
  have HE2 := Lib.hid ((h2.block _ (lt_of_heap HE1.out) (by have := HG.out; simp; omega)).trans HE1.out)
  have HR2 := Lib.hid ((h2.block _ (lt_of_heap HR1.out) (by have := HG.out; simp; omega)).trans HR1.out)
  have T2 := Lib.hid (T1.out.trans h2)
  have W2 : Hid (w.heap.size + 2 ≤ w2.heap.size) := Lib.hid (by have := h2.size; have := W1.out; omega)
  clear h1 h2 CN H1 HE1 HR1 T1 W1
  obtain ⟨e0, e1, e2, e3, e4⟩ := five_at HE2.out
  have fe3 := free_at HE2.out 3
  have fe2 := free_at HE2.out 2
  obtain ⟨W, hW⟩ : ∃ W, (w2.setCell ⟨w.heap.size + 1, 3, none⟩ (.string S)).setCell ⟨w.heap.size + 1, 2, none⟩ (.string T) = W := ⟨_, rfl⟩
  have TW : Turn [w.heap.size + 1] w2 W := by rw [← hW]; exact ((Turn.refl _ w2).setCell (.inl (by simp)) _).setCell (.inl (by simp)) _
  have H3 : Hid (InG lo W g (takeR (tl r) [1])) := Lib.hid (H2.out.but TW (by have := HLO.out; omega))
  have HE3 : Hid (W.heap[w.heap.size + 1]? = some (.cells #[.int .i64 4, .int .i64 0, .string T, .string S, .slice none 0 0] 36 (0, 0))) := Lib.hid (by rw [← hW]; exact set_at (set_at HE2.out 3 (.string S)) 2 (.string T))
  have HR3 : Hid (W.heap[w.heap.size]? = some (.cells #[.int .i64 0, .int .i64 0, .string ⟨#[]⟩, .string ⟨#[]⟩, .slice none 0 0] 36 (0, 0))) := Lib.hid ((TW.block _ (lt_of_heap HR2.out) (by simp)).trans HR2.out)
  have T3 : Hid (Turn [g] w W) := Lib.hid (T2.out.then_ TW (fun k hk => by simp at hk; subst hk; exact .inr (by omega)))
  have W3 : Hid (w.heap.size + 2 ≤ W.heap.size) := Lib.hid (by have := TW.size; have := W2.out; omega)
  have CL := Lib.hid (list_any W g _ H3.out (fun w' r' h' hl => HCE.out w' r' h' (by have := HLE.out; have := HLE2.out; omega)))
  rw [← hW] at CL
  clear TW H2 HE2 HR2 T2 W2 HCE
  go_wp2_with fail
  rw [hW] at CL
  clear hW e0 e1 e2 e3 e4 fe3 fe2
  refine CL.out.mono ?_
  rintro e w4 ⟨A, c, xs, r4, rfl, ha, hrow, hlen, hcap, hnew, hin, hnn, hr4, ht4⟩
  have HQ4 := HQ _ _ ha
  have HROW := Lib.hid hrow
  have HLEN := Lib.hid hlen
  have HCAP := Lib.hid hcap
  have HNEW := Lib.hid hnew
  have HIN := Lib.hid hin
  have HNN := Lib.hid hnn
  have T4 := Lib.hid ht4
  have HE4 := Lib.hid ((ht4.block _ (lt_of_heap HE3.out) (by have := HG.out; simp; omega)).trans HE3.out)
  have HR4 := Lib.hid ((ht4.block _ (lt_of_heap HR3.out) (by have := HG.out; simp; omega)).trans HR3.out)
  have T5 : Hid (Turn [w.heap.size + 1] w4 (w4.setCell ⟨w.heap.size + 1, 4, none⟩ (.slice A xs.length c))) := Lib.hid ((Turn.refl _ w4).setCell (.inl (by simp)) _)
  have HE5 : Hid ((w4.setCell ⟨w.heap.size + 1, 4, none⟩ (.slice A xs.length c)).heap[w.heap.size + 1]? = some (.cells #[.int .i64 4, .int .i64 0, .string T, .string S, .slice A xs.length c] 36 (0, 0))) := Lib.hid (set_at HE4.out 4 (.slice A xs.length c))
  have HR5 := Lib.hid ((T5.out.block _ (lt_of_heap HR4.out) (by simp)).trans HR4.out)
  have CB := Lib.hid (bound_any _ g r4 xs.length 255 255 rfl (hr4.but T5.out (by have := HLO.out; omega)))
  have fe4 := free_at HE4.out 4
  have e4 := cell_at HE4.out 4
  have q4 := cell_at HE5.out 4
  simp only [List.getElem?_toArray, List.getElem?_cons_succ, List.getElem?_cons_zero] at e4 q4
  have HX5 : Hid (xs.length ≤ 200000) := HLEN
  obtain ⟨n, hn⟩ : ∃ n, xs.length = n := ⟨_, rfl⟩
  have HNL := Lib.hid hn
  rw [hn] at CB HE5 HR5 T5 q4
  clear ha hrow hlen hcap hnew hin hnn hr4 ht4 HE3 HR3 HE4 HR4 CL HQ
  have hn2 : n ≤ 200000 := by have := HLEN.out; omega
  rw [hn]
  clear hn
  go_wp2_with fail
  refine CB.out.mono ?_
  rintro e w6 ⟨rfl, h1, h2⟩
  have H6 := Lib.hid h1
  have T6 := Lib.hid h2
  have HE6 := Lib.hid ((h2.block _ (lt_of_heap HE5.out) (by have := HG.out; simp; omega)).trans HE5.out)
  have HR6 := Lib.hid ((h2.block _ (lt_of_heap HR5.out) (by have := HG.out; simp; omega)).trans HR5.out)
  clear h1 h2 CB HE5 HR5 fe4 e4 q4
  obtain ⟨x0, x1, x2, x3, x4⟩ := five_at HE6.out
  obtain ⟨y0, y1, y2, y3, y4⟩ := five_at HR6.out
  have f0 := free_at HR6.out 0
  have f1 := free_at HR6.out 1
  have f2 := free_at HR6.out 2
  have f3 := free_at HR6.out 3
  have f4 := free_at HR6.out 4
  go_wp2_with fail
  have HT := Lib.hid (turn5 w6 w.heap.size (.int .i64 4) (.int .i64 0) (.string T) (.string S) (.slice A n c))
  refine bodyPost_ret (results_expr rfl _ _ w.heap.size _ _ _ _ _ rfl (set5 HR6.out)) rfl ?_
  have hn := HNL.out
  subst hn
  exact call_endG HLO.out HG.out W3.out HROW.out HLEN.out HCAP.out HNEW.out HIN.out HNN.out HTZ1.out HSS.out.1 T3.out T4.out T5.out T6.out HT.out H6.out (by
    have := HQ4.out
    rw [List.length_map] at this
    rw [HTD.out, HSS.out.2]
    exact this)
end Go.Proofs.YtlhbhpdpjidpgaaGreatDoor.Prg
