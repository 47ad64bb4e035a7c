/-
  The document's call: a call's name and its arguments. Conditions: the reader is known; the row of the first level does as the plain grammar says.
-/
import Derived.Test.YtlhbhpdpjidpgaaGreatDoorX17
namespace Go.Proofs.YtlhbhpdpjidpgaaGreatDoor.Prs
open Go.RowKit Tre
open Lex (Wd wdC wdV bs str Turn info_of)
set_option maxRecDepth 100000
set_option linter.unusedSimpArgs false
variable {lo : Nat}
theorem infoX : (Tryz.prog.info? 36).map (fun i => (i.zero, i.size, i.bytes)) = some (some (.agg #[.int .i64 0, .int .i64 0, .string ⟨#[]⟩, .string ⟨#[]⟩, .slice none 0 0]), 5, 72) := by kernel_rfl
theorem exC_arr (x : Ex) : (exC x).toArray = #[.int .i64 x.op, .int .i64 x.n, .string x.s, .string x.q, .slice x.a x.x.length x.c] := by
  cases x
  rfl
theorem exC_one (x : Ex) : ∀ u ∈ exC x, u.oneCell' = true := by
  obtain ⟨o, n, s, q, a, c, x⟩ := x
  intro u hu
  simp only [exC, List.mem_cons, List.not_mem_nil, or_false] at hu
  rcases hu with rfl | rfl | rfl | rfl | rfl <;> rfl
theorem app_ex (w : World) (b0 : Nat) (v : Value) (l : List Ex) (x : Ex) (eb : Nat) (h : OwnG 5 exC 36 w b0 v l) (he : w.heap[eb]? = some (.cells #[.int .i64 x.op, .int .i64 x.n, .string x.s, .string x.q, .slice x.a x.x.length x.c] 36 (0, 0))) (hl : l.length ≤ 1000000) (hlo : b0 ≤ w.heap.size) :
    ∃ v2 w2, (∀ ty, (Builtin.append_ #[34, 34] ty #[v, .slice (some ⟨eb, 0, none⟩) 1 1]).run Tryz.prog w = .ok v2 w2) ∧ OwnG 5 exC 36 w2 b0 v2 (l ++ [x]) ∧ w.grownBy w2 v.ownBlock ∧ (v2.ownBlock = v.ownBlock ∨ v2.ownBlock = some w.heap.size) := by
  obtain ⟨i0, hi0, hz0, hz1, hz2⟩ := info_of infoX
  exact OwnG.app Tryz.underlying34 hi0 hz0 hz1 hz2 rfl (by decide) exC_len exC_one w v l x eb h (by rw [exC_arr]; exact he) hl (by decide) hlo
theorem at_appX {ops : Array Oper} {Q : Exit → Act → World → Prop} {md : Region.Mode} {S : World → Prop} {nn fuel : Nat} {listed : Array Bool} {a : Act} {w : World} {oi : Oper} (i d : Nat) (v2 : Value) (w' : World) (hi : ops[i]? = some oi) (hd : oi.dst = some d) (hr : Region.ready md ops listed = [i]) (hin : i < nn) (hw : Region.wanted oi (yielded ops a.tmps) = true) (s x : Operand)
    (ho : oi.op = .call { callee := .builtin .append, args := #[s, x], argTypes := #[34, 34] }) (v u : Value) (hs : a.eval s = v) (hx : a.eval x = u) (hrun : ∀ ty, (Builtin.append_ #[34, 34] ty #[v, u]).run Tryz.prog w = .ok v2 w') (hS : S w')
    (h : Lex.AtS Tryz.prog md ops Q S nn fuel (listed.setIfInBounds i true) (a.put (some d) v2) w') : Lex.AtS Tryz.prog md ops Q S nn (fuel + 1) listed a w := by
  refine Lex.at_run i d v2 w' hi hd hr hin hw ?_ hS h
  unfold execOp
  simp only [ho, resolve, invoke, builtin, Sem.run_bind, Sem.run_pure, Result.andThen_ok, List.map_toArray, List.map_cons, List.map_nil, hs, hx, hrun]
/-- The call's own memory. -/
structure Held (w wr : World) (g : Nat) (s q : ByteArray) (xs : List Ex) (A : Option Addr) (c : Nat) : Prop where
  own : OwnG 5 exC 36 wr (w.heap.size + 2) (.slice A xs.length c) xs
  ein : ∀ x ∈ xs, ExIn wr x
  new : ∀ x ∈ xs, New (w.heap.size + 2) x
  off : ∀ x ∈ xs, ∀ b, (Value.slice A xs.length c).ownBlock = some b → Off [b] x
  ate : wr.heap[w.heap.size + 1]? = some (.cells #[.int .i64 4, .int .i64 0, .string s, .string q, .slice A xs.length c] 36 (0, 0))
  res : wr.heap[w.heap.size]? = some (.cells #[.int .i64 0, .int .i64 0, .string ⟨#[]⟩, .string ⟨#[]⟩, .slice none 0 0] 36 (0, 0))
  turn : Turn [g] w wr
  g : g < w.heap.size
theorem Held.turned {w wr wr' : World} {g : Nat} {s q : ByteArray} {xs : List Ex} {A : Option Addr} {c : Nat} (h : Held w wr g s q xs A c) (ht : Turn [g] wr wr') : Held w wr' g s q xs A c := by
  have hg := h.g
  refine ⟨h.own.keep fun b hb => ht.block b (h.own.lt b hb).2 (by have := (h.own.lt b hb).1; simp; omega), fun x hx => ExIn.off (h.ein x hx) (New.off (h.new x hx) (fun b hb => by simp at hb; omega)) ht, h.new, h.off, (ht.block _ (lt_of_heap h.ate) (by simp; omega)).trans h.ate, (ht.block _ (lt_of_heap h.res) (by simp; omega)).trans h.res, h.turn.trans ht, hg⟩
theorem Held.below {w wr wr' : World} {g : Nat} {s q : ByteArray} {xs : List Ex} {A : Option Addr} {c : Nat} (h : Held w wr g s q xs A c) (hb : Below wr.heap.size wr wr') : Held w wr' g s q xs A c :=
  h.turned ((Turn.refl [g] wr).below hb)
/-- What a loop over the arguments knows. -/
structure CallAt (lo : Nat) (w wr : World) (g : Nat) (s q : ByteArray) (ss qs s0 : List UInt8) (r r' : PS) (xs : List Ex) (A : Option Addr) (c : Nat) : Prop where
  rd : RdM lo wr g r'
  held : Held w wr g s q xs A c
  told : tell (.call s0) r = tell (.args qs ss (xs.map core)) r'
  len : xs.length + lenR r' ≤ 100000
  lt : r'.bad = false → lenR r' < lenR r
theorem RdM.buts {w w' : World} {g : Nat} {S : List Nat} {r : PS} (h : RdM lo w g r) (ht : Turn S w w') (hb : ∀ b ∈ S, lo ≤ b) : RdM lo w' g r := by
  obtain ⟨a, c, h1, h2, h3, h4⟩ := h.at_
  have hg := h.glo
  have hn : ∀ b, b < lo → b ∉ S := fun b hb2 hm => by have := hb b hm; omega
  exact ⟨⟨a, c, (ht.block g (lt_of_heap h1) (hn g hg)).trans h1, h2, Row.kept h3 ht.size (fun b' o e hlt => ht.block b' hlt (hn b' (h4 b' o e).2)), h4⟩, h.len, h.glo, Nat.le_trans h.wlo ht.size, h.txt⟩
/-- One argument more. -/
theorem Held.more {w u1 u2 : World} {g c c2 b0 : Nat} {s q : ByteArray} {xs : List Ex} {A A2 : Option Addr} {y : Ex} (h : Held w u1 g s q xs A c) (hy : ExIn u1 y) (ny : New b0 y) (hb : ∀ b, (Value.slice A xs.length c).ownBlock = some b → b < b0) (h0 : w.heap.size + 2 ≤ b0)
    (how : OwnG 5 exC 36 u2 (w.heap.size + 2) (.slice A2 (xs ++ [y]).length c2) (xs ++ [y])) (hgr : u1.grownBy u2 (Value.slice A xs.length c).ownBlock) (hbo : (Value.slice A2 (xs ++ [y]).length c2).ownBlock = (Value.slice A xs.length c).ownBlock ∨ (Value.slice A2 (xs ++ [y]).length c2).ownBlock = some u1.heap.size) :
    Held w (u2.setCell ⟨w.heap.size + 1, 4, none⟩ (.slice A2 (xs ++ [y]).length c2)) g s q (xs ++ [y]) A2 c2 := by
  have hg := h.g
  have hlt := lt_of_heap h.ate
  have T2 : Turn (Value.slice A xs.length c).ownBlock.toList u1 u2 := (Turn.refl _ u1).grown hgr (fun k hk => .inl (by simp [hk]))
  have T3 : Turn [w.heap.size + 1] u2 (u2.setCell ⟨w.heap.size + 1, 4, none⟩ (.slice A2 (xs ++ [y]).length c2)) := (Turn.refl _ u2).setCell (.inl (by simp)) _
  have hlo : ∀ b ∈ (Value.slice A xs.length c).ownBlock.toList, w.heap.size + 2 ≤ b ∧ b < u1.heap.size := fun b hb => h.own.lt b (by simpa using hb)
  have hnew : ∀ x ∈ xs ++ [y], New (w.heap.size + 2) x := fun x hx => by
    rcases List.mem_append.1 hx with hx | hx
    · exact h.new x hx
    · obtain rfl : x = y := by simpa using hx
      exact ny.mono h0
  have hoff : ∀ x ∈ xs ++ [y], ∀ b, (Value.slice A xs.length c).ownBlock = some b → Off [b] x := fun x hx b e => by
    rcases List.mem_append.1 hx with hx | hx
    · exact h.off x hx b e
    · obtain rfl : x = y := by simpa using hx
      exact ny.off (fun k hk => by simp at hk; subst hk; exact hb _ e)
  have hin : ∀ x ∈ xs ++ [y], ExIn u1 x := fun x hx => by
    rcases List.mem_append.1 hx with hx | hx
    · exact h.ein x hx
    · obtain rfl : x = y := by simpa using hx
      exact hy
  refine ⟨how.keep fun b hb => Below.heap_setCell u2 _ _ b (by have := (how.lt b hb).1; simp; omega), fun x hx => ExIn.off (ExIn.off (hin x hx) (fun z hz hz0 b o e hm => ?_) T2) (New.off (hnew x hx) (fun b hb => by simp at hb; omega)) T3, hnew, fun x hx b e => ?_, ?_, ?_, ?_, hg⟩
  · have hm : (Value.slice A xs.length c).ownBlock = some b := by simpa using hm
    exact hoff x hx b hm z hz hz0 b o e (by simp)
  · rcases hbo with e2 | e2
    · exact hoff x hx b (e2.symm.trans e)
    · rw [e2] at e
      injection e with e
      subst e
      exact ExIn.fresh (hin x hx)
  · exact set_at ((T2.block _ hlt (fun hm => by have := (hlo _ hm).1; omega)).trans h.ate) 4 _
  · have r2 := (T2.block _ (lt_of_heap h.res) (fun hm => by have := (hlo _ hm).1; omega)).trans h.res
    exact (T3.block _ (lt_of_heap r2) (by simp)).trans r2
  · exact (h.turn.then_ T2 (fun k hk => .inr (by have := (hlo k hk).1; omega))).then_ T3 (fun k hk => by simp at hk; exact .inr (by omega))
theorem big_eq (n : Nat) : decide ((255 : Int) < (n : Int)) = decide (255 < n) := decide_eq_decide.2 (by omega)
theorem mustW_lt {r : PS} {s : List UInt8} (h : (mustW r s).bad = false) : lenR (mustW r s) < lenR r := by
  unfold mustW at h ⊢
  by_cases hi : isW r s = true
  · rw [if_pos hi] at h ⊢
    have := lenR_pos hi
    rw [lenR_tl]
    omega
  · rw [if_neg hi] at h
    cases h
theorem RdM.bigged {w : World} {g : Nat} {r : PS} (h : RdM lo w g r) (B : Bool) : RdM lo (w.setCell ⟨g, 2, none⟩ (.bool B)) g ⟨r.l, r.bad, B⟩ := by
  obtain ⟨a, c, h1, h2, h3, h4⟩ := h.at_
  exact RdM.set h1 h ⟨r.l, r.bad, B⟩ a c 2 _ rfl h2 h3 h4 (Nat.le_refl _) (fun x hx => hx)
theorem lenR_le {w : World} {g : Nat} {r : PS} (h : RdM lo w g r) : lenR r ≤ 100000 := by
  have := h.len
  unfold lenR
  split <;> omega
theorem told_end {s0 ss qs : List UInt8} {r r' : PS} {xs : List Tx} (h : tell (.call s0) r = tell (.args qs ss xs) r') (hb : (r'.bad || isW r' [41]) = true) : tell (.call s0) r = callEnd qs ss xs r' := by
  rw [h, tell_args, if_pos hb]
theorem told_last {s0 ss qs : List UInt8} {r r' : PS} {xs : List Tx} (h : tell (.call s0) r = tell (.args qs ss xs) r') (hb : r'.bad = false) (hi : isW r' [41] = false) (hc : isW (tell (.row 0) r').2 [44] = false) : tell (.call s0) r = callEnd qs ss (xs ++ [(tell (.row 0) r').1]) (tell (.row 0) r').2 := by
  rw [h, tell_args, if_neg (by simp [hb, hi]), if_neg (by simp [hc])]
theorem told_more {s0 ss qs : List UInt8} {r r' : PS} {xs : List Tx} (h : tell (.call s0) r = tell (.args qs ss xs) r') (hb : r'.bad = false) (hi : isW r' [41] = false) (hc : isW (tell (.row 0) r').2 [44] = true) (hd : isW (tl (tell (.row 0) r').2) [41] = false) :
    tell (.call s0) r = tell (.args qs ss (xs ++ [(tell (.row 0) r').1])) (tl (tell (.row 0) r').2) := by
  rw [h, tell_args, if_neg (by simp [hb, hi]), if_pos hc, if_neg (by simp [hd])]
theorem told_bad {s0 ss qs : List UInt8} {r r' : PS} {xs : List Tx} (h : tell (.call s0) r = tell (.args qs ss xs) r') (hb : r'.bad = false) (hi : isW r' [41] = false) (hc : isW (tell (.row 0) r').2 [44] = true) (hd : isW (tl (tell (.row 0) r').2) [41] = true) :
    tell (.call s0) r = tell (.args qs ss (xs ++ [(tell (.row 0) r').1])) (badR (tl (tell (.row 0) r').2)) := by
  rw [h, tell_args, if_neg (by simp [hb, hi]), if_pos hc, if_pos hd, tell_args, if_pos (by simp [badR])]
/-- The end of a call. -/
theorem call_end {w w6 w7 w8 : World} {g : Nat} {s q : ByteArray} {ss qs : List UInt8} {xs : List Ex} {A : Option Addr} {c : Nat} {r6 : PS} {p : Tx × PS} (hlo : lo ≤ w.heap.size) (hx : xs.length ≤ 200000) (hs : s.data.toList = ss) (hq : q.data.toList = qs) (hs1 : s.size ≤ maxLen) (hq1 : q.size ≤ maxLen)
    (hh : Held w w6 g s q xs A c) (h7 : Turn [g] w6 w7) (hr : RdM lo w7 g r6) (h8 : Turn [w.heap.size] w7 w8) (hp : p = (.mk 4 0 ss qs (xs.map core), r6)) :
    Ev lo w g p (.returned (.agg #[.int .i64 4, .int .i64 0, .string s, .string q, .slice A xs.length c])) w8 := by
  subst hp
  have h := hh.turned h7
  have hg := h.g
  have e8 : ∀ b o, w7.heap[b]? = some o → w.heap.size < b → w8.heap[b]? = some o := fun b o hb hl => (h8.block b (lt_of_heap hb) (by simp; omega)).trans hb
  obtain ⟨A', c', e, hc, -⟩ := h.own.form
  injection e with e1 e2 e3
  subst e1; subst e3
  have own8 : OwnG 5 exC 36 w8 (w.heap.size + 2) (.slice A xs.length c) xs := h.own.keep fun b hb => h8.block b (h.own.lt b hb).2 (by have := (h.own.lt b hb).1; simp; omega)
  refine ⟨.mk 4 0 s q A c xs, rfl, ?_, ExIn.mk ⟨own8.row exC_len, ?_, hc, hs1, hq1⟩ (fun x hx => ?_), fun y hy ad e => ?_, hr.but h8 hlo, (h.turn).then_ h8 (fun k hk => by simp at hk; subst hk; exact .inr (Nat.le_refl _))⟩
  · rw [core_eq]
    show Tx.mk 4 0 s.data.toList q.data.toList _ = _
    rw [hs, hq]
    rfl
  · show xs.length ≤ most
    unfold most
    omega
  · exact ExIn.off (h.ein x hx) (New.off (h.new x hx) (fun b hb => by simp at hb; omega)) h8
  · rw [flat_eq] at hy
    rcases List.mem_cons.1 hy with rfl | hy
    · subst e
      have := (h.own.lt ad.block rfl).1
      omega
    · obtain ⟨x, hx, hyx⟩ := List.mem_flatMap.1 hy
      have := h.new x hx y hyx ad e
      omega
set_option maxHeartbeats 4000000 in
theorem call_plain (w : World) (g : Nat) (r : PS) (s0 : List UInt8) (h : RdM lo w g r) (hs0 : s0.length ≤ 1000000) (hi : isW r [46] = false)
    (CR : ∀ w' r', RdM lo w' g r' → lenR r' < lenR r → Hid (Calls Tryz.prog 32 #[.pointer (some ⟨g, 0, none⟩), .int .i64 0] w' (Ev lo w' g (tell (.row 0) r')))) :
    Calls Tryz.prog 93 #[.pointer (some ⟨g, 0, none⟩), .string (bs s0)] w (Ev lo w g (tell (.call s0) r)) := by
  have hb := ball_new w #[.int .i64 0, .int .i64 0, .string ⟨#[]⟩, .string ⟨#[]⟩, .slice none 0 0] 36
  have HN := Lib.hid (new_at w #[.int .i64 0, .int .i64 0, .string ⟨#[]⟩, .string ⟨#[]⟩, .slice none 0 0] 36)
  have HG := Lib.hid h.lt
  have HB := Lib.hid hb
  have HLO := Lib.hid h.wlo
  have HGL := Lib.hid h.glo
  have HRL := Lib.hid h.len
  have HSL := Lib.hid hs0
  have HCR := Lib.hid CR
  have HB0 := Lib.hid (ball_new (w.alloc (.cells #[.int .i64 0, .int .i64 0, .string ⟨#[]⟩, .string ⟨#[]⟩, .slice none 0 0] 36)) #[.int .i64 4, .int .i64 0, .string (bs s0), .string ⟨#[]⟩, .slice none 0 0] 36)
  have HN0 := Lib.hid (new_at (w.alloc (.cells #[.int .i64 0, .int .i64 0, .string ⟨#[]⟩, .string ⟨#[]⟩, .slice none 0 0] 36)) #[.int .i64 4, .int .i64 0, .string (bs s0), .string ⟨#[]⟩, .slice none 0 0] 36)
  have H0 := Lib.hid ((h.below hb).below HB0.out)
  have HIT := Lib.hid (tell_call s0 r)
  rw [hi] at HIT
  have C0 := Lib.hid (skip_no _ g r [46] H0.out hi)
  have HP := Lib.hid (fun w' (h' : RdM lo w' g r) => must_any w' g r [40] h')
  have HHI := Lib.hid hi
  clear h hb CR hs0 hi
  go_enter Tryz.func93, Tryz.ntmps93
  go_wp2_with fail
  refine C0.out.mono ?_
  rintro e w1 ⟨rfl, h1, h2⟩
  have C1 := HP.out _ h1
  have HT1 := Lib.hid h2
  have HS0 : Hid (Held w w1 g (bs s0) ⟨#[]⟩ [] none 0) := Lib.hid (by
    have hg := HG.out
    have e1 : (w.alloc (.cells #[.int .i64 0, .int .i64 0, .string ⟨#[]⟩, .string ⟨#[]⟩, .slice none 0 0] 36)).heap.size = w.heap.size + 1 := by simp
    have n0 := HN0.out
    rw [e1] at n0
    exact Held.turned ⟨OwnG.nil _ _, fun x hx => by simp at hx, fun x hx => by simp at hx, fun x hx => by simp at hx, n0, (HB0.out.block _ (lt_of_heap HN.out)).trans HN.out, ((Turn.refl [g] w).below HB.out).below HB0.out, hg⟩ h2)
  clear h1 h2 HN HN0 H0 C0 HP HT1
  have HTO : Hid (tell (.call s0) r = tell (.args [] s0 []) (mustW r [40])) := Lib.hid HIT.out
  have HLT : Hid ((mustW r [40]).bad = false → lenR (mustW r [40]) < lenR r) := Lib.hid mustW_lt
  have HLL : Hid (lenR (mustW r [40]) ≤ 100000) := Lib.hid (by have := lenR_mustW r [40]; have := HRL.out; have : lenR r ≤ r.l.length := (by unfold lenR; split <;> omega); omega)
  have HS1 : Hid ((bs s0).data.toList = s0) := Lib.hid (Lex.bs_data _)
  have HQ1 : Hid ((⟨#[]⟩ : ByteArray).data.toList = []) := Lib.hid rfl
  have HS2 : Hid ((bs s0).size ≤ maxLen) := Lib.hid (by rw [Lex.bs_size]; unfold maxLen; have := HSL.out; omega)
  have HQ2 : Hid ((⟨#[]⟩ : ByteArray).size ≤ maxLen) := Lib.hid (by unfold maxLen; simp [ByteArray.size])
  generalize mustW r [40] = r1 at *
  go_wp2_with fail
  refine C1.mono ?_
  rintro e w2 ⟨rfl, h1, h2⟩
  have START : Hid (CallAt lo w w2 g (bs s0) ⟨#[]⟩ s0 [] s0 r r1 [] none 0) := Lib.hid ⟨h1, HS0.out.turned h2, HTO.out, by have := HLL.out; simp; omega, HLT.out⟩
  generalize (bs s0) = sb at *
  skip
  clear h1 h2 HS0 HTO HLT HLL HIT HHI HB0 HB HRL HSL C1
  skip
  go_wp2_with fail
  go_loopw [22] (fun _ wr => ∃ (r' : PS) (xs : List Ex) (A : Option Addr) (c : Nat), Hid (CallAt lo w wr g sb ⟨#[]⟩ s0 [] s0 r r' xs A c)) (fun _ wr => remW wr g)
  case atStart => exact ⟨r1, [], none, 0, START⟩
  case round =>
    clear START
    obtain ⟨r', xs, A, c, HC⟩ := hrel
    have HM : Hid (remW wr g = lenR r') := Lib.hid HC.out.rd.rem
    obtain ⟨a, cc, hrd, -⟩ := HC.out.rd.at_
    have b1 := cell_at hrd 1
    simp only [List.getElem?_toArray, List.getElem?_cons_succ, List.getElem?_cons_zero] at b1
    clear hrd
    rcases Bool.eq_false_or_eq_true r'.bad with hbad | hbad
    · rw [hbad] at b1
      have HO := Lib.hid (told_end HC.out.told (by simp [hbad]))
      have HH := Lib.hid HC.out.held
      have HR := Lib.hid HC.out.rd
      have HXL : Hid (xs.length ≤ 200000) := Lib.hid (by have := HC.out.len; omega)
      clear hbad
      have CM := Lib.hid (must_any wr g r' [41] HR.out)
      have HXD : Hid (xs.length ≤ 200000) := Lib.hid (by have := HXL.out; omega)
      go_wp2_with fail
      refine CM.out.mono ?_
      rintro e v6 ⟨rfl, h1, h2⟩
      have HH6 := Lib.hid (HH.out.turned h2)
      have HR6 := Lib.hid h1
      clear h1 h2 CM
      try clear b1
      obtain ⟨a6, c6, hrd6, -⟩ := HR6.out.at_
      have b2 := cell_at hrd6 2
      have fb2 := free_at hrd6 2
      simp only [List.getElem?_toArray, List.getElem?_cons_succ, List.getElem?_cons_zero] at b2
      clear hrd6
      have hgl := HH6.out.g
      obtain ⟨x0, x1, x2, x3, x4⟩ := five_at HH6.out.ate
      obtain ⟨y0, y1, y2, y3, y4⟩ := five_at HH6.out.res
      have f0 := free_at HH6.out.res 0
      have f1 := free_at HH6.out.res 1
      have f2 := free_at HH6.out.res 2
      have f3 := free_at HH6.out.res 3
      have f4 := free_at HH6.out.res 4
      have HB7 := Lib.hid (fun B => HR6.out.bigged B)
      have HT7 : ∀ B, Hid (Turn [g] v6 (v6.setCell ⟨g, 2, none⟩ (.bool B))) := fun B => Lib.hid ((Turn.refl [g] v6).setCell (.inl (by simp)) _)
      have HH7 := fun B => Lib.hid (HH6.out.turned (HT7 B).out)
      unfold callEnd at HO
      generalize mustW r' [41] = r6 at *
      rcases Bool.eq_false_or_eq_true r6.big with hbig | hbig
      · rw [hbig] at b2 HO
        go_wp2_with fail
        have HT8 := Lib.hid (turn5 (v6.setCell ⟨g, 2, none⟩ (.bool true)) w.heap.size (.int .i64 4) (.int .i64 0) (.string sb) (.string ⟨#[]⟩) (.slice A xs.length c))
        refine bodyPost_ret (results_expr rfl _ _ w.heap.size _ _ _ _ _ rfl (set5 (HH7 true).out.res)) rfl ?_
        exact call_end HLO.out HXD.out HS1.out rfl HS2.out HQ2.out HH6.out (HT7 true).out (HB7.out true) HT8.out (by rw [HO.out, Bool.true_or])
      · rw [hbig] at b2 HO
        go_wp2_with fail
        have HT8 := Lib.hid (turn5 (v6.setCell ⟨g, 2, none⟩ (.bool (decide ((255 : Int) < (xs.length : Int))))) w.heap.size (.int .i64 4) (.int .i64 0) (.string sb) (.string ⟨#[]⟩) (.slice A xs.length c))
        refine bodyPost_ret (results_expr rfl _ _ w.heap.size _ _ _ _ _ rfl (set5 (HH7 (decide ((255 : Int) < (xs.length : Int)))).out.res)) rfl ?_
        exact call_end HLO.out HXD.out HS1.out rfl HS2.out HQ2.out HH6.out (HT7 (decide ((255 : Int) < (xs.length : Int)))).out (HB7.out (decide ((255 : Int) < (xs.length : Int)))) HT8.out (by rw [HO.out, List.length_map, Bool.false_or, big_eq])
    · rw [hbad] at b1
      rcases Bool.eq_false_or_eq_true (isW r' [41]) with hi | hi
      · have HO := Lib.hid (told_end HC.out.told (by simp [hi]))
        have HH := Lib.hid HC.out.held
        have HR := Lib.hid HC.out.rd
        have HXL : Hid (xs.length ≤ 200000) := Lib.hid (by have := HC.out.len; omega)
        have CI := (by have := is_any wr g r' [41] HC.out.rd; rw [hi] at this; exact Lib.hid this : Hid (Calls Tryz.prog 51 #[.pointer (some ⟨g, 0, none⟩), .string (bs [41])] wr (EndsB (.bool true) wr)))
        clear hbad hi
        go_wp2_with fail
        refine CI.out.mono ?_
        rintro e v1 ⟨rfl, hb1⟩
        have HH := Lib.hid (HH.out.below hb1)
        have HR := Lib.hid (HR.out.below hb1)
        clear hb1 b1 CI
        have CM := Lib.hid (must_any v1 g r' [41] HR.out)
        have HXD : Hid (xs.length ≤ 200000) := Lib.hid (by have := HXL.out; omega)
        go_wp2_with fail
        refine CM.out.mono ?_
        rintro e v6 ⟨rfl, h1, h2⟩
        have HH6 := Lib.hid (HH.out.turned h2)
        have HR6 := Lib.hid h1
        clear h1 h2 CM
        try clear b1
        obtain ⟨a6, c6, hrd6, -⟩ := HR6.out.at_
        have b2 := cell_at hrd6 2
        have fb2 := free_at hrd6 2
        simp only [List.getElem?_toArray, List.getElem?_cons_succ, List.getElem?_cons_zero] at b2
        clear hrd6
        have hgl := HH6.out.g
        obtain ⟨x0, x1, x2, x3, x4⟩ := five_at HH6.out.ate
        obtain ⟨y0, y1, y2, y3, y4⟩ := five_at HH6.out.res
        have f0 := free_at HH6.out.res 0
        have f1 := free_at HH6.out.res 1
        have f2 := free_at HH6.out.res 2
        have f3 := free_at HH6.out.res 3
        have f4 := free_at HH6.out.res 4
        have HB7 := Lib.hid (fun B => HR6.out.bigged B)
        have HT7 : ∀ B, Hid (Turn [g] v6 (v6.setCell ⟨g, 2, none⟩ (.bool B))) := fun B => Lib.hid ((Turn.refl [g] v6).setCell (.inl (by simp)) _)
        have HH7 := fun B => Lib.hid (HH6.out.turned (HT7 B).out)
        unfold callEnd at HO
        generalize mustW r' [41] = r6 at *
        rcases Bool.eq_false_or_eq_true r6.big with hbig | hbig
        · rw [hbig] at b2 HO
          go_wp2_with fail
          have HT8 := Lib.hid (turn5 (v6.setCell ⟨g, 2, none⟩ (.bool true)) w.heap.size (.int .i64 4) (.int .i64 0) (.string sb) (.string ⟨#[]⟩) (.slice A xs.length c))
          refine bodyPost_ret (results_expr rfl _ _ w.heap.size _ _ _ _ _ rfl (set5 (HH7 true).out.res)) rfl ?_
          exact call_end HLO.out HXD.out HS1.out rfl HS2.out HQ2.out HH6.out (HT7 true).out (HB7.out true) HT8.out (by rw [HO.out, Bool.true_or])
        · rw [hbig] at b2 HO
          go_wp2_with fail
          have HT8 := Lib.hid (turn5 (v6.setCell ⟨g, 2, none⟩ (.bool (decide ((255 : Int) < (xs.length : Int))))) w.heap.size (.int .i64 4) (.int .i64 0) (.string sb) (.string ⟨#[]⟩) (.slice A xs.length c))
          refine bodyPost_ret (results_expr rfl _ _ w.heap.size _ _ _ _ _ rfl (set5 (HH7 (decide ((255 : Int) < (xs.length : Int)))).out.res)) rfl ?_
          exact call_end HLO.out HXD.out HS1.out rfl HS2.out HQ2.out HH6.out (HT7 (decide ((255 : Int) < (xs.length : Int)))).out (HB7.out (decide ((255 : Int) < (xs.length : Int)))) HT8.out (by rw [HO.out, List.length_map, Bool.false_or, big_eq])
      · have HH := Lib.hid HC.out.held
        have HR := Lib.hid HC.out.rd
        have HTO := Lib.hid HC.out.told
        have HBA := Lib.hid hbad
        have HI := Lib.hid hi
        have HLN := Lib.hid HC.out.len
        have HLT : Hid (lenR r' < lenR r) := Lib.hid (HC.out.lt hbad)
        have CI := (by have := is_any wr g r' [41] HC.out.rd; rw [hi] at this; exact Lib.hid this : Hid (Calls Tryz.prog 51 #[.pointer (some ⟨g, 0, none⟩), .string (bs [41])] wr (EndsB (.bool false) wr)))
        clear hbad hi HC
        go_wp2_with fail
        refine CI.out.mono ?_
        rintro e v1 ⟨rfl, hb1⟩
        have HH1 : Hid (Held w v1.drew g sb ⟨#[]⟩ xs A c) := Lib.hid (HH.out.below hb1.drew)
        have HR1 : Hid (RdM lo v1.drew g r') := Lib.hid (HR.out.below hb1.drew)
        clear hb1 b1 CI HH HR
        go_wp2_with fail
        refine Lex.AtS.start (by kernel_rfl) 7 (fun u => u.heap[w.heap.size + 1]? = some (.cells #[.int .i64 4, .int .i64 0, .string sb, .string ⟨#[]⟩, .slice A xs.length c] 36 (0, 0))) (by kernel_rfl) (by kernel_rfl) ?_
        generalize v1.drew = u0 at *
        refine Lex.at_take 0 27 (.pointer (some ⟨w.heap.size + 1, 4, none⟩)) rfl rfl (by kernel_rfl) (by decide) (by decide) (fun _ _ _ h => h) rfl HH1.out.ate (fun w' hw' => ?_) ?_
        · go_simp
        go_frame
        refine Lex.at_take 1 28 (.slice A xs.length c) rfl rfl (by kernel_rfl) (by decide) (by decide) (fun _ _ _ h => h) rfl HH1.out.ate (fun w' hw' => ?_) ?_
        · obtain ⟨x0, x1, x2, x3, x4⟩ := five_at hw'
          go_simp
        go_frame
        refine Lex.at_take 2 29 (.pointer (some ⟨g, 0, none⟩)) rfl rfl (by kernel_rfl) (by decide) (by decide) (fun _ _ _ h => h) rfl HH1.out.ate (fun w' hw' => ?_) ?_
        · exact rfl
        go_frame
        have CY := HCR.out u0 r' HR1.out HLT.out
        refine Lex.AtS.call (i := 3) (f := 32) (args := #[.pointer (some ⟨g, 0, none⟩), .int .i64 0]) rfl (by kernel_rfl) (by decide) rfl ?_ ?_
        · go_simp
        refine CY.out.mono ?_
        rintro e v2 ⟨y, rfl, hy1, hy2, hy3, hy4, hy5⟩
        have HH2 := Lib.hid (HH1.out.turned hy5)
        refine ⟨exV y, rfl, HH2.out.ate, ?_⟩
        rw [exV_eq]
        have HY1 := Lib.hid hy1
        have HY2 := Lib.hid hy2
        have HY3 := Lib.hid hy3
        have HY4 := Lib.hid hy4
        have HSZ : Hid (w.heap.size + 2 ≤ u0.heap.size) := Lib.hid (by have := lt_of_heap HH1.out.ate; omega)
        have HOB : Hid (∀ b, (Value.slice A xs.length c).ownBlock = some b → b < u0.heap.size) := Lib.hid (fun b hb => (HH1.out.own.lt b hb).2)
        clear hy1 hy2 hy3 hy4 hy5 CY HH1 HR1
        go_frame
        have HB3 := Lib.hid (ball_new v2 #[.int .i64 y.op, .int .i64 y.n, .string y.s, .string y.q, .slice y.a y.x.length y.c] 36)
        have HN3 := Lib.hid (new_at v2 #[.int .i64 y.op, .int .i64 y.n, .string y.s, .string y.q, .slice y.a y.x.length y.c] 36)
        have HH3 := Lib.hid (HH2.out.below HB3.out)
        have HR3 := Lib.hid (HY4.out.below HB3.out)
        have HY3' := Lib.hid (Tre.ExIn.below HY2.out HB3.out)
        refine Lex.at_run 4 31 (.slice (some ⟨v2.heap.size, 0, none⟩) 1 1) (v2.alloc (.cells #[.int .i64 y.op, .int .i64 y.n, .string y.s, .string y.q, .slice y.a y.x.length y.c] 36)) rfl rfl (by kernel_rfl) (by decide) rfl ?_ ?_ ?_
        · go_simp
        · exact HH3.out.ate
        go_frame
        clear HB3 HH2 HY2 HY4
        generalize (v2.alloc (.cells #[.int .i64 y.op, .int .i64 y.n, .string y.s, .string y.q, .slice y.a y.x.length y.c] 36)) = u1 at *
        generalize v2.heap.size = yb at *
        obtain ⟨vv, u2, hap, how, hgr, hbo⟩ := app_ex u1 (w.heap.size + 2) (.slice A xs.length c) xs y yb HH3.out.own HN3.out (by have := HLN.out; omega) (by have := lt_of_heap HH3.out.ate; omega)
        obtain ⟨A2, n2, c2, rfl, hn2⟩ : ∃ A m c, vv = .slice A m c ∧ m = (xs ++ [y]).length := by obtain ⟨A, c, e, -⟩ := how.form; exact ⟨A, _, c, e, rfl⟩
        have HAP := Lib.hid hap
        have T2 : Turn (Value.slice A xs.length c).ownBlock.toList u1 u2 := (Turn.refl _ u1).grown hgr (fun k hk => .inl (by simp [hk]))
        have hlo2 : ∀ b ∈ (Value.slice A xs.length c).ownBlock.toList, w.heap.size + 2 ≤ b ∧ b < u1.heap.size := fun b hb => HH3.out.own.lt b (by simpa using hb)
        have HS2 : Hid (u2.heap[w.heap.size + 1]? = some (.cells #[.int .i64 4, .int .i64 0, .string sb, .string ⟨#[]⟩, .slice A xs.length c] 36 (0, 0))) := Lib.hid ((T2.block _ (lt_of_heap HH3.out.ate) (fun hm => by have := (hlo2 _ hm).1; omega)).trans HH3.out.ate)
        have HH4 : Hid (Held w (u2.setCell ⟨w.heap.size + 1, 4, none⟩ (.slice A2 n2 c2)) g sb ⟨#[]⟩ (xs ++ [y]) A2 c2) := Lib.hid (by
          subst hn2
          exact HH3.out.more HY3'.out HY3.out HOB.out HSZ.out how hgr hbo)
        have HR4 : Hid (RdM lo (u2.setCell ⟨w.heap.size + 1, 4, none⟩ (.slice A2 n2 c2)) g (tell (.row 0) r').2) := Lib.hid ((HR3.out.buts T2 (fun b hb => by have := (hlo2 b hb).1; have := HLO.out; omega)).but ((Turn.refl [w.heap.size + 1] u2).setCell (.inl (by simp)) _) (by have := HLO.out; omega))
        have HN2 := Lib.hid hn2
        clear hap how hgr hbo T2 hlo2 HN3 HR3 HY3' hn2
        refine at_appX 5 32 (.slice A2 n2 c2) u2 rfl rfl (by kernel_rfl) (by decide) rfl (.tmp 28) (.tmp 31) rfl (.slice A xs.length c) (.slice (some ⟨yb, 0, none⟩) 1 1) rfl rfl HAP.out HS2.out ?_
        go_frame
        clear HAP HH3
        refine Lex.at_take 6 33 (.pointer (some ⟨w.heap.size + 1, 4, none⟩)) rfl rfl (by kernel_rfl) (by decide) (by decide) (fun _ _ _ h => h) rfl HS2.out (fun w' hw' => ?_) ?_
        · go_simp
        go_frame
        obtain ⟨x0, x1, x2, x3, x4⟩ := five_at HS2.out
        have f4 := free_at HS2.out 4
        refine Lex.AtS.last (i := 7) (w' := u2.setCell ⟨w.heap.size + 1, 4, none⟩ (.slice A2 n2 c2)) rfl (by kernel_rfl) (by kernel_rfl) (by decide) rfl ?_ ?_
        · go_simp
        go_frame
        clear x0 x1 x2 x3 x4 f4 HS2
        have HL2 := Lib.hid (tell_lenR (.row 0) r')
        generalize u2.setCell ⟨w.heap.size + 1, 4, none⟩ (.slice A2 n2 c2) = u4 at *
        obtain ⟨zs, hzs⟩ : ∃ zs, xs ++ [y] = zs := ⟨_, rfl⟩
        have HZ : Hid (zs.map core = xs.map core ++ [(tell (.row 0) r').1]) := Lib.hid (by rw [← hzs, List.map_append, List.map_cons, List.map_nil, HY1.out])
        have HZL : Hid (zs.length = xs.length + 1) := Lib.hid (by rw [← hzs, List.length_append]; rfl)
        rw [hzs] at HH4
        clear hzs HN2 HY1 HY3 HSZ HOB
        rcases Bool.eq_false_or_eq_true (isW (tell (.row 0) r').2 [44]) with hc | hc
        · have HC4 := Lib.hid (lenR_pos hc)
          have HTL := Lib.hid (lenR_tl (tell (.row 0) r').2)
          have CS := Lib.hid (skip_yes u4 g (tell (.row 0) r').2 [44] HR4.out hc)
          rcases Bool.eq_false_or_eq_true (isW (tl (tell (.row 0) r').2) [41]) with hd | hd
          · have HO := Lib.hid (told_bad HTO.out HBA.out HI.out hc hd)
            rw [← HZ.out] at HO
            have CI := fun w' (h' : RdM lo w' g (tl (tell (.row 0) r').2)) => (by have := is_any w' g (tl (tell (.row 0) r').2) [41] h'; rw [hd] at this; exact Lib.hid this : Hid (Calls Tryz.prog 51 #[.pointer (some ⟨g, 0, none⟩), .string (bs [41])] w' (EndsB (.bool true) w')))
            clear hc hd HTO
            generalize (tell (.row 0) r').2 = r2 at *
            go_wp2_with fail
            refine CS.out.mono ?_
            rintro e v5 ⟨rfl, h1, h2⟩
            have CI5 := CI _ h1
            have HH5 := Lib.hid (HH4.out.turned h2)
            have HR5 := Lib.hid h1
            clear h1 h2 CS CI HH4 HR4
            go_wp2_with fail
            refine CI5.out.mono ?_
            rintro e v6 ⟨rfl, hb6⟩
            have HH6 := Lib.hid (HH5.out.below hb6)
            have HR6 := Lib.hid (HR5.out.below hb6)
            clear hb6 CI5 HH5 HR5
            obtain ⟨a6, c6, hrd6, hsp⟩ := HR6.out.spoil
            have HSP := Lib.hid hsp
            have b1 := cell_at hrd6 1
            have fb1 := free_at hrd6 1
            simp only [List.getElem?_toArray, List.getElem?_cons_succ, List.getElem?_cons_zero] at b1
            clear hrd6 hsp
            have HN6 : Hid (CallAt lo w (v6.setCell ⟨g, 1, none⟩ (.bool true)) g sb ⟨#[]⟩ s0 [] s0 r (badR (tl r2)) zs A2 c2) := Lib.hid ⟨HSP.out, HH6.out.turned ((Turn.refl [g] v6).setCell (.inl (by simp)) _), HO.out, by
              have := HLN.out
              have := HL2.out
              have := HC4.out
              have := HZL.out
              rw [lenR_badR]
              omega, fun h => by cases h⟩
            go_wp2_with fail
            go_roundw
            case rel => exact ⟨_, zs, A2, c2, HN6⟩
            case measure =>
              rw [HN6.out.rd.rem, HM.out, lenR_badR]
              have := HL2.out
              have := HC4.out
              omega
          · have HO := Lib.hid (told_more HTO.out HBA.out HI.out hc hd)
            rw [← HZ.out] at HO
            have CI := fun w' (h' : RdM lo w' g (tl (tell (.row 0) r').2)) => (by have := is_any w' g (tl (tell (.row 0) r').2) [41] h'; rw [hd] at this; exact Lib.hid this : Hid (Calls Tryz.prog 51 #[.pointer (some ⟨g, 0, none⟩), .string (bs [41])] w' (EndsB (.bool false) w')))
            clear hc hd HTO
            generalize (tell (.row 0) r').2 = r2 at *
            go_wp2_with fail
            refine CS.out.mono ?_
            rintro e v5 ⟨rfl, h1, h2⟩
            have CI5 := CI _ h1
            have HH5 := Lib.hid (HH4.out.turned h2)
            have HR5 := Lib.hid h1
            clear h1 h2 CS CI HH4 HR4
            go_wp2_with fail
            refine CI5.out.mono ?_
            rintro e v6 ⟨rfl, hb6⟩
            have HN6 : Hid (CallAt lo w v6 g sb ⟨#[]⟩ s0 [] s0 r (tl r2) zs A2 c2) := Lib.hid ⟨HR5.out.below hb6, HH5.out.below hb6, HO.out, by
              have := HLN.out
              have := HL2.out
              have := HC4.out
              have := HZL.out
              have := HTL.out
              omega, fun _ => by
              have := HL2.out
              have := HLT.out
              have := HTL.out
              omega⟩
            clear hb6 CI5 HH5 HR5
            go_wp2_with fail
            go_roundw
            case rel => exact ⟨_, zs, A2, c2, HN6⟩
            case measure =>
              rw [HN6.out.rd.rem, HM.out]
              have := HL2.out
              have := HC4.out
              have := HTL.out
              omega
        · have HO := Lib.hid (told_last HTO.out HBA.out HI.out hc)
          rw [← HZ.out] at HO
          have CS := Lib.hid (skip_no u4 g (tell (.row 0) r').2 [44] HR4.out hc)
          have HXL : Hid (zs.length ≤ 200000) := Lib.hid (by have := HLN.out; have := HZL.out; omega)
          clear hc HTO HZ
          generalize (tell (.row 0) r').2 = r2 at *
          go_wp2_with fail
          refine CS.out.mono ?_
          rintro e v5 ⟨rfl, h1, h2⟩
          have HH := Lib.hid (HH4.out.turned h2)
          have HR := Lib.hid h1
          clear h1 h2 CS HH4 HR4
          have CM := Lib.hid (must_any v5 g r2 [41] HR.out)
          have HXD : Hid (zs.length ≤ 200000) := Lib.hid (by have := HXL.out; omega)
          go_wp2_with fail
          refine CM.out.mono ?_
          rintro e v6 ⟨rfl, h1, h2⟩
          have HH6 := Lib.hid (HH.out.turned h2)
          have HR6 := Lib.hid h1
          clear h1 h2 CM
          try clear b1
          obtain ⟨a6, c6, hrd6, -⟩ := HR6.out.at_
          have b2 := cell_at hrd6 2
          have fb2 := free_at hrd6 2
          simp only [List.getElem?_toArray, List.getElem?_cons_succ, List.getElem?_cons_zero] at b2
          clear hrd6
          have hgl := HH6.out.g
          obtain ⟨x0, x1, x2, x3, x4⟩ := five_at HH6.out.ate
          obtain ⟨y0, y1, y2, y3, y4⟩ := five_at HH6.out.res
          have f0 := free_at HH6.out.res 0
          have f1 := free_at HH6.out.res 1
          have f2 := free_at HH6.out.res 2
          have f3 := free_at HH6.out.res 3
          have f4 := free_at HH6.out.res 4
          have HB7 := Lib.hid (fun B => HR6.out.bigged B)
          have HT7 : ∀ B, Hid (Turn [g] v6 (v6.setCell ⟨g, 2, none⟩ (.bool B))) := fun B => Lib.hid ((Turn.refl [g] v6).setCell (.inl (by simp)) _)
          have HH7 := fun B => Lib.hid (HH6.out.turned (HT7 B).out)
          unfold callEnd at HO
          generalize mustW r2 [41] = r6 at *
          rcases Bool.eq_false_or_eq_true r6.big with hbig | hbig
          · rw [hbig] at b2 HO
            go_wp2_with fail
            have HT8 := Lib.hid (turn5 (v6.setCell ⟨g, 2, none⟩ (.bool true)) w.heap.size (.int .i64 4) (.int .i64 0) (.string sb) (.string ⟨#[]⟩) (.slice A2 zs.length c2))
            refine bodyPost_ret (results_expr rfl _ _ w.heap.size _ _ _ _ _ rfl (set5 (HH7 true).out.res)) rfl ?_
            exact call_end HLO.out HXD.out HS1.out rfl HS2.out HQ2.out HH6.out (HT7 true).out (HB7.out true) HT8.out (by rw [HO.out, Bool.true_or])
          · rw [hbig] at b2 HO
            go_wp2_with fail
            have HT8 := Lib.hid (turn5 (v6.setCell ⟨g, 2, none⟩ (.bool (decide ((255 : Int) < (zs.length : Int))))) w.heap.size (.int .i64 4) (.int .i64 0) (.string sb) (.string ⟨#[]⟩) (.slice A2 zs.length c2))
            refine bodyPost_ret (results_expr rfl _ _ w.heap.size _ _ _ _ _ rfl (set5 (HH7 (decide ((255 : Int) < (zs.length : Int)))).out.res)) rfl ?_
            exact call_end HLO.out HXD.out HS1.out rfl HS2.out HQ2.out HH6.out (HT7 (decide ((255 : Int) < (zs.length : Int)))).out (HB7.out (decide ((255 : Int) < (zs.length : Int)))) HT8.out (by rw [HO.out, List.length_map, Bool.false_or, big_eq])
set_option maxHeartbeats 4000000 in
theorem call_dot (w : World) (g : Nat) (r : PS) (s0 : List UInt8) (h : RdM lo w g r) (hs0 : s0.length ≤ 1000000) (hi : isW r [46] = true)
    (CR : ∀ w' r', RdM lo w' g r' → lenR r' < lenR r → Hid (Calls Tryz.prog 32 #[.pointer (some ⟨g, 0, none⟩), .int .i64 0] w' (Ev lo w' g (tell (.row 0) r')))) :
    Calls Tryz.prog 93 #[.pointer (some ⟨g, 0, none⟩), .string (bs s0)] w (Ev lo w g (tell (.call s0) r)) := by
  have hb := ball_new w #[.int .i64 0, .int .i64 0, .string ⟨#[]⟩, .string ⟨#[]⟩, .slice none 0 0] 36
  have HN := Lib.hid (new_at w #[.int .i64 0, .int .i64 0, .string ⟨#[]⟩, .string ⟨#[]⟩, .slice none 0 0] 36)
  have HG := Lib.hid h.lt
  have HB := Lib.hid hb
  have HLO := Lib.hid h.wlo
  have HGL := Lib.hid h.glo
  have HRL := Lib.hid h.len
  have HSL := Lib.hid hs0
  have HCR := Lib.hid CR
  have HB0 := Lib.hid (ball_new (w.alloc (.cells #[.int .i64 0, .int .i64 0, .string ⟨#[]⟩, .string ⟨#[]⟩, .slice none 0 0] 36)) #[.int .i64 4, .int .i64 0, .string (bs s0), .string ⟨#[]⟩, .slice none 0 0] 36)
  have HN0 := Lib.hid (new_at (w.alloc (.cells #[.int .i64 0, .int .i64 0, .string ⟨#[]⟩, .string ⟨#[]⟩, .slice none 0 0] 36)) #[.int .i64 4, .int .i64 0, .string (bs s0), .string ⟨#[]⟩, .slice none 0 0] 36)
  have H0 := Lib.hid ((h.below hb).below HB0.out)
  have HIT := Lib.hid (tell_call s0 r)
  rw [hi] at HIT
  have C0 := Lib.hid (skip_yes _ g r [46] H0.out hi)
  have HHI := Lib.hid hi
  clear h hb CR hs0 hi
  go_enter Tryz.func93, Tryz.ntmps93
  go_wp2_with fail
  refine C0.out.mono ?_
  rintro e w1 ⟨rfl, h1, h2⟩
  have HE1 : Hid (w1.heap[w.heap.size + 1]? = some (.cells #[.int .i64 4, .int .i64 0, .string (bs s0), .string ⟨#[]⟩, .slice none 0 0] 36 (0, 0))) := Lib.hid (by
    have hg := HG.out
    have e1 : (w.alloc (.cells #[.int .i64 0, .int .i64 0, .string ⟨#[]⟩, .string ⟨#[]⟩, .slice none 0 0] 36)).heap.size = w.heap.size + 1 := by simp
    have n0 := HN0.out
    rw [e1] at n0
    exact (h2.block _ (lt_of_heap n0) (by simp; omega)).trans n0)
  have HE2 : Hid (w1.heap[w.heap.size]? = some (.cells #[.int .i64 0, .int .i64 0, .string ⟨#[]⟩, .string ⟨#[]⟩, .slice none 0 0] 36 (0, 0))) := Lib.hid (by
    have hg := HG.out
    have n0 := (HB0.out.block _ (lt_of_heap HN.out)).trans HN.out
    exact (h2.block _ (lt_of_heap n0) (by simp; omega)).trans n0)
  have HTW : Hid (Turn [g] w w1) := Lib.hid ((((Turn.refl [g] w).below HB.out).below HB0.out).trans h2)
  obtain ⟨x0, x1, x2, x3, x4⟩ := five_at HE1.out
  have f3 := free_at HE1.out 3
  have HV1 : Hid (RdM lo (w1.setCell ⟨w.heap.size + 1, 3, none⟩ (.string (bs s0))) g (tl r)) := Lib.hid (h1.but ((Turn.refl [w.heap.size + 1] w1).setCell (.inl (by simp)) _) (by have := HLO.out; omega))
  have CW := Lib.hid (word_any _ g (tl r) 1 false (by decide) HV1.out)
  clear h1 h2 HN HN0 H0 C0
  have HS2 : Hid ((bs (wordS (tl r) 1 false)).size ≤ maxLen) := Lib.hid (wordS_size HV1.out 1 false)
  have HQ2 : Hid ((bs s0).size ≤ maxLen) := Lib.hid (by rw [Lex.bs_size]; unfold maxLen; have := HSL.out; omega)
  go_wp2_with fail
  refine CW.out.mono ?_
  rintro e w3 ⟨rfl, h1, h2⟩
  have hgl := HG.out
  have T1 : Turn [w.heap.size + 1] w1 (w1.setCell ⟨w.heap.size + 1, 3, none⟩ (.string (bs s0))) := (Turn.refl _ w1).setCell (.inl (by simp)) _
  have HE3 : Hid (w3.heap[w.heap.size + 1]? = some (.cells #[.int .i64 4, .int .i64 0, .string (bs s0), .string (bs s0), .slice none 0 0] 36 (0, 0))) := Lib.hid (by
    have n0 := set_at HE1.out 3 (.string (bs s0))
    exact (h2.block _ (lt_of_heap n0) (by simp; omega)).trans n0)
  obtain ⟨z0, z1, z2, z3, z4⟩ := five_at HE3.out
  have g2 := free_at HE3.out 2
  have T2 : Turn [w.heap.size + 1] w3 (w3.setCell ⟨w.heap.size + 1, 2, none⟩ (.string (bs (wordS (tl r) 1 false)))) := (Turn.refl _ w3).setCell (.inl (by simp)) _
  have HS0 : Hid (Held w (w3.setCell ⟨w.heap.size + 1, 2, none⟩ (.string (bs (wordS (tl r) 1 false)))) g (bs (wordS (tl r) 1 false)) (bs s0) [] none 0) := Lib.hid (by
    have r1 := (T1.block _ (lt_of_heap HE2.out) (by simp)).trans HE2.out
    have r2 := (h2.block _ (lt_of_heap r1) (by simp; omega)).trans r1
    have r3 := (T2.block _ (lt_of_heap r2) (by simp)).trans r2
    exact ⟨OwnG.nil _ _, fun x hx => by simp at hx, fun x hx => by simp at hx, fun x hx => by simp at hx, set_at HE3.out 2 _, r3, ((HTW.out.then_ T1 (fun k hk => by simp at hk; exact .inr (by omega))).trans h2).then_ T2 (fun k hk => by simp at hk; exact .inr (by omega)), hgl⟩)
  have C1 := Lib.hid (must_any _ g (wordR (tl r) 1 false) [40] (h1.but T2 (by have := HLO.out; omega)))
  clear h1 h2 CW T1 T2 x0 x1 x2 x3 x4 f3 HV1 HE1 HE2 HTW hgl
  have HTO : Hid (tell (.call s0) r = tell (.args s0 (wordS (tl r) 1 false) []) (mustW (wordR (tl r) 1 false) [40])) := Lib.hid HIT.out
  have HLW : Hid (lenR (wordR (tl r) 1 false) ≤ lenR r) := Lib.hid (by have := lenR_wordR (tl r) 1 false; have := lenR_tl r; omega)
  have HLT : Hid ((mustW (wordR (tl r) 1 false) [40]).bad = false → lenR (mustW (wordR (tl r) 1 false) [40]) < lenR r) := Lib.hid (fun h => by have := mustW_lt h; have := HLW.out; omega)
  have HLL : Hid (lenR (mustW (wordR (tl r) 1 false) [40]) ≤ 100000) := Lib.hid (by have := lenR_mustW (wordR (tl r) 1 false) [40]; have := HLW.out; have := HRL.out; have : lenR r ≤ r.l.length := (by unfold lenR; split <;> omega); omega)
  have HS1 : Hid ((bs (wordS (tl r) 1 false)).data.toList = wordS (tl r) 1 false) := Lib.hid (Lex.bs_data _)
  have HQ1 : Hid ((bs s0).data.toList = s0) := Lib.hid (Lex.bs_data _)
  generalize mustW (wordR (tl r) 1 false) [40] = r1 at *
  clear HLW
  go_wp2_with fail
  refine C1.out.mono ?_
  rintro e w2 ⟨rfl, h1, h2⟩
  have START : Hid (CallAt lo w w2 g (bs (wordS (tl r) 1 false)) (bs s0) (wordS (tl r) 1 false) s0 s0 r r1 [] none 0) := Lib.hid ⟨h1, HS0.out.turned h2, HTO.out, by have := HLL.out; simp; omega, HLT.out⟩
  generalize (bs (wordS (tl r) 1 false)) = sb at *
  generalize (bs s0) = qb at *
  clear h1 h2 HS0 HTO HLT HLL HIT HHI HB0 HB HRL HSL C1
  clear HE3 z0 z1 z2 z3 z4 g2
  go_wp2_with fail
  go_loopw [22] (fun _ wr => ∃ (r' : PS) (xs : List Ex) (A : Option Addr) (c : Nat), Hid (CallAt lo w wr g sb qb (wordS (tl r) 1 false) s0 s0 r r' xs A c)) (fun _ wr => remW wr g)
  case atStart => exact ⟨r1, [], none, 0, START⟩
  case round =>
    clear START
    obtain ⟨r', xs, A, c, HC⟩ := hrel
    have HM : Hid (remW wr g = lenR r') := Lib.hid HC.out.rd.rem
    obtain ⟨a, cc, hrd, -⟩ := HC.out.rd.at_
    have b1 := cell_at hrd 1
    simp only [List.getElem?_toArray, List.getElem?_cons_succ, List.getElem?_cons_zero] at b1
    clear hrd
    rcases Bool.eq_false_or_eq_true r'.bad with hbad | hbad
    · rw [hbad] at b1
      have HO := Lib.hid (told_end HC.out.told (by simp [hbad]))
      have HH := Lib.hid HC.out.held
      have HR := Lib.hid HC.out.rd
      have HXL : Hid (xs.length ≤ 200000) := Lib.hid (by have := HC.out.len; omega)
      clear hbad
      have CM := Lib.hid (must_any wr g r' [41] HR.out)
      have HXD : Hid (xs.length ≤ 200000) := Lib.hid (by have := HXL.out; omega)
      go_wp2_with fail
      refine CM.out.mono ?_
      rintro e v6 ⟨rfl, h1, h2⟩
      have HH6 := Lib.hid (HH.out.turned h2)
      have HR6 := Lib.hid h1
      clear h1 h2 CM
      try clear b1
      obtain ⟨a6, c6, hrd6, -⟩ := HR6.out.at_
      have b2 := cell_at hrd6 2
      have fb2 := free_at hrd6 2
      simp only [List.getElem?_toArray, List.getElem?_cons_succ, List.getElem?_cons_zero] at b2
      clear hrd6
      have hgl := HH6.out.g
      obtain ⟨x0, x1, x2, x3, x4⟩ := five_at HH6.out.ate
      obtain ⟨y0, y1, y2, y3, y4⟩ := five_at HH6.out.res
      have f0 := free_at HH6.out.res 0
      have f1 := free_at HH6.out.res 1
      have f2 := free_at HH6.out.res 2
      have f3 := free_at HH6.out.res 3
      have f4 := free_at HH6.out.res 4
      have HB7 := Lib.hid (fun B => HR6.out.bigged B)
      have HT7 : ∀ B, Hid (Turn [g] v6 (v6.setCell ⟨g, 2, none⟩ (.bool B))) := fun B => Lib.hid ((Turn.refl [g] v6).setCell (.inl (by simp)) _)
      have HH7 := fun B => Lib.hid (HH6.out.turned (HT7 B).out)
      unfold callEnd at HO
      generalize mustW r' [41] = r6 at *
      rcases Bool.eq_false_or_eq_true r6.big with hbig | hbig
      · rw [hbig] at b2 HO
        go_wp2_with fail
        have HT8 := Lib.hid (turn5 (v6.setCell ⟨g, 2, none⟩ (.bool true)) w.heap.size (.int .i64 4) (.int .i64 0) (.string sb) (.string qb) (.slice A xs.length c))
        refine bodyPost_ret (results_expr rfl _ _ w.heap.size _ _ _ _ _ rfl (set5 (HH7 true).out.res)) rfl ?_
        exact call_end HLO.out HXD.out HS1.out HQ1.out HS2.out HQ2.out HH6.out (HT7 true).out (HB7.out true) HT8.out (by rw [HO.out, Bool.true_or])
      · rw [hbig] at b2 HO
        go_wp2_with fail
        have HT8 := Lib.hid (turn5 (v6.setCell ⟨g, 2, none⟩ (.bool (decide ((255 : Int) < (xs.length : Int))))) w.heap.size (.int .i64 4) (.int .i64 0) (.string sb) (.string qb) (.slice A xs.length c))
        refine bodyPost_ret (results_expr rfl _ _ w.heap.size _ _ _ _ _ rfl (set5 (HH7 (decide ((255 : Int) < (xs.length : Int)))).out.res)) rfl ?_
        exact call_end HLO.out HXD.out HS1.out HQ1.out HS2.out HQ2.out HH6.out (HT7 (decide ((255 : Int) < (xs.length : Int)))).out (HB7.out (decide ((255 : Int) < (xs.length : Int)))) HT8.out (by rw [HO.out, List.length_map, Bool.false_or, big_eq])
    · rw [hbad] at b1
      rcases Bool.eq_false_or_eq_true (isW r' [41]) with hi | hi
      · have HO := Lib.hid (told_end HC.out.told (by simp [hi]))
        have HH := Lib.hid HC.out.held
        have HR := Lib.hid HC.out.rd
        have HXL : Hid (xs.length ≤ 200000) := Lib.hid (by have := HC.out.len; omega)
        have CI := (by have := is_any wr g r' [41] HC.out.rd; rw [hi] at this; exact Lib.hid this : Hid (Calls Tryz.prog 51 #[.pointer (some ⟨g, 0, none⟩), .string (bs [41])] wr (EndsB (.bool true) wr)))
        clear hbad hi
        go_wp2_with fail
        refine CI.out.mono ?_
        rintro e v1 ⟨rfl, hb1⟩
        have HH := Lib.hid (HH.out.below hb1)
        have HR := Lib.hid (HR.out.below hb1)
        clear hb1 b1 CI
        have CM := Lib.hid (must_any v1 g r' [41] HR.out)
        have HXD : Hid (xs.length ≤ 200000) := Lib.hid (by have := HXL.out; omega)
        go_wp2_with fail
        refine CM.out.mono ?_
        rintro e v6 ⟨rfl, h1, h2⟩
        have HH6 := Lib.hid (HH.out.turned h2)
        have HR6 := Lib.hid h1
        clear h1 h2 CM
        try clear b1
        obtain ⟨a6, c6, hrd6, -⟩ := HR6.out.at_
        have b2 := cell_at hrd6 2
        have fb2 := free_at hrd6 2
        simp only [List.getElem?_toArray, List.getElem?_cons_succ, List.getElem?_cons_zero] at b2
        clear hrd6
        have hgl := HH6.out.g
        obtain ⟨x0, x1, x2, x3, x4⟩ := five_at HH6.out.ate
        obtain ⟨y0, y1, y2, y3, y4⟩ := five_at HH6.out.res
        have f0 := free_at HH6.out.res 0
        have f1 := free_at HH6.out.res 1
        have f2 := free_at HH6.out.res 2
        have f3 := free_at HH6.out.res 3
        have f4 := free_at HH6.out.res 4
        have HB7 := Lib.hid (fun B => HR6.out.bigged B)
        have HT7 : ∀ B, Hid (Turn [g] v6 (v6.setCell ⟨g, 2, none⟩ (.bool B))) := fun B => Lib.hid ((Turn.refl [g] v6).setCell (.inl (by simp)) _)
        have HH7 := fun B => Lib.hid (HH6.out.turned (HT7 B).out)
        unfold callEnd at HO
        generalize mustW r' [41] = r6 at *
        rcases Bool.eq_false_or_eq_true r6.big with hbig | hbig
        · rw [hbig] at b2 HO
          go_wp2_with fail
          have HT8 := Lib.hid (turn5 (v6.setCell ⟨g, 2, none⟩ (.bool true)) w.heap.size (.int .i64 4) (.int .i64 0) (.string sb) (.string qb) (.slice A xs.length c))
          refine bodyPost_ret (results_expr rfl _ _ w.heap.size _ _ _ _ _ rfl (set5 (HH7 true).out.res)) rfl ?_
          exact call_end HLO.out HXD.out HS1.out HQ1.out HS2.out HQ2.out HH6.out (HT7 true).out (HB7.out true) HT8.out (by rw [HO.out, Bool.true_or])
        · rw [hbig] at b2 HO
          go_wp2_with fail
          have HT8 := Lib.hid (turn5 (v6.setCell ⟨g, 2, none⟩ (.bool (decide ((255 : Int) < (xs.length : Int))))) w.heap.size (.int .i64 4) (.int .i64 0) (.string sb) (.string qb) (.slice A xs.length c))
          refine bodyPost_ret (results_expr rfl _ _ w.heap.size _ _ _ _ _ rfl (set5 (HH7 (decide ((255 : Int) < (xs.length : Int)))).out.res)) rfl ?_
          exact call_end HLO.out HXD.out HS1.out HQ1.out HS2.out HQ2.out HH6.out (HT7 (decide ((255 : Int) < (xs.length : Int)))).out (HB7.out (decide ((255 : Int) < (xs.length : Int)))) HT8.out (by rw [HO.out, List.length_map, Bool.false_or, big_eq])
      · have HH := Lib.hid HC.out.held
        have HR := Lib.hid HC.out.rd
        have HTO := Lib.hid HC.out.told
        have HBA := Lib.hid hbad
        have HI := Lib.hid hi
        have HLN := Lib.hid HC.out.len
        have HLT : Hid (lenR r' < lenR r) := Lib.hid (HC.out.lt hbad)
        have CI := (by have := is_any wr g r' [41] HC.out.rd; rw [hi] at this; exact Lib.hid this : Hid (Calls Tryz.prog 51 #[.pointer (some ⟨g, 0, none⟩), .string (bs [41])] wr (EndsB (.bool false) wr)))
        clear hbad hi HC
        go_wp2_with fail
        refine CI.out.mono ?_
        rintro e v1 ⟨rfl, hb1⟩
        have HH1 : Hid (Held w v1.drew g sb qb xs A c) := Lib.hid (HH.out.below hb1.drew)
        have HR1 : Hid (RdM lo v1.drew g r') := Lib.hid (HR.out.below hb1.drew)
        clear hb1 b1 CI HH HR
        go_wp2_with fail
        refine Lex.AtS.start (by kernel_rfl) 7 (fun u => u.heap[w.heap.size + 1]? = some (.cells #[.int .i64 4, .int .i64 0, .string sb, .string qb, .slice A xs.length c] 36 (0, 0))) (by kernel_rfl) (by kernel_rfl) ?_
        generalize v1.drew = u0 at *
        refine Lex.at_take 0 27 (.pointer (some ⟨w.heap.size + 1, 4, none⟩)) rfl rfl (by kernel_rfl) (by decide) (by decide) (fun _ _ _ h => h) rfl HH1.out.ate (fun w' hw' => ?_) ?_
        · go_simp
        go_frame
        refine Lex.at_take 1 28 (.slice A xs.length c) rfl rfl (by kernel_rfl) (by decide) (by decide) (fun _ _ _ h => h) rfl HH1.out.ate (fun w' hw' => ?_) ?_
        · obtain ⟨x0, x1, x2, x3, x4⟩ := five_at hw'
          go_simp
        go_frame
        refine Lex.at_take 2 29 (.pointer (some ⟨g, 0, none⟩)) rfl rfl (by kernel_rfl) (by decide) (by decide) (fun _ _ _ h => h) rfl HH1.out.ate (fun w' hw' => ?_) ?_
        · exact rfl
        go_frame
        have CY := HCR.out u0 r' HR1.out HLT.out
        refine Lex.AtS.call (i := 3) (f := 32) (args := #[.pointer (some ⟨g, 0, none⟩), .int .i64 0]) rfl (by kernel_rfl) (by decide) rfl ?_ ?_
        · go_simp
        refine CY.out.mono ?_
        rintro e v2 ⟨y, rfl, hy1, hy2, hy3, hy4, hy5⟩
        have HH2 := Lib.hid (HH1.out.turned hy5)
        refine ⟨exV y, rfl, HH2.out.ate, ?_⟩
        rw [exV_eq]
        have HY1 := Lib.hid hy1
        have HY2 := Lib.hid hy2
        have HY3 := Lib.hid hy3
        have HY4 := Lib.hid hy4
        have HSZ : Hid (w.heap.size + 2 ≤ u0.heap.size) := Lib.hid (by have := lt_of_heap HH1.out.ate; omega)
        have HOB : Hid (∀ b, (Value.slice A xs.length c).ownBlock = some b → b < u0.heap.size) := Lib.hid (fun b hb => (HH1.out.own.lt b hb).2)
        clear hy1 hy2 hy3 hy4 hy5 CY HH1 HR1
        go_frame
        have HB3 := Lib.hid (ball_new v2 #[.int .i64 y.op, .int .i64 y.n, .string y.s, .string y.q, .slice y.a y.x.length y.c] 36)
        have HN3 := Lib.hid (new_at v2 #[.int .i64 y.op, .int .i64 y.n, .string y.s, .string y.q, .slice y.a y.x.length y.c] 36)
        have HH3 := Lib.hid (HH2.out.below HB3.out)
        have HR3 := Lib.hid (HY4.out.below HB3.out)
        have HY3' := Lib.hid (Tre.ExIn.below HY2.out HB3.out)
        refine Lex.at_run 4 31 (.slice (some ⟨v2.heap.size, 0, none⟩) 1 1) (v2.alloc (.cells #[.int .i64 y.op, .int .i64 y.n, .string y.s, .string y.q, .slice y.a y.x.length y.c] 36)) rfl rfl (by kernel_rfl) (by decide) rfl ?_ ?_ ?_
        · go_simp
        · exact HH3.out.ate
        go_frame
        clear HB3 HH2 HY2 HY4
        generalize (v2.alloc (.cells #[.int .i64 y.op, .int .i64 y.n, .string y.s, .string y.q, .slice y.a y.x.length y.c] 36)) = u1 at *
        generalize v2.heap.size = yb at *
        obtain ⟨vv, u2, hap, how, hgr, hbo⟩ := app_ex u1 (w.heap.size + 2) (.slice A xs.length c) xs y yb HH3.out.own HN3.out (by have := HLN.out; omega) (by have := lt_of_heap HH3.out.ate; omega)
        obtain ⟨A2, n2, c2, rfl, hn2⟩ : ∃ A m c, vv = .slice A m c ∧ m = (xs ++ [y]).length := by obtain ⟨A, c, e, -⟩ := how.form; exact ⟨A, _, c, e, rfl⟩
        have HAP := Lib.hid hap
        have T2 : Turn (Value.slice A xs.length c).ownBlock.toList u1 u2 := (Turn.refl _ u1).grown hgr (fun k hk => .inl (by simp [hk]))
        have hlo2 : ∀ b ∈ (Value.slice A xs.length c).ownBlock.toList, w.heap.size + 2 ≤ b ∧ b < u1.heap.size := fun b hb => HH3.out.own.lt b (by simpa using hb)
        have HS2 : Hid (u2.heap[w.heap.size + 1]? = some (.cells #[.int .i64 4, .int .i64 0, .string sb, .string qb, .slice A xs.length c] 36 (0, 0))) := Lib.hid ((T2.block _ (lt_of_heap HH3.out.ate) (fun hm => by have := (hlo2 _ hm).1; omega)).trans HH3.out.ate)
        have HH4 : Hid (Held w (u2.setCell ⟨w.heap.size + 1, 4, none⟩ (.slice A2 n2 c2)) g sb qb (xs ++ [y]) A2 c2) := Lib.hid (by
          subst hn2
          exact HH3.out.more HY3'.out HY3.out HOB.out HSZ.out how hgr hbo)
        have HR4 : Hid (RdM lo (u2.setCell ⟨w.heap.size + 1, 4, none⟩ (.slice A2 n2 c2)) g (tell (.row 0) r').2) := Lib.hid ((HR3.out.buts T2 (fun b hb => by have := (hlo2 b hb).1; have := HLO.out; omega)).but ((Turn.refl [w.heap.size + 1] u2).setCell (.inl (by simp)) _) (by have := HLO.out; omega))
        have HN2 := Lib.hid hn2
        clear hap how hgr hbo T2 hlo2 HN3 HR3 HY3' hn2
        refine at_appX 5 32 (.slice A2 n2 c2) u2 rfl rfl (by kernel_rfl) (by decide) rfl (.tmp 28) (.tmp 31) rfl (.slice A xs.length c) (.slice (some ⟨yb, 0, none⟩) 1 1) rfl rfl HAP.out HS2.out ?_
        go_frame
        clear HAP HH3
        refine Lex.at_take 6 33 (.pointer (some ⟨w.heap.size + 1, 4, none⟩)) rfl rfl (by kernel_rfl) (by decide) (by decide) (fun _ _ _ h => h) rfl HS2.out (fun w' hw' => ?_) ?_
        · go_simp
        go_frame
        obtain ⟨x0, x1, x2, x3, x4⟩ := five_at HS2.out
        have f4 := free_at HS2.out 4
        refine Lex.AtS.last (i := 7) (w' := u2.setCell ⟨w.heap.size + 1, 4, none⟩ (.slice A2 n2 c2)) rfl (by kernel_rfl) (by kernel_rfl) (by decide) rfl ?_ ?_
        · go_simp
        go_frame
        clear x0 x1 x2 x3 x4 f4 HS2
        have HL2 := Lib.hid (tell_lenR (.row 0) r')
        generalize u2.setCell ⟨w.heap.size + 1, 4, none⟩ (.slice A2 n2 c2) = u4 at *
        obtain ⟨zs, hzs⟩ : ∃ zs, xs ++ [y] = zs := ⟨_, rfl⟩
        have HZ : Hid (zs.map core = xs.map core ++ [(tell (.row 0) r').1]) := Lib.hid (by rw [← hzs, List.map_append, List.map_cons, List.map_nil, HY1.out])
        have HZL : Hid (zs.length = xs.length + 1) := Lib.hid (by rw [← hzs, List.length_append]; rfl)
        rw [hzs] at HH4
        clear hzs HN2 HY1 HY3 HSZ HOB
        rcases Bool.eq_false_or_eq_true (isW (tell (.row 0) r').2 [44]) with hc | hc
        · have HC4 := Lib.hid (lenR_pos hc)
          have HTL := Lib.hid (lenR_tl (tell (.row 0) r').2)
          have CS := Lib.hid (skip_yes u4 g (tell (.row 0) r').2 [44] HR4.out hc)
          rcases Bool.eq_false_or_eq_true (isW (tl (tell (.row 0) r').2) [41]) with hd | hd
          · have HO := Lib.hid (told_bad HTO.out HBA.out HI.out hc hd)
            rw [← HZ.out] at HO
            have CI := fun w' (h' : RdM lo w' g (tl (tell (.row 0) r').2)) => (by have := is_any w' g (tl (tell (.row 0) r').2) [41] h'; rw [hd] at this; exact Lib.hid this : Hid (Calls Tryz.prog 51 #[.pointer (some ⟨g, 0, none⟩), .string (bs [41])] w' (EndsB (.bool true) w')))
            clear hc hd HTO
            generalize (tell (.row 0) r').2 = r2 at *
            go_wp2_with fail
            refine CS.out.mono ?_
            rintro e v5 ⟨rfl, h1, h2⟩
            have CI5 := CI _ h1
            have HH5 := Lib.hid (HH4.out.turned h2)
            have HR5 := Lib.hid h1
            clear h1 h2 CS CI HH4 HR4
            go_wp2_with fail
            refine CI5.out.mono ?_
            rintro e v6 ⟨rfl, hb6⟩
            have HH6 := Lib.hid (HH5.out.below hb6)
            have HR6 := Lib.hid (HR5.out.below hb6)
            clear hb6 CI5 HH5 HR5
            obtain ⟨a6, c6, hrd6, hsp⟩ := HR6.out.spoil
            have HSP := Lib.hid hsp
            have b1 := cell_at hrd6 1
            have fb1 := free_at hrd6 1
            simp only [List.getElem?_toArray, List.getElem?_cons_succ, List.getElem?_cons_zero] at b1
            clear hrd6 hsp
            have HN6 : Hid (CallAt lo w (v6.setCell ⟨g, 1, none⟩ (.bool true)) g sb qb (wordS (tl r) 1 false) s0 s0 r (badR (tl r2)) zs A2 c2) := Lib.hid ⟨HSP.out, HH6.out.turned ((Turn.refl [g] v6).setCell (.inl (by simp)) _), HO.out, by
              have := HLN.out
              have := HL2.out
              have := HC4.out
              have := HZL.out
              rw [lenR_badR]
              omega, fun h => by cases h⟩
            go_wp2_with fail
            go_roundw
            case rel => exact ⟨_, zs, A2, c2, HN6⟩
            case measure =>
              rw [HN6.out.rd.rem, HM.out, lenR_badR]
              have := HL2.out
              have := HC4.out
              omega
          · have HO := Lib.hid (told_more HTO.out HBA.out HI.out hc hd)
            rw [← HZ.out] at HO
            have CI := fun w' (h' : RdM lo w' g (tl (tell (.row 0) r').2)) => (by have := is_any w' g (tl (tell (.row 0) r').2) [41] h'; rw [hd] at this; exact Lib.hid this : Hid (Calls Tryz.prog 51 #[.pointer (some ⟨g, 0, none⟩), .string (bs [41])] w' (EndsB (.bool false) w')))
            clear hc hd HTO
            generalize (tell (.row 0) r').2 = r2 at *
            go_wp2_with fail
            refine CS.out.mono ?_
            rintro e v5 ⟨rfl, h1, h2⟩
            have CI5 := CI _ h1
            have HH5 := Lib.hid (HH4.out.turned h2)
            have HR5 := Lib.hid h1
            clear h1 h2 CS CI HH4 HR4
            go_wp2_with fail
            refine CI5.out.mono ?_
            rintro e v6 ⟨rfl, hb6⟩
            have HN6 : Hid (CallAt lo w v6 g sb qb (wordS (tl r) 1 false) s0 s0 r (tl r2) zs A2 c2) := Lib.hid ⟨HR5.out.below hb6, HH5.out.below hb6, HO.out, by
              have := HLN.out
              have := HL2.out
              have := HC4.out
              have := HZL.out
              have := HTL.out
              omega, fun _ => by
              have := HL2.out
              have := HLT.out
              have := HTL.out
              omega⟩
            clear hb6 CI5 HH5 HR5
            go_wp2_with fail
            go_roundw
            case rel => exact ⟨_, zs, A2, c2, HN6⟩
            case measure =>
              rw [HN6.out.rd.rem, HM.out]
              have := HL2.out
              have := HC4.out
              have := HTL.out
              omega
        · have HO := Lib.hid (told_last HTO.out HBA.out HI.out hc)
          rw [← HZ.out] at HO
          have CS := Lib.hid (skip_no u4 g (tell (.row 0) r').2 [44] HR4.out hc)
          have HXL : Hid (zs.length ≤ 200000) := Lib.hid (by have := HLN.out; have := HZL.out; omega)
          clear hc HTO HZ
          generalize (tell (.row 0) r').2 = r2 at *
          go_wp2_with fail
          refine CS.out.mono ?_
          rintro e v5 ⟨rfl, h1, h2⟩
          have HH := Lib.hid (HH4.out.turned h2)
          have HR := Lib.hid h1
          clear h1 h2 CS HH4 HR4
          have CM := Lib.hid (must_any v5 g r2 [41] HR.out)
          have HXD : Hid (zs.length ≤ 200000) := Lib.hid (by have := HXL.out; omega)
          go_wp2_with fail
          refine CM.out.mono ?_
          rintro e v6 ⟨rfl, h1, h2⟩
          have HH6 := Lib.hid (HH.out.turned h2)
          have HR6 := Lib.hid h1
          clear h1 h2 CM
          try clear b1
          obtain ⟨a6, c6, hrd6, -⟩ := HR6.out.at_
          have b2 := cell_at hrd6 2
          have fb2 := free_at hrd6 2
          simp only [List.getElem?_toArray, List.getElem?_cons_succ, List.getElem?_cons_zero] at b2
          clear hrd6
          have hgl := HH6.out.g
          obtain ⟨x0, x1, x2, x3, x4⟩ := five_at HH6.out.ate
          obtain ⟨y0, y1, y2, y3, y4⟩ := five_at HH6.out.res
          have f0 := free_at HH6.out.res 0
          have f1 := free_at HH6.out.res 1
          have f2 := free_at HH6.out.res 2
          have f3 := free_at HH6.out.res 3
          have f4 := free_at HH6.out.res 4
          have HB7 := Lib.hid (fun B => HR6.out.bigged B)
          have HT7 : ∀ B, Hid (Turn [g] v6 (v6.setCell ⟨g, 2, none⟩ (.bool B))) := fun B => Lib.hid ((Turn.refl [g] v6).setCell (.inl (by simp)) _)
          have HH7 := fun B => Lib.hid (HH6.out.turned (HT7 B).out)
          unfold callEnd at HO
          generalize mustW r2 [41] = r6 at *
          rcases Bool.eq_false_or_eq_true r6.big with hbig | hbig
          · rw [hbig] at b2 HO
            go_wp2_with fail
            have HT8 := Lib.hid (turn5 (v6.setCell ⟨g, 2, none⟩ (.bool true)) w.heap.size (.int .i64 4) (.int .i64 0) (.string sb) (.string qb) (.slice A2 zs.length c2))
            refine bodyPost_ret (results_expr rfl _ _ w.heap.size _ _ _ _ _ rfl (set5 (HH7 true).out.res)) rfl ?_
            exact call_end HLO.out HXD.out HS1.out HQ1.out HS2.out HQ2.out HH6.out (HT7 true).out (HB7.out true) HT8.out (by rw [HO.out, Bool.true_or])
          · rw [hbig] at b2 HO
            go_wp2_with fail
            have HT8 := Lib.hid (turn5 (v6.setCell ⟨g, 2, none⟩ (.bool (decide ((255 : Int) < (zs.length : Int))))) w.heap.size (.int .i64 4) (.int .i64 0) (.string sb) (.string qb) (.slice A2 zs.length c2))
            refine bodyPost_ret (results_expr rfl _ _ w.heap.size _ _ _ _ _ rfl (set5 (HH7 (decide ((255 : Int) < (zs.length : Int)))).out.res)) rfl ?_
            exact call_end HLO.out HXD.out HS1.out HQ1.out HS2.out HQ2.out HH6.out (HT7 (decide ((255 : Int) < (zs.length : Int)))).out (HB7.out (decide ((255 : Int) < (zs.length : Int)))) HT8.out (by rw [HO.out, List.length_map, Bool.false_or, big_eq])
end Go.Proofs.YtlhbhpdpjidpgaaGreatDoor.Prs
