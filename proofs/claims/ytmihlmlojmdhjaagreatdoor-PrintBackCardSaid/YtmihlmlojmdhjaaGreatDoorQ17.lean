/-
  The program's call; its values. Conditions: the reader is known; an expression is told as the plain grammar says.
-/
import Derived.Test.YtmihlmlojmdhjaaGreatDoorQ16
namespace Go.Proofs.YtmihlmlojmdhjaaGreatDoor.Prg
open Go.RowKit Tre Prs
open Lex (Wd wdC wdV bs str Turn)
set_option maxRecDepth 100000
set_option linter.unusedSimpArgs false
variable {lo : Nat}
theorem call_endG {w W w4 w5 w6 w7 : World} {g : Nat} {S Q : ByteArray} {A : Option Addr} {c : Nat} {xs : List Ex} {r3 : PS} {q : Tx × PS} (hlo : lo ≤ w.heap.size) (hg : g < w.heap.size) (hW : w.heap.size + 2 ≤ W.heap.size) (hrow : Row 5 exC w4 A xs) (hlen : xs.length ≤ 200000) (hcap : xs.length ≤ c) (hnew : ∀ ad, A = some ad → W.heap.size ≤ ad.block)
    (hin : ∀ x ∈ xs, ExIn w4 x) (hn : ∀ x ∈ xs, New W.heap.size x) (hS : S.size ≤ maxLen) (hQ : Q.size ≤ maxLen) (t0 : Turn [g] w W) (t1 : Turn [g] W w4) (t2 : Turn [w.heap.size + 1] w4 w5) (t3 : Turn [g] w5 w6) (t4 : Turn [w.heap.size] w6 w7) (hr : RdG lo w6 g r3) (hq : Ag q (.mk 4 0 S.data.toList Q.data.toList (xs.map core)) r3) :
    EvG lo w g q (.returned (.agg #[.int .i64 4, .int .i64 0, .string S, .string Q, .slice A xs.length c])) w7 := by
  have T : Turn [g, w.heap.size, w.heap.size + 1] w4 w7 := (((Turn.refl _ w4).then_ t2 (fun k hk => .inl (by simp at hk; simp [hk]))).then_ t3 (fun k hk => .inl (by simp at hk; simp [hk]))).then_ t4 (fun k hk => .inl (by simp at hk; simp [hk]))
  have hne : ∀ b, W.heap.size ≤ b → b ∉ [g, w.heap.size, w.heap.size + 1] := fun b hb => by simp; omega
  refine ⟨.mk 4 0 S Q A c xs, r3, rfl, by rw [core_eq]; exact hq, ExIn.mk ⟨Row.kept hrow T.size (fun b o e hlt => T.block b hlt (hne b (hnew _ e))), by show xs.length ≤ most; unfold most; omega, hcap, hS, hQ⟩ (fun x hx => ?_), fun y hy ad e => ?_, hr.but t4 hlo, ?_⟩
  · exact ExIn.off (hin x hx) (New.off (hn x hx) (fun k hk => by simp at hk; omega)) T
  · rw [flat_eq] at hy
    rcases List.mem_cons.1 hy with rfl | hy
    · have := hnew ad e
      omega
    · obtain ⟨x, hx, hy⟩ := List.mem_flatMap.1 hy
      have := hn x hx y hy ad e
      omega
  · exact (((t0.trans t1).then_ t2 (fun k hk => by simp at hk; subst hk; exact .inr (by omega))).trans t3).then_ t4 (fun k hk => by simp at hk; subst hk; exact .inr (Nat.le_refl _))
theorem two_new_at (w : World) (cs ds : Array Value) (T U : TypeId) : ((w.alloc (.cells cs T)).alloc (.cells ds U)).heap[w.heap.size]? = some (.cells cs T (0, 0)) ∧ ((w.alloc (.cells cs T)).alloc (.cells ds U)).heap[w.heap.size + 1]? = some (.cells ds U (0, 0)) := by
  have h1 := new_at w cs T
  have h2 := ball_new (w.alloc (.cells cs T)) ds U
  have h3 := new_at (w.alloc (.cells cs T)) ds U
  refine ⟨(h2.block _ (lt_of_heap h1)).trans h1, ?_⟩
  simpa using h3
theorem two_below (w : World) (cs ds : Array Value) (T U : TypeId) : Below w.heap.size w ((w.alloc (.cells cs T)).alloc (.cells ds U)) := by
  have h1 := ball_new w cs T
  exact h1.trans ((ball_new _ ds U).mono h1.size)
theorem len_eq (n m : Nat) (h : n = m) : (n : Int) = m := by rw [h]
set_option maxHeartbeats 8000000 in
theorem call_plain (w : World) (g : Nat) (r : PS) (s0 : List UInt8) (h : InG lo w g r) (hs0 : s0.length ≤ 1000000) (hi : isW r [46] = false) (CE : ∀ w' r', InG lo w' g r' → lenB r' ≤ lenB r → Hid (Calls Tryz.prog 143 #[.pointer (some ⟨g, 0, none⟩)] w' (EvG lo w' g (tell (.row 0) r')))) :
    Calls Tryz.prog 160 #[.pointer (some ⟨g, 0, none⟩), .string (bs s0)] w (EvG lo w g (tell (.call s0) r)) := by
  have HG := Lib.hid h.rd.lt
  have HLO := Lib.hid h.rd.wlo
  have HSS : Hid ((bs s0).size ≤ maxLen ∧ (bs s0).data.toList = s0) := Lib.hid ⟨by rw [Lex.bs_size]; unfold maxLen; omega, Lex.bs_data _⟩
  have HQ := fun (xs : List Tx) (r' : PS) (h' : AgL r xs r') => Lib.hid (ag_call (s0 := s0) hi h')
  have CH := Lib.hid (fun w' (h' : RdG lo w' g r) => has_no w' g r [46] h' hi)
  have HCE := Lib.hid CE
  have HB2 := Lib.hid (two_below w #[.int .i64 0, .int .i64 0, .string ⟨#[]⟩, .string ⟨#[]⟩, .slice none 0 0] #[.int .i64 4, .int .i64 0, .string (bs s0), .string ⟨#[]⟩, .slice none 0 0] 42 42)
  have HN2 := Lib.hid (two_new_at w #[.int .i64 0, .int .i64 0, .string ⟨#[]⟩, .string ⟨#[]⟩, .slice none 0 0] #[.int .i64 4, .int .i64 0, .string (bs s0), .string ⟨#[]⟩, .slice none 0 0] 42 42)
  have HI := Lib.hid (h.below HB2.out)
  have HSZ : Hid (((w.alloc (.cells #[.int .i64 0, .int .i64 0, .string ⟨#[]⟩, .string ⟨#[]⟩, .slice none 0 0] 42)).alloc (.cells #[.int .i64 4, .int .i64 0, .string (bs s0), .string ⟨#[]⟩, .slice none 0 0] 42)).heap.size = w.heap.size + 2) := Lib.hid (by simp)
  clear h CE hs0 hi
  obtain ⟨S, hS⟩ : ∃ S, bs s0 = S := ⟨_, rfl⟩
  rw [hS] at HSS HB2 HN2 HI HSZ ⊢
  clear hS
  go_enter Tryz.func160, Tryz.ntmps160
  go_wp2_with fail
  refine (CH.out _ HI.out.rd).mono ?_
  rintro e w1 ⟨rfl, h1, h2⟩
  have H1 := Lib.hid (HI.out.step h2 h1)
  have H2 := Lib.hid h2
  have HE1 : Hid (w1.heap[w.heap.size + 1]? = some (.cells #[.int .i64 4, .int .i64 0, .string S, .string ⟨#[]⟩, .slice none 0 0] 42 (0, 0))) := Lib.hid ((h2.block _ (lt_of_heap HN2.out.2) (by have := HG.out; simp; omega)).trans HN2.out.2)
  have HR1 : Hid (w1.heap[w.heap.size]? = some (.cells #[.int .i64 0, .int .i64 0, .string ⟨#[]⟩, .string ⟨#[]⟩, .slice none 0 0] 42 (0, 0))) := Lib.hid ((h2.block _ (lt_of_heap HN2.out.1) (by have := HG.out; simp; omega)).trans HN2.out.1)
  have T1 : Hid (Turn [g] w w1) := Lib.hid (((Turn.refl [g] w).below HB2.out).then_ h2 (fun k hk => .inl hk))
  have W1 : Hid (w.heap.size + 2 ≤ w1.heap.size) := Lib.hid (by have := h2.size; rw [HSZ.out] at this; exact this)
  clear h1 h2 HB2 HN2 HI HSZ H2 CH
  obtain ⟨W, hW⟩ : ∃ W, w1 = W := ⟨_, rfl⟩
  subst hW
  have H3 := Lib.hid H1.out
  have HE3 := Lib.hid HE1.out
  have HR3 := Lib.hid HR1.out
  have T3 := Lib.hid T1.out
  have W3 := Lib.hid W1.out
  have CL := Lib.hid (list_any w1 g _ H3.out (fun w' r' h' hl => HCE.out w' r' h' hl))
  clear H1 HE1 HR1 T1 W1 HCE
  go_wp2_with fail
  refine CL.out.mono ?_
  rintro e w4 ⟨A, c, xs, r4, rfl, ha, hrow, hlen, hcap, hnew, hin, hnn, hr4, ht4⟩
  have HQ4 := HQ _ _ ha
  have HROW := Lib.hid hrow
  have HLEN := Lib.hid hlen
  have HCAP := Lib.hid hcap
  have HNEW := Lib.hid hnew
  have HIN := Lib.hid hin
  have HNN := Lib.hid hnn
  have T4 := Lib.hid ht4
  have HE4 := Lib.hid ((ht4.block _ (lt_of_heap HE3.out) (by have := HG.out; simp; omega)).trans HE3.out)
  have HR4 := Lib.hid ((ht4.block _ (lt_of_heap HR3.out) (by have := HG.out; simp; omega)).trans HR3.out)
  have T5 : Hid (Turn [w.heap.size + 1] w4 (w4.setCell ⟨w.heap.size + 1, 4, none⟩ (.slice A xs.length c))) := Lib.hid ((Turn.refl _ w4).setCell (.inl (by simp)) _)
  have HE5 : Hid ((w4.setCell ⟨w.heap.size + 1, 4, none⟩ (.slice A xs.length c)).heap[w.heap.size + 1]? = some (.cells #[.int .i64 4, .int .i64 0, .string S, .string ⟨#[]⟩, .slice A xs.length c] 42 (0, 0))) := Lib.hid (set_at HE4.out 4 (.slice A xs.length c))
  have HR5 := Lib.hid ((T5.out.block _ (lt_of_heap HR4.out) (by simp)).trans HR4.out)
  have CB := Lib.hid (bound_any _ g r4 xs.length 255 255 rfl (hr4.but T5.out (by have := HLO.out; omega)))
  have fe4 := free_at HE4.out 4
  have e4 := cell_at HE4.out 4
  have q4 := cell_at HE5.out 4
  simp only [List.getElem?_toArray, List.getElem?_cons_succ, List.getElem?_cons_zero] at e4 q4
  have HX5 : Hid (xs.length ≤ 200000) := HLEN
  obtain ⟨n, hn⟩ : ∃ n, xs.length = n := ⟨_, rfl⟩
  have HNL := Lib.hid hn
  rw [hn] at CB HE5 HR5 T5 q4
  clear ha hrow hlen hcap hnew hin hnn hr4 ht4 HE3 HR3 HE4 HR4 CL HQ
  have hn2 : n ≤ 200000 := by have := HLEN.out; omega
  rw [hn]
  clear hn
  go_wp2_with fail
  refine CB.out.mono ?_
  rintro e w6 ⟨rfl, h1, h2⟩
  have H6 := Lib.hid h1
  have T6 := Lib.hid h2
  have HE6 := Lib.hid ((h2.block _ (lt_of_heap HE5.out) (by have := HG.out; simp; omega)).trans HE5.out)
  have HR6 := Lib.hid ((h2.block _ (lt_of_heap HR5.out) (by have := HG.out; simp; omega)).trans HR5.out)
  clear h1 h2 CB HE5 HR5 fe4 e4 q4
  obtain ⟨x0, x1, x2, x3, x4⟩ := five_at HE6.out
  obtain ⟨y0, y1, y2, y3, y4⟩ := five_at HR6.out
  have f0 := free_at HR6.out 0
  have f1 := free_at HR6.out 1
  have f2 := free_at HR6.out 2
  have f3 := free_at HR6.out 3
  have f4 := free_at HR6.out 4
  go_wp2_with fail
  have HT := Lib.hid (turn5 w6 w.heap.size (.int .i64 4) (.int .i64 0) (.string S) (.string ⟨#[]⟩) (.slice A n c))
  refine bodyPost_ret (results_expr rfl _ _ w.heap.size _ _ _ _ _ rfl (set5 HR6.out)) rfl ?_
  have hn := HNL.out
  subst hn
  exact call_endG HLO.out HG.out W3.out HROW.out HLEN.out HCAP.out HNEW.out HIN.out HNN.out HSS.out.1 (by show (⟨#[]⟩ : ByteArray).size ≤ maxLen; unfold maxLen; simp [ByteArray.size]) T3.out T4.out T5.out T6.out HT.out H6.out (by
    have := HQ4.out
    rw [List.length_map] at this
    rw [HSS.out.2]
    exact this)
set_option maxHeartbeats 8000000 in
theorem call_dot (w : World) (g : Nat) (r : PS) (s0 : List UInt8) (h : InG lo w g r) (hs0 : s0.length ≤ 1000000) (hi : isW r [46] = true) (CE : ∀ w' r', InG lo w' g r' → lenB r' ≤ lenB r → Hid (Calls Tryz.prog 143 #[.pointer (some ⟨g, 0, none⟩)] w' (EvG lo w' g (tell (.row 0) r')))) :
    Calls Tryz.prog 160 #[.pointer (some ⟨g, 0, none⟩), .string (bs s0)] w (EvG lo w g (tell (.call s0) r)) := by
  have HG := Lib.hid h.rd.lt
  have HLO := Lib.hid h.rd.wlo
  have HSS : Hid ((bs s0).size ≤ maxLen ∧ (bs s0).data.toList = s0) := Lib.hid ⟨by rw [Lex.bs_size]; unfold maxLen; omega, Lex.bs_data _⟩
  have HQ := fun (xs : List Tx) (r' : PS) (h' : AgL (takeR (tl r) [1]) xs r') => Lib.hid (ag_dot (s0 := s0) hi h')
  have HTZ := Lib.hid (fun w' (h' : RdG lo w' g (tl r)) => (takeS_size h' [1]).1)
  have HTD : Hid ((bs (takeW (tl r) [1]).s).data.toList = (takeW (tl r) [1]).s) := Lib.hid (Lex.bs_data _)
  have HLE := Lib.hid (lenB_tl_le r)
  have HLE2 := Lib.hid (lenB_take (tl r) [1])
  have CH := Lib.hid (fun w' (h' : RdG lo w' g r) => has_yes w' g r [46] h' hi)
  have HCE := Lib.hid CE
  have HB2 := Lib.hid (two_below w #[.int .i64 0, .int .i64 0, .string ⟨#[]⟩, .string ⟨#[]⟩, .slice none 0 0] #[.int .i64 4, .int .i64 0, .string (bs s0), .string ⟨#[]⟩, .slice none 0 0] 42 42)
  have HN2 := Lib.hid (two_new_at w #[.int .i64 0, .int .i64 0, .string ⟨#[]⟩, .string ⟨#[]⟩, .slice none 0 0] #[.int .i64 4, .int .i64 0, .string (bs s0), .string ⟨#[]⟩, .slice none 0 0] 42 42)
  have HI := Lib.hid (h.below HB2.out)
  have HSZ : Hid (((w.alloc (.cells #[.int .i64 0, .int .i64 0, .string ⟨#[]⟩, .string ⟨#[]⟩, .slice none 0 0] 42)).alloc (.cells #[.int .i64 4, .int .i64 0, .string (bs s0), .string ⟨#[]⟩, .slice none 0 0] 42)).heap.size = w.heap.size + 2) := Lib.hid (by simp)
  clear h CE hs0 hi
  obtain ⟨S, hS⟩ : ∃ S, bs s0 = S := ⟨_, rfl⟩
  rw [hS] at HSS HB2 HN2 HI HSZ ⊢
  clear hS
  go_enter Tryz.func160, Tryz.ntmps160
  go_wp2_with fail
  refine (CH.out _ HI.out.rd).mono ?_
  rintro e w1 ⟨rfl, h1, h2⟩
  have H1 := Lib.hid (HI.out.step h2 h1)
  have H2 := Lib.hid h2
  have HE1 : Hid (w1.heap[w.heap.size + 1]? = some (.cells #[.int .i64 4, .int .i64 0, .string S, .string ⟨#[]⟩, .slice none 0 0] 42 (0, 0))) := Lib.hid ((h2.block _ (lt_of_heap HN2.out.2) (by have := HG.out; simp; omega)).trans HN2.out.2)
  have HR1 : Hid (w1.heap[w.heap.size]? = some (.cells #[.int .i64 0, .int .i64 0, .string ⟨#[]⟩, .string ⟨#[]⟩, .slice none 0 0] 42 (0, 0))) := Lib.hid ((h2.block _ (lt_of_heap HN2.out.1) (by have := HG.out; simp; omega)).trans HN2.out.1)
  have T1 : Hid (Turn [g] w w1) := Lib.hid (((Turn.refl [g] w).below HB2.out).then_ h2 (fun k hk => .inl hk))
  have W1 : Hid (w.heap.size + 2 ≤ w1.heap.size) := Lib.hid (by have := h2.size; rw [HSZ.out] at this; exact this)
  clear h1 h2 HB2 HN2 HI HSZ H2 CH
  have CN := Lib.hid (name_any w1 g _ H1.out.rd)
  have HTZ1 := Lib.hid (HTZ.out w1 H1.out.rd)
  obtain ⟨T, hT⟩ : ∃ T, bs (takeW (tl r) [1]).s = T := ⟨_, rfl⟩
  rw [hT] at CN HTD HTZ1
  clear hT HTZ
  go_wp2_with fail
  refine CN.out.mono ?_
  rintro e w2 ⟨rfl, h1, h2⟩
  have H2 := Lib.hid (H1.out.step h2 h1)
  have HE2 := Lib.hid ((h2.block _ (lt_of_heap HE1.out) (by have := HG.out; simp; omega)).trans HE1.out)
  have HR2 := Lib.hid ((h2.block _ (lt_of_heap HR1.out) (by have := HG.out; simp; omega)).trans HR1.out)
  have T2 := Lib.hid (T1.out.trans h2)
  have W2 : Hid (w.heap.size + 2 ≤ w2.heap.size) := Lib.hid (by have := h2.size; have := W1.out; omega)
  clear h1 h2 CN H1 HE1 HR1 T1 W1
  obtain ⟨e0, e1, e2, e3, e4⟩ := five_at HE2.out
  have fe3 := free_at HE2.out 3
  have fe2 := free_at HE2.out 2
  obtain ⟨W, hW⟩ : ∃ W, (w2.setCell ⟨w.heap.size + 1, 3, none⟩ (.string S)).setCell ⟨w.heap.size + 1, 2, none⟩ (.string T) = W := ⟨_, rfl⟩
  have TW : Turn [w.heap.size + 1] w2 W := by rw [← hW]; exact ((Turn.refl _ w2).setCell (.inl (by simp)) _).setCell (.inl (by simp)) _
  have H3 : Hid (InG lo W g (takeR (tl r) [1])) := Lib.hid (H2.out.but TW (by have := HLO.out; omega))
  have HE3 : Hid (W.heap[w.heap.size + 1]? = some (.cells #[.int .i64 4, .int .i64 0, .string T, .string S, .slice none 0 0] 42 (0, 0))) := Lib.hid (by rw [← hW]; exact set_at (set_at HE2.out 3 (.string S)) 2 (.string T))
  have HR3 : Hid (W.heap[w.heap.size]? = some (.cells #[.int .i64 0, .int .i64 0, .string ⟨#[]⟩, .string ⟨#[]⟩, .slice none 0 0] 42 (0, 0))) := Lib.hid ((TW.block _ (lt_of_heap HR2.out) (by simp)).trans HR2.out)
  have T3 : Hid (Turn [g] w W) := Lib.hid (T2.out.then_ TW (fun k hk => by simp at hk; subst hk; exact .inr (by omega)))
  have W3 : Hid (w.heap.size + 2 ≤ W.heap.size) := Lib.hid (by have := TW.size; have := W2.out; omega)
  have CL := Lib.hid (list_any W g _ H3.out (fun w' r' h' hl => HCE.out w' r' h' (by have := HLE.out; have := HLE2.out; omega)))
  rw [← hW] at CL
  clear TW H2 HE2 HR2 T2 W2 HCE
  go_wp2_with fail
  rw [hW] at CL
  clear hW e0 e1 e2 e3 e4 fe3 fe2
  refine CL.out.mono ?_
  rintro e w4 ⟨A, c, xs, r4, rfl, ha, hrow, hlen, hcap, hnew, hin, hnn, hr4, ht4⟩
  have HQ4 := HQ _ _ ha
  have HROW := Lib.hid hrow
  have HLEN := Lib.hid hlen
  have HCAP := Lib.hid hcap
  have HNEW := Lib.hid hnew
  have HIN := Lib.hid hin
  have HNN := Lib.hid hnn
  have T4 := Lib.hid ht4
  have HE4 := Lib.hid ((ht4.block _ (lt_of_heap HE3.out) (by have := HG.out; simp; omega)).trans HE3.out)
  have HR4 := Lib.hid ((ht4.block _ (lt_of_heap HR3.out) (by have := HG.out; simp; omega)).trans HR3.out)
  have T5 : Hid (Turn [w.heap.size + 1] w4 (w4.setCell ⟨w.heap.size + 1, 4, none⟩ (.slice A xs.length c))) := Lib.hid ((Turn.refl _ w4).setCell (.inl (by simp)) _)
  have HE5 : Hid ((w4.setCell ⟨w.heap.size + 1, 4, none⟩ (.slice A xs.length c)).heap[w.heap.size + 1]? = some (.cells #[.int .i64 4, .int .i64 0, .string T, .string S, .slice A xs.length c] 42 (0, 0))) := Lib.hid (set_at HE4.out 4 (.slice A xs.length c))
  have HR5 := Lib.hid ((T5.out.block _ (lt_of_heap HR4.out) (by simp)).trans HR4.out)
  have CB := Lib.hid (bound_any _ g r4 xs.length 255 255 rfl (hr4.but T5.out (by have := HLO.out; omega)))
  have fe4 := free_at HE4.out 4
  have e4 := cell_at HE4.out 4
  have q4 := cell_at HE5.out 4
  simp only [List.getElem?_toArray, List.getElem?_cons_succ, List.getElem?_cons_zero] at e4 q4
  have HX5 : Hid (xs.length ≤ 200000) := HLEN
  obtain ⟨n, hn⟩ : ∃ n, xs.length = n := ⟨_, rfl⟩
  have HNL := Lib.hid hn
  rw [hn] at CB HE5 HR5 T5 q4
  clear ha hrow hlen hcap hnew hin hnn hr4 ht4 HE3 HR3 HE4 HR4 CL HQ
  have hn2 : n ≤ 200000 := by have := HLEN.out; omega
  rw [hn]
  clear hn
  go_wp2_with fail
  refine CB.out.mono ?_
  rintro e w6 ⟨rfl, h1, h2⟩
  have H6 := Lib.hid h1
  have T6 := Lib.hid h2
  have HE6 := Lib.hid ((h2.block _ (lt_of_heap HE5.out) (by have := HG.out; simp; omega)).trans HE5.out)
  have HR6 := Lib.hid ((h2.block _ (lt_of_heap HR5.out) (by have := HG.out; simp; omega)).trans HR5.out)
  clear h1 h2 CB HE5 HR5 fe4 e4 q4
  obtain ⟨x0, x1, x2, x3, x4⟩ := five_at HE6.out
  obtain ⟨y0, y1, y2, y3, y4⟩ := five_at HR6.out
  have f0 := free_at HR6.out 0
  have f1 := free_at HR6.out 1
  have f2 := free_at HR6.out 2
  have f3 := free_at HR6.out 3
  have f4 := free_at HR6.out 4
  go_wp2_with fail
  have HT := Lib.hid (turn5 w6 w.heap.size (.int .i64 4) (.int .i64 0) (.string T) (.string S) (.slice A n c))
  refine bodyPost_ret (results_expr rfl _ _ w.heap.size _ _ _ _ _ rfl (set5 HR6.out)) rfl ?_
  have hn := HNL.out
  subst hn
  exact call_endG HLO.out HG.out W3.out HROW.out HLEN.out HCAP.out HNEW.out HIN.out HNN.out HTZ1.out HSS.out.1 T3.out T4.out T5.out T6.out HT.out H6.out (by
    have := HQ4.out
    rw [List.length_map] at this
    rw [HTD.out, HSS.out.2]
    exact this)
end Go.Proofs.YtmihlmlojmdhjaaGreatDoor.Prg
/- The program's values: names, calls. Conditions: the reader is known; a call is told as the plain grammar says. -/
namespace Go.Proofs.YtmihlmlojmdhjaaGreatDoor.Prg
open Go.RowKit Tre Prs
open Lex (Wd wdC wdV bs str Turn)
set_option maxRecDepth 100000
set_option linter.unusedSimpArgs false
variable {lo : Nat}
theorem at_yes {w : World} {g : Nat} {r : PS} {s : List UInt8} (h : RdG lo w g r) (hi : isW r s = true) : Calls Tryz.prog 114 #[.pointer (some ⟨g, 0, none⟩), .string (bs s)] w (EndsB (.bool true) w) := by
  have := at_any w g r s h
  rwa [hi] at this
theorem at_no {w : World} {g : Nat} {r : PS} {s : List UInt8} (h : RdG lo w g r) (hi : isW r s = false) : Calls Tryz.prog 114 #[.pointer (some ⟨g, 0, none⟩), .string (bs s)] w (EndsB (.bool false) w) := by
  have := at_any w g r s h
  rwa [hi] at this
set_option maxHeartbeats 8000000 in
theorem value_name (w : World) (g : Nat) (r : PS) (h : InG lo w g r) (hv : ValR r) (i1 : isW (takeR r [1]) [46] = false) (i2 : isW (takeR r [1]) [40] = false) :
    Calls Tryz.prog 169 #[.pointer (some ⟨g, 0, none⟩)] w (EvG lo w g (tell .unary r)) := by
  have HQ := Lib.hid (ag_name hv i1 i2)
  have hb := ball_new w #[.int .i64 0, .int .i64 0, .string ⟨#[]⟩, .string ⟨#[]⟩, .slice none 0 0] 42
  have HG := Lib.hid h.rd.lt
  have HB := Lib.hid hb
  have HLO := Lib.hid h.rd.wlo
  have HI := Lib.hid (h.below hb)
  have HSZ := Lib.hid (takeS_size h.rd [1])
  have HSD : Hid ((bs (takeW r [1]).s).data.toList = (takeW r [1]).s) := Lib.hid (Lex.bs_data _)
  have CN := Lib.hid (name_any _ g r HI.out.rd)
  have A1 := Lib.hid (fun w' (h' : RdG lo w' g (takeR r [1])) => at_no h' i1)
  have A2 := Lib.hid (fun w' (h' : RdG lo w' g (takeR r [1])) => at_no h' i2)
  clear h hb hv i1 i2
  obtain ⟨S, hS⟩ : ∃ S, bs (takeW r [1]).s = S := ⟨_, rfl⟩
  rw [hS] at HSZ HSD CN
  clear hS
  go_enter Tryz.func169, Tryz.ntmps169
  go_wp2_with fail
  refine CN.out.mono ?_
  rintro e w1 ⟨rfl, h1, h2⟩
  have H1 := Lib.hid (HI.out.step h2 h1)
  have T1 := Lib.hid h2
  clear h1 h2 CN
  go_wp2_with fail
  refine (A1.out _ H1.out.rd).mono ?_
  rintro e w2 ⟨rfl, hb2⟩
  have H2 := Lib.hid (H1.out.below hb2)
  have T2 := Lib.hid (T1.out.below hb2)
  clear hb2
  go_wp2_with fail
  refine (A2.out _ H2.out.rd).mono ?_
  rintro e w3 ⟨rfl, hb3⟩
  replace H2 := Lib.hid (H2.out.below hb3)
  replace T2 := Lib.hid (T2.out.below hb3)
  clear hb3
  have HR4 := Lib.hid (res_keep HG.out T2.out)
  obtain ⟨y0, y1, y2, y3, y4⟩ := five_at HR4.out
  have f0 := free_at HR4.out 0
  have f1 := free_at HR4.out 1
  have f2 := free_at HR4.out 2
  have f3 := free_at HR4.out 3
  have f4 := free_at HR4.out 4
  go_wp2_with fail
  have HT := Lib.hid (turn5 w3 w.heap.size (.int .i64 3) (.int .i64 0) (.string S) (.string ⟨#[]⟩) (.slice none 0 0))
  refine bodyPost_ret (results_expr rfl _ _ w.heap.size _ _ _ _ _ rfl (set5 HR4.out)) rfl ?_
  exact leaf_endG HLO.out HSZ.out.1 H2.out.rd HB.out T2.out HT.out (by rw [HSD.out]; exact HQ.out)
set_option maxHeartbeats 8000000 in
theorem value_dot (w : World) (g : Nat) (r : PS) (h : InG lo w g r) (hv : ValR r) (i1 : isW (takeR r [1]) [46] = true) (CC : ∀ w', InG lo w' g (takeR r [1]) → Hid (Calls Tryz.prog 160 #[.pointer (some ⟨g, 0, none⟩), .string (bs (takeW r [1]).s)] w' (EvG lo w' g (tell (.call (takeW r [1]).s) (takeR r [1]))))) :
    Calls Tryz.prog 169 #[.pointer (some ⟨g, 0, none⟩)] w (EvG lo w g (tell .unary r)) := by
  have HQ := fun (t : Tx) (r' : PS) (h' : Ag (tell (.call (takeW r [1]).s) (takeR r [1])) t r') => Lib.hid (ag_value hv (.inl i1) h')
  have hb := ball_new w #[.int .i64 0, .int .i64 0, .string ⟨#[]⟩, .string ⟨#[]⟩, .slice none 0 0] 42
  have HG := Lib.hid h.rd.lt
  have HB := Lib.hid hb
  have HLO := Lib.hid h.rd.wlo
  have HI := Lib.hid (h.below hb)
  have HSZ := Lib.hid (takeS_size h.rd [1])
  have HSD : Hid ((bs (takeW r [1]).s).data.toList = (takeW r [1]).s) := Lib.hid (Lex.bs_data _)
  have CN := Lib.hid (name_any _ g r HI.out.rd)
  have A1 := Lib.hid (fun w' (h' : RdG lo w' g (takeR r [1])) => at_yes h' i1)
  clear h hb hv i1
  obtain ⟨S, hS⟩ : ∃ S, bs (takeW r [1]).s = S := ⟨_, rfl⟩
  rw [hS] at HSZ HSD CN CC
  clear hS
  go_enter Tryz.func169, Tryz.ntmps169
  go_wp2_with fail
  refine CN.out.mono ?_
  rintro e w1 ⟨rfl, h1, h2⟩
  have H1 := Lib.hid (HI.out.step h2 h1)
  have T1 := Lib.hid h2
  clear h1 h2 CN
  go_wp2_with fail
  refine (A1.out _ H1.out.rd).mono ?_
  rintro e w2 ⟨rfl, hb2⟩
  have H2 := Lib.hid (H1.out.below hb2)
  have T2 := Lib.hid (T1.out.below hb2)
  clear hb2
  go_wp2_with fail
  refine (CC _ H2.out).out.mono ?_
  rintro e w5 ⟨x, r', rfl, hx1, hx2, hx3, hx4, hx5⟩
  have HX1 := Lib.hid hx1
  have HX2 := Lib.hid hx2
  have HX3 := Lib.hid hx3
  have HX4 := Lib.hid hx4
  have HX5 := Lib.hid hx5
  rw [exV_eq]
  have hr1 := res_keep HG.out T2.out
  have HR5 := Lib.hid ((hx5.block _ (lt_of_heap hr1) (by have := HG.out; simp; omega)).trans hr1)
  clear hx1 hx2 hx3 hx4 hx5 hr1
  obtain ⟨y0, y1, y2, y3, y4⟩ := five_at HR5.out
  have f0 := free_at HR5.out 0
  have f1 := free_at HR5.out 1
  have f2 := free_at HR5.out 2
  have f3 := free_at HR5.out 3
  have f4 := free_at HR5.out 4
  go_wp2_with fail
  have HT := Lib.hid (turn5 w5 w.heap.size (.int .i64 x.op) (.int .i64 x.n) (.string x.s) (.string x.q) (.slice x.a x.x.length x.c))
  refine bodyPost_ret (results_expr rfl _ _ w.heap.size _ _ _ _ _ rfl (set5 HR5.out)) rfl ?_
  exact pass_endG (by have := T2.out.size; simp at this; omega) HLO.out HX2.out HX3.out HB.out T2.out HX5.out HX4.out HT.out (HQ _ _ HX1.out).out
set_option maxHeartbeats 8000000 in
theorem value_call (w : World) (g : Nat) (r : PS) (h : InG lo w g r) (hv : ValR r) (i1 : isW (takeR r [1]) [46] = false) (i2 : isW (takeR r [1]) [40] = true) (CC : ∀ w', InG lo w' g (takeR r [1]) → Hid (Calls Tryz.prog 160 #[.pointer (some ⟨g, 0, none⟩), .string (bs (takeW r [1]).s)] w' (EvG lo w' g (tell (.call (takeW r [1]).s) (takeR r [1]))))) :
    Calls Tryz.prog 169 #[.pointer (some ⟨g, 0, none⟩)] w (EvG lo w g (tell .unary r)) := by
  have HQ := fun (t : Tx) (r' : PS) (h' : Ag (tell (.call (takeW r [1]).s) (takeR r [1])) t r') => Lib.hid (ag_value hv (.inr i2) h')
  have hb := ball_new w #[.int .i64 0, .int .i64 0, .string ⟨#[]⟩, .string ⟨#[]⟩, .slice none 0 0] 42
  have HG := Lib.hid h.rd.lt
  have HB := Lib.hid hb
  have HLO := Lib.hid h.rd.wlo
  have HI := Lib.hid (h.below hb)
  have HSZ := Lib.hid (takeS_size h.rd [1])
  have HSD : Hid ((bs (takeW r [1]).s).data.toList = (takeW r [1]).s) := Lib.hid (Lex.bs_data _)
  have CN := Lib.hid (name_any _ g r HI.out.rd)
  have A1 := Lib.hid (fun w' (h' : RdG lo w' g (takeR r [1])) => at_no h' i1)
  have A2 := Lib.hid (fun w' (h' : RdG lo w' g (takeR r [1])) => at_yes h' i2)
  clear h hb hv i1 i2
  obtain ⟨S, hS⟩ : ∃ S, bs (takeW r [1]).s = S := ⟨_, rfl⟩
  rw [hS] at HSZ HSD CN CC
  clear hS
  go_enter Tryz.func169, Tryz.ntmps169
  go_wp2_with fail
  refine CN.out.mono ?_
  rintro e w1 ⟨rfl, h1, h2⟩
  have H1 := Lib.hid (HI.out.step h2 h1)
  have T1 := Lib.hid h2
  clear h1 h2 CN
  go_wp2_with fail
  refine (A1.out _ H1.out.rd).mono ?_
  rintro e w2 ⟨rfl, hb2⟩
  have H2 := Lib.hid (H1.out.below hb2)
  have T2 := Lib.hid (T1.out.below hb2)
  clear hb2
  go_wp2_with fail
  refine (A2.out _ H2.out.rd).mono ?_
  rintro e w3 ⟨rfl, hb3⟩
  replace H2 := Lib.hid (H2.out.below hb3)
  replace T2 := Lib.hid (T2.out.below hb3)
  clear hb3
  go_wp2_with fail
  refine (CC _ H2.out).out.mono ?_
  rintro e w5 ⟨x, r', rfl, hx1, hx2, hx3, hx4, hx5⟩
  have HX1 := Lib.hid hx1
  have HX2 := Lib.hid hx2
  have HX3 := Lib.hid hx3
  have HX4 := Lib.hid hx4
  have HX5 := Lib.hid hx5
  rw [exV_eq]
  have hr1 := res_keep HG.out T2.out
  have HR5 := Lib.hid ((hx5.block _ (lt_of_heap hr1) (by have := HG.out; simp; omega)).trans hr1)
  clear hx1 hx2 hx3 hx4 hx5 hr1
  obtain ⟨y0, y1, y2, y3, y4⟩ := five_at HR5.out
  have f0 := free_at HR5.out 0
  have f1 := free_at HR5.out 1
  have f2 := free_at HR5.out 2
  have f3 := free_at HR5.out 3
  have f4 := free_at HR5.out 4
  go_wp2_with fail
  have HT := Lib.hid (turn5 w5 w.heap.size (.int .i64 x.op) (.int .i64 x.n) (.string x.s) (.string x.q) (.slice x.a x.x.length x.c))
  refine bodyPost_ret (results_expr rfl _ _ w.heap.size _ _ _ _ _ rfl (set5 HR5.out)) rfl ?_
  exact pass_endG (by have := T2.out.size; simp at this; omega) HLO.out HX2.out HX3.out HB.out T2.out HX5.out HX4.out HT.out (HQ _ _ HX1.out).out
end Go.Proofs.YtmihlmlojmdhjaaGreatDoor.Prg
/- A row of ops of one level, as the program's closure reads it. Conditions: the reader is known; what it is handed tells the row of the next level. -/
namespace Go.Proofs.YtmihlmlojmdhjaaGreatDoor.Prg
open Go.RowKit Tre Prs
open Lex (Wd wdC wdV bs str Turn)
set_option maxRecDepth 100000
set_option linter.unusedSimpArgs false
variable {lo : Nat}
/-- What the loop knows. -/
structure RowG (lo : Nat) (w wr : World) (g xb k0 : Nat) (r r' : PS) (x : Ex) : Prop where
  rd : InG lo wr g (opR k0 r')
  ein : ExIn wr x
  new : New (w.heap.size + 1) x
  off : Off [xb] x
  atx : wr.heap[xb]? = some (.cells #[.int .i64 x.op, .int .i64 x.n, .string x.s, .string x.q, .slice x.a x.x.length x.c] 42 (0, 0))
  res : wr.heap[w.heap.size]? = some (.cells #[.int .i64 0, .int .i64 0, .string ⟨#[]⟩, .string ⟨#[]⟩, .slice none 0 0] 42 (0, 0))
  turn : Turn [g] w wr
  told : AgR k0 r (core x) r'
  le : lenB (opR k0 r') ≤ lenB r
/-- The variables that the closure holds. -/
structure Capt (w : World) (g pb rb lb : Nat) (V : Value) (L : Nat) : Prop where
  p : w.heap[pb]? = some (.cells #[V] 166 (0, 0))
  r : w.heap[rb]? = some (.cells #[.pointer (some ⟨g, 0, none⟩)] 87 (0, 0))
  l : w.heap[lb]? = some (.cells #[.int .i64 L] 3 (0, 0))
  np : pb ≠ g
  nr : rb ≠ g
  nl : lb ≠ g
theorem Capt.turn {w w' : World} {g pb rb lb : Nat} {V : Value} {L : Nat} (h : Capt w g pb rb lb V L) (ht : Turn [g] w w') : Capt w' g pb rb lb V L :=
  ⟨(ht.block _ (lt_of_heap h.p) (by simpa using h.np)).trans h.p, (ht.block _ (lt_of_heap h.r) (by simpa using h.nr)).trans h.r, (ht.block _ (lt_of_heap h.l) (by simpa using h.nl)).trans h.l, h.np, h.nr, h.nl⟩
theorem Capt.below {w w' : World} {g pb rb lb : Nat} {V : Value} {L : Nat} (h : Capt w g pb rb lb V L) (ht : Below w.heap.size w w') : Capt w' g pb rb lb V L := h.turn ((Turn.refl [g] w).below ht)
theorem Capt.cells {w : World} {g pb rb lb : Nat} {V : Value} {L : Nat} (h : Capt w g pb rb lb V L) : w.cell? ⟨pb, 0, none⟩ = some V ∧ w.cell? ⟨rb, 0, none⟩ = some (.pointer (some ⟨g, 0, none⟩)) ∧ w.cell? ⟨lb, 0, none⟩ = some (.int .i64 L) := ⟨cell_at h.p 0, cell_at h.r 0, cell_at h.l 0⟩
theorem opR_zero {k : Nat} {r : PS} (h : opN k r = 0) : opR k r = r := by
  unfold opN at h
  unfold opR
  cases hf : (level k).find? (fun p => isW r p.1) with
  | none => rfl
  | some p =>
    rw [hf] at h
    exact absurd h (level_pos p (List.mem_of_find?_eq_some hf))
theorem row_endG {w wr w4 : World} {g xb k0 : Nat} {r r' r2 : PS} {x : Ex} (h : RowG lo w wr g xb k0 r r' x) (hlo : lo ≤ w.heap.size) (ht : Turn [w.heap.size] wr w4) (hr : RdG lo wr g r2) (ho : Ag (tell (.row k0) r) (core x) r2) :
    EvG lo w g (tell (.row k0) r) (.returned (.agg #[.int .i64 x.op, .int .i64 x.n, .string x.s, .string x.q, .slice x.a x.x.length x.c])) w4 :=
  ⟨x, r2, by rw [exV_eq], ho, ExIn.off h.ein (New.off h.new (fun k hk => by simp at hk; omega)) ht, h.new.mono (by omega), hr.but ht hlo, h.turn.then_ ht (fun k hk => by simp at hk; subst hk; exact .inr (Nat.le_refl _))⟩
set_option maxHeartbeats 8000000 in
theorem row1_any (w : World) (g : Nat) (r : PS) (L k0 pb rb lb f : Nat) (fa fc : Array Value) (hL : L + k0 = 4) (h : InG lo w g r) (hc : Capt w g pb rb lb (.func (.func f) fa fc) L) (hcf : ∀ w', (callFunc f (fa ++ fc)).run Tryz.prog w' = .ok (.enter f (fa ++ fc)) w')
    (CP : ∀ w' r', InG lo w' g r' → Turn [g] w w' → lenB r' ≤ lenB r → Hid (Calls Tryz.prog f (fa ++ fc) w' (EvG lo w' g (tell (.row (k0 + 1)) r')))) :
    Calls Tryz.prog 170 #[.pointer (some ⟨pb, 0, none⟩), .pointer (some ⟨rb, 0, none⟩), .pointer (some ⟨lb, 0, none⟩)] w (EvG lo w g (tell (.row k0) r)) := by
  have hb := ball_new w #[.int .i64 0, .int .i64 0, .string ⟨#[]⟩, .string ⟨#[]⟩, .slice none 0 0] 42
  have HN := Lib.hid (new_at w #[.int .i64 0, .int .i64 0, .string ⟨#[]⟩, .string ⟨#[]⟩, .slice none 0 0] 42)
  have HG := Lib.hid h.rd.lt
  have HB := Lib.hid hb
  have HLO := Lib.hid h.rd.wlo
  have HGL := Lib.hid h.rd.glo
  have C0 := CP _ _ (h.below hb) ((Turn.refl [g] w).below hb) (Nat.le_refl _)
  have HC := Lib.hid hc
  have hc1 := hc.below hb
  obtain ⟨p1, p2, p3⟩ := hc1.cells
  have HK : Hid (k0 ≤ 4 ∧ L ≤ 4 ∧ 4 - L = k0) := Lib.hid ⟨by omega, by omega, by omega⟩
  have HCP := Lib.hid CP
  have HIN := Lib.hid (h.below hb)
  clear h hb CP hc hc1 hL
  go_enter Tryz.func170, Tryz.ntmps170
  go_wp2_with fail
  refine C0.out.mono ?_
  rintro e w1 ⟨x, r1, rfl, hx1, hx2, hx3, hx4, hx5⟩
  have HX1 := Lib.hid hx1
  have HX2 := Lib.hid hx2
  have HX3 := Lib.hid hx3
  have HX4 := Lib.hid hx4
  have HX5 := Lib.hid hx5
  rw [exV_eq]
  have HB1 := Lib.hid (ball_new w1 #[.int .i64 x.op, .int .i64 x.n, .string x.s, .string x.q, .slice x.a x.x.length x.c] 42)
  have HN1 := Lib.hid (new_at w1 #[.int .i64 x.op, .int .i64 x.n, .string x.s, .string x.q, .slice x.a x.x.length x.c] 42)
  have TW1 : Hid (Turn [g] w w1) := Lib.hid (((Turn.refl [g] w).below HB.out).then_ hx5 (fun k hk => .inl hk))
  have HI1 : Hid (InG lo (w1.alloc (.cells #[.int .i64 x.op, .int .i64 x.n, .string x.s, .string x.q, .slice x.a x.x.length x.c] 42)) g r1) := Lib.hid ((HIN.out.step hx5 hx4).below HB1.out)
  have HCA := Lib.hid (HC.out.turn (TW1.out.below HB1.out))
  have CO := Lib.hid (op_any _ g r1 L HK.out.2.1 HI1.out.rd HI1.out.sg)
  rw [HK.out.2.2] at CO
  have hc1 := HC.out.turn TW1.out
  obtain ⟨p1', p2', p3'⟩ := HCA.out.cells
  clear hx1 hx2 hx3 hx4 hx5 C0 hc1 p1 p2 p3
  go_wp2_with fail
  refine CO.out.mono ?_
  rintro e w2 ⟨rfl, h1, h2⟩
  have HXB : Hid (w.heap.size < w1.heap.size) := Lib.hid (by have := HX5.out.size; simp at this; omega)
  have START : Hid (RowG lo w w2 g w1.heap.size k0 r r1 x) := Lib.hid (by
    have hn := HX4.out
    have e0 : (w.alloc (.cells #[.int .i64 0, .int .i64 0, .string ⟨#[]⟩, .string ⟨#[]⟩, .slice none 0 0] 42)).heap.size = w.heap.size + 1 := by simp
    have hx3 := HX3.out
    rw [e0] at hx3
    have hg := HG.out
    have hxb := HXB.out
    have hr1 : w1.heap[w.heap.size]? = _ := (HX5.out.block _ (by simp) (by simp; omega)).trans HN.out
    have hr2 := (HB1.out.block _ (lt_of_heap hr1)).trans hr1
    exact ⟨HI1.out.step h2 h1, ExIn.off (Tre.ExIn.below HX2.out HB1.out) (New.off hx3 (fun k hk => by simp at hk; omega)) h2, hx3, ExIn.fresh HX2.out, (h2.block _ (lt_of_heap HN1.out) (by simp; omega)).trans HN1.out, (h2.block _ (lt_of_heap hr2) (by simp; omega)).trans hr2, (TW1.out.below HB1.out).trans h2, agr_start HK.out.1 HX1.out, by
      have := ag_lenB HX1.out
      have := lenB_op k0 r1
      omega⟩)
  have HPV := HCP
  clear h1 h2 CO HX1 HX2 HX3 HX4 HX5 HB1 HN1 TW1 HI1 HCA p1' p2' p3' HIN HN HB HCP
  generalize w1.heap.size = xb at *
  go_wp2_with fail
  go_loopw [5] (fun o wr => ∃ (r' : PS) (y : Ex), o = .int .i64 (opN k0 r') ∧ Hid (RowG lo w wr g xb k0 r r' y)) (fun o wr => 2 * remG wr g + (if intOf o = 0 then 0 else 1))
  case atStart => exact ⟨r1, x, rfl, START⟩
  case round =>
    clear START
    obtain ⟨r', x, rfl, HR⟩ := hrel
    have HM : Hid (remG wr g = lenB (opR k0 r')) := Lib.hid HR.out.rd.rd.rem
    by_cases h0 : opN k0 r' = 0
    · have HO : Hid (Ag (tell (.row k0) r) (core x) (opR k0 r')) := Lib.hid (by rw [opR_zero h0]; exact agr_end HR.out.told h0)
      obtain ⟨x0, x1, x2, x3, x4⟩ := five_at HR.out.atx
      obtain ⟨y0, y1, y2, y3, y4⟩ := five_at HR.out.res
      have f0 := free_at HR.out.res 0
      have f1 := free_at HR.out.res 1
      have f2 := free_at HR.out.res 2
      have f3 := free_at HR.out.res 3
      have f4 := free_at HR.out.res 4
      have HT := Lib.hid (turn5 wr w.heap.size (.int .i64 x.op) (.int .i64 x.n) (.string x.s) (.string x.q) (.slice x.a x.x.length x.c))
      rw [h0] at *
      clear h0
      go_wp2_with fail
      refine bodyPost_ret (results_expr rfl _ _ w.heap.size _ _ _ _ _ rfl (set5 HR.out.res)) rfl ?_
      exact row_endG HR.out HLO.out HT.out HR.out.rd.rd HO.out
    · have HH0 := Lib.hid h0
      have hb0 : (opN k0 r' != 0) = true := by simpa using h0
      clear h0
      obtain ⟨op, hop⟩ : ∃ op, opN k0 r' = op := ⟨_, rfl⟩
      have HOP := Lib.hid hop
      rw [hop] at hb0 ⊢
      clear hop
      have HCW := Lib.hid (HC.out.turn HR.out.turn)
      go_wp2_with fail
      refine Lex.AtS.start (by kernel_rfl) 6 (fun u => u.heap[xb]? = some (.cells #[.int .i64 x.op, .int .i64 x.n, .string x.s, .string x.q, .slice x.a x.x.length x.c] 42 (0, 0)) ∧ u.heap[pb]? = some (.cells #[.func (.func f) fa fc] 166 (0, 0))) (by kernel_rfl) (by kernel_rfl) ?_
      have HI0 : Hid (InG lo wr.drew g (opR k0 r')) := Lib.hid (HR.out.rd.below (Below.refl _ _).drew)
      have HS0 : Hid (wr.drew.heap[xb]? = some (.cells #[.int .i64 x.op, .int .i64 x.n, .string x.s, .string x.q, .slice x.a x.x.length x.c] 42 (0, 0)) ∧ wr.drew.heap[pb]? = some (.cells #[.func (.func f) fa fc] 166 (0, 0))) := Lib.hid ⟨HR.out.atx, HCW.out.p⟩
      have HT0 : Hid (Turn [g] w wr.drew) := Lib.hid (HR.out.turn.below (Below.refl _ _).drew)
      have HE0 : Hid (ExIn wr.drew x) := Lib.hid (Tre.ExIn.below HR.out.ein (Below.refl _ _).drew)
      have HR0 : Hid (wr.drew.heap[w.heap.size]? = some (.cells #[.int .i64 0, .int .i64 0, .string ⟨#[]⟩, .string ⟨#[]⟩, .slice none 0 0] 42 (0, 0))) := Lib.hid HR.out.res
      have HNW := Lib.hid HR.out.new
      have HOF := Lib.hid HR.out.off
      have HTO := Lib.hid HR.out.told
      have HLE := Lib.hid HR.out.le
      clear HR HCW
      generalize wr.drew = u0 at *
      refine Lex.at_take 0 16 (.int .i64 op) rfl rfl (by kernel_rfl) (by decide) (by decide) (fun _ _ _ h => h) rfl HS0.out (fun w' hw' => ?_) ?_
      · exact rfl
      go_frame
      refine Lex.at_take 1 17 (.agg #[.int .i64 x.op, .int .i64 x.n, .string x.s, .string x.q, .slice x.a x.x.length x.c]) rfl rfl (by kernel_rfl) (by decide) (by decide) (fun _ _ _ h => h) rfl HS0.out (fun w' hw' => ?_) ?_
      · obtain ⟨x0, x1, x2, x3, x4⟩ := five_at hw'.1
        go_simp
      go_frame
      refine Lex.at_take 2 18 (.func (.func f) fa fc) rfl rfl (by kernel_rfl) (by decide) (by decide) (fun _ _ _ h => h) rfl HS0.out (fun w' hw' => ?_) ?_
      · have c0 := cell_at hw'.2 0
        simp only [List.getElem?_toArray, List.getElem?_cons_zero] at c0
        go_simp
      go_frame
      have CY := HPV.out u0 _ HI0.out HT0.out HLE.out
      refine Lex.AtS.call (i := 3) (f := f) (args := fa ++ fc) rfl (by kernel_rfl) (by decide) rfl ?_ ?_
      · go_simp
      refine CY.out.mono ?_
      rintro e v2 ⟨y, r2, rfl, hy1, hy2, hy3, hy4, hy5⟩
      have HXU : Hid (xb < u0.heap.size) := Lib.hid (lt_of_heap HS0.out.1)
      have HS2 : Hid (v2.heap[xb]? = some (.cells #[.int .i64 x.op, .int .i64 x.n, .string x.s, .string x.q, .slice x.a x.x.length x.c] 42 (0, 0)) ∧ v2.heap[pb]? = some (.cells #[.func (.func f) fa fc] 166 (0, 0))) := Lib.hid ⟨(hy5.block _ (lt_of_heap HS0.out.1) (by have := HG.out; have := HXB.out; simp; omega)).trans HS0.out.1, (hy5.block _ (lt_of_heap HS0.out.2) (by simpa using HC.out.np)).trans HS0.out.2⟩
      refine ⟨exV y, rfl, HS2.out, ?_⟩
      rw [exV_eq]
      have HI2 := Lib.hid (HI0.out.step hy5 hy4)
      have HT2 := Lib.hid (HT0.out.trans hy5)
      have HE2 : Hid (ExIn v2 x) := Lib.hid (ExIn.off HE0.out (New.off HNW.out (fun q hq => by have := HG.out; simp at hq; omega)) hy5)
      have HR2 := Lib.hid ((hy5.block _ (lt_of_heap HR0.out) (by have := HG.out; simp; omega)).trans HR0.out)
      have HY1 := Lib.hid hy1
      have HY2 := Lib.hid hy2
      have HY3 := Lib.hid hy3
      have HUV : Hid (u0.heap.size ≤ v2.heap.size) := Lib.hid hy5.size
      clear hy1 hy2 hy3 hy4 hy5 CY HI0 HS0 HT0 HE0 HR0
      go_frame
      have HBU := Lib.hid (ball_new v2 #[.int .i64 x.op, .int .i64 x.n, .string x.s, .string x.q, .slice x.a x.x.length x.c, .int .i64 y.op, .int .i64 y.n, .string y.s, .string y.q, .slice y.a y.x.length y.c] 42)
      have HNU := Lib.hid (new_at v2 #[.int .i64 x.op, .int .i64 x.n, .string x.s, .string x.q, .slice x.a x.x.length x.c, .int .i64 y.op, .int .i64 y.n, .string y.s, .string y.q, .slice y.a y.x.length y.c] 42)
      have HS3 : Hid ((v2.alloc (.cells #[.int .i64 x.op, .int .i64 x.n, .string x.s, .string x.q, .slice x.a x.x.length x.c, .int .i64 y.op, .int .i64 y.n, .string y.s, .string y.q, .slice y.a y.x.length y.c] 42)).heap[xb]? = some (.cells #[.int .i64 x.op, .int .i64 x.n, .string x.s, .string x.q, .slice x.a x.x.length x.c] 42 (0, 0)) ∧ (v2.alloc (.cells #[.int .i64 x.op, .int .i64 x.n, .string x.s, .string x.q, .slice x.a x.x.length x.c, .int .i64 y.op, .int .i64 y.n, .string y.s, .string y.q, .slice y.a y.x.length y.c] 42)).heap[pb]? = some (.cells #[.func (.func f) fa fc] 166 (0, 0))) := Lib.hid ⟨(HBU.out.block _ (lt_of_heap HS2.out.1)).trans HS2.out.1, (HBU.out.block _ (lt_of_heap HS2.out.2)).trans HS2.out.2⟩
      refine Lex.at_run 4 20 (.slice (some ⟨v2.heap.size, 0, none⟩) 2 2) (v2.alloc (.cells #[.int .i64 x.op, .int .i64 x.n, .string x.s, .string x.q, .slice x.a x.x.length x.c, .int .i64 y.op, .int .i64 y.n, .string y.s, .string y.q, .slice y.a y.x.length y.c] 42)) rfl rfl (by kernel_rfl) (by decide) rfl ?_ ?_ ?_
      · go_simp
      · exact HS3.out
      go_frame
      have HI3 := Lib.hid (HI2.out.below HBU.out)
      have HT3 := Lib.hid (HT2.out.below HBU.out)
      have HE3 : Hid (ExIn (v2.alloc (.cells #[.int .i64 x.op, .int .i64 x.n, .string x.s, .string x.q, .slice x.a x.x.length x.c, .int .i64 y.op, .int .i64 y.n, .string y.s, .string y.q, .slice y.a y.x.length y.c] 42)) x) := Lib.hid (Tre.ExIn.below HE2.out HBU.out)
      have HY3I : Hid (ExIn (v2.alloc (.cells #[.int .i64 x.op, .int .i64 x.n, .string x.s, .string x.q, .slice x.a x.x.length x.c, .int .i64 y.op, .int .i64 y.n, .string y.s, .string y.q, .slice y.a y.x.length y.c] 42)) y) := Lib.hid (Tre.ExIn.below HY2.out HBU.out)
      have HR3 := Lib.hid ((HBU.out.block _ (lt_of_heap HR2.out)).trans HR2.out)
      clear HBU HI2 HT2 HE2 HR2 HY2 HS2
      generalize (v2.alloc (.cells #[.int .i64 x.op, .int .i64 x.n, .string x.s, .string x.q, .slice x.a x.x.length x.c, .int .i64 y.op, .int .i64 y.n, .string y.s, .string y.q, .slice y.a y.x.length y.c] 42)) = u1 at *
      generalize v2.heap.size = ub at *
      refine Lex.at_take 5 21 (.agg #[.int .i64 op, .int .i64 0, .string ⟨#[]⟩, .string ⟨#[]⟩, .slice (some ⟨ub, 0, none⟩) 2 2]) rfl rfl (by kernel_rfl) (by decide) (by decide) (fun _ _ _ h => h) rfl HS3.out (fun w' hw' => ?_) ?_
      · go_simp
      go_frame
      have TT := Lib.hid (turn5 u1 xb (.int .i64 op) (.int .i64 0) (.string ⟨#[]⟩) (.string ⟨#[]⟩) (.slice (some ⟨ub, 0, none⟩) 2 2))
      have HA : Hid (ExIn (((((u1.setCell ⟨xb, 0, none⟩ (.int .i64 op)).setCell ⟨xb, 1, none⟩ (.int .i64 0)).setCell ⟨xb, 2, none⟩ (.string ⟨#[]⟩)).setCell ⟨xb, 3, none⟩ (.string ⟨#[]⟩)).setCell ⟨xb, 4, none⟩ (.slice (some ⟨ub, 0, none⟩) 2 2)) (.mk op 0 ⟨#[]⟩ ⟨#[]⟩ (some ⟨ub, 0, none⟩) 2 [x, y]) ∧ New (w.heap.size + 1) (.mk op 0 ⟨#[]⟩ ⟨#[]⟩ (some ⟨ub, 0, none⟩) 2 [x, y]) ∧ Off [xb] (.mk op 0 ⟨#[]⟩ ⟨#[]⟩ (some ⟨ub, 0, none⟩) 2 [x, y])) := Lib.hid (by
        have hx := HXB.out
        have hu := HXU.out
        have hv := HUV.out
        have oy : Off [xb] y := New.off HY3.out (fun b hb => by simp at hb; omega)
        have o2 : Off [xb] (.mk op 0 ⟨#[]⟩ ⟨#[]⟩ (some ⟨ub, 0, none⟩) 2 [x, y]) := two_off HOF.out oy (by simp; omega)
        exact ⟨ExIn.off (two_in HE3.out HY3I.out HNU.out) o2 TT.out, two_new HNW.out (HY3.out.mono (by omega)) (by omega), o2⟩)
      have HAG : Hid (AgR k0 r (core (.mk op 0 ⟨#[]⟩ ⟨#[]⟩ (some ⟨ub, 0, none⟩) 2 [x, y])) r2) := Lib.hid (by
        have := agr_more HTO.out HH0.out HY1.out
        rw [HOP.out] at this
        have e : core (.mk op 0 ⟨#[]⟩ ⟨#[]⟩ (some ⟨ub, 0, none⟩) 2 [x, y]) = .mk op 0 [] [] [core x, core y] := by rw [core_eq]; rfl
        rw [e]
        exact this)
      have HL2 := Lib.hid (ag_lenB HY1.out)
      have HLT := Lib.hid (lenB_op_lt HH0.out)
      obtain ⟨x0, x1, x2, x3, x4⟩ := five_at HS3.out.1
      have f0 := free_at HS3.out.1 0
      have f1 := free_at HS3.out.1 1
      have f2 := free_at HS3.out.1 2
      have f3 := free_at HS3.out.1 3
      have f4 := free_at HS3.out.1 4
      refine Lex.AtS.last (i := 6) (w' := (((((u1.setCell ⟨xb, 0, none⟩ (.int .i64 op)).setCell ⟨xb, 1, none⟩ (.int .i64 0)).setCell ⟨xb, 2, none⟩ (.string ⟨#[]⟩)).setCell ⟨xb, 3, none⟩ (.string ⟨#[]⟩)).setCell ⟨xb, 4, none⟩ (.slice (some ⟨ub, 0, none⟩) 2 2))) rfl (by kernel_rfl) (by kernel_rfl) (by decide) rfl ?_ ?_
      · go_simp
      go_frame
      have HI4 := Lib.hid (HI3.out.but TT.out (by have := HLO.out; have := HXB.out; omega))
      have HT4 := Lib.hid (HT3.out.then_ TT.out (fun q hq => by have := HXB.out; simp at hq; subst hq; exact .inr (by omega)))
      have HX4 := Lib.hid (set5 HS3.out.1 (v0 := .int .i64 op) (v1 := .int .i64 0) (v2 := .string ⟨#[]⟩) (v3 := .string ⟨#[]⟩) (v4 := .slice (some ⟨ub, 0, none⟩) 2 2))
      have HR4 := Lib.hid ((TT.out.block _ (lt_of_heap HR3.out) (by have := HXB.out; simp; omega)).trans HR3.out)
      clear x0 x1 x2 x3 x4 f0 f1 f2 f3 f4 TT HI3 HT3 HE3 HY3I HR3 HS3 HNU
      generalize (((((u1.setCell ⟨xb, 0, none⟩ (.int .i64 op)).setCell ⟨xb, 1, none⟩ (.int .i64 0)).setCell ⟨xb, 2, none⟩ (.string ⟨#[]⟩)).setCell ⟨xb, 3, none⟩ (.string ⟨#[]⟩)).setCell ⟨xb, 4, none⟩ (.slice (some ⟨ub, 0, none⟩) 2 2)) = u4 at *
      obtain ⟨p1, p2, p3⟩ := (HC.out.turn HT4.out).cells
      have CO := Lib.hid (op_any _ g r2 L HK.out.2.1 HI4.out.rd HI4.out.sg)
      rw [HK.out.2.2] at CO
      go_wp2_with fail
      refine CO.out.mono ?_
      rintro e w5 ⟨rfl, h1, h2⟩
      have HRN : Hid (RowG lo w w5 g xb k0 r r2 (.mk op 0 ⟨#[]⟩ ⟨#[]⟩ (some ⟨ub, 0, none⟩) 2 [x, y])) := Lib.hid (by
        have hg := HG.out
        have hx := HXB.out
        exact ⟨HI4.out.step h2 h1, ExIn.off HA.out.1 (New.off HA.out.2.1 (fun q hq => by simp at hq; omega)) h2, HA.out.2.1, HA.out.2.2, (h2.block _ (lt_of_heap HX4.out) (by simp; omega)).trans HX4.out, (h2.block _ (lt_of_heap HR4.out) (by simp; omega)).trans HR4.out, HT4.out.trans h2, HAG.out, by
          have := HL2.out
          have := HLE.out
          have := lenB_op k0 r2
          omega⟩)
      clear h1 h2 CO p1 p2 p3 HI4 HT4 HX4 HR4
      go_wp2_with fail
      go_roundw
      case rel => exact ⟨r2, _, rfl, HRN⟩
      case measure =>
        rw [HRN.out.rd.rd.rem, HM.out]
        have h1 := HL2.out
        have h3 : intOf (.int .i64 op) ≠ 0 := by simpa [intOf] using hb0
        rw [if_neg h3]
        by_cases h2 : opN k0 r2 = 0
        · have h4 := lenB_op k0 r2
          rw [if_pos (by simpa [intOf] using h2)]
          omega
        · have h4 := lenB_op_lt h2
          rw [if_neg (by simpa [intOf] using h2)]
          omega
end Go.Proofs.YtmihlmlojmdhjaaGreatDoor.Prg
