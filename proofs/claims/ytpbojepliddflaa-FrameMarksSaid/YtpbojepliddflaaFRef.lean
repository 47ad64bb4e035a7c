/-
  What the document's half and Put answer: a mark's half, and its sector. No condition.
-/
import Derived.Test.YtpbojepliddflaaFPut
import Derived.Deep.RegionHeld3
import Derived.ArgAppend
import Derived.Lib.SlBytesConst
namespace Go.Proofs.Ytpbojepliddflaa.Frm
open Go.RowKit Codec FrameM Cod
set_option maxRecDepth 100000
theorem own_lit (w : World) (base : Nat) (xs : List UInt8) (cs : Array Value) (n : Nat) (hcs : cs.toList = cel xs) (hl : xs.length = n) (hB : base ≤ w.heap.size) (hn : n ≤ 1000000000) :
    Owns (w.alloc (.cells cs 5)) base (.slice (some ⟨w.heap.size, 0, none⟩) n n) n xs := by
  have h := World.ownsRow_lit (base := base) (e := 5) (size := 1) w cs n hB (by unfold maxLen; omega) (by rw [← Array.length_toList, hcs, cel_length, hl, Nat.mul_one])
  rw [hcs] at h
  exact h
/-- append as a step of a region that draws its order. -/
theorem step_app {ops : Array Oper} {o : Oper} {a : Act} {w : World} {K : Act → World → Prop} {Q : Exit → Act → World → Prop} {E : Prop} (hgd : o.guard = none) (s x : Operand)
    (ho : o.op = .call { callee := .builtin .append, args := #[s, x], argTypes := #[24, 24] })
    (base : Nat) (v : Value) (n : Nat) (xs : List UInt8) (hs : a.eval s = v) (hown : Owns w base v n xs) (B : Nat) (A : Option Addr) (m c : Nat) (ys : List UInt8) (hx : a.eval x = .slice A m c) (hr : Byts w B A m ys)
    (hn : n + m ≤ 1000000000) (hbase : base ≤ w.heap.size)
    (h : ∀ A' c' w', Owns w' base (.slice A' (n + m) c') (n + m) (xs ++ ys) → w.grownBy w' v.ownBlock → K (a.put o.dst (.slice A' (n + m) c')) w') :
    if Region.wanted o (yielded ops a.tmps) = true then Oper.wp Try.prog o a w K Q else E := by
  have hw : Region.wanted o (yielded ops a.tmps) = true := by simp [Region.wanted, hgd]
  rw [if_pos hw]
  obtain ⟨A', c', w', hrun, h2, h3⟩ := run_app w o.type base v n xs hown B A m c ys hr hn hbase
  unfold Oper.wp execOp
  simp only [ho, resolve, invoke, builtin, Sem.run_bind, Sem.run_pure, Result.andThen_ok, List.map_toArray, List.map_cons, List.map_nil, hs, hx, hrun]
  exact h A' c' w' h2 h3
theorem le_four (s : Nat) : le 4 s = [UInt8.ofNat (s % 256), UInt8.ofNat (s / 256 % 256), UInt8.ofNat (s / 256 / 256 % 256), UInt8.ofNat (s / 256 / 256 / 256 % 256)] := rfl
theorem four_bytes (w : World) (s : Nat) (a b c d : Int) (ha : a = (s : Int) % 256) (hb : b = (s : Int) / 256 % 256) (hc : c = (s : Int) / 65536 % 256) (hd : d = (s : Int) / 16777216 % 256) :
    Byts (w.alloc (.cells #[.int .u8 a, .int .u8 b, .int .u8 c, .int .u8 d] 5)) (w.heap.size + 1) (some ⟨w.heap.size, 0, none⟩) 4 (le 4 s) := by
  have e : (#[.int .u8 a, .int .u8 b, .int .u8 c, .int .u8 d] : Array Value).toList = cel (le 4 s) := by
    rw [le_four]
    simp [cel, byt]
    omega
  have := (own_lit w w.heap.size (le 4 s) _ 4 e (le_length _ _) (Nat.le_refl _) (by decide)).byts
  rwa [World.size_alloc] at this
theorem half_ref (m : Mk) : half m = body m ++ le 4 (crcOf (body m)) := by
  unfold half
  rw [sum_bytes _ (crcOf_lt _)]
theorem body_ref (m : Mk) : body m = [84, 77] ++ encSmall m.kind ++ encNum m.gen ++ encNum m.seq ++ encNum m.n := by
  unfold body
  rw [letters_bytes]
  simp only [List.append_assoc]
/-- append onto a full slice, whosever it is: a new row. -/
theorem wpList_app_full (w : World) {ops : Array Oper} {rest : List Oper} {o : Oper} {a : Act} {Q : Exit → Act → World → Prop} (hgd : o.guard = none) (s x : Operand)
    (ho : o.op = .call { callee := .builtin .append, args := #[s, x], argTypes := #[24, 24] })
    (b : Addr) (n : Nat) (xs : List UInt8) (hs : a.eval s = .slice (some b) n n) (hl : xs.length = n) (hc : ∀ j, j < n → w.cell? (b.add j) = some (byt (xs.getD j 0))) (B : Nat) (A : Option Addr) (m c : Nat) (ys : List UInt8) (hx : a.eval x = .slice A m c) (hr : Byts w B A m ys)
    (hm : 0 < m) (hn : n + m ≤ 1000000000)
    (h : ∀ A' c' w', Owns w' w.heap.size (.slice A' (n + m) c') (n + m) (xs ++ ys) → w.grownBy w' none → wpList Try.prog ops Q rest (a.put o.dst (.slice A' (n + m) c')) w') : wpList Try.prog ops Q (o :: rest) a w := by
  obtain ⟨i0, hi0, hz0, hz1, hz2⟩ := info_parts info5
  obtain ⟨b', off', rfl, _, hy⟩ := hr.at_ hm
  refine wpList_append_grows w hgd s x 24 ho 5 i0 _ 1 1 Try.underlying24 hi0 hz0 hz1 hz2 rfl (by decide) (some b) n n (cel xs) hs (fun h => by cases h) (by rw [cel_length, hl, Nat.mul_one]) (fun b0 e j u hu => ?_) _ m c (cel ys) hx (by rw [cel_length, hr.len, Nat.mul_one]) (fun j u hu => ?_) (cel_one ys) (by omega) (by unfold maxLen; omega) (by omega) (fun v' w' h1 h2 => ?_)
  · injection e with e
    subst e
    have hj : j < n := by
      have := (List.getElem?_eq_some_iff.1 hu).1
      rwa [cel_length, hl] at this
    rw [hc j hj, ← cel_get xs j (by omega)]
    exact hu
  · have hj : j < m := by
      have := (List.getElem?_eq_some_iff.1 hu).1
      rwa [cel_length, hr.len] at this
    rw [plain_add, hy j hj, ← cel_get ys j (by rw [hr.len]; exact hj)]
    exact hu
  · rw [cel_app] at h1
    obtain ⟨A', c', rfl, _, _⟩ := Owns.form h1
    exact h A' c' w' h1 h2
/-- The letters, as the text makes them: a block with a mark behind its last byte. -/
def tm (w : World) : World := w.alloc (.cells #[.int .u8 84, .int .u8 77] 5 (2, 3))
theorem tm_cell (w : World) (j : Nat) (h : j < 2) : (tm w).cell? ((⟨w.heap.size, 0, none⟩ : Addr).add j) = some (byt (([84, 77] : List UInt8).getD j 0)) := by
  rw [plain_add, tm, World.cell?_alloc_mark]
  match j, h with
  | 0, _ => rfl
  | 1, _ => rfl
set_option maxHeartbeats 1000000 in
theorem ref_small_tm (w : World) (n : Int) :
    Calls Try.prog 36 #[.slice (some ⟨w.heap.size, 0, none⟩) 2 2, .int .i64 n] (tm w) (Grew (tm w) (w.heap.size + 1) ([84, 77] ++ encSmall n)) := by
  have hz : (tm w).heap.size = w.heap.size + 1 := by simp [tm]
  have HT := Lib.hid (tm_cell w)
  have HZ := Lib.hid hz
  have hz2 : w.heap.size + 1 ≤ (tm w).heap.size := by omega
  clear hz
  rcases (show n < 0 ∨ (0 ≤ n ∧ n ≤ 65535) ∨ 65535 < n by omega) with h | ⟨h, h2⟩ | h
  all_goals
    first
      | (have HX := Lib.hid (small_bytes (tm w) n 0 0 (by unfold clip; omega) (by unfold clip; omega)))
      | (have HX := Lib.hid (small_bytes (tm w) n (n % 256) (n / 256) (by unfold clip; omega) (by unfold clip; omega)))
      | (have HX := Lib.hid (small_bytes (tm w) n 255 255 (by unfold clip; omega) (by unfold clip; omega)))
    generalize tm w = u at *
    go_enter Try.func36, Try.ntmps36
    go_wp2_with (at_builtin; (refine wpList_app_full _ rfl (.tmp 8) (.tmp 14) rfl ⟨w.heap.size, 0, none⟩ 2 [84, 77] rfl rfl (fun j hj => (Below.cell (alloc_below u _) (by rw [plain_add]; show w.heap.size < _; omega)).trans (HT.out j hj)) (u.heap.size + 1) (some ⟨u.heap.size, 0, none⟩) 2 2 (encSmall n) rfl HX.out (by decide) (by decide) ?_); intro A1 c1 w1 hown1 hg1; have HO1 := Lib.hid hown1; have HG1 := Lib.hid hg1; clear hown1 hg1)
    go_ret
    have ho := HO1.out
    rw [World.size_alloc] at ho
    exact ⟨A1, 4, c1, rfl, ho.lower (by omega), ((Below.refl _ u).alloc hz2 _).grown HG1.out (by simp; omega) (fun k hk => by cases hk)⟩
theorem box_kept2 {w w' : World} {m : Mk} (h : Below (w.heap.size + 1) (w.alloc (.cells #[.int .i64 m.kind, .int .i64 m.gen, .int .i64 m.seq, .int .i64 m.n] 23)) w') (i : Nat) :
    w'.cell? ⟨w.heap.size, i, none⟩ = (#[.int .i64 m.kind, .int .i64 m.gen, .int .i64 m.seq, .int .i64 m.n] : Array Value)[i]? := by
  rw [h.cell (p := ⟨w.heap.size, i, none⟩) (by show w.heap.size < _; omega)]
  exact cell_at (heap_alloc_new w _) i
/-- One number more, the box of the mark beside it. -/
def Next (w : World) (m : Mk) (xs : List UInt8) (e : Ending) (w' : World) : Prop :=
  ∃ A n c, e = .returned (.slice A n c) ∧ Owns w' (w.heap.size + 1) (.slice A n c) n xs ∧ Below (w.heap.size + 1) (w.alloc (.cells #[.int .i64 m.kind, .int .i64 m.gen, .int .i64 m.seq, .int .i64 m.n] 23)) w' ∧
    w'.cell? ⟨w.heap.size, 1, none⟩ = some (.int .i64 m.gen) ∧ w'.cell? ⟨w.heap.size, 2, none⟩ = some (.int .i64 m.seq) ∧ w'.cell? ⟨w.heap.size, 3, none⟩ = some (.int .i64 m.n)
theorem rnum_next (w w1 : World) (m : Mk) (x : Int) (xs : List UInt8) (A : Option Addr) (n c : Nat) (hb : Below (w.heap.size + 1) (w.alloc (.cells #[.int .i64 m.kind, .int .i64 m.gen, .int .i64 m.seq, .int .i64 m.n] 23)) w1)
    (ho : Owns w1 (w.heap.size + 1) (.slice A n c) n xs) (hx : xs.length ≤ 1000) : Calls Try.prog 37 #[.slice A n c, .int .i64 x] w1 (Next w m (xs ++ encNum x)) := by
  have hn := ho.len
  refine (ref_num w1 (w.heap.size + 1) n c A x xs ho (by omega) (sized hb)).mono ?_
  rintro e w2 ⟨A2, n2, c2, rfl, h1, h2⟩
  have h3 := hb.trans h2
  exact ⟨A2, n2, c2, rfl, h1, h3, box_kept2 h3 1, box_kept2 h3 2, box_kept2 h3 3⟩
set_option maxHeartbeats 2000000 in
theorem rhalf_any (m : Mk) (w : World) : Calls Try.prog 26 #[mkV m] w (Cloned w 32 (half m)) := by
  have HBR := Lib.hid (body_ref m)
  have HH := Lib.hid (half_ref m)
  have HL := Lib.hid (body_length m)
  have hsl := crcOf_lt (body m)
  have hc1 := ref_small_tm (w.alloc (.cells #[.int .i64 m.kind, .int .i64 m.gen, .int .i64 m.seq, .int .i64 m.n] 23)) m.kind
  have HB0 : Hid (Below (w.heap.size + 1) (w.alloc (.cells #[.int .i64 m.kind, .int .i64 m.gen, .int .i64 m.seq, .int .i64 m.n] 23)) (tm (w.alloc (.cells #[.int .i64 m.kind, .int .i64 m.gen, .int .i64 m.seq, .int .i64 m.n] 23)))) :=
    Lib.hid ((Below.refl _ _).alloc (by simp) _)
  have kc : (convert 24 24 (.slice (some ⟨(w.alloc (.cells #[.int .i64 m.kind, .int .i64 m.gen, .int .i64 m.seq, .int .i64 m.n] 23)).heap.size, 0, none⟩) 2 2)).run Try.prog ((w.alloc (.cells #[.int .i64 m.kind, .int .i64 m.gen, .int .i64 m.seq, .int .i64 m.n] 23)).alloc (.cells #[.int .u8 84, .int .u8 77] 5)) =
      .ok (.slice (some ⟨(w.alloc (.cells #[.int .i64 m.kind, .int .i64 m.gen, .int .i64 m.seq, .int .i64 m.n] 23)).heap.size, 0, none⟩) 2 2) (tm (w.alloc (.cells #[.int .i64 m.kind, .int .i64 m.gen, .int .i64 m.seq, .int .i64 m.n] 23))) :=
    Lib.run_convert_bytes_const (P := Try.prog) (w.alloc (.cells #[.int .i64 m.kind, .int .i64 m.gen, .int .i64 m.seq, .int .i64 m.n] 23)) 24 5 #[.int .u8 84, .int .u8 77] 2 2 Try.underlying24 Try.underlying5
  simp only [World.size_alloc] at hc1 kc
  have hbx := fun i => (Below.cell HB0.out (p := ⟨w.heap.size, i, none⟩) (by show w.heap.size < _; omega)).trans (cell_at (heap_alloc_new w _) i)
  have hb0 : (tm (w.alloc (.cells #[.int .i64 m.kind, .int .i64 m.gen, .int .i64 m.seq, .int .i64 m.n] 23))).cell? ⟨w.heap.size, 0, none⟩ = some (.int .i64 m.kind) := hbx 0
  have HC1 := Lib.hid hc1
  clear hc1
  unfold mkV
  obtain ⟨k, g, s, n⟩ := m
  dsimp only at *
  go_enter Try.func26, Try.ntmps26
  generalize tm (w.alloc (.cells #[.int .i64 k, .int .i64 g, .int .i64 s, .int .i64 n] 23)) = u at *
  clear hbx
  go_wp2_with fail
  refine HC1.out.mono ?_
  rintro e w1 ⟨A1, m1, c1, rfl, ho1, hb1⟩
  have HB1 := Lib.hid (HB0.out.trans (hb1.mono (Nat.le_succ _)))
  have HO := Lib.hid (ho1.lower (base' := w.heap.size + 1) (Nat.le_succ _))
  have b1 : w1.cell? ⟨w.heap.size, 1, none⟩ = some (.int .i64 g) := box_kept2 (m := ⟨k, g, s, n⟩) HB1.out 1
  have b2 : w1.cell? ⟨w.heap.size, 2, none⟩ = some (.int .i64 s) := box_kept2 (m := ⟨k, g, s, n⟩) HB1.out 2
  have b3 : w1.cell? ⟨w.heap.size, 3, none⟩ = some (.int .i64 n) := box_kept2 (m := ⟨k, g, s, n⟩) HB1.out 3
  have hz := sized HB1.out
  clear hb0 kc HC1 ho1 hb1
  go_wp2_with fail
  have HB := Lib.hid HB1.out.drew
  have HOO : Hid (Owns w1.drew (w.heap.size + 1) (.slice A1 m1 c1) m1 ([84, 77] ++ encSmall k)) := HO
  have d1 : w1.drew.cell? ⟨w.heap.size, 1, none⟩ = some (.int .i64 g) := b1
  have d2 : w1.drew.cell? ⟨w.heap.size, 2, none⟩ = some (.int .i64 s) := b2
  have d3 : w1.drew.cell? ⟨w.heap.size, 3, none⟩ = some (.int .i64 n) := b3
  clear HB1 HO b1 b2 b3
  go_region_held3 (fun w' => w'.cell? ⟨w.heap.size, 1, none⟩ = some (.int .i64 g) ∧ w'.cell? ⟨w.heap.size, 2, none⟩ = some (.int .i64 s) ∧ w'.cell? ⟨w.heap.size, 3, none⟩ = some (.int .i64 n)) (first | (exact ⟨by assumption, by assumption, by assumption⟩) | assumption | go_keep)
    (first
      | (go_at_call 37; refine (rnum_next w _ ⟨k, g, s, n⟩ _ _ _ _ _ HB.out HOO.out (by simp [encNum_length, encSmall_length])).mono ?_; rintro e w5 ⟨A5, m5, c5, rfl, ho5, hb5, c1', c2', c3'⟩; clear HB HOO; have HB := Lib.hid hb5; have HOO := Lib.hid ho5; clear ho5 hb5))
  have hl := HOO.out.len
  rw [← HBR.out] at HOO hl
  rw [HL.out] at hl
  subst hl
  have HC3 := Lib.hid (rcrc_byts w5 _ _ c5 A5 _ HOO.out.byts (by decide))
  have hz5 := sized HB.out
  clear c1' c2' c3' d1 d2 d3 HBR
  generalize body ⟨k, g, s, n⟩ = xs at *
  generalize crcOf xs = S at *
  go_wp2_with fail
  refine HC3.out.mono ?_
  rintro e w6 ⟨rfl, rfl⟩
  go_wp2_with (at_builtin; (refine wpList_app _ rfl (.tmp 22) (.tmp 34) rfl (w.heap.size + 1) (.slice A5 28 c5) 28 xs rfl (HOO.out.alloc _) (w5.heap.size + 1) (some ⟨w5.heap.size, 0, none⟩) 4 4 (le 4 S) rfl (four_bytes w5 S _ _ _ _ (by omega) (by omega) (by omega) (by omega)) (by decide) (by simp; omega) ?_); intro A6 c6 w6 hown1 hg1; have HO6 := Lib.hid hown1; have HG6 := Lib.hid hg1; clear hown1 hg1)
  go_ret
  have ho6 := HO6.out.lower (base' := w.heap.size) (Nat.le_succ _)
  rw [← HH.out] at ho6
  exact ⟨A6, c6, rfl, ho6, (alloc_below w _).trans (((HB.out.alloc hz5 _).trans ((HOO.out.alloc _).below_own (by simp; omega) HG6.out)).mono (by omega))⟩
theorem box_of2 {w w' : World} {m : Mk} (h : Below (w.alloc (.cells #[.int .i64 m.kind, .int .i64 m.gen, .int .i64 m.seq, .int .i64 m.n] 23)).heap.size (w.alloc (.cells #[.int .i64 m.kind, .int .i64 m.gen, .int .i64 m.seq, .int .i64 m.n] 23)) w') (i : Nat) :
    w'.cell? ⟨w.heap.size, i, none⟩ = (#[.int .i64 m.kind, .int .i64 m.gen, .int .i64 m.seq, .int .i64 m.n] : Array Value)[i]? := box_kept2 (h.mono (by simp)) i
/-- The half once more, and the box of the mark beside it. -/
structure Boxed4 (w : World) (m : Mk) (w' : World) : Prop where
  below : Below (w.heap.size + 1) (w.alloc (.cells #[.int .i64 m.kind, .int .i64 m.gen, .int .i64 m.seq, .int .i64 m.n] 23)) w'
  c0 : w'.cell? ⟨w.heap.size, 0, none⟩ = some (.int .i64 m.kind)
  c1 : w'.cell? ⟨w.heap.size, 1, none⟩ = some (.int .i64 m.gen)
  c2 : w'.cell? ⟨w.heap.size, 2, none⟩ = some (.int .i64 m.seq)
  c3 : w'.cell? ⟨w.heap.size, 3, none⟩ = some (.int .i64 m.n)
theorem boxed4 {w w' : World} {m : Mk} (h : Below (w.heap.size + 1) (w.alloc (.cells #[.int .i64 m.kind, .int .i64 m.gen, .int .i64 m.seq, .int .i64 m.n] 23)) w') : Boxed4 w m w' :=
  ⟨h, box_kept2 h 0, box_kept2 h 1, box_kept2 h 2, box_kept2 h 3⟩
set_option maxHeartbeats 2000000 in
theorem rput_any (m : Mk) (w : World) : Calls Try.prog 10 #[mkV m] w (Gives w (put m)) := by
  have HC1 := Lib.hid (rright_any m (w.alloc (.cells #[.int .i64 m.kind, .int .i64 m.gen, .int .i64 m.seq, .int .i64 m.n] 23)))
  cases hr : m.right with
  | false =>
    rw [put_wrong hr]
    rw [hr] at HC1
    clear hr
    unfold mkV at HC1 ⊢
    obtain ⟨k, g, s, n⟩ := m
    dsimp only at *
    go_enter Try.func10, Try.ntmps10
    go_wp2_with fail
    refine HC1.out.mono ?_
    rintro e w1 ⟨rfl, hb1⟩
    go_wp2_with fail
    go_ret
    exact ⟨none, 0, rfl, Byts.none_, (alloc_below w _).trans (hb1.mono (by simp)), Nat.le_refl _, Nat.zero_le _⟩
  | true =>
    rw [put_right hr]
    rw [hr] at HC1
    clear hr
    have HC2 := Lib.hid (fun w1 => rhalf_any m w1)
    have HL := Lib.hid (half_length m)
    unfold mkV at HC1 HC2 ⊢
    obtain ⟨k, g, s, n⟩ := m
    dsimp only at *
    generalize half ⟨k, g, s, n⟩ = xs at *
    go_enter Try.func10, Try.ntmps10
    go_wp2_with fail
    refine HC1.out.mono ?_
    rintro e w1 ⟨rfl, hb1⟩
    have hb1' := hb1.mono (B' := w.heap.size + 1) (by simp)
    have HB := Lib.hid (boxed4 (m := ⟨k, g, s, n⟩) hb1'.drew)
    have d0 := HB.out.c0
    have d1 := HB.out.c1
    have d2 := HB.out.c2
    have d3 := HB.out.c3
    dsimp only at d0 d1 d2 d3
    clear hb1 HC1 hb1'
    go_wp2_with fail
    go_region_held3 (fun w' => w'.cell? ⟨w.heap.size, 0, none⟩ = some (.int .i64 k) ∧ w'.cell? ⟨w.heap.size, 1, none⟩ = some (.int .i64 g) ∧ w'.cell? ⟨w.heap.size, 2, none⟩ = some (.int .i64 s) ∧ w'.cell? ⟨w.heap.size, 3, none⟩ = some (.int .i64 n)) (first | (exact ⟨by assumption, by assumption, by assumption, by assumption⟩) | assumption | go_keep)
      (first
        | (go_at_call 26; have HOa := HO1.out; refine (HC2.out _).mono ?_; rintro e w6 ⟨A6, c6, rfl, ho6, hb6⟩; have HB2 := Lib.hid (boxed4 (m := ⟨k, g, s, n⟩) (HB1.out.below.trans (hb6.mono (sized HB1.out.below)))); have HO2 := Lib.hid ho6.byts; have HO1' := Lib.hid (HOa.below hb6); have e0 := HB2.out.c0; have e1 := HB2.out.c1; have e2 := HB2.out.c2; have e3 := HB2.out.c3; dsimp only at e0 e1 e2 e3; clear ho6 hb6 HOa)
        | (go_at_call 26; refine (HC2.out _).mono ?_; rintro e w5 ⟨A5, c5, rfl, ho5, hb5⟩; have HB1 := Lib.hid (boxed4 (m := ⟨k, g, s, n⟩) (HB.out.below.trans (hb5.mono (sized HB.out.below)))); have HO1 := Lib.hid (ho5.lower (base' := w.heap.size + 1) (sized HB.out.below)); have f0 := HB1.out.c0; have f1 := HB1.out.c1; have f2 := HB1.out.c2; have f3 := HB1.out.c3; dsimp only at f0 f1 f2 f3; clear ho5 hb5)
        | (refine step_app rfl (.tmp 7) (.tmp 9) rfl (w.heap.size + 1) (.slice A5 32 c5) 32 xs rfl HO1'.out w6.heap.size A6 32 c6 xs rfl HO2.out (by decide) (sized HB2.out.below) ?_; intro A7 c7 w7 ho7 hg7; have HO7 := Lib.hid ho7; have HB7 := Lib.hid (boxed4 (m := ⟨k, g, s, n⟩) (HB2.out.below.trans (HO1'.out.below_own (sized HB2.out.below) hg7))); have g0 := HB7.out.c0; have g1 := HB7.out.c1; have g2 := HB7.out.c2; have g3 := HB7.out.c3; dsimp only at g0 g1 g2 g3; clear ho7 hg7))
    all_goals
      go_wp2_with fail
      go_ret
      exact Gives.of_own HO7.out ((alloc_below w _).trans (HB7.out.below.mono (by omega)))
end Go.Proofs.Ytpbojepliddflaa.Frm
