/-
  Parts, rightNumber, rightNames, rightParts, rightTarget, rightBlocks, valued, wrongParam, rightWord, wrongWord: what the package's small tests answer. Conditions: sizes.
-/
import Derived.Test.YtlhbhpdpjidpgaaGreatDoorZ05
import Derived.Test.YtlhbhpdpjidpgaaGreatDoorZ07
import Derived.Test.YtlhbhpdpjidpgaaGreatDoorZ14
namespace Go.Proofs.YtlhbhpdpjidpgaaGreatDoor.Tre
open Go.RowKit
set_option maxRecDepth 100000
theorem lexName (s : ByteArray) (w : World) (hs : s.size ≤ maxLen) : Calls Tryz.prog 72 #[.string s] w (EndsB (.bool (nameB s)) w) := Lex.name_any s w hs
theorem lexKey (s : ByteArray) (w : World) : Calls Tryz.prog 59 #[.string s] w (EndsB (.bool (Lex.keyB s.data.toList)) w) := by
  have := Lex.key_any s.data.toList w
  rw [Lex.bs_of] at this
  refine this.mono ?_
  rintro e w' ⟨rfl, rfl⟩
  exact ⟨rfl, Below.refl _ _⟩
theorem parts_1 (w : World) : Calls Tryz.prog 148 #[.int .i64 1] w (EndsW (.int .i64 0) w) := by
  go_enter Tryz.func148, Tryz.ntmps148
  go_wp2
  go_ret
  exact ⟨rfl, rfl⟩
theorem parts_2 (w : World) : Calls Tryz.prog 148 #[.int .i64 2] w (EndsW (.int .i64 0) w) := by
  go_enter Tryz.func148, Tryz.ntmps148
  go_wp2
  go_ret
  exact ⟨rfl, rfl⟩
theorem parts_3 (w : World) : Calls Tryz.prog 148 #[.int .i64 3] w (EndsW (.int .i64 0) w) := by
  go_enter Tryz.func148, Tryz.ntmps148
  go_wp2
  go_ret
  exact ⟨rfl, rfl⟩
theorem parts_5 (w : World) : Calls Tryz.prog 148 #[.int .i64 5] w (EndsW (.int .i64 1) w) := by
  go_enter Tryz.func148, Tryz.ntmps148
  go_wp2
  go_ret
  exact ⟨rfl, rfl⟩
theorem parts_6 (w : World) : Calls Tryz.prog 148 #[.int .i64 6] w (EndsW (.int .i64 1) w) := by
  go_enter Tryz.func148, Tryz.ntmps148
  go_wp2
  go_ret
  exact ⟨rfl, rfl⟩
theorem parts_7 (w : World) : Calls Tryz.prog 148 #[.int .i64 7] w (EndsW (.int .i64 2) w) := by
  go_enter Tryz.func148, Tryz.ntmps148
  go_wp2
  go_ret
  exact ⟨rfl, rfl⟩
theorem parts_8 (w : World) : Calls Tryz.prog 148 #[.int .i64 8] w (EndsW (.int .i64 2) w) := by
  go_enter Tryz.func148, Tryz.ntmps148
  go_wp2
  go_ret
  exact ⟨rfl, rfl⟩
theorem parts_9 (w : World) : Calls Tryz.prog 148 #[.int .i64 9] w (EndsW (.int .i64 2) w) := by
  go_enter Tryz.func148, Tryz.ntmps148
  go_wp2
  go_ret
  exact ⟨rfl, rfl⟩
theorem parts_10 (w : World) : Calls Tryz.prog 148 #[.int .i64 10] w (EndsW (.int .i64 2) w) := by
  go_enter Tryz.func148, Tryz.ntmps148
  go_wp2
  go_ret
  exact ⟨rfl, rfl⟩
theorem parts_11 (w : World) : Calls Tryz.prog 148 #[.int .i64 11] w (EndsW (.int .i64 2) w) := by
  go_enter Tryz.func148, Tryz.ntmps148
  go_wp2
  go_ret
  exact ⟨rfl, rfl⟩
theorem parts_12 (w : World) : Calls Tryz.prog 148 #[.int .i64 12] w (EndsW (.int .i64 2) w) := by
  go_enter Tryz.func148, Tryz.ntmps148
  go_wp2
  go_ret
  exact ⟨rfl, rfl⟩
theorem parts_13 (w : World) : Calls Tryz.prog 148 #[.int .i64 13] w (EndsW (.int .i64 2) w) := by
  go_enter Tryz.func148, Tryz.ntmps148
  go_wp2
  go_ret
  exact ⟨rfl, rfl⟩
theorem parts_14 (w : World) : Calls Tryz.prog 148 #[.int .i64 14] w (EndsW (.int .i64 2) w) := by
  go_enter Tryz.func148, Tryz.ntmps148
  go_wp2
  go_ret
  exact ⟨rfl, rfl⟩
theorem parts_15 (w : World) : Calls Tryz.prog 148 #[.int .i64 15] w (EndsW (.int .i64 2) w) := by
  go_enter Tryz.func148, Tryz.ntmps148
  go_wp2
  go_ret
  exact ⟨rfl, rfl⟩
theorem parts_16 (w : World) : Calls Tryz.prog 148 #[.int .i64 16] w (EndsW (.int .i64 2) w) := by
  go_enter Tryz.func148, Tryz.ntmps148
  go_wp2
  go_ret
  exact ⟨rfl, rfl⟩
theorem parts_17 (w : World) : Calls Tryz.prog 148 #[.int .i64 17] w (EndsW (.int .i64 2) w) := by
  go_enter Tryz.func148, Tryz.ntmps148
  go_wp2
  go_ret
  exact ⟨rfl, rfl⟩
theorem parts_18 (w : World) : Calls Tryz.prog 148 #[.int .i64 18] w (EndsW (.int .i64 2) w) := by
  go_enter Tryz.func148, Tryz.ntmps148
  go_wp2
  go_ret
  exact ⟨rfl, rfl⟩
theorem parts_19 (w : World) : Calls Tryz.prog 148 #[.int .i64 19] w (EndsW (.int .i64 2) w) := by
  go_enter Tryz.func148, Tryz.ntmps148
  go_wp2
  go_ret
  exact ⟨rfl, rfl⟩
set_option maxHeartbeats 2000000 in
theorem parts_no (op : Int) (w : World) (h1 : (op == 1) = false) (h2 : (op == 2) = false) (h3 : (op == 3) = false) (h5 : (op == 5) = false) (h6 : (op == 6) = false) (h7 : (op == 7) = false) (h8 : (op == 8) = false) (h9 : (op == 9) = false) (h10 : (op == 10) = false) (h11 : (op == 11) = false) (h12 : (op == 12) = false) (h13 : (op == 13) = false) (h14 : (op == 14) = false) (h15 : (op == 15) = false) (h16 : (op == 16) = false) (h17 : (op == 17) = false) (h18 : (op == 18) = false) (h19 : (op == 19) = false) : Calls Tryz.prog 148 #[.int .i64 op] w (EndsW (.int .i64 (-1)) w) := by
  go_enter Tryz.func148, Tryz.ntmps148
  go_wp2
  go_ret
  exact ⟨rfl, rfl⟩
theorem parts_any' (op : Int) (w : World) : Calls Tryz.prog 148 #[.int .i64 op] w (EndsW (.int .i64 (partsI op)) w) := by
  rcases Bool.eq_false_or_eq_true (op == 1) with h | h1
  · obtain rfl : op = 1 := by simpa using h
    exact parts_1 w
  rcases Bool.eq_false_or_eq_true (op == 2) with h | h2
  · obtain rfl : op = 2 := by simpa using h
    exact parts_2 w
  rcases Bool.eq_false_or_eq_true (op == 3) with h | h3
  · obtain rfl : op = 3 := by simpa using h
    exact parts_3 w
  rcases Bool.eq_false_or_eq_true (op == 5) with h | h5
  · obtain rfl : op = 5 := by simpa using h
    exact parts_5 w
  rcases Bool.eq_false_or_eq_true (op == 6) with h | h6
  · obtain rfl : op = 6 := by simpa using h
    exact parts_6 w
  rcases Bool.eq_false_or_eq_true (op == 7) with h | h7
  · obtain rfl : op = 7 := by simpa using h
    exact parts_7 w
  rcases Bool.eq_false_or_eq_true (op == 8) with h | h8
  · obtain rfl : op = 8 := by simpa using h
    exact parts_8 w
  rcases Bool.eq_false_or_eq_true (op == 9) with h | h9
  · obtain rfl : op = 9 := by simpa using h
    exact parts_9 w
  rcases Bool.eq_false_or_eq_true (op == 10) with h | h10
  · obtain rfl : op = 10 := by simpa using h
    exact parts_10 w
  rcases Bool.eq_false_or_eq_true (op == 11) with h | h11
  · obtain rfl : op = 11 := by simpa using h
    exact parts_11 w
  rcases Bool.eq_false_or_eq_true (op == 12) with h | h12
  · obtain rfl : op = 12 := by simpa using h
    exact parts_12 w
  rcases Bool.eq_false_or_eq_true (op == 13) with h | h13
  · obtain rfl : op = 13 := by simpa using h
    exact parts_13 w
  rcases Bool.eq_false_or_eq_true (op == 14) with h | h14
  · obtain rfl : op = 14 := by simpa using h
    exact parts_14 w
  rcases Bool.eq_false_or_eq_true (op == 15) with h | h15
  · obtain rfl : op = 15 := by simpa using h
    exact parts_15 w
  rcases Bool.eq_false_or_eq_true (op == 16) with h | h16
  · obtain rfl : op = 16 := by simpa using h
    exact parts_16 w
  rcases Bool.eq_false_or_eq_true (op == 17) with h | h17
  · obtain rfl : op = 17 := by simpa using h
    exact parts_17 w
  rcases Bool.eq_false_or_eq_true (op == 18) with h | h18
  · obtain rfl : op = 18 := by simpa using h
    exact parts_18 w
  rcases Bool.eq_false_or_eq_true (op == 19) with h | h19
  · obtain rfl : op = 19 := by simpa using h
    exact parts_19 w
  have e : partsI op = -1 := by
    simp only [beq_eq_false_iff_ne] at *
    unfold partsI
    rw [if_neg (by simp; omega), if_neg (by simp; omega), if_neg (by simp; omega)]
  rw [e]
  exact parts_no op w h1 h2 h3 h5 h6 h7 h8 h9 h10 h11 h12 h13 h14 h15 h16 h17 h18 h19
set_option maxHeartbeats 4000000 in
theorem rightNumber_any (e : Ex) (w : World) : Calls Tryz.prog 143 #[exV e] w (EndsB (.bool (numOk e)) w) := by
  rw [exV_eq]
  have HB := Lib.hid (ball_new w #[.int .i64 e.op, .int .i64 e.n, .string e.s, .string e.q, .slice e.a e.x.length e.c] 36)
  generalize e.x.length = k at *
  rcases Bool.eq_false_or_eq_true (e.op == 1) with h1 | h1
  · rcases Bool.eq_false_or_eq_true (decide (0 ≤ e.n)) with h2 | h2
    · have h3 : 0 ≤ e.n := by simpa using h2
      go_enter Tryz.func143, Tryz.ntmps143
      go_wp2
      go_ret
      exact ends_bool (by simp [numOk, *]) HB.out
    · have h3 : ¬ 0 ≤ e.n := by simpa using h2
      go_enter Tryz.func143, Tryz.ntmps143
      go_wp2
      go_ret
      exact ends_bool (by simp [numOk, *]) HB.out
  · rcases Bool.eq_false_or_eq_true (e.op == 2) with h2 | h2
    · rcases Bool.eq_false_or_eq_true (e.n == 0) with h3 | h3
      · go_enter Tryz.func143, Tryz.ntmps143
        go_wp2
        go_ret
        exact ends_bool (by simp [numOk, *]) HB.out
      · rcases Bool.eq_false_or_eq_true (e.n == 1) with h4 | h4
        · go_enter Tryz.func143, Tryz.ntmps143
          go_wp2
          go_ret
          exact ends_bool (by simp [numOk, *]) HB.out
        · go_enter Tryz.func143, Tryz.ntmps143
          go_wp2
          go_ret
          exact ends_bool (by simp [numOk, *]) HB.out
    · rcases Bool.eq_false_or_eq_true (e.n == 0) with h3 | h3
      · go_enter Tryz.func143, Tryz.ntmps143
        go_wp2
        go_ret
        exact ends_bool (by simp [numOk, *]) HB.out
      · go_enter Tryz.func143, Tryz.ntmps143
        go_wp2
        go_ret
        exact ends_bool (by simp [numOk, *]) HB.out
end Go.Proofs.YtlhbhpdpjidpgaaGreatDoor.Tre
/- rightParts, rightNames, rightTarget, rightBlocks, valued, wrongParam, rightWord, wrongWord: what the package's small tests answer. Conditions: sizes. -/
namespace Go.Proofs.YtlhbhpdpjidpgaaGreatDoor.Tre
open Go.RowKit
set_option maxRecDepth 100000
theorem one_at {w w1 : World} {cs : Array Value} {T : TypeId} (h : Below (w.alloc (.cells cs T)).heap.size (w.alloc (.cells cs T)) w1) (i : Nat) : w1.cell? ⟨w.heap.size, i, none⟩ = cs[i]? :=
  cell_at ((h.block _ (by simp)).trans (new_at w cs T)) i
set_option maxHeartbeats 4000000 in
theorem rightNames_any (e : Ex) (w : World) (hs : e.s.size ≤ maxLen) (hq : e.q.size ≤ maxLen) : Calls Tryz.prog 144 #[exV e] w (EndsB (.bool (namesOk e)) w) := by
  have CS := fun w' => Lib.hid (lexName e.s w' hs)
  have CQ := fun w' => Lib.hid (lexName e.q w' hq)
  rw [exV_eq]
  have HB := Lib.hid (ball_new w #[.int .i64 e.op, .int .i64 e.n, .string e.s, .string e.q, .slice e.a e.x.length e.c] 36)
  have HA : Hid (∀ w1, Below (w.alloc (.cells #[.int .i64 e.op, .int .i64 e.n, .string e.s, .string e.q, .slice e.a e.x.length e.c] 36)).heap.size (w.alloc (.cells #[.int .i64 e.op, .int .i64 e.n, .string e.s, .string e.q, .slice e.a e.x.length e.c] 36)) w1 → w1.cell? ⟨w.heap.size, 3, none⟩ = some (.string e.q)) := Lib.hid (fun w1 h1 => one_at h1 3)
  clear hs hq
  generalize e.x.length = k at *
  obtain ⟨ts, hts⟩ : ∃ ts, nameB e.s = ts := ⟨_, rfl⟩
  obtain ⟨tq, htq⟩ : ∃ tq, nameB e.q = tq := ⟨_, rfl⟩
  have HTS := Lib.hid hts
  have HTQ := Lib.hid htq
  rw [hts] at CS
  rw [htq] at CQ
  clear hts htq
  rcases Bool.eq_false_or_eq_true (e.op == 3) with h1 | h1
  · rcases Bool.eq_false_or_eq_true ts with ht | ht <;> subst ht
    all_goals rcases Bool.eq_false_or_eq_true (e.q.toList == []) with h2 | h2
    all_goals go_enter Tryz.func144, Tryz.ntmps144
    all_goals go_wp2_with fail
    all_goals refine (CS _).out.mono ?_
    all_goals rintro e1 w1 ⟨rfl, hb1⟩
    all_goals have HB1 := Lib.hid (HB.out.trans (hb1.mono HB.out.size))
    all_goals have z3 := HA.out _ hb1
    all_goals clear hb1
    all_goals go_wp2_with fail
    all_goals go_ret
    all_goals exact ends_bool (by simp [namesOk, HTS.out, *]) HB1.out
  · rcases Bool.eq_false_or_eq_true (e.op == 4) with h2 | h2
    · rcases Bool.eq_false_or_eq_true ts with ht | ht <;> subst ht
      · rcases Bool.eq_false_or_eq_true (e.q.toList == []) with h3 | h3
        · go_enter Tryz.func144, Tryz.ntmps144
          go_wp2_with fail
          refine (CS _).out.mono ?_
          rintro e1 w1 ⟨rfl, hb1⟩
          have HB1 := Lib.hid (HB.out.trans (hb1.mono HB.out.size))
          have z3 := HA.out _ hb1
          clear hb1
          go_wp2_with fail
          go_ret
          exact ends_bool (by simp [namesOk, HTS.out, *]) HB1.out
        · go_enter Tryz.func144, Tryz.ntmps144
          go_wp2_with fail
          refine (CS _).out.mono ?_
          rintro e1 w1 ⟨rfl, hb1⟩
          have HB1 := Lib.hid (HB.out.trans (hb1.mono HB.out.size))
          have z3 := HA.out _ hb1
          clear hb1
          go_wp2_with fail
          refine (CQ _).out.mono ?_
          rintro e2 w2 ⟨rfl, hb2⟩
          have HB2 := Lib.hid (HB1.out.trans (hb2.mono HB1.out.size))
          clear hb2
          go_wp2_with fail
          go_ret
          exact ends_bool (by simp [namesOk, HTS.out, HTQ.out, *]) HB2.out
      · go_enter Tryz.func144, Tryz.ntmps144
        go_wp2_with fail
        refine (CS _).out.mono ?_
        rintro e1 w1 ⟨rfl, hb1⟩
        have HB1 := Lib.hid (HB.out.trans (hb1.mono HB.out.size))
        have z3 := HA.out _ hb1
        clear hb1
        go_wp2_with fail
        go_ret
        exact ends_bool (by simp [namesOk, HTS.out, *]) HB1.out
    · rcases Bool.eq_false_or_eq_true (e.s.toList == []) with h3 | h3
      all_goals rcases Bool.eq_false_or_eq_true (e.q.toList == []) with h4 | h4
      all_goals go_enter Tryz.func144, Tryz.ntmps144
      all_goals go_wp2_with fail
      all_goals go_ret
      all_goals exact ends_bool (by simp [namesOk, *]) HB.out
set_option maxHeartbeats 4000000 in
theorem rightParts_any (e : Ex) (w : World) (hl : e.x.length ≤ most) : Calls Tryz.prog 145 #[exV e] w (EndsB (.bool (partsOk e)) w) := by
  unfold most at hl
  have C := fun w' => Lib.hid (parts_any' e.op w')
  rw [exV_eq]
  have HB := Lib.hid (ball_new w #[.int .i64 e.op, .int .i64 e.n, .string e.s, .string e.q, .slice e.a e.x.length e.c] 36)
  obtain ⟨k, hk⟩ : ∃ k, e.x.length = k := ⟨_, rfl⟩
  obtain ⟨p, hp⟩ : ∃ p, partsI e.op = p := ⟨_, rfl⟩
  have HK := Lib.hid hk
  have HP := Lib.hid hp
  rw [hk] at hl HB ⊢
  rw [hp] at C
  clear hk hp
  rcases Bool.eq_false_or_eq_true (e.op == 4) with h1 | h1
  · rcases Bool.eq_false_or_eq_true (decide (k ≤ 255)) with h2 | h2
    · have h3 : k ≤ 255 := by simpa using h2
      go_enter Tryz.func145, Tryz.ntmps145
      go_wp2_with fail
      go_ret
      exact ends_bool (by simp [partsOk, HK.out, *]; omega) HB.out
    · have h3 : ¬ k ≤ 255 := by simpa using h2
      go_enter Tryz.func145, Tryz.ntmps145
      go_wp2_with fail
      go_ret
      exact ends_bool (by simp [partsOk, HK.out, *]; omega) HB.out
  · have CQ : ∀ m, Hid (Calls Tryz.prog 148 #[.int .i64 e.op] ((w.alloc (.cells #[.int .i64 e.op, .int .i64 e.n, .string e.s, .string e.q, .slice e.a k e.c] 36)).drewN m) (fun e' w' => e' = .returned (.int .i64 p) ∧ w' = (w.alloc (.cells #[.int .i64 e.op, .int .i64 e.n, .string e.s, .string e.q, .slice e.a k e.c] 36)).drewN m)) := fun m => C _
    clear C
    rcases Bool.eq_false_or_eq_true ((k : Int) == p) with h2 | h2
    all_goals go_enter Tryz.func145, Tryz.ntmps145
    all_goals go_wp2_with fail
    all_goals go_quiet ((go_at_call 148; exact Calls.quiet_of_same (CQ _).out))
    all_goals go_wp2_with fail
    all_goals go_ret
    all_goals exact ends_bool (by simp [partsOk, HK.out, HP.out, *]) (HB.out.trans ((below_drewN _ _).mono HB.out.size))
set_option maxHeartbeats 4000000 in
theorem rightTarget_any (s : St) (w : World) (hs : s.s.size ≤ maxLen) : Calls Tryz.prog 105 #[stV s] w (EndsB (.bool (targetOk s)) w) := by
  have CS := fun w' => Lib.hid (lexName s.s w' hs)
  rw [stV_eq]
  have HB := Lib.hid (ball_new w #[.int .i64 s.op, .string s.s, .int .i64 s.e.op, .int .i64 s.e.n, .string s.e.s, .string s.e.q, .slice s.e.a s.e.x.length s.e.c, .slice s.a s.b.length s.c, .slice s.a2 s.b2.length s.c2] 47)
  clear hs
  generalize s.e.x.length = k1 at *
  generalize s.b.length = k2 at *
  generalize s.b2.length = k3 at *
  obtain ⟨ts, hts⟩ : ∃ ts, nameB s.s = ts := ⟨_, rfl⟩
  have HTS := Lib.hid hts
  rw [hts] at CS
  clear hts
  rcases Bool.eq_false_or_eq_true (s.op == 1) with h1 | h1
  · go_enter Tryz.func105, Tryz.ntmps105
    go_wp2_with fail
    refine (CS _).out.mono ?_
    rintro e1 w1 ⟨rfl, hb1⟩
    have HB1 := Lib.hid (HB.out.trans (hb1.mono HB.out.size))
    clear hb1
    go_wp2_with fail
    go_ret
    exact ends_bool (by simp [targetOk, HTS.out, *]) HB1.out
  · rcases Bool.eq_false_or_eq_true (s.op == 2) with h2 | h2
    · go_enter Tryz.func105, Tryz.ntmps105
      go_wp2_with fail
      refine (CS _).out.mono ?_
      rintro e1 w1 ⟨rfl, hb1⟩
      have HB1 := Lib.hid (HB.out.trans (hb1.mono HB.out.size))
      clear hb1
      go_wp2_with fail
      go_ret
      exact ends_bool (by simp [targetOk, HTS.out, *]) HB1.out
    · rcases Bool.eq_false_or_eq_true (s.s.toList == []) with h3 | h3
      all_goals go_enter Tryz.func105, Tryz.ntmps105
      all_goals go_wp2_with fail
      all_goals go_ret
      all_goals exact ends_bool (by simp [targetOk, *]) HB.out
set_option maxHeartbeats 4000000 in
theorem rightBlocks_any (s : St) (w : World) (hl : s.b.length ≤ most) (hl2 : s.b2.length ≤ most) : Calls Tryz.prog 106 #[stV s] w (EndsB (.bool (blocksOk s)) w) := by
  unfold most at hl hl2
  rw [stV_eq]
  have HB := Lib.hid (ball_new w #[.int .i64 s.op, .string s.s, .int .i64 s.e.op, .int .i64 s.e.n, .string s.e.s, .string s.e.q, .slice s.e.a s.e.x.length s.e.c, .slice s.a s.b.length s.c, .slice s.a2 s.b2.length s.c2] 47)
  generalize s.e.x.length = k1 at *
  unfold blocksOk
  generalize s.b.length = k2 at *
  generalize s.b2.length = k3 at *
  rcases Bool.eq_false_or_eq_true (s.op == 3) with h1 | h1
  · go_enter Tryz.func106, Tryz.ntmps106
    go_wp2_with fail
    go_ret
    exact ends_bool (by simp [*]) HB.out
  · rcases Bool.eq_false_or_eq_true (k3 == 0) with h3 | h3
    · obtain rfl : k3 = 0 := by simpa using h3
      rcases Bool.eq_false_or_eq_true (s.op == 4) with h2 | h2
      · go_enter Tryz.func106, Tryz.ntmps106
        go_wp2_with fail
        go_ret
        exact ends_bool (by simp [*]) HB.out
      · rcases Bool.eq_false_or_eq_true (k2 == 0) with h4 | h4
        · obtain rfl : k2 = 0 := by simpa using h4
          go_enter Tryz.func106, Tryz.ntmps106
          go_wp2_with fail
          go_ret
          exact ends_bool (by simp [*]) HB.out
        · have h5 : ((k2 : Int) == 0) = false := by simp at h4 ⊢; omega
          go_enter Tryz.func106, Tryz.ntmps106
          go_wp2_with fail
          go_ret
          exact ends_bool (by simp [*]) HB.out
    · have h6 : ((k3 : Int) == 0) = false := by simp at h3 ⊢; omega
      rcases Bool.eq_false_or_eq_true (s.op == 4) with h2 | h2
      · go_enter Tryz.func106, Tryz.ntmps106
        go_wp2_with fail
        go_ret
        exact ends_bool (by simp [*]) HB.out
      · rcases Bool.eq_false_or_eq_true (k2 == 0) with h4 | h4
        · obtain rfl : k2 = 0 := by simpa using h4
          go_enter Tryz.func106, Tryz.ntmps106
          go_wp2_with fail
          go_ret
          exact ends_bool (by simp [*]) HB.out
        · have h5 : ((k2 : Int) == 0) = false := by simp at h4 ⊢; omega
          go_enter Tryz.func106, Tryz.ntmps106
          go_wp2_with fail
          go_ret
          exact ends_bool (by simp [*]) HB.out
theorem valued_any (t : Int) (w : World) : Calls Tryz.prog 75 #[.int .u8 t] w (EndsW (.bool (valB t)) w) := by
  unfold valB
  rcases Bool.eq_false_or_eq_true (t == 1) with h1 | h1
  · go_enter Tryz.func75, Tryz.ntmps75
    go_wp2
    go_ret
    exact ⟨by simp [*], rfl⟩
  · rcases Bool.eq_false_or_eq_true (t == 2) with h2 | h2
    all_goals go_enter Tryz.func75, Tryz.ntmps75
    all_goals go_wp2
    all_goals go_ret
    all_goals exact ⟨by simp [*], rfl⟩
set_option maxHeartbeats 4000000 in
theorem wrongParam_any (p : Par) (w : World) (hs : p.s.size ≤ maxLen) : Calls Tryz.prog 74 #[parV p] w (EndsB (.bool (wPar p)) w) := by
  have CS := fun w' => Lib.hid (lexName p.s w' hs)
  have CV := fun w' => Lib.hid (valued_any p.t w')
  unfold parV wPar
  have HB := Lib.hid (ball_new w #[.string p.s, .int .u8 p.t] 67)
  have HA : Hid (∀ w1, Below (w.alloc (.cells #[.string p.s, .int .u8 p.t] 67)).heap.size (w.alloc (.cells #[.string p.s, .int .u8 p.t] 67)) w1 → w1.cell? ⟨w.heap.size, 1, none⟩ = some (.int .u8 p.t)) := Lib.hid (fun w1 h1 => one_at h1 1)
  clear hs
  generalize nameB p.s = ts at *
  generalize valB p.t = tv at *
  rcases Bool.eq_false_or_eq_true ts with ht | ht <;> subst ht
  all_goals go_enter Tryz.func74, Tryz.ntmps74
  all_goals go_wp2_with fail
  all_goals refine (CS _).out.mono ?_
  all_goals rintro e1 w1 ⟨rfl, hb1⟩
  all_goals have HB1 := Lib.hid (HB.out.trans (hb1.mono HB.out.size))
  all_goals have z1 := HA.out _ hb1
  all_goals clear hb1
  all_goals go_wp2_with fail
  · refine (CV _).out.mono ?_
    rintro e2 w2 ⟨rfl, rfl⟩
    go_wp2_with fail
    go_ret
    exact ends_bool (by simp) HB1.out
  · go_ret
    exact ends_bool (by simp) HB1.out
theorem rightWord_any (s : ByteArray) (w : World) (hs : s.size ≤ maxLen) : Calls Tryz.prog 68 #[.string s] w (EndsB (.bool (wordB s)) w) := by
  have CS := fun w' => Lib.hid (lexName s w' hs)
  have CK := fun w' => Lib.hid (lexKey s w')
  unfold wordB
  clear hs
  generalize nameB s = ts at *
  generalize Lex.keyB s.data.toList = tk at *
  rcases Bool.eq_false_or_eq_true ts with ht | ht <;> subst ht
  all_goals go_enter Tryz.func68, Tryz.ntmps68
  all_goals go_wp2_with fail
  all_goals refine (CS _).out.mono ?_
  all_goals rintro e1 w1 ⟨rfl, hb1⟩
  all_goals have HB1 := Lib.hid hb1
  all_goals clear hb1
  all_goals go_wp2_with fail
  · go_ret
    exact ends_bool (by simp) HB1.out
  · refine (CK _).out.mono ?_
    rintro e2 w2 ⟨rfl, hb2⟩
    have HB2 := Lib.hid (HB1.out.trans (hb2.mono HB1.out.size))
    clear hb2
    go_wp2_with fail
    go_ret
    exact ends_bool (by simp) HB2.out
theorem wrongWord_any (s : ByteArray) (w : World) (hs : s.size ≤ maxLen) : Calls Tryz.prog 70 #[.string s] w (EndsB (.bool (!wordB s)) w) := by
  have CS := fun w' => Lib.hid (rightWord_any s w' hs)
  clear hs
  generalize wordB s = ts at *
  go_enter Tryz.func70, Tryz.ntmps70
  go_wp2_with fail
  refine (CS _).out.mono ?_
  rintro e1 w1 ⟨rfl, hb1⟩
  have HB1 := Lib.hid hb1
  clear hb1
  go_wp2_with fail
  go_ret
  exact ends_bool rfl HB1.out
end Go.Proofs.YtlhbhpdpjidpgaaGreatDoor.Tre
