/-
  The document's Def.
-/
import Derived.Test.YtbhgbgaeaejnhaaYDefM
namespace Go.Proofs.Ytbhgbgaeaejnhaa.Typ
open Go.RowKit Tre
open OwnR (OwnG)
open Lex (AtS at_take at_run at_either)
set_option maxRecDepth 100000
set_option linter.unusedSimpArgs false
def isD (s : ByteArray) (D : Int) (v : Vr) : Bool := v.k == D && v.s.toList == s.toList
set_option maxHeartbeats 4000000 in
theorem def_zero {w : World} {g : Nat} {A : Option Addr} {c : Nat} {l : List Vr} {N : Int} (h : ScIn w g A c l 0 N) (s : ByteArray) (t : Int) :
    Calls Try.prog 24 #[.pointer (some ⟨g, 0, none⟩), .string s, .int .u8 t] w (fun e w' => e = .returned (.bool false) ∧ w' = w) := by
  have z1 : w.cell? ⟨g, 1, none⟩ = some (.int .i64 0) := cell_at h.box 1
  clear h
  go_enter Try.func24, Try.ntmps24
  go_wp2_with fail
  go_ret
  exact ⟨rfl, rfl⟩
theorem chg_trans {g : Nat} {a b c : World} (h : Chg g a b) (k : Chg g b c) : Chg g a c :=
  ⟨k.os.trans h.os, k.tape.trans h.tape, k.output.trans h.output, Nat.le_trans h.size k.size, fun i hi hn => (k.block i (Nat.lt_of_lt_of_le hi h.size) hn).trans (h.block i hi hn)⟩
theorem run_appd {P : Program} {L : TypeId} {a : Act} {w w' : World} {oi : Oper} (s x : Operand) {v u v2 : Value} (ho : oi.op = .call { callee := .builtin .append, args := #[s, x], argTypes := #[L, L] }) (hs : a.eval s = v) (hx : a.eval x = u) (hrun : ∀ ty, (Builtin.append_ #[L, L] ty #[v, u]).run P w = .ok v2 w') : (execOp a.eval oi).run P w = .ok (.value v2) w' := by
  unfold execOp
  simp only [ho, resolve, invoke, builtin, Sem.run_bind, Sem.run_pure, Result.andThen_ok, List.map_toArray, List.map_cons, List.map_nil, hs, hx, hrun]
/-- What Def leaves. -/
def DefQ (w : World) (g : Nat) (l : List Vr) (D N : Int) (s : ByteArray) (t : Int) (e : Ending) (w' : World) : Prop :=
  (l.any (isD s D) = true ∧ e = .returned (.bool false) ∧ ∃ m, w' = w.drewN m) ∨ (l.any (isD s D) = false ∧ e = .returned (.bool true) ∧ Chg g w w' ∧ ∃ A' c', ScIn w' g A' c' (l ++ [⟨s, t, N, D⟩]) D (N + 1) ∧ ∀ b o, A' = some ⟨b, o, none⟩ → w.heap.size ≤ b)
set_option maxHeartbeats 8000000 in
theorem def_any {w : World} {g : Nat} {A : Option Addr} {c : Nat} {l : List Vr} {D N : Int} (h : ScIn w g A c l D N) (hl : l.length ≤ 1000) (hd : 0 < D) (hN : 0 ≤ N) (hN2 : N ≤ 1000) (s : ByteArray) (t : Int) :
    Calls Try.prog 24 #[.pointer (some ⟨g, 0, none⟩), .string s, .int .u8 t] w (DefQ w g l D N s t) := by
  have HI := Lib.hid h
  obtain ⟨n, hn⟩ : ∃ n, l.length = n := ⟨_, rfl⟩
  have z0 : w.cell? ⟨g, 0, none⟩ = some (.slice A l.length c) := cell_at h.box 0
  have z1 : w.cell? ⟨g, 1, none⟩ = some (.int .i64 D) := cell_at h.box 1
  have z2 : w.cell? ⟨g, 2, none⟩ = some (.int .i64 N) := cell_at h.box 2
  rw [hn] at hl z0
  have HN := Lib.hid hn
  have hd0 : (D == 0) = false := by rw [beq_eq_false_iff_ne]; omega
  clear h hn
  go_enter Try.func24, Try.ntmps24
  go_wp2_with fail
  go_loopw [7] (fun i wr => ∃ k : Nat, k ≤ n ∧ i = .int .i64 k ∧ Hid (∃ m, wr = w.drewN m) ∧ Hid (∀ (j : Nat) (a : Vr), j < k → l[j]? = some a → isD s D a = false)) (fun i _ => n - (intOf i).toNat)
  case atStart => exact ⟨0, Nat.zero_le _, rfl, Lib.hid ⟨0, rfl⟩, Lib.hid (fun j a h => by omega)⟩
  case round =>
    obtain ⟨k, hk, rfl, HM, HS⟩ := hrel
    obtain ⟨mw, rfl⟩ := HM.out
    by_cases hlt : k < n
    · obtain ⟨a, ha⟩ : ∃ a, l[k]? = some a := ⟨_, List.getElem?_eq_getElem (by rw [HN.out]; exact hlt)⟩
      obtain ⟨b1, o1, rfl, hc1⟩ := HI.out.row.at_ (Below.refl _ _) ha
      obtain ⟨p0, p1, p2, p3⟩ := vrC_at hc1
      have HA := Lib.hid ha
      clear hc1 ha
      obtain ⟨t1, ht1⟩ : ∃ t, (a.k == D) = t := ⟨_, rfl⟩
      obtain ⟨t2, ht2⟩ : ∃ t, (a.s.toList == s.toList) = t := ⟨_, rfl⟩
      have HG : Hid (isD s D a = (t1 && t2)) := Lib.hid (by unfold isD; rw [ht1, ht2])
      have HMORE : (t1 && t2) = false → Hid (∀ (j : Nat) (a : Vr), j < k + 1 → l[j]? = some a → isD s D a = false) := fun ht => Lib.hid (fun j b hj e => by
        rcases Nat.lt_or_ge j k with h | h
        · exact HS.out j b h e
        · obtain rfl : j = k := by omega
          have := HA.out.symm.trans e
          injection this with this
          rw [← this, HG.out]
          exact ht)
      have HMR := Lib.hid HMORE
      clear HMORE
      cases t1 with
      | false =>
        go_wp2_with fail
        go_quiet (fail)
        go_wp2_with fail
        go_roundw
        case rel => exact ⟨k + 1, by omega, by go_num, Lib.hid ⟨_, rfl⟩, HMR.out rfl⟩
        case measure => simp [intOf]; omega
      | true =>
        cases t2 with
        | false =>
          go_wp2_with fail
          go_quiet (fail)
          go_wp2_with fail
          go_roundw
          case rel => exact ⟨k + 1, by omega, by go_num, Lib.hid ⟨_, rfl⟩, HMR.out rfl⟩
          case measure => simp [intOf]; omega
        | true =>
          go_wp2_with fail
          go_quiet (fail)
          go_wp2_with fail
          go_ret
          refine .inl ⟨?_, rfl, ?_⟩
          · rw [List.any_eq_true]
            exact ⟨a, List.mem_of_getElem? HA.out, HG.out⟩
          · first
            | exact ⟨_, rfl⟩
            | exact ⟨_, World.drewN_drewN ..⟩
    · obtain rfl : k = n := by omega
      go_wp2_with fail
      refine AtS.start (by kernel_rfl) 22 (DS g A k c D N) (by kernel_rfl) (by kernel_rfl) ?_
      have HX : Hid (ScIn (w.drewN mw).drew g A c l D N ∧ Chg g w (w.drewN mw).drew ∧ (w.drewN mw).drew.heap.size = w.heap.size) := Lib.hid ⟨(HI.out.drewN mw).drew, ((Chg.refl g w).below (below_drewN w mw)).below (Below.refl _ _).drew, rfl⟩
      clear z0 z1 z2
      generalize (w.drewN mw).drew = X0 at *
      have hS : DS g A k c D N X0 := ⟨HN.out ▸ cell_at HX.out.1.box 0, cell_at HX.out.1.box 1, cell_at HX.out.1.box 2⟩
      refine at_take 0 47 (.pointer (some ⟨g, 0, none⟩)) rfl rfl (by kernel_rfl) (by decide) (by decide) (fun _ _ _ h => h) (by kernel_rfl) hS (fun w' hw' => ?_) ?_
      · obtain ⟨q1, q2, q3⟩ := hw'
        go_simp
      go_frame
      refine at_take 2 49 (.pointer (some ⟨g, 0, none⟩)) rfl rfl (by kernel_rfl) (by decide) (by decide) (fun _ _ _ h => h) (by kernel_rfl) hS (fun w' hw' => ?_) ?_
      · obtain ⟨q1, q2, q3⟩ := hw'
        go_simp
      go_frame
      refine at_take 3 50 (.pointer (some ⟨g, 0, none⟩)) rfl rfl (by kernel_rfl) (by decide) (by decide) (fun _ _ _ h => h) (by kernel_rfl) hS (fun w' hw' => ?_) ?_
      · obtain ⟨q1, q2, q3⟩ := hw'
        go_simp
      go_frame
      refine at_take 4 51 (.pointer (some ⟨g, 0, none⟩)) rfl rfl (by kernel_rfl) (by decide) (by decide) (fun _ _ _ h => h) (by kernel_rfl) hS (fun w' hw' => ?_) ?_
      · obtain ⟨q1, q2, q3⟩ := hw'
        go_simp
      go_frame
      refine at_take 5 52 (.slice A k c) rfl rfl (by kernel_rfl) (by decide) (by decide) (fun _ _ _ h => h) (by kernel_rfl) hS (fun w' hw' => ?_) ?_
      · obtain ⟨q1, q2, q3⟩ := hw'
        go_simp
      go_frame
      refine at_take 7 54 (.string s) rfl rfl (by kernel_rfl) (by decide) (by decide) (fun _ _ _ h => h) (by kernel_rfl) hS (fun w' hw' => ?_) ?_
      · obtain ⟨q1, q2, q3⟩ := hw'
        go_simp
      go_frame
      refine at_take 8 55 (.int .u8 t) rfl rfl (by kernel_rfl) (by decide) (by decide) (fun _ _ _ h => h) (by kernel_rfl) hS (fun w' hw' => ?_) ?_
      · obtain ⟨q1, q2, q3⟩ := hw'
        go_simp
      go_frame
      refine at_take 9 56 (.pointer (some ⟨g, 0, none⟩)) rfl rfl (by kernel_rfl) (by decide) (by decide) (fun _ _ _ h => h) (by kernel_rfl) hS (fun w' hw' => ?_) ?_
      · obtain ⟨q1, q2, q3⟩ := hw'
        go_simp
      go_frame
      refine at_take 10 57 (.pointer (some ⟨g, 0, none⟩)) rfl rfl (by kernel_rfl) (by decide) (by decide) (fun _ _ _ h => h) (by kernel_rfl) hS (fun w' hw' => ?_) ?_
      · obtain ⟨q1, q2, q3⟩ := hw'
        go_simp
      go_frame
      refine at_take 11 58 (.pointer (some ⟨g, 2, none⟩)) rfl rfl (by kernel_rfl) (by decide) (by decide) (fun _ _ _ h => h) (by kernel_rfl) hS (fun w' hw' => ?_) ?_
      · obtain ⟨q1, q2, q3⟩ := hw'
        go_simp
      go_frame
      refine at_take 12 59 (.int .i64 N) rfl rfl (by kernel_rfl) (by decide) (by decide) (fun _ _ _ h => h) (by kernel_rfl) hS (fun w' hw' => ?_) ?_
      · obtain ⟨q1, q2, q3⟩ := hw'
        go_simp
      go_frame
      refine at_take 13 60 (.pointer (some ⟨g, 0, none⟩)) rfl rfl (by kernel_rfl) (by decide) (by decide) (fun _ _ _ h => h) (by kernel_rfl) hS (fun w' hw' => ?_) ?_
      · obtain ⟨q1, q2, q3⟩ := hw'
        go_simp
      go_frame
      refine at_take 14 61 (.pointer (some ⟨g, 0, none⟩)) rfl rfl (by kernel_rfl) (by decide) (by decide) (fun _ _ _ h => h) (by kernel_rfl) hS (fun w' hw' => ?_) ?_
      · obtain ⟨q1, q2, q3⟩ := hw'
        go_simp
      go_frame
      refine at_take 15 62 (.pointer (some ⟨g, 1, none⟩)) rfl rfl (by kernel_rfl) (by decide) (by decide) (fun _ _ _ h => h) (by kernel_rfl) hS (fun w' hw' => ?_) ?_
      · obtain ⟨q1, q2, q3⟩ := hw'
        go_simp
      go_frame
      refine at_take 16 63 (.int .i64 D) rfl rfl (by kernel_rfl) (by decide) (by decide) (fun _ _ _ h => h) (by kernel_rfl) hS (fun w' hw' => ?_) ?_
      · obtain ⟨q1, q2, q3⟩ := hw'
        go_simp
      go_frame
      refine at_take 17 64 (.agg #[.string s, .int .u8 t, .int .i64 N, .int .i64 D]) rfl rfl (by kernel_rfl) (by decide) (by decide) (fun _ _ _ h => h) (by kernel_rfl) hS (fun w' hw' => ?_) ?_
      · obtain ⟨q1, q2, q3⟩ := hw'
        go_simp
      go_frame
      have HLT : Hid (g < X0.heap.size) := Lib.hid (lt_of_heap HX.out.1.box)
      have HRW := Lib.hid HX.out.1.row
      have HFM := Lib.hid HX.out.1.form
      have HCP : Hid (k ≤ c) := Lib.hid (HN.out ▸ HX.out.1.cap)
      have HNO : Hid (l.any (isD s D) = false) := Lib.hid (by
        rw [List.any_eq_false]
        intro a ha
        obtain ⟨j, hj, e⟩ := List.getElem_of_mem ha
        rw [HS.out j a (by rw [HN.out] at hj; exact hj) (by rw [List.getElem?_eq_getElem hj, e])]
        decide)
      have dA : DAt X0 (X0.alloc (.cells #[] 85)) (.slice (some ⟨X0.heap.size, 0, none⟩) 0 0) [] := DAt.made (Below.refl _ _)
      have bB : Below X0.heap.size X0 (X0.alloc (.cells #[.string s, .int .u8 t, .int .i64 N, .int .i64 D] 85)) := ball_new X0 _ _
      have nB := new_at X0 #[.string s, .int .u8 t, .int .i64 N, .int .i64 D] 85
      have sA := hS.of HLT.out dA.low
      have sB := hS.of HLT.out bB
      refine at_either 1 18 48 65 (v := .slice (some ⟨X0.heap.size, 0, none⟩) 0 0) (v' := .slice (some ⟨X0.heap.size, 0, none⟩) 1 1) (w1 := (X0.alloc (.cells #[] 85))) (w2 := (X0.alloc (.cells #[.string s, .int .u8 t, .int .i64 N, .int .i64 D] 85))) rfl rfl rfl rfl (by kernel_rfl) (by decide) (by decide) (by kernel_rfl) (by kernel_rfl) ?_ ?_ sA sB ?_ ?_
      · go_simp
      · go_simp
      · go_frame
        have zA : (X0.alloc (.cells #[] 85)).heap.size = X0.heap.size + 1 := World.size_alloc _ _
        generalize (X0.alloc (.cells #[] 85)) = X1 at *
        clear bB nB sB
        obtain ⟨v2, X2, hr2, hd2, hf2⟩ := dA.rows HRW.out HFM.out HN.out hl HCP.out
        have dC := dA.alloc #[.string s, .int .u8 t, .int .i64 N, .int .i64 D] 85
        have nC := new_at X1 #[.string s, .int .u8 t, .int .i64 N, .int .i64 D] 85
        have s2 := hS.of HLT.out hd2.low
        have sC := hS.of HLT.out dC.low
        refine at_either 6 18 53 65 (v := v2) (v' := .slice (some ⟨X1.heap.size, 0, none⟩) 1 1) (w1 := X2) (w2 := (X1.alloc (.cells #[.string s, .int .u8 t, .int .i64 N, .int .i64 D] 85))) rfl rfl rfl rfl (by kernel_rfl) (by decide) (by decide) (by kernel_rfl) (by kernel_rfl) ?_ ?_ s2 sC ?_ ?_
        · exact run_appd (.tmp 48) (.tmp 52) rfl rfl rfl hr2
        · go_simp
        · go_frame
          have dD := hd2.alloc #[.string s, .int .u8 t, .int .i64 N, .int .i64 D] 85
          have nD := new_at X2 #[.string s, .int .u8 t, .int .i64 N, .int .i64 D] 85
          have sD := hS.of HLT.out dD.low
          refine at_run 18 65 (.slice (some ⟨X2.heap.size, 0, none⟩) 1 1) (X2.alloc (.cells #[.string s, .int .u8 t, .int .i64 N, .int .i64 D] 85)) rfl rfl (by kernel_rfl) (by decide) (by kernel_rfl) ?_ sD ?_
          · go_simp
          go_frame
          obtain ⟨v9, X9, hr9, hd9⟩ := DAt.one dD ⟨s, t, N, D⟩ (X2.heap.size) nD (by rw [HN.out]; exact hl)
          have HF := Lib.hid (HX.out.1.more hd9 (N + 1))
          have HD9 := Lib.hid hd9
          have s9 : DS g A k c D N X9 := hS.of HLT.out hd9.low
          have f9 : ∀ i, X9.frozen? ⟨g, i, none⟩ = false := fun i => by simp [World.frozen?, (HD9.out.low.block g HLT.out).trans HX.out.1.box]
          clear hd9
          refine at_appG 51 19 66 (v9) X9 rfl rfl (by kernel_rfl) (by decide) rfl (.tmp 53) (.tmp 65) rfl (v2) (.slice (some ⟨X2.heap.size, 0, none⟩) 1 1) rfl rfl hr9 s9 ?_
          go_frame
          refine at_take 20 67 (.pointer (some ⟨g, 0, none⟩)) rfl rfl (by kernel_rfl) (by decide) (by decide) (fun _ _ _ h => h) (by kernel_rfl) s9 (fun w' hw' => ?_) ?_
          · obtain ⟨q1, q2, q3⟩ := hw'
            go_simp
          go_frame
          refine at_take 21 68 (.pointer (some ⟨g, 0, none⟩)) rfl rfl (by kernel_rfl) (by decide) (by decide) (fun _ _ _ h => h) (by kernel_rfl) s9 (fun w' hw' => ?_) ?_
          · obtain ⟨q1, q2, q3⟩ := hw'
            go_simp
          go_frame
          refine AtS.last (i := 22) (w' := X9.setCell ⟨g, 0, none⟩ v9) rfl (by kernel_rfl) (by kernel_rfl) (by decide) (by kernel_rfl) ?_ ?_
          · obtain ⟨Av, cv, ev, _, _⟩ := HD9.out.own.form
            subst ev
            obtain ⟨q1, q2, q3⟩ := s9
            go_simp
          go_frame
          have y2 : (X9.setCell ⟨g, 0, none⟩ v9).cell? ⟨g, 2, none⟩ = some (.int .i64 N) := cell_at ((setc_at ((HD9.out.low.block g HLT.out).trans HX.out.1.box) _).trans (by rfl) : _ = some (.cells #[v9, .int .i64 D, .int .i64 N] 53 (0, 0))) 2
          have y3 : (X9.setCell ⟨g, 0, none⟩ v9).frozen? ⟨g, 2, none⟩ = false := by simp [World.frozen?, setc_at ((HD9.out.low.block g HLT.out).trans HX.out.1.box) _]
          clear f9 s9 hr9 hS
          go_wp2_with fail
          go_ret
          exact .inr ⟨HNO.out, rfl, chg_trans HX.out.2.1 HF.out.2, by rw [← HX.out.2.2]; exact HF.out.1⟩
        · go_frame
          obtain ⟨v3, X3, hr3, hd3, hf3⟩ := dC.rows HRW.out HFM.out HN.out hl HCP.out
          have s3 := hS.of HLT.out hd3.low
          have n3 := hf3 X1.heap.size (by rw [World.size_alloc]; omega) (fun e => by injection e with e; have e2 : X0.heap.size = X1.heap.size := e; omega)
          refine at_appG 51 6 53 (v3) X3 rfl rfl (by kernel_rfl) (by decide) rfl (.tmp 48) (.tmp 52) rfl (.slice (some ⟨X0.heap.size, 0, none⟩) 0 0) (.slice A k c) rfl rfl hr3 s3 ?_
          go_frame
          obtain ⟨v9, X9, hr9, hd9⟩ := DAt.one hd3 ⟨s, t, N, D⟩ (X1.heap.size) (n3.1.trans nC) (by rw [HN.out]; exact hl)
          have HF := Lib.hid (HX.out.1.more hd9 (N + 1))
          have HD9 := Lib.hid hd9
          have s9 : DS g A k c D N X9 := hS.of HLT.out hd9.low
          have f9 : ∀ i, X9.frozen? ⟨g, i, none⟩ = false := fun i => by simp [World.frozen?, (HD9.out.low.block g HLT.out).trans HX.out.1.box]
          clear hd9
          refine at_appG 51 19 66 (v9) X9 rfl rfl (by kernel_rfl) (by decide) rfl (.tmp 53) (.tmp 65) rfl (v3) (.slice (some ⟨X1.heap.size, 0, none⟩) 1 1) rfl rfl hr9 s9 ?_
          go_frame
          refine at_take 20 67 (.pointer (some ⟨g, 0, none⟩)) rfl rfl (by kernel_rfl) (by decide) (by decide) (fun _ _ _ h => h) (by kernel_rfl) s9 (fun w' hw' => ?_) ?_
          · obtain ⟨q1, q2, q3⟩ := hw'
            go_simp
          go_frame
          refine at_take 21 68 (.pointer (some ⟨g, 0, none⟩)) rfl rfl (by kernel_rfl) (by decide) (by decide) (fun _ _ _ h => h) (by kernel_rfl) s9 (fun w' hw' => ?_) ?_
          · obtain ⟨q1, q2, q3⟩ := hw'
            go_simp
          go_frame
          refine AtS.last (i := 22) (w' := X9.setCell ⟨g, 0, none⟩ v9) rfl (by kernel_rfl) (by kernel_rfl) (by decide) (by kernel_rfl) ?_ ?_
          · obtain ⟨Av, cv, ev, _, _⟩ := HD9.out.own.form
            subst ev
            obtain ⟨q1, q2, q3⟩ := s9
            go_simp
          go_frame
          have y2 : (X9.setCell ⟨g, 0, none⟩ v9).cell? ⟨g, 2, none⟩ = some (.int .i64 N) := cell_at ((setc_at ((HD9.out.low.block g HLT.out).trans HX.out.1.box) _).trans (by rfl) : _ = some (.cells #[v9, .int .i64 D, .int .i64 N] 53 (0, 0))) 2
          have y3 : (X9.setCell ⟨g, 0, none⟩ v9).frozen? ⟨g, 2, none⟩ = false := by simp [World.frozen?, setc_at ((HD9.out.low.block g HLT.out).trans HX.out.1.box) _]
          clear f9 s9 hr9 hS
          go_wp2_with fail
          go_ret
          exact .inr ⟨HNO.out, rfl, chg_trans HX.out.2.1 HF.out.2, by rw [← HX.out.2.2]; exact HF.out.1⟩
      · go_frame
        have dE : DAt X0 ((X0.alloc (.cells #[.string s, .int .u8 t, .int .i64 N, .int .i64 D] 85)).alloc (.cells #[] 85)) (.slice (some ⟨(X0.alloc (.cells #[.string s, .int .u8 t, .int .i64 N, .int .i64 D] 85)).heap.size, 0, none⟩) 0 0) [] := DAt.made bB
        have zB : (X0.alloc (.cells #[.string s, .int .u8 t, .int .i64 N, .int .i64 D] 85)).heap.size = X0.heap.size + 1 := World.size_alloc _ _
        generalize (X0.alloc (.cells #[.string s, .int .u8 t, .int .i64 N, .int .i64 D] 85)) = X1 at *
        have sE := hS.of HLT.out dE.low
        have nE := ((ball_new X1 #[] 85).block X0.heap.size (by omega)).trans nB
        refine at_run 1 48 (.slice (some ⟨X1.heap.size, 0, none⟩) 0 0) (X1.alloc (.cells #[] 85)) rfl rfl (by kernel_rfl) (by decide) (by kernel_rfl) ?_ sE ?_
        · go_simp
        go_frame
        obtain ⟨v3, X3, hr3, hd3, hf3⟩ := dE.rows HRW.out HFM.out HN.out hl HCP.out
        have s3 := hS.of HLT.out hd3.low
        have n3 := hf3 X0.heap.size (by rw [World.size_alloc]; omega) (fun e => by injection e with e; have e2 : X1.heap.size = X0.heap.size := e; omega)
        refine at_appG 51 6 53 (v3) X3 rfl rfl (by kernel_rfl) (by decide) rfl (.tmp 48) (.tmp 52) rfl (.slice (some ⟨X1.heap.size, 0, none⟩) 0 0) (.slice A k c) rfl rfl hr3 s3 ?_
        go_frame
        obtain ⟨v9, X9, hr9, hd9⟩ := DAt.one hd3 ⟨s, t, N, D⟩ (X0.heap.size) (n3.1.trans nE) (by rw [HN.out]; exact hl)
        have HF := Lib.hid (HX.out.1.more hd9 (N + 1))
        have HD9 := Lib.hid hd9
        have s9 : DS g A k c D N X9 := hS.of HLT.out hd9.low
        have f9 : ∀ i, X9.frozen? ⟨g, i, none⟩ = false := fun i => by simp [World.frozen?, (HD9.out.low.block g HLT.out).trans HX.out.1.box]
        clear hd9
        refine at_appG 51 19 66 (v9) X9 rfl rfl (by kernel_rfl) (by decide) rfl (.tmp 53) (.tmp 65) rfl (v3) (.slice (some ⟨X0.heap.size, 0, none⟩) 1 1) rfl rfl hr9 s9 ?_
        go_frame
        refine at_take 20 67 (.pointer (some ⟨g, 0, none⟩)) rfl rfl (by kernel_rfl) (by decide) (by decide) (fun _ _ _ h => h) (by kernel_rfl) s9 (fun w' hw' => ?_) ?_
        · obtain ⟨q1, q2, q3⟩ := hw'
          go_simp
        go_frame
        refine at_take 21 68 (.pointer (some ⟨g, 0, none⟩)) rfl rfl (by kernel_rfl) (by decide) (by decide) (fun _ _ _ h => h) (by kernel_rfl) s9 (fun w' hw' => ?_) ?_
        · obtain ⟨q1, q2, q3⟩ := hw'
          go_simp
        go_frame
        refine AtS.last (i := 22) (w' := X9.setCell ⟨g, 0, none⟩ v9) rfl (by kernel_rfl) (by kernel_rfl) (by decide) (by kernel_rfl) ?_ ?_
        · obtain ⟨Av, cv, ev, _, _⟩ := HD9.out.own.form
          subst ev
          obtain ⟨q1, q2, q3⟩ := s9
          go_simp
        go_frame
        have y2 : (X9.setCell ⟨g, 0, none⟩ v9).cell? ⟨g, 2, none⟩ = some (.int .i64 N) := cell_at ((setc_at ((HD9.out.low.block g HLT.out).trans HX.out.1.box) _).trans (by rfl) : _ = some (.cells #[v9, .int .i64 D, .int .i64 N] 53 (0, 0))) 2
        have y3 : (X9.setCell ⟨g, 0, none⟩ v9).frozen? ⟨g, 2, none⟩ = false := by simp [World.frozen?, setc_at ((HD9.out.low.block g HLT.out).trans HX.out.1.box) _]
        clear f9 s9 hr9 hS
        go_wp2_with fail
        go_ret
        exact .inr ⟨HNO.out, rfl, chg_trans HX.out.2.1 HF.out.2, by rw [← HX.out.2.2]; exact HF.out.1⟩
end Go.Proofs.Ytbhgbgaeaejnhaa.Typ
