/-
  The program's Deep, Count, Find, Open; the same of nobody's scope.
-/
import Derived.Test.YtbhgbgaeaejnhaaQ14
import Derived.StringKeys
import Derived.Deep.WholeRow
import Derived.StillTailTactics
namespace Go.Proofs.Ytbhgbgaeaejnhaa.Typ
open Go.RowKit Tre
open OwnR (OwnG)
set_option maxRecDepth 100000
set_option linter.unusedSimpArgs false
theorem zero_var (w : World) : (zeroValue 79).run Try.prog w = .ok (varV none) w := (zero_of_info (n := 3) (v := varV none) (by kernel_rfl)).1 w
theorem keyedS : Maps.Keyed Try.prog 9 := Maps.string_keyed Try.underlying9
theorem key_of {s : ByteArray} (hs : s.size ≤ maxLen) : keyOf Try.prog 9 (.string s) = some (ksS s) := WideMaps.keyOf_string_mk Try.underlying9 hs
theorem FM.look_ok {w : World} {mv : Value} {m : Nat} {f : ByteArray → Option Vr} (h : FM w mv m f) (s : ByteArray) (hs : s.size ≤ maxLen) :
    (Instr.lookup 46 mv (.string s) true).run Try.prog w = .ok (.tuple #[varV (f s), .bool (f s).isSome]) w := by
  rcases h with ⟨rfl, hn⟩ | ⟨gm, D, rfl, hown, hT⟩
  · rw [hn s]
    exact Maps.look_nil true keyedS Try.underlying46 (zero_var w) (key_of hs)
  · obtain ⟨v, ps, hrun, hv⟩ := hown.look_ok keyedS Try.underlying46 (zero_var w) (R := R0) (zd := .held (varV none)) (zp := []) rfl (key_of hs)
    rw [hT.has s] at hrun
    cases hf : f s with
    | none =>
      rw [Maps.atKey_of_not_has ((hT s).1 hf)] at hv
      have hv : v = varV none := (by simpa [R0] using hv : v = varV none ∧ ps = []).1
      rw [hv, hf] at hrun
      exact hrun
    | some u =>
      rw [(hT s).2 u hf] at hv
      have hv : v = varV (some u) := (by simpa [R0] using hv : v = varV (some u) ∧ ps = []).1
      rw [hv, hf] at hrun
      exact hrun
theorem FM.look {w : World} {mv : Value} {m : Nat} {f : ByteArray → Option Vr} (h : FM w mv m f) (s : ByteArray) (hs : s.size ≤ maxLen) :
    (Instr.lookup 46 mv (.string s) false).run Try.prog w = .ok (varV (f s)) w := by
  rcases h with ⟨rfl, hn⟩ | ⟨gm, D, rfl, hown, hT⟩
  · rw [hn s]
    exact Maps.look_nil false keyedS Try.underlying46 (zero_var w) (key_of hs)
  · obtain ⟨v, ps, hrun, hv⟩ := hown.lookup keyedS Try.underlying46 (zero_var w) (R := R0) (zd := .held (varV none)) (zp := []) rfl (key_of hs)
    cases hf : f s with
    | none =>
      rw [Maps.atKey_of_not_has ((hT s).1 hf)] at hv
      have hv : v = varV none := (by simpa [R0] using hv : v = varV none ∧ ps = []).1
      rw [hv] at hrun
      exact hrun
    | some u =>
      rw [(hT s).2 u hf] at hv
      have hv : v = varV (some u) := (by simpa [R0] using hv : v = varV (some u) ∧ ps = []).1
      rw [hv] at hrun
      exact hrun
section
variable {w : World} {g : Nat} {mv ov : Value} {vs : List Value} {LL : List (List Vr)} {N : Int} {m : Nat}
set_option maxHeartbeats 4000000 in
theorem pdeep_any (h : PS w g mv ov vs LL N m) : Calls Try.prog 27 #[.pointer (some ⟨g, 0, none⟩)] w (fun e w' => e = .returned (.int .i64 LL.length) ∧ w' = w) := by
  have z1 : w.cell? ⟨g, 1, none⟩ = some ov := cell_at h.box 1
  obtain ⟨A, c, rfl, _, _⟩ := h.out.form
  have hl := h.len
  rw [hl] at z1
  clear h hl
  go_enter Try.func27, Try.ntmps27
  go_wp2_with fail
  go_ret
  exact ⟨rfl, rfl⟩
set_option maxHeartbeats 4000000 in
theorem pcount_any (h : PS w g mv ov vs LL N m) : Calls Try.prog 28 #[.pointer (some ⟨g, 0, none⟩)] w (fun e w' => e = .returned (.int .i64 N) ∧ w' = w) := by
  have z1 : w.cell? ⟨g, 2, none⟩ = some (.int .i64 N) := cell_at h.box 2
  clear h
  go_enter Try.func28, Try.ntmps28
  go_wp2_with fail
  go_ret
  exact ⟨rfl, rfl⟩
theorem findA_some {l : List Vr} {s : ByteArray} {v : Vr} (h : fnd l s = some v) : findA l s = .tuple #[.int .u8 v.t, .int .i64 v.n, .bool true] := by
  unfold fnd at h
  unfold findA
  rw [h]
theorem findA_none {l : List Vr} {s : ByteArray} (h : fnd l s = none) : findA l s = .tuple #[.int .u8 0, .int .i64 0, .bool false] := by
  unfold fnd at h
  unfold findA
  rw [h]
set_option maxHeartbeats 4000000 in
theorem pfind_any (h : PS w g mv ov vs LL N m) (s : ByteArray) (hs : s.size ≤ maxLen) :
    Calls Try.prog 25 #[.pointer (some ⟨g, 0, none⟩), .string s] w (fun e w' => e = .returned (findA LL.flatten s) ∧ Below w.heap.size w w') := by
  have z0 : w.cell? ⟨g, 0, none⟩ = some mv := cell_at h.box 0
  have hlook := h.map.look_ok s hs
  clear h
  cases hf : fnd LL.flatten s with
  | none =>
    rw [hf] at hlook
    have HF := Lib.hid (findA_none hf)
    clear hf
    unfold varV varL at hlook
    go_enter Try.func25, Try.ntmps25
    go_wp2_with fail
    go_quiet (fail)
    go_wp2_with fail
    go_ret3
    exact ⟨by rw [HF.out]; rfl, (ball_new w _ _).trans ((below_drewN _ _).mono (by simp))⟩
  | some v =>
    rw [hf] at hlook
    have HF := Lib.hid (findA_some hf)
    clear hf
    unfold varV varL at hlook
    go_enter Try.func25, Try.ntmps25
    go_wp2_with fail
    go_quiet (fail)
    go_wp2_with fail
    go_ret3
    exact ⟨by rw [HF.out]; rfl, (ball_new w _ _).trans ((below_drewN _ _).mono (by simp))⟩
/-- A whole row grows by one. -/
theorem wp_appG {P : Program} (L : TypeId) {w w2 : World} {ops : Array Oper} {rest : List Oper} {o : Oper} {a : Act} {Q : Exit → Act → World → Prop} (hgd : o.guard = none) (s x : Operand)
    (ho : o.op = .call { callee := .builtin .append, args := #[s, x], argTypes := #[L, L] }) (v u v2 : Value) (hs : a.eval s = v) (hx : a.eval x = u) (hrun : ∀ ty, (Builtin.append_ #[L, L] ty #[v, u]).run P w = .ok v2 w2)
    (h : wpList P ops Q rest (a.put o.dst v2) w2) : wpList P ops Q (o :: rest) a w := by
  refine wpList_plain hgd fun _ hK => ?_
  unfold Oper.wp execOp
  simp only [ho, resolve, invoke, builtin, Sem.run_bind, Sem.run_pure, Result.andThen_ok, List.map_toArray, List.map_cons, List.map_nil, hs, hx, hrun]
  exact hK _ _ h
theorem und_out : Try.prog.underlying 47 = some (.slice 77) := by kernel_rfl
theorem infoO : (Try.prog.info? 77).map (fun i => (i.zero, i.size, decide (i.bytes ≤ 10000))) = some (some (.slice none 0 0), 1, true) := by kernel_rfl
theorem infoO_of : ∃ i, Try.prog.info? 77 = some i ∧ i.zero = some (.slice none 0 0) ∧ i.size = 1 ∧ i.bytes ≤ 10000 := by
  have h := infoO
  cases hi : Try.prog.info? 77 with
  | none => rw [hi] at h; simp at h
  | some i => rw [hi] at h; simp at h; exact ⟨i, rfl, h.1, h.2.1, h.2.2⟩
theorem app_out {X : World} {ov : Value} {vs : List Value} {x : Value} (h1 : x.oneCell' = true) {eb : Nat} (h : OwnG 1 slC 77 X 0 ov vs) (he : X.heap[eb]? = some (.cells #[x] 77 (0, 0))) (hl : vs.length ≤ 1000000) :
    ∃ A c X2, (∀ ty, (Builtin.append_ #[47, 47] ty #[ov, .slice (some ⟨eb, 0, none⟩) 1 1]).run Try.prog X = .ok (.slice A (vs.length + 1) c) X2) ∧ OwnG 1 slC 77 X2 0 (.slice A (vs.length + 1) c) (vs ++ [x]) ∧ X.grownBy X2 ov.ownBlock ∧ ((Value.slice A (vs.length + 1) c).ownBlock = ov.ownBlock ∨ (Value.slice A (vs.length + 1) c).ownBlock = some X.heap.size) := by
  obtain ⟨i, hi, hz, hs, hb⟩ := infoO_of
  have hm : (vs.length + 1) * i.bytes ≤ 1000001 * 10000 := Nat.mul_le_mul (by omega) hb
  obtain ⟨v2, w2, hrun, r1, r2, _, r4⟩ := run_append_own_at (P := Try.prog) (w := X) 0 47 47 77 i _ 1 i.bytes und_out hi hz hs rfl rfl (by decide) ov vs.length (vs.flatMap slC) h ⟨eb, 0, none⟩ 1 1 [x] rfl (fun j u hu => by
    rw [Tre.plain_at, Nat.zero_add, cell_at he]
    simpa using hu) (fun u hu => by
      obtain rfl : u = x := by simpa using hu
      exact h1) (by unfold maxLen; omega) (by omega) (Nat.zero_le _)
  have ho : OwnG 1 slC 77 w2 0 v2 (vs ++ [x]) := by
    unfold OwnG
    rw [List.flatMap_append, List.length_append]
    simpa [slC] using r1
  obtain ⟨A, c, rfl, _⟩ := ho.form
  rw [List.length_append, List.length_singleton] at ho hrun r4
  exact ⟨A, c, w2, fun _ => hrun, ho, r2, r4⟩
theorem PS.opened (h : PS w g mv ov vs LL N m) {X X2 : World} {v2 : Value} (hb : Below w.heap.size w X) (ho : OwnG 1 slC 77 X2 0 v2 (vs ++ [.slice none 0 0])) (hg : X.grownBy X2 ov.ownBlock) (hn : v2.ownBlock = ov.ownBlock ∨ v2.ownBlock = some X.heap.size) :
    PS (X2.setCell ⟨g, 1, none⟩ v2) g mv v2 (vs ++ [.slice none 0 0]) (LL ++ [[]]) N m ∧ ∀ b, Owns g mv v2 (vs ++ [.slice none 0 0]) b → Owns g mv ov vs b ∨ w.heap.size ≤ b := by
  have hz := hb.size
  have hg0 : g < w.heap.size := h.lt (.inl rfl)
  have old : ∀ b, Owns g mv ov vs b → ov.ownBlock ≠ some b → X2.heap[b]? = w.heap[b]? := fun b hb' hne => (hg.block b (Nat.lt_of_lt_of_le (h.lt hb') hz) fun e => hne e.symm).trans (hb.block b (h.lt hb'))
  have keepg : ∀ b, b ≠ g → (X2.setCell ⟨g, 1, none⟩ v2).heap[b]? = X2.heap[b]? := fun b hne => Below.heap_setCell X2 ⟨g, 1, none⟩ v2 b hne
  have hgo : ov.ownBlock ≠ some g := fun e => (h.ne_out e).1 rfl
  have hg2 : v2.ownBlock ≠ some g := fun e => by
    rcases hn with e2 | e2
    · exact hgo (e2 ▸ e)
    · rw [e2] at e
      injection e with e
      omega
  refine ⟨⟨(setc_at ((old g (.inl rfl) hgo).trans h.box) _).trans (by rfl), ho.keep fun b e => keepg b fun e2 => hg2 (e2 ▸ e), by simp [h.len], fun i v L hv hL => ?_, fun i j u v b hij hu hv hub => ?_, by
    have e : (LL ++ [[]]).flatten = LL.flatten := by simp
    rw [e]
    exact h.map.keep fun b e => (keepg b (h.ne_map e).1).trans (old b (.inr (.inl e)) (h.ne_map e).2.1)⟩, fun b hb' => ?_⟩
  · have hi : i < (vs ++ [Value.slice none 0 0]).length := (List.getElem?_eq_some_iff.1 hv).1
    rcases Nat.lt_or_ge i vs.length with hlt | hge
    · rw [List.getElem?_append_left hlt] at hv
      rw [List.getElem?_append_left (h.len ▸ hlt)] at hL
      rw [List.take_append_of_le_length (by have := h.len; omega)]
      have hmem := List.mem_of_getElem? hv
      exact (h.row i v L hv hL).keep fun b e => (keepg b (h.ne_row hmem e).1).trans (old b (.inr (.inr (.inr ⟨v, hmem, e⟩))) (h.ne_row hmem e).2.2)
    · simp at hi
      obtain rfl : i = vs.length := by omega
      rw [List.getElem?_append_right (Nat.le_refl _)] at hv
      rw [h.len, List.getElem?_append_right (Nat.le_refl _)] at hL
      simp at hv hL
      subst hv hL
      exact OwnG.nil _ _
  · have nn : ∀ (k : Nat) (x : Value), (vs ++ [Value.slice none 0 0])[k]? = some x → x.ownBlock = some b → vs[k]? = some x := fun k x hx e => by
      rcases Nat.lt_or_ge k vs.length with hlt | hge
      · rwa [List.getElem?_append_left hlt] at hx
      · rw [List.getElem?_append_right hge] at hx
        have := List.mem_of_getElem? hx
        simp at this
        subst this
        cases e
    exact fun e => h.apart i j u v b hij (nn i u hu hub) (nn j v hv e) hub e
  · rcases hb' with e | e | e | ⟨v, hv, e⟩
    · exact .inl (.inl e)
    · exact .inl (.inr (.inl e))
    · rcases hn with e2 | e2
      · exact .inl (.inr (.inr (.inl (e2 ▸ e))))
      · rw [e2] at e
        injection e with e
        exact .inr (by omega)
    · rcases List.mem_append.1 hv with hv | hv
      · exact .inl (.inr (.inr (.inr ⟨v, hv, e⟩)))
      · simp at hv
        subst hv
        cases e
/-- The end of a call, in its post's words. -/
theorem PQ.of {S : Nat → Prop} {w' : World} {mv2 v2 : Value} {us : List Value} {LL2 : List (List Vr)} {N2 : Int} {m2 : Nat} {v : Value} (hS : ∀ b, Owns g mv ov vs b → S b) (h : PS w' g mv2 v2 us LL2 N2 m2) (ho : ∀ b, Owns g mv2 v2 us b → Owns g mv ov vs b ∨ w.heap.size ≤ b) (ht : TurnS S w w') : PQ w g S LL2 N2 m2 v (.returned v) w' :=
  ⟨rfl, ⟨mv2, v2, us, h, fun b hb => (ho b hb).imp (hS b) id⟩, ht⟩
set_option maxHeartbeats 4000000 in
theorem popen_any (h : PS w g mv ov vs LL N m) (hl : LL.length ≤ 100000) {S : Nat → Prop} (hS : ∀ b, Owns g mv ov vs b → S b) :
    Calls Try.prog 19 #[.pointer (some ⟨g, 0, none⟩)] w (PQ w g S (LL ++ [[]]) N m (.tuple #[])) := by
  have z1 : w.cell? ⟨g, 1, none⟩ = some ov := cell_at h.box 1
  have hb := ball_new w #[.slice none 0 0] 77
  obtain ⟨A, c, X2, hr, ho, hg, hn⟩ := app_out (x := .slice none 0 0) rfl (h.out.keep fun b e => hb.block b (h.out.lt b e).2) (new_at w _ _) (by rw [h.len]; omega)
  have hp := h.opened hb ho hg hn
  have hbox : X2.heap[g]? = some (.cells #[mv, ov, .int .i64 N] 49 (0, 0)) := ((hg.block g (Nat.lt_of_lt_of_le (h.lt (.inl rfl)) hb.size) fun e => (h.ne_out e.symm).1 rfl).trans (hb.block g (h.lt (.inl rfl)))).trans h.box
  have f1 : X2.frozen? ⟨g, 1, none⟩ = false := by simp [World.frozen?, hbox]
  have z2 : X2.cell? ⟨g, 1, none⟩ = some ov := cell_at hbox 1
  have HT : Hid (TurnS S w (X2.setCell ⟨g, 1, none⟩ (.slice A (vs.length + 1) c))) := Lib.hid ((((TurnS.refl S w).below hb).grown hg fun k e => .inl (hS k (.inr (.inr (.inl e))))).set (.inl (hS g (.inl rfl))) _ _)
  have HP := Lib.hid hp
  have HS := Lib.hid hS
  have HR := Lib.hid hr
  obtain ⟨A0, c0, rfl, _, _⟩ := h.out.form
  clear h hb ho hg hn hp hbox hS hr
  go_enter Try.func19, Try.ntmps19
  go_wp2_with (at_builtin; refine wp_appG 47 rfl (.tmp 8) (.tmp 9) rfl (.slice A0 vs.length c0) (.slice (some ⟨w.heap.size, 0, none⟩) 1 1) _ rfl rfl HR.out ?_)
  go_wp2_with fail
  go_end0
  exact PQ.of HS.out HP.out.1 HP.out.2 HT.out
end
/-! Nobody's scope. -/
section
variable (w : World)
theorem popen_nil : Calls Try.prog 19 #[.pointer none] w (fun e w' => e = .returned (.tuple #[]) ∧ w' = w) := by
  go_enter Try.func19, Try.ntmps19
  go_wp2_with fail
  go_end0
  exact ⟨rfl, rfl⟩
theorem pdeep_nil : Calls Try.prog 27 #[.pointer none] w (fun e w' => e = .returned (.int .i64 0) ∧ w' = w) := by
  go_enter Try.func27, Try.ntmps27
  go_wp2_with fail
  go_ret
  exact ⟨rfl, rfl⟩
theorem pcount_nil : Calls Try.prog 28 #[.pointer none] w (fun e w' => e = .returned (.int .i64 0) ∧ w' = w) := by
  go_enter Try.func28, Try.ntmps28
  go_wp2_with fail
  go_ret
  exact ⟨rfl, rfl⟩
theorem pfind_nil (v : Value) : Calls Try.prog 25 #[.pointer none, v] w (fun e w' => e = .returned (.tuple #[.int .u8 0, .int .i64 0, .bool false]) ∧ w' = w) := by
  go_enter Try.func25, Try.ntmps25
  go_wp2_with fail
  go_ret3
  exact ⟨rfl, rfl⟩
theorem pdef_nil (v u : Value) : Calls Try.prog 23 #[.pointer none, v, u] w (fun e w' => e = .returned (.bool false) ∧ w' = w) := by
  have HD := Lib.hid (pdeep_nil w)
  go_enter Try.func23, Try.ntmps23
  go_wp2_with fail
  refine HD.out.mono ?_
  rintro e w1 ⟨rfl, rfl⟩
  go_wp2_with fail
  go_ret
  exact ⟨rfl, rfl⟩
theorem pclose_nil : Calls Try.prog 21 #[.pointer none] w (fun e w' => e = .returned (.bool false) ∧ w' = w) := by
  have HD := Lib.hid (pdeep_nil w)
  go_enter Try.func21, Try.ntmps21
  go_wp2_with fail
  refine HD.out.mono ?_
  rintro e w1 ⟨rfl, rfl⟩
  go_wp2_with fail
  go_ret
  exact ⟨rfl, rfl⟩
end
end Go.Proofs.Ytbhgbgaeaejnhaa.Typ
/- The program's bringBack: a name stands for what it hides. -/
namespace Go.Proofs.Ytbhgbgaeaejnhaa.Typ
open Go.RowKit Tre
open OwnR (OwnG)
set_option maxRecDepth 100000
set_option linter.unusedSimpArgs false
/-- A map that is there. -/
def MH (w : World) (gm m : Nat) (f : ByteArray → Option Vr) : Prop := ∃ D, w.ownsMap Try.prog 9 R0 gm m D ∧ TM D f
theorem MH.keep {w w' : World} {gm m : Nat} {f : ByteArray → Option Vr} (h : MH w gm m f) (hb : w'.heap[gm]? = w.heap[gm]?) : MH w' gm m f := by
  obtain ⟨D, ⟨es, c, h1, h2⟩, ht⟩ := h
  exact ⟨D, ⟨es, c, hb.trans h1, h2⟩, ht⟩
theorem MH.lt {w : World} {gm m : Nat} {f : ByteArray → Option Vr} (h : MH w gm m f) : gm < w.heap.size := by
  obtain ⟨D, h, _⟩ := h
  exact h.lt
theorem wpList_del (w : World) {ops : Array Oper} {rest : List Oper} {o : Oper} {a : Act} {Q : Exit → Act → World → Prop} (hg : o.guard = none) (x y : Operand) (hop : o.op = Op.call { callee := Callee.builtin Builtin.delete, args := #[x, y], argTypes := #[46, 9] })
    (gm m : Nat) (f : ByteArray → Option Vr) (s : ByteArray) (hx : a.eval x = .map (some gm)) (hy : a.eval y = .string s) (h : MH w gm m f) (hs : s.size ≤ maxLen)
    (hK : ∀ w', MH w' gm m (upF f s none) → w.grownBy w' (some gm) → wpList Try.prog ops Q rest (a.put o.dst (.tuple #[])) w') : wpList Try.prog ops Q (o :: rest) a w := by
  obtain ⟨D, hown, hT⟩ := h
  refine wpList_delete_own w hg x y 46 9 hop 79 keyedS Try.underlying46 R0 gm m D hx hown _ (ksS s) hy (key_of hs) ?_
  intro w' h1 h2
  exact hK w' ⟨_, h1, hT.del s⟩ h2.grown
theorem wpList_put (w : World) {ops : Array Oper} {rest : List Oper} {o : Oper} {a : Act} {Q : Exit → Act → World → Prop} (hg : o.guard = none) (x y z : Operand) (hop : o.op = Op.mapUpdate 46 x y z)
    (gm m : Nat) (f : ByteArray → Option Vr) (s : ByteArray) (v : Vr) (hx : a.eval x = .map (some gm)) (hy : a.eval y = .string s) (hz : a.eval z = varV (some v)) (h : MH w gm m f) (hs : s.size ≤ maxLen) (hm : m < maxLen)
    (hK : ∀ w', MH w' gm (m + 1) (upF f s (some v)) → w.grownBy w' (some gm) → wpList Try.prog ops Q rest (a.put o.dst undef) w') : wpList Try.prog ops Q (o :: rest) a w := by
  obtain ⟨D, hown, hT⟩ := h
  refine wpList_mapUpdate_own w hg x y z 46 hop 9 79 keyedS Try.underlying46 R0 gm m D hx hown hm _ _ (ksS s) hy hz (key_of hs) (.held (varV (some v))) [] rfl ?_
  intro w' h1 h2
  exact hK w' ⟨_, h1, hT.put hown.isMap s v⟩ h2
/-- What bringBack leaves. -/
def BrQ (w : World) (gm m : Nat) (f : ByteArray → Option Vr) (s : ByteArray) (u : Option Vr) (e : Ending) (w' : World) : Prop := e = .returned (.tuple #[]) ∧ MH w' gm (m + 1) (upF f s u) ∧ TurnS (fun b => b = gm) w w'
set_option maxHeartbeats 4000000 in
theorem bring_none {w : World} {g gm m : Nat} {ov : Value} {N : Int} {f : ByteArray → Option Vr} (hbox : w.heap[g]? = some (.cells #[.map (some gm), ov, .int .i64 N] 49 (0, 0))) (h : MH w gm m f) (s : ByteArray) (hs : s.size ≤ maxLen) :
    Calls Try.prog 45 #[.pointer (some ⟨g, 0, none⟩), .agg #[.string s, .int .u8 0, .int .i64 0, .int .i64 0]] w (BrQ w gm m f s none) := by
  have hb := ball_new w #[.string s, .int .u8 0, .int .i64 0, .int .i64 0] 81
  have HB := Lib.hid hb
  have hn := new_at w #[.string s, .int .u8 0, .int .i64 0, .int .i64 0] 81
  have c0 := cell_at ((hb.block g (lt_of_heap hbox)).trans hbox) 0
  have n0 := cell_at hn 0
  have n3 := cell_at hn 3
  have HM : Hid (MH _ gm m f) := Lib.hid (h.keep (hb.block gm h.lt))
  have HS := Lib.hid hs
  simp only [List.getElem?_toArray, List.getElem?_cons_zero, List.getElem?_cons_succ] at c0 n0 n3
  clear hb hbox h hs hn
  go_enter Try.func45, Try.ntmps45
  go_wp2_with fail
  generalize w.alloc (.cells #[.string s, .int .u8 0, .int .i64 0, .int .i64 0] 81) = W at *
  refine wp_region_still_tail 6 (by kernel_rfl) (by kernel_rfl) ?_
  simp only [List.take_succ_cons, List.take_zero, List.drop_succ_cons, List.drop_zero]
  iterate 6 still_step
  refine wpStill_nil ?_
  change wpList _ _ _ _ _ W.drew
  refine wpList_del W.drew rfl _ _ rfl gm m f s rfl rfl (HM.out.keep rfl) HS.out ?_
  intro w2 hm2 hg2
  have HH := Lib.hid (And.intro hm2 hg2)
  clear hm2 hg2
  go_wp2
  go_end0
  refine ⟨rfl, ?_, ((TurnS.refl _ w).below (HB.out.trans ((Below.refl _ W).drew.mono HB.out.size))).grown HH.out.2 fun k e => .inl (by injection e with e; exact e.symm)⟩
  obtain ⟨D, h1, h2⟩ := HH.out.1
  exact ⟨D, h1.mono (Nat.le_succ m), h2⟩
set_option maxHeartbeats 4000000 in
theorem bring_some {w : World} {g gm m : Nat} {ov : Value} {N : Int} {f : ByteArray → Option Vr} (hbox : w.heap[g]? = some (.cells #[.map (some gm), ov, .int .i64 N] 49 (0, 0))) (h : MH w gm m f) (s : ByteArray) (hs : s.size ≤ maxLen) (hm : m < maxLen) (v : Vr) (hv : (v.k == 0) = false) :
    Calls Try.prog 45 #[.pointer (some ⟨g, 0, none⟩), .agg #[.string s, .int .u8 v.t, .int .i64 v.n, .int .i64 v.k]] w (BrQ w gm m f s (some v)) := by
  have hb := ball_new w #[.string s, .int .u8 v.t, .int .i64 v.n, .int .i64 v.k] 81
  have HB := Lib.hid hb
  have hn := new_at w #[.string s, .int .u8 v.t, .int .i64 v.n, .int .i64 v.k] 81
  have c0 := cell_at ((hb.block g (lt_of_heap hbox)).trans hbox) 0
  have n0 := cell_at hn 0
  have n1 := cell_at hn 1
  have n2 := cell_at hn 2
  have n3 := cell_at hn 3
  have HM : Hid (MH _ gm m f) := Lib.hid (h.keep (hb.block gm h.lt))
  have HS := Lib.hid hs
  have HMM := Lib.hid hm
  simp only [List.getElem?_toArray, List.getElem?_cons_zero, List.getElem?_cons_succ] at c0 n0 n1 n2 n3
  clear hb hbox h hs hn hm
  go_enter Try.func45, Try.ntmps45
  go_wp2_with fail
  generalize w.alloc (.cells #[.string s, .int .u8 v.t, .int .i64 v.n, .int .i64 v.k] 81) = W at *
  refine wp_region_still_tail 8 (by kernel_rfl) (by kernel_rfl) ?_
  simp only [List.take_succ_cons, List.take_zero, List.drop_succ_cons, List.drop_zero]
  iterate 8 still_step
  refine wpStill_nil ?_
  change wpList _ _ _ _ _ W.drew
  refine wpList_put W.drew rfl _ _ _ rfl gm m f s v rfl rfl rfl (HM.out.keep rfl) HS.out HMM.out ?_
  intro w2 hm2 hg2
  have HH := Lib.hid (And.intro hm2 hg2)
  clear hm2 hg2
  go_wp2
  go_end0
  exact ⟨rfl, HH.out.1, ((TurnS.refl _ w).below (HB.out.trans ((Below.refl _ W).drew.mono HB.out.size))).grown HH.out.2 fun k e => .inl (by injection e with e; exact e.symm)⟩
theorem bring_any {w : World} {g gm m : Nat} {ov : Value} {N : Int} {f : ByteArray → Option Vr} (hbox : w.heap[g]? = some (.cells #[.map (some gm), ov, .int .i64 N] 49 (0, 0))) (h : MH w gm m f) (s : ByteArray) (hs : s.size ≤ maxLen) (hm : m < maxLen) (u : Option Vr) (hu : ∀ v, u = some v → 1 ≤ v.k) :
    Calls Try.prog 45 #[.pointer (some ⟨g, 0, none⟩), .agg (nmC (s, u)).toArray] w (BrQ w gm m f s u) := by
  cases u with
  | none => exact bring_none hbox h s hs
  | some v => exact bring_some hbox h s hs hm v (by rw [beq_eq_false_iff_ne]; have := hu v rfl; omega)
end Go.Proofs.Ytbhgbgaeaejnhaa.Typ
