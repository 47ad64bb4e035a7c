/-
  The document's All: what all functions of a file are asked with. Conditions: the file lies in memory; it has at most 100 functions, each at most 100 parameters.
-/
import Derived.Test.YtbhgbgaeaejnhaaQ04
import Derived.Test.YtbhgbgaeaejnhaaQ06
import Derived.OwnWalk
namespace Go.Proofs.Ytbhgbgaeaejnhaa.Typ
open Go.RowKit Tre
open OwnR (OwnG)
set_option maxRecDepth 100000
set_option linter.unusedSimpArgs false
theorem wpList_appG {P : Program} (L : TypeId) {w w2 : World} {ops : Array Oper} {rest : List Oper} {o : Oper} {a : Act} {Q : Exit → Act → World → Prop} (hgd : o.guard = none) (s x : Operand)
    (ho : o.op = .call { callee := .builtin .append, args := #[s, x], argTypes := #[L, L] }) (v u v2 : Value) (hs : a.eval s = v) (hx : a.eval x = u) (hrun : ∀ ty, (Builtin.append_ #[L, L] ty #[v, u]).run P w = .ok v2 w2)
    (h : wpList P ops Q rest (a.put o.dst v2) w2) : wpList P ops Q (o :: rest) a w := by
  refine wpList_plain hgd fun _ hK => ?_
  unfold Oper.wp execOp
  simp only [ho, resolve, invoke, builtin, Sem.run_bind, Sem.run_pure, Result.andThen_ok, List.map_toArray, List.map_cons, List.map_nil, hs, hx, hrun]
  exact hK _ _ h
theorem flV_is (f : Fl) : flV f = .agg #[.string f.s, .slice f.ia f.i.length f.ic, .slice f.fa f.f.length f.fc] := rfl
theorem und_sl : Try.prog.underlying 29 = some (.slice 33) := by kernel_rfl
theorem infoG : (Try.prog.info? 33).map (fun i => (i.zero, i.size, decide (i.bytes ≤ 10000))) = some (some (.agg #[.string ⟨#[]⟩, .slice none 0 0, .int .u8 0]), 3, true) := by kernel_rfl
theorem infoG_of : ∃ i, Try.prog.info? 33 = some i ∧ i.zero = some (.agg #[.string ⟨#[]⟩, .slice none 0 0, .int .u8 0]) ∧ i.size = 3 ∧ i.bytes ≤ 10000 := by
  have h := infoG
  cases hi : Try.prog.info? 33 with
  | none => rw [hi] at h; simp at h
  | some i => rw [hi] at h; simp at h; exact ⟨i, rfl, h.1, h.2.1, h.2.2⟩
theorem app_sg {lo : Nat} (w : World) (v : Value) (l : List Sg) (x : Sg) (eb : Nat) (h : OwnG 3 sgC 33 w lo v l) (he : w.heap[eb]? = some (.cells #[.string x.s, .slice x.a x.p.length x.c, .int .u8 x.r] 33 (0, 0))) (hl : l.length ≤ 1000000) (hlo : lo ≤ w.heap.size) :
    ∃ v2 w2, (∀ ty, (Builtin.append_ #[29, 29] ty #[v, .slice (some ⟨eb, 0, none⟩) 1 1]).run Try.prog w = .ok v2 w2) ∧ OwnG 3 sgC 33 w2 lo v2 (l ++ [x]) ∧ w.grownBy w2 v.ownBlock ∧ (v2.ownBlock = v.ownBlock ∨ v2.ownBlock = some w.heap.size) := by
  obtain ⟨i, hi, hz, hs, hb⟩ := infoG_of
  exact OwnG.app und_sl hi hz hs rfl rfl (by decide) (fun _ => rfl) (fun x u hu => by
    simp [sgC] at hu
    rcases hu with rfl | rfl | rfl <;> rfl) w v l x eb h he hl hb hlo
theorem SgIn.grown {w w' : World} {g : Sg} {own : Option Nat} (h : SgIn w g) (hg : w.grownBy w' own) (hne : ∀ b o, g.a = some ⟨b, o, none⟩ → own ≠ some b) : SgIn w' g :=
  ⟨fun h0 => by
    obtain ⟨b, o, e, hlt, hc⟩ := h.row h0
    exact ⟨b, o, e, Nat.lt_of_lt_of_le hlt hg.size, fun j x hx r u hu => (World.cell?_of_block (w := w) (hg.block b hlt (fun e2 => hne b o e e2.symm))).trans (hc j x hx r u hu)⟩, h.len, h.s⟩
/-- What the loop knows. -/
structure AllAt (f : Fl) (k : Nat) (w wr : World) (v : Value) (gs : List Sg) : Prop where
  own : OwnG 3 sgC 33 wr (w.heap.size + 1) v gs
  told : gs.map coreG = (f.f.take k).map sigF
  sin : ∀ g ∈ gs, SgIn wr g
  off : ∀ g ∈ gs, ∀ b o, g.a = some ⟨b, o, none⟩ → v.ownBlock ≠ some b ∧ w.heap.size < b ∧ b < wr.heap.size
  low : Below w.heap.size w wr
  box : wr.heap[w.heap.size]? = some (.cells #[.string f.s, .slice f.ia f.i.length f.ic, .slice f.fa f.f.length f.fc] 25 (0, 0))
theorem AllAt.more {f : Fl} {k : Nat} {w wr w3 : World} {v : Value} {gs : List Sg} {x : Tre.Fn} {g : Sg} (h : AllAt f k w wr v gs) (hx : f.f[k]? = some x) (hk : k ≤ 100) (hb : Below wr.heap.size wr w3) (hc : coreG g = sigF x) (hi : SgIn w3 g) (hn : NewG wr.heap.size w3.heap.size g) :
    ∃ A n c w4, (∀ ty, (Builtin.append_ #[29, 29] ty #[v, .slice (some ⟨w3.heap.size, 0, none⟩) 1 1]).run Try.prog (w3.alloc (.cells #[.string g.s, .slice g.a g.p.length g.c, .int .u8 g.r] 33)) = .ok (.slice A n c) w4) ∧ AllAt f (k + 1) w w4 (.slice A n c) (gs ++ [g]) := by
  have hlt : w.heap.size + 1 ≤ wr.heap.size := lt_of_heap h.box
  have hb3 := ball_new w3 #[.string g.s, .slice g.a g.p.length g.c, .int .u8 g.r] 33
  have hb4 := hb.trans (hb3.mono hb.size)
  have own1 : OwnG 3 sgC 33 (w3.alloc (.cells #[.string g.s, .slice g.a g.p.length g.c, .int .u8 g.r] 33)) (w.heap.size + 1) v gs := h.own.keep fun b hb' => hb4.block b (h.own.lt b hb').2
  have hlen : gs.length ≤ 1000000 := by
    have := congrArg List.length h.told
    simp only [List.length_map, List.length_take] at this
    omega
  have hsz : w3.heap.size < (w3.alloc (.cells #[.string g.s, .slice g.a g.p.length g.c, .int .u8 g.r] 33)).heap.size := by simp
  obtain ⟨v2, w4, hr, ho, hg, hn2⟩ := app_sg _ v gs g w3.heap.size own1 (new_at w3 _ _) hlen (by have := hb.size; omega)
  obtain ⟨A, c, rfl, _⟩ := ho.form
  have hrow : ∀ b o, g.a = some ⟨b, o, none⟩ → wr.heap.size ≤ b ∧ b < w3.heap.size := hn
  have hsz4 := hg.size
  have hlo4 := (h.low.trans (hb4.mono h.low.size)).grown hg (Nat.le_trans h.low.size hb4.size) (fun b e => by have := (own1.lt b e).1; omega)
  refine ⟨A, _, c, w4, hr, ho, ?_, ?_, ?_, hlo4, ?_⟩
  · rw [List.map_append, h.told, List.take_add_one, hx]
    simp [hc]
  · intro y hy
    rcases List.mem_append.1 hy with hy | hy
    · exact ((h.sin y hy).below hb4).grown hg (fun b o e => (h.off y hy b o e).1)
    · obtain rfl : y = g := by simpa using hy
      exact (hi.below hb3).grown hg (fun b o e e2 => by have := (h.own.lt b e2).2; have := hrow b o e; omega)
  · intro y hy b o e
    rcases List.mem_append.1 hy with hy | hy
    · obtain ⟨q1, q2, q3⟩ := h.off y hy b o e
      have hz := hb.size
      refine ⟨fun e2 => ?_, q2, by omega⟩
      rcases hn2 with e3 | e3
      · exact q1 (e3 ▸ e2)
      · rw [e3] at e2
        injection e2 with e2
        omega
    · obtain rfl : y = g := by simpa using hy
      have q := hrow b o e
      refine ⟨fun e2 => ?_, by omega, by omega⟩
      rcases hn2 with e3 | e3
      · have := (h.own.lt b (e3 ▸ e2)).2
        omega
      · rw [e3] at e2
        injection e2 with e2
        omega
  · exact (hg.block _ (by have := hb4.size; omega) (fun e => by have := (own1.lt _ e.symm).1; omega)).trans ((hb4.block _ (lt_of_heap h.box)).trans h.box)
set_option maxHeartbeats 8000000 in
theorem all_any (f : Fl) (w : World) (hf : FlIn w f) (hn : f.f.length ≤ 100) (hp : ∀ g ∈ f.f, g.p.length ≤ 100) :
    Calls Try.prog 12 #[flV f] w (fun e w' => ∃ A c gs, e = .returned (.slice A gs.length c) ∧ gs.map coreG = f.f.map sigF ∧ Row 3 sgC w' A gs ∧ (∀ g ∈ gs, SgIn w' g) ∧ Below w.heap.size w w') := by
  have HFR := Lib.hid hf.frow
  have HFN := Lib.hid hf.fns
  have HP := Lib.hid hp
  have a1 := ball_new w #[.string f.s, .slice f.ia f.i.length f.ic, .slice f.fa f.f.length f.fc] 25
  have n1 := new_at w #[.string f.s, .slice f.ia f.i.length f.ic, .slice f.fa f.f.length f.fc] 25
  have H0 : Hid (AllAt f 0 w (w.alloc (.cells #[.string f.s, .slice f.ia f.i.length f.ic, .slice f.fa f.f.length f.fc] 25)) (.slice none 0 0) []) := Lib.hid ⟨OwnG.nil _ _, by simp, fun g hg => by simp at hg, fun g hg => by simp at hg, a1, n1⟩
  obtain ⟨W0, hW0⟩ : ∃ W0, w.alloc (.cells #[.string f.s, .slice f.ia f.i.length f.ic, .slice f.fa f.f.length f.fc] 25) = W0 := ⟨_, rfl⟩
  rw [hW0] at H0
  have HBX : Hid (∀ k u v gs, AllAt f k w u v gs → u.cell? ⟨w.heap.size, 2, none⟩ = some (.slice f.fa f.f.length f.fc)) := Lib.hid (fun k u v gs h => cell_at h.box 2)
  rw [flV_is]
  obtain ⟨m, hm⟩ : ∃ m, f.f.length = m := ⟨_, rfl⟩
  rw [hm] at hn hW0 HBX ⊢
  have HM := Lib.hid hm
  clear hf hp a1 n1 hm
  go_enter Try.func12, Try.ntmps12
  go_wp2_with fail
  go_loopw [3, 4] (fun v i wr => ∃ (k : Nat) (A : Option Addr) (n c : Nat) (gs : List Sg), k ≤ m ∧ v = .slice A n c ∧ i = .int .i64 k ∧ Hid (AllAt f k w wr (.slice A n c) gs)) (fun _ i _ => m - (intOf i).toNat)
  case atStart => exact ⟨0, none, 0, 0, [], Nat.zero_le _, rfl, rfl, H0⟩
  case round =>
    obtain ⟨k, A, n, c, gs, hk, rfl, rfl, H⟩ := hrel
    have z2 := HBX.out _ _ _ _ H.out
    by_cases hlt : k < m
    · obtain ⟨x, hx⟩ : ∃ x, f.f[k]? = some x := ⟨_, List.getElem?_eq_getElem (by rw [HM.out]; exact hlt)⟩
      obtain ⟨b1, o1, ha, hc1⟩ := HFR.out.at_ H.out.low hx
      rw [ha] at z2
      obtain ⟨p0, p1, p2, p3⟩ := fnC_at hc1
      have CO := Lib.hid (of_any x wr ((HFN.out x (List.mem_of_getElem? hx)).below H.out.low) (HP.out x (List.mem_of_getElem? hx)))
      rw [fnV_eq] at CO
      have HX := Lib.hid hx
      clear hc1 hx ha
      go_wp2_with fail
      refine CO.out.mono ?_
      rintro e1 w3 ⟨g, rfl, hc, hi, hng, hb⟩
      obtain ⟨A2, n2, c2, w4, hr, hat⟩ := H.out.more HX.out (by omega) hb hc hi hng
      have HR := Lib.hid hr
      have HAT := Lib.hid hat
      rw [sgV_eq]
      clear hr hat hc hi hng hb
      go_wp2_with (at_builtin; refine wpList_appG 29 rfl (.tmp 12) (.tmp 19) rfl (.slice A n c) (.slice (some ⟨w3.heap.size, 0, none⟩) 1 1) _ rfl rfl HR.out ?_)
      go_wp2_with fail
      go_roundw
      case rel => exact ⟨k + 1, A2, n2, c2, _, by omega, rfl, by go_num, HAT⟩
      case measure => simp [intOf]; omega
    · obtain rfl : k = m := by omega
      have HH := H
      go_wp2_with fail
      go_ret
      obtain ⟨A', c', e', _, _⟩ := HH.out.own.form
      injection e' with e1 e2 e3
      subst e1 e2 e3
      refine ⟨A, c, gs, rfl, ?_, OwnG.row (C := sgC) (k := 3) (fun _ => rfl) HH.out.own, HH.out.sin, HH.out.low⟩
      rw [HH.out.told, List.take_of_length_le (Nat.le_of_eq HM.out)]
end Go.Proofs.Ytbhgbgaeaejnhaa.Typ
/- The document's Look: the first signature of a name; else the empty one. -/
namespace Go.Proofs.Ytbhgbgaeaejnhaa.Typ
open Go.RowKit Tre
set_option maxRecDepth 100000
set_option linter.unusedSimpArgs false
theorem find_hit {α : Type} {p : α → Bool} : ∀ (l : List α) (k : Nat) (g : α), l[k]? = some g → p g = true → (∀ (j : Nat) (h : α), j < k → l[j]? = some h → p h = false) → l.find? p = some g
  | [], k, g, h, _, _ => by simp at h
  | a :: l, 0, g, h, hp, _ => by
    simp only [List.getElem?_cons_zero, Option.some.injEq] at h
    subst h
    simp only [List.find?_cons, hp]
  | a :: l, k + 1, g, h, hp, hq => by
    have h0 := hq 0 a (by omega) rfl
    simp only [List.find?_cons, h0]
    exact find_hit l k g (by simpa using h) hp fun j b hj e => hq (j + 1) b (by omega) (by simpa using e)
theorem find_miss {α : Type} {p : α → Bool} (l : List α) (hq : ∀ (j : Nat) (h : α), j < l.length → l[j]? = some h → p h = false) : l.find? p = none := by
  rw [List.find?_eq_none]
  intro a ha
  obtain ⟨j, hj, e⟩ := List.getElem_of_mem ha
  rw [hq j a hj (by rw [List.getElem?_eq_getElem hj, e])]
  decide
def nilG : Sg := ⟨⟨#[]⟩, none, 0, [], 0⟩
def isG (s : ByteArray) (g : Sg) : Bool := g.s.toList == s.toList
/-- Its answer. -/
def lookA (x : List Sg) (s : ByteArray) : Value := match x.find? (isG s) with
  | some g => .tuple #[sgV g, .bool true]
  | none => .tuple #[sgV nilG, .bool false]
theorem results_sig2 {fn : Func} {p q : Tmp} (h : fn.results = #[.cell p 33, .tmp q]) (tmps : Array Value) (w : World) (g : Nat) (v0 v1 v2 u : Value) (hv : tmps.getD p undef = .pointer (some ⟨g, 0, none⟩)) (hu : tmps.getD q undef = u) (hc : w.heap[g]? = some (.cells #[v0, v1, v2] 33 (0, 0))) :
    (results fn tmps).run Try.prog w = .ok (.tuple #[.agg #[v0, v1, v2], u]) w := by
  have a4 := Try.isAgg33
  have z4 := Try.sizeOf33
  have c0 := cell_at hc 0
  have c1 := cell_at hc 1
  have c2 := cell_at hc 2
  simp only [List.getElem?_toArray, List.getElem?_cons_succ, List.getElem?_cons_zero] at c0 c1 c2
  simp only [Array.getD_eq_getD_getElem?] at hv hu
  unfold results
  rw [h]
  go_simp
/-- What its loop knows of the world. -/
structure LookIn (w W : World) : Prop where
  res : W.heap[w.heap.size]? = some (.cells #[.string ⟨#[]⟩, .slice none 0 0, .int .u8 0] 33 (0, 0))
  low : Below w.heap.size w W
theorem LookIn.put {w W : World} (h : LookIn w W) (v0 v1 v2 : Value) :
    (((W.setCell ⟨w.heap.size, 0, none⟩ v0).setCell ⟨w.heap.size, 1, none⟩ v1).setCell ⟨w.heap.size, 2, none⟩ v2).heap[w.heap.size]? = some (.cells #[v0, v1, v2] 33 (0, 0)) ∧
    Below w.heap.size w (((W.setCell ⟨w.heap.size, 0, none⟩ v0).setCell ⟨w.heap.size, 1, none⟩ v1).setCell ⟨w.heap.size, 2, none⟩ v2) :=
  ⟨(setc_at (setc_at (setc_at h.res _) _) _).trans (by rfl), ((h.low.setCell (p := ⟨w.heap.size, 0, none⟩) (by simp) _).setCell (p := ⟨w.heap.size, 1, none⟩) (by simp) _).setCell (p := ⟨w.heap.size, 2, none⟩) (by simp) _⟩
set_option maxHeartbeats 8000000 in
theorem look_any (x : List Sg) (A : Option Addr) (c : Nat) (s : ByteArray) (w : World) (hx : Row 3 sgC w A x) (hl : x.length ≤ most) :
    Calls Try.prog 11 #[.slice A x.length c, .string s] w (fun e w' => e = .returned (lookA x s) ∧ Below w.heap.size w w') := by
  unfold most at hl
  have HX := Lib.hid hx
  have H0 : Hid (LookIn w (w.alloc (.cells #[.string ⟨#[]⟩, .slice none 0 0, .int .u8 0] 33))) := Lib.hid ⟨new_at w _ _, ball_new w _ _⟩
  obtain ⟨n, hn⟩ : ∃ n, x.length = n := ⟨_, rfl⟩
  rw [hn] at hl ⊢
  have HN := Lib.hid hn
  clear hn hx
  go_enter Try.func11, Try.ntmps11
  go_wp2_with fail
  obtain ⟨X, hX⟩ : ∃ X, w.alloc (.cells #[.string ⟨#[]⟩, .slice none 0 0, .int .u8 0] 33) = X := ⟨_, rfl⟩
  rw [hX] at H0 ⊢
  clear hX
  go_loopw [6] (fun i wr => ∃ k : Nat, k ≤ n ∧ i = .int .i64 k ∧ Hid (LookIn w wr) ∧ Hid (∀ (j : Nat) (a : Sg), j < k → x[j]? = some a → isG s a = false)) (fun i _ => n - (intOf i).toNat)
  case atStart => exact ⟨0, Nat.zero_le _, rfl, H0, Lib.hid (fun j a h => by omega)⟩
  case round =>
    obtain ⟨k, hk, rfl, H, HS⟩ := hrel
    have f0 : ∀ i, wr.frozen? ⟨w.heap.size, i, none⟩ = false := fun i => by simp [World.frozen?, H.out.res]
    have r0 : wr.cell? ⟨w.heap.size, 0, none⟩ = some (.string ⟨#[]⟩) := cell_at H.out.res 0
    have r1 : wr.cell? ⟨w.heap.size, 1, none⟩ = some (.slice none 0 0) := cell_at H.out.res 1
    have r2 : wr.cell? ⟨w.heap.size, 2, none⟩ = some (.int .u8 0) := cell_at H.out.res 2
    by_cases hlt : k < n
    · obtain ⟨a, ha⟩ : ∃ a, x[k]? = some a := ⟨_, List.getElem?_eq_getElem (by rw [HN.out]; exact hlt)⟩
      obtain ⟨b1, o1, rfl, hc1⟩ := HX.out.at_ H.out.low ha
      obtain ⟨p0, p1, p2⟩ := sgC_at hc1
      have HA := Lib.hid ha
      clear hc1 ha
      obtain ⟨pl, hpl⟩ : ∃ l, a.p.length = l := ⟨_, rfl⟩
      rw [hpl] at p1
      have HPL := Lib.hid hpl
      obtain ⟨t1, ht1⟩ : ∃ t, (a.s.toList == s.toList) = t := ⟨_, rfl⟩
      have HG : Hid (isG s a = t1) := Lib.hid ht1
      clear hpl
      cases t1 with
      | false =>
        go_wp2_with fail
        go_roundw
        case rel => exact ⟨k + 1, by omega, by go_num, H, Lib.hid (fun j b hj e => by
          rcases Nat.lt_or_ge j k with h | h
          · exact HS.out j b h e
          · obtain rfl : j = k := by omega
            have := HA.out.symm.trans e
            injection this with this
            rw [← this]
            exact HG.out)⟩
        case measure => simp [intOf]; omega
      | true =>
        go_wp2_with fail
        have hp := H.out.put (.string a.s) (.slice a.a pl a.c) (.int .u8 a.r)
        refine bodyPost_ret (results_sig2 rfl _ _ w.heap.size _ _ _ (.bool true) rfl rfl hp.1) rfl ⟨?_, hp.2⟩
        rw [show lookA x s = .tuple #[sgV a, .bool true] by unfold lookA; rw [find_hit x k a HA.out HG.out HS.out], sgV_eq, HPL.out]
    · obtain rfl : k = n := by omega
      go_wp2_with fail
      have hp := H.out.put (.string ⟨#[]⟩) (.slice none 0 0) (.int .u8 0)
      refine bodyPost_ret (results_sig2 rfl _ _ w.heap.size _ _ _ (.bool false) rfl rfl hp.1) rfl ⟨?_, hp.2⟩
      rw [show lookA x s = .tuple #[sgV nilG, .bool false] by unfold lookA; rw [find_miss x (by rw [HN.out]; exact HS.out)]]
      rfl
end Go.Proofs.Ytbhgbgaeaejnhaa.Typ
/- The document's scopes in memory: a struct behind a pointer, its variables a row. Open, Find. -/
namespace Go.Proofs.Ytbhgbgaeaejnhaa.Typ
open Go.RowKit Tre
set_option maxRecDepth 100000
set_option linter.unusedSimpArgs false
/-- A variable. -/
structure Vr where
  s : ByteArray
  t : Int
  n : Int
  k : Int
def vrC (v : Vr) : List Value := [.string v.s, .int .u8 v.t, .int .i64 v.n, .int .i64 v.k]
def isV (s : ByteArray) (v : Vr) : Bool := v.s.toList == s.toList
/-- A scope that lies at block g. -/
structure ScIn (w : World) (g : Nat) (A : Option Addr) (c : Nat) (l : List Vr) (D N : Int) : Prop where
  box : w.heap[g]? = some (.cells #[.slice A l.length c, .int .i64 D, .int .i64 N] 53 (0, 0))
  row : Row 4 vrC w A l
  cap : l.length ≤ c
  apart : ∀ b o, A = some ⟨b, o, none⟩ → b ≠ g
  form : (A = none ∧ c = 0) ∨ ∃ b o, A = some ⟨b, o, none⟩
theorem ScIn.below {w w' : World} {g : Nat} {A : Option Addr} {c : Nat} {l : List Vr} {D N : Int} (h : ScIn w g A c l D N) (hb : Below w.heap.size w w') : ScIn w' g A c l D N :=
  ⟨(hb.block g (lt_of_heap h.box)).trans h.box, h.row.below hb, h.cap, h.apart, h.form⟩
theorem row_apart {α : Type} {k : Nat} {C : α → List Value} {w : World} {A : Option Addr} {l : List α} (h : Row k C w A l) {g : Nat} (ha : ∀ b o, A = some ⟨b, o, none⟩ → b ≠ g) (i : Nat) (u : Value) : Row k C (w.setCell ⟨g, i, none⟩ u) A l := fun h0 => by
  obtain ⟨b, o, e, hlt, hc⟩ := h h0
  exact ⟨b, o, e, by rw [World.size_setCell]; exact hlt, fun j x hx r v hv => (World.cell?_of_block (Below.heap_setCell w ⟨g, i, none⟩ u b (ha b o e))).trans (hc j x hx r v hv)⟩
theorem vrC_at {v : Vr} {w : World} {b o : Nat} (h : ∀ (r : Nat) (u : Value), (vrC v)[r]? = some u → w.cell? ⟨b, o + r, none⟩ = some u) :
    w.cell? ⟨b, o, none⟩ = some (.string v.s) ∧ w.cell? ⟨b, o + 1, none⟩ = some (.int .u8 v.t) ∧ w.cell? ⟨b, o + 2, none⟩ = some (.int .i64 v.n) ∧ w.cell? ⟨b, o + 3, none⟩ = some (.int .i64 v.k) := ⟨h 0 _ rfl, h 1 _ rfl, h 2 _ rfl, h 3 _ rfl⟩
/-- A field is written. -/
theorem ScIn.deep {w : World} {g : Nat} {A : Option Addr} {c : Nat} {l : List Vr} {D N : Int} (h : ScIn w g A c l D N) (D' : Int) : ScIn (w.setCell ⟨g, 1, none⟩ (.int .i64 D')) g A c l D' N :=
  ⟨(setc_at h.box _).trans (by rfl), row_apart h.row h.apart _ _, h.cap, h.apart, h.form⟩
set_option maxHeartbeats 4000000 in
theorem open_any {w : World} {g : Nat} {A : Option Addr} {c : Nat} {l : List Vr} {D N : Int} (h : ScIn w g A c l D N) (hd : 0 ≤ D) (hd2 : D ≤ 1000) :
    Calls Try.prog 20 #[.pointer (some ⟨g, 0, none⟩)] w (fun e w' => e = .returned (.tuple #[]) ∧ w' = w.setCell ⟨g, 1, none⟩ (.int .i64 (D + 1))) := by
  have f1 : w.frozen? ⟨g, 1, none⟩ = false := by simp [World.frozen?, h.box]
  have z1 : w.cell? ⟨g, 1, none⟩ = some (.int .i64 D) := cell_at h.box 1
  clear h
  go_enter Try.func20, Try.ntmps20
  go_wp2_with fail
  go_end0
  exact ⟨rfl, rfl⟩
/-- Find's answer. -/
def findA (l : List Vr) (s : ByteArray) : Value := match l.reverse.find? (isV s) with
  | some v => .tuple #[.int .u8 v.t, .int .i64 v.n, .bool true]
  | none => .tuple #[.int .u8 0, .int .i64 0, .bool false]
theorem findA_hit {l : List Vr} {s : ByteArray} {k : Nat} {v : Vr} (hk : l[k]? = some v) (hv : isV s v = true) (ho : ∀ (j : Nat) (a : Vr), k < j → l[j]? = some a → isV s a = false) : findA l s = .tuple #[.int .u8 v.t, .int .i64 v.n, .bool true] := by
  have hlt := (List.getElem?_eq_some_iff.1 hk).1
  unfold findA
  rw [find_hit l.reverse (l.length - 1 - k) v (by rw [List.getElem?_reverse (by omega), show l.length - 1 - (l.length - 1 - k) = k by omega]; exact hk) hv (fun j a hj e => ho (l.length - 1 - j) a (by omega) (by rw [List.getElem?_reverse (by omega)] at e; exact e))]
theorem findA_miss {l : List Vr} {s : ByteArray} (ho : ∀ (j : Nat) (a : Vr), 0 ≤ j → l[j]? = some a → isV s a = false) : findA l s = .tuple #[.int .u8 0, .int .i64 0, .bool false] := by
  unfold findA
  rw [find_miss l.reverse (fun j a hj e => ho (l.length - 1 - j) a (by omega) (by rw [List.getElem?_reverse (by simpa using hj)] at e; exact e))]
set_option maxHeartbeats 8000000 in
theorem find_any {w : World} {g : Nat} {A : Option Addr} {c : Nat} {l : List Vr} {D N : Int} (h : ScIn w g A c l D N) (hl : l.length ≤ 1000) (s : ByteArray) :
    Calls Try.prog 26 #[.pointer (some ⟨g, 0, none⟩), .string s] w (EndsQ (findA l s) w) := by
  have z0 : w.cell? ⟨g, 0, none⟩ = some (.slice A l.length c) := cell_at h.box 0
  have HR := Lib.hid h.row
  clear h
  obtain ⟨n, hn⟩ : ∃ n, l.length = n := ⟨_, rfl⟩
  rw [hn] at hl z0
  have HN := Lib.hid hn
  clear hn
  go_enter Try.func26, Try.ntmps26
  go_wp2_with fail
  go_loopw [7] (fun i wr => ∃ k : Nat, k ≤ n ∧ i = .int .i64 ((k : Int) - 1) ∧ Hid (wr = w) ∧ Hid (∀ (j : Nat) (a : Vr), k ≤ j → l[j]? = some a → isV s a = false)) (fun i _ => (intOf i + 1).toNat)
  case atStart => exact ⟨n, Nat.le_refl _, rfl, Lib.hid (by trivial), Lib.hid (fun j a h e => by have := (List.getElem?_eq_some_iff.1 e).1; have := HN.out; omega)⟩
  case round =>
    obtain ⟨k, hk, rfl, hw, HS⟩ := hrel
    obtain rfl := hw.out
    by_cases hlt : 0 < k
    · obtain ⟨m, rfl⟩ : ∃ m, k = m + 1 := ⟨k - 1, by omega⟩
      obtain ⟨a, ha⟩ : ∃ a, l[m]? = some a := ⟨_, List.getElem?_eq_getElem (by rw [HN.out]; omega)⟩
      obtain ⟨b1, o1, rfl, hc1⟩ := HR.out.at_ (Below.refl _ _) ha
      obtain ⟨p0, p1, p2, p3⟩ := vrC_at hc1
      have HA := Lib.hid ha
      clear hc1 ha hw
      rw [show (((m + 1 : Nat) : Int) - 1) = (m : Int) by omega]
      obtain ⟨t1, ht1⟩ : ∃ t, (a.s.toList == s.toList) = t := ⟨_, rfl⟩
      have HG : Hid (isV s a = t1) := Lib.hid ht1
      cases t1 with
      | false =>
        go_wp2_with fail
        go_roundw
        case rel => exact ⟨m, by omega, rfl, Lib.hid (by trivial), Lib.hid (fun j b hj e => by
          rcases Nat.lt_or_ge m j with h | h
          · exact HS.out j b h e
          · obtain rfl : j = m := by omega
            have := HA.out.symm.trans e
            injection this with this
            rw [← this]
            exact HG.out)⟩
        case measure => simp [intOf]
      | true =>
        go_wp2_with fail
        go_quiet (fail)
        go_wp2_with fail
        go_ret3
        exact ⟨by rw [findA_hit HA.out HG.out HS.out]; rfl, _, rfl⟩
    · obtain rfl : k = 0 := by omega
      go_wp2_with fail
      go_ret3
      exact ⟨by rw [findA_miss HS.out]; rfl, 0, rfl⟩
end Go.Proofs.Ytbhgbgaeaejnhaa.Typ
