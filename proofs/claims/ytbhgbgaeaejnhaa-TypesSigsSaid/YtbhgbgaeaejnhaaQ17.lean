/-
  The program's Def. Conditions: sizes.
-/
import Derived.Test.YtbhgbgaeaejnhaaQ05
import Derived.Test.YtbhgbgaeaejnhaaQ06
import Derived.Test.YtbhgbgaeaejnhaaQ16
import Derived.Carry
namespace Go.Proofs.Ytbhgbgaeaejnhaa.Typ
open Go.RowKit Tre
open OwnR (OwnG)
open Lex (AtS at_take at_run at_either)
set_option maxRecDepth 100000
set_option linter.unusedSimpArgs false
set_option maxHeartbeats 4000000 in
theorem clone_any (s : ByteArray) (w : World) (hs : s.size ≤ 281474976710656) : Calls Try.prog 42 #[.string s] w (fun e w' => e = .returned (.string s) ∧ Below w.heap.size w w') := by
  have C := Lib.hid (Try.stringslite_Clone s w hs)
  go_enter Try.func42, Try.ntmps42
  go_wp2_with fail
  refine C.out.mono ?_
  rintro e w1 ⟨rfl, hb⟩
  go_wp2_with fail
  go_ret
  exact ⟨rfl, hb⟩
theorem und_in : Try.prog.underlying 77 = some (.slice 81) := by kernel_rfl
theorem infoN : (Try.prog.info? 81).map (fun i => (i.zero, i.size, decide (i.bytes ≤ 10000))) = some (some (.agg #[.string ⟨#[]⟩, .int .u8 0, .int .i64 0, .int .i64 0]), 4, true) := by kernel_rfl
theorem infoN_of : ∃ i, Try.prog.info? 81 = some i ∧ i.zero = some (.agg #[.string ⟨#[]⟩, .int .u8 0, .int .i64 0, .int .i64 0]) ∧ i.size = 4 ∧ i.bytes ≤ 10000 := by
  have h := infoN
  cases hi : Try.prog.info? 81 with
  | none => rw [hi] at h; simp at h
  | some i => rw [hi] at h; simp at h; exact ⟨i, rfl, h.1, h.2.1, h.2.2⟩
theorem nm_one (x : ByteArray × Option Vr) : ∀ u ∈ nmC x, u.oneCell' = true := fun u hu => by
  obtain ⟨s, o⟩ := x
  cases o <;> simp [nmC, varL] at hu <;> rcases hu with rfl | rfl | rfl | rfl <;> rfl
/-- One more name behind a block's. -/
theorem app_in {X : World} {v : Value} {l : List (ByteArray × Option Vr)} (x : ByteArray × Option Vr) {eb : Nat} (h : OwnG 4 nmC 81 X 0 v l) (he : X.heap[eb]? = some (.cells (nmC x).toArray 81 (0, 0))) (hl : l.length ≤ 1000000) :
    ∃ A n c X2, (∀ ty, (Builtin.append_ #[77, 77] ty #[v, .slice (some ⟨eb, 0, none⟩) 1 1]).run Try.prog X = .ok (.slice A n c) X2) ∧ OwnG 4 nmC 81 X2 0 (.slice A n c) (l ++ [x]) ∧ X.grownBy X2 v.ownBlock ∧ ((Value.slice A n c).ownBlock = v.ownBlock ∨ (Value.slice A n c).ownBlock = some X.heap.size) := by
  obtain ⟨i, hi, hz, hs, hb⟩ := infoN_of
  obtain ⟨v2, X2, h1, h2, h3, h4⟩ := OwnG.app und_in hi hz hs rfl rfl (by decide) nmC_len nm_one X v l x eb h he hl hb (Nat.zero_le _)
  obtain ⟨A, c, rfl, _⟩ := h2.form
  exact ⟨A, _, c, X2, h1, h2, h3, h4⟩
/-- The last element of a row of rows is another one. -/
theorem set_row {w : World} {b n c : Nat} {us : List Value} {v v2 : Value} (h : OwnG 1 slC 77 w 0 (.slice (some ⟨b, 0, none⟩) n c) (us ++ [v])) : OwnG 1 slC 77 (w.setCell ⟨b, us.length, none⟩ v2) 0 (.slice (some ⟨b, 0, none⟩) n c) (us ++ [v2]) := by
  obtain ⟨hl, h2⟩ := h
  rw [slC_flat] at h2 hl
  rcases h2 with ⟨e, _⟩ | ⟨g, cap, cur, e, _, hh, hc, hm, hs, ht⟩
  · cases e
  injection e with e1 e2 e3
  injection e1 with e1
  injection e1 with e1
  subst e1 e3
  rw [List.length_append, List.length_singleton, Nat.mul_one] at ht
  rw [Nat.mul_one] at hs
  have hc' : us.length + 1 ≤ c := by simpa using hc
  refine ⟨by rw [slC_flat, Nat.mul_one], .inr ⟨b, c, cur.set! us.length v2, by rw [e2]; simp, Nat.zero_le _, setc_at hh _, by simpa using hc, hm, by simpa using hs, ?_⟩⟩
  rw [slC_flat, Nat.mul_one, List.length_append, List.length_singleton]
  simp only [Array.set!_eq_setIfInBounds, Array.toList_setIfInBounds]
  rw [List.take_set, ht]
  simp
theorem field_deep (a b c : Value) (w : World) : (Instr.field 79 (.agg #[a, b, c]) 2).run Try.prog w = .ok c w := by kernel_rfl
theorem map_nil (w : World) : (binOp .eql 46 (.map none) (.map none)).run Try.prog w = .ok (.bool true) w := by kernel_rfl
theorem map_not (gm : Nat) (w : World) : (binOp .eql 46 (.map (some gm)) (.map none)).run Try.prog w = .ok (.bool false) w := by kernel_rfl
/-- What Def's append reads. -/
def DS2 (g gm bO cO d : Nat) (iv : Value) (N : Int) (m : Nat) (f : ByteArray → Option Vr) (W : World) : Prop :=
  W.cell? ⟨g, 0, none⟩ = some (.map (some gm)) ∧ W.cell? ⟨g, 1, none⟩ = some (.slice (some ⟨bO, 0, none⟩) (d + 1) cO) ∧ W.cell? ⟨g, 2, none⟩ = some (.int .i64 N) ∧ W.cell? ⟨bO, d, none⟩ = some iv ∧ FM W (.map (some gm)) m f
theorem DS2.keep {g gm bO cO d : Nat} {iv : Value} {N : Int} {m : Nat} {f : ByteArray → Option Vr} {W W' : World} (h : DS2 g gm bO cO d iv N m f W) (hb : ∀ b, b = g ∨ b = bO ∨ b = gm → W'.heap[b]? = W.heap[b]?) : DS2 g gm bO cO d iv N m f W' := by
  have e : ∀ b i, b = g ∨ b = bO ∨ b = gm → W'.cell? ⟨b, i, none⟩ = W.cell? ⟨b, i, none⟩ := fun b i k => World.cell?_of_block (hb b k)
  exact ⟨(e g 0 (.inl rfl)).trans h.1, (e g 1 (.inl rfl)).trans h.2.1, (e g 2 (.inl rfl)).trans h.2.2.1, (e bO d (.inr (.inl rfl))).trans h.2.2.2.1, h.2.2.2.2.keep fun b k => hb b (.inr (.inr (by injection k with k; injection k with k; exact k.symm)))⟩
theorem run_appz {P : Program} {L : TypeId} {a : Act} {w w' : World} {oi : Oper} (s x : Operand) {v u v2 : Value} (ho : oi.op = .call { callee := .builtin .append, args := #[s, x], argTypes := #[L, L] }) (hs : a.eval s = v) (hx : a.eval x = u) (hrun : ∀ ty, (Builtin.append_ #[L, L] ty #[v, u]).run P w = .ok v2 w') : (execOp a.eval oi).run P w = .ok (.value v2) w' := by
  unfold execOp
  simp only [ho, resolve, invoke, builtin, Sem.run_bind, Sem.run_pure, Result.andThen_ok, List.map_toArray, List.map_cons, List.map_nil, hs, hx, hrun]
section
variable {w w' : World} {g gm : Nat} {ov v v2 : Value} {us : List Value} {LL : List (List Vr)} {L : List Vr} {N : Int} {m : Nat}
theorem PS.defd (h : PS w g (.map (some gm)) ov (us ++ [v]) (LL ++ [L]) N m) (x : Vr) (hbox : w'.heap[g]? = some (.cells #[.map (some gm), ov, .int .i64 (N + 1)] 49 (0, 0))) (ho : OwnG 1 slC 77 w' 0 ov (us ++ [v2])) (hr : OwnG 4 nmC 81 w' 0 v2 (nms LL.flatten (L ++ [x])))
    (hn : ∀ b, v2.ownBlock = some b → v.ownBlock = some b ∨ w.heap.size ≤ b) (hu : ∀ u ∈ us, ∀ b, u.ownBlock = some b → w'.heap[b]? = w.heap[b]?) (hm : MH w' gm (m + 1) (upF (fnd (LL ++ [L]).flatten) x.s (some x))) :
    PS w' g (.map (some gm)) ov (us ++ [v2]) (LL ++ [L ++ [x]]) (N + 1) (m + 1) ∧ ∀ b, Owns g (.map (some gm)) ov (us ++ [v2]) b → Owns g (.map (some gm)) ov (us ++ [v]) b ∨ w.heap.size ≤ b := by
  obtain ⟨hlen, _⟩ := h.last
  have far : ∀ (i j : Nat) (u : Value) (b : Nat), us[i]? = some u → u.ownBlock = some b → v2.ownBlock ≠ some b := fun i j u b hi hb e => by
    have hmem := List.mem_of_getElem? hi
    rcases hn b e with e2 | e2
    · exact h.apart i us.length u v b (by have := (List.getElem?_eq_some_iff.1 hi).1; omega) (by rw [List.getElem?_append_left (List.getElem?_eq_some_iff.1 hi).1]; exact hi) (by simp) hb e2
    · have := h.lt (b := b) (.inr (.inr (.inr ⟨u, List.mem_append_left _ hmem, hb⟩)))
      omega
  have two : ∀ (i : Nat) (u : Value), (us ++ [v2])[i]? = some u → (us[i]? = some u ∧ i < us.length) ∨ (i = us.length ∧ u = v2) := fun i u hi => by
    rcases Nat.lt_or_ge i us.length with hlt | hge
    · rw [List.getElem?_append_left hlt] at hi
      exact .inl ⟨hi, hlt⟩
    · have := (List.getElem?_eq_some_iff.1 hi).1
      simp at this
      obtain rfl : i = us.length := by omega
      simp at hi
      exact .inr ⟨rfl, hi.symm⟩
  refine ⟨⟨hbox, ho, by simp [hlen], fun i u M hu' hM => ?_, fun i j u y b hij hu' hy hb e => ?_, .inr ?_⟩, fun b hb => ?_⟩
  · rcases two i u hu' with ⟨h1, hlt⟩ | ⟨rfl, rfl⟩
    · rw [List.getElem?_append_left (hlen ▸ hlt)] at hM
      have := h.row i u M (by rw [List.getElem?_append_left hlt]; exact h1) (by rw [List.getElem?_append_left (hlen ▸ hlt)]; exact hM)
      rw [List.take_append_of_le_length (by omega)] at this ⊢
      exact this.keep (hu u (List.mem_of_getElem? h1))
    · rw [hlen] at hM ⊢
      simp at hM
      subst hM
      rw [List.take_append_of_le_length (Nat.le_refl _), List.take_length]
      exact hr
  · rcases two i u hu' with ⟨h1, hlt⟩ | ⟨rfl, rfl⟩
    · rcases two j y hy with ⟨h2, hlt2⟩ | ⟨rfl, rfl⟩
      · exact h.apart i j u y b hij (by rw [List.getElem?_append_left hlt]; exact h1) (by rw [List.getElem?_append_left hlt2]; exact h2) hb e
      · exact far i 0 u b h1 hb e
    · rcases two j y hy with ⟨h2, hlt2⟩ | ⟨rfl, rfl⟩
      · exact far j 0 y b h2 e hb
      · exact hij rfl
  · have e : (LL ++ [L ++ [x]]).flatten = (LL ++ [L]).flatten ++ [x] := by simp
    obtain ⟨D, h1, h2⟩ := hm
    rw [e, fnd_def]
    exact ⟨gm, D, rfl, h1, h2⟩
  · rcases hb with hb | hb | hb | ⟨u, hu', hb⟩
    · exact .inl (.inl hb)
    · exact .inl (.inr (.inl hb))
    · exact .inl (.inr (.inr (.inl hb)))
    · rcases List.mem_append.1 hu' with hu' | hu'
      · exact .inl (.inr (.inr (.inr ⟨u, List.mem_append_left _ hu', hb⟩)))
      · obtain rfl : u = v2 := by simpa using hu'
        rcases hn b hb with e | e
        · exact .inl (.inr (.inr (.inr ⟨v, by simp, e⟩)))
        · exact .inr e
end
theorem PS.made {w : World} {g : Nat} {ov : Value} {vs : List Value} {LL : List (List Vr)} {N : Int} {m : Nat} (h : PS w g (.map none) ov vs LL N m) {S : Nat → Prop} (hS : ∀ b, Owns g (.map none) ov vs b → S b) :
    PS ((w.alloc (.map #[] 0)).setCell ⟨g, 0, none⟩ (.map (some w.heap.size))) g (.map (some w.heap.size)) ov vs LL N m ∧ TurnS S w ((w.alloc (.map #[] 0)).setCell ⟨g, 0, none⟩ (.map (some w.heap.size))) ∧ ∀ b, Owns g (.map (some w.heap.size)) ov vs b → S b ∨ w.heap.size ≤ b := by
  have hb : Below w.heap.size w (w.alloc (.map #[] 0)) := (Below.refl w.heap.size w).alloc (Nat.le_refl _) _
  have hg := lt_of_heap h.box
  have keepg : ∀ b, b ≠ g → ((w.alloc (.map #[] 0)).setCell ⟨g, 0, none⟩ (.map (some w.heap.size))).heap[b]? = (w.alloc (.map #[] 0)).heap[b]? := fun b hne => Below.heap_setCell _ ⟨g, 0, none⟩ _ b hne
  have old : ∀ b, Owns g (.map none) ov vs b → b ≠ g → ((w.alloc (.map #[] 0)).setCell ⟨g, 0, none⟩ (.map (some w.heap.size))).heap[b]? = w.heap[b]? := fun b hb' hne => (keepg b hne).trans (hb.block b (h.lt hb'))
  refine ⟨⟨(setc_at ((hb.block g hg).trans h.box) _).trans (by rfl), h.out.keep fun b e => old b (.inr (.inr (.inl e))) (h.ne_out e).1, h.len, fun i v L hv hL => (h.row i v L hv hL).keep fun b e => old b (.inr (.inr (.inr ⟨v, List.mem_of_getElem? hv, e⟩))) (h.ne_row (List.mem_of_getElem? hv) e).1, h.apart, .inr ?_⟩, ((TurnS.refl S w).below hb).set (.inl (hS g (.inl rfl))) _ _, fun b hb' => ?_⟩
  · have hf : ∀ s, fnd LL.flatten s = none := by
      rcases h.map with ⟨_, e⟩ | ⟨gm', D, e, _⟩
      · exact e
      · injection e with e
        cases e
    have h1 := (World.ownsMap_made w Try.prog 9 R0).mono (Nat.zero_le m)
    refine ⟨w.heap.size, .map [], rfl, ?_, TM.empty hf⟩
    obtain ⟨es, c, e1, e2⟩ := h1
    exact ⟨es, c, (keepg w.heap.size (by omega)).trans e1, e2⟩
  · rcases hb' with e | e | e | e
    · exact .inl (hS b (.inl e))
    · injection e with e
      injection e with e
      exact .inr (by omega)
    · exact .inl (hS b (.inr (.inr (.inl e))))
    · exact .inl (hS b (.inr (.inr (.inr e))))
set_option maxHeartbeats 8000000 in
theorem pdef_map0 {w : World} {g gm : Nat} {ov v : Value} {us : List Value} {LL : List (List Vr)} {L : List Vr} {N : Int} {m : Nat} (h : PS w g (.map (some gm)) ov (us ++ [v]) (LL ++ [L]) N m) (hW : Wf (LL ++ [L]) N) (hl : LL.length ≤ 100000) (hl2 : L.length ≤ 100000) (hN : N ≤ 1000000) (hm : m ≤ 1000000000) (s : ByteArray) (hs : s.size ≤ 281474976710656) (t : Int) (hno : fnd L s = none) (hu : fnd LL.flatten s = none) {S : Nat → Prop} (hS : ∀ b, Owns g (.map (some gm)) ov (us ++ [v]) b → S b) :
    Calls Try.prog 23 #[.pointer (some ⟨g, 0, none⟩), .string s, .int .u8 t] w (PQ w g S (LL ++ [L ++ [⟨s, t, N, (LL.length : Int) + 1⟩]]) (N + 1) (m + 1) (.bool true)) := by
  have HD := Lib.hid (pdeep_any h)
  have hmx : s.size ≤ maxLen := by unfold maxLen; omega
  have hfe : fnd (LL ++ [L]).flatten s = fnd LL.flatten s := by
    have e : (LL ++ [L]).flatten = LL.flatten ++ L := by simp
    rw [e, fnd_app, hno]
    rfl
  have hlook := h.map.look s hmx
  rw [hfe, hu] at hlook
  obtain ⟨hlen, hrow⟩ := h.last
  have hN0 := hW.pos
  obtain ⟨AO, cO, rfl, hcO, hbO⟩ := h.out.form
  have hv : (us ++ [v])[LL.length]? = some v := by rw [← hlen]; simp
  obtain ⟨bO, oO, rfl, hOc⟩ := (OwnG.row (C := slC) (k := 1) (fun _ => rfl) h.out).at_ (Below.refl _ _) hv
  obtain ⟨bO', hO'⟩ := hbO _ rfl
  injection hO' with hO' hO2
  subst hO' hO2
  obtain ⟨A, c, rfl, hc, hA⟩ := hrow.form
  obtain ⟨d, hd⟩ : ∃ d, LL.length = d := ⟨_, rfl⟩
  obtain ⟨n, hn⟩ : ∃ n, L.length = n := ⟨_, rfl⟩
  have hnl : (nms LL.flatten L).length = n := by unfold nms; simp [hn]
  have hul : (us ++ [Value.slice A n c]).length = d + 1 := by simp [hlen, hd]
  have HPS0 := Lib.hid h
  rw [hnl] at hc hrow
  rw [hnl, hul] at HPS0 hS
  rw [hd] at hl hlen
  rw [hn] at hl2
  have z0 := cell_at HPS0.out.box 0
  have HROW := Lib.hid hrow
  have HL := Lib.hid hn
  simp only [List.getElem?_toArray, List.getElem?_cons_zero] at z0
  have hd1 : (((LL ++ [L]).length : Nat) : Int) = (d : Int) + 1 := by simp [hd]
  rw [hd1] at HD
  have hd0 : ((d : Int) + 1 == 0) = false := by rw [beq_eq_false_iff_ne]; omega
  have hk : ((0 : Int) == (d : Int) + 1) = false := by rw [beq_eq_false_iff_ne]; omega
  have HU := Lib.hid hu
  have HNO := Lib.hid hno
  have HFE := Lib.hid hfe
  have HMX := Lib.hid hmx
  have HS := Lib.hid hS
  have HM := Lib.hid hm
  have HD2 := Lib.hid hd
  have HLEN := Lib.hid hlen
  have hfd := field_deep
  have hmn := map_nil
  have hmk := map_not
  have hmm := @run_makeMap Try.prog
  have CL := Lib.hid (fun w' => clone_any s w' hs)
  unfold varV varL at hlook
  clear h hW hno hfe hlen hrow hS hmx hd hu hm hn hnl hul hv hOc hA hbO
  go_enter Try.func23, Try.ntmps23
  go_wp2_with fail
  refine HD.out.mono ?_
  rintro e w1 ⟨rfl, hw1⟩
  obtain rfl : w = w1 := hw1.symm
  go_wp2_with fail
  refine (CL.out _).mono ?_
  rintro e w2 ⟨rfl, hb2⟩
  have HPS : Hid (PS w2 g (.map (some gm)) (.slice (some ⟨bO, 0, none⟩) (d + 1) cO) (us ++ [.slice A n c]) (LL ++ [L]) N m ∧ TurnS S w w2 ∧ ∀ b, Owns g (.map (some gm)) (.slice (some ⟨bO, 0, none⟩) (d + 1) cO) (us ++ [.slice A n c]) b → S b ∨ w.heap.size ≤ b) := Lib.hid ⟨HPS0.out.below hb2, (TurnS.refl S w).below hb2, fun b e => .inl (HS.out b e)⟩
  clear hb2
  have HFS : Hid (fnd (LL ++ [L]).flatten s = none) := Lib.hid (HFE.out.trans HU.out)
  clear z0 hlook
  go_wp2_with fail
  refine AtS.start (by kernel_rfl) 25 (DS2 g gm bO cO d (.slice A n c) N m (fnd (LL ++ [L]).flatten)) (by kernel_rfl) (by kernel_rfl) ?_
  have HX : Hid (PS w2.drew g (.map (some gm)) (.slice (some ⟨bO, 0, none⟩) (d + 1) cO) (us ++ [.slice A n c]) (LL ++ [L]) N m ∧ TurnS S w w2.drew ∧ ∀ b, Owns g (.map (some gm)) (.slice (some ⟨bO, 0, none⟩) (d + 1) cO) (us ++ [.slice A n c]) b → S b ∨ w.heap.size ≤ b) := Lib.hid ⟨HPS.out.1.below (Below.refl _ w2).drew, HPS.out.2.1.below (Below.refl _ w2).drew, fun b e => (HPS.out.2.2 b e).imp id fun k => by omega⟩
  clear HPS
  generalize w2.drew = X0 at *
  have hwd : IntKind.i64.wrap (d : Int) = d := IntWalk.i64_in _ (by omega)
  have hS : DS2 g gm bO cO d (.slice A n c) N m (fnd (LL ++ [L]).flatten) X0 := by
    have hbx := HX.out.1.box
    obtain ⟨bq, oq, eq, hq⟩ := (OwnG.row (C := slC) (k := 1) (fun _ => rfl) HX.out.1.out).at_ (Below.refl _ _) (j := d) (x := .slice A n c) (by rw [← HLEN.out]; simp)
    injection eq with eq
    injection eq with eq1 eq2
    subst eq1 eq2
    have := hq 0 _ rfl
    exact ⟨cell_at hbx 0, cell_at hbx 1, cell_at hbx 2, by simpa using this, HX.out.1.map⟩
  refine at_take 0 34 (.pointer (some ⟨g, 0, none⟩)) rfl rfl (by kernel_rfl) (by decide) (by decide) (fun _ _ _ h => h) (by kernel_rfl) hS (fun w' hw' => ?_) ?_
  · obtain ⟨q0, q1, q2, q3, q4⟩ := hw'
    go_simp <;> omega
  go_frame
  refine at_take 1 35 (.pointer (some ⟨g, 0, none⟩)) rfl rfl (by kernel_rfl) (by decide) (by decide) (fun _ _ _ h => h) (by kernel_rfl) hS (fun w' hw' => ?_) ?_
  · obtain ⟨q0, q1, q2, q3, q4⟩ := hw'
    go_simp <;> omega
  go_frame
  refine at_take 2 36 (.pointer (some ⟨g, 1, none⟩)) rfl rfl (by kernel_rfl) (by decide) (by decide) (fun _ _ _ h => h) (by kernel_rfl) hS (fun w' hw' => ?_) ?_
  · obtain ⟨q0, q1, q2, q3, q4⟩ := hw'
    go_simp <;> omega
  go_frame
  refine at_take 3 37 (.slice (some ⟨bO, 0, none⟩) (d + 1) cO) rfl rfl (by kernel_rfl) (by decide) (by decide) (fun _ _ _ h => h) (by kernel_rfl) hS (fun w' hw' => ?_) ?_
  · obtain ⟨q0, q1, q2, q3, q4⟩ := hw'
    go_simp <;> omega
  go_frame
  refine at_take 4 38 (.int .i64 ((d : Int) + 1)) rfl rfl (by kernel_rfl) (by decide) (by decide) (fun _ _ _ h => h) (by kernel_rfl) hS (fun w' hw' => ?_) ?_
  · obtain ⟨q0, q1, q2, q3, q4⟩ := hw'
    go_simp <;> omega
  go_frame
  refine at_take 5 39 (.int .i64 d) rfl rfl (by kernel_rfl) (by decide) (by decide) (fun _ _ _ h => h) (by kernel_rfl) hS (fun w' hw' => ?_) ?_
  · obtain ⟨q0, q1, q2, q3, q4⟩ := hw'
    go_simp <;> omega
  go_frame
  refine at_take 6 40 (.pointer (some ⟨g, 0, none⟩)) rfl rfl (by kernel_rfl) (by decide) (by decide) (fun _ _ _ h => h) (by kernel_rfl) hS (fun w' hw' => ?_) ?_
  · obtain ⟨q0, q1, q2, q3, q4⟩ := hw'
    go_simp <;> omega
  go_frame
  refine at_take 7 41 (.pointer (some ⟨g, 0, none⟩)) rfl rfl (by kernel_rfl) (by decide) (by decide) (fun _ _ _ h => h) (by kernel_rfl) hS (fun w' hw' => ?_) ?_
  · obtain ⟨q0, q1, q2, q3, q4⟩ := hw'
    go_simp <;> omega
  go_frame
  refine at_take 8 42 (.pointer (some ⟨g, 1, none⟩)) rfl rfl (by kernel_rfl) (by decide) (by decide) (fun _ _ _ h => h) (by kernel_rfl) hS (fun w' hw' => ?_) ?_
  · obtain ⟨q0, q1, q2, q3, q4⟩ := hw'
    go_simp <;> omega
  go_frame
  refine at_take 9 43 (.slice (some ⟨bO, 0, none⟩) (d + 1) cO) rfl rfl (by kernel_rfl) (by decide) (by decide) (fun _ _ _ h => h) (by kernel_rfl) hS (fun w' hw' => ?_) ?_
  · obtain ⟨q0, q1, q2, q3, q4⟩ := hw'
    go_simp <;> omega
  go_frame
  refine at_take 10 44 (.int .i64 ((d : Int) + 1)) rfl rfl (by kernel_rfl) (by decide) (by decide) (fun _ _ _ h => h) (by kernel_rfl) hS (fun w' hw' => ?_) ?_
  · obtain ⟨q0, q1, q2, q3, q4⟩ := hw'
    go_simp <;> omega
  go_frame
  refine at_take 11 45 (.int .i64 d) rfl rfl (by kernel_rfl) (by decide) (by decide) (fun _ _ _ h => h) (by kernel_rfl) hS (fun w' hw' => ?_) ?_
  · obtain ⟨q0, q1, q2, q3, q4⟩ := hw'
    go_simp <;> omega
  go_frame
  refine at_take 12 46 (.pointer (some ⟨bO, d, none⟩)) rfl rfl (by kernel_rfl) (by decide) (by decide) (fun _ _ _ h => h) (by kernel_rfl) hS (fun w' hw' => ?_) ?_
  · obtain ⟨q0, q1, q2, q3, q4⟩ := hw'
    go_simp <;> omega
  go_frame
  refine at_take 13 47 (.slice A n c) rfl rfl (by kernel_rfl) (by decide) (by decide) (fun _ _ _ h => h) (by kernel_rfl) hS (fun w' hw' => ?_) ?_
  · obtain ⟨q0, q1, q2, q3, q4⟩ := hw'
    go_simp <;> omega
  go_frame
  refine at_take 14 48 (.string s) rfl rfl (by kernel_rfl) (by decide) (by decide) (fun _ _ _ h => h) (by kernel_rfl) hS (fun w' hw' => ?_) ?_
  · obtain ⟨q0, q1, q2, q3, q4⟩ := hw'
    go_simp <;> omega
  go_frame
  refine at_take 15 49 (.pointer (some ⟨g, 0, none⟩)) rfl rfl (by kernel_rfl) (by decide) (by decide) (fun _ _ _ h => h) (by kernel_rfl) hS (fun w' hw' => ?_) ?_
  · obtain ⟨q0, q1, q2, q3, q4⟩ := hw'
    go_simp <;> omega
  go_frame
  refine at_take 16 50 (.pointer (some ⟨g, 0, none⟩)) rfl rfl (by kernel_rfl) (by decide) (by decide) (fun _ _ _ h => h) (by kernel_rfl) hS (fun w' hw' => ?_) ?_
  · obtain ⟨q0, q1, q2, q3, q4⟩ := hw'
    go_simp <;> omega
  go_frame
  refine at_take 17 51 (.pointer (some ⟨g, 0, none⟩)) rfl rfl (by kernel_rfl) (by decide) (by decide) (fun _ _ _ h => h) (by kernel_rfl) hS (fun w' hw' => ?_) ?_
  · obtain ⟨q0, q1, q2, q3, q4⟩ := hw'
    go_simp <;> omega
  go_frame
  refine at_take 18 52 (.map (some gm)) rfl rfl (by kernel_rfl) (by decide) (by decide) (fun _ _ _ h => h) (by kernel_rfl) hS (fun w' hw' => ?_) ?_
  · obtain ⟨q0, q1, q2, q3, q4⟩ := hw'
    go_simp <;> omega
  go_frame
  refine at_take 19 53 (.string s) rfl rfl (by kernel_rfl) (by decide) (by decide) (fun _ _ _ h => h) (by kernel_rfl) hS (fun w' hw' => ?_) ?_
  · obtain ⟨q0, q1, q2, q3, q4⟩ := hw'
    go_simp <;> omega
  go_frame
  refine at_take 20 54 (.agg #[.int .u8 0, .int .i64 0, .int .i64 0]) rfl rfl (by kernel_rfl) (by decide) (by decide) (fun _ _ _ h => h) (by kernel_rfl) hS (fun w' hw' => ?_) ?_
  · have q5 := hw'.2.2.2.2.look s HMX.out
    rw [HFS.out] at q5
    unfold varV varL at q5
    go_simp
  go_frame
  refine at_take 21 55 (.agg #[.string s, .int .u8 0, .int .i64 0, .int .i64 0]) rfl rfl (by kernel_rfl) (by decide) (by decide) (fun _ _ _ h => h) (by kernel_rfl) hS (fun w' hw' => ?_) ?_
  · obtain ⟨q0, q1, q2, q3, q4⟩ := hw'
    go_simp <;> omega
  go_frame
  have bB := ball_new X0 #[.string s, .int .u8 0, .int .i64 0, .int .i64 0] 81
  have nB := new_at X0 #[.string s, .int .u8 0, .int .i64 0, .int .i64 0] 81
  have sB : DS2 g gm bO cO d (.slice A n c) N m (fnd (LL ++ [L]).flatten) (X0.alloc (.cells #[.string s, .int .u8 0, .int .i64 0, .int .i64 0] 81)) := hS.keep fun b hb => bB.block b (HX.out.1.lt (by
    rcases hb with rfl | rfl | rfl
    · exact .inl rfl
    · exact .inr (.inr (.inl rfl))
    · exact .inr (.inl rfl)))
  refine at_run 22 56 (.slice (some ⟨X0.heap.size, 0, none⟩) 1 1) (X0.alloc (.cells #[.string s, .int .u8 0, .int .i64 0, .int .i64 0] 81)) rfl rfl (by kernel_rfl) (by decide) (by kernel_rfl) ?_ sB ?_
  · go_simp
  go_frame
  have hv0 : (us ++ [Value.slice A n c])[us.length]? = some (.slice A n c) := by simp
  have hmem : Value.slice A n c ∈ us ++ [Value.slice A n c] := by simp
  obtain ⟨_, hrowX⟩ := HX.out.1.last
  obtain ⟨A2, n2, c2, X3, hr3, ho3, hg3, hn3⟩ := app_in (s, none) (hrowX.keep fun b e => bB.block b (hrowX.lt b e).2) (nB.trans (by rfl)) (by unfold nms; rw [List.length_map, HL.out]; omega)
  have hne := fun b (e : (Value.slice A n c).ownBlock = some b) => HX.out.1.ne_row hmem e
  have k3 : ∀ b, b < X0.heap.size → (Value.slice A n c).ownBlock ≠ some b → X3.heap[b]? = X0.heap[b]? := fun b hb hnb => (hg3.block b (Nat.lt_of_lt_of_le hb bB.size) fun e => hnb e.symm).trans (bB.block b hb)
  have s3 : DS2 g gm bO cO d (.slice A n c) N m (fnd (LL ++ [L]).flatten) X3 := hS.keep fun b hb => by
    rcases hb with rfl | rfl | rfl
    · exact k3 _ (HX.out.1.lt (.inl rfl)) fun e => (hne _ e).1 rfl
    · exact k3 _ (HX.out.1.lt (.inr (.inr (.inl rfl)))) fun e => (hne _ e).2.2 rfl
    · exact k3 _ (HX.out.1.lt (.inr (.inl rfl))) fun e => (hne _ e).2.1 rfl
  refine at_run 23 57 (.slice A2 n2 c2) X3 rfl rfl (by kernel_rfl) (by decide) (by kernel_rfl) (run_appz (.tmp 47) (.tmp 56) rfl rfl rfl hr3) s3 ?_
  go_frame
  refine at_take 24 58 (.pointer (some ⟨bO, d, none⟩)) rfl rfl (by kernel_rfl) (by decide) (by decide) (fun _ _ _ h => h) (by kernel_rfl) s3 (fun w' hw' => ?_) ?_
  · obtain ⟨q0, q1, q2, q3, q4⟩ := hw'
    go_simp <;> omega
  go_frame
  have hO3 : OwnG 1 slC 77 X3 0 (.slice (some ⟨bO, 0, none⟩) (d + 1) cO) (us ++ [.slice A n c]) := HX.out.1.out.keep fun b e => k3 b (HX.out.1.out.lt b e).2 fun e2 => (hne b e2).2.2 e
  obtain ⟨csO, hcsO⟩ := OwnG.typ hO3 (b := bO) rfl
  have fO : X3.frozen? ⟨bO, d, none⟩ = false := by simp [World.frozen?, hcsO]
  refine AtS.last (i := 25) (w' := X3.setCell ⟨bO, d, none⟩ (.slice A2 n2 c2)) rfl (by kernel_rfl) (by kernel_rfl) (by decide) (by kernel_rfl) ?_ ?_
  · obtain ⟨q0, q1, q2, q3, q4⟩ := s3
    go_simp
  go_frame
  have kb4 : ∀ b, b ≠ bO → (X3.setCell ⟨bO, d, none⟩ (.slice A2 n2 c2)).heap[b]? = X3.heap[b]? := fun b hne => Below.heap_setCell X3 ⟨bO, d, none⟩ _ b hne
  have hnO := HX.out.1.ne_out (b := bO) rfl
  have ho4 : OwnG 1 slC 77 (X3.setCell ⟨bO, d, none⟩ (.slice A2 n2 c2)) 0 (.slice (some ⟨bO, 0, none⟩) (d + 1) cO) (us ++ [.slice A2 n2 c2]) := by
    have := set_row (v2 := .slice A2 n2 c2) hO3
    rw [HLEN.out] at this
    exact this
  have hr4 : OwnG 4 nmC 81 (X3.setCell ⟨bO, d, none⟩ (.slice A2 n2 c2)) 0 (.slice A2 n2 c2) (nms LL.flatten L ++ [(s, none)]) := ho3.keep fun b e => kb4 b (by
    obtain ⟨cs3, h3⟩ := OwnG.typ ho3 e
    exact ne_typ h3 hcsO (by decide))
  have box4 : (X3.setCell ⟨bO, d, none⟩ (.slice A2 n2 c2)).heap[g]? = some (.cells #[.map (some gm), .slice (some ⟨bO, 0, none⟩) (d + 1) cO, .int .i64 N] 49 (0, 0)) := (kb4 g fun e => hnO.1 e.symm).trans ((k3 g (HX.out.1.lt (.inl rfl)) fun e => (hne g e).1 rfl).trans HX.out.1.box)
  have mh4 : MH (X3.setCell ⟨bO, d, none⟩ (.slice A2 n2 c2)) gm m (fnd (LL ++ [L]).flatten) := by
    rcases HX.out.1.map with ⟨e, _⟩ | ⟨gm', D, e, h1, h2⟩
    · cases e
    · injection e with e
      injection e with e
      subst e
      exact MH.keep ⟨D, h1, h2⟩ ((kb4 gm fun e => hnO.2.1 (by rw [e])).trans (k3 gm (HX.out.1.lt (.inr (.inl rfl))) fun e => (hne gm e).2.1 rfl))
  have HK4 : Hid (TurnS S w (X3.setCell ⟨bO, d, none⟩ (.slice A2 n2 c2)) ∧ (∀ b, b < X0.heap.size → (Value.slice A n c).ownBlock ≠ some b → b ≠ bO → (X3.setCell ⟨bO, d, none⟩ (.slice A2 n2 c2)).heap[b]? = X0.heap[b]?) ∧ ∀ b, (Value.slice A2 n2 c2).ownBlock = some b → (Value.slice A n c).ownBlock = some b ∨ X0.heap.size ≤ b) := Lib.hid ⟨((HX.out.2.1.below bB).grown hg3 fun k e => HX.out.2.2 k (.inr (.inr (.inr ⟨_, hmem, e⟩)))).set (HX.out.2.2 bO (.inr (.inr (.inl rfl)))) _ _, fun b h1 h2 h3 => (kb4 b h3).trans (k3 b h1 h2), fun b e => by
    rcases hn3 with e2 | e2
    · exact .inl (e2.symm.trans e)
    · rw [e2] at e
      injection e with e
      exact .inr (by rw [← e]; exact bB.size)⟩
  have z40 := cell_at box4 0
  have z42 := cell_at box4 2
  simp only [List.getElem?_toArray, List.getElem?_cons_zero, List.getElem?_cons_succ] at z40 z42
  have HB4 := Lib.hid box4
  have HM4 := Lib.hid mh4
  have HW4 := Lib.hid ho4
  have HR4 := Lib.hid hr4
  clear s3 hS sB bB nB hr3 ho3 hg3 hn3 hne k3 hO3 hcsO fO kb4 ho4 hr4 box4 mh4 hrowX
  generalize X3.setCell ⟨bO, d, none⟩ (.slice A2 n2 c2) = X4 at *
  go_wp2_with fail
  refine wp_region_still_tail 12 (by kernel_rfl) (by kernel_rfl) ?_
  simp only [List.take_succ_cons, List.take_zero, List.drop_succ_cons, List.drop_zero]
  iterate 12 still_step
  refine wpStill_nil ?_
  change wpList _ _ _ _ _ X4.drew
  refine wpList_put X4.drew rfl _ _ _ rfl gm m (fnd (LL ++ [L]).flatten) s ⟨s, t, N, (d : Int) + 1⟩ rfl rfl rfl (HM4.out.keep rfl) HMX.out (by have := HM.out; unfold maxLen; omega) ?_
  intro X5 hm5 hg5
  have kb5 : ∀ b, b < X4.heap.size → b ≠ gm → X5.heap[b]? = X4.heap[b]? := fun b hb hne => hg5.block b hb fun e => hne (by injection e)
  have hgm : g ≠ gm := fun e => (HX.out.1.ne_map (b := gm) rfl).1 e.symm
  have box5 := (kb5 g (lt_of_heap HB4.out) hgm).trans HB4.out
  have z52 := cell_at box5 2
  have f52 : X5.frozen? ⟨g, 2, none⟩ = false := by simp [World.frozen?, box5]
  have hwN : IntKind.i64.wrap (N + 1) = N + 1 := IntWalk.i64_in _ (by omega)
  simp only [List.getElem?_toArray, List.getElem?_cons_zero, List.getElem?_cons_succ] at z52
  have HM5 := Lib.hid hm5
  have HG5 := Lib.hid hg5
  have HB5 := Lib.hid box5
  have HK5 := Lib.hid kb5
  clear hm5 hg5 box5 kb5
  go_wp2_with fail
  go_ret
  have kg : ∀ b, b ≠ g → (X5.setCell ⟨g, 2, none⟩ (.int .i64 (N + 1))).heap[b]? = X5.heap[b]? := fun b hne => Below.heap_setCell X5 ⟨g, 2, none⟩ _ b hne
  have lo4 : X0.heap.size ≤ X0.heap.size := Nat.le_refl _
  rw [HD2.out]
  have hmm2 := HX.out.1.ne_map (b := gm) rfl
  have P5 := HX.out.1.defd (w' := X5.setCell ⟨g, 2, none⟩ (.int .i64 (N + 1))) (v2 := .slice A2 n2 c2) ⟨s, t, N, (d : Int) + 1⟩ ((setc_at HB5.out _).trans (by rfl)) (HW4.out.keep fun b e => by
    obtain ⟨csO, hcsO⟩ := OwnG.typ HW4.out e
    have hb : b = bO := by injection e with e; exact e.symm
    subst hb
    exact (kg b hnO.1).trans (HK5.out b (lt_of_heap hcsO) fun e => hnO.2.1 (by rw [e]))) (by
    have e : nms LL.flatten (L ++ [⟨s, t, N, (d : Int) + 1⟩]) = nms LL.flatten L ++ [(s, none)] := by unfold nms; simp [HU.out]
    rw [e]
    exact HR4.out.keep fun b e => by
      obtain ⟨cs4, h4⟩ := OwnG.typ HR4.out e
      obtain ⟨D4, ⟨es4, cl4, h5, _⟩, _⟩ := HM4.out
      exact (kg b (ne_typ h4 HB4.out (by decide))).trans (HK5.out b (lt_of_heap h4) (ne_map h4 h5))) HK4.out.2.2 (fun u hu b e => by
    have hm' : u ∈ us ++ [Value.slice A n c] := List.mem_append_left _ hu
    have hr' := HX.out.1.ne_row hm' e
    have hlt := HX.out.1.lt (b := b) (.inr (.inr (.inr ⟨u, hm', e⟩)))
    have hnv : (Value.slice A n c).ownBlock ≠ some b := by
      obtain ⟨i, hi, hui⟩ := List.getElem_of_mem hu
      exact HX.out.1.apart i us.length u _ b (by omega) (by rw [List.getElem?_append_left hi, List.getElem?_eq_getElem hi, hui]) hv0 e
    have e4 := HK4.out.2.1 b hlt hnv fun e2 => hr'.2.2 (by rw [e2]; rfl)
    have hlt4 : b < X4.heap.size := by
      obtain ⟨K', L', ho'⟩ := HX.out.1.rowAt hm'
      obtain ⟨cs', h'⟩ := OwnG.typ ho' e
      exact lt_of_heap (e4.trans h')
    exact (kg b hr'.1).trans ((HK5.out b hlt4 fun e2 => hr'.2.1 (by rw [e2])).trans e4)) (HM5.out.keep (kg gm hmm2.1))
  refine ⟨rfl, ⟨_, _, _, P5.1, fun b hb => ?_⟩, ?_⟩
  · rcases P5.2 b hb with e | e
    · exact HX.out.2.2 b e
    · exact .inr (Nat.le_trans HX.out.2.1.size e)
  · exact ((HK4.out.1.below (Below.refl _ X4).drew).grown HG5.out fun k e => HX.out.2.2 k (.inr (.inl (by injection e with e; rw [e])))).set (HX.out.2.2 g (.inl rfl)) _ _
set_option maxHeartbeats 8000000 in
theorem pdef_map1 {w : World} {g gm : Nat} {ov v : Value} {us : List Value} {LL : List (List Vr)} {L : List Vr} {N : Int} {m : Nat} (h : PS w g (.map (some gm)) ov (us ++ [v]) (LL ++ [L]) N m) (hW : Wf (LL ++ [L]) N) (hl : LL.length ≤ 100000) (hl2 : L.length ≤ 100000) (hN : N ≤ 1000000) (hm : m ≤ 1000000000) (s : ByteArray) (hs : s.size ≤ 281474976710656) (t : Int) (hno : fnd L s = none) (u : Vr) (hu : fnd LL.flatten s = some u) {S : Nat → Prop} (hS : ∀ b, Owns g (.map (some gm)) ov (us ++ [v]) b → S b) :
    Calls Try.prog 23 #[.pointer (some ⟨g, 0, none⟩), .string s, .int .u8 t] w (PQ w g S (LL ++ [L ++ [⟨s, t, N, (LL.length : Int) + 1⟩]]) (N + 1) (m + 1) (.bool true)) := by
  have HD := Lib.hid (pdeep_any h)
  have hmx : s.size ≤ maxLen := by unfold maxLen; omega
  have hfe : fnd (LL ++ [L]).flatten s = fnd LL.flatten s := by
    have e : (LL ++ [L]).flatten = LL.flatten ++ L := by simp
    rw [e, fnd_app, hno]
    rfl
  have hlook := h.map.look s hmx
  rw [hfe, hu] at hlook
  obtain ⟨hlen, hrow⟩ := h.last
  have hN0 := hW.pos
  obtain ⟨AO, cO, rfl, hcO, hbO⟩ := h.out.form
  have hv : (us ++ [v])[LL.length]? = some v := by rw [← hlen]; simp
  obtain ⟨bO, oO, rfl, hOc⟩ := (OwnG.row (C := slC) (k := 1) (fun _ => rfl) h.out).at_ (Below.refl _ _) hv
  obtain ⟨bO', hO'⟩ := hbO _ rfl
  injection hO' with hO' hO2
  subst hO' hO2
  obtain ⟨A, c, rfl, hc, hA⟩ := hrow.form
  obtain ⟨d, hd⟩ : ∃ d, LL.length = d := ⟨_, rfl⟩
  obtain ⟨n, hn⟩ : ∃ n, L.length = n := ⟨_, rfl⟩
  have hnl : (nms LL.flatten L).length = n := by unfold nms; simp [hn]
  have hul : (us ++ [Value.slice A n c]).length = d + 1 := by simp [hlen, hd]
  have HPS0 := Lib.hid h
  rw [hnl] at hc hrow
  rw [hnl, hul] at HPS0 hS
  rw [hd] at hl hlen
  rw [hn] at hl2
  have z0 := cell_at HPS0.out.box 0
  have HROW := Lib.hid hrow
  have HL := Lib.hid hn
  simp only [List.getElem?_toArray, List.getElem?_cons_zero] at z0
  have hd1 : (((LL ++ [L]).length : Nat) : Int) = (d : Int) + 1 := by simp [hd]
  rw [hd1] at HD
  have hd0 : ((d : Int) + 1 == 0) = false := by rw [beq_eq_false_iff_ne]; omega
  have hk : (u.k == (d : Int) + 1) = false := by
    have := hW.close.deep (fnd_some hu).1
    rw [beq_eq_false_iff_ne]
    omega
  have HU := Lib.hid hu
  have HNO := Lib.hid hno
  have HFE := Lib.hid hfe
  have HMX := Lib.hid hmx
  have HS := Lib.hid hS
  have HM := Lib.hid hm
  have HD2 := Lib.hid hd
  have HLEN := Lib.hid hlen
  have hfd := field_deep
  have hmn := map_nil
  have hmk := map_not
  have hmm := @run_makeMap Try.prog
  have CL := Lib.hid (fun w' => clone_any s w' hs)
  unfold varV varL at hlook
  clear h hW hno hfe hlen hrow hS hmx hd hu hm hn hnl hul hv hOc hA hbO
  go_enter Try.func23, Try.ntmps23
  go_wp2_with fail
  refine HD.out.mono ?_
  rintro e w1 ⟨rfl, hw1⟩
  obtain rfl : w = w1 := hw1.symm
  go_wp2_with fail
  refine (CL.out _).mono ?_
  rintro e w2 ⟨rfl, hb2⟩
  have HPS : Hid (PS w2 g (.map (some gm)) (.slice (some ⟨bO, 0, none⟩) (d + 1) cO) (us ++ [.slice A n c]) (LL ++ [L]) N m ∧ TurnS S w w2 ∧ ∀ b, Owns g (.map (some gm)) (.slice (some ⟨bO, 0, none⟩) (d + 1) cO) (us ++ [.slice A n c]) b → S b ∨ w.heap.size ≤ b) := Lib.hid ⟨HPS0.out.below hb2, (TurnS.refl S w).below hb2, fun b e => .inl (HS.out b e)⟩
  clear hb2
  have HFS : Hid (fnd (LL ++ [L]).flatten s = (some u)) := Lib.hid (HFE.out.trans HU.out)
  clear z0 hlook
  go_wp2_with fail
  refine AtS.start (by kernel_rfl) 25 (DS2 g gm bO cO d (.slice A n c) N m (fnd (LL ++ [L]).flatten)) (by kernel_rfl) (by kernel_rfl) ?_
  have HX : Hid (PS w2.drew g (.map (some gm)) (.slice (some ⟨bO, 0, none⟩) (d + 1) cO) (us ++ [.slice A n c]) (LL ++ [L]) N m ∧ TurnS S w w2.drew ∧ ∀ b, Owns g (.map (some gm)) (.slice (some ⟨bO, 0, none⟩) (d + 1) cO) (us ++ [.slice A n c]) b → S b ∨ w.heap.size ≤ b) := Lib.hid ⟨HPS.out.1.below (Below.refl _ w2).drew, HPS.out.2.1.below (Below.refl _ w2).drew, fun b e => (HPS.out.2.2 b e).imp id fun k => by omega⟩
  clear HPS
  generalize w2.drew = X0 at *
  have hwd : IntKind.i64.wrap (d : Int) = d := IntWalk.i64_in _ (by omega)
  have hS : DS2 g gm bO cO d (.slice A n c) N m (fnd (LL ++ [L]).flatten) X0 := by
    have hbx := HX.out.1.box
    obtain ⟨bq, oq, eq, hq⟩ := (OwnG.row (C := slC) (k := 1) (fun _ => rfl) HX.out.1.out).at_ (Below.refl _ _) (j := d) (x := .slice A n c) (by rw [← HLEN.out]; simp)
    injection eq with eq
    injection eq with eq1 eq2
    subst eq1 eq2
    have := hq 0 _ rfl
    exact ⟨cell_at hbx 0, cell_at hbx 1, cell_at hbx 2, by simpa using this, HX.out.1.map⟩
  refine at_take 0 34 (.pointer (some ⟨g, 0, none⟩)) rfl rfl (by kernel_rfl) (by decide) (by decide) (fun _ _ _ h => h) (by kernel_rfl) hS (fun w' hw' => ?_) ?_
  · obtain ⟨q0, q1, q2, q3, q4⟩ := hw'
    go_simp <;> omega
  go_frame
  refine at_take 1 35 (.pointer (some ⟨g, 0, none⟩)) rfl rfl (by kernel_rfl) (by decide) (by decide) (fun _ _ _ h => h) (by kernel_rfl) hS (fun w' hw' => ?_) ?_
  · obtain ⟨q0, q1, q2, q3, q4⟩ := hw'
    go_simp <;> omega
  go_frame
  refine at_take 2 36 (.pointer (some ⟨g, 1, none⟩)) rfl rfl (by kernel_rfl) (by decide) (by decide) (fun _ _ _ h => h) (by kernel_rfl) hS (fun w' hw' => ?_) ?_
  · obtain ⟨q0, q1, q2, q3, q4⟩ := hw'
    go_simp <;> omega
  go_frame
  refine at_take 3 37 (.slice (some ⟨bO, 0, none⟩) (d + 1) cO) rfl rfl (by kernel_rfl) (by decide) (by decide) (fun _ _ _ h => h) (by kernel_rfl) hS (fun w' hw' => ?_) ?_
  · obtain ⟨q0, q1, q2, q3, q4⟩ := hw'
    go_simp <;> omega
  go_frame
  refine at_take 4 38 (.int .i64 ((d : Int) + 1)) rfl rfl (by kernel_rfl) (by decide) (by decide) (fun _ _ _ h => h) (by kernel_rfl) hS (fun w' hw' => ?_) ?_
  · obtain ⟨q0, q1, q2, q3, q4⟩ := hw'
    go_simp <;> omega
  go_frame
  refine at_take 5 39 (.int .i64 d) rfl rfl (by kernel_rfl) (by decide) (by decide) (fun _ _ _ h => h) (by kernel_rfl) hS (fun w' hw' => ?_) ?_
  · obtain ⟨q0, q1, q2, q3, q4⟩ := hw'
    go_simp <;> omega
  go_frame
  refine at_take 6 40 (.pointer (some ⟨g, 0, none⟩)) rfl rfl (by kernel_rfl) (by decide) (by decide) (fun _ _ _ h => h) (by kernel_rfl) hS (fun w' hw' => ?_) ?_
  · obtain ⟨q0, q1, q2, q3, q4⟩ := hw'
    go_simp <;> omega
  go_frame
  refine at_take 7 41 (.pointer (some ⟨g, 0, none⟩)) rfl rfl (by kernel_rfl) (by decide) (by decide) (fun _ _ _ h => h) (by kernel_rfl) hS (fun w' hw' => ?_) ?_
  · obtain ⟨q0, q1, q2, q3, q4⟩ := hw'
    go_simp <;> omega
  go_frame
  refine at_take 8 42 (.pointer (some ⟨g, 1, none⟩)) rfl rfl (by kernel_rfl) (by decide) (by decide) (fun _ _ _ h => h) (by kernel_rfl) hS (fun w' hw' => ?_) ?_
  · obtain ⟨q0, q1, q2, q3, q4⟩ := hw'
    go_simp <;> omega
  go_frame
  refine at_take 9 43 (.slice (some ⟨bO, 0, none⟩) (d + 1) cO) rfl rfl (by kernel_rfl) (by decide) (by decide) (fun _ _ _ h => h) (by kernel_rfl) hS (fun w' hw' => ?_) ?_
  · obtain ⟨q0, q1, q2, q3, q4⟩ := hw'
    go_simp <;> omega
  go_frame
  refine at_take 10 44 (.int .i64 ((d : Int) + 1)) rfl rfl (by kernel_rfl) (by decide) (by decide) (fun _ _ _ h => h) (by kernel_rfl) hS (fun w' hw' => ?_) ?_
  · obtain ⟨q0, q1, q2, q3, q4⟩ := hw'
    go_simp <;> omega
  go_frame
  refine at_take 11 45 (.int .i64 d) rfl rfl (by kernel_rfl) (by decide) (by decide) (fun _ _ _ h => h) (by kernel_rfl) hS (fun w' hw' => ?_) ?_
  · obtain ⟨q0, q1, q2, q3, q4⟩ := hw'
    go_simp <;> omega
  go_frame
  refine at_take 12 46 (.pointer (some ⟨bO, d, none⟩)) rfl rfl (by kernel_rfl) (by decide) (by decide) (fun _ _ _ h => h) (by kernel_rfl) hS (fun w' hw' => ?_) ?_
  · obtain ⟨q0, q1, q2, q3, q4⟩ := hw'
    go_simp <;> omega
  go_frame
  refine at_take 13 47 (.slice A n c) rfl rfl (by kernel_rfl) (by decide) (by decide) (fun _ _ _ h => h) (by kernel_rfl) hS (fun w' hw' => ?_) ?_
  · obtain ⟨q0, q1, q2, q3, q4⟩ := hw'
    go_simp <;> omega
  go_frame
  refine at_take 14 48 (.string s) rfl rfl (by kernel_rfl) (by decide) (by decide) (fun _ _ _ h => h) (by kernel_rfl) hS (fun w' hw' => ?_) ?_
  · obtain ⟨q0, q1, q2, q3, q4⟩ := hw'
    go_simp <;> omega
  go_frame
  refine at_take 15 49 (.pointer (some ⟨g, 0, none⟩)) rfl rfl (by kernel_rfl) (by decide) (by decide) (fun _ _ _ h => h) (by kernel_rfl) hS (fun w' hw' => ?_) ?_
  · obtain ⟨q0, q1, q2, q3, q4⟩ := hw'
    go_simp <;> omega
  go_frame
  refine at_take 16 50 (.pointer (some ⟨g, 0, none⟩)) rfl rfl (by kernel_rfl) (by decide) (by decide) (fun _ _ _ h => h) (by kernel_rfl) hS (fun w' hw' => ?_) ?_
  · obtain ⟨q0, q1, q2, q3, q4⟩ := hw'
    go_simp <;> omega
  go_frame
  refine at_take 17 51 (.pointer (some ⟨g, 0, none⟩)) rfl rfl (by kernel_rfl) (by decide) (by decide) (fun _ _ _ h => h) (by kernel_rfl) hS (fun w' hw' => ?_) ?_
  · obtain ⟨q0, q1, q2, q3, q4⟩ := hw'
    go_simp <;> omega
  go_frame
  refine at_take 18 52 (.map (some gm)) rfl rfl (by kernel_rfl) (by decide) (by decide) (fun _ _ _ h => h) (by kernel_rfl) hS (fun w' hw' => ?_) ?_
  · obtain ⟨q0, q1, q2, q3, q4⟩ := hw'
    go_simp <;> omega
  go_frame
  refine at_take 19 53 (.string s) rfl rfl (by kernel_rfl) (by decide) (by decide) (fun _ _ _ h => h) (by kernel_rfl) hS (fun w' hw' => ?_) ?_
  · obtain ⟨q0, q1, q2, q3, q4⟩ := hw'
    go_simp <;> omega
  go_frame
  refine at_take 20 54 (.agg #[.int .u8 u.t, .int .i64 u.n, .int .i64 u.k]) rfl rfl (by kernel_rfl) (by decide) (by decide) (fun _ _ _ h => h) (by kernel_rfl) hS (fun w' hw' => ?_) ?_
  · have q5 := hw'.2.2.2.2.look s HMX.out
    rw [HFS.out] at q5
    unfold varV varL at q5
    go_simp
  go_frame
  refine at_take 21 55 (.agg #[.string s, .int .u8 u.t, .int .i64 u.n, .int .i64 u.k]) rfl rfl (by kernel_rfl) (by decide) (by decide) (fun _ _ _ h => h) (by kernel_rfl) hS (fun w' hw' => ?_) ?_
  · obtain ⟨q0, q1, q2, q3, q4⟩ := hw'
    go_simp <;> omega
  go_frame
  have bB := ball_new X0 #[.string s, .int .u8 u.t, .int .i64 u.n, .int .i64 u.k] 81
  have nB := new_at X0 #[.string s, .int .u8 u.t, .int .i64 u.n, .int .i64 u.k] 81
  have sB : DS2 g gm bO cO d (.slice A n c) N m (fnd (LL ++ [L]).flatten) (X0.alloc (.cells #[.string s, .int .u8 u.t, .int .i64 u.n, .int .i64 u.k] 81)) := hS.keep fun b hb => bB.block b (HX.out.1.lt (by
    rcases hb with rfl | rfl | rfl
    · exact .inl rfl
    · exact .inr (.inr (.inl rfl))
    · exact .inr (.inl rfl)))
  refine at_run 22 56 (.slice (some ⟨X0.heap.size, 0, none⟩) 1 1) (X0.alloc (.cells #[.string s, .int .u8 u.t, .int .i64 u.n, .int .i64 u.k] 81)) rfl rfl (by kernel_rfl) (by decide) (by kernel_rfl) ?_ sB ?_
  · go_simp
  go_frame
  have hv0 : (us ++ [Value.slice A n c])[us.length]? = some (.slice A n c) := by simp
  have hmem : Value.slice A n c ∈ us ++ [Value.slice A n c] := by simp
  obtain ⟨_, hrowX⟩ := HX.out.1.last
  obtain ⟨A2, n2, c2, X3, hr3, ho3, hg3, hn3⟩ := app_in (s, (some u)) (hrowX.keep fun b e => bB.block b (hrowX.lt b e).2) (nB.trans (by rfl)) (by unfold nms; rw [List.length_map, HL.out]; omega)
  have hne := fun b (e : (Value.slice A n c).ownBlock = some b) => HX.out.1.ne_row hmem e
  have k3 : ∀ b, b < X0.heap.size → (Value.slice A n c).ownBlock ≠ some b → X3.heap[b]? = X0.heap[b]? := fun b hb hnb => (hg3.block b (Nat.lt_of_lt_of_le hb bB.size) fun e => hnb e.symm).trans (bB.block b hb)
  have s3 : DS2 g gm bO cO d (.slice A n c) N m (fnd (LL ++ [L]).flatten) X3 := hS.keep fun b hb => by
    rcases hb with rfl | rfl | rfl
    · exact k3 _ (HX.out.1.lt (.inl rfl)) fun e => (hne _ e).1 rfl
    · exact k3 _ (HX.out.1.lt (.inr (.inr (.inl rfl)))) fun e => (hne _ e).2.2 rfl
    · exact k3 _ (HX.out.1.lt (.inr (.inl rfl))) fun e => (hne _ e).2.1 rfl
  refine at_run 23 57 (.slice A2 n2 c2) X3 rfl rfl (by kernel_rfl) (by decide) (by kernel_rfl) (run_appz (.tmp 47) (.tmp 56) rfl rfl rfl hr3) s3 ?_
  go_frame
  refine at_take 24 58 (.pointer (some ⟨bO, d, none⟩)) rfl rfl (by kernel_rfl) (by decide) (by decide) (fun _ _ _ h => h) (by kernel_rfl) s3 (fun w' hw' => ?_) ?_
  · obtain ⟨q0, q1, q2, q3, q4⟩ := hw'
    go_simp <;> omega
  go_frame
  have hO3 : OwnG 1 slC 77 X3 0 (.slice (some ⟨bO, 0, none⟩) (d + 1) cO) (us ++ [.slice A n c]) := HX.out.1.out.keep fun b e => k3 b (HX.out.1.out.lt b e).2 fun e2 => (hne b e2).2.2 e
  obtain ⟨csO, hcsO⟩ := OwnG.typ hO3 (b := bO) rfl
  have fO : X3.frozen? ⟨bO, d, none⟩ = false := by simp [World.frozen?, hcsO]
  refine AtS.last (i := 25) (w' := X3.setCell ⟨bO, d, none⟩ (.slice A2 n2 c2)) rfl (by kernel_rfl) (by kernel_rfl) (by decide) (by kernel_rfl) ?_ ?_
  · obtain ⟨q0, q1, q2, q3, q4⟩ := s3
    go_simp
  go_frame
  have kb4 : ∀ b, b ≠ bO → (X3.setCell ⟨bO, d, none⟩ (.slice A2 n2 c2)).heap[b]? = X3.heap[b]? := fun b hne => Below.heap_setCell X3 ⟨bO, d, none⟩ _ b hne
  have hnO := HX.out.1.ne_out (b := bO) rfl
  have ho4 : OwnG 1 slC 77 (X3.setCell ⟨bO, d, none⟩ (.slice A2 n2 c2)) 0 (.slice (some ⟨bO, 0, none⟩) (d + 1) cO) (us ++ [.slice A2 n2 c2]) := by
    have := set_row (v2 := .slice A2 n2 c2) hO3
    rw [HLEN.out] at this
    exact this
  have hr4 : OwnG 4 nmC 81 (X3.setCell ⟨bO, d, none⟩ (.slice A2 n2 c2)) 0 (.slice A2 n2 c2) (nms LL.flatten L ++ [(s, (some u))]) := ho3.keep fun b e => kb4 b (by
    obtain ⟨cs3, h3⟩ := OwnG.typ ho3 e
    exact ne_typ h3 hcsO (by decide))
  have box4 : (X3.setCell ⟨bO, d, none⟩ (.slice A2 n2 c2)).heap[g]? = some (.cells #[.map (some gm), .slice (some ⟨bO, 0, none⟩) (d + 1) cO, .int .i64 N] 49 (0, 0)) := (kb4 g fun e => hnO.1 e.symm).trans ((k3 g (HX.out.1.lt (.inl rfl)) fun e => (hne g e).1 rfl).trans HX.out.1.box)
  have mh4 : MH (X3.setCell ⟨bO, d, none⟩ (.slice A2 n2 c2)) gm m (fnd (LL ++ [L]).flatten) := by
    rcases HX.out.1.map with ⟨e, _⟩ | ⟨gm', D, e, h1, h2⟩
    · cases e
    · injection e with e
      injection e with e
      subst e
      exact MH.keep ⟨D, h1, h2⟩ ((kb4 gm fun e => hnO.2.1 (by rw [e])).trans (k3 gm (HX.out.1.lt (.inr (.inl rfl))) fun e => (hne gm e).2.1 rfl))
  have HK4 : Hid (TurnS S w (X3.setCell ⟨bO, d, none⟩ (.slice A2 n2 c2)) ∧ (∀ b, b < X0.heap.size → (Value.slice A n c).ownBlock ≠ some b → b ≠ bO → (X3.setCell ⟨bO, d, none⟩ (.slice A2 n2 c2)).heap[b]? = X0.heap[b]?) ∧ ∀ b, (Value.slice A2 n2 c2).ownBlock = some b → (Value.slice A n c).ownBlock = some b ∨ X0.heap.size ≤ b) := Lib.hid ⟨((HX.out.2.1.below bB).grown hg3 fun k e => HX.out.2.2 k (.inr (.inr (.inr ⟨_, hmem, e⟩)))).set (HX.out.2.2 bO (.inr (.inr (.inl rfl)))) _ _, fun b h1 h2 h3 => (kb4 b h3).trans (k3 b h1 h2), fun b e => by
    rcases hn3 with e2 | e2
    · exact .inl (e2.symm.trans e)
    · rw [e2] at e
      injection e with e
      exact .inr (by rw [← e]; exact bB.size)⟩
  have z40 := cell_at box4 0
  have z42 := cell_at box4 2
  simp only [List.getElem?_toArray, List.getElem?_cons_zero, List.getElem?_cons_succ] at z40 z42
  have HB4 := Lib.hid box4
  have HM4 := Lib.hid mh4
  have HW4 := Lib.hid ho4
  have HR4 := Lib.hid hr4
  clear s3 hS sB bB nB hr3 ho3 hg3 hn3 hne k3 hO3 hcsO fO kb4 ho4 hr4 box4 mh4 hrowX
  generalize X3.setCell ⟨bO, d, none⟩ (.slice A2 n2 c2) = X4 at *
  go_wp2_with fail
  refine wp_region_still_tail 12 (by kernel_rfl) (by kernel_rfl) ?_
  simp only [List.take_succ_cons, List.take_zero, List.drop_succ_cons, List.drop_zero]
  iterate 12 still_step
  refine wpStill_nil ?_
  change wpList _ _ _ _ _ X4.drew
  refine wpList_put X4.drew rfl _ _ _ rfl gm m (fnd (LL ++ [L]).flatten) s ⟨s, t, N, (d : Int) + 1⟩ rfl rfl rfl (HM4.out.keep rfl) HMX.out (by have := HM.out; unfold maxLen; omega) ?_
  intro X5 hm5 hg5
  have kb5 : ∀ b, b < X4.heap.size → b ≠ gm → X5.heap[b]? = X4.heap[b]? := fun b hb hne => hg5.block b hb fun e => hne (by injection e)
  have hgm : g ≠ gm := fun e => (HX.out.1.ne_map (b := gm) rfl).1 e.symm
  have box5 := (kb5 g (lt_of_heap HB4.out) hgm).trans HB4.out
  have z52 := cell_at box5 2
  have f52 : X5.frozen? ⟨g, 2, none⟩ = false := by simp [World.frozen?, box5]
  have hwN : IntKind.i64.wrap (N + 1) = N + 1 := IntWalk.i64_in _ (by omega)
  simp only [List.getElem?_toArray, List.getElem?_cons_zero, List.getElem?_cons_succ] at z52
  have HM5 := Lib.hid hm5
  have HG5 := Lib.hid hg5
  have HB5 := Lib.hid box5
  have HK5 := Lib.hid kb5
  clear hm5 hg5 box5 kb5
  go_wp2_with fail
  go_ret
  have kg : ∀ b, b ≠ g → (X5.setCell ⟨g, 2, none⟩ (.int .i64 (N + 1))).heap[b]? = X5.heap[b]? := fun b hne => Below.heap_setCell X5 ⟨g, 2, none⟩ _ b hne
  have lo4 : X0.heap.size ≤ X0.heap.size := Nat.le_refl _
  rw [HD2.out]
  have hmm2 := HX.out.1.ne_map (b := gm) rfl
  have P5 := HX.out.1.defd (w' := X5.setCell ⟨g, 2, none⟩ (.int .i64 (N + 1))) (v2 := .slice A2 n2 c2) ⟨s, t, N, (d : Int) + 1⟩ ((setc_at HB5.out _).trans (by rfl)) (HW4.out.keep fun b e => by
    obtain ⟨csO, hcsO⟩ := OwnG.typ HW4.out e
    have hb : b = bO := by injection e with e; exact e.symm
    subst hb
    exact (kg b hnO.1).trans (HK5.out b (lt_of_heap hcsO) fun e => hnO.2.1 (by rw [e]))) (by
    have e : nms LL.flatten (L ++ [⟨s, t, N, (d : Int) + 1⟩]) = nms LL.flatten L ++ [(s, (some u))] := by unfold nms; simp [HU.out]
    rw [e]
    exact HR4.out.keep fun b e => by
      obtain ⟨cs4, h4⟩ := OwnG.typ HR4.out e
      obtain ⟨D4, ⟨es4, cl4, h5, _⟩, _⟩ := HM4.out
      exact (kg b (ne_typ h4 HB4.out (by decide))).trans (HK5.out b (lt_of_heap h4) (ne_map h4 h5))) HK4.out.2.2 (fun u hu b e => by
    have hm' : u ∈ us ++ [Value.slice A n c] := List.mem_append_left _ hu
    have hr' := HX.out.1.ne_row hm' e
    have hlt := HX.out.1.lt (b := b) (.inr (.inr (.inr ⟨u, hm', e⟩)))
    have hnv : (Value.slice A n c).ownBlock ≠ some b := by
      obtain ⟨i, hi, hui⟩ := List.getElem_of_mem hu
      exact HX.out.1.apart i us.length u _ b (by omega) (by rw [List.getElem?_append_left hi, List.getElem?_eq_getElem hi, hui]) hv0 e
    have e4 := HK4.out.2.1 b hlt hnv fun e2 => hr'.2.2 (by rw [e2]; rfl)
    have hlt4 : b < X4.heap.size := by
      obtain ⟨K', L', ho'⟩ := HX.out.1.rowAt hm'
      obtain ⟨cs', h'⟩ := OwnG.typ ho' e
      exact lt_of_heap (e4.trans h')
    exact (kg b hr'.1).trans ((HK5.out b hlt4 fun e2 => hr'.2.1 (by rw [e2])).trans e4)) (HM5.out.keep (kg gm hmm2.1))
  refine ⟨rfl, ⟨_, _, _, P5.1, fun b hb => ?_⟩, ?_⟩
  · rcases P5.2 b hb with e | e
    · exact HX.out.2.2 b e
    · exact .inr (Nat.le_trans HX.out.2.1.size e)
  · exact ((HK4.out.1.below (Below.refl _ X4).drew).grown HG5.out fun k e => HX.out.2.2 k (.inr (.inl (by injection e with e; rw [e])))).set (HX.out.2.2 g (.inl rfl)) _ _
set_option maxHeartbeats 8000000 in
theorem pdef_made0 {w : World} {g : Nat} {ov v : Value} {us : List Value} {LL : List (List Vr)} {L : List Vr} {N : Int} {m : Nat} (h : PS w g (.map none) ov (us ++ [v]) (LL ++ [L]) N m) (hW : Wf (LL ++ [L]) N) (hl : LL.length ≤ 100000) (hl2 : L.length ≤ 100000) (hN : N ≤ 1000000) (hm : m ≤ 1000000000) (s : ByteArray) (hs : s.size ≤ 281474976710656) (t : Int) (hno : fnd L s = none) (hu : fnd LL.flatten s = none) {S : Nat → Prop} (hS : ∀ b, Owns g (.map none) ov (us ++ [v]) b → S b) :
    Calls Try.prog 23 #[.pointer (some ⟨g, 0, none⟩), .string s, .int .u8 t] w (PQ w g S (LL ++ [L ++ [⟨s, t, N, (LL.length : Int) + 1⟩]]) (N + 1) (m + 1) (.bool true)) := by
  have HD := Lib.hid (pdeep_any h)
  have hmx : s.size ≤ maxLen := by unfold maxLen; omega
  have hfe : fnd (LL ++ [L]).flatten s = fnd LL.flatten s := by
    have e : (LL ++ [L]).flatten = LL.flatten ++ L := by simp
    rw [e, fnd_app, hno]
    rfl
  have hlook := h.map.look s hmx
  rw [hfe, hu] at hlook
  obtain ⟨hlen, hrow⟩ := h.last
  have hN0 := hW.pos
  obtain ⟨AO, cO, rfl, hcO, hbO⟩ := h.out.form
  have hv : (us ++ [v])[LL.length]? = some v := by rw [← hlen]; simp
  obtain ⟨bO, oO, rfl, hOc⟩ := (OwnG.row (C := slC) (k := 1) (fun _ => rfl) h.out).at_ (Below.refl _ _) hv
  obtain ⟨bO', hO'⟩ := hbO _ rfl
  injection hO' with hO' hO2
  subst hO' hO2
  obtain ⟨A, c, rfl, hc, hA⟩ := hrow.form
  obtain ⟨d, hd⟩ : ∃ d, LL.length = d := ⟨_, rfl⟩
  obtain ⟨n, hn⟩ : ∃ n, L.length = n := ⟨_, rfl⟩
  have hnl : (nms LL.flatten L).length = n := by unfold nms; simp [hn]
  have hul : (us ++ [Value.slice A n c]).length = d + 1 := by simp [hlen, hd]
  have HPS0 := Lib.hid h
  rw [hnl] at hc hrow
  rw [hnl, hul] at HPS0 hS
  rw [hd] at hl hlen
  rw [hn] at hl2
  have z0 := cell_at HPS0.out.box 0
  have HROW := Lib.hid hrow
  have HL := Lib.hid hn
  simp only [List.getElem?_toArray, List.getElem?_cons_zero] at z0
  have hd1 : (((LL ++ [L]).length : Nat) : Int) = (d : Int) + 1 := by simp [hd]
  rw [hd1] at HD
  have hd0 : ((d : Int) + 1 == 0) = false := by rw [beq_eq_false_iff_ne]; omega
  have hk : ((0 : Int) == (d : Int) + 1) = false := by rw [beq_eq_false_iff_ne]; omega
  have HU := Lib.hid hu
  have HNO := Lib.hid hno
  have HFE := Lib.hid hfe
  have HMX := Lib.hid hmx
  have HS := Lib.hid hS
  have HM := Lib.hid hm
  have HD2 := Lib.hid hd
  have HLEN := Lib.hid hlen
  have HPM := Lib.hid (HPS0.out.made hS)
  have zm : (w.alloc (.map #[] 0)).cell? ⟨g, 0, none⟩ = some (.map none) := (World.cell?_of_block ((Below.refl w.heap.size w).alloc (Nat.le_refl _) (.map #[] 0) |>.block g (lt_of_heap HPS0.out.box))).trans z0
  have fm : (w.alloc (.map #[] 0)).frozen? ⟨g, 0, none⟩ = false := by simp [World.frozen?, ((Below.refl w.heap.size w).alloc (Nat.le_refl _) (.map #[] 0) |>.block g (lt_of_heap HPS0.out.box)).trans HPS0.out.box]
  have hfd := field_deep
  have hmn := map_nil
  have hmk := map_not
  have hmm := @run_makeMap Try.prog
  have CL := Lib.hid (fun w' => clone_any s w' hs)
  unfold varV varL at hlook
  clear h hW hno hfe hlen hrow hS hmx hd hu hm hn hnl hul hv hOc hA hbO
  go_enter Try.func23, Try.ntmps23
  go_wp2_with fail
  refine HD.out.mono ?_
  rintro e w1 ⟨rfl, hw1⟩
  obtain rfl : w = w1 := hw1.symm
  go_wp2_with fail
  refine (CL.out _).mono ?_
  rintro e w2 ⟨rfl, hb2⟩
  have HPS : Hid (PS w2 g (.map (some w.heap.size)) (.slice (some ⟨bO, 0, none⟩) (d + 1) cO) (us ++ [.slice A n c]) (LL ++ [L]) N m ∧ TurnS S w w2 ∧ ∀ b, Owns g (.map (some w.heap.size)) (.slice (some ⟨bO, 0, none⟩) (d + 1) cO) (us ++ [.slice A n c]) b → S b ∨ w.heap.size ≤ b) := Lib.hid ⟨HPM.out.1.below hb2, HPM.out.2.1.below hb2, HPM.out.2.2⟩
  clear hb2 zm fm
  obtain ⟨gm, hgm⟩ : ∃ gm, w.heap.size = gm := ⟨_, rfl⟩
  rw [hgm] at HPS
  have HFS : Hid (fnd (LL ++ [L]).flatten s = none) := Lib.hid (HFE.out.trans HU.out)
  clear z0 hlook
  go_wp2_with fail
  refine AtS.start (by kernel_rfl) 25 (DS2 g gm bO cO d (.slice A n c) N m (fnd (LL ++ [L]).flatten)) (by kernel_rfl) (by kernel_rfl) ?_
  have HX : Hid (PS w2.drew g (.map (some gm)) (.slice (some ⟨bO, 0, none⟩) (d + 1) cO) (us ++ [.slice A n c]) (LL ++ [L]) N m ∧ TurnS S w w2.drew ∧ ∀ b, Owns g (.map (some gm)) (.slice (some ⟨bO, 0, none⟩) (d + 1) cO) (us ++ [.slice A n c]) b → S b ∨ w.heap.size ≤ b) := Lib.hid ⟨HPS.out.1.below (Below.refl _ w2).drew, HPS.out.2.1.below (Below.refl _ w2).drew, fun b e => (HPS.out.2.2 b e).imp id fun k => by omega⟩
  clear HPS
  generalize w2.drew = X0 at *
  have hwd : IntKind.i64.wrap (d : Int) = d := IntWalk.i64_in _ (by omega)
  have hS : DS2 g gm bO cO d (.slice A n c) N m (fnd (LL ++ [L]).flatten) X0 := by
    have hbx := HX.out.1.box
    obtain ⟨bq, oq, eq, hq⟩ := (OwnG.row (C := slC) (k := 1) (fun _ => rfl) HX.out.1.out).at_ (Below.refl _ _) (j := d) (x := .slice A n c) (by rw [← HLEN.out]; simp)
    injection eq with eq
    injection eq with eq1 eq2
    subst eq1 eq2
    have := hq 0 _ rfl
    exact ⟨cell_at hbx 0, cell_at hbx 1, cell_at hbx 2, by simpa using this, HX.out.1.map⟩
  refine at_take 0 34 (.pointer (some ⟨g, 0, none⟩)) rfl rfl (by kernel_rfl) (by decide) (by decide) (fun _ _ _ h => h) (by kernel_rfl) hS (fun w' hw' => ?_) ?_
  · obtain ⟨q0, q1, q2, q3, q4⟩ := hw'
    go_simp <;> omega
  go_frame
  refine at_take 1 35 (.pointer (some ⟨g, 0, none⟩)) rfl rfl (by kernel_rfl) (by decide) (by decide) (fun _ _ _ h => h) (by kernel_rfl) hS (fun w' hw' => ?_) ?_
  · obtain ⟨q0, q1, q2, q3, q4⟩ := hw'
    go_simp <;> omega
  go_frame
  refine at_take 2 36 (.pointer (some ⟨g, 1, none⟩)) rfl rfl (by kernel_rfl) (by decide) (by decide) (fun _ _ _ h => h) (by kernel_rfl) hS (fun w' hw' => ?_) ?_
  · obtain ⟨q0, q1, q2, q3, q4⟩ := hw'
    go_simp <;> omega
  go_frame
  refine at_take 3 37 (.slice (some ⟨bO, 0, none⟩) (d + 1) cO) rfl rfl (by kernel_rfl) (by decide) (by decide) (fun _ _ _ h => h) (by kernel_rfl) hS (fun w' hw' => ?_) ?_
  · obtain ⟨q0, q1, q2, q3, q4⟩ := hw'
    go_simp <;> omega
  go_frame
  refine at_take 4 38 (.int .i64 ((d : Int) + 1)) rfl rfl (by kernel_rfl) (by decide) (by decide) (fun _ _ _ h => h) (by kernel_rfl) hS (fun w' hw' => ?_) ?_
  · obtain ⟨q0, q1, q2, q3, q4⟩ := hw'
    go_simp <;> omega
  go_frame
  refine at_take 5 39 (.int .i64 d) rfl rfl (by kernel_rfl) (by decide) (by decide) (fun _ _ _ h => h) (by kernel_rfl) hS (fun w' hw' => ?_) ?_
  · obtain ⟨q0, q1, q2, q3, q4⟩ := hw'
    go_simp <;> omega
  go_frame
  refine at_take 6 40 (.pointer (some ⟨g, 0, none⟩)) rfl rfl (by kernel_rfl) (by decide) (by decide) (fun _ _ _ h => h) (by kernel_rfl) hS (fun w' hw' => ?_) ?_
  · obtain ⟨q0, q1, q2, q3, q4⟩ := hw'
    go_simp <;> omega
  go_frame
  refine at_take 7 41 (.pointer (some ⟨g, 0, none⟩)) rfl rfl (by kernel_rfl) (by decide) (by decide) (fun _ _ _ h => h) (by kernel_rfl) hS (fun w' hw' => ?_) ?_
  · obtain ⟨q0, q1, q2, q3, q4⟩ := hw'
    go_simp <;> omega
  go_frame
  refine at_take 8 42 (.pointer (some ⟨g, 1, none⟩)) rfl rfl (by kernel_rfl) (by decide) (by decide) (fun _ _ _ h => h) (by kernel_rfl) hS (fun w' hw' => ?_) ?_
  · obtain ⟨q0, q1, q2, q3, q4⟩ := hw'
    go_simp <;> omega
  go_frame
  refine at_take 9 43 (.slice (some ⟨bO, 0, none⟩) (d + 1) cO) rfl rfl (by kernel_rfl) (by decide) (by decide) (fun _ _ _ h => h) (by kernel_rfl) hS (fun w' hw' => ?_) ?_
  · obtain ⟨q0, q1, q2, q3, q4⟩ := hw'
    go_simp <;> omega
  go_frame
  refine at_take 10 44 (.int .i64 ((d : Int) + 1)) rfl rfl (by kernel_rfl) (by decide) (by decide) (fun _ _ _ h => h) (by kernel_rfl) hS (fun w' hw' => ?_) ?_
  · obtain ⟨q0, q1, q2, q3, q4⟩ := hw'
    go_simp <;> omega
  go_frame
  refine at_take 11 45 (.int .i64 d) rfl rfl (by kernel_rfl) (by decide) (by decide) (fun _ _ _ h => h) (by kernel_rfl) hS (fun w' hw' => ?_) ?_
  · obtain ⟨q0, q1, q2, q3, q4⟩ := hw'
    go_simp <;> omega
  go_frame
  refine at_take 12 46 (.pointer (some ⟨bO, d, none⟩)) rfl rfl (by kernel_rfl) (by decide) (by decide) (fun _ _ _ h => h) (by kernel_rfl) hS (fun w' hw' => ?_) ?_
  · obtain ⟨q0, q1, q2, q3, q4⟩ := hw'
    go_simp <;> omega
  go_frame
  refine at_take 13 47 (.slice A n c) rfl rfl (by kernel_rfl) (by decide) (by decide) (fun _ _ _ h => h) (by kernel_rfl) hS (fun w' hw' => ?_) ?_
  · obtain ⟨q0, q1, q2, q3, q4⟩ := hw'
    go_simp <;> omega
  go_frame
  refine at_take 14 48 (.string s) rfl rfl (by kernel_rfl) (by decide) (by decide) (fun _ _ _ h => h) (by kernel_rfl) hS (fun w' hw' => ?_) ?_
  · obtain ⟨q0, q1, q2, q3, q4⟩ := hw'
    go_simp <;> omega
  go_frame
  refine at_take 15 49 (.pointer (some ⟨g, 0, none⟩)) rfl rfl (by kernel_rfl) (by decide) (by decide) (fun _ _ _ h => h) (by kernel_rfl) hS (fun w' hw' => ?_) ?_
  · obtain ⟨q0, q1, q2, q3, q4⟩ := hw'
    go_simp <;> omega
  go_frame
  refine at_take 16 50 (.pointer (some ⟨g, 0, none⟩)) rfl rfl (by kernel_rfl) (by decide) (by decide) (fun _ _ _ h => h) (by kernel_rfl) hS (fun w' hw' => ?_) ?_
  · obtain ⟨q0, q1, q2, q3, q4⟩ := hw'
    go_simp <;> omega
  go_frame
  refine at_take 17 51 (.pointer (some ⟨g, 0, none⟩)) rfl rfl (by kernel_rfl) (by decide) (by decide) (fun _ _ _ h => h) (by kernel_rfl) hS (fun w' hw' => ?_) ?_
  · obtain ⟨q0, q1, q2, q3, q4⟩ := hw'
    go_simp <;> omega
  go_frame
  refine at_take 18 52 (.map (some gm)) rfl rfl (by kernel_rfl) (by decide) (by decide) (fun _ _ _ h => h) (by kernel_rfl) hS (fun w' hw' => ?_) ?_
  · obtain ⟨q0, q1, q2, q3, q4⟩ := hw'
    go_simp <;> omega
  go_frame
  refine at_take 19 53 (.string s) rfl rfl (by kernel_rfl) (by decide) (by decide) (fun _ _ _ h => h) (by kernel_rfl) hS (fun w' hw' => ?_) ?_
  · obtain ⟨q0, q1, q2, q3, q4⟩ := hw'
    go_simp <;> omega
  go_frame
  refine at_take 20 54 (.agg #[.int .u8 0, .int .i64 0, .int .i64 0]) rfl rfl (by kernel_rfl) (by decide) (by decide) (fun _ _ _ h => h) (by kernel_rfl) hS (fun w' hw' => ?_) ?_
  · have q5 := hw'.2.2.2.2.look s HMX.out
    rw [HFS.out] at q5
    unfold varV varL at q5
    go_simp
  go_frame
  refine at_take 21 55 (.agg #[.string s, .int .u8 0, .int .i64 0, .int .i64 0]) rfl rfl (by kernel_rfl) (by decide) (by decide) (fun _ _ _ h => h) (by kernel_rfl) hS (fun w' hw' => ?_) ?_
  · obtain ⟨q0, q1, q2, q3, q4⟩ := hw'
    go_simp <;> omega
  go_frame
  have bB := ball_new X0 #[.string s, .int .u8 0, .int .i64 0, .int .i64 0] 81
  have nB := new_at X0 #[.string s, .int .u8 0, .int .i64 0, .int .i64 0] 81
  have sB : DS2 g gm bO cO d (.slice A n c) N m (fnd (LL ++ [L]).flatten) (X0.alloc (.cells #[.string s, .int .u8 0, .int .i64 0, .int .i64 0] 81)) := hS.keep fun b hb => bB.block b (HX.out.1.lt (by
    rcases hb with rfl | rfl | rfl
    · exact .inl rfl
    · exact .inr (.inr (.inl rfl))
    · exact .inr (.inl rfl)))
  refine at_run 22 56 (.slice (some ⟨X0.heap.size, 0, none⟩) 1 1) (X0.alloc (.cells #[.string s, .int .u8 0, .int .i64 0, .int .i64 0] 81)) rfl rfl (by kernel_rfl) (by decide) (by kernel_rfl) ?_ sB ?_
  · go_simp
  go_frame
  have hv0 : (us ++ [Value.slice A n c])[us.length]? = some (.slice A n c) := by simp
  have hmem : Value.slice A n c ∈ us ++ [Value.slice A n c] := by simp
  obtain ⟨_, hrowX⟩ := HX.out.1.last
  obtain ⟨A2, n2, c2, X3, hr3, ho3, hg3, hn3⟩ := app_in (s, none) (hrowX.keep fun b e => bB.block b (hrowX.lt b e).2) (nB.trans (by rfl)) (by unfold nms; rw [List.length_map, HL.out]; omega)
  have hne := fun b (e : (Value.slice A n c).ownBlock = some b) => HX.out.1.ne_row hmem e
  have k3 : ∀ b, b < X0.heap.size → (Value.slice A n c).ownBlock ≠ some b → X3.heap[b]? = X0.heap[b]? := fun b hb hnb => (hg3.block b (Nat.lt_of_lt_of_le hb bB.size) fun e => hnb e.symm).trans (bB.block b hb)
  have s3 : DS2 g gm bO cO d (.slice A n c) N m (fnd (LL ++ [L]).flatten) X3 := hS.keep fun b hb => by
    rcases hb with rfl | rfl | rfl
    · exact k3 _ (HX.out.1.lt (.inl rfl)) fun e => (hne _ e).1 rfl
    · exact k3 _ (HX.out.1.lt (.inr (.inr (.inl rfl)))) fun e => (hne _ e).2.2 rfl
    · exact k3 _ (HX.out.1.lt (.inr (.inl rfl))) fun e => (hne _ e).2.1 rfl
  refine at_run 23 57 (.slice A2 n2 c2) X3 rfl rfl (by kernel_rfl) (by decide) (by kernel_rfl) (run_appz (.tmp 47) (.tmp 56) rfl rfl rfl hr3) s3 ?_
  go_frame
  refine at_take 24 58 (.pointer (some ⟨bO, d, none⟩)) rfl rfl (by kernel_rfl) (by decide) (by decide) (fun _ _ _ h => h) (by kernel_rfl) s3 (fun w' hw' => ?_) ?_
  · obtain ⟨q0, q1, q2, q3, q4⟩ := hw'
    go_simp <;> omega
  go_frame
  have hO3 : OwnG 1 slC 77 X3 0 (.slice (some ⟨bO, 0, none⟩) (d + 1) cO) (us ++ [.slice A n c]) := HX.out.1.out.keep fun b e => k3 b (HX.out.1.out.lt b e).2 fun e2 => (hne b e2).2.2 e
  obtain ⟨csO, hcsO⟩ := OwnG.typ hO3 (b := bO) rfl
  have fO : X3.frozen? ⟨bO, d, none⟩ = false := by simp [World.frozen?, hcsO]
  refine AtS.last (i := 25) (w' := X3.setCell ⟨bO, d, none⟩ (.slice A2 n2 c2)) rfl (by kernel_rfl) (by kernel_rfl) (by decide) (by kernel_rfl) ?_ ?_
  · obtain ⟨q0, q1, q2, q3, q4⟩ := s3
    go_simp
  go_frame
  have kb4 : ∀ b, b ≠ bO → (X3.setCell ⟨bO, d, none⟩ (.slice A2 n2 c2)).heap[b]? = X3.heap[b]? := fun b hne => Below.heap_setCell X3 ⟨bO, d, none⟩ _ b hne
  have hnO := HX.out.1.ne_out (b := bO) rfl
  have ho4 : OwnG 1 slC 77 (X3.setCell ⟨bO, d, none⟩ (.slice A2 n2 c2)) 0 (.slice (some ⟨bO, 0, none⟩) (d + 1) cO) (us ++ [.slice A2 n2 c2]) := by
    have := set_row (v2 := .slice A2 n2 c2) hO3
    rw [HLEN.out] at this
    exact this
  have hr4 : OwnG 4 nmC 81 (X3.setCell ⟨bO, d, none⟩ (.slice A2 n2 c2)) 0 (.slice A2 n2 c2) (nms LL.flatten L ++ [(s, none)]) := ho3.keep fun b e => kb4 b (by
    obtain ⟨cs3, h3⟩ := OwnG.typ ho3 e
    exact ne_typ h3 hcsO (by decide))
  have box4 : (X3.setCell ⟨bO, d, none⟩ (.slice A2 n2 c2)).heap[g]? = some (.cells #[.map (some gm), .slice (some ⟨bO, 0, none⟩) (d + 1) cO, .int .i64 N] 49 (0, 0)) := (kb4 g fun e => hnO.1 e.symm).trans ((k3 g (HX.out.1.lt (.inl rfl)) fun e => (hne g e).1 rfl).trans HX.out.1.box)
  have mh4 : MH (X3.setCell ⟨bO, d, none⟩ (.slice A2 n2 c2)) gm m (fnd (LL ++ [L]).flatten) := by
    rcases HX.out.1.map with ⟨e, _⟩ | ⟨gm', D, e, h1, h2⟩
    · cases e
    · injection e with e
      injection e with e
      subst e
      exact MH.keep ⟨D, h1, h2⟩ ((kb4 gm fun e => hnO.2.1 (by rw [e])).trans (k3 gm (HX.out.1.lt (.inr (.inl rfl))) fun e => (hne gm e).2.1 rfl))
  have HK4 : Hid (TurnS S w (X3.setCell ⟨bO, d, none⟩ (.slice A2 n2 c2)) ∧ (∀ b, b < X0.heap.size → (Value.slice A n c).ownBlock ≠ some b → b ≠ bO → (X3.setCell ⟨bO, d, none⟩ (.slice A2 n2 c2)).heap[b]? = X0.heap[b]?) ∧ ∀ b, (Value.slice A2 n2 c2).ownBlock = some b → (Value.slice A n c).ownBlock = some b ∨ X0.heap.size ≤ b) := Lib.hid ⟨((HX.out.2.1.below bB).grown hg3 fun k e => HX.out.2.2 k (.inr (.inr (.inr ⟨_, hmem, e⟩)))).set (HX.out.2.2 bO (.inr (.inr (.inl rfl)))) _ _, fun b h1 h2 h3 => (kb4 b h3).trans (k3 b h1 h2), fun b e => by
    rcases hn3 with e2 | e2
    · exact .inl (e2.symm.trans e)
    · rw [e2] at e
      injection e with e
      exact .inr (by rw [← e]; exact bB.size)⟩
  have z40 := cell_at box4 0
  have z42 := cell_at box4 2
  simp only [List.getElem?_toArray, List.getElem?_cons_zero, List.getElem?_cons_succ] at z40 z42
  have HB4 := Lib.hid box4
  have HM4 := Lib.hid mh4
  have HW4 := Lib.hid ho4
  have HR4 := Lib.hid hr4
  clear s3 hS sB bB nB hr3 ho3 hg3 hn3 hne k3 hO3 hcsO fO kb4 ho4 hr4 box4 mh4 hrowX
  generalize X3.setCell ⟨bO, d, none⟩ (.slice A2 n2 c2) = X4 at *
  go_wp2_with fail
  refine wp_region_still_tail 12 (by kernel_rfl) (by kernel_rfl) ?_
  simp only [List.take_succ_cons, List.take_zero, List.drop_succ_cons, List.drop_zero]
  iterate 12 still_step
  refine wpStill_nil ?_
  change wpList _ _ _ _ _ X4.drew
  refine wpList_put X4.drew rfl _ _ _ rfl gm m (fnd (LL ++ [L]).flatten) s ⟨s, t, N, (d : Int) + 1⟩ rfl rfl rfl (HM4.out.keep rfl) HMX.out (by have := HM.out; unfold maxLen; omega) ?_
  intro X5 hm5 hg5
  have kb5 : ∀ b, b < X4.heap.size → b ≠ gm → X5.heap[b]? = X4.heap[b]? := fun b hb hne => hg5.block b hb fun e => hne (by injection e)
  have hgm : g ≠ gm := fun e => (HX.out.1.ne_map (b := gm) rfl).1 e.symm
  have box5 := (kb5 g (lt_of_heap HB4.out) hgm).trans HB4.out
  have z52 := cell_at box5 2
  have f52 : X5.frozen? ⟨g, 2, none⟩ = false := by simp [World.frozen?, box5]
  have hwN : IntKind.i64.wrap (N + 1) = N + 1 := IntWalk.i64_in _ (by omega)
  simp only [List.getElem?_toArray, List.getElem?_cons_zero, List.getElem?_cons_succ] at z52
  have HM5 := Lib.hid hm5
  have HG5 := Lib.hid hg5
  have HB5 := Lib.hid box5
  have HK5 := Lib.hid kb5
  clear hm5 hg5 box5 kb5
  go_wp2_with fail
  go_ret
  have kg : ∀ b, b ≠ g → (X5.setCell ⟨g, 2, none⟩ (.int .i64 (N + 1))).heap[b]? = X5.heap[b]? := fun b hne => Below.heap_setCell X5 ⟨g, 2, none⟩ _ b hne
  have lo4 : X0.heap.size ≤ X0.heap.size := Nat.le_refl _
  rw [HD2.out]
  have hmm2 := HX.out.1.ne_map (b := gm) rfl
  have P5 := HX.out.1.defd (w' := X5.setCell ⟨g, 2, none⟩ (.int .i64 (N + 1))) (v2 := .slice A2 n2 c2) ⟨s, t, N, (d : Int) + 1⟩ ((setc_at HB5.out _).trans (by rfl)) (HW4.out.keep fun b e => by
    obtain ⟨csO, hcsO⟩ := OwnG.typ HW4.out e
    have hb : b = bO := by injection e with e; exact e.symm
    subst hb
    exact (kg b hnO.1).trans (HK5.out b (lt_of_heap hcsO) fun e => hnO.2.1 (by rw [e]))) (by
    have e : nms LL.flatten (L ++ [⟨s, t, N, (d : Int) + 1⟩]) = nms LL.flatten L ++ [(s, none)] := by unfold nms; simp [HU.out]
    rw [e]
    exact HR4.out.keep fun b e => by
      obtain ⟨cs4, h4⟩ := OwnG.typ HR4.out e
      obtain ⟨D4, ⟨es4, cl4, h5, _⟩, _⟩ := HM4.out
      exact (kg b (ne_typ h4 HB4.out (by decide))).trans (HK5.out b (lt_of_heap h4) (ne_map h4 h5))) HK4.out.2.2 (fun u hu b e => by
    have hm' : u ∈ us ++ [Value.slice A n c] := List.mem_append_left _ hu
    have hr' := HX.out.1.ne_row hm' e
    have hlt := HX.out.1.lt (b := b) (.inr (.inr (.inr ⟨u, hm', e⟩)))
    have hnv : (Value.slice A n c).ownBlock ≠ some b := by
      obtain ⟨i, hi, hui⟩ := List.getElem_of_mem hu
      exact HX.out.1.apart i us.length u _ b (by omega) (by rw [List.getElem?_append_left hi, List.getElem?_eq_getElem hi, hui]) hv0 e
    have e4 := HK4.out.2.1 b hlt hnv fun e2 => hr'.2.2 (by rw [e2]; rfl)
    have hlt4 : b < X4.heap.size := by
      obtain ⟨K', L', ho'⟩ := HX.out.1.rowAt hm'
      obtain ⟨cs', h'⟩ := OwnG.typ ho' e
      exact lt_of_heap (e4.trans h')
    exact (kg b hr'.1).trans ((HK5.out b hlt4 fun e2 => hr'.2.1 (by rw [e2])).trans e4)) (HM5.out.keep (kg gm hmm2.1))
  refine ⟨rfl, ⟨_, _, _, P5.1, fun b hb => ?_⟩, ?_⟩
  · rcases P5.2 b hb with e | e
    · exact HX.out.2.2 b e
    · exact .inr (Nat.le_trans HX.out.2.1.size e)
  · exact ((HK4.out.1.below (Below.refl _ X4).drew).grown HG5.out fun k e => HX.out.2.2 k (.inr (.inl (by injection e with e; rw [e])))).set (HX.out.2.2 g (.inl rfl)) _ _
set_option maxHeartbeats 4000000 in
theorem pdef_zero {w : World} {g : Nat} {mv ov : Value} {vs : List Value} {N : Int} {m : Nat} (h : PS w g mv ov vs [] N m) (s : ByteArray) (t : Int) :
    Calls Try.prog 23 #[.pointer (some ⟨g, 0, none⟩), .string s, .int .u8 t] w (fun e w' => e = .returned (.bool false) ∧ w' = w) := by
  have HD := Lib.hid (pdeep_any h)
  clear h
  simp only [List.length_nil] at HD
  go_enter Try.func23, Try.ntmps23
  go_wp2_with fail
  refine HD.out.mono ?_
  rintro e w1 ⟨rfl, rfl⟩
  go_wp2_with fail
  go_ret
  exact ⟨rfl, rfl⟩
set_option maxHeartbeats 4000000 in
theorem pdef_has {w : World} {g : Nat} {mv ov : Value} {vs : List Value} {LL : List (List Vr)} {L : List Vr} {N : Int} {m : Nat} (h : PS w g mv ov vs (LL ++ [L]) N m) (hW : Wf (LL ++ [L]) N) (hl : LL.length ≤ 100000) (s : ByteArray) (hs : s.size ≤ maxLen) (t : Int) (u : Vr) (hu : fnd L s = some u) :
    Calls Try.prog 23 #[.pointer (some ⟨g, 0, none⟩), .string s, .int .u8 t] w (fun e w' => e = .returned (.bool false) ∧ w' = w) := by
  have HD := Lib.hid (pdeep_any h)
  have hfe : fnd (LL ++ [L]).flatten s = some u := by
    have e : (LL ++ [L]).flatten = LL.flatten ++ L := by simp
    rw [e, fnd_app, hu]
    rfl
  have hlook := h.map.look s hs
  rw [hfe] at hlook
  have z0 := cell_at h.box 0
  simp only [List.getElem?_toArray, List.getElem?_cons_zero] at z0
  obtain ⟨d, hd⟩ : ∃ d, LL.length = d := ⟨_, rfl⟩
  have hd1 : (((LL ++ [L]).length : Nat) : Int) = (d : Int) + 1 := by simp [hd]
  rw [hd1] at HD
  have hd0 : ((d : Int) + 1 == 0) = false := by rw [beq_eq_false_iff_ne]; omega
  have hk : (u.k == (d : Int) + 1) = true := by
    have := hW.k LL.length L (by simp) u (fnd_some hu).1
    rw [beq_iff_eq, this, hd]
  have hfd := field_deep
  unfold varV varL at hlook
  clear h hW hfe hd hu
  go_enter Try.func23, Try.ntmps23
  go_wp2_with fail
  refine HD.out.mono ?_
  rintro e w1 ⟨rfl, hw1⟩
  obtain rfl : w = w1 := hw1.symm
  go_wp2_with fail
  go_ret
  exact ⟨rfl, rfl⟩
theorem pdef_any {w : World} {g : Nat} {mv ov : Value} {vs : List Value} {LL : List (List Vr)} {L : List Vr} {N : Int} {m : Nat} (h : PS w g mv ov vs (LL ++ [L]) N m) (hW : Wf (LL ++ [L]) N) (hl : LL.length ≤ 100000) (hl2 : L.length ≤ 100000) (hN : N ≤ 1000000) (hm : m ≤ 1000000000) (s : ByteArray) (hs : s.size ≤ 281474976710656) (t : Int) {S : Nat → Prop} (hS : ∀ b, Owns g mv ov vs b → S b) :
    Calls Try.prog 23 #[.pointer (some ⟨g, 0, none⟩), .string s, .int .u8 t] w (fun e w' => ((fnd L s).isSome = true ∧ e = .returned (.bool false) ∧ w' = w) ∨ (fnd L s = none ∧ PQ w g S (LL ++ [L ++ [⟨s, t, N, (LL.length : Int) + 1⟩]]) (N + 1) (m + 1) (.bool true) e w')) := by
  cases hL : fnd L s with
  | some u =>
    refine (pdef_has h hW hl s (by unfold maxLen; omega) t u hL).mono ?_
    rintro e w' ⟨h1, h2⟩
    exact .inl ⟨rfl, h1, h2⟩
  | none =>
    obtain ⟨us, v, rfl⟩ : ∃ us v, vs = us ++ [v] := by
      have := h.len
      simp at this
      exact ⟨vs.dropLast, vs.getLast (by intro e; simp [e] at this), (List.dropLast_concat_getLast _).symm⟩
    have imp : ∀ e w', PQ w g S (LL ++ [L ++ [⟨s, t, N, (LL.length : Int) + 1⟩]]) (N + 1) (m + 1) (.bool true) e w' → ((none : Option Vr).isSome = true ∧ e = .returned (.bool false) ∧ w' = w) ∨ ((none : Option Vr) = none ∧ PQ w g S (LL ++ [L ++ [⟨s, t, N, (LL.length : Int) + 1⟩]]) (N + 1) (m + 1) (.bool true) e w') := fun e w' k => .inr ⟨rfl, k⟩
    rcases h.map with ⟨rfl, hf⟩ | ⟨gm, D, rfl, _⟩
    · refine (pdef_made0 h hW hl hl2 hN hm s hs t hL ?_ hS).mono imp
      have := hf s
      have e : (LL ++ [L]).flatten = LL.flatten ++ L := by simp
      rw [e, fnd_app, hL] at this
      exact this
    · cases hu : fnd LL.flatten s with
      | none => exact (pdef_map0 h hW hl hl2 hN hm s hs t hL hu hS).mono imp
      | some u => exact (pdef_map1 h hW hl hl2 hN hm s hs t hL u hu hS).mono imp
end Go.Proofs.Ytbhgbgaeaejnhaa.Typ
