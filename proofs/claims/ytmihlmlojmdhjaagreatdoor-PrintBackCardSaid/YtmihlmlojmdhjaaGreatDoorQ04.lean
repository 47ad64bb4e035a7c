/-
  The reader's take and add: n bytes off the front; a word behind the others. Conditions: no more bytes than are left; sizes.
-/
import Derived.Test.YtmihlmlojmdhjaaGreatDoorQ02
import Derived.Test.YtmihlmlojmdhjaaGreatDoorQ03
import Derived.WalkKit
import Derived.BigQuiet
import Derived.Deep.QuietTactic
namespace Go.Proofs.YtmihlmlojmdhjaaGreatDoor.Lex
open Go.RowKit
open Num (EndsW)
set_option maxRecDepth 100000
theorem extract_bs (l : List UInt8) (a b : Nat) : (bs l).extract a b = bs ((l.drop a).take (b - a)) := ByteArray.extract_mk l a b
theorem set_two {w : World} {g : Nat} {a b : Value} {T : TypeId} (h : w.heap[g]? = some (.cells #[a, b] T (0, 0))) (u : Value) : (w.setCell ⟨g, 0, none⟩ u).heap[g]? = some (.cells #[u, b] T (0, 0)) := by
  rw [set_at h]; rfl
theorem set_one {w : World} {g : Nat} {a b : Value} {T : TypeId} (h : w.heap[g]? = some (.cells #[a, b] T (0, 0))) (u : Value) : (w.setCell ⟨g, 1, none⟩ u).heap[g]? = some (.cells #[a, u] T (0, 0)) := by
  rw [set_at h]; rfl
set_option maxHeartbeats 1000000 in
theorem take_any (w : World) (lo g n : Nat) (l : List UInt8) (ws : List Wd) (v : Value) (h : Rd w lo g l ws v) (hn : n ≤ l.length) (hl : l.length ≤ 1000000) :
    Calls Tryz.prog 64 #[.pointer (some ⟨g, 0, none⟩), .int .i64 n] w (Step w lo g v (str (l.take n)) (l.drop n) ws) := by
  have HH := Lib.hid h
  have c0 := cell_at h.at_ 0
  have f0 := free_at h.at_ 0
  have hs : (bs l).size = l.length := rfl
  have HE1 := Lib.hid (extract_bs l 0 n)
  have HE2 := Lib.hid (extract_bs l n l.length)
  have hn2 : n ≤ (bs l).size := hn
  have hl2 : (bs l).size ≤ 1000000 := hl
  have HS := Lib.hid hs
  clear h hn hl hs
  go_enter Tryz.func64, Tryz.ntmps64
  go_wp2
  go_ret
  refine ⟨?_, v, ⟨?_, HH.out.low, ?_, HH.out.ne⟩, ?_, fun k hk => .inl hk⟩
  · show Ending.returned (Value.string ((bs l).extract 0 n)) = _
    rw [HE1.out, List.drop_zero, Nat.sub_zero]; rfl
  · rw [set_two HH.out.at_, HS.out, HE2.out, List.take_of_length_le (by simp)]
  · exact HH.out.own.keep fun k hk => Below.heap_setCell w _ _ k (fun e => HH.out.ne (by rw [hk, e]))
  · exact (Turn.refl _ w).setCell (.inl (by simp [mine])) _
theorem clone_any (s : ByteArray) (w : World) (hlim : s.size ≤ 281474976710656) : Calls Tryz.prog 89 #[.string s] w (EndsB (.string s) w) := by
  have C := Lib.hid (Tryz.stringslite_Clone s w hlim)
  clear hlim
  go_enter Tryz.func89, Tryz.ntmps89
  go_wp2_with (go_at_call 123; refine C.out.mono ?_; rintro e w' ⟨rfl, hb⟩)
  go_ret
  exact ⟨rfl, hb⟩
theorem at_app {ops : Array Oper} {Q : Exit → Act → World → Prop} {md : Region.Mode} {S : World → Prop} {nn fuel : Nat} {listed : Array Bool} {a : Act} {w : World} {oi : Oper} (i d : Nat) (v2 : Value) (w' : World) (hi : ops[i]? = some oi) (hd : oi.dst = some d) (hr : Region.ready md ops listed = [i]) (hin : i < nn) (hw : Region.wanted oi (yielded ops a.tmps) = true) (s x : Operand)
    (ho : oi.op = .call { callee := .builtin .append, args := #[s, x], argTypes := #[49, 49] }) (v u : Value) (hs : a.eval s = v) (hx : a.eval x = u) (hrun : ∀ ty, (Builtin.append_ #[49, 49] ty #[v, u]).run Tryz.prog w = .ok v2 w') (hS : S w')
    (h : AtS Tryz.prog md ops Q S nn fuel (listed.setIfInBounds i true) (a.put (some d) v2) w') : AtS Tryz.prog md ops Q S nn (fuel + 1) listed a w := by
  refine at_run i d v2 w' hi hd hr hin hw ?_ hS h
  unfold execOp
  simp only [ho, resolve, invoke, builtin, Sem.run_bind, Sem.run_pure, Result.andThen_ok, List.map_toArray, List.map_cons, List.map_nil, hs, hx, hrun]
def InG (w : World) (g b : Nat) (l : List UInt8) (v : Value) (x : Wd) : Prop := w.heap[g]? = some (.cells #[.string (bs l), v] 79 (0, 0)) ∧ w.heap[b]? = some (.cells #[.int .i64 x.k, .string (bs x.s), .int .i64 x.n] 82 (0, 0))
set_option maxHeartbeats 4000000 in
theorem add_any (w : World) (lo g : Nat) (l : List UInt8) (ws : List Wd) (v : Value) (x : Wd) (h : Rd w lo g l ws v) (hx : x.s.length ≤ 1000000) (hl : ws.length ≤ 1000000) (hlo : lo ≤ w.heap.size) :
    Calls Tryz.prog 75 #[.pointer (some ⟨g, 0, none⟩), wdV x] w (Step w lo g v (.tuple #[]) l (ws ++ [x])) := by
  obtain ⟨k, s, n⟩ := x
  unfold wdV
  dsimp only at *
  have HH := Lib.hid h
  have HX := Lib.hid hx
  have HL := Lib.hid hl
  have HLO := Lib.hid hlo
  have HB := Lib.hid (heap_alloc_new w (.cells #[.int .i64 k, .string (bs s), .int .i64 n] 82 (0, 0)))
  have HG := Lib.hid (h.below ((Below.refl _ w).alloc (Nat.le_refl _) (.cells #[.int .i64 k, .string (bs s), .int .i64 n] 82 (0, 0))))
  have C := fun w' => Lib.hid (clone_any (bs s) w' (by rw [bs_size]; omega))
  have z1 := cell_at HB.out 1
  clear h hx hl hlo
  go_enter Tryz.func75, Tryz.ntmps75
  go_wp2_with fail
  refine (C _).out.mono ?_
  rintro e w1 ⟨rfl, hb1⟩
  have HB1 : Hid (w1.heap[w.heap.size]? = some (.cells #[.int .i64 k, .string (bs s), .int .i64 n] 82 (0, 0))) := Lib.hid ((hb1.block _ (by simp)).trans HB.out)
  have HG1 : Hid (Rd w1 lo g l ws v) := Lib.hid (HG.out.below hb1)
  have HT1 : Hid (Turn (mine g v) w w1) := Lib.hid (((Turn.refl _ w).alloc _).below hb1)
  have y1 := cell_at HB1.out 1
  have f1 := free_at HB1.out 1
  clear hb1 z1
  go_wp2_with fail
  have HW : Hid ((w1.setCell ⟨w.heap.size, 1, none⟩ (.string (bs s))).heap[w.heap.size]? = some (.cells #[.int .i64 k, .string (bs s), .int .i64 n] 82 (0, 0))) := Lib.hid (by rw [set_at HB1.out]; rfl)
  have HG2 : Hid (Rd (w1.setCell ⟨w.heap.size, 1, none⟩ (.string (bs s))) lo g l ws v) := Lib.hid (HG1.out.keep fun q hq => Below.heap_setCell w1 _ _ q (fun e => by have := (HH.out.lt q hq).2; dsimp at e; omega))
  have HT2 : Hid (Turn (mine g v) w (w1.setCell ⟨w.heap.size, 1, none⟩ (.string (bs s)))) := Lib.hid (HT1.out.setCell (.inr (Nat.le_refl _)) _)
  clear HB1 HG1 HT1 y1 f1
  generalize (w1.setCell ⟨w.heap.size, 1, none⟩ (.string (bs s))) = w2 at *
  have HD : Hid (Rd w2.drew lo g l ws v) := Lib.hid (HG2.out.keep fun _ _ => rfl)
  have HTD : Hid (Turn (mine g v) w w2.drew) := Lib.hid HT2.out.drew
  have HS : Hid (InG w2.drew g w.heap.size l v ⟨k, s, n⟩) := Lib.hid ⟨HD.out.at_, HW.out⟩
  have HGB : Hid (g < w.heap.size) := Lib.hid (HH.out.lt g (by simp [mine])).2
  clear HG2 HT2 HW HG HB
  refine AtS.start (by kernel_rfl) 10 (fun u => InG u g w.heap.size l v ⟨k, s, n⟩) (by kernel_rfl) (by kernel_rfl) ?_
  generalize w2.drew = u0 at *
  refine at_take 0 8 (.pointer (some ⟨g, 0, none⟩)) rfl rfl (by kernel_rfl) (by decide) (by decide) (fun _ _ _ h => h) rfl (HS.out) (fun w' hw' => ?_) ?_
  · exact rfl
  go_frame
  refine at_take 1 9 (.pointer (some ⟨g, 0, none⟩)) rfl rfl (by kernel_rfl) (by decide) (by decide) (fun _ _ _ h => h) rfl (HS.out) (fun w' hw' => ?_) ?_
  · exact rfl
  go_frame
  refine at_take 2 10 (.pointer (some ⟨g, 0, none⟩)) rfl rfl (by kernel_rfl) (by decide) (by decide) (fun _ _ _ h => h) rfl (HS.out) (fun w' hw' => ?_) ?_
  · go_simp
  go_frame
  refine at_take 3 11 (.pointer (some ⟨g, 1, none⟩)) rfl rfl (by kernel_rfl) (by decide) (by decide) (fun _ _ _ h => h) rfl (HS.out) (fun w' hw' => ?_) ?_
  · go_simp
  go_frame
  refine at_take 4 12 (v) rfl rfl (by kernel_rfl) (by decide) (by decide) (fun _ _ _ h => h) rfl (HS.out) (fun w' hw' => ?_) ?_
  · have h1 := cell_at hw'.1 1
    go_simp
  go_frame
  refine at_take 5 13 (.agg #[.int .i64 k, .string (bs s), .int .i64 n]) rfl rfl (by kernel_rfl) (by decide) (by decide) (fun _ _ _ h => h) rfl (HS.out) (fun w' hw' => ?_) ?_
  · have h0 := cell_at hw'.2 0
    have h1 := cell_at hw'.2 1
    have h2 := cell_at hw'.2 2
    go_simp
  go_frame
  have HA : Hid (Below u0.heap.size u0 (u0.alloc (.cells #[.int .i64 k, .string (bs s), .int .i64 n] 82))) := Lib.hid ((Below.refl _ u0).alloc (Nat.le_refl _) _)
  have HU : Hid (w.heap.size < u0.heap.size) := Lib.hid (lt_of_heap HS.out.2)
  have HS1 : Hid (InG (u0.alloc (.cells #[.int .i64 k, .string (bs s), .int .i64 n] 82)) g w.heap.size l v ⟨k, s, n⟩) := Lib.hid ⟨(HA.out.block _ (lt_of_heap HS.out.1)).trans HS.out.1, (HA.out.block _ HU.out).trans HS.out.2⟩
  refine at_run 6 14 (.slice (some ⟨u0.heap.size, 0, none⟩) 1 1) (u0.alloc (.cells #[.int .i64 k, .string (bs s), .int .i64 n] 82)) rfl rfl (by kernel_rfl) (by decide) rfl ?_ ?_ ?_
  · go_simp
  · exact HS1.out
  go_frame
  have HN := Lib.hid (heap_alloc_new u0 (.cells #[.int .i64 k, .string (bs s), .int .i64 n] 82 (0, 0)))
  have HD1 : Hid (Rd (u0.alloc (.cells #[.int .i64 k, .string (bs s), .int .i64 n] 82)) lo g l ws v) := Lib.hid (HD.out.below HA.out)
  have HT1 : Hid (Turn (mine g v) w (u0.alloc (.cells #[.int .i64 k, .string (bs s), .int .i64 n] 82))) := Lib.hid (HTD.out.below HA.out)
  have HL1 : Hid (lo ≤ (u0.alloc (.cells #[.int .i64 k, .string (bs s), .int .i64 n] 82)).heap.size) := Lib.hid (by have := HA.out.size; have := HU.out; have := HLO.out; omega)
  clear HA HS HD HTD
  generalize (u0.alloc (.cells #[.int .i64 k, .string (bs s), .int .i64 n] 82)) = u1 at *
  obtain ⟨v2, u2, hap, how, hgr, hbo⟩ := app_word u1 lo v ws ⟨k, s, n⟩ u0.heap.size HD1.out.own HN.out HL.out HL1.out
  obtain ⟨A2, n2, c2, rfl⟩ : ∃ A m c, v2 = .slice A m c := by obtain ⟨A, c, e⟩ := how.form; exact ⟨A, _, c, e⟩
  have HAP := Lib.hid hap
  have HR2 : Hid (u2.heap[g]? = some (.cells #[.string (bs l), v] 79 (0, 0)) ∧ OwnW u2 lo (.slice A2 n2 c2) (ws ++ [⟨k, s, n⟩]) ∧ (Value.slice A2 n2 c2).ownBlock ≠ some g ∧ Turn (mine g v) w u2 ∧ ∀ q ∈ mine g (.slice A2 n2 c2), q ∈ mine g v ∨ w.heap.size ≤ q) := Lib.hid (by
    have hsz : w.heap.size ≤ u1.heap.size := HT1.out.size
    refine ⟨(hgr.block g (lt_of_heap HD1.out.at_) (fun e => HD1.out.ne e.symm)).trans HD1.out.at_, how, ?_, HT1.out.grown hgr (fun q hq => .inl (by simp [mine, hq])), fun q hq => ?_⟩
    · rcases hbo with e | e
      · rw [e]; exact HD1.out.ne
      · rw [e]; intro e2; injection e2 with e2; have := HGB.out; omega
    · rcases List.mem_cons.1 hq with rfl | hq
      · exact .inl (by simp [mine])
      · have hq : (Value.slice A2 n2 c2).ownBlock = some q := by simpa using hq
        rcases hbo with e | e
        · exact .inl (by rw [e] at hq; simp [mine, hq])
        · rw [e] at hq; injection hq with hq; exact .inr (by omega))
  have HS2 : Hid (InG u2 g w.heap.size l v ⟨k, s, n⟩) := Lib.hid ⟨HR2.out.1, (hgr.block _ (by have := HU.out; have := lt_of_heap HS1.out.2; omega) (fun e => by have := (HH.out.own.lt _ e.symm).2; omega)).trans HS1.out.2⟩
  clear hap how hgr hbo
  refine at_app 7 15 (.slice A2 n2 c2) u2 rfl rfl (by kernel_rfl) (by decide) rfl (.tmp 12) (.tmp 14) rfl v (.slice (some ⟨u0.heap.size, 0, none⟩) 1 1) rfl rfl HAP.out HS2.out ?_
  go_frame
  clear HS1 HD1 HT1 HL1 HN HAP
  have HS := HS2
  refine at_take 8 16 (.pointer (some ⟨g, 0, none⟩)) rfl rfl (by kernel_rfl) (by decide) (by decide) (fun _ _ _ h => h) rfl (HS.out) (fun w' hw' => ?_) ?_
  · go_simp
  go_frame
  refine at_take 9 17 (.pointer (some ⟨g, 1, none⟩)) rfl rfl (by kernel_rfl) (by decide) (by decide) (fun _ _ _ h => h) rfl (HS.out) (fun w' hw' => ?_) ?_
  · go_simp
  go_frame
  have z0 := cell_at HR2.out.1 1
  have f0 := free_at HR2.out.1 1
  refine AtS.last (i := 10) (w' := u2.setCell ⟨g, 1, none⟩ (.slice A2 n2 c2)) rfl (by kernel_rfl) (by kernel_rfl) (by decide) rfl ?_ ?_
  · go_simp
  go_frame
  clear z0 f0
  go_wp2_with fail
  go_end0
  have hno : ∀ q, (Value.slice A2 n2 c2).ownBlock = some q → q ≠ g := fun q hq e => HR2.out.2.2.1 (by rw [hq, e])
  exact ⟨rfl, .slice A2 n2 c2, ⟨set_one HR2.out.1 _, HH.out.low, HR2.out.2.1.keep fun q hq => Below.heap_setCell u2 _ _ q (hno q hq), HR2.out.2.2.1⟩, HR2.out.2.2.2.1.setCell (.inl (by simp [mine])) _, HR2.out.2.2.2.2⟩
end Go.Proofs.YtmihlmlojmdhjaaGreatDoor.Lex
/- Keys, what may end a statement, names; what stands before the first quote. No condition but the texts' sizes. -/
namespace Go.Proofs.YtmihlmlojmdhjaaGreatDoor.Lex
open Go.RowKit
open Num (EndsW)
set_option maxRecDepth 100000
theorem bs_toList (l : List UInt8) : (bs l).toList = l := ByteArray.toList_mk l
set_option maxHeartbeats 4000000 in
theorem key_any (s : List UInt8) (w : World) : Calls Tryz.prog 76 #[.string (bs s)] w (EndsW (.bool (keyB s)) w) := by
  obtain ⟨S, hS, hk⟩ : ∃ S : ByteArray, S = bs s ∧ keyB s = keysL.contains S.toList := ⟨_, rfl, by rw [bs_toList]; rfl⟩
  rw [hk, ← hS]
  clear hk hS
  go_enter Tryz.func76, Tryz.ntmps76
  go_wp2
  all_goals go_ret
  all_goals exact ends_bool (by simp_all [keysL])
set_option maxHeartbeats 4000000 in
/-- A word in memory of its own. -/
theorem may_any (x : Wd) (w : World) : Calls Tryz.prog 74 #[wdV x] w (EndsB (.bool (mayB x)) w) := by
  obtain ⟨k, s, n⟩ := x
  unfold wdV
  dsimp only
  have hb := Lib.hid ((Below.refl _ w).alloc (Nat.le_refl _) (.cells #[.int .i64 k, .string (bs s), .int .i64 n] 82))
  have hz := heap_alloc_new w (.cells #[.int .i64 k, .string (bs s), .int .i64 n] 82 (0, 0))
  have z0 := cell_at hz 0
  have z1 := cell_at hz 1
  clear hz
  by_cases h1 : k = 1
  · subst h1
    go_enter Tryz.func74, Tryz.ntmps74
    go_wp2
    go_ret
    exact ⟨rfl, hb.out⟩
  by_cases h2 : k = 2
  · subst h2
    go_enter Tryz.func74, Tryz.ntmps74
    go_wp2
    go_ret
    exact ⟨rfl, hb.out⟩
  by_cases h3 : k = 3
  · subst h3
    go_enter Tryz.func74, Tryz.ntmps74
    go_wp2
    go_ret
    exact ⟨rfl, hb.out⟩
  have HM := Lib.hid (show mayB ⟨k, s, n⟩ = endsL.contains (bs s).toList by rw [bs_toList]; simp [mayB, h1, h2, h3])
  have g1 : (k == 1) = false := by simpa using h1
  have g2 : (k == 2) = false := by simpa using h2
  have g3 : (k == 3) = false := by simpa using h3
  clear h1 h2 h3
  go_enter Tryz.func74, Tryz.ntmps74
  generalize bs s = S at *
  go_wp2
  all_goals go_ret
  all_goals exact ⟨by show Ending.returned (Value.bool _) = Ending.returned (Value.bool _); rw [HM.out]; clear HM z0 z1 hb g1 g2 g3; congr 2; simp_all [endsL], hb.out⟩
end Go.Proofs.YtmihlmlojmdhjaaGreatDoor.Lex
/- Names; what stands before the first quote; whether a text begins with a great letter. No condition but the texts' sizes. -/
namespace Go.Proofs.YtmihlmlojmdhjaaGreatDoor.Lex
open Go.RowKit
open Num (EndsW)
set_option maxRecDepth 100000
theorem key_at (S : ByteArray) (w : World) : Calls Tryz.prog 76 #[.string S] w (EndsW (.bool (keyB S.data.toList)) w) := by
  have := key_any S.data.toList w
  rwa [bs_of] at this
theorem toList_data (S : ByteArray) : S.toList = S.data.toList := ByteArray.toList_eq S
theorem empty_of (S : ByteArray) (h : S.size = 0) : S = ⟨#[]⟩ := by
  apply ByteArray.ext
  exact Array.eq_empty_of_size_eq_zero h
theorem not_empty (S : ByteArray) (h : 0 < S.size) : (S.toList == []) = false := by
  rw [toList_data]
  have := len_bytes S
  cases h2 : S.data.toList with
  | nil => rw [h2] at this; simp at this; omega
  | cons c r => rfl
theorem rowN_all (p : UInt8 → Bool) (l : List UInt8) : decide (rowN p l = l.length) = l.all p := by
  unfold rowN
  induction l with
  | nil => simp
  | cons c r ih =>
    rw [List.takeWhile_cons, List.all_cons]
    cases p c
    · simp
    · simp only [if_true, List.length_cons, Bool.true_and]
      rw [← ih, decide_eq_decide]; omega
theorem cons_of (S : ByteArray) (h : 0 < S.size) : ∃ r, S.data.toList = S[0] :: r := by
  have hl := len_bytes S
  cases h2 : S.data.toList with
  | nil => rw [h2] at hl; simp at hl; omega
  | cons c r =>
    refine ⟨r, ?_⟩
    have : S.data.toList[0]'(by omega) = S[0] := rfl
    rw [← this]
    simp [h2]
theorem quiet_b {v : Value} {w : World} {e : Ending} {w' : World} (h : EndsW v w e w') : EndsB v w e w' := by
  obtain ⟨h1, rfl⟩ := h
  exact ⟨h1, Below.refl _ _⟩
theorem endsb_bool {a b : Bool} {w w' : World} (h : a = b) (hb : Below w.heap.size w w') : EndsB (.bool b) w (.returned (.bool a)) w' := by subst h; exact ⟨rfl, hb⟩
theorem wrap_byte (c : UInt8) : wrap32 (c.toNat : Int) = (c.toNat : Int) := by
  have := c.toNat_lt
  unfold wrap32; omega
set_option maxHeartbeats 2000000 in
theorem name_any (S : ByteArray) (w : World) (hs : S.size ≤ maxLen) : Calls Tryz.prog 59 #[.string S] w (EndsB (.bool (nameOk S.data.toList)) w) := by
  have HS := Lib.hid hs
  have hl := len_bytes S
  unfold maxLen at hs
  by_cases h0 : S.size = 0
  · obtain rfl := empty_of S h0
    clear h0 hl
    go_enter Tryz.func59, Tryz.ntmps59
    go_wp2
    go_ret
    exact ⟨rfl, Below.refl _ _⟩
  have h00 : 0 < S.size := by omega
  clear h0
  have e1 := not_empty S h00
  have e2 : (!S.toList.isEmpty) = true := by
    cases h : S.toList with
    | nil => rw [h] at e1; simp at e1
    | cons c r => rfl
  have HN : Hid (decide (S.data.toList = []) = false) := Lib.hid (by
    obtain ⟨r, hr⟩ := cons_of S h00
    rw [hr]; rfl)
  have HC := Lib.hid (cons_of S h00)
  by_cases h1 : 16 < S.size
  · have h1'' : decide ((16 : Int) < (S.size : Int)) = true := by simp; omega
    have H := Lib.hid (show nameOk S.data.toList = false by unfold nameOk; rw [show decide (16 < S.data.toList.length) = true by rw [hl]; simpa using h1]; simp)
    clear hl HC
    go_enter Tryz.func59, Tryz.ntmps59
    go_wp2
    go_ret
    exact endsb_bool H.out.symm (Below.refl _ _)
  have h1' : S.size ≤ 16 := by omega
  have h1'' : decide ((16 : Int) < (S.size : Int)) = false := by simp; omega
  rcases Bool.eq_false_or_eq_true (keyB S.data.toList) with hk | hk
  · have H := Lib.hid (show nameOk S.data.toList = false by unfold nameOk; rw [hk]; simp)
    have CK := Lib.hid (show Calls Tryz.prog 76 #[.string S] w (EndsW (.bool true) w) by have := key_at S w; rwa [hk] at this)
    clear hk hl HC
    go_enter Tryz.func59, Tryz.ntmps59
    go_wp2_with (go_at_call 76; refine CK.out.mono ?_; rintro e w' ⟨rfl, rfl⟩)
    go_ret
    exact endsb_bool H.out.symm (Below.refl _ _)
  have CK := Lib.hid (show Calls Tryz.prog 76 #[.string S] w (EndsW (.bool false) w) by have := key_at S w; rwa [hk] at this)
  rcases Bool.eq_false_or_eq_true (dig (S[0]'h00)) with hd | hd
  · have H := Lib.hid (show nameOk S.data.toList = false by
      obtain ⟨r, hr⟩ := HC.out
      unfold nameOk; rw [hr]; simp [hd])
    have CD := Lib.hid (show Calls Tryz.prog 68 #[.int .i32 (wrap32 ((S[0]'h00).toNat : Int))] w (EndsW (.bool true) w) by rw [wrap_byte]; have := digit_any ((S[0]'h00).toNat : Int) w; rwa [digI_nat, hd] at this)
    clear hk hd hl HC
    go_enter Tryz.func59, Tryz.ntmps59
    go_wp2_with (first | (go_at_call 76; refine CK.out.mono ?_; rintro e w' ⟨rfl, rfl⟩) | (go_at_call 68; refine CD.out.mono ?_; rintro e w' ⟨rfl, rfl⟩))
    go_ret
    exact endsb_bool H.out.symm (Below.refl _ _)
  have CD := Lib.hid (show Calls Tryz.prog 68 #[.int .i32 (wrap32 ((S[0]'h00).toNat : Int))] w (EndsW (.bool false) w) by rw [wrap_byte]; have := digit_any ((S[0]'h00).toNat : Int) w; rwa [digI_nat, hd] at this)
  have HA : Hid (nameOk S.data.toList = decide (rowN nameB S.data.toList = S.size)) := Lib.hid (by
    rw [← hl, rowN_all]
    have hh : decide (16 < S.data.toList.length) = false := by simp; omega
    obtain ⟨r, hr⟩ := HC.out
    unfold nameOk
    rw [HN.out, hh, hk]
    rw [hr]
    simp [hd])
  have CR := Lib.hid (row_name S w HS.out)
  clear hk hd hl HC HN h1
  go_enter Tryz.func59, Tryz.ntmps59
  generalize rowN nameB S.data.toList = m at *
  go_wp2_with (first | (go_at_call 76; refine CK.out.mono ?_; rintro e w' ⟨rfl, rfl⟩) | (go_at_call 68; refine CD.out.mono ?_; rintro e w' ⟨rfl, rfl⟩) | (go_at_call 66; refine CR.out.mono ?_; rintro e w1 ⟨rfl, hb⟩))
  all_goals go_ret
  all_goals exact endsb_bool (by rw [HA.out, Bool.eq_iff_iff]; simp; omega) (by assumption)
end Go.Proofs.YtmihlmlojmdhjaaGreatDoor.Lex
/- strings.Cut at a separator of one byte. No condition. -/
namespace Go.Proofs.YtmihlmlojmdhjaaGreatDoor.Lex
open Go.RowKit
open Num (EndsW)
set_option maxRecDepth 100000
def cutN (c : UInt8) (l : List UInt8) : Nat := (l.takeWhile fun x => x != c).length
theorem index_yes (c : UInt8) : ∀ l : List UInt8, cutN c l < l.length → Lib.indexByte l c = (cutN c l : Int)
  | [], h => by simp at h
  | x :: r, h => by
    by_cases e : x = c
    · subst e
      simp [cutN, Lib.indexByte]
    · have e1 : (x != c) = true := by simpa using e
      have e2 : (x == c) = false := by simpa using e
      have e3 : cutN c (x :: r) = cutN c r + 1 := by unfold cutN; rw [List.takeWhile_cons, if_pos e1]; simp
      rw [e3] at h
      have ih := index_yes c r (by simpa using h)
      unfold Lib.indexByte
      rw [e2, ih, e3]
      simp
theorem index_no (c : UInt8) : ∀ l : List UInt8, cutN c l = l.length → Lib.indexByte l c = -1
  | [], _ => rfl
  | x :: r, h => by
    by_cases e : x = c
    · subst e
      simp [cutN] at h
    · have e1 : (x != c) = true := by simpa using e
      have e2 : (x == c) = false := by simpa using e
      have e3 : cutN c (x :: r) = cutN c r + 1 := by unfold cutN; rw [List.takeWhile_cons, if_pos e1]; simp
      rw [e3] at h
      have ih := index_no c r (by simpa using h)
      unfold Lib.indexByte
      rw [e2, ih]
      simp
theorem below_drewN (w : World) (n : Nat) : Below w.heap.size w (w.drewN n) := ⟨rfl, rfl, rfl, Nat.le_refl _, fun _ _ => rfl⟩
theorem cutN_le (c : UInt8) (l : List UInt8) : cutN c l ≤ l.length := (List.takeWhile_sublist _).length_le
theorem take_cutN (c : UInt8) (l : List UInt8) : l.take (cutN c l) = l.takeWhile fun x => x != c := take_rowN _ l
def tri (a b : List UInt8) (ok : Bool) : Value := .tuple #[str a, str b, .bool ok]
set_option maxHeartbeats 1000000 in
theorem lcut_yes (l : List UInt8) (c : UInt8) (w : World) (hl : l.length ≤ 1000000) (h : cutN c l < l.length) :
    Calls Tryz.prog 128 #[.string (bs l), .string ⟨#[c]⟩] w (EndsB (tri (l.take (cutN c l)) (l.drop (cutN c l + 1)) true) w) := by
  have CI := Lib.hid (show Calls Tryz.prog 139 #[.string (bs l), .string ⟨#[c]⟩] w (EndsW (.int .i64 (cutN c l : Int)) w) by
    refine (Tryz.stringslite_Index_one (bs l) c w).mono ?_
    rintro e w' ⟨rfl, rfl⟩
    exact ⟨by rw [bs_data, index_yes c l h], rfl⟩)
  have HE1 := Lib.hid (extract_bs l 0 (cutN c l))
  have HE2 := Lib.hid (extract_bs l (cutN c l + 1) l.length)
  have hn1 : cutN c l + 1 ≤ (bs l).size := by rw [bs_size]; omega
  have hl2 : (bs l).size ≤ 1000000 := hl
  clear h hl
  generalize cutN c l = n at *
  have HW := Lib.hid (show IntKind.i64.wrap ((n : Int) + 1) = (n : Int) + 1 by exact IntWalk.i64_in _ (by omega))
  go_enter Tryz.func128, Tryz.ntmps128
  go_wp2_with (go_at_call 139; refine CI.out.mono ?_; rintro e w' ⟨rfl, rfl⟩)
  go_quiet (fail)
  go_wp2
  go_ret3
  refine ⟨?_, below_drewN w nq⟩
  show Ending.returned (Value.tuple #[Value.string ((bs l).extract 0 n), Value.string ((bs l).extract (n + 1) (bs l).size), Value.bool true]) = _
  rw [HE1.out, bs_size, HE2.out, List.drop_zero, Nat.sub_zero, List.take_of_length_le (l := List.drop (n + 1) l) (by simp)]
  rfl
set_option maxHeartbeats 1000000 in
theorem lcut_no (l : List UInt8) (c : UInt8) (w : World) (h : cutN c l = l.length) :
    Calls Tryz.prog 128 #[.string (bs l), .string ⟨#[c]⟩] w (EndsB (tri l [] false) w) := by
  have CI := Lib.hid (show Calls Tryz.prog 139 #[.string (bs l), .string ⟨#[c]⟩] w (EndsW (.int .i64 (-1)) w) by
    refine (Tryz.stringslite_Index_one (bs l) c w).mono ?_
    rintro e w' ⟨rfl, rfl⟩
    exact ⟨by rw [bs_data, index_no c l h], rfl⟩)
  clear h
  go_enter Tryz.func128, Tryz.ntmps128
  go_wp2_with (go_at_call 139; refine CI.out.mono ?_; rintro e w' ⟨rfl, rfl⟩)
  go_ret3
  exact ⟨rfl, Below.refl _ _⟩
theorem cut_yes (l : List UInt8) (c : UInt8) (w : World) (hl : l.length ≤ 1000000) (h : cutN c l < l.length) :
    Calls Tryz.prog 109 #[.string (bs l), .string ⟨#[c]⟩] w (EndsB (tri (l.take (cutN c l)) (l.drop (cutN c l + 1)) true) w) := by
  have C := Lib.hid (lcut_yes l c w hl h)
  unfold tri str at *
  clear h hl
  go_enter Tryz.func109, Tryz.ntmps109
  go_wp2_with (go_at_call 128; refine C.out.mono ?_; rintro e w' ⟨rfl, hb⟩)
  go_ret3
  exact ⟨rfl, hb⟩
theorem cut_no (l : List UInt8) (c : UInt8) (w : World) (h : cutN c l = l.length) :
    Calls Tryz.prog 109 #[.string (bs l), .string ⟨#[c]⟩] w (EndsB (tri l [] false) w) := by
  have C := Lib.hid (lcut_no l c w h)
  unfold tri str at *
  clear h
  go_enter Tryz.func109, Tryz.ntmps109
  go_wp2_with (go_at_call 128; refine C.out.mono ?_; rintro e w' ⟨rfl, hb⟩)
  go_ret3
  exact ⟨rfl, hb⟩
end Go.Proofs.YtmihlmlojmdhjaaGreatDoor.Lex
/- The reader's endLine: a sign ; behind the last word, if that may end a statement. Conditions: sizes. -/
namespace Go.Proofs.YtmihlmlojmdhjaaGreatDoor.Lex
open Go.RowKit
open Num (EndsW)
set_option maxRecDepth 100000
theorem Step.same {w w' : World} {lo g : Nat} {v : Value} {l : List UInt8} {ws : List Wd} (h : Rd w lo g l ws v) (hb : Below w.heap.size w w') (r : Value) : Step w lo g v r l ws (.returned r) w' :=
  ⟨rfl, v, h.below hb, (Turn.refl _ w).below hb, fun _ hk => .inl hk⟩
theorem endLn_nil : endLn [] = [] := rfl
theorem endLn_yes {ws : List Wd} {x : Wd} (h : ws.getLast? = some x) (hm : mayB x = true) : endLn ws = ws ++ [semi] := by unfold endLn; rw [h]; simp [hm]
theorem endLn_no {ws : List Wd} {x : Wd} (h : ws.getLast? = some x) (hm : mayB x = false) : endLn ws = ws := by unfold endLn; rw [h]; simp [hm]
set_option maxHeartbeats 2000000 in
theorem end_any (w : World) (lo g : Nat) (l : List UInt8) (ws : List Wd) (v : Value) (h : Rd w lo g l ws v) (hl : ws.length ≤ 100000) (hlo : lo ≤ w.heap.size) :
    Calls Tryz.prog 33 #[.pointer (some ⟨g, 0, none⟩)] w (Step w lo g v (.tuple #[]) l (endLn ws)) := by
  have HH := Lib.hid h
  have HLO := Lib.hid hlo
  have c1 := cell_at h.at_ 1
  rcases List.eq_nil_or_concat ws with rfl | ⟨r, x, rfl⟩
  · obtain ⟨A, c, rfl⟩ := h.own.form
    clear h hl hlo
    rw [endLn_nil]
    go_enter Tryz.func33, Tryz.ntmps33
    go_wp2
    go_end0
    exact Step.same HH.out (Below.refl _ _) _
  · obtain ⟨b, cap, rfl, hlob, hbw⟩ := World.ownsRow.form h.own (by simp)
    have hc := h.own.wds (by simp)
    obtain ⟨b', o, e, _, hc⟩ := hc
    injection e with e
    injection e with e1 e2
    subst e1; subst e2
    obtain ⟨g0, g1, g2⟩ := hc r.length x (by simp)
    obtain ⟨k, s, n⟩ := x
    simp only [Nat.zero_add] at g0 g1 g2
    have HL : Hid ((r ++ [(⟨k, s, n⟩ : Wd)]).getLast? = some ⟨k, s, n⟩) := Lib.hid (by simp)
    have hlen : (r ++ [(⟨k, s, n⟩ : Wd)]).length = r.length + 1 := by simp
    have hl' : r.length + 1 ≤ 100000 := by simpa using hl
    have HR : Hid ((r ++ [(⟨k, s, n⟩ : Wd)]).length ≤ 1000000) := Lib.hid (by omega)
    have HB : Hid (r.length ≤ 100000) := Lib.hid (by omega)
    rw [List.concat_eq_append] at *
    rw [hlen] at HH c1
    clear h hl hl' hlo hlob hbw hc hlen
    have hr := HB.out
    clear HB
    generalize r.length = m at *
    generalize hb' : bs s = S at *
    have HBS := Lib.hid hb'
    clear hb'
    rcases Bool.eq_false_or_eq_true (mayB ⟨k, s, n⟩) with hm | hm
    · have CM := fun w' => Lib.hid (show Calls Tryz.prog 74 #[.agg #[.int .i64 k, .string S, .int .i64 n]] w' (EndsB (.bool true) w') by have := may_any ⟨k, s, n⟩ w'; rw [hm] at this; unfold wdV at this; rw [HBS.out] at this; exact this)
      rw [endLn_yes HL.out hm]
      clear hm HL
      go_enter Tryz.func33, Tryz.ntmps33
      go_wp2_with fail
      refine (CM _).out.mono ?_
      rintro e w1 ⟨rfl, hb1⟩
      have HG := Lib.hid (HH.out.below hb1)
      have HT := Lib.hid ((Turn.refl (mine g (.slice (some ⟨b, 0, none⟩) (m + 1) cap)) w).below hb1)
      have HL1 : Hid (lo ≤ w1.heap.size) := Lib.hid (Nat.le_trans HLO.out hb1.size)
      clear hb1 c1 g0 g1 g2
      have CA := Lib.hid (add_any w1 lo g l _ _ semi HG.out (by decide) HR.out HL1.out)
      go_wp2_with fail
      refine CA.out.mono ?_
      intro e w2 hs
      obtain ⟨rfl, v2, hs⟩ := Step.then_ HT.out (fun _ hk => .inl hk) hs
      have HS := Lib.hid hs
      clear hs
      go_wp2_with fail
      go_end0
      exact ⟨rfl, v2, HS.out⟩
    · have CM := fun w' => Lib.hid (show Calls Tryz.prog 74 #[.agg #[.int .i64 k, .string S, .int .i64 n]] w' (EndsB (.bool false) w') by have := may_any ⟨k, s, n⟩ w'; rw [hm] at this; unfold wdV at this; rw [HBS.out] at this; exact this)
      rw [endLn_no HL.out hm]
      clear hm HL
      go_enter Tryz.func33, Tryz.ntmps33
      go_wp2_with fail
      refine (CM _).out.mono ?_
      rintro e w1 ⟨rfl, hb1⟩
      have HS : Hid (Step w lo g (.slice (some ⟨b, 0, none⟩) (m + 1) cap) (.tuple #[]) l (r ++ [⟨k, s, n⟩]) (.returned (.tuple #[])) w1) := Lib.hid (Step.same HH.out hb1 _)
      clear hb1 c1 g0 g1 g2
      go_wp2_with fail
      go_end0
      exact HS.out
end Go.Proofs.YtmihlmlojmdhjaaGreatDoor.Lex
/- The reader's number, name and text. Conditions: sizes. -/
namespace Go.Proofs.YtmihlmlojmdhjaaGreatDoor.Lex
open Go.RowKit
open Num (EndsW)
set_option maxRecDepth 100000
def Told (w : World) (lo g : Nat) (v : Value) (s : St) : Ending → World → Prop := Step w lo g v (.int .i64 s.e) s.l s.ws
theorem num_read (s : List UInt8) (w : World) (h : s.length ≤ 1000000) : Calls Tryz.prog 107 #[.string (bs s)] w (EndsW (.tuple #[.int .i64 (Num.readV s).1, .bool (Num.readV s).2]) w) := Num.read_any (bs s) w (by rw [bs_size]; unfold maxLen; omega)
theorem numS_ok {l : List UInt8} {ws : List Wd} {n : Int} (h : Num.readV (l.take (rowN dig l)) = (n, true)) : numS l ws = ⟨0, l.drop (rowN dig l), ws ++ [⟨2, [], n⟩]⟩ := by simp only [numS, h]; rfl
theorem numS_zero {l : List UInt8} {ws : List Wd} {n : Int} (h : Num.readV (l.take (rowN dig l)) = (n, false)) (hz : l.head? = some 48) : numS l ws = ⟨7, l.drop (rowN dig l), ws⟩ := by simp only [numS, h]; simp [hz]
theorem numS_big {l : List UInt8} {ws : List Wd} {n : Int} (h : Num.readV (l.take (rowN dig l)) = (n, false)) (hz : l.head? ≠ some 48) : numS l ws = ⟨11, l.drop (rowN dig l), ws⟩ := by simp only [numS, h]; simp [hz]
set_option maxHeartbeats 4000000 in
theorem number_any (w : World) (lo g : Nat) (c : UInt8) (r : List UInt8) (ws : List Wd) (v : Value) (h : Rd w lo g (c :: r) ws v) (hc : dig c = true) (hl : (c :: r).length ≤ 100000) (hw : ws.length ≤ 100000) (hlo : lo ≤ w.heap.size) :
    Calls Tryz.prog 69 #[.pointer (some ⟨g, 0, none⟩)] w (Told w lo g v (numS (c :: r) ws)) := by
  have HH := Lib.hid h
  have c0 := cell_at h.at_ 0
  have HLE := Lib.hid (rowN_le dig (c :: r))
  have HPO := Lib.hid (rowN_pos (r := r) hc)
  have HLL := Lib.hid hl
  have HW := Lib.hid hw
  have HLO := Lib.hid hlo
  have CR := Lib.hid (row_dig (bs (c :: r)) w (by rw [bs_size]; unfold maxLen; omega))
  rw [bs_data] at CR
  have HD : Hid (∃ q, (c :: r).take (rowN dig (c :: r)) = c :: q) := Lib.hid (by
    obtain ⟨m, hm⟩ : ∃ m, rowN dig (c :: r) = m + 1 := ⟨rowN dig (c :: r) - 1, by have := HPO.out; omega⟩
    rw [hm]; exact ⟨_, rfl⟩)
  have HTL : Hid (((c :: r).take (rowN dig (c :: r))).length ≤ 1000000) := Lib.hid (by rw [List.length_take]; have := HLE.out; omega)
  obtain ⟨n, ok, hr⟩ : ∃ n ok, Num.readV ((c :: r).take (rowN dig (c :: r))) = (n, ok) := ⟨_, _, rfl⟩
  have CN := fun w' => Lib.hid (num_read ((c :: r).take (rowN dig (c :: r))) w' HTL.out)
  rw [hr] at CN
  have HR := Lib.hid hr
  have H48 : (c.toNat = 48) ↔ (c :: r).head? = some 48 := by
    simp only [List.head?_cons, Option.some.injEq]
    exact ⟨fun h => UInt8.toNat_inj.1 h, fun h => by rw [h]; rfl⟩
  clear h hl hw hlo hr hc
  cases ok with
  | true =>
    rw [numS_ok HR.out]
    clear H48
    go_enter Tryz.func69, Tryz.ntmps69
    go_wp2_with fail
    refine CR.out.mono ?_
    rintro e w1 ⟨rfl, hb1⟩
    have HG := Lib.hid (HH.out.below hb1)
    have HT := Lib.hid ((Turn.refl (mine g v) w).below hb1)
    have CT := Lib.hid (take_any w1 lo g (rowN dig (c :: r)) (c :: r) ws v HG.out HLE.out (by have := HLL.out; omega))
    clear hb1 c0
    go_wp2_with fail
    refine CT.out.mono ?_
    intro e w2 hs
    obtain ⟨rfl, v2, hs⟩ := Step.then_ HT.out (fun _ hk => .inl hk) hs
    have HS := Lib.hid hs
    unfold str
    clear hs
    go_wp2_with fail
    refine (CN _).out.mono ?_
    rintro e w' ⟨rfl, rfl⟩
    have CA := Lib.hid (add_any w2 lo g _ _ _ ⟨2, [], n⟩ HS.out.1 (Nat.zero_le _) (by have := HW.out; omega) (Nat.le_trans HLO.out HS.out.2.1.size))
    go_wp2_with fail
    refine CA.out.mono ?_
    intro e w3 hs
    obtain ⟨rfl, v3, hs⟩ := Step.then_ HS.out.2.1 HS.out.2.2 hs
    have HS3 := Lib.hid hs
    clear hs
    go_wp2_with fail
    go_ret
    exact ⟨rfl, v3, HS3.out⟩
  | false =>
    obtain ⟨q, hq⟩ := HD.out
    have h0 : 0 < (bs (c :: q)).size := by rw [bs_size]; simp
    have HQ := Lib.hid hq
    have CN2 := fun w' => Lib.hid (show Calls Tryz.prog 107 #[.string (bs (c :: q))] w' (EndsW (.tuple #[.int .i64 n, .bool false]) w') by have := (CN w').out; rwa [HQ.out] at this)
    clear hq CN HD
    by_cases hz : c.toNat = 48
    · have HE := Lib.hid (numS_zero (ws := ws) HR.out (H48.1 hz))
      have hz2 : ((((bs (c :: q))[0]'h0).toNat : Int) == 48) = true := by
        show ((c.toNat : Int) == 48) = true
        simp; omega
      rw [HE.out]
      clear hz H48 HE
      go_enter Tryz.func69, Tryz.ntmps69
      go_wp2_with fail
      refine CR.out.mono ?_
      rintro e w1 ⟨rfl, hb1⟩
      have HG := Lib.hid (HH.out.below hb1)
      have HT := Lib.hid ((Turn.refl (mine g v) w).below hb1)
      have CT := Lib.hid (take_any w1 lo g (rowN dig (c :: r)) (c :: r) ws v HG.out HLE.out (by have := HLL.out; omega))
      clear hb1 c0
      go_wp2_with fail
      refine CT.out.mono ?_
      intro e w2 hs
      rw [HQ.out] at hs
      obtain ⟨rfl, v2, hs⟩ := Step.then_ HT.out (fun _ hk => .inl hk) hs
      have HS := Lib.hid hs
      unfold str
      clear hs
      go_wp2_with fail
      refine (CN2 _).out.mono ?_
      rintro e w' ⟨rfl, rfl⟩
      go_wp2_with fail
      go_ret
      exact ⟨rfl, v2, HS.out⟩
    · have HE := Lib.hid (numS_big (ws := ws) HR.out (fun h => hz (H48.2 h)))
      have hz2 : ((((bs (c :: q))[0]'h0).toNat : Int) == 48) = false := by
        show ((c.toNat : Int) == 48) = false
        simp; omega
      rw [HE.out]
      clear hz H48 HE
      go_enter Tryz.func69, Tryz.ntmps69
      go_wp2_with fail
      refine CR.out.mono ?_
      rintro e w1 ⟨rfl, hb1⟩
      have HG := Lib.hid (HH.out.below hb1)
      have HT := Lib.hid ((Turn.refl (mine g v) w).below hb1)
      have CT := Lib.hid (take_any w1 lo g (rowN dig (c :: r)) (c :: r) ws v HG.out HLE.out (by have := HLL.out; omega))
      clear hb1 c0
      go_wp2_with fail
      refine CT.out.mono ?_
      intro e w2 hs
      rw [HQ.out] at hs
      obtain ⟨rfl, v2, hs⟩ := Step.then_ HT.out (fun _ hk => .inl hk) hs
      have HS := Lib.hid hs
      unfold str
      clear hs
      go_wp2_with fail
      refine (CN2 _).out.mono ?_
      rintro e w' ⟨rfl, rfl⟩
      go_wp2_with fail
      go_ret
      exact ⟨rfl, v2, HS.out⟩
theorem nameS_long {l : List UInt8} {ws : List Wd} (h : 16 < rowN nameB l) : nameS l ws = ⟨11, l.drop (rowN nameB l), ws⟩ := by simp only [nameS, h, if_true]
theorem nameS_key {l : List UInt8} {ws : List Wd} (h : ¬ 16 < rowN nameB l) (hk : keyB (l.take (rowN nameB l)) = true) : nameS l ws = ⟨0, l.drop (rowN nameB l), ws ++ [⟨4, l.take (rowN nameB l), 0⟩]⟩ := by simp only [nameS, h, if_false, hk, if_true]
theorem nameS_name {l : List UInt8} {ws : List Wd} (h : ¬ 16 < rowN nameB l) (hk : keyB (l.take (rowN nameB l)) = false) : nameS l ws = ⟨0, l.drop (rowN nameB l), ws ++ [⟨1, l.take (rowN nameB l), 0⟩]⟩ := by simp [nameS, h, hk]
set_option maxHeartbeats 4000000 in
theorem rname_any (w : World) (lo g : Nat) (l : List UInt8) (ws : List Wd) (v : Value) (h : Rd w lo g l ws v) (hl : l.length ≤ 100000) (hw : ws.length ≤ 100000) (hlo : lo ≤ w.heap.size) :
    Calls Tryz.prog 71 #[.pointer (some ⟨g, 0, none⟩)] w (Told w lo g v (nameS l ws)) := by
  have HH := Lib.hid h
  have c0 := cell_at h.at_ 0
  have HLE := Lib.hid (rowN_le nameB l)
  have HLL := Lib.hid hl
  have HW := Lib.hid hw
  have HLO := Lib.hid hlo
  have CR := Lib.hid (row_name (bs l) w (by rw [bs_size]; unfold maxLen; omega))
  rw [bs_data] at CR
  have HSZ := Lib.hid (show (bs (l.take (rowN nameB l))).size = rowN nameB l by rw [bs_size, List.length_take]; have := HLE.out; omega)
  clear h hl hw hlo
  by_cases h16 : 16 < rowN nameB l
  · have hd : decide ((16 : Int) < ((bs (l.take (rowN nameB l))).size : Int)) = true := by rw [HSZ.out]; simp; omega
    rw [nameS_long h16]
    clear h16
    go_enter Tryz.func71, Tryz.ntmps71
    go_wp2_with fail
    refine CR.out.mono ?_
    rintro e w1 ⟨rfl, hb1⟩
    have HG := Lib.hid (HH.out.below hb1)
    have HT := Lib.hid ((Turn.refl (mine g v) w).below hb1)
    have CT := Lib.hid (take_any w1 lo g (rowN nameB l) l ws v HG.out HLE.out (by have := HLL.out; omega))
    clear hb1 c0
    go_wp2_with fail
    refine CT.out.mono ?_
    intro e w2 hs
    obtain ⟨rfl, v2, hs⟩ := Step.then_ HT.out (fun _ hk => .inl hk) hs
    have HS := Lib.hid hs
    unfold str
    clear hs
    go_wp2_with fail
    go_ret
    exact ⟨rfl, v2, HS.out⟩
  have hd : decide ((16 : Int) < ((bs (l.take (rowN nameB l))).size : Int)) = false := by rw [HSZ.out]; simp; omega
  have CK := fun w' => Lib.hid (key_any (l.take (rowN nameB l)) w')
  have HTL : Hid ((l.take (rowN nameB l)).length ≤ 1000000) := Lib.hid (by rw [List.length_take]; have := HLL.out; omega)
  rcases Bool.eq_false_or_eq_true (keyB (l.take (rowN nameB l))) with hk | hk
  · have CKT := fun w' => Lib.hid (show Calls Tryz.prog 76 #[.string (bs (l.take (rowN nameB l)))] w' (EndsW (.bool true) w') by have := (CK w').out; rwa [hk] at this)
    rw [nameS_key h16 hk]
    clear h16 hk CK
    go_enter Tryz.func71, Tryz.ntmps71
    go_wp2_with fail
    refine CR.out.mono ?_
    rintro e w1 ⟨rfl, hb1⟩
    have HG := Lib.hid (HH.out.below hb1)
    have HT := Lib.hid ((Turn.refl (mine g v) w).below hb1)
    have CT := Lib.hid (take_any w1 lo g (rowN nameB l) l ws v HG.out HLE.out (by have := HLL.out; omega))
    clear hb1 c0
    go_wp2_with fail
    refine CT.out.mono ?_
    intro e w2 hs
    obtain ⟨rfl, v2, hs⟩ := Step.then_ HT.out (fun _ hk => .inl hk) hs
    have HS := Lib.hid hs
    unfold str
    clear hs
    go_wp2_with fail
    refine (CKT _).out.mono ?_
    rintro e w' ⟨rfl, rfl⟩
    have CA := Lib.hid (add_any w2 lo g _ _ _ ⟨4, l.take (rowN nameB l), 0⟩ HS.out.1 HTL.out (by have := HW.out; omega) (Nat.le_trans HLO.out HS.out.2.1.size))
    go_wp2_with fail
    refine CA.out.mono ?_
    intro e w3 hs
    obtain ⟨rfl, v3, hs⟩ := Step.then_ HS.out.2.1 HS.out.2.2 hs
    have HS3 := Lib.hid hs
    clear hs
    go_wp2_with fail
    go_ret
    exact ⟨rfl, v3, HS3.out⟩
  · have CKT := fun w' => Lib.hid (show Calls Tryz.prog 76 #[.string (bs (l.take (rowN nameB l)))] w' (EndsW (.bool false) w') by have := (CK w').out; rwa [hk] at this)
    rw [nameS_name h16 hk]
    clear h16 hk CK
    go_enter Tryz.func71, Tryz.ntmps71
    go_wp2_with fail
    refine CR.out.mono ?_
    rintro e w1 ⟨rfl, hb1⟩
    have HG := Lib.hid (HH.out.below hb1)
    have HT := Lib.hid ((Turn.refl (mine g v) w).below hb1)
    have CT := Lib.hid (take_any w1 lo g (rowN nameB l) l ws v HG.out HLE.out (by have := HLL.out; omega))
    clear hb1 c0
    go_wp2_with fail
    refine CT.out.mono ?_
    intro e w2 hs
    obtain ⟨rfl, v2, hs⟩ := Step.then_ HT.out (fun _ hk => .inl hk) hs
    have HS := Lib.hid hs
    unfold str
    clear hs
    go_wp2_with fail
    refine (CKT _).out.mono ?_
    rintro e w' ⟨rfl, rfl⟩
    have CA := Lib.hid (add_any w2 lo g _ _ _ ⟨1, l.take (rowN nameB l), 0⟩ HS.out.1 HTL.out (by have := HW.out; omega) (Nat.le_trans HLO.out HS.out.2.1.size))
    go_wp2_with fail
    refine CA.out.mono ?_
    intro e w3 hs
    obtain ⟨rfl, v3, hs⟩ := Step.then_ HS.out.2.1 HS.out.2.2 hs
    have HS3 := Lib.hid hs
    clear hs
    go_wp2_with fail
    go_ret
    exact ⟨rfl, v3, HS3.out⟩
theorem textS_no {l : List UInt8} {ws : List Wd} (h : cutQ (l.drop 1) = none) : textS l ws = ⟨7, l, ws⟩ := by simp only [textS, h]
theorem textS_bad {l s : List UInt8} {ws : List Wd} (h : cutQ (l.drop 1) = some s) (ht : textOk s = false) : textS l ws = ⟨7, l, ws⟩ := by simp only [textS, h, ht]; rfl
theorem textS_ok {l s : List UInt8} {ws : List Wd} (h : cutQ (l.drop 1) = some s) (ht : textOk s = true) : textS l ws = ⟨0, l.drop (s.length + 2), ws ++ [⟨3, s, 0⟩]⟩ := by simp only [textS, h, ht]; rfl
theorem quote_eq : (fun c : UInt8 => decide (c.toNat ≠ 34)) = fun c => c != 34 := by
  funext c
  rw [Bool.eq_iff_iff]
  simp only [decide_eq_true_eq, bne_iff_ne, ne_eq]
  exact ⟨fun h e => h (by rw [e]; rfl), fun h e => h (UInt8.toNat_inj.1 e)⟩
theorem cutQ_eq (l : List UInt8) : cutQ l = if cutN 34 l < l.length then some (l.take (cutN 34 l)) else none := by
  unfold cutQ
  rw [quote_eq, take_cutN]
  rfl
end Go.Proofs.YtmihlmlojmdhjaaGreatDoor.Lex
