/-
  The reader's take and add: n bytes off the front; a word behind the others. Conditions: no more bytes than are left; sizes.
-/
import Derived.Test.YtjgkfdhfffbccaaDoorLMem
import Derived.Test.YtjgkfdhfffbccaaDoorLShelf
import Derived.WalkKit
import Derived.BigQuiet
import Derived.Deep.QuietTactic
namespace Go.Proofs.YtjgkfdhfffbccaaDoor.Lex
open Go.RowKit
open Num (EndsW)
set_option maxRecDepth 100000
theorem extract_bs (l : List UInt8) (a b : Nat) : (bs l).extract a b = bs ((l.drop a).take (b - a)) := ByteArray.extract_mk l a b
theorem set_two {w : World} {g : Nat} {a b : Value} {T : TypeId} (h : w.heap[g]? = some (.cells #[a, b] T (0, 0))) (u : Value) : (w.setCell ⟨g, 0, none⟩ u).heap[g]? = some (.cells #[u, b] T (0, 0)) := by
  rw [set_at h]; rfl
theorem set_one {w : World} {g : Nat} {a b : Value} {T : TypeId} (h : w.heap[g]? = some (.cells #[a, b] T (0, 0))) (u : Value) : (w.setCell ⟨g, 1, none⟩ u).heap[g]? = some (.cells #[a, u] T (0, 0)) := by
  rw [set_at h]; rfl
set_option maxHeartbeats 1000000 in
theorem take_any (w : World) (lo g n : Nat) (l : List UInt8) (ws : List Wd) (v : Value) (h : Rd w lo g l ws v) (hn : n ≤ l.length) (hl : l.length ≤ 1000000) :
    Calls Tryd.prog 33 #[.pointer (some ⟨g, 0, none⟩), .int .i64 n] w (Step w lo g v (str (l.take n)) (l.drop n) ws) := by
  have HH := Lib.hid h
  have c0 := cell_at h.at_ 0
  have f0 := free_at h.at_ 0
  have hs : (bs l).size = l.length := rfl
  have HE1 := Lib.hid (extract_bs l 0 n)
  have HE2 := Lib.hid (extract_bs l n l.length)
  have hn2 : n ≤ (bs l).size := hn
  have hl2 : (bs l).size ≤ 1000000 := hl
  have HS := Lib.hid hs
  clear h hn hl hs
  go_enter Tryd.func33, Tryd.ntmps33
  go_wp2
  go_ret
  refine ⟨?_, v, ⟨?_, HH.out.low, ?_, HH.out.ne⟩, ?_, fun k hk => .inl hk⟩
  · show Ending.returned (Value.string ((bs l).extract 0 n)) = _
    rw [HE1.out, List.drop_zero, Nat.sub_zero]; rfl
  · rw [set_two HH.out.at_, HS.out, HE2.out, List.take_of_length_le (by simp)]
  · exact HH.out.own.keep fun k hk => Below.heap_setCell w _ _ k (fun e => HH.out.ne (by rw [hk, e]))
  · exact (Turn.refl _ w).setCell (.inl (by simp [mine])) _
theorem clone_any (s : ByteArray) (w : World) (hlim : s.size ≤ 281474976710656) : Calls Tryd.prog 24 #[.string s] w (EndsB (.string s) w) := by
  have C := Lib.hid (Tryd.stringslite_Clone s w hlim)
  clear hlim
  go_enter Tryd.func24, Tryd.ntmps24
  go_wp2_with (go_at_call 31; refine C.out.mono ?_; rintro e w' ⟨rfl, hb⟩)
  go_ret
  exact ⟨rfl, hb⟩
theorem at_app {ops : Array Oper} {Q : Exit → Act → World → Prop} {md : Region.Mode} {S : World → Prop} {nn fuel : Nat} {listed : Array Bool} {a : Act} {w : World} {oi : Oper} (i d : Nat) (v2 : Value) (w' : World) (hi : ops[i]? = some oi) (hd : oi.dst = some d) (hr : Region.ready md ops listed = [i]) (hin : i < nn) (hw : Region.wanted oi (yielded ops a.tmps) = true) (s x : Operand)
    (ho : oi.op = .call { callee := .builtin .append, args := #[s, x], argTypes := #[28, 28] }) (v u : Value) (hs : a.eval s = v) (hx : a.eval x = u) (hrun : ∀ ty, (Builtin.append_ #[28, 28] ty #[v, u]).run Tryd.prog w = .ok v2 w') (hS : S w')
    (h : AtS Tryd.prog md ops Q S nn fuel (listed.setIfInBounds i true) (a.put (some d) v2) w') : AtS Tryd.prog md ops Q S nn (fuel + 1) listed a w := by
  refine at_run i d v2 w' hi hd hr hin hw ?_ hS h
  unfold execOp
  simp only [ho, resolve, invoke, builtin, Sem.run_bind, Sem.run_pure, Result.andThen_ok, List.map_toArray, List.map_cons, List.map_nil, hs, hx, hrun]
def InG (w : World) (g b : Nat) (l : List UInt8) (v : Value) (x : Wd) : Prop := w.heap[g]? = some (.cells #[.string (bs l), v] 43 (0, 0)) ∧ w.heap[b]? = some (.cells #[.int .i64 x.k, .string (bs x.s), .int .i64 x.n] 23 (0, 0))
set_option maxHeartbeats 4000000 in
theorem add_any (w : World) (lo g : Nat) (l : List UInt8) (ws : List Wd) (v : Value) (x : Wd) (h : Rd w lo g l ws v) (hx : x.s.length ≤ 1000000) (hl : ws.length ≤ 1000000) (hlo : lo ≤ w.heap.size) :
    Calls Tryd.prog 41 #[.pointer (some ⟨g, 0, none⟩), wdV x] w (Step w lo g v (.tuple #[]) l (ws ++ [x])) := by
  obtain ⟨k, s, n⟩ := x
  unfold wdV
  dsimp only at *
  have HH := Lib.hid h
  have HX := Lib.hid hx
  have HL := Lib.hid hl
  have HLO := Lib.hid hlo
  have HB := Lib.hid (heap_alloc_new w (.cells #[.int .i64 k, .string (bs s), .int .i64 n] 23 (0, 0)))
  have HG := Lib.hid (h.below ((Below.refl _ w).alloc (Nat.le_refl _) (.cells #[.int .i64 k, .string (bs s), .int .i64 n] 23 (0, 0))))
  have C := fun w' => Lib.hid (clone_any (bs s) w' (by rw [bs_size]; omega))
  have z1 := cell_at HB.out 1
  clear h hx hl hlo
  go_enter Tryd.func41, Tryd.ntmps41
  go_wp2_with fail
  refine (C _).out.mono ?_
  rintro e w1 ⟨rfl, hb1⟩
  have HB1 : Hid (w1.heap[w.heap.size]? = some (.cells #[.int .i64 k, .string (bs s), .int .i64 n] 23 (0, 0))) := Lib.hid ((hb1.block _ (by simp)).trans HB.out)
  have HG1 : Hid (Rd w1 lo g l ws v) := Lib.hid (HG.out.below hb1)
  have HT1 : Hid (Turn (mine g v) w w1) := Lib.hid (((Turn.refl _ w).alloc _).below hb1)
  have y1 := cell_at HB1.out 1
  have f1 := free_at HB1.out 1
  clear hb1 z1
  go_wp2_with fail
  have HW : Hid ((w1.setCell ⟨w.heap.size, 1, none⟩ (.string (bs s))).heap[w.heap.size]? = some (.cells #[.int .i64 k, .string (bs s), .int .i64 n] 23 (0, 0))) := Lib.hid (by rw [set_at HB1.out]; rfl)
  have HG2 : Hid (Rd (w1.setCell ⟨w.heap.size, 1, none⟩ (.string (bs s))) lo g l ws v) := Lib.hid (HG1.out.keep fun q hq => Below.heap_setCell w1 _ _ q (fun e => by have := (HH.out.lt q hq).2; dsimp at e; omega))
  have HT2 : Hid (Turn (mine g v) w (w1.setCell ⟨w.heap.size, 1, none⟩ (.string (bs s)))) := Lib.hid (HT1.out.setCell (.inr (Nat.le_refl _)) _)
  clear HB1 HG1 HT1 y1 f1
  generalize (w1.setCell ⟨w.heap.size, 1, none⟩ (.string (bs s))) = w2 at *
  have HD : Hid (Rd w2.drew lo g l ws v) := Lib.hid (HG2.out.keep fun _ _ => rfl)
  have HTD : Hid (Turn (mine g v) w w2.drew) := Lib.hid HT2.out.drew
  have HS : Hid (InG w2.drew g w.heap.size l v ⟨k, s, n⟩) := Lib.hid ⟨HD.out.at_, HW.out⟩
  have HGB : Hid (g < w.heap.size) := Lib.hid (HH.out.lt g (by simp [mine])).2
  clear HG2 HT2 HW HG HB
  refine AtS.start (by kernel_rfl) 10 (fun u => InG u g w.heap.size l v ⟨k, s, n⟩) (by kernel_rfl) (by kernel_rfl) ?_
  generalize w2.drew = u0 at *
  refine at_take 0 8 (.pointer (some ⟨g, 0, none⟩)) rfl rfl (by kernel_rfl) (by decide) (by decide) (fun _ _ _ h => h) rfl (HS.out) (fun w' hw' => ?_) ?_
  · exact rfl
  go_frame
  refine at_take 1 9 (.pointer (some ⟨g, 0, none⟩)) rfl rfl (by kernel_rfl) (by decide) (by decide) (fun _ _ _ h => h) rfl (HS.out) (fun w' hw' => ?_) ?_
  · exact rfl
  go_frame
  refine at_take 2 10 (.pointer (some ⟨g, 0, none⟩)) rfl rfl (by kernel_rfl) (by decide) (by decide) (fun _ _ _ h => h) rfl (HS.out) (fun w' hw' => ?_) ?_
  · go_simp
  go_frame
  refine at_take 3 11 (.pointer (some ⟨g, 1, none⟩)) rfl rfl (by kernel_rfl) (by decide) (by decide) (fun _ _ _ h => h) rfl (HS.out) (fun w' hw' => ?_) ?_
  · go_simp
  go_frame
  refine at_take 4 12 (v) rfl rfl (by kernel_rfl) (by decide) (by decide) (fun _ _ _ h => h) rfl (HS.out) (fun w' hw' => ?_) ?_
  · have h1 := cell_at hw'.1 1
    go_simp
  go_frame
  refine at_take 5 13 (.agg #[.int .i64 k, .string (bs s), .int .i64 n]) rfl rfl (by kernel_rfl) (by decide) (by decide) (fun _ _ _ h => h) rfl (HS.out) (fun w' hw' => ?_) ?_
  · have h0 := cell_at hw'.2 0
    have h1 := cell_at hw'.2 1
    have h2 := cell_at hw'.2 2
    go_simp
  go_frame
  have HA : Hid (Below u0.heap.size u0 (u0.alloc (.cells #[.int .i64 k, .string (bs s), .int .i64 n] 23))) := Lib.hid ((Below.refl _ u0).alloc (Nat.le_refl _) _)
  have HU : Hid (w.heap.size < u0.heap.size) := Lib.hid (lt_of_heap HS.out.2)
  have HS1 : Hid (InG (u0.alloc (.cells #[.int .i64 k, .string (bs s), .int .i64 n] 23)) g w.heap.size l v ⟨k, s, n⟩) := Lib.hid ⟨(HA.out.block _ (lt_of_heap HS.out.1)).trans HS.out.1, (HA.out.block _ HU.out).trans HS.out.2⟩
  refine at_run 6 14 (.slice (some ⟨u0.heap.size, 0, none⟩) 1 1) (u0.alloc (.cells #[.int .i64 k, .string (bs s), .int .i64 n] 23)) rfl rfl (by kernel_rfl) (by decide) rfl ?_ ?_ ?_
  · go_simp
  · exact HS1.out
  go_frame
  have HN := Lib.hid (heap_alloc_new u0 (.cells #[.int .i64 k, .string (bs s), .int .i64 n] 23 (0, 0)))
  have HD1 : Hid (Rd (u0.alloc (.cells #[.int .i64 k, .string (bs s), .int .i64 n] 23)) lo g l ws v) := Lib.hid (HD.out.below HA.out)
  have HT1 : Hid (Turn (mine g v) w (u0.alloc (.cells #[.int .i64 k, .string (bs s), .int .i64 n] 23))) := Lib.hid (HTD.out.below HA.out)
  have HL1 : Hid (lo ≤ (u0.alloc (.cells #[.int .i64 k, .string (bs s), .int .i64 n] 23)).heap.size) := Lib.hid (by have := HA.out.size; have := HU.out; have := HLO.out; omega)
  clear HA HS HD HTD
  generalize (u0.alloc (.cells #[.int .i64 k, .string (bs s), .int .i64 n] 23)) = u1 at *
  obtain ⟨v2, u2, hap, how, hgr, hbo⟩ := app_word u1 lo v ws ⟨k, s, n⟩ u0.heap.size HD1.out.own HN.out HL.out HL1.out
  obtain ⟨A2, n2, c2, rfl⟩ : ∃ A m c, v2 = .slice A m c := by obtain ⟨A, c, e⟩ := how.form; exact ⟨A, _, c, e⟩
  have HAP := Lib.hid hap
  have HR2 : Hid (u2.heap[g]? = some (.cells #[.string (bs l), v] 43 (0, 0)) ∧ OwnW u2 lo (.slice A2 n2 c2) (ws ++ [⟨k, s, n⟩]) ∧ (Value.slice A2 n2 c2).ownBlock ≠ some g ∧ Turn (mine g v) w u2 ∧ ∀ q ∈ mine g (.slice A2 n2 c2), q ∈ mine g v ∨ w.heap.size ≤ q) := Lib.hid (by
    have hsz : w.heap.size ≤ u1.heap.size := HT1.out.size
    refine ⟨(hgr.block g (lt_of_heap HD1.out.at_) (fun e => HD1.out.ne e.symm)).trans HD1.out.at_, how, ?_, HT1.out.grown hgr (fun q hq => .inl (by simp [mine, hq])), fun q hq => ?_⟩
    · rcases hbo with e | e
      · rw [e]; exact HD1.out.ne
      · rw [e]; intro e2; injection e2 with e2; have := HGB.out; omega
    · rcases List.mem_cons.1 hq with rfl | hq
      · exact .inl (by simp [mine])
      · have hq : (Value.slice A2 n2 c2).ownBlock = some q := by simpa using hq
        rcases hbo with e | e
        · exact .inl (by rw [e] at hq; simp [mine, hq])
        · rw [e] at hq; injection hq with hq; exact .inr (by omega))
  have HS2 : Hid (InG u2 g w.heap.size l v ⟨k, s, n⟩) := Lib.hid ⟨HR2.out.1, (hgr.block _ (by have := HU.out; have := lt_of_heap HS1.out.2; omega) (fun e => by have := (HH.out.own.lt _ e.symm).2; omega)).trans HS1.out.2⟩
  clear hap how hgr hbo
  refine at_app 7 15 (.slice A2 n2 c2) u2 rfl rfl (by kernel_rfl) (by decide) rfl (.tmp 12) (.tmp 14) rfl v (.slice (some ⟨u0.heap.size, 0, none⟩) 1 1) rfl rfl HAP.out HS2.out ?_
  go_frame
  clear HS1 HD1 HT1 HL1 HN HAP
  have HS := HS2
  refine at_take 8 16 (.pointer (some ⟨g, 0, none⟩)) rfl rfl (by kernel_rfl) (by decide) (by decide) (fun _ _ _ h => h) rfl (HS.out) (fun w' hw' => ?_) ?_
  · go_simp
  go_frame
  refine at_take 9 17 (.pointer (some ⟨g, 1, none⟩)) rfl rfl (by kernel_rfl) (by decide) (by decide) (fun _ _ _ h => h) rfl (HS.out) (fun w' hw' => ?_) ?_
  · go_simp
  go_frame
  have z0 := cell_at HR2.out.1 1
  have f0 := free_at HR2.out.1 1
  refine AtS.last (i := 10) (w' := u2.setCell ⟨g, 1, none⟩ (.slice A2 n2 c2)) rfl (by kernel_rfl) (by kernel_rfl) (by decide) rfl ?_ ?_
  · go_simp
  go_frame
  clear z0 f0
  go_wp2_with fail
  go_end0
  have hno : ∀ q, (Value.slice A2 n2 c2).ownBlock = some q → q ≠ g := fun q hq e => HR2.out.2.2.1 (by rw [hq, e])
  exact ⟨rfl, .slice A2 n2 c2, ⟨set_one HR2.out.1 _, HH.out.low, HR2.out.2.1.keep fun q hq => Below.heap_setCell u2 _ _ q (hno q hq), HR2.out.2.2.1⟩, HR2.out.2.2.2.1.setCell (.inl (by simp [mine])) _, HR2.out.2.2.2.2⟩
end Go.Proofs.YtjgkfdhfffbccaaDoor.Lex
