/-
  A region that draws its order: a store once nothing else may come up; a last operation that yields. No condition.
-/
import Derived.Test.YtofadlenblobnaaLDraw
namespace Go.Proofs.Ytofadlenblobnaa.Lex
set_option maxRecDepth 100000
section
variable {P : Program} {ops : Array Oper} {Q : Exit → Act → World → Prop} {md : Region.Mode} {S : World → Prop} {n fuel : Nat} {a : Act} {w w' : World} {oi : Oper} {listed : Array Bool}
theorem AtS.skip (i : Nat) (w' : World) (hi : ops[i]? = some oi) (hr : Region.ready md ops listed = [i]) (hin : i < n) (hw : Region.wanted oi (yielded ops a.tmps) = true)
    (hrun : (execOp a.eval oi).run P w = .ok .skip w') (hS : S w') (h : AtS P md ops Q S n fuel (listed.setIfInBounds i true) (a.put oi.dst undef) w') :
    AtS P md ops Q S n (fuel + 1) listed a w := fun hs hcb inv => by
  refine ⟨fun h0 => (by rw [h0] at hr; cases hr), fun j hj => ?_⟩
  rw [hr] at hj
  obtain rfl : j = i := by simpa using hj
  unfold wpOp
  simp only [hi, hw, if_true]
  refine .inl ?_
  unfold Oper.wp
  rw [hrun]
  simp only [Oper.upon]
  exact ⟨fun _ => hS, h hs hcb (inv.set (by rw [hr]; simp) hin)⟩
theorem at_call (i d : Nat) {f : Nat} {args : Array Value} (hi : ops[i]? = some oi) (hd : oi.dst = some d) (hr : Region.ready md ops listed = [i]) (hin : i < n) (hw : Region.wanted oi (yielded ops a.tmps) = true)
    (hrun : (execOp a.eval oi).run P w = .ok (.enter f args) w) (hc : Calls P f args w fun e w' => ∃ v, e = .returned v ∧ S w' ∧ AtS P md ops Q S n fuel (listed.setIfInBounds i true) (a.put (some d) v) w') :
    AtS P md ops Q S n (fuel + 1) listed a w := AtS.call hi hr hin hw hrun (by rw [hd]; exact hc)
/-- Two operations, either first. -/
theorem at_either (i j di dj : Nat) {oj : Oper} {v v' : Value} {w1 w2 : World} (hi : ops[i]? = some oi) (hj : ops[j]? = some oj) (hdi : oi.dst = some di) (hdj : oj.dst = some dj) (hr : Region.ready md ops listed = [i, j]) (hin : i < n) (hjn : j < n) (hwi : Region.wanted oi (yielded ops a.tmps) = true) (hwj : Region.wanted oj (yielded ops a.tmps) = true)
    (hruni : (execOp a.eval oi).run P w = .ok (.value v) w1) (hrunj : (execOp a.eval oj).run P w = .ok (.value v') w2) (hS1 : S w1) (hS2 : S w2)
    (h1 : AtS P md ops Q S n fuel (listed.setIfInBounds i true) (a.put (some di) v) w1) (h2 : AtS P md ops Q S n fuel (listed.setIfInBounds j true) (a.put (some dj) v') w2) : AtS P md ops Q S n (fuel + 1) listed a w := fun hs hcb inv => by
  refine ⟨fun h0 => (by rw [h0] at hr; cases hr), fun k hk => ?_⟩
  rw [hr] at hk
  rcases List.mem_cons.1 hk with rfl | hk
  · unfold wpOp
    simp only [hi, hwi, if_true]
    refine .inl ?_
    unfold Oper.wp
    rw [hruni]
    simp only [Oper.upon]
    rw [hdi]
    exact ⟨fun _ => hS1, h1 hs hcb (inv.set (by rw [hr]; simp) hin)⟩
  · obtain rfl : k = j := by simpa using hk
    unfold wpOp
    simp only [hj, hwj, if_true]
    refine .inl ?_
    unfold Oper.wp
    rw [hrunj]
    simp only [Oper.upon]
    rw [hdj]
    exact ⟨fun _ => hS2, h2 hs hcb (inv.set (by rw [hr]; simp) hjn)⟩
theorem AtS.lastv (i d : Nat) (v : Value) (w' : World) (hi : ops[i]? = some oi) (hd : oi.dst = some d) (hr : Region.ready md ops listed = [i]) (hr2 : Region.ready md ops (listed.setIfInBounds i true) = []) (hni : n ≤ i) (hw : Region.wanted oi (yielded ops a.tmps) = true)
    (hrun : (execOp a.eval oi).run P w = .ok (.value v) w') (h : Q .normal (a.put (some d) v) w') : AtS P md ops Q S n (fuel + 1) listed a w := fun _ _ _ => by
  refine ⟨fun h0 => (by rw [h0] at hr; cases hr), fun j hj => ?_⟩
  rw [hr] at hj
  obtain rfl : j = i := by simpa using hj
  unfold wpOp
  simp only [hi, hw, if_true]
  refine .inl ?_
  unfold Oper.wp
  rw [hrun]
  simp only [Oper.upon, hd]
  refine ⟨fun h => by omega, ?_⟩
  cases fuel with
  | zero => exact ⟨hr2, h⟩
  | succ fuel => exact ⟨fun _ => h, by rw [hr2]; simp⟩
end
end Go.Proofs.Ytofadlenblobnaa.Lex
