/-
  Texts FHeld, in one file. What each proves, and its conditions, stand at its head below.
-/
import Derived.OrdersHeld
import Derived.Laws.StructEq
import Derived.KernelRfl
import Derived.Tactics
set_option maxRecDepth 100000
namespace Go.Proofs.YtdjhlhellkajfaaGreat.Frm
section
variable {P:Program} {ops:Array Oper} {Q:Exit→Act→World→Prop} {md:Region.Mode} {S S':World→Prop} {fuel:Nat} {listed:Array Bool} {a:Act} {w:World}
theorem wh_more(h:∀w,S' w→S w):∀(fuel:Nat) (listed:Array Bool) (a:Act) (w:World),wpAnyH P md ops Q S' fuel listed a w→wpAnyH P md ops Q S fuel listed a w
 |0,_,_,_,k=>k
 |fuel+1,_,_,_,k=>⟨k.1,fun i hi=>wpOp_mono (fun a' w' k'=>⟨h w' k'.1,wh_more h fuel _ a' w' k'.2⟩) (k.2 i hi)⟩
theorem wh_take(i d:Nat)(v:Value){oi:Oper}(hi:ops[i]? =some oi)(hd:oi.dst=some d)(hB:(Region.noSelect ops&&Region.free md ops listed i&&(Region.ready md ops listed).contains i)=true)
  (hQ:∀c a w,Q (.panic c) (a.put oi.dst v) w→Q (.panic c) a w) (hw:Region.wanted oi (yielded ops a.tmps)=true) (hS:S w) (hy:∀w,S w→(execOp a.eval oi).run P w= .ok (.value v) w)
  (h:wpAnyH P md ops Q S fuel (listed.setIfInBounds i true) (a.put (some d) v) w):wpAnyH P md ops Q S (fuel+1) listed a w:=by
 simp only[Bool.and_eq_true] at hB;exact wpAnyH_take hi hB.1.1 hB.1.2 hB.2 hQ (.inl ⟨hw,hy⟩) hS (by rw[hd];exact h)
theorem wh_pass(i d:Nat){oi:Oper}(hi:ops[i]? =some oi)(hd:oi.dst=some d)(hB:(Region.noSelect ops&&Region.free md ops listed i&&(Region.ready md ops listed).contains i)=true)
  (hQ:∀c a w,Q (.panic c) (a.put oi.dst undef) w→Q (.panic c) a w) (hw:Region.wanted oi (yielded ops a.tmps)=false) (hS:S w)
  (h:wpAnyH P md ops Q S fuel (listed.setIfInBounds i true) (a.put (some d) undef) w):wpAnyH P md ops Q S (fuel+1) listed a w:=by
 simp only[Bool.and_eq_true] at hB;exact wpAnyH_take hi hB.1.1 hB.1.2 hB.2 hQ (.inr ⟨hw,rfl⟩) hS (by rw[hd];exact h)
theorem wa(i d:Nat)(v:Value)(hS:S w){oi:Oper}(h:wpAnyH P md ops Q S fuel (listed.setIfInBounds i true) (a.put (some d) v) w)(hi:ops[i]? =some oi:=by rfl)(hd:oi.dst=some d:=by rfl)(hy:∀w,S w→(execOp a.eval oi).run P w= .ok (.value v) w:=by exact fun _ _=>rfl)
    (hB:(Region.noSelect ops&&Region.free md ops listed i&&(Region.ready md ops listed).contains i)=true:=by kernel_rfl)
    (hQ:∀c a w,Q (.panic c) (a.put oi.dst v) w→Q (.panic c) a w:=by exact fun _ _ _ h=>h) (hw:Region.wanted oi (yielded ops a.tmps)=true:=by exact rfl):wpAnyH P md ops Q S (fuel+1) listed a w:=
  wh_take i d v hi hd hB hQ hw hS hy h
theorem wb(i d:Nat)(v:Value)(hS:S w){oi:Oper}(h:wpAnyH P md ops Q S fuel (listed.setIfInBounds i true) (a.put (some d) v) w)(hi:ops[i]? =some oi:=by rfl)(hd:oi.dst=some d:=by rfl)(hy:∀w,S w→(execOp a.eval oi).run P w= .ok (.value v) w:=by exact fun _ _=>by go_simp)
    (hB:(Region.noSelect ops&&Region.free md ops listed i&&(Region.ready md ops listed).contains i)=true:=by kernel_rfl)
    (hQ:∀c a w,Q (.panic c) (a.put oi.dst v) w→Q (.panic c) a w:=by exact fun _ _ _ h=>h) (hw:Region.wanted oi (yielded ops a.tmps)=true:=by exact rfl):wpAnyH P md ops Q S (fuel+1) listed a w:=
  wh_take i d v hi hd hB hQ hw hS hy h
theorem wd(i d:Nat)(v:Value)(hS:S w){oi:Oper}(hy:∀w,S w→(execOp a.eval oi).run P w= .ok (.value v) w)(h:wpAnyH P md ops Q S fuel (listed.setIfInBounds i true) (a.put (some d) v) w)(hi:ops[i]? =some oi:=by rfl)(hd:oi.dst=some d:=by rfl)
    (hB:(Region.noSelect ops&&Region.free md ops listed i&&(Region.ready md ops listed).contains i)=true:=by kernel_rfl)
    (hQ:∀c a w,Q (.panic c) (a.put oi.dst v) w→Q (.panic c) a w:=by exact fun _ _ _ h=>h) (hw:Region.wanted oi (yielded ops a.tmps)=true:=by exact rfl):wpAnyH P md ops Q S (fuel+1) listed a w:=
  wh_take i d v hi hd hB hQ hw hS hy h
theorem wq(i d:Nat)(hS:S w){oi:Oper}(h:wpAnyH P md ops Q S fuel (listed.setIfInBounds i true) (a.put (some d) undef) w)(hi:ops[i]? =some oi:=by rfl)(hd:oi.dst=some d:=by rfl)
    (hB:(Region.noSelect ops&&Region.free md ops listed i&&(Region.ready md ops listed).contains i)=true:=by kernel_rfl)
    (hQ:∀c a w,Q (.panic c) (a.put oi.dst undef) w→Q (.panic c) a w:=by exact fun _ _ _ h=>h) (hw:Region.wanted oi (yielded ops a.tmps)=false:=by exact rfl):wpAnyH P md ops Q S (fuel+1) listed a w:=
  wh_pass i d hi hd hB hQ hw hS h
theorem wh_one{i:Nat}{oi:Oper}(hi:ops[i]? =some oi)(hr:Region.ready md ops listed=[i])(hw:Region.wanted oi (yielded ops a.tmps)=true)
  (h:oi.wp P a w (fun a' w'=>S w'∧wpAnyH P md ops Q S fuel (listed.setIfInBounds i true) a' w') Q):wpAnyH P md ops Q S (fuel+1) listed a w:=by
 refine⟨fun h0=>(by rw[h0] at hr;cases hr),fun j hj=> ?_⟩;rw[hr] at hj;obtain rfl:j=i:=by simpa using hj
 unfold wpOp;simp only[hi,hw,if_true];exact .inl h
theorem wh_call(i d f:Nat)(args:Array Value){oi:Oper}(hi:ops[i]? =some oi)(hd:oi.dst=some d)(hr:Region.ready md ops listed=[i])(hw:Region.wanted oi (yielded ops a.tmps)=true)
  (hrun:(execOp a.eval oi).run P w= .ok (.enter f args) w) (hc:Calls P f args w fun e w'=>∃v,e= .returned v∧S w'∧wpAnyH P md ops Q S fuel (listed.setIfInBounds i true) (a.put (some d) v) w'):
  wpAnyH P md ops Q S (fuel+1) listed a w:=by
 refine wh_one hi hr hw ?_;unfold Oper.wp;rw[hrun];simp only[Oper.upon];refine Calls.mono hc ?_;rintro e w' ⟨v,rfl,hS,h⟩;rw[hd];exact⟨hS,h⟩
theorem wh_run(i d:Nat)(v:Value)(w':World){oi:Oper}(hi:ops[i]? =some oi)(hd:oi.dst=some d)(hr:Region.ready md ops listed=[i])(hw:Region.wanted oi (yielded ops a.tmps)=true)
  (hrun:(execOp a.eval oi).run P w= .ok (.value v) w') (hS:S w') (h:wpAnyH P md ops Q S fuel (listed.setIfInBounds i true) (a.put (some d) v) w'):wpAnyH P md ops Q S (fuel+1) listed a w:=by
 refine wh_one hi hr hw ?_;unfold Oper.wp;rw[hrun];simp only[Oper.upon];rw[hd];exact⟨hS,h⟩
theorem wh_store(i:Nat)(w':World){oi:Oper}(hi:ops[i]? =some oi)(hd:oi.dst=none)(hr:Region.ready md ops listed=[i])(hw:Region.wanted oi (yielded ops a.tmps)=true)
  (hrun:(execOp a.eval oi).run P w= .ok .skip w') (hS:S w') (h:wpAnyH P md ops Q S fuel (listed.setIfInBounds i true) a w'):wpAnyH P md ops Q S (fuel+1) listed a w:=by
 refine wh_one hi hr hw ?_;unfold Oper.wp;rw[hrun];simp only[Oper.upon];rw[hd];exact⟨hS,h⟩
theorem wh_all2(i j:Nat)(hr:Region.ready md ops listed=[i,j])(h:wpOp P ops Q i (fun a' w'=>S w'∧wpAnyH P md ops Q S fuel (listed.setIfInBounds i true) a' w') a w)
  (k:wpOp P ops Q j (fun a' w'=>S w'∧wpAnyH P md ops Q S fuel (listed.setIfInBounds j true) a' w') a w):wpAnyH P md ops Q S (fuel+1) listed a w:=
 wpAnyH_all hr (by simp) (fun x hx=>by
  have:x=i∨x=j:=by simpa using hx
  rcases this with rfl|rfl
  ·exact h
  ·exact k)
theorem wo_run{i:Nat}(d:Nat)(v:Value)(w':World){oi:Oper}{K:Act→World→Prop}(hi:ops[i]? =some oi)(hd:oi.dst=some d)(hw:Region.wanted oi (yielded ops a.tmps)=true)
  (hrun:(execOp a.eval oi).run P w= .ok (.value v) w') (h:K (a.put (some d) v) w'):wpOp P ops Q i K a w:=by
 unfold wpOp;simp only[hi,hw,if_true];refine .inl ?_;unfold Oper.wp;rw[hrun];simp only[Oper.upon];rw[hd];exact h
theorem wo_call{i:Nat}(d f:Nat)(args:Array Value){oi:Oper}{K:Act→World→Prop}(hi:ops[i]? =some oi)(hd:oi.dst=some d)(hw:Region.wanted oi (yielded ops a.tmps)=true)
  (hrun:(execOp a.eval oi).run P w= .ok (.enter f args) w) (hc:Calls P f args w fun e w'=>∃v,e= .returned v∧K (a.put (some d) v) w'):wpOp P ops Q i K a w:=by
 unfold wpOp;simp only[hi,hw,if_true];refine .inl ?_;unfold Oper.wp;rw[hrun];simp only[Oper.upon];refine Calls.mono hc ?_;rintro e w' ⟨v,rfl,h⟩;rw[hd];exact h
theorem wh_start{id:Nat}(S:World→Prop)(hm:P.follows .mixedOrders=true)(h:wpAnyH P .any ops Q S ops.size (Array.replicate ops.size false) a w.drew):(Code.region id ops true).wp P Q a w:=wp_region_held hm h
end
end Go.Proofs.YtdjhlhellkajfaaGreat.Frm
