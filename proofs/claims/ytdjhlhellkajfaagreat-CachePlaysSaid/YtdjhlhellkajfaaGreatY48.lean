/-
  Texts RRsl, in one file. What each proves, and its conditions, stand at its head below.
-/
import Derived.Test.YtdjhlhellkajfaaGreatY24
import Derived.Test.YtdjhlhellkajfaaGreatY32
import Derived.Test.YtdjhlhellkajfaaGreatY43
set_option maxRecDepth 100000
namespace Go.Proofs.YtdjhlhellkajfaaGreat.Jou
open Go.RowKit Codec FrameM Cod JourM
open Disk (Turn Dk Dsk ptr Now upd)
section
variable {ops:Array Oper} {Q:Exit→Act→World→Prop} {md:Region.Mode} {S:World→Prop} {nn fuel i:Nat} {listed:Array Bool} {a:Act} {w:World} {oi:Oper}
theorem at_app(hi:ops[i]? =some oi)(hr:Region.ready md ops listed=[i])(hin:i<nn)(hw:Region.wanted oi (yielded ops a.tmps)=true)(s x:Operand)
  (ho:oi.op= .call {callee:= .builtin .append,args:= #[s,x],argTypes:= #[39,39]})
  (base:Nat) (v:Value) (n:Nat) (xs:List UInt8) (hs:a.eval s=v) (hown:Owns w base v n xs) (B:Nat) (A:Option Addr) (m c:Nat) (ys:List UInt8) (hx:a.eval x= .slice A m c) (hy:Byts w B A m ys)
  (hn:n+m≤1000000000) (hbase:base≤w.heap.size)
  (hK:∀A' c' w',Owns w' base (.slice A' (n+m) c') (n+m) (xs++ys)→w.grownBy w' v.ownBlock→S w'∧Disk.AtS Tryz.prog md ops Q S nn fuel (listed.setIfInBounds i true) (a.put oi.dst (.slice A' (n+m) c')) w'):Disk.AtS Tryz.prog md ops Q S nn (fuel+1) listed a w:=by
 obtain⟨A',c',w',hrun,k2,k3⟩:=run_app w oi.type base v n xs hown B A m c ys hy hn hbase;obtain⟨j1,j2⟩:=hK A' c' w' k2 k3;refine AtS.run hi hr hin hw ?_ j1 j2;unfold execOp;simp only[ho,resolve,invoke,builtin,Sem.run_bind,Sem.run_pure,Result.andThen_ok,List.map_toArray,List.map_cons,List.map_nil,hs,hx,hrun]
theorem at_app_or(hi:ops[i]? =some oi)(hr:Region.ready md ops listed=[i])(hin:i<nn)(hw:Region.wanted oi (yielded ops a.tmps)=true)(s x:Operand)
  (ho:oi.op= .call {callee:= .builtin .append,args:= #[s,x],argTypes:= #[40,40]})
  (base:Nat) (v:Value) (n:Nat) (ls:List (List UInt8)) (hs:a.eval s=v) (h:OR w base v n ls) (bx:Nat) (A1:Option Addr) (k1 c1:Nat) (b:List UInt8) (hx:a.eval x= .slice (some ⟨bx,0,none⟩) 1 1)
  (hbx:w.heap[bx]? =some (.cells #[.slice A1 k1 c1] 39 (0,0))) (hi1:Itm w base (.slice A1 k1 c1) b) (hn:n+1≤1000000) (hlo:base≤w.heap.size)
  (hK:∀A' c' w',OR w' base (.slice A' (n+1) c') (n+1) (ls++[b])→Below base w w'→w.grownBy w' v.ownBlock→S w'∧Disk.AtS Tryz.prog md ops Q S nn fuel (listed.setIfInBounds i true) (a.put oi.dst (.slice A' (n+1) c')) w'):Disk.AtS Tryz.prog md ops Q S nn (fuel+1) listed a w:=by
 obtain⟨vs,h0,h1,h2,h3⟩:=h;obtain⟨A',c',w',hrun,k2,k3⟩:=run_app_vals w oi.type base v n vs h0 (some ⟨bx,0,none⟩) 1 1 [.slice A1 k1 c1] rfl (vals_one hbx) hn hlo;obtain⟨j1,j2⟩:=hK A' c' w' (or_app k2 h0 k3 h1 h2 h3 rfl rfl (fun j hj=>by
  obtain rfl:j=0:=by omega
  exact hi1)) (own_below_v h0 hlo k3) k3
 refine AtS.run hi hr hin hw ?_ j1 j2;unfold execOp;simp only[ho,resolve,invoke,builtin,Sem.run_bind,Sem.run_pure,Result.andThen_ok,List.map_toArray,List.map_cons,List.map_nil,hs,hx,hrun]
end
theorem OR.set{w:World}{base n y i:Nat}{v u:Value}{ls:List (List UInt8)}(h:OR w base v n ls)(hy:y<base):OR (w.setCell ⟨y,i,none⟩ u) base v n ls:=by
 obtain⟨vs,ho,h1,h2,h3⟩:=h;refine⟨vs,own_same ho fun r hr=>Below.heap_setCell w _ u r ?_,h1,h2,fun j hj=> ?_⟩
 ·have:=(own_type ho hr).1;show r≠y;omega
 obtain⟨A,c,e,hi⟩:=h3 j hj;exact⟨A,c,e,hi.turn ((Turn.refl [y] w).setCell (.inl (by simp)) u) (fun k hk=> .inl (by simp at hk;omega))⟩
def LSt (w3 wr:World) (y r G:Nat) (ls:List (List UInt8)) (k:Nat) (A:Option Addr) (c:Nat):Prop:=wr.heap[y]? =some (yobj r G A k c false)∧OR wr w3.heap.size (.slice A k c) k (ls.take k)∧Turn [y] w3 wr
theorem LSt.step{w3 w8:World}{y r G k c c8:Nat}{A A8:Option Addr}{ls:List (List UInt8)}(h:w8.heap[y]? =some (yobj r G A k c false))(ho:OR w8 w3.heap.size (.slice A8 (k+1) c8) (k+1) (ls.take k++[ls.getD k []]))(ht:Turn [y] w3 w8)(hk:k<ls.length)(hy:y<w3.heap.size):
  LSt w3 (w8.setCell ⟨y,2,none⟩ (.slice A8 (k+1) c8)) y r G ls (k+1) A8 c8:=by
 refine⟨set_at h 2 _,?_,ht.setCell (.inl (by simp)) _⟩;have:=ho.set (i:=2) (u:= .slice A8 (k+1) c8) hy;rwa [←take_getD ls k hk] at this
end Go.Proofs.YtdjhlhellkajfaaGreat.Jou
