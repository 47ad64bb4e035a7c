/-
  Texts FRef, in one file. What each proves, and its conditions, stand at its head below.
-/
import Derived.Test.YtdjhlhellkajfaaGreatY8
import Derived.Deep.RegionHeld3
import Derived.ArgAppend
import Derived.Lib.SlBytesConst
set_option maxRecDepth 100000
namespace Go.Proofs.YtdjhlhellkajfaaGreat.Frm
open Go.RowKit Codec FrameM Cod
theorem own_lit(w:World)(base:Nat)(xs:List UInt8)(cs:Array Value)(n:Nat)(hcs:cs.toList=cel xs)(hl:xs.length=n)(hB:base≤w.heap.size)(hn:n≤1000000000):
  Owns (w.alloc (.cells cs 5)) base (.slice (some ⟨w.heap.size,0,none⟩) n n) n xs:=by
 have h:=World.ownsRow_lit (base:=base) (e:=5) (size:=1) w cs n hB (by unfold maxLen;omega) (by rw[←Array.length_toList,hcs,cel_length,hl,Nat.mul_one]);rw[hcs] at h;exact h
theorem step_app{ops:Array Oper}{o:Oper}{a:Act}{w:World}{K:Act→World→Prop}{Q:Exit→Act→World→Prop}{E:Prop}(hgd:o.guard=none)(s x:Operand)
  (ho:o.op= .call {callee:= .builtin .append,args:= #[s,x],argTypes:= #[39,39]})
  (base:Nat) (v:Value) (n:Nat) (xs:List UInt8) (hs:a.eval s=v) (hown:Owns w base v n xs) (B:Nat) (A:Option Addr) (m c:Nat) (ys:List UInt8) (hx:a.eval x= .slice A m c) (hr:Byts w B A m ys)
  (hn:n+m≤1000000000) (hbase:base≤w.heap.size)
  (h:∀A' c' w',Owns w' base (.slice A' (n+m) c') (n+m) (xs++ys)→w.grownBy w' v.ownBlock→K (a.put o.dst (.slice A' (n+m) c')) w'):
  if Region.wanted o (yielded ops a.tmps)=true then Oper.wp Tryz.prog o a w K Q else E:=by
 have hw:Region.wanted o (yielded ops a.tmps)=true:=by simp[Region.wanted,hgd]
 rw[if_pos hw];obtain⟨A',c',w',hrun,h2,h3⟩:=run_app w o.type base v n xs hown B A m c ys hr hn hbase;unfold Oper.wp execOp;simp only[ho,resolve,invoke,builtin,Sem.run_bind,Sem.run_pure,Result.andThen_ok,List.map_toArray,List.map_cons,List.map_nil,hs,hx,hrun];exact h A' c' w' h2 h3
theorem le_four(s:Nat):le 4 s=[UInt8.ofNat (s%256),UInt8.ofNat (s/256%256),UInt8.ofNat (s/256/256%256),UInt8.ofNat (s/256/256/256%256)]:=rfl
theorem four_bytes(w:World)(s:Nat)(a b c d:Int)(ha:a=(s:Int)%256)(hb:b=(s:Int)/256%256)(hc:c=(s:Int)/65536%256)(hd:d=(s:Int)/16777216%256):
  Byts (w.alloc (.cells #[.int .u8 a,.int .u8 b,.int .u8 c,.int .u8 d] 5)) (w.heap.size+1) (some ⟨w.heap.size,0,none⟩) 4 (le 4 s):=by
 have e:(#[.int .u8 a,.int .u8 b,.int .u8 c,.int .u8 d]:Array Value).toList=cel (le 4 s):=by
  rw[le_four];simp[cel,byt];omega
 have:=(own_lit w w.heap.size (le 4 s) _ 4 e (le_length _ _) (Nat.le_refl _) (by decide)).byts;rwa [World.size_alloc] at this
theorem half_ref(m:Mk):half m=body m++le 4 (crcOf (body m)):=by
 unfold half;rw[sum_bytes _ (crcOf_lt _)]
theorem body_ref(m:Mk):body m=[84,77]++encSmall m.kind++encNum m.gen++encNum m.seq++encNum m.n:=by
 unfold body;rw[letters_bytes];simp only[List.append_assoc]
theorem wpList_app_full(w:World){ops:Array Oper}{rest:List Oper}{o:Oper}{a:Act}{Q:Exit→Act→World→Prop}(hgd:o.guard=none)(s x:Operand)
  (ho:o.op= .call {callee:= .builtin .append,args:= #[s,x],argTypes:= #[39,39]})
  (b:Addr) (n:Nat) (xs:List UInt8) (hs:a.eval s= .slice (some b) n n) (hl:xs.length=n) (hc:∀j,j<n→w.cell? (b.add j)=some (byt (xs.getD j 0))) (B:Nat) (A:Option Addr) (m c:Nat) (ys:List UInt8) (hx:a.eval x= .slice A m c) (hr:Byts w B A m ys)
  (hm:0<m) (hn:n+m≤1000000000)
  (h:∀A' c' w',Owns w' w.heap.size (.slice A' (n+m) c') (n+m) (xs++ys)→w.grownBy w' none→wpList Tryz.prog ops Q rest (a.put o.dst (.slice A' (n+m) c')) w'):wpList Tryz.prog ops Q (o::rest) a w:=by
 obtain⟨i0,hi0,hz0,hz1,hz2⟩:=info_parts info5;obtain⟨b',off',rfl,_,hy⟩:=hr.at_ hm;refine wpList_append_grows w hgd s x 39 ho 5 i0 _ 1 1 Tryz.underlying39 hi0 hz0 hz1 hz2 rfl (by decide) (some b) n n (cel xs) hs (fun h=>by cases h) (by rw[cel_length,hl,Nat.mul_one]) (fun b0 e j u hu=> ?_) _ m c (cel ys) hx (by rw[cel_length,hr.len,Nat.mul_one]) (fun j u hu=> ?_) (cel_one ys) (by omega) (by unfold maxLen;omega) (by omega) (fun v' w' h1 h2=> ?_)
 ·injection e with e;subst e;have hj:j<n:=by
   have:=(List.getElem?_eq_some_iff.1 hu).1;rwa [cel_length,hl] at this
  rw[hc j hj,←cel_get xs j (by omega)];exact hu
 ·have hj:j<m:=by
   have:=(List.getElem?_eq_some_iff.1 hu).1;rwa [cel_length,hr.len] at this
  rw[plain_add,hy j hj,←cel_get ys j (by rw[hr.len];exact hj)];exact hu
 rw[cel_app] at h1;obtain⟨A',c',rfl,_,_⟩:=Owns.form h1;exact h A' c' w' h1 h2
def tm (w:World):World:=w.alloc (.cells #[.int .u8 84,.int .u8 77] 5 (2,3))
theorem tm_cell(w:World)(j:Nat)(h:j<2):(tm w).cell? ((⟨w.heap.size,0,none⟩:Addr).add j)=some (byt (([84,77]:List UInt8).getD j 0)):=by
 rw[plain_add,tm,World.cell?_alloc_mark];match j,h with
 |0,_=>rfl
 |1,_=>rfl
end Go.Proofs.YtdjhlhellkajfaaGreat.Frm
