/-
  Texts JLight, JMore, RRow, RGrp, RGr2, in one file. What each proves, and its conditions, stand at its head below.
-/
import Derived.Test.YtdjhlhellkajfaaGreatY23
import Derived.Test.YtdjhlhellkajfaaGreatY29
import Derived.Test.YtdjhlhellkajfaaGreatY37
import Derived.Test.YtdjhlhellkajfaaGreatY39
import Derived.Deep.DeepCutAuto
set_option maxRecDepth 100000
set_option maxHeartbeats 8000000
open Go.Lib (hid)
namespace Go.Proofs.YtdjhlhellkajfaaGreat.Jou
open Go.RowKit Codec FrameM Cod JourM
open Disk (Turn Dk Dsk ptr Now Made Nums fresh)
end Go.Proofs.YtdjhlhellkajfaaGreat.Jou
namespace Go.Proofs.YtdjhlhellkajfaaGreat.Jou
open Go.RowKit Codec FrameM Cod JourM
open Disk (Turn Dk Dsk ptr Now Made Nums fresh)
end Go.Proofs.YtdjhlhellkajfaaGreat.Jou
namespace Go.Proofs.YtdjhlhellkajfaaGreat.Jou
open Go.RowKit Codec FrameM Cod JourM
open Disk (Turn Dk Dsk ptr Now upd)
theorem run_app_vals(w:World)(ty:TypeId)(base:Nat)(v:Value)(n:Nat)(vs:List Value)(ho:w.ownsRow base 39 1 v n vs)(A:Option Addr)(m c:Nat)(us:List Value)(hus:us.length=m)
  (h2:0<m→∃b off,A=some ⟨b,off,none⟩∧∀j,j<m→w.cell? ⟨b,off+j,none⟩=some (us.getD j undef)∧∃Aj nj cj,us.getD j undef= .slice Aj nj cj) (hn:n+m≤1000000) (hlo:base≤w.heap.size):
  ∃A' c' w',(Builtin.append_ #[40,40] ty #[v,.slice A m c]).run Tryz.prog w= .ok (.slice A' (n+m) c') w'∧w'.ownsRow base 39 1 (.slice A' (n+m) c') (n+m) (vs++us)∧w.grownBy w' v.ownBlock:=by
 obtain⟨i0,hi0,hz0,hz1,hz2⟩:=info_parts Frm.info24;have key:∃v' w',(Builtin.append_ #[40,40] ty #[v,.slice A m c]).run Tryz.prog w= .ok v' w'∧w'.ownsRow base 39 1 v' (n+m) (vs++us)∧w.grownBy w' v.ownBlock:=by
  by_cases hm:m=0
  ·subst hm;obtain rfl:us=[]:=List.length_eq_zero_iff.1 hus;refine⟨v,w,?_,by simpa using ho,⟨rfl,rfl,rfl,Nat.le_refl _,fun _ _ _=>rfl⟩⟩;rcases ho.2 with⟨rfl,rfl⟩|⟨g,cap,cur,rfl,_,_,hnc,_⟩
   ·cases A<;>simp[Builtin.append_,run_underlying Tryz.underlying40,sizeOf,typeInfo,hi0,Builtin.lenOf,Builtin.firstCells,loadCells,loadCellsFrom]
   cases A<;>simp[Builtin.append_,run_underlying Tryz.underlying40,sizeOf,typeInfo,hi0,Builtin.lenOf,Builtin.firstCells,loadCells,loadCellsFrom,hnc,storeCells]
  obtain⟨b,off,rfl,hc⟩:=h2 (by omega);obtain⟨v',w',hrun,r1,r2,_,_⟩:=run_append_own_at (P:=Tryz.prog) w base 40 ty 39 i0 (.slice none 0 0) 1 24 Tryz.underlying40 hi0 hz0 hz1 hz2 rfl (by decide) v n vs ho ⟨b,off,none⟩ m c us (by omega) (fun j u hu=>by
   have hj:j<m:=by rw[←hus];exact(List.getElem?_eq_some_iff.1 hu).1
   have e:=(hc j hj).1;rw[plain_add,e,List.getD_eq_getElem?_getD,hu];rfl) (fun u hu=>by
   obtain⟨j,hj,rfl⟩:=List.getElem_of_mem hu;obtain⟨Aj,nj,cj,hg⟩:=(hc j (by omega)).2;have e:us.getD j undef=us[j]:=by simp[List.getD_eq_getElem?_getD,hj]
   rw[e] at hg;rw[hg];rfl) (by unfold maxLen;omega) (by omega) hlo
  exact⟨v',w',hrun,r1,r2⟩
 obtain⟨v',w',hrun,r1,r2⟩:=key;have hform:∃A' c',v'= .slice A' (n+m) c':=by
  rcases r1.2 with⟨rfl,h0⟩|⟨g,cap,cur,rfl,_⟩
  ·exact⟨none,0,by rw[h0]⟩
  exact⟨_,cap,rfl⟩
 obtain⟨A',c',rfl⟩:=hform;exact⟨A',c',w',hrun,r1,r2⟩
theorem wpList_app_vals(w:World){ops:Array Oper}{rest:List Oper}{o:Oper}{a:Act}{Q:Exit→Act→World→Prop}(hgd:o.guard=none)(s x:Operand)
  (ho:o.op= .call {callee:= .builtin .append,args:= #[s,x],argTypes:= #[40,40]})
  (base:Nat) (v:Value) (n:Nat) (vs:List Value) (hs:a.eval s=v) (h:w.ownsRow base 39 1 v n vs) (A:Option Addr) (m c:Nat) (us:List Value) (hx:a.eval x= .slice A m c) (hus:us.length=m)
  (h2:0<m→∃b off,A=some ⟨b,off,none⟩∧∀j,j<m→w.cell? ⟨b,off+j,none⟩=some (us.getD j undef)∧∃Aj nj cj,us.getD j undef= .slice Aj nj cj) (k:Nat) (hk:n+m=k) (hn:k≤1000000) (hlo:base≤w.heap.size)
  (hK:∀A' c' w',w'.ownsRow base 39 1 (.slice A' k c') k (vs++us)→w.grownBy w' v.ownBlock→wpList Tryz.prog ops Q rest (a.put o.dst (.slice A' k c')) w'):wpList Tryz.prog ops Q (o::rest) a w:=by
 subst hk;obtain⟨A',c',w',hrun,k2,k3⟩:=run_app_vals w o.type base v n vs h A m c us hus h2 hn hlo;refine wpList_plain hgd fun _ hK'=> ?_;unfold Oper.wp execOp;simp only[ho,resolve,invoke,builtin,Sem.run_bind,Sem.run_pure,Result.andThen_ok,List.map_toArray,List.map_cons,List.map_nil,hs,hx,hrun];exact hK' _ _ (hK A' c' w' k2 k3)
theorem wpList_app_k(w:World){ops:Array Oper}{rest:List Oper}{o:Oper}{a:Act}{Q:Exit→Act→World→Prop}(hgd:o.guard=none)(s x:Operand)
  (ho:o.op= .call {callee:= .builtin .append,args:= #[s,x],argTypes:= #[39,39]})
  (base:Nat) (v:Value) (n:Nat) (xs:List UInt8) (hs:a.eval s=v) (hown:Owns w base v n xs) (B:Nat) (A:Option Addr) (m c:Nat) (ys:List UInt8) (hx:a.eval x= .slice A m c) (hr:Byts w B A m ys)
  (k:Nat) (hk:n+m=k) (hn:k≤1000000000) (hbase:base≤w.heap.size)
  (h:∀A' c' w',Owns w' base (.slice A' k c') k (xs++ys)→w.grownBy w' v.ownBlock→wpList Tryz.prog ops Q rest (a.put o.dst (.slice A' k c')) w'):wpList Tryz.prog ops Q (o::rest) a w:=by
 subst hk;exact wpList_app w hgd s x ho base v n xs hs hown B A m c ys hx hr hn hbase h
theorem vals_one{w:World}{bx:Nat}{A:Option Addr}{n c:Nat}(hx:w.heap[bx]? =some (.cells #[.slice A n c] 39 (0,0))):
  0<1→∃b off,some (⟨bx,0,none⟩:Addr)=some ⟨b,off,none⟩∧∀j,j<1→w.cell? ⟨b,off+j,none⟩=some ([Value.slice A n c].getD j undef)∧∃Aj nj cj,[Value.slice A n c].getD j undef= .slice Aj nj cj:=fun _=>
 ⟨bx,0,rfl,fun j hj=>by
  obtain rfl:j=0:=by omega
  exact⟨cell_at hx 0,A,n,c,rfl⟩⟩
theorem own_below_v{w w1:World}{base n:Nat}{v:Value}{vs:List Value}{e:TypeId}(h:w.ownsRow base e 1 v n vs)(hB:base≤w.heap.size)(hg:w.grownBy w1 v.ownBlock):Below base w w1:=
 (Below.refl base w).grown hg hB (fun k hk=>(World.ownsRow.lt h k hk).1)
theorem rows_of_vals{w:World}{base n c:Nat}{A:Option Addr}{vs:List Value}{ls:List (List UInt8)}{S:List Nat}(ho:w.ownsRow base 39 1 (.slice A n c) n vs)(h1:vs.length=n)(h2:ls.length=n)
  (h3:∀j,j<n→∃Aj cj,vs.getD j undef= .slice Aj (ls.getD j []).length cj∧Bts w S Aj (ls.getD j []).length (ls.getD j [])∧(ls.getD j []).length≤cj∧cj≤maxLen) (hS:∀k∈S,k<base):RowsB w S A n ls:=by
 refine⟨h2,fun hn=> ?_⟩;obtain⟨g,cap,hv,hlo,hlt⟩:=World.ownsRow.form ho hn;have hA:A=some ⟨g,0,none⟩:=by injection hv
 subst hA;refine⟨g,0,rfl,hlt,fun hm=>by have:=hS g hm;omega,fun j hj=> ?_⟩;obtain⟨Aj,cj,e,q1,q2,q3⟩:=h3 j hj;have hc:=ho.cells (g:=g) rfl j (vs.getD j undef) (by simp[List.getD_eq_getElem?_getD,h1,hj]);rw[plain_add,e] at hc;exact⟨Aj,cj,hc,q1,q2,q3⟩
theorem RowsB.vals{w:World}{S:List Nat}{A:Option Addr}{n:Nat}{ls:List (List UInt8)}(h:RowsB w S A n ls):∃us:List Value,us.length=n∧(0<n→∃b off,A=some ⟨b,off,none⟩∧b<w.heap.size∧b∉S∧∀j,j<n→w.cell? ⟨b,off+j,none⟩=some (us.getD j undef))∧
  ∀j,j<n→∃Aj cj,us.getD j undef= .slice Aj (ls.getD j []).length cj∧Bts w S Aj (ls.getD j []).length (ls.getD j [])∧(ls.getD j []).length≤cj∧cj≤maxLen:=by
 rcases Nat.eq_zero_or_pos n with h0|h0
 ·subst h0;exact⟨[],rfl,fun h=>absurd h (by omega),fun j hj=>absurd hj (by omega)⟩
 obtain⟨b,off,rfl,hl,hb,hc⟩:=h.at_ h0;have e:∀j,j<n→((List.range n).map fun j=>(w.cell? ⟨b,off+j,none⟩).getD undef).getD j undef=(w.cell? ⟨b,off+j,none⟩).getD undef:=fun j hj=>by simp[List.getD_eq_getElem?_getD,hj]
 refine⟨(List.range n).map fun j=>(w.cell? ⟨b,off+j,none⟩).getD undef,by simp,fun _=>⟨b,off,rfl,hl,hb,fun j hj=> ?_⟩,fun j hj=> ?_⟩
 ·obtain⟨Aj,cj,h1,_⟩:=hc j hj;rw[e j hj,h1];rfl
 obtain⟨Aj,cj,h1,h2⟩:=hc j hj;rw[e j hj,h1];exact⟨Aj,cj,rfl,h2⟩
end Go.Proofs.YtdjhlhellkajfaaGreat.Jou
namespace Go.Proofs.YtdjhlhellkajfaaGreat.Jou
open Go.RowKit Codec FrameM Cod JourM
open Disk (Turn Dk Dsk ptr Now upd)
def Itm (w:World) (base:Nat) (u:Value) (x:List UInt8):Prop:=∃A c,u= .slice A x.length c∧(⟨A,x.length,c,x⟩:It).ok w base
def OR (w:World) (base:Nat) (v:Value) (n:Nat) (ls:List (List UInt8)):Prop:=∃vs:List Value,w.ownsRow base 39 1 v n vs∧vs.length=n∧ls.length=n∧∀j,j<n→Itm w base (vs.getD j undef) (ls.getD j [])
section
variable {w w':World} {base n:Nat} {v u:Value} {ls:List (List UInt8)} {x:List UInt8}
theorem Itm.below(h:Itm w base u x)(hb:Below w.heap.size w w'):Itm w' base u x:=by
 obtain⟨A,c,e,h⟩:=h;exact⟨A,c,e,h.below hb⟩
theorem OR.nil:OR w base (.slice none 0 0) 0 []:=⟨[],World.ownsRow_nil _ _ _ _,rfl,rfl,fun j hj=>absurd hj (by omega)⟩
theorem OR.below(h:OR w base v n ls)(hb:Below w.heap.size w w'):OR w' base v n ls:=by
 obtain⟨vs,ho,h1,h2,h3⟩:=h;refine⟨vs,own_same ho fun r hr=> ?_,h1,h2,fun j hj=>(h3 j hj).below hb⟩;obtain⟨_,cur,hc⟩:=own_type ho hr;exact hb.block r (lt_of_heap hc)
theorem OR.rows{A:Option Addr}{c:Nat}{S:List Nat}(h:OR w base (.slice A n c) n ls)(hS:∀k∈S,k<base):RowsB w S A n ls:=by
 obtain⟨vs,ho,h1,h2,h3⟩:=h;refine rows_of_vals ho h1 h2 (fun j hj=> ?_) hS;obtain⟨A,c,e,h⟩:=h3 j hj;exact⟨A,c,e,Bts.above h.byts h.ab hS,h.mc,h.cm⟩
theorem itm_of{A:Option Addr}{k c:Nat}(h:Byts w w.heap.size A k x)(h1:k≤c)(h2:c≤maxLen)(ha:Frm.Above base A)(hu:Frm.U8 w A):Itm w base (.slice A k c) x:=by
 have hl:=h.len;subst hl;exact⟨A,c,rfl,h,h1,h2,ha,hu⟩
end
theorem or_app{w w':World}{base n m:Nat}{v v':Value}{vs us:List Value}{ls l2:List (List UInt8)}(ho:w'.ownsRow base 39 1 v' (n+m) (vs++us))(h:w.ownsRow base 39 1 v n vs)(hg:w.grownBy w' v.ownBlock)(h1:vs.length=n)(h2:ls.length=n)(h3:∀j,j<n→Itm w base (vs.getD j undef) (ls.getD j []))(h4:us.length=m)(h5:l2.length=m)(h6:∀j,j<m→Itm w base (us.getD j undef) (l2.getD j [])):OR w' base v' (n+m) (ls++l2):=by
 have ht:Turn v.ownBlock.toList w w':=(Turn.refl _ w).grown hg (fun q hq=> .inl (by rw[hq];simp));have hf:Fine w base v.ownBlock.toList:=fun k hk=>by
  obtain⟨_,cur,hc⟩:=own_type h (by simpa using hk);exact .inr (.inr ⟨cur,_,hc,by decide⟩)
 have key:∀u x,Itm w base u x→Itm w' base u x:=fun u x hi=>by
  obtain⟨A,c,e,hi⟩:=hi;exact⟨A,c,e,hi.turn ht hf⟩
 refine⟨vs++us,ho,by simp[h1,h4],by simp[h2,h5],fun j hj=> ?_⟩;by_cases hjn:j<n
 ·rw[getD_app_left _ _ _ _ (by omega),getD_app_left _ _ _ _ (by omega)];exact key _ _ (h3 j hjn)
 rw[getD_app_right _ _ _ _ (by omega),getD_app_right _ _ _ _ (by omega),h1,h2];exact key _ _ (h6 (j-n) (by omega))
theorem wpList_app_or(w:World){ops:Array Oper}{rest:List Oper}{o:Oper}{a:Act}{Q:Exit→Act→World→Prop}(hgd:o.guard=none)(s x:Operand)
  (ho:o.op= .call {callee:= .builtin .append,args:= #[s,x],argTypes:= #[40,40]})
  (base:Nat) (v:Value) (n:Nat) (ls:List (List UInt8)) (hs:a.eval s=v) (h:OR w base v n ls) (bx:Nat) (A1:Option Addr) (k1 c1:Nat) (b:List UInt8) (hx:a.eval x= .slice (some ⟨bx,0,none⟩) 1 1)
  (hbx:w.heap[bx]? =some (.cells #[.slice A1 k1 c1] 39 (0,0))) (hi:Itm w base (.slice A1 k1 c1) b) (hn:n+1≤1000000) (hlo:base≤w.heap.size)
  (hK:∀A' c' w',OR w' base (.slice A' (n+1) c') (n+1) (ls++[b])→Below base w w'→w.grownBy w' v.ownBlock→wpList Tryz.prog ops Q rest (a.put o.dst (.slice A' (n+1) c')) w'):wpList Tryz.prog ops Q (o::rest) a w:=by
 obtain⟨vs,h0,h1,h2,h3⟩:=h;refine wpList_app_vals w hgd s x ho base v n vs hs h0 (some ⟨bx,0,none⟩) 1 1 [.slice A1 k1 c1] hx rfl (vals_one hbx) (n+1) rfl hn hlo fun A' c' w' k1 k2=> ?_;exact hK A' c' w' (or_app k1 h0 k2 h1 h2 h3 rfl rfl (fun j hj=>by(obtain rfl:j=0:=by omega);exact hi)) (own_below_v h0 hlo k2) k2
theorem own_above{w:World}{base n c:Nat}{A:Option Addr}{xs:List UInt8}(h:Owns w base (.slice A n c) n xs):Frm.Above base A:=fun p hp=>by
 rcases h.2 with⟨e,_⟩|⟨g,cap,cur,e,hg,_⟩
 ·injection e with e1;rw[e1] at hp;cases hp
 injection e with e1;rw[e1] at hp;cases hp
 exact hg
def RGotU (w:World) (xs:List UInt8) (e:Ending) (w':World):Prop:=∃A c,e= .returned (.tuple #[.slice A 64 c,.int .i64 0])∧NewB w w' A 64 xs∧64≤c∧c≤maxLen∧Below w.heap.size w w'∧Frm.Above w.heap.size A∧Frm.U8 w' A
theorem rread_it(w:World)(S:List Nat)(r bs bw:Nat)(d:Dsk)(i:Nat)(h:Rk w S r bs bw d)(ho:d.off=false)(hi:i<d.n):Calls Tryz.prog 57 #[ptr r,.int .i64 i] w (RGotU w (d.read i)):=by
 obtain⟨cs,cw,left,z,h1,hcs,hcw,_⟩:=h.hd;obtain⟨_,c0,c1,c2,c3,c4,f⟩:=hd5 h1;have hn:=h.ok.2.1;rw[ho] at c4;obtain⟨u1,e1,_,q1⟩:=RowOf.cell h.safe hi;obtain⟨u2,e2,_,q2⟩:=RowOf.cell h.wait hi;have x1:=ridx bs d.n cs i hi;have x2:=ridx bw d.n cw i hi;have HB0:=hid (Frm.alloc_below w (.cells #[] 5));have hi3:¬d.n≤i:=by omega
 have hcl:∀(b k:Nat) (v:Value),b<w.heap.size→w.cell? ⟨b,k,none⟩=some v→(w.alloc (.cells #[] 5)).cell? ⟨b,k,none⟩=some v:=fun b k v hb hv=>(World.cell?_of_block (w:=w) (Below.heap_alloc w _ b hb)).trans hv;have c0':=hcl r 0 _ (h.lows r (by simp)) c0;have c1':=hcl r 1 _ (h.lows r (by simp)) c1;have e1':=hcl bs i _ (h.lows bs (by simp)) e1;have e2':=hcl bw i _ (h.lows bw (by simp)) e2;clear hcl;have HO:Hid (Owns (w.alloc (.cells #[] 5)) w.heap.size (.slice (some ⟨w.heap.size,0,none⟩) 0 0) 0 []):=hid (World.ownsRow_made w #[] 0 (Nat.le_refl _) (Nat.zero_le _) rfl);have HEND:Hid (∀(xs:List UInt8) A5 c5 w5,Owns w5 w.heap.size (.slice A5 (0+64) c5) (0+64) ([]++xs)→Below w.heap.size w w5→RGotU w xs (.returned (.tuple #[.slice A5 64 c5,.int .i64 0])) w5):=hid (fun xs A5 c5 w5 ho5 hb5=>by
  rw[Nat.zero_add,List.nil_append] at ho5;obtain⟨A',c',e,g1,g2⟩:=ho5.form;injection e with _ _ e3;subst e3;exact⟨A5,c5,rfl,fun S' hS'=>bts_own ho5 hS',g1,g2,hb5,own_above ho5,Frm.own_u8 ho5⟩)
 cases hw:d.waits i with
 |none=>
  have hrd:d.read i=d.safe i:=by simp[Disk.Dsk.read,hw]
  rw[hrd];rw[hw] at q2;have q2':u2= .slice none 0 0:=q2;subst q2';obtain⟨b,o,c,rfl,q3,q4,q5⟩:=q1;have HX:=hid q3.byts;clear h h1 f c2 c3 ho q3 q2 hw hrd;generalize d.n=n at *;generalize d.safe i=xs at *;unfold ptr;go_enter Tryz.func57,Tryz.ntmps57;go_wp2_with (at_builtin;(refine wpList_app _ rfl (.tmp 38) (.tmp 45) rfl w.heap.size (.slice (some ⟨w.heap.size,0,none⟩) 0 0) 0 [] rfl HO.out w.heap.size (some ⟨b,o,none⟩) 64 c xs rfl (HX.out.below HB0.out) (by decide) HB0.out.size ?_);intro A5 c5 w5 ho5 hg5;have HO5:=hid ho5;have HB5:=hid (HB0.out.trans (own_below HO.out HB0.out.size hg5));clear ho5 hg5);exact bodyPost_ret (v:= .tuple #[.slice A5 64 c5,.int .i64 0]) (by simp[results,Tryz.results57,go_sem]) rfl (HEND.out xs A5 c5 w5 HO5.out HB5.out)
 |some s=>
  have hrd:d.read i=s:=by simp[Disk.Dsk.read,hw]
  rw[hrd];rw[hw] at q2;obtain⟨b,o,c,rfl,q3,q4,q5⟩:=q2;have HX:=hid q3.byts;clear h h1 f c2 c3 ho q3 q1 hw hrd;generalize d.n=n at *;unfold ptr;go_enter Tryz.func57,Tryz.ntmps57;go_wp2_with (at_builtin;(refine wpList_app _ rfl (.tmp 29) (.tmp 36) rfl w.heap.size (.slice (some ⟨w.heap.size,0,none⟩) 0 0) 0 [] rfl HO.out w.heap.size (some ⟨b,o,none⟩) 64 c s rfl (HX.out.below HB0.out) (by decide) HB0.out.size ?_);intro A5 c5 w5 ho5 hg5;have HO5:=hid ho5;have HB5:=hid (HB0.out.trans (own_below HO.out HB0.out.size hg5));clear ho5 hg5);exact bodyPost_ret (v:= .tuple #[.slice A5 64 c5,.int .i64 0]) (by simp[results,Tryz.results57,go_sem]) rfl (HEND.out s A5 c5 w5 HO5.out HB5.out)
theorem groups_step{f:Nat→List UInt8}{n gen pos seq:Nat}(h:gB f n gen pos seq=true):
  groupsF f n gen (room n+1) pos seq=gX f n gen pos::groupsF f n gen (room n+1) (pos+takes1 (gX f n gen pos)) (seq+1):=by
 have h1:=gB_room h;have ht:1≤takes1 (gX f n gen pos):=by unfold takes1;omega
 rw[groupsF_fuel f n gen (room n+1) (room n) (pos+takes1 (gX f n gen pos)) (seq+1) (by omega) (by omega) h1];conv=>lhs;unfold groupsF
 rw[if_pos h]
theorem groups_stop{f:Nat→List UInt8}{n gen pos seq:Nat}(h:gB f n gen pos seq=false):groupsF f n gen (room n+1) pos seq=[]:=by
 unfold groupsF;rw[h];rfl
end Go.Proofs.YtdjhlhellkajfaaGreat.Jou
namespace Go.Proofs.YtdjhlhellkajfaaGreat.Jou
open Go.RowKit Codec FrameM Cod JourM
open Disk (Turn Dk Dsk ptr Now upd)
theorem itm_own{w:World}{base base2 n c:Nat}{A:Option Addr}{xs:List UInt8}(h:Owns w base2 (.slice A n c) n xs)(hb:base≤base2):Itm w base (.slice A n c) xs:=by
 obtain⟨A',c',e,h1,h2⟩:=h.form;injection e with _ _ e3;subst e3;exact itm_of h.byts h1 h2 ((own_above h).mono hb) (Frm.own_u8 h)
def RGrs (w:World) (ls:List (List UInt8)) (e:Ending) (w':World):Prop:=∃A c,e= .returned (.slice A ls.length c)∧NewRows w w' A ls.length ls∧Below w.heap.size w w'
theorem rgroups_any(w:World)(S:List Nat)(r bs bw:Nat)(d:Dsk)(gen:Nat)(h:Rk w S r bs bw d)(ho:d.off=false)(h8:8≤d.n)(hg:gen<9223372036854775808):Calls Tryz.prog 63 #[ptr r,.int .i64 gen] w (RGrs w (groups (rd d) d.n gen)):=by
 have HD:=hid h;have h65:=h.ok.2.1;have HN:=hid (And.intro h8 h65);have hR65:room d.n≤65536:=by unfold room;omega
 have HRM:=hid (fun u (hu:Rk u S r bs bw d)=>rroom_any u S r bs bw d hu (by omega));have HFI:=hid (fun u (hu:Rk u S r bs bw d)=>first_any u S r bs bw d gen hu (by omega));have HRD:=hid (fun u i (hu:Rk u S r bs bw d) (hi:i<d.n)=>rread_it u S r bs bw d i hu ho hi);have HG:=hid hg;clear h ho h8 h65 hg;unfold ptr at *;go_enter Tryz.func63,Tryz.ntmps63;go_wp2_with fail;go_loopw [5,6,7,8,9,10,11,12,13,14,15,16,17] (fun out at_ _ _ _ _ _ _ _ _ _ _ _ wr=>∃(pos:Nat) (A:Option Addr) (c:Nat) (gs:List (List UInt8)),at_= .int .i64 pos∧out= .slice A gs.length c∧OR wr w.heap.size (.slice A gs.length c) gs.length gs∧gs.length≤pos∧pos≤room d.n∧groups (rd d) d.n gen=gs++groupsF (rd d) d.n gen (room d.n+1) pos gs.length∧Below w.heap.size w wr) (fun _ at_ _ _ _ _ _ _ _ _ _ _ _ _=>room d.n+1-(Go.RowKit.intOf at_).toNat)
 case atStart=>exact⟨0,none,0,[],rfl,rfl,OR.nil,by simp,Nat.zero_le _,by simp[groups],Below.refl _ _⟩
 case round=>
  obtain⟨pos,A,c,gs,rfl,rfl,hor,hsq,hpos,heq,hbel⟩:=hrel;have HOR:=hid hor;have HEQ:=hid heq;have HB:=hid hbel;have HRK:=hid (HD.out.below hbel);have HEND:Hid (groupsF (rd d) d.n gen (room d.n+1) pos gs.length=[]→∀w':World,Below wr.heap.size wr w'→RGrs w (groups (rd d) d.n gen) (.returned (.slice A gs.length c)) w'):=hid (fun he w' hw'=>by
   rw[HEQ.out,he,List.append_nil];exact⟨A,c,rfl,fun S' hS'=>(HOR.out.below hw').rows hS',HB.out.trans (hw'.mono HB.out.size)⟩)
  clear hor heq hbel;generalize hsqe:gs.length=sq at *;have HSQ:=hid hsqe;clear hsqe;by_cases hlt:pos<room d.n
  ·have hPl:secAt d.n gen pos<d.n:=sec_lt (by have:=HN.out.1;omega) hlt;have hPI:((secAt d.n gen 0:Nat):Int)+(pos:Int)=(secAt d.n gen pos:Nat):=by rw[←Nat.zero_add pos,sec_add,Nat.zero_add];push_cast;rfl
   have hrdx:d.read (secAt d.n gen pos)=rd d (secAt d.n gen pos):=by unfold rd;rw[if_pos hPl]
   have HREAD:=hid (HRD.out wr (secAt d.n gen pos) HRK.out hPl);rw[hrdx] at HREAD;have hmp:=getM_pos (rd d (secAt d.n gen pos));have HSEC:Hid (∀i:Nat,secAt d.n gen (pos+1+i)=secAt d.n gen pos+1+i):=hid (fun i=>by rw[Nat.add_assoc,sec_add];omega);have HGB:Hid (gB (rd d) d.n gen pos sq=(gFit (rd d) d.n gen pos&&(gUn (rd d) d.n gen pos&&gMk (rd d) d.n gen pos sq))):=hid rfl;have HGF:Hid (gFit (rd d) d.n gen pos=(getB (rd d (secAt d.n gen pos))&&decide (need (gLen (rd d) d.n gen pos)+pos<room d.n))):=hid rfl;have HGU:Hid (gUn (rd d) d.n gen pos=unpackB (gSecs (rd d) d.n gen pos) (gLen (rd d) d.n gen pos)):=hid rfl;have HGX:Hid (gX (rd d) d.n gen pos=unpack (gSecs (rd d) d.n gen pos) (gLen (rd d) d.n gen pos)):=hid rfl;have HGM:Hid (gMk (rd d) d.n gen pos sq=(getM (rd d (secAt d.n gen pos))).eq (markM gen sq (gX (rd d) d.n gen pos))):=hid rfl;have HRS:Hid (gSecs (rd d) d.n gen pos=(List.range (need (gLen (rd d) d.n gen pos))).map fun i=>rd d (secAt d.n gen pos+1+i)):=hid (by
    have:∀i,secAt d.n gen (pos+1+i)=secAt d.n gen pos+1+i:=HSEC.out;unfold gSecs gRows;simp only[this])
   have HXL:Hid (gUn (rd d) d.n gen pos=true→(gX (rd d) d.n gen pos).length=gLen (rd d) d.n gen pos):=hid (fun h=>gX_length h);have hL:(getM (rd d (secAt d.n gen pos))).n/4294967296=((gLen (rd d) d.n gen pos:Nat):Int):=by unfold gLen;omega
   have hLb:(gLen (rd d) d.n gen pos:Int)≤2147483648:=by omega
   have HSTEP:Hid (gB (rd d) d.n gen pos sq=true→groupsF (rd d) d.n gen (room d.n+1) pos sq=gX (rd d) d.n gen pos::groupsF (rd d) d.n gen (room d.n+1) (pos+takes1 (gX (rd d) d.n gen pos)) (sq+1)):=hid (fun h=>groups_step h);have HSTOP:Hid (gB (rd d) d.n gen pos sq=false→groupsF (rd d) d.n gen (room d.n+1) pos sq=[]):=hid (fun h=>groups_stop h);have hs66:secAt d.n gen 0≤secAt d.n gen pos:=by unfold secAt;omega
   have hs65:secAt d.n gen 0≤65536:=by have:=HN.out.2;omega
   generalize gB (rd d) d.n gen pos sq=RB at *;generalize gFit (rd d) d.n gen pos=RF at *;generalize gUn (rd d) d.n gen pos=RU at *;generalize gMk (rd d) d.n gen pos sq=RM at *;generalize gX (rd d) d.n gen pos=RX at *;generalize gSecs (rd d) d.n gen pos=LS at *;generalize gLen (rd d) d.n gen pos=L at *;generalize hokk:getB (rd d (secAt d.n gen pos))=ok at *;generalize hMM:getM (rd d (secAt d.n gen pos))=M at *;have HEQM:=hid (eq_cases M (markM gen sq RX));generalize rd d (secAt d.n gen pos)=xs at *;have HPN:Hid (secAt d.n gen pos+takes1 []≤d.n):=hid (by unfold takes1 need;simp;omega);have HPE:Hid (∀i,i<need L→need L+pos<room d.n→secAt d.n gen pos+1+i<d.n):=hid (fun i hi hf=>by
    rw[←HSEC.out i];exact sec_lt (by have:=HN.out.1;omega) (by omega))
   clear hrdx HSEC;generalize secAt d.n gen pos=P at *;generalize secAt d.n gen 0=P0 at *;obtain⟨m0,m1,m2,m3⟩:=M;try dsimp only at hL
   try dsimp only at hmp
   try dsimp only at HEQM
   have hPb:P<65536:=by have:=HN.out.2;omega
   obtain⟨hq1,hq2,h30,h31⟩:=hmp;go_wp2_with (first
    |(go_at_call 30;refine(HRM.out _ HRK.out).mono ?_;rintro e u ⟨rfl,rfl⟩)
    |(go_at_call 60;refine(HFI.out _ HRK.out).mono ?_;rintro e u ⟨rfl,rfl⟩))
   refine HREAD.out.mono ?_;rintro e w1 ⟨A1,c1,rfl,hnb,hc1,hm1,hb1,_,_⟩;have HGT:=hid (Frm.rget_any w1 w1.heap.size 64 c1 A1 xs (hnb [] (by simp)).byts (Nat.le_refl _) hc1 hm1);have HB1:=hid hb1;rw[hMM,hokk] at HGT;unfold Frm.tupV Frm.mkV at HGT;try dsimp only at HGT
   clear hnb hc1 hm1 hb1 HREAD;go_wp2_with fail;refine HGT.out.mono ?_;rintro e w2 ⟨rfl,hb2⟩;have HB2:=hid (HB1.out.trans (hb2.mono HB1.out.size));clear hb2 HGT HB1;go_upto_region 7 with fail;have HMB:Hid ((w2.alloc (.cells #[.int .i64 m0,.int .i64 m1,.int .i64 m2,.int .i64 m3] 117)).heap[w2.heap.size]? =some (.cells #[.int .i64 m0,.int .i64 m1,.int .i64 m2,.int .i64 m3] 117 (0,0))):=hid (heap_alloc_new w2 _);have HB3:=hid (HB2.out.alloc HB2.out.size (.cells #[.int .i64 m0,.int .i64 m1,.int .i64 m2,.int .i64 m3] 117));have HML:Hid (wr.heap.size≤w2.heap.size):=hid HB2.out.size;clear HB2;generalize w2.alloc (.cells #[.int .i64 m0,.int .i64 m1,.int .i64 m2,.int .i64 m3] 117)=w3 at *;generalize w2.heap.size=mb at *;have k0:w3.cell? ⟨mb,0,none⟩=some (.int .i64 m0):=cell_at HMB.out 0;have k1:w3.cell? ⟨mb,1,none⟩=some (.int .i64 m1):=cell_at HMB.out 1;have k2:w3.cell? ⟨mb,2,none⟩=some (.int .i64 m2):=cell_at HMB.out 2;have HRK3:=hid (HRK.out.below HB3.out);have HND:=hid (fun u=>Frm.rneed_any (L:Int) u (by unfold in64;omega));rw[needI_nat] at HND;have hnd:need L≤33554433:=by unfold need;omega
   have HE2:Hid (RB=true→ok=true∧m0=2∧m1=gen∧m2=sq∧L≤1048576∧need L+pos<room d.n):=hid (fun hb=>by
    rw[HGB.out,HGF.out,HGU.out,HGM.out] at hb;simp only[Bool.and_eq_true,decide_eq_true_eq] at hb;obtain⟨⟨h1,h2⟩,h3,h4⟩:=hb;rcases HEQM.out with⟨_,e0,e1,e2,_⟩|⟨e,_⟩
    ·unfold unpackB at h3;simp only[Bool.and_eq_true,decide_eq_true_eq] at h3;exact⟨h1,by simpa [markM] using e0,by simpa [markM] using e1,by simpa [markM] using e2,by omega,h2⟩
    ·rw[e] at h4;cases h4)
   have HPI:=hid (And.intro hPI (And.intro hs65 hs66));clear hMM hokk hL hPI hs65 hs66 hq1 hq2;go_cut [73] (fun v wx=>w3=wx∧∃v':Bool,v= .bool v'∧(v'=true→RB=false)∧(v'=false→ok=true∧m0=2∧m1=gen∧m2=sq∧L≤1048576∧need L+pos<room d.n))
   case first=>
    have HNO:Hid (¬(ok=true∧m0=2∧m1=gen∧m2=sq∧L≤1048576∧need L+pos<room d.n)→RB=false):=hid (fun h=>by
     cases hb:RB
     ·rfl
     ·exact absurd (HE2.out hb) h)
    cases ok with
    |false=>
     go_wp2_with fail;go_meet
     exact⟨rfl,true,rfl,fun _=>HNO.out (by simp),fun h=>(by cases h)⟩
    |true=>
     by_cases h0:m0=2
     ·subst h0;by_cases h1:m1=(gen:Int)
      ·subst h1;by_cases h2:m2=(sq:Int)
       ·subst h2;by_cases h3:(1048576:Int)<(L:Int)
        ·go_wp2_with fail;go_meet
         exact⟨rfl,true,rfl,fun _=>HNO.out (by omega),fun h=>(by cases h)⟩
        by_cases h4:(room d.n:Int)<(pos:Int)+1+(need L:Int)
        ·go_wp2_with (first
         |(go_at_call 68;refine(HND.out _).mono ?_;rintro e u ⟨rfl,rfl⟩)
         |(go_at_call 30;refine(HRM.out _ HRK3.out).mono ?_;rintro e u ⟨rfl,rfl⟩))
         go_meet
         exact⟨rfl,true,rfl,fun _=>HNO.out (by omega),fun h=>(by cases h)⟩
        go_wp2_with (first
        |(go_at_call 68;refine(HND.out _).mono ?_;rintro e u ⟨rfl,rfl⟩)
        |(go_at_call 30;refine(HRM.out _ HRK3.out).mono ?_;rintro e u ⟨rfl,rfl⟩))
        go_meet
        exact⟨rfl,false,by simp;omega,fun h=>(by cases h),fun _=>⟨(by first|rfl|trivial),(by first|rfl|trivial),(by first|rfl|trivial),(by first|rfl|trivial),by omega,by omega⟩⟩
       have h2':(m2 !=(sq:Int))=true:=by simpa using h2
       go_wp2_with fail;go_meet
       exact⟨rfl,true,rfl,fun _=>HNO.out (by omega),fun h=>(by cases h)⟩
      have h1':(m1 !=(gen:Int))=true:=by simpa using h1
      go_wp2_with fail;go_meet
      exact⟨rfl,true,rfl,fun _=>HNO.out (by omega),fun h=>(by cases h)⟩
     have h0':(m0 !=2)=true:=by simpa using h0
     go_wp2_with fail;go_meet
     exact⟨rfl,true,rfl,fun _=>HNO.out (by omega),fun h=>(by cases h)⟩
   case rest=>
    obtain⟨hwx,v',rfl,hv1,hv2⟩:=hcut;subst hwx;cases v' with
    |true=>
     have HE:=hid (HEND.out (HSTOP.out (hv1 rfl)) w3 HB3.out);clear hv1 hv2;go_wp2_with fail;go_ret;exact HE.out
    |false=>
     obtain⟨rfl,rfl,rfl,rfl,hLm,hfit⟩:=hv2 rfl;clear hv1 hv2 k0 k1 k2;obtain⟨wo,rfl⟩:∃q:World,q=wr:=⟨_,rfl⟩
     go_wp2_with fail;go_loopw [12,13,14,15] (fun lv iv _ _ wi=>∃(i:Nat) (A2:Option Addr) (c2:Nat),iv= .int .i64 i∧i≤need L∧lv= .slice A2 i c2∧OR wi w3.heap.size (.slice A2 i c2) i (LS.take i)∧Below w3.heap.size w3 wi) (fun _ iv _ _ _=>need L-(Go.RowKit.intOf iv).toNat)
     case atStart=>exact⟨0,none,0,rfl,Nat.zero_le _,rfl,by simpa using OR.nil,Below.refl _ _⟩
     case round=>
      obtain⟨i,A2,c2,rfl,hi,rfl,hor,hbi⟩:=hrel;have HOI:=hid hor;have HBI:=hid hbi;have HRKi:=hid (HRK3.out.below hbi);clear hor hbi;by_cases hil:i<need L
      ·obtain⟨hPI,hs65,hs66⟩:=HPI.out;have hrl:P+1+i<d.n:=HPE.out i hil hfit;have hrx:d.read (P+1+i)=rd d (P+1+i):=by unfold rd;rw[if_pos hrl]
       have HRI:=hid (HRD.out wr (P+1+i) HRKi.out hrl);rw[hrx] at HRI;have hLt:LS.take (i+1)=LS.take i++[rd d (P+1+i)]:=by
        have hl:LS.length=need L:=by rw[HRS.out];simp
        rw[List.take_succ_eq_append_getElem (by omega)];congr 2;have:LS[i]? =some (rd d (P+1+i)):=by rw[HRS.out];simp[hil]
        rw[List.getElem?_eq_getElem (by omega)] at this;simpa using this
       have HLT:=hid hLt;push_cast at HRI;have hPs:(P:Int)+1+(i:Int)≤200000:=by have:=HN.out.2;omega
       clear hrl hrx hLt;generalize rd d (P+1+i)=xi at *;go_wp2_with (first
        |(go_at_call 68;refine(HND.out _).mono ?_;rintro e u ⟨rfl,rfl⟩)
        |(go_at_call 60;refine(HFI.out _ HRKi.out).mono ?_;rintro e u ⟨rfl,rfl⟩))
       refine HRI.out.mono ?_;rintro e w5 ⟨A5,c5,rfl,hnb,hc5,hm5,hb5,ha5,hu5⟩;have HIT:Hid (Itm w5 w3.heap.size (.slice A5 64 c5) xi):=hid (itm_of (hnb [] (by simp)).byts hc5 hm5 (ha5.mono HBI.out.size) hu5);have HO5:=hid (HOI.out.below hb5);have HB5:=hid (HBI.out.trans (hb5.mono HBI.out.size));clear hnb hc5 hm5 hb5 ha5 hu5 HRI HOI HBI hPI hs65 hs66;go_wp2_with (at_builtin;(refine wpList_app_or _ rfl (.tmp 94) (.tmp 96) rfl w3.heap.size (.slice A2 i c2) i (LS.take i) rfl (HO5.out.below (Frm.alloc_below w5 _)) w5.heap.size A5 64 c5 xi rfl (heap_alloc_new w5 _) (HIT.out.below (Frm.alloc_below w5 _)) (by omega) (by rw[World.size_alloc];have:=HB5.out.size;omega) ?_);intro A6 c6 w6 ho6 hb6 _;have HO6:=hid ho6;have HB6:=hid ((HB5.out.alloc HB5.out.size _).trans hb6);clear ho6 hb6);go_roundw
       case rel=>exact⟨i+1,A6,c6,by go_num,by omega,rfl,by rw[HLT.out];exact HO6.out,HB6.out⟩
       case measure=>simp[Go.RowKit.intOf];omega
      obtain rfl:i=need L:=by omega
      have hLa:LS.take (need L)=LS:=List.take_of_length_le (by rw[HRS.out];simp);have HUN:=hid (Frm.runpack_any wr (need L) c2 A2 LS (L:Int) (by unfold in64;omega) (by have:=HOI.out.rows (S:=[]) (by simp);rw[hLa] at this;exact this.rows));rw[←HGX.out,←HGU.out] at HUN;clear hLa HOI hi;go_wp2_with (first
       |(go_at_call 68;refine(HND.out _).mono ?_;rintro e u ⟨rfl,rfl⟩)
       |(go_at_call 60;refine(HFI.out _ HRKi.out).mono ?_;rintro e u ⟨rfl,rfl⟩))
      refine HUN.out.mono ?_;rintro e w7 ⟨A7,m7,c7,rfl,hy7,hb7⟩;have HY7:=hid hy7;have HB7:=hid (HBI.out.trans (hb7.mono HBI.out.size));have HM7:=hid ((HB7.out.block mb (lt_of_heap HMB.out)).trans HMB.out);clear hy7 hb7 HUN HBI;go_upto_region 16 with fail;go_cut [114] (fun v wx=>Below w7.heap.size w7 wx∧v= .bool (!RB))
      case first=>
       rcases Bool.eq_false_or_eq_true RU with hU|hU;rotate_left
       ·have HU:=hid hU;have HRBV:Hid (RB=false):=hid (by rw[HGB.out,hU];simp);clear hU;have HS:Hid (w7.drew.heap[mb]? =some (.cells #[.int .i64 2,.int .i64 gen,.int .i64 sq,.int .i64 m3] 117 (0,0))):=hid HM7.out;have HB0:=hid (Below.refl w7.heap.size w7).drew;have HY0:=hid (HY7.out.below HB0.out);refine Frm.wh_start (fun u=>u.heap[mb]? =some (.cells #[.int .i64 2,.int .i64 gen,.int .i64 sq,.int .i64 m3] 117 (0,0))) (by kernel_rfl) ?_;generalize w7.drew=u0 at *;refine Frm.wa 0 104 (.bool RU) HS.out ?_;go_frame;refine Frm.wd 1 105 (.bool true) HS.out (fun w' hw'=> ?_) ?_
        ·have hu:=HU.out;go_simp
        go_frame;refine Frm.wa 2 106 (.bool true) HS.out ?_;go_frame;refine Frm.wq 3 107 HS.out ?_;go_frame;refine Frm.wq 4 108 HS.out ?_;go_frame;refine Frm.wq 5 109 HS.out ?_;go_frame;refine Frm.wq 6 110 HS.out ?_;go_frame;refine Frm.wq 7 111 HS.out ?_;go_frame;refine Frm.wq 8 112 HS.out ?_;go_frame;refine Frm.wq 9 113 HS.out ?_;go_frame;refine Frm.wb 10 114 (.bool true) HS.out ?_;go_frame;refine wpAnyH_done (by kernel_rfl) ?_ _;go_wp2_with fail;go_meet
        exact⟨HB0.out,by rw[HRBV.out];rfl⟩
       have HU:=hid hU;have hXL:=HXL.out hU;have HM7L:Hid (m7≤1048576):=hid (by have:=HY7.out.len;omega);obtain⟨mn,hmn⟩:∃q,(markM gen sq RX).n=q:=⟨_,rfl⟩
       have HMV:Hid (Frm.mkV (markM gen sq RX)= .agg #[.int .i64 2,.int .i64 gen,.int .i64 sq,.int .i64 mn]):=hid (by rw[←hmn];rfl);by_cases hq0:mn=m3
       ·have HRBV:Hid (RB=true):=hid (by
         rw[HGB.out,HGF.out,hU,HGM.out];rcases HEQM.out with⟨e,_⟩|⟨_,e⟩
         ·rw[e];simp;omega
         ·rcases e with e|⟨_,e⟩|⟨_,_,e⟩|⟨_,_,_,e⟩
          ·simp[markM] at e
          ·simp[markM] at e
          ·simp[markM] at e
          ·rw[hmn,hq0] at e;simp at e)
        have HQ:Hid ((mn==m3)=true):=hid (by simpa using hq0);clear hU hXL hmn;have HS:Hid (w7.drew.heap[mb]? =some (.cells #[.int .i64 2,.int .i64 gen,.int .i64 sq,.int .i64 m3] 117 (0,0))):=hid HM7.out;have HB0:=hid (Below.refl w7.heap.size w7).drew;have HY0:=hid (HY7.out.below HB0.out);refine Frm.wh_start (fun u=>u.heap[mb]? =some (.cells #[.int .i64 2,.int .i64 gen,.int .i64 sq,.int .i64 m3] 117 (0,0))) (by kernel_rfl) ?_;generalize w7.drew=u0 at *;refine Frm.wa 0 104 (.bool RU) HS.out ?_;go_frame;refine Frm.wd 1 105 (.bool false) HS.out (fun w' hw'=> ?_) ?_
        ·have hu:=HU.out;go_simp
        go_frame;refine Frm.wa 2 106 (.bool false) HS.out ?_;go_frame;refine Frm.wa 3 107 (.int .i64 gen) HS.out ?_;go_frame;refine Frm.wa 4 108 (.slice A sq c) HS.out ?_;go_frame;refine Frm.wb 5 109 (.int .i64 sq) HS.out ?_;go_frame;refine Frm.wa 6 110 (.slice A7 m7 c7) HS.out ?_;go_frame;refine Frm.wd 8 112 (.agg #[.int .i64 2,.int .i64 gen,.int .i64 sq,.int .i64 m3]) HS.out (fun w' hw'=> ?_) ?_
        ·have k0:=cell_at hw' 0;have k1:=cell_at hw' 1;have k2:=cell_at hw' 2;have k3:=cell_at hw' 3;go_simp
        go_frame;have HMC:=hid (rmark_any u0 gen sq u0.heap.size m7 c7 A7 RX (HY0.out.more HB0.out.size) (Nat.le_refl _) HM7L.out);rw[HMV.out] at HMC;refine Frm.wh_call 7 111 70 #[.int .i64 gen,.int .i64 sq,.slice A7 m7 c7] rfl rfl (by kernel_rfl) rfl ?_ ?_
        ·go_simp
        refine HMC.out.mono ?_;rintro e w8 ⟨rfl,hb8⟩;have HS:=hid ((hb8.block mb (lt_of_heap HS.out)).trans HS.out);have HB0:=hid (HB0.out.trans (hb8.mono HB0.out.size));clear hb8;refine⟨_,rfl,HS.out,?_⟩;go_frame;refine Frm.wd 9 113 (.bool false) HS.out (fun w' hw'=> ?_) ?_
        ·have hq:=HQ.out;go_simp
        go_frame;refine Frm.wb 10 114 (.bool false) HS.out ?_;go_frame;refine wpAnyH_done (by kernel_rfl) ?_ _;go_wp2_with fail;go_meet
        exact⟨HB0.out,by rw[HRBV.out];rfl⟩
       have HRBV:Hid (RB=false):=hid (by
        rw[HGB.out,HGM.out];rcases HEQM.out with⟨_,_,_,_,e⟩|⟨e,_⟩
        ·rw[hmn] at e;exact absurd (by simpa using e) (fun h:m3=mn=>hq0 h.symm)
        ·rw[e];simp)
       have HQ:Hid ((mn==m3)=false):=hid (by simpa using hq0);clear hU hXL hmn;have HS:Hid (w7.drew.heap[mb]? =some (.cells #[.int .i64 2,.int .i64 gen,.int .i64 sq,.int .i64 m3] 117 (0,0))):=hid HM7.out;have HB0:=hid (Below.refl w7.heap.size w7).drew;have HY0:=hid (HY7.out.below HB0.out);refine Frm.wh_start (fun u=>u.heap[mb]? =some (.cells #[.int .i64 2,.int .i64 gen,.int .i64 sq,.int .i64 m3] 117 (0,0))) (by kernel_rfl) ?_;generalize w7.drew=u0 at *;refine Frm.wa 0 104 (.bool RU) HS.out ?_;go_frame;refine Frm.wd 1 105 (.bool false) HS.out (fun w' hw'=> ?_) ?_
       ·have hu:=HU.out;go_simp
       go_frame;refine Frm.wa 2 106 (.bool false) HS.out ?_;go_frame;refine Frm.wa 3 107 (.int .i64 gen) HS.out ?_;go_frame;refine Frm.wa 4 108 (.slice A sq c) HS.out ?_;go_frame;refine Frm.wb 5 109 (.int .i64 sq) HS.out ?_;go_frame;refine Frm.wa 6 110 (.slice A7 m7 c7) HS.out ?_;go_frame;refine Frm.wd 8 112 (.agg #[.int .i64 2,.int .i64 gen,.int .i64 sq,.int .i64 m3]) HS.out (fun w' hw'=> ?_) ?_
       ·have k0:=cell_at hw' 0;have k1:=cell_at hw' 1;have k2:=cell_at hw' 2;have k3:=cell_at hw' 3;go_simp
       go_frame;have HMC:=hid (rmark_any u0 gen sq u0.heap.size m7 c7 A7 RX (HY0.out.more HB0.out.size) (Nat.le_refl _) HM7L.out);rw[HMV.out] at HMC;refine Frm.wh_call 7 111 70 #[.int .i64 gen,.int .i64 sq,.slice A7 m7 c7] rfl rfl (by kernel_rfl) rfl ?_ ?_
       ·go_simp
       refine HMC.out.mono ?_;rintro e w8 ⟨rfl,hb8⟩;have HS:=hid ((hb8.block mb (lt_of_heap HS.out)).trans HS.out);have HB0:=hid (HB0.out.trans (hb8.mono HB0.out.size));clear hb8;refine⟨_,rfl,HS.out,?_⟩;go_frame;refine Frm.wd 9 113 (.bool true) HS.out (fun w' hw'=> ?_) ?_
       ·have hq:=HQ.out;go_simp
       go_frame;refine Frm.wb 10 114 (.bool true) HS.out ?_;go_frame;refine wpAnyH_done (by kernel_rfl) ?_ _;go_wp2_with fail;go_meet
       exact⟨HB0.out,by rw[HRBV.out];rfl⟩
      case rest=>
       obtain⟨hbx,rfl⟩:=hcut;have HB8:=hid (HB3.out.trans ((HB7.out.trans (hbx.mono HB7.out.size)).mono HB3.out.size));have HY8:=hid ((HY7.out.below hbx).more hbx.size);clear hbx HB7 HY7 HM7;cases hRB:RB with
       |false=>
        have HE:=hid (HEND.out (HSTOP.out hRB) wc HB8.out);clear hRB;go_wp2_with fail;go_ret;exact HE.out
       |true=>
        have hRU:RU=true:=by rw[HGB.out] at hRB;simp only[Bool.and_eq_true] at hRB;exact hRB.2.1
        have hXL:=HXL.out hRU;have hm7:RX.length=m7:=HY8.out.len;obtain rfl:m7=L:=by omega
        have HT1:Hid (takes1 RX=1+need m7):=hid (by unfold takes1;rw[hXL]);have HST:=hid (HSTEP.out hRB);rw[HT1.out] at HST;have HO8:=hid (HOR.out.below HB8.out);have HB9:=hid (HB.out.trans (HB8.out.mono HB.out.size));have HOn:Hid (Owns (wc.alloc (.cells #[] 5)) wc.heap.size (.slice (some ⟨wc.heap.size,0,none⟩) 0 0) 0 []):=hid (World.ownsRow_made wc #[] 0 (Nat.le_refl _) (Nat.zero_le _) rfl);have HBa:=hid (Frm.alloc_below wc (.cells #[] 5));clear hRB hRU hXL hm7;go_wp2_with (at_builtin;first
         |(refine wpList_app_k _ rfl (.tmp 117) (.tmp 118) rfl wc.heap.size (.slice (some ⟨wc.heap.size,0,none⟩) 0 0) 0 [] rfl HOn.out wc.heap.size A7 m7 c7 RX rfl (HY8.out.below HBa.out) m7 (by omega) (by omega) HBa.out.size ?_;intro A9 c9 w9 ho9 hg9;have HO9:Hid (Owns w9 wc.heap.size (.slice A9 m7 c9) m7 RX):=hid (by simpa using ho9);have HBb:=hid (HBa.out.trans (own_below HOn.out HBa.out.size hg9));clear ho9 hg9)
         |(refine wpList_app_or _ rfl (.tmp 116) (.tmp 120) rfl w.heap.size (.slice A sq c) sq gs rfl ((HO8.out.below HBb.out).below (Frm.alloc_below w9 _)) w9.heap.size A9 m7 c9 RX rfl (heap_alloc_new w9 _) (Itm.below (itm_own HO9.out HB9.out.size) (Frm.alloc_below w9 _)) (by omega) (by rw[World.size_alloc];have:=HB9.out.size;have:=HBb.out.size;omega) ?_;intro Aa ca wa hoa hba _;have HOa:=hid hoa;have HBc:=hid (((HB9.out.trans (HBb.out.mono HB9.out.size)).alloc (by have:=HB9.out.size;have:=HBb.out.size;omega) _).trans hba);clear hoa hba))
        go_roundw
        case rel=>exact⟨pos+1+need m7,Aa,ca,gs++[RX],by push_cast;first|rfl|(congr 1;omega),by simp[HSQ.out],by simpa [HSQ.out] using HOa.out,by simp[HSQ.out];omega,by omega,by rw[HEQ.out,HST.out,List.append_assoc];simp[HSQ.out,Nat.add_assoc],HBc.out⟩
        case measure=>simp[Go.RowKit.intOf];omega
  have hst:gB (rd d) d.n gen pos sq=false:=by
   unfold gB gFit;have:decide (need (gLen (rd d) d.n gen pos)+pos<room d.n)=false:=by simp;omega
   rw[this];simp
  have HE:=hid (HEND.out (groups_stop hst) wr (Below.refl _ _));clear hst;go_wp2_with (first
   |(go_at_call 30;refine(HRM.out _ HRK.out).mono ?_;rintro e u ⟨rfl,rfl⟩)
   |(go_at_call 60;refine(HFI.out _ HRK.out).mono ?_;rintro e u ⟨rfl,rfl⟩))
  go_ret;exact HE.out
end Go.Proofs.YtdjhlhellkajfaaGreat.Jou
namespace Go.Proofs.YtdjhlhellkajfaaGreat.Jou
open Go.RowKit Codec FrameM Cod JourM
open Disk (Turn Dk Dsk ptr Now upd)
def RJNow (z:Int) (w:World) (S:List Nat) (y r bs bw:Nat) (d:Dsk) (jr:Jr) (e:Ending) (w':World):Prop:=e= .returned (.int .i64 z)∧RJ w' S y r bs bw d jr∧Turn [y,r,bs,bw] w w'
end Go.Proofs.YtdjhlhellkajfaaGreat.Jou
