/-
  Texts KSur, KRen, KPtb, in one file. What each proves, and its conditions, stand at its head below.
-/
import Derived.Test.YtdjhlhellkajfaaGreatY14
import Derived.Test.YtdjhlhellkajfaaGreatY23
import Derived.Test.YtdjhlhellkajfaaGreatY24
import Derived.Test.YtdjhlhellkajfaaGreatY29
import Derived.Test.YtdjhlhellkajfaaGreatY35
import Derived.Test.YtdjhlhellkajfaaGreatY43
import Derived.Deep.DeepCutAuto
set_option maxRecDepth 100000
set_option maxHeartbeats 4000000
open Go.Lib (hid)
namespace Go.Proofs.YtdjhlhellkajfaaGreat.Cch
open Go.RowKit Codec Cod
open Disk (Turn Dk Dsk ptr)
open JourM (Jr takes takes1)
open Jou (Jn It RowsB RowL)
def sur:List (List UInt8)→Nat→Nat
 |[],_=>0
 |x::l,r=>if takes (x::l)≤r then 0 else sur l r+1
theorem sur_le:∀(l:List (List UInt8)) (r:Nat),sur l r≤l.length
 |[],_=>Nat.le_refl _
 |x::l,r=>by
  unfold sur;split
  ·exact Nat.zero_le _
  have:=sur_le l r;simp only[List.length_cons];omega
theorem sur_done{l:List (List UInt8)}{r:Nat}(h:takes l≤r):sur l r=0:=by
 cases l with
 |nil=>rfl
 |cons x l=>unfold sur;rw[if_pos h]
theorem sur_step{l:List (List UInt8)}{r k:Nat}(hk:k<l.length)(h:r<takes (l.drop k)):sur (l.drop k) r=sur (l.drop (k+1)) r+1∧takes (l.drop k)=takes1 (l.getD k [])+takes (l.drop (k+1)):=by
 have e:l.drop k=l[k]::l.drop (k+1):=List.drop_eq_getElem_cons hk;have e2:l.getD k []=l[k]:=by rw[List.getD_eq_getElem?_getD,List.getElem?_eq_getElem hk];rfl
 rw[e] at h ⊢;refine⟨?_,by rw[e2];rfl⟩;conv=>lhs;unfold sur
 rw[if_neg (by omega)]
theorem surplus_any(w:World)(n c:Nat)(A:Option Addr)(ls:List (List UInt8))(room:Nat)(hr:RowsB w [] A n ls)(ht:takes ls≤1000000)(hm:room≤1000000):
  Calls Tryz.prog 122 #[.slice A n c,.int .i64 (room:Int)] w (EndsBelow (.int .i64 (sur ls room)) w):=by
 have HT:=hid ht;have HR:=hid hr;have HLN:=hid hr.len;have HTK:=hid (Jou.takes_any w n c A ls hr.rowl (by omega));obtain⟨t0,ht0⟩:∃t0,takes ls=t0:=⟨_,rfl⟩
 have HT0:=hid ht0;have h1:(t0:Int)≤1000000:=by omega
 have h2:(room:Int)≤1000000:=by omega
 rw[ht0] at HTK;have HNN:Hid (n≤1000000):=hid (by have:=JourM.takes_length ls;have:=hr.len;omega);clear hr ht hm ht0;go_enter Tryz.func122,Tryz.ntmps122;go_wp2_with fail;refine HTK.out.mono ?_;rintro e u ⟨rfl,rfl⟩;go_wp2_with fail;go_loopw [5,6] (fun i o wr=>∃k:Nat,k≤n∧i= .int .i64 k∧o= .int .i64 ((takes (ls.drop k):Int)-room)∧sur ls room=k+sur (ls.drop k) room∧takes (ls.drop k)≤1000000∧Below w.heap.size w wr) (fun i _ _=>n-(Go.RowKit.intOf i).toNat)
 case atStart=>exact⟨0,Nat.zero_le _,rfl,by rw[List.drop_zero,HT0.out],by simp,by rw[List.drop_zero];exact HT.out,Below.refl _ _⟩
 case round=>
  obtain⟨k,hk,rfl,rfl,hs,htk,hb⟩:=hrel;have HS:=hid hs;have HB:=hid hb;have HTD:=hid htk;clear hs hb;obtain⟨tk,htke⟩:∃tk,takes (ls.drop k)=tk:=⟨_,rfl⟩
  have HTE:=hid htke;rw[htke] at htk ⊢;have h3:(tk:Int)≤1000000:=by omega
  clear htke htk;by_cases hgt:room<tk
  ·have hgi:(0:Int)<(tk:Int)-room:=by omega
   have hkl:k<ls.length:=by
    rcases Nat.lt_or_ge k ls.length with e|e
    ·exact e
    have h4:=HTE.out;rw[List.drop_eq_nil_of_le e] at h4;simp[takes] at h4;omega
   obtain⟨hst,htt⟩:=sur_step (l:=ls) (r:=room) hkl (by rw[HTE.out];exact hgt);have HST:=hid hst;have HTT:=hid htt;have hkn:k<n:=by rw[←HLN.out];exact hkl
   have hrw:=(HR.out.below HB.out).rowl;obtain⟨rb,ro,Ak,ck,hix,hcell⟩:=hrw.at hkn;have hidx:=hix c;have hle1:takes1 (ls.getD k [])≤1000000:=by have:=HTE.out;omega
   have HTO:Hid (takes [ls.getD k []]=takes1 (ls.getD k [])):=hid (by simp[takes]);have HTK2:=hid (Jou.takes_any (wr.alloc (.cells #[.slice Ak (ls.getD k []).length ck] 39)) 1 1 (some ⟨wr.heap.size,0,none⟩) [ls.getD k []] (Jou.rowl_one wr Ak ck _ _ rfl) (by rw[HTO.out];omega));rw[HTO.out] at HTK2;have HBA:=Frm.alloc_below wr (.cells #[.slice Ak (ls.getD k []).length ck] 39);have HBA:=hid HBA;have HTT1:=HTT;obtain⟨t1,ht1⟩:∃t1,takes1 (ls.getD k [])=t1:=⟨_,rfl⟩
   rw[ht1] at HTK2 hle1 HTT1;have h5:(t1:Int)≤1000000:=by omega
   have hk6:(k:Int)≤1000000:=by have:=HNN.out;omega
   clear hrw hix hst htt HTT ht1 HTO;generalize (ls.getD k []).length=lx at *;go_wp2_with fail;refine HTK2.out.mono ?_;rintro e w2 ⟨rfl,rfl⟩;have HB2:=hid (HB.out.trans (HBA.out.mono HB.out.size));clear HBA HTK2 hcell hidx;go_wp2_with fail;go_roundw
   case rel=>exact⟨k+1,by omega,by go_num,by
    have h6:=HTT1.out;have h7:=HTE.out;congr 1;omega,by have:=HS.out;have:=HST.out;omega,by have:=HTT1.out;have:=HTE.out;have:=HTD.out;omega,HB2.out⟩
   case measure=>simp[Go.RowKit.intOf];omega
  have hgi:¬(0:Int)<(tk:Int)-room:=by omega
  have HFN:Hid (sur ls room=k):=hid (by
   have h4:=sur_done (l:=ls.drop k) (r:=room) (by rw[HTE.out];omega);have:=HS.out;omega)
  go_wp2_with fail;go_ret;exact⟨by rw[HFN.out];rfl,HB.out⟩
theorem others_any(w:World)(p o lo b last:Nat)(N:List Nmb)(key:ByteArray)(h:Shf w p o lo b N last)(hN:N.length≤1000000):
  Calls Tryz.prog 121 #[.pointer (some ⟨p,o,none⟩),.string key] w (fun e w'=>∃u,e= .returned u∧Els.OwnE w' w.heap.size u (Els.cut (ents N) key)∧Below w.heap.size w w'):=by
 have HI:=hid (inorder_any sorts _ p o lo b last N (h.below (Frm.alloc_below w (.cells #[.string key] 9))) hN);have HB1:=hid (Frm.alloc_below w (.cells #[.string key] 9));have HX1:=hid (heap_alloc_new w (.cells #[.string key] 9));have HSZ:Hid ((w.alloc (.cells #[.string key] 9)).heap.size=w.heap.size+1):=hid (World.size_alloc _ _);have HNL:=hid hN;clear h hN;go_enter Tryz.func121,Tryz.ntmps121;go_wp2_with fail;refine HI.out.mono ?_;rintro e w2 ⟨u,rfl,her,hb2⟩;obtain⟨eb,C,rfl,heb,hh,hsz,hel⟩:=her;have HX2:=hid ((hb2.block w.heap.size (by simp)).trans HX1.out);have HB2:=hid (HB1.out.trans (hb2.mono HB1.out.size));have HEB:Hid (w.heap.size<eb):=hid (by have:=HSZ.out;omega);have hlen:(ents N).length≤1000000:=by unfold ents;rw[List.length_map];exact HNL.out
 have HD:=hid (Els.del_any w2 w.heap.size w.heap.size (.slice (some ⟨eb,0,none⟩) (ents N).length (ents N).length) (ents N) key ⟨eb,_,C,rfl,by have:=HEB.out;omega,hh,hsz,Nat.le_refl _,by unfold maxLen;omega,hel⟩ hlen (cell_at HX2.out 0) (by have:=HEB.out;simp[Value.ownBlock];omega));clear hb2 hh hsz hel hlen HX1 HI heb;generalize (ents N).length=n at *;go_wp2_with fail;refine HD.out.mono ?_;rintro e w3 ⟨v3,rfl,ho3,hv3,ht3⟩;have HO:=hid ho3;have HB3:Hid (Below w.heap.size w w3):=hid (HB2.out.trans (ht3.low (fun q hq=>by have:=HEB.out;simp[Value.ownBlock] at hq;omega) HB2.out.size));clear ho3 hv3 ht3 HD;go_wp2_with fail;go_ret;exact⟨_,rfl,HO.out,HB3.out⟩
end Go.Proofs.YtdjhlhellkajfaaGreat.Cch
namespace Go.Proofs.YtdjhlhellkajfaaGreat.Cch
open Go.RowKit Codec Cod
open Disk (Turn Dk Dsk ptr)
open JourM (Jr takes takes1 rstE rstD rstJ)
open Jou (Jn It RowsB Bts)
theorem sizeS(w:World):(Go.sizeOf (Tryz.prog.elem 40)).run Tryz.prog w= .ok 1 w:=by kernel_rfl
theorem run_fromS(w:World)(A:Option Addr)(n c k:Nat)(hk:k≤n):
  (Instr.slice 40 (.slice A n c) (some (.int .i64 k)) none none).run Tryz.prog w= .ok (.slice (if c=k then A else A.map (·.add k)) (n-k) (c-k)) w:=by
 rw[run_slice_l (P:=Tryz.prog) w 40 A n c Tryz.underlying40 .i64 k (by omega) (by omega),sizeS];simp[Result.andThen,sliced]
section
variable {ops:Array Oper} {Q:Exit→Act→World→Prop} {md:Region.Mode} {S:World→Prop} {fuel:Nat} {listed:Array Bool} {a:Act} {w:World}
theorem wh_app2(i d:Nat){oi:Oper}(hi:ops[i]? =some oi)(hd:oi.dst=some d)(hr:Region.ready md ops listed=[i])(hw:Region.wanted oi (yielded ops a.tmps)=true)(T:TypeId)
  (s x:Operand) (ho:oi.op= .call {callee:= .builtin .append,args:= #[s,x],argTypes:= #[T,T]}) (v u v2:Value) (w2:World) (hs:a.eval s=v) (hx:a.eval x=u)
  (hrun:∀ty,(Builtin.append_ #[T,T] ty #[v,u]).run Tryz.prog w= .ok v2 w2) (hS:S w2) (h:wpAnyH Tryz.prog md ops Q S fuel (listed.setIfInBounds i true) (a.put (some d) v2) w2):wpAnyH Tryz.prog md ops Q S (fuel+1) listed a w:=by
 refine Frm.wh_run i d v2 w2 hi hd hr hw ?_ hS h;unfold execOp;simp only[ho,resolve,invoke,builtin,Sem.run_bind,Sem.run_pure,Result.andThen_ok,List.map_toArray,List.map_cons,List.map_nil,hs,hx,hrun]
end
theorem app_tail(w:World)(S:List Nat)(lb m go xb:Nat)(A1:Option Addr)(sz c1:Nat)(pk:List (List UInt8))(x:List UInt8)(hr:RowsB w S (some ⟨lb,0,none⟩) m pk)(ho:Bts w S A1 sz x)(hx:w.heap[xb]? =some (.cells #[.slice A1 sz c1] 39 (0,0)))(hgo:go≤m)(hm:m≤100000)(hS:∀k∈S,k<w.heap.size)(hc:sz≤c1∧c1≤maxLen):
  ∃A' c' w',(∀ty,(Builtin.append_ #[40,40] ty #[.slice (if m=go then some ⟨lb,0,none⟩ else (some ⟨lb,0,none⟩:Option Addr).map (·.add go)) (m-go) (m-go),.slice (some ⟨xb,0,none⟩) 1 1]).run Tryz.prog w= .ok (.slice A' (m-go+1) c') w')∧RowsB w' S A' (m-go+1) (pk.drop go++[x])∧w.grownBy w' none:=by
 obtain⟨i0,hi0,hz0,hz1,hz2⟩:=info_parts Frm.info24;have hlen:=hr.len;have hxl:=ho.len;have hcells:∀q,q<m→∃Aj cj,w.cell? ⟨lb,q,none⟩=some (.slice Aj (pk.getD q []).length cj)∧Bts w S Aj (pk.getD q []).length (pk.getD q [])∧(pk.getD q []).length≤cj∧cj≤maxLen:=fun q hq=>by
  obtain⟨b,off,e,_,_,hcc⟩:=hr.at_ (by omega);injection e with e;injection e with e1 e2;subst e1 e2;obtain⟨Aj,cj,h1,h2⟩:=hcc q hq;rw[Nat.zero_add] at h1;exact⟨Aj,cj,h1,h2⟩
 obtain⟨b0,hb0,hadd⟩:∃b0:Addr,(if m=go then some ⟨lb,0,none⟩ else (some ⟨lb,0,none⟩:Option Addr).map (·.add go))=some b0∧∀q,q<m-go→b0.add q=⟨lb,go+q,none⟩:=by
  by_cases h:m=go
  ·exact⟨_,if_pos h,fun q hq=>by omega⟩
  exact⟨⟨lb,go,none⟩,by rw[if_neg h];simp[plain_add],fun q _=>by rw[plain_add]⟩
 have hex:∃vs:List Value,vs.length=m-go∧∀q,q<m-go→w.cell? ⟨lb,go+q,none⟩=some (vs.getD q undef):=by
  refine⟨(List.range (m-go)).map fun q=>(w.cell? ⟨lb,go+q,none⟩).getD undef,by simp,fun q hq=> ?_⟩;obtain⟨Aj,cj,h1,_⟩:=hcells (go+q) (by omega);simp[List.getD_eq_getElem?_getD,hq,h1]
 obtain⟨vs,hv1,hv2⟩:=hex;obtain⟨v',w',hrun,r1,r2⟩:=run_append_arg_grows (P:=Tryz.prog) w 40 0 39 i0 (.slice none 0 0) 1 24 Tryz.underlying40 hi0 hz0 hz1 hz2 rfl (by decide) b0 (m-go) (m-go) vs (by omega) (fun q u hu=>by
  have hq:q<m-go:=by rw[←hv1];exact(List.getElem?_eq_some_iff.1 hu).1
  rw[hadd q hq,hv2 q hq,List.getD_eq_getElem?_getD,hu];rfl) ⟨xb,0,none⟩ 1 1 [.slice A1 sz c1] rfl (fun q u hu=>by
  have hq:q<1:=(List.getElem?_eq_some_iff.1 hu).1;obtain rfl:q=0:=by omega
  rw[plain_add,cell_at hx];simpa using hu) (by omega) (by unfold maxLen;omega) (by omega)
 have hform:∃A' c',v'= .slice A' (m-go+1) c':=by
  rcases r1.2 with⟨_,h0⟩|⟨g,cap,cur,rfl,_⟩
  ·omega
  exact⟨_,cap,rfl⟩
 obtain⟨A',c',rfl⟩:=hform;rw[hb0];have hb:Below w.heap.size w w':=⟨r2.os,r2.tape,r2.output,r2.size,fun q hq=>r2.block q hq (by simp)⟩
 refine⟨A',c',w',fun _=>hrun,Jou.rows_of_vals r1 (by simp[hv1]) (by simp[hlen]) (fun q hq=> ?_) hS,r2⟩;by_cases hq2:q<m-go
 ·obtain⟨Aj,cj,h1,h2,h3,h4⟩:=hcells (go+q) (by omega);have e1:(vs++[Value.slice A1 sz c1]).getD q undef= .slice Aj (pk.getD (go+q) []).length cj:=by
   have:=hv2 q hq2;rw[h1] at this;injection this with this;rw[List.getD_eq_getElem?_getD,List.getElem?_append_left (by omega),←List.getD_eq_getElem?_getD,←this]
  have e2:(pk.drop go++[x]).getD q []=pk.getD (go+q) []:=by
   rw[List.getD_eq_getElem?_getD,List.getElem?_append_left (by rw[List.length_drop];omega),List.getElem?_drop,←List.getD_eq_getElem?_getD]
  rw[e1,e2];exact⟨Aj,cj,rfl,h2.below hb,h3,h4⟩
 obtain rfl:q=m-go:=by omega
 have e1:(vs++[Value.slice A1 sz c1]).getD (m-go) undef= .slice A1 sz c1:=by
  rw[List.getD_eq_getElem?_getD,List.getElem?_append_right (by omega),hv1,Nat.sub_self];rfl
 have e2:(pk.drop go++[x]).getD (m-go) []=x:=by
  rw[List.getD_eq_getElem?_getD,List.getElem?_append_right (by rw[List.length_drop];omega),List.length_drop,hlen,Nat.sub_self];rfl
 rw[e1,e2,hxl];exact⟨A1,c1,rfl,ho.below hb,hc.1,hc.2⟩
def cutAll (N:List Nmb) (es:List Ent):List Nmb:=es.foldl (fun N e=>cut N e.k) N
theorem cutAll_snoc(N:List Nmb)(es:List Ent)(e:Ent):cutAll N (es++[e])=cut (cutAll N es) e.k:=by
 unfold cutAll;rw[List.foldl_append];rfl
theorem cut_le(N:List Nmb)(key:ByteArray):(cut N key).length≤N.length:=List.length_filter_le _ _
theorem cutAll_le(es:List Ent):∀N:List Nmb,(cutAll N es).length≤N.length:=by
 induction es with
 |nil=>intro N;exact Nat.le_refl _
 |cons e es ih=>intro N;exact Nat.le_trans (ih _) (cut_le N e.k)
section
variable {w:World} {c lo b lj j g gs gm last:Nat} {d:Dsk} {jr:Jr} {v:Value} {N:List Nmb} {ev0:Int}
theorem renew_no(h:Ch w c lo b lj j g gs gm d jr v N last ev0)(e:Ent)(hk:e.k.size+e.v.size≤900000000)(hr:JourM.room d.n<takes1 (packE e)):Calls Tryz.prog 89 #[ptr c,entV e] w (EndsBelow (.int .i64 2) w):=by
 obtain⟨ek,ev⟩:=e;dsimp only at *;have HP:=hid (fun u=>pack_any u ⟨ek,ev⟩ hk);have HH0:=hid (h.below (Frm.alloc_below w (.cells #[.string ek,.string ev] 62 (0,0))));have HB0:=hid (Frm.alloc_below w (.cells #[.string ek,.string ev] 62 (0,0)));have HX0:=hid (heap_alloc_new w (.cells #[.string ek,.string ev] 62 (0,0)));have HLT:=hid h.own_lt;have HRM:Hid (JourM.room d.n≤65536):=hid h.jn.room16.1;obtain⟨rm,hrm⟩:∃rm,JourM.room d.n=rm:=⟨_,rfl⟩
 have HRE:=hid hrm;obtain⟨t1,ht1⟩:∃t1,takes1 (packE ⟨ek,ev⟩)=t1:=⟨_,rfl⟩
 have HTE:=hid ht1;have ht1b:(t1:Int)≤20000000:=by
  have h1:sizeE ⟨ek,ev⟩≤900000008:=by unfold sizeE;dsimp only;omega
  have h2:=packE_length ⟨ek,ev⟩;unfold takes1 FrameM.need at ht1;omega
 have hrmb:(rm:Int)≤65536:=by have:=HRM.out;omega
 rw[hrm] at hr HRM;rw[ht1] at hr;unfold entV ptr at *;dsimp only at *;clear h hk hrm ht1;go_enter Tryz.func89,Tryz.ntmps89;go_upto_region 1 with fail;obtain⟨bx,hbx⟩:∃bx,w.heap.size=bx:=⟨_,rfl⟩
 have HBX:=hid hbx;generalize w.alloc (.cells #[.string ek,.string ev] 62 (0,0))=w0 at *;rw[hbx] at HX0 ⊢;clear hbx;have x0:=cell_at HX0.out 0;have x1:=cell_at HX0.out 1;go_wp2_with fail;refine(HP.out w0).mono ?_;rintro e w1 ⟨A1,c1,rfl,ho1,hb1⟩;have HO1:Hid (Bts w1 (JOwn j g gs gm v) A1 (sizeE ⟨ek,ev⟩) (packE ⟨ek,ev⟩)):=hid (bts_owns (S:=JOwn j g gs gm v) ho1 (fun q hq=>Nat.lt_of_lt_of_le (HLT.out q hq) HB0.out.size));have HSC:Hid (sizeE ⟨ek,ev⟩≤c1∧c1≤maxLen):=hid (by obtain⟨A',c',e',h1,h2⟩:=ho1.form;injection e' with _ _ e3;omega);have HB1:=hid (HB0.out.trans (hb1.mono HB0.out.size));have HH1:=hid (HH0.out.below hb1);have HX1:=hid ((hb1.block _ (lt_of_heap HX0.out)).trans HX0.out);obtain⟨sz,hsz⟩:∃sz,sizeE ⟨ek,ev⟩=sz:=⟨_,rfl⟩
 rw[hsz] at HO1 HSC ⊢;clear ho1 hb1 HB0 HH0 HX0 HP x0 x1 hsz;have c0:=HH1.out.c0;have HRO:=hid (Jou.jroom_any HH1.out.jn);rw[HRE.out] at HRO;unfold ptr at HRO;go_wp2_with fail;refine HRO.out.mono ?_;rintro e w2 ⟨rfl,hb2⟩;have HB2:=hid (HB1.out.trans (hb2.mono HB1.out.size));have HH2:=hid (HH1.out.below hb2);have HX2:=hid ((hb2.block _ (lt_of_heap HX1.out)).trans HX1.out);have HO2:=hid (HO1.out.below hb2);clear hb2 HRO HB1 HH1 HX1 HO1 c0;have HTA:=hid (Jou.takes_any (w2.alloc (.cells #[.slice A1 sz c1] 39)) 1 1 (some ⟨w2.heap.size,0,none⟩) [packE ⟨ek,ev⟩] (Jou.rowl_one w2 A1 c1 _ sz HO2.out.len) (by simp only[takes];rw[HTE.out];omega));rw[show takes [packE ⟨ek,ev⟩]=t1 by simp only[takes];rw[HTE.out];omega] at HTA;have hab:=Frm.alloc_below w2 (.cells #[.slice A1 sz c1] 39);have HB:=hid (HB2.out.trans (hab.mono HB2.out.size));have HH:=hid (HH2.out.below hab);have HX:=hid ((hab.block _ (lt_of_heap HX2.out)).trans HX2.out);have HO:=hid (HO2.out.below hab);clear hab HB2 HH2 HX2 HO2;go_wp2_with fail;refine HTA.out.mono ?_;rintro e u ⟨rfl,rfl⟩;clear HTA;go_upto_region 3 with fail;have hneg:(rm:Int)-(t1:Int)<0:=by omega
 go_wp2_with fail;go_ret;exact⟨rfl,HB.out⟩
theorem info24s:(Tryz.prog.info? 39).map (fun i=>(i.zero,i.size,i.bytes))=some (some (.slice none 0 0),1,24):=by kernel_rfl
theorem run_make_s(K:Nat)(hK:K≤1000000):∃Z:Array Value,Z.size=K∧∀u:World,(Instr.makeSlice 40 (.int .i64 K) (.int .i64 K)).run Tryz.prog u= .ok (.slice (some ⟨u.heap.size,0,none⟩) K K) (u.alloc (.cells Z 39)):=by
 obtain⟨i0,hi,hz0,hz1,hz2⟩:=info_parts info24s;refine⟨madeCells (Value.cells (.slice none 0 0)) K,by simp[madeCells,Value.cells],fun u=> ?_⟩;have:=run_make (P:=Tryz.prog) u 40 39 i0 _ Tryz.underlying40 hi hz0 .i64 .i64 K K (by omega) (by omega) (by rw[hz2];omega) (by omega);rw[hz1] at this;simpa using this
def LR (w:World) (S:List Nat) (m:Nat) (C:Array Value) (pk:List (List UInt8)) (k:Nat):Prop:=
 C.size=m∧∀p,p<k→∃A c,C[p]? =some (.slice A (pk.getD p []).length c)∧Bts w S A (pk.getD p []).length (pk.getD p [])∧(pk.getD p []).length≤c∧c≤maxLen
theorem LR.turn{w w':World}{S S':List Nat}{m k:Nat}{C:Array Value}{pk:List (List UInt8)}(h:LR w S m C pk k)(ht:Turn S' w w')(hS:∀q∈S',q∈S∨w.heap.size≤q):LR w' S m C pk k:=
 ⟨h.1,fun p hp=>by
  obtain⟨A,c,h1,h2,h3⟩:=h.2 p hp;exact⟨A,c,h1,h2.turn ht hS,h3⟩⟩
theorem LR.step{w:World}{S:List Nat}{m k:Nat}{C:Array Value}{pk:List (List UInt8)}(h:LR w S m C pk k){A:Option Addr}{n c:Nat}(hk:k<m)(hb:Bts w S A n (pk.getD k []))(hc:n≤c∧c≤maxLen):LR w S m (C.setIfInBounds k (.slice A n c)) pk (k+1):=
 ⟨by simp[h.1],fun p hp=>by
  by_cases e:p=k
  ·subst e;have hl:=hb.len;refine⟨A,c,?_,by rw[hl];exact hb,by rw[hl];exact hc.1,hc.2⟩;rw[Array.getElem?_setIfInBounds_self_of_lt (by rw[h.1];exact hk),hl]
  ·obtain⟨A',c',h1,h2,h3⟩:=h.2 p (by omega);exact⟨A',c',by rw[Array.getElem?_setIfInBounds_ne (by omega)];exact h1,h2,h3⟩⟩
theorem LR.rows{w:World}{S S':List Nat}{m lb:Nat}{C:Array Value}{pk:List (List UInt8)}(h:LR w S m C pk m)(hl:pk.length=m)(hh:w.heap[lb]? =some (.cells C 39 (0,0)))(hS:∀q∈S',q∈S)(hlb:lb∉S'):RowsB w S' (some ⟨lb,0,none⟩) m pk:=
 ⟨hl,fun hn=>⟨lb,0,rfl,lt_of_heap hh,hlb,fun q hq=>by
  obtain⟨A,c,h1,h2,h3⟩:=h.2 q hq;rw[Nat.zero_add,cell_at hh];exact⟨A,c,h1,h2.sub (fun x hx=> .inl (hS x hx)),h3⟩⟩⟩
theorem idx_pe(A:Option Addr)(n c k g of:Nat)(hA:A=some ⟨g,of,none⟩)(hk:k<n)(u:World):(Instr.indexAt 84 (.slice A n c) (.int .i64 k)).run Tryz.prog u= .ok (.pointer (some ⟨g,of+k * 2,none⟩)) u:=by
 have hs:(Go.sizeOf 62).run Tryz.prog u= .ok 2 u:=by kernel_rfl
 rw[hA];simp[Instr.indexAt,asIntOf,run_underlying Tryz.underlying84,Result.andThen,Addr.add_mid,hs];intro h1;omega
theorem idx_ps(n c k g:Nat)(hk:k<n)(u:World):(Instr.indexAt 40 (.slice (some ⟨g,0,none⟩) n c) (.int .i64 k)).run Tryz.prog u= .ok (.pointer (some ⟨g,k,none⟩)) u:=by
 simp[Instr.indexAt,asIntOf,run_underlying Tryz.underlying40,Result.andThen,Addr.add_mid];intro h1;omega
theorem Ch.evict(h:Ch w c lo b lj j g gs gm d jr v N last ev0)(x:Int):Ch (w.setCell ⟨c,3,none⟩ (.int .i64 x)) c lo b lj j g gs gm d jr v N last x∧FrC lo c b j g gs gm v w (w.setCell ⟨c,3,none⟩ (.int .i64 x)):=by
 have ht:Turn [c] w (w.setCell ⟨c,3,none⟩ (.int .i64 x)):=(Turn.refl [c] w).setCell (.inl (by simp)) _;have hcb:c≠b:=h.sh.pb;have hb:(w.setCell ⟨c,3,none⟩ (.int .i64 x)).heap[b]? =w.heap[b]? :=Below.heap_setCell w _ _ _ (Ne.symm hcb);have hs:ShT c lo b w (w.setCell ⟨c,3,none⟩ (.int .i64 x)):=ShT.of_turn ht (fun k hk=> .inl (by simpa using hk)) (fun _ _ hk=> .inl (hk.back hb));have hbk:Bk (w.setCell ⟨c,3,none⟩ (.int .i64 x)) lo b N:=h.sh.bk.turn2 ht fun k hk=>⟨fun e=>hcb ((List.mem_singleton.1 hk).symm.trans e),fun e=>by
  obtain⟨_,C,hC⟩:=e;rw[List.mem_singleton.1 hk,h.hd] at hC;injection hC with hC;injection hC with _ e;cases e⟩
 refine⟨h.shelved hs ⟨?_,?_,?_,hbk,h.sh.nice,h.sh.pb,h.sh.pl,h.sh.bl⟩ (set_at h.hd 3 _),FrC.shelf hs⟩
 ·rw[World.cell?_setCell_other w _ _ _ (by simp)];exact h.sh.c0
 ·rw[World.cell?_setCell_other w _ _ _ (by simp)];exact h.sh.c1
 rw[World.frozen?_setCell];exact h.sh.fr
theorem Els.OwnE.sht{w w':World}{c lo b lj j g gs gm last base:Nat}{d:Dsk}{jr:Jr}{v u:Value}{N:List Nmb}{ev:Int}{es:List Ent}(h:Els.OwnE w base u es)(ht:ShT c lo b w w')(H:Ch w c lo b lj j g gs gm d jr v N last ev):Els.OwnE w' base u es:=by
 obtain⟨g9,cap,C,e,h1,hh,r⟩:=h;refine⟨g9,cap,C,e,h1,sht_keep ht hh (fun e=> ?_) (fun e=> ?_) (by decide),r⟩
 ·rw[e,H.hd] at hh;injection hh with hh;injection hh with _ h2;cases h2
 obtain⟨es',cl',hm⟩:=H.map_at;rw[e,hm] at hh;cases hh
theorem Els.OwnE.below{w w':World}{base:Nat}{u:Value}{es:List Ent}(h:Els.OwnE w base u es)(hb:Below w.heap.size w w'):Els.OwnE w' base u es:=by
 obtain⟨g9,cap,C,e,h1,hh,r⟩:=h;exact⟨g9,cap,C,e,h1,(hb.block _ (lt_of_heap hh)).trans hh,r⟩
def renN (z:Int) (N:List Nmb) (es:List Ent):List Nmb:=if z=0 then cutAll N es else N
def renV (z:Int) (ev:Int) (go:Nat):Int:=if z=0 then ev+go else ev
theorem renew_any(h:Ch w c lo b lj j g gs gm d jr v N last ev0)(hN:N.length≤100000)(e:Ent)(hk:e.k.size≤1000000∧e.k.size+e.v.size≤900000000)(hs:∀x∈ents N,x.k.size+x.v.size≤900000000∧x.k.size≤1000000000)(hr:takes1 (packE e)≤JourM.room d.n)
  (os:List Ent) (hos:Els.cut (ents N) e.k=os) (pk:List (List UInt8)) (hpk:os.map packE=pk) (htk:takes pk≤1000000) (go:Nat) (hgo:sur pk (JourM.room d.n-takes1 (packE e))=go) (hgen:jr.gen+1<9223372036854775807) (hev:0≤ev0∧ev0≤1000000000) (z:Int) (hz:rstE d jr (pk.drop go++[packE e])=z):
  Calls Tryz.prog 89 #[ptr c,entV e] w (Putted w c lo b lj j g gs gm v z (rstD d jr (pk.drop go++[packE e])) (rstJ d jr (pk.drop go++[packE e])) (renN z N (os.take go)) last (renV z ev0 go)):=by
 have HNL:Hid (N.length≤1000000):=hid (by omega);have HTK:=hid htk;have HGN:=hid hgen;have HEV:=hid hev;have HZ:=hid hz;have HXO:Hid (∀q∈JOwn j g gs gm v,q<w.heap.size):=hid h.own_lt;have HBW:=hid h.sh.bk.lt;have HOS:Hid (∀x∈os,x.k.size+x.v.size≤900000000∧x.k.size≤1000000000):=hid (fun x hx=>hs x (by rw[←hos] at hx;exact(List.mem_filter.1 hx).1));have HOL:Hid (os.length≤100000):=hid (by
  have h1:(Els.cut (ents N) e.k).length≤(ents N).length:=List.length_filter_le _ _;have h2:(ents N).length=N.length:=List.length_map _;rw[hos] at h1;omega)
 have HPL:Hid (pk.length=os.length∧∀k (hk:k<os.length),pk.getD k []=packE os[k]):=hid ⟨by rw[←hpk,List.length_map],fun k hk=>by rw[←hpk,List.getD_eq_getElem?_getD];simp[hk]⟩;have HGO:Hid (go≤pk.length):=hid (by rw[←hgo];exact sur_le _ _);have hk:=hk.2;obtain⟨ek,ev⟩:=e;dsimp only at *;have HOE:=hid hos;have HSU:=hid hgo;clear hN hs hos hpk htk hgo hgen hev hz;have HP:=hid (fun u=>pack_any u ⟨ek,ev⟩ hk);have HH0:=hid (h.below (Frm.alloc_below w (.cells #[.string ek,.string ev] 62 (0,0))));have HB0:=hid (Frm.alloc_below w (.cells #[.string ek,.string ev] 62 (0,0)));have HX0:=hid (heap_alloc_new w (.cells #[.string ek,.string ev] 62 (0,0)));have HLT:=hid h.own_lt;have HRM:Hid (JourM.room d.n≤65536):=hid h.jn.room16.1;obtain⟨rm,hrm⟩:∃rm,JourM.room d.n=rm:=⟨_,rfl⟩
 have HRE:=hid hrm;obtain⟨t1,ht1⟩:∃t1,takes1 (packE ⟨ek,ev⟩)=t1:=⟨_,rfl⟩
 have HTE:=hid ht1;have ht1b:(t1:Int)≤20000000:=by
  have h1:sizeE ⟨ek,ev⟩≤900000008:=by unfold sizeE;dsimp only;omega
  have h2:=packE_length ⟨ek,ev⟩;unfold takes1 FrameM.need at ht1;omega
 have hrmb:(rm:Int)≤65536:=by have:=HRM.out;omega
 rw[hrm] at hr HRM;rw[ht1] at hr;unfold entV ptr at *;dsimp only at *;clear h hk hrm ht1;go_enter Tryz.func89,Tryz.ntmps89;go_upto_region 1 with fail;obtain⟨bx,hbx⟩:∃bx,w.heap.size=bx:=⟨_,rfl⟩
 have HBX:=hid hbx;generalize w.alloc (.cells #[.string ek,.string ev] 62 (0,0))=w0 at *;rw[hbx] at HX0 ⊢;clear hbx;have x0:=cell_at HX0.out 0;have x1:=cell_at HX0.out 1;go_wp2_with fail;refine(HP.out w0).mono ?_;rintro e w1 ⟨A1,c1,rfl,ho1,hb1⟩;have HO1:Hid (Bts w1 (JOwn j g gs gm v) A1 (sizeE ⟨ek,ev⟩) (packE ⟨ek,ev⟩)):=hid (bts_owns (S:=JOwn j g gs gm v) ho1 (fun q hq=>Nat.lt_of_lt_of_le (HLT.out q hq) HB0.out.size));have HSC:Hid (sizeE ⟨ek,ev⟩≤c1∧c1≤maxLen):=hid (by obtain⟨A',c',e',h1,h2⟩:=ho1.form;injection e' with _ _ e3;omega);have HB1:=hid (HB0.out.trans (hb1.mono HB0.out.size));have HH1:=hid (HH0.out.below hb1);have HX1:=hid ((hb1.block _ (lt_of_heap HX0.out)).trans HX0.out);obtain⟨sz,hsz⟩:∃sz,sizeE ⟨ek,ev⟩=sz:=⟨_,rfl⟩
 rw[hsz] at HO1 HSC ⊢;clear ho1 hb1 HB0 HH0 HX0 HP x0 x1 hsz;have c0:=HH1.out.c0;have HRO:=hid (Jou.jroom_any HH1.out.jn);rw[HRE.out] at HRO;unfold ptr at HRO;go_wp2_with fail;refine HRO.out.mono ?_;rintro e w2 ⟨rfl,hb2⟩;have HB2:=hid (HB1.out.trans (hb2.mono HB1.out.size));have HH2:=hid (HH1.out.below hb2);have HX2:=hid ((hb2.block _ (lt_of_heap HX1.out)).trans HX1.out);have HO2:=hid (HO1.out.below hb2);clear hb2 HRO HB1 HH1 HX1 HO1 c0;have HTA:=hid (Jou.takes_any (w2.alloc (.cells #[.slice A1 sz c1] 39)) 1 1 (some ⟨w2.heap.size,0,none⟩) [packE ⟨ek,ev⟩] (Jou.rowl_one w2 A1 c1 _ sz HO2.out.len) (by simp only[takes];rw[HTE.out];omega));rw[show takes [packE ⟨ek,ev⟩]=t1 by simp only[takes];rw[HTE.out];omega] at HTA;have hab:=Frm.alloc_below w2 (.cells #[.slice A1 sz c1] 39);have HB:=hid (HB2.out.trans (hab.mono HB2.out.size));have HH:=hid (HH2.out.below hab);have HX:=hid ((hab.block _ (lt_of_heap HX2.out)).trans HX2.out);have HO:=hid (HO2.out.below hab);clear hab HB2 HH2 HX2 HO2;go_wp2_with fail;refine HTA.out.mono ?_;rintro e u ⟨rfl,rfl⟩;clear HTA;go_upto_region 3 with fail;generalize w2.alloc (.cells #[.slice A1 sz c1] 39)=w3 at *;obtain⟨rn,hrn⟩:∃rn:Nat,rm-t1=rn:=⟨_,rfl⟩
 have hrnI:(rm:Int)-(t1:Int)=(rn:Int):=by omega
 have HRN:Hid (sur pk rn=go∧rn≤1000000):=hid ⟨by rw[←hrn,←HRE.out,←HTE.out];exact HSU.out,by have:=HRM.out;omega⟩;clear hrn HSU;go_upto_region 5 with fail;have HS:Hid (w3.drew.heap[bx]? =some (.cells #[.string ek,.string ev] 62 (0,0))):=hid HX.out;have HB0:=hid HB.out.drew;have HH0:=hid (HH.out.below (Below.refl w3.heap.size w3).drew);have HO0:=hid (HO.out.below (Below.refl w3.heap.size w3).drew);clear HX HB HH HO;refine Frm.wh_start (fun u=>u.heap[bx]? =some (.cells #[.string ek,.string ev] 62 (0,0))) (by kernel_rfl) ?_;generalize w3.drew=u0 at *;have HOT:=hid (others_any u0 c 1 lo b last N ek HH0.out.sh HNL.out);refine Frm.wa 0 28 (.pointer (some ⟨c,0,none⟩)) HS.out ?_;go_frame;refine Frm.wb 1 29 (.pointer (some ⟨c,0,none⟩)) HS.out ?_;go_frame;refine Frm.wb 2 30 (.pointer (some ⟨c,1,none⟩)) HS.out ?_;go_frame;refine Frm.wb 3 31 (.pointer (some ⟨bx,0,none⟩)) HS.out ?_;go_frame;refine Frm.wd 4 32 (.string ek) HS.out (fun w' hw'=> ?_) ?_
 ·have h1:=cell_at hw' 0;go_simp
 go_frame;refine Frm.wh_call 5 33 121 #[.pointer (some ⟨c,1,none⟩),.string ek] rfl rfl (by kernel_rfl) rfl ?_ ?_
 ·go_simp
 refine HOT.out.mono ?_;rintro e w4 ⟨u7,rfl,ho7,hb4⟩;obtain⟨A7,c7,rfl,hns7⟩:=ho7.ns;have HE7:=hid ho7;have HGW:Hid (w.heap.size≤u0.heap.size):=hid HB0.out.size;have HN7:=hid hns7;have HB4:=hid (HB0.out.trans (hb4.mono HB0.out.size));have HH4:=hid (HH0.out.below hb4);have HO4:=hid (HO0.out.below hb4);have HS4:=hid ((hb4.block _ (lt_of_heap HS.out)).trans HS.out);have HG7:Hid (∀q,Value.ownBlock (.slice A7 (Els.cut (ents N) ek).length c7)=some q→w.heap.size≤q):=hid (fun q hq=>by obtain⟨g9,cap,C,e,h1,_⟩:=ho7;rw[e] at hq;have h2:some g9=some q:=hq;injection h2 with h2;have:=HB0.out.size;omega);obtain⟨m7,hm7⟩:∃m7,(Els.cut (ents N) ek).length=m7:=⟨_,rfl⟩
 have HM7:=hid hm7;rw[hm7] at HE7 HN7 HG7 ⊢;clear ho7 hns7 hb4 HB0 HH0 HO0 HOT HS hm7;have HS:=HS4;clear HS4;refine⟨_,rfl,HS.out,?_⟩;go_frame;refine Frm.wa 6 7 (.slice A7 m7 c7) HS.out ?_;go_frame;refine wpAnyH_done (by kernel_rfl) ?_ _;have HRI:=hid hrnI;clear hrnI;rw[HOE.out] at HE7 HN7 HM7;clear HOE;have HX4:=hid HS.out;clear HS;have hm7i:(m7:Int)≤100000:=by have:=HM7.out;have:=HOL.out;omega
 obtain⟨Z,hZs,hmk⟩:=run_make_s m7 (by have:=HM7.out;have:=HOL.out;omega);go_upto_region 7 with fail;obtain⟨lb,hlb⟩:∃lb,w4.heap.size=lb:=⟨_,rfl⟩
 have HLB:=hid hlb;have hab:=Frm.alloc_below w4 (.cells Z 39);have HZ6:=hid (heap_alloc_new w4 (.cells Z 39));have HB6:=hid (HB4.out.trans (hab.mono HB4.out.size));have HAB:=hid hab;have HK6:Hid (∀q,q<w4.heap.size→(w4.alloc (.cells Z 39)).heap[q]? =w4.heap[q]?):=hid (fun q hq=>hab.block q hq);have HZS:=hid hZs;have HLW:Hid (w.heap.size≤lb):=hid (by rw[←hlb];exact HB4.out.size);rw[hlb] at HZ6 HK6 ⊢;clear hab hmk hZs;generalize w4.alloc (.cells Z 39)=w6 at *;have HE6:Hid (Els.OwnE w6 w.heap.size (.slice A7 m7 c7) os):=hid (by
  obtain⟨g9,cap,C,e,h1,hh,r⟩:=HE7.out;have h2:=HK6.out g9 (by rw[←HLB.out];exact lt_of_heap hh);exact⟨g9,cap,C,e,Nat.le_trans HGW.out h1,h2.trans hh,r⟩)
 have HQN:Hid (∀q,Value.ownBlock (.slice A7 m7 c7)=some q→q≠lb):=hid (fun q hq=>by
  obtain⟨g9,cap,C,e,h1,hh,r⟩:=HE7.out;rw[e] at hq;have h2:some g9=some q:=hq;injection h2 with h2;have:=lt_of_heap hh;have:=HLB.out;omega)
 clear HE7 HN7 HK6 hlb;go_wp2_with fail;go_loopw [39] (fun i wr=>∃(k:Nat) (C:Array Value),k≤m7∧i= .int .i64 k∧wr.heap[lb]? =some (.cells C 39 (0,0))∧LR wr (lb::JOwn j g gs gm v) m7 C pk k∧Turn [lb] w6 wr) (fun i _=>m7-(Go.RowKit.intOf i).toNat)
 case atStart=>exact⟨0,Z,Nat.zero_le _,rfl,HZ6.out,⟨HZS.out,fun p hp=>absurd hp (by omega)⟩,Turn.refl _ _⟩
 case round=>
  obtain⟨k,C,hk,rfl,hh,hlr,ht⟩:=hrel;clear HZ6 HZS;have HC:=hid hh;have HLR:=hid hlr;have HT:=hid ht;have HER:Hid (Els.OwnE wr w.heap.size (.slice A7 m7 c7) os):=hid (HE6.out.keep (fun q hq=>ht.block q (by obtain⟨g9,_,C,e,_,hh,_⟩:=HE6.out;rw[e] at hq;injection hq with hq;rw[←hq];exact lt_of_heap hh) (fun hm=>HQN.out q hq (by simpa using hm))));clear hh hlr ht;by_cases hlt:k<m7
  ·have hkl:k<os.length:=by rw[HM7.out];exact hlt
   obtain⟨A7',c7',hv7,hns⟩:=HER.out.ns;injection hv7 with e1 e2 e3;subst e1;clear e2 e3;obtain⟨g7,of7,hA,hgl,hcs⟩:=hns.2 (by rw[HM7.out];omega);obtain⟨q0,q1⟩:=hcs k hkl;have hidx:=idx_pe A7 m7 c7 k g7 of7 hA hlt;have hidx2:=idx_ps m7 m7 k lb hlt;have HXS:=hid (HOS.out os[k] (List.getElem_mem hkl));have HPK:=hid (HPL.out.2 k hkl);clear hcs hgl hA hns;generalize os[k]=x at *;clear hkl;obtain⟨xk,xv⟩:=x;dsimp only at *;have HPA:=hid (pack_any (wr.alloc (.cells #[.string xk,.string xv] 62)) ⟨xk,xv⟩ HXS.out.1);unfold entV at HPA;dsimp only at HPA;have HXB:=hid (heap_alloc_new wr (.cells #[.string xk,.string xv] 62));have HBA:=hid (Frm.alloc_below wr (.cells #[.string xk,.string xv] 62));go_upto_region 10 with fail;have b0:=cell_at HXB.out 0;have b1:=cell_at HXB.out 1;clear q0 q1;go_wp2_with fail;refine HPA.out.mono ?_;rintro e w8 ⟨A8,c8,rfl,ho8,hb8⟩;have HBW8:Hid (Below wr.heap.size wr w8):=hid (HBA.out.trans (hb8.mono HBA.out.size));have HSS:Hid (∀q∈lb::JOwn j g gs gm v,q<wr.heap.size):=hid (fun q hq=>by
    rcases List.mem_cons.1 hq with rfl|hq
    ·exact lt_of_heap HC.out
    ·have:=HXO.out q hq;have:=HB6.out.size;have:=HT.out.size;omega)
   have HBT8:Hid (Bts w8 (lb::JOwn j g gs gm v) A8 (sizeE ⟨xk,xv⟩) (pk.getD k [])):=hid (by
    rw[HPK.out];exact bts_owns ho8 (fun q hq=>Nat.lt_of_lt_of_le (HSS.out q hq) HBA.out.size))
   have HC8:Hid (sizeE ⟨xk,xv⟩≤c8∧c8≤maxLen):=hid (by obtain⟨A',c',e',h1,h2⟩:=ho8.form;injection e' with _ _ e3;omega);have hg8:=(HBW8.out.block lb (lt_of_heap HC.out)).trans HC.out;have HG8:=hid hg8;have HLR8:=hid (HLR.out.turn (Turn.ofBelow (S:=[]) HBW8.out) (by simp));have HT8:=hid (HT.out.below HBW8.out);have hkC:k<C.size:=by rw[HLR.out.1];exact hlt
   have d0:=cell_at hg8 k;rw[Array.getElem?_eq_getElem hkC] at d0;have f0:=free_at hg8 k;generalize C[k]=y0 at d0;generalize sizeE ⟨xk,xv⟩=sx at *;clear ho8 hb8 HPA HXB HBA b0 b1 hidx hg8 hkC HC HLR HT HER;go_wp2_with fail;go_roundw
   case rel=>exact⟨k+1,_,by omega,by go_num,set_at HG8.out k _,(HLR8.out.step hlt HBT8.out HC8.out).turn ((Turn.refl [lb] w8).setCell (.inl (by simp)) _) (fun q hq=> .inl (by simp at hq;simp[hq])),HT8.out.setCell (.inl (by simp)) _⟩
   case measure=>simp[Go.RowKit.intOf];omega
  obtain rfl:k=m7:=by omega
  have HLBJ:Hid (lb∉JOwn j g gs gm v):=hid (fun hm=>by have:=HXO.out lb hm;have:=HLW.out;omega);have HR:=hid (HLR.out.rows (S':=JOwn j g gs gm v) (by rw[HPL.out.1,HM7.out]) HC.out (fun q hq=>List.mem_cons_of_mem _ hq) HLBJ.out);have HBR:Hid (Below w.heap.size w wr):=hid (HB6.out.trans (HT.out.low (by intro q hq;have:=HLW.out;simp at hq;omega) HB6.out.size));have HBX4:Hid (Below w4.heap.size w4 wr):=hid (HAB.out.trans (HT.out.low (by intro q hq;have:=HLB.out;simp at hq;omega) HAB.out.size));have HHR:=hid (HH4.out.below HBX4.out);have HOR:=hid (HO4.out.below HBX4.out);have HSP:=hid (surplus_any wr k k (some ⟨lb,0,none⟩) pk rn (HR.out.sub (by simp)) HTK.out HRN.out.2);rw[HRN.out.1,←HRI.out] at HSP;have HGL:Hid (go≤k∧k≤100000):=hid (by have:=HGO.out;have:=HPL.out.1;have:=HM7.out;have:=HOL.out;omega);clear HB4 HH4 HO4 HX4 HBX4 HC HLR HT HE6 HB6 HAB;go_wp2_with fail;refine HSP.out.mono ?_;rintro e wa ⟨rfl,hba⟩;have HB:=hid (HBR.out.trans (hba.mono HBR.out.size));have HH:=hid (HHR.out.below hba);have HO:=hid (HOR.out.below hba);have HR2:=hid (HR.out.below hba);have HQ:Hid (Els.OwnE wa w.heap.size (.slice A7 k c7) os):=hid (HER.out.keep (fun q hq=>hba.block q (by obtain⟨g9,_,C,e,_,hh,_⟩:=HER.out;rw[e] at hq;injection hq with hq;rw[←hq];exact lt_of_heap hh)));clear hba HSP HR HBR HHR HOR HER;have HR:=HR2;clear HR2;obtain⟨mg,hmg⟩:∃mg,k-go=mg:=⟨_,rfl⟩
  have HNG:Hid (mg+1≤1000000):=hid (by have:=HGL.out;omega);obtain⟨AT,hAT⟩:∃AT,(if k=go then some ⟨lb,0,none⟩ else (some (⟨lb,0,none⟩:Addr)).map (·.add go))=AT:=⟨_,rfl⟩
  have hslt:=fun u=>run_fromS u (some ⟨lb,0,none⟩) k k go HGL.out.1;rw[hAT,hmg] at hslt;go_upto_region 13 with fail;have HS:Hid (wa.drew.cell? ⟨c,0,none⟩=some (.pointer (some ⟨j,0,none⟩))):=hid HH.out.c0;have HB0:=hid HB.out.drew;have HH0:=hid (HH.out.below (Below.refl wa.heap.size wa).drew);have HR0:=hid (HR.out.below (Below.refl wa.heap.size wa).drew);have HO0:=hid (HO.out.below (Below.refl wa.heap.size wa).drew);have HQ0:=hid (HQ.out.below (Below.refl wa.heap.size wa).drew);clear HB HH HR HO HQ;refine Frm.wh_start (fun u=>u.cell? ⟨c,0,none⟩=some (.pointer (some ⟨j,0,none⟩))) (by kernel_rfl) ?_;generalize wa.drew=u0 at *;refine Frm.wa 0 53 (.pointer (some ⟨c,0,none⟩)) HS.out ?_;go_frame;refine Frm.wb 1 54 (.pointer (some ⟨c,0,none⟩)) HS.out ?_;go_frame;refine Frm.wb 2 55 (.pointer (some ⟨c,0,none⟩)) HS.out ?_;go_frame;refine Frm.wd 3 56 (.pointer (some ⟨j,0,none⟩)) HS.out (fun w' hw'=> ?_) ?_
  ·have h1:=hw';go_simp
  go_frame;refine Frm.wa 4 57 (.slice (some ⟨lb,0,none⟩) k k) HS.out ?_;go_frame;refine Frm.wa 5 58 (.int .i64 go) HS.out ?_;go_frame;refine Frm.wd 6 59 (.slice AT mg mg) HS.out (fun w' hw'=> ?_) ?_
  ·have h1:=hslt w';go_simp
  go_frame;refine Frm.wa 7 60 (.slice A1 sz c1) HS.out ?_;go_frame;have hab:=Frm.alloc_below u0 (.cells #[.slice A1 sz c1] 39);have HXL:=hid (heap_alloc_new u0 (.cells #[.slice A1 sz c1] 39));have HB1:=hid (HB0.out.trans (hab.mono HB0.out.size));have HH1:=hid (HH0.out.below hab);have HR1:=hid (HR0.out.below hab);have HO1:=hid (HO0.out.below hab);have HQ1:=hid (HQ0.out.below hab);have HSN:=hid HH1.out.c0;clear HS HB0 HH0 HR0 HO0 HQ0;have HS:=HSN;clear HSN;clear hab;refine Frm.wh_run 8 61 (.slice (some ⟨u0.heap.size,0,none⟩) 1 1) (u0.alloc (.cells #[.slice A1 sz c1] 39)) rfl rfl (by kernel_rfl) rfl ?_ HS.out ?_
  ·go_simp
  go_frame;generalize u0.alloc (.cells #[.slice A1 sz c1] 39)=u1 at *;generalize u0.heap.size=xb at *;obtain⟨A9,c9,u2,hap,hr9,hg9⟩:=app_tail u1 (JOwn j g gs gm v) lb k go xb A1 sz c1 pk (packE ⟨ek,ev⟩) HR1.out HO1.out HXL.out HGL.out.1 HGL.out.2 HH1.out.own_lt HSC.out;rw[hmg] at hap hr9;rw[hAT] at hap;have hb9:Below u1.heap.size u1 u2:=⟨hg9.os,hg9.tape,hg9.output,hg9.size,fun q hq=>hg9.block q hq (by simp)⟩
  have HR9:=hid hr9;have HB2:=hid (HB1.out.trans (hb9.mono HB1.out.size));have HH2:=hid (HH1.out.below hb9);have HQ2:=hid (HQ1.out.below hb9);have HSN:=hid HH2.out.c0;clear HS HB1 HH1 HR1 HO1 HQ1 HXL;have HS:=HSN;clear HSN;refine wh_app2 9 62 rfl rfl (by kernel_rfl) rfl 40 (.tmp 59) (.tmp 61) rfl (.slice AT mg mg) (.slice (some ⟨xb,0,none⟩) 1 1) (.slice A9 (mg+1) c9) u2 rfl rfl hap HS.out ?_;go_frame;clear hap hr9 hg9 hb9;have HRS:=hid (Jou.reset_any u2 lj j g gs gm d jr v (mg+1) c9 A9 (pk.drop go++[packE ⟨ek,ev⟩]) HH2.out.jn (HR9.out.sub (fun q hq=> .inl (by unfold JOwn;exact List.mem_append_left _ hq))) HNG.out HGN.out);rw[HZ.out] at HRS;unfold ptr at HRS;refine Frm.wh_call 10 63 17 #[.pointer (some ⟨j,0,none⟩),.slice A9 (mg+1) c9] rfl rfl (by kernel_rfl) rfl ?_ ?_
  ·go_simp
  refine HRS.out.mono ?_;rintro e w9 ⟨rfl,v1,hj9,ht9,hv9⟩;have HH9:=hid (HH2.out.journaled ht9 hj9);have HF9:Hid (FrC lo c b j g gs gm v w w9):=hid ((FrC.of_below HB2.out).trans (v1:=v) (FrC.own ht9 (HH2.out.apart (.inr (.inl rfl))).1) (fun q hq=> .inl hq) HBW.out);have HV9:Hid (∀q,v1.ownBlock=some q→v.ownBlock=some q∨w.heap.size≤q):=hid (fun q hq=>(hv9 q hq).imp id (fun e=>Nat.le_trans HB2.out.size e));have HE9:Hid (Els.OwnE w9 w.heap.size (.slice A7 k c7) os):=hid (HQ2.out.keep (fun q hq=>ht9.block q (by obtain⟨g9,_,C,e,_,hh,_⟩:=HQ2.out;rw[e] at hq;injection hq with hq;rw[←hq];exact lt_of_heap hh) (fun hm=>by have:=HXO.out q hm;have:=HG7.out q hq;omega)));have HSN:=hid HH9.out.c0;clear HS HB2 HH2 HR9 HQ2 HRS hj9 ht9 hv9;have HS:=HSN;clear HSN;refine⟨_,rfl,HS.out,?_⟩;go_frame;refine Frm.wa 11 12 (.int .i64 z) HS.out ?_;go_frame;refine wpAnyH_done (by kernel_rfl) ?_ _;clear hslt hmg hAT;go_upto_region 14 with fail;by_cases hz0:z=0
  ·subst hz0;have HGC:Hid (go≤c7∧k=os.length):=hid (by
    obtain⟨_,cap,C,e,_,_,_,h1,_⟩:=HE9.out;injection e with _ e2 e3;have:=HGL.out.1;omega)
   have hto:=fun u=>Els.to2 u A7 k c7 go HGC.out.1;have hgi:(go:Int)≤100000:=by have:=HGL.out;omega
   go_wp2_with fail;go_loopw [71] (fun i wr=>∃q:Nat,q≤go∧i= .int .i64 q∧Ch wr c lo b lj j g gs gm (rstD d jr (pk.drop go++[packE ⟨ek,ev⟩])) (rstJ d jr (pk.drop go++[packE ⟨ek,ev⟩])) v1 (cutAll N (os.take q)) last ev0∧FrC lo c b j g gs gm v w wr∧Els.OwnE wr w.heap.size (.slice A7 k c7) os) (fun i _=>go-(Go.RowKit.intOf i).toNat)
   case atStart=>exact⟨0,Nat.zero_le _,rfl,HH9.out,HF9.out,HE9.out⟩
   case round=>
    obtain⟨q,hq,rfl,hh,hf,he⟩:=hrel;have HHQ0:=hid hh;have HFQ0:=hid hf;have HEQ0:=hid he;clear hh hf he HH9 HF9 HE9;by_cases hql:q<go
    ·have hqo:q<os.length:=by have:=HGL.out.1;have:=HGC.out.2;omega
     have HTS:Hid (os.take (q+1)=os.take q++[os[q]]):=hid (List.take_succ_eq_append_getElem hqo);obtain⟨A7',c7',hv7,hns⟩:=HEQ0.out.ns;injection hv7 with e1 e2 e3;subst e1;clear e2 e3;obtain⟨g7,of7,hA,hgl,hcs⟩:=hns.2 (by omega);obtain⟨q0,q1⟩:=hcs q hqo;have hidx:=idx_pe A7 go c7 q g7 of7 hA hql;have HXS:=hid (HOS.out os[q] (List.getElem_mem hqo)).2;have HNQ:Hid ((cutAll N (os.take q)).length≤1000000):=hid (Nat.le_trans (cutAll_le _ N) HNL.out);clear hcs hgl hA hns;generalize os[q]=x at *;clear hqo;obtain⟨xk,xv⟩:=x;dsimp only at *;have HXQ:=hid (heap_alloc_new wr (.cells #[.string xk,.string xv] 62));have hba:=Frm.alloc_below wr (.cells #[.string xk,.string xv] 62);have HHQ:=hid (HHQ0.out.below hba);have HFQ:Hid (FrC lo c b j g gs gm v w (wr.alloc (.cells #[.string xk,.string xv] 62))):=hid (HFQ0.out.trans (v1:=v) (FrC.of_below hba) (fun q hq=> .inl hq) HBW.out);have HEQ:=hid (HEQ0.out.keep (fun p hp=>hba.block p (by obtain⟨g9,_,C,e,_,hh,_⟩:=HEQ0.out;rw[e] at hp;injection hp with hp;rw[←hp];exact lt_of_heap hh)));go_upto_region 19 with fail;clear q0 q1 hba HHQ0 HFQ0 HEQ0 hidx;generalize wr.alloc (.cells #[.string xk,.string xv] 62)=wq at *;generalize wr.heap.size=xb at *;have HS:Hid (wq.drew.heap[xb]? =some (.cells #[.string xk,.string xv] 62 (0,0))):=hid HXQ.out;have HHD:=hid (HHQ.out.below (Below.refl wq.heap.size wq).drew);have HFD:Hid (FrC lo c b j g gs gm v w wq.drew):=hid (HFQ.out.trans (v1:=v) (FrC.of_below (Below.refl wq.heap.size wq).drew) (fun q hq=> .inl hq) HBW.out);have HED:=hid (HEQ.out.keep (w':=wq.drew) (fun q hq=>rfl));clear HXQ HHQ HFQ HEQ;refine Frm.wh_start (fun u=>u.heap[xb]? =some (.cells #[.string xk,.string xv] 62 (0,0))) (by kernel_rfl) ?_;generalize wq.drew=u0 at *;have HTA:=hid (take_any u0 c 1 lo b last (cutAll N (os.take q)) xk HHD.out.sh HNQ.out HXS.out HHD.out.low);refine Frm.wa 0 75 (.pointer (some ⟨c,0,none⟩)) HS.out ?_;go_frame;refine Frm.wb 1 76 (.pointer (some ⟨c,0,none⟩)) HS.out ?_;go_frame;refine Frm.wb 2 77 (.pointer (some ⟨c,1,none⟩)) HS.out ?_;go_frame;refine Frm.wb 3 78 (.pointer (some ⟨xb,0,none⟩)) HS.out ?_;go_frame;refine Frm.wd 4 79 (.string xk) HS.out (fun w' hw'=> ?_) ?_
     ·have h1:=cell_at hw' 0;go_simp
     go_frame;refine Frm.wh_call 5 80 119 #[.pointer (some ⟨c,1,none⟩),.string xk] rfl rfl (by kernel_rfl) rfl ?_ ?_
     ·go_simp
     refine HTA.out.mono ?_;rintro e w8 ⟨rfl,hs8,ht8,hp8⟩;have hc8:w8.heap[c]? =some (cobj j b last ev0):=hp8.trans HHD.out.hd;have HH8:=hid (HHD.out.shelved ht8 hs8 hc8);have HF8:Hid (FrC lo c b j g gs gm v w w8):=hid (HFD.out.trans (v1:=v) (FrC.shelf ht8) (fun q hq=> .inl hq) HBW.out);have HE8:Hid (Els.OwnE w8 w.heap.size (.slice A7 k c7) os):=hid (HED.out.sht ht8 HHD.out);have HS8:Hid (w8.heap[xb]? =some (.cells #[.string xk,.string xv] 62 (0,0))):=hid (sht_keep ht8 HS.out (fun e=>by have h1:=HS.out;rw[e,HHD.out.hd] at h1;injection h1 with h1;injection h1 with _ h2;cases h2) (by obtain⟨es',cl',hm⟩:=HHD.out.map_at;intro e;have h1:=HS.out;rw[e,hm] at h1;cases h1) (by decide));clear HS hc8 hs8 ht8 hp8 HTA HHD HFD HED;have HS:=HS8;refine⟨_,rfl,HS.out,?_⟩;go_frame;refine wpAnyH_done (by kernel_rfl) ?_ _;go_wp2_with fail;go_roundw
     case rel=>exact⟨q+1,by omega,by go_num,by rw[HTS.out,cutAll_snoc];exact HH8.out,HF8.out,HE8.out⟩
     case measure=>simp[Go.RowKit.intOf];omega
    obtain rfl:q=go:=by omega
    have HEN:=hid (HHQ0.out.evict (ev0+q));have HFF:Hid (FrC lo c b j g gs gm v w (wr.setCell ⟨c,3,none⟩ (.int .i64 (ev0+q)))):=hid (HFQ0.out.trans (v1:=v1) HEN.out.2 HV9.out HBW.out);have hwr:IntKind.i64.wrap (ev0+(q:Int))=ev0+(q:Int):=IntWalk.i64_in _ (by have:=HEV.out;omega);have c3:=HHQ0.out.c3;have f3:=free_at HHQ0.out.hd 3;have HF3:=hid f3;go_wp2_with fail;go_ret;exact⟨rfl,v1,HEN.out.1,HFF.out,HV9.out⟩
  have hzb:(z !=0)=true:=by simpa using hz0
  have HZN:Hid (renN z N (os.take go)=N∧renV z ev0 go=ev0):=hid ⟨if_neg hz0,if_neg hz0⟩;go_wp2_with fail;go_ret;exact⟨rfl,v1,by rw[HZN.out.1,HZN.out.2];exact HH9.out,HF9.out,HV9.out⟩
end
end Go.Proofs.YtdjhlhellkajfaaGreat.Cch
namespace Go.Proofs.YtdjhlhellkajfaaGreat.Cch
open Go.RowKit Codec Cod
open Disk (Turn Dk Dsk ptr)
open JourM (Jr appE appD appJ)
open Jou (Jn It)
section
variable {w:World} {c lo b lj j g gs gm last:Nat} {d:Dsk} {jr:Jr} {v:Value} {N:List Nmb} {ev0:Int}
theorem Ch.ent_own(h:Ch w c lo b lj j g gs gm d jr v N last ev0){bx:Nat}{C:Array Value}(hx:w.heap[bx]? =some (.cells C 62 (0,0)))(hj:bx∉[j,g,gs,gm]):bx∉JOwn j g gs gm v:=fun hm=>by
 unfold JOwn at hm;rcases List.mem_append.1 hm with e|e
 ·exact hj e
 obtain⟨_,cur,hc⟩:=h.own_type (by simpa using e);rw[hx] at hc;injection hc with hc;injection hc with _ e2;cases e2
theorem cput_ren(h:Ch w c lo b lj j g gs gm d jr v N last ev0)(hN:N.length≤1000000)(hla:last≤1000000000)(e:Ent)(hk:e.k.size≤65536)(hs:sizeE e≤1048576)(hdn:jr.down=false)(hf:fndB N e.k=true→(fndE N e.k).k=e.k∧(fndE N e.k).v≠e.v)(hz:appE d jr (packE e)=2)
  (z2:Int) (d2:Dsk) (jr2:Jr) (N2:List Nmb) (ev2:Int) (hN2:N2.length≤1000000) (hren:∀u v',Ch u c lo b lj j g gs gm d jr v' N last ev0→Calls Tryz.prog 89 #[ptr c,entV e] u (Putted u c lo b lj j g gs gm v' z2 d2 jr2 N2 last ev2)):
  Calls Tryz.prog 41 #[ptr c,.string e.k,.string e.v] w (Putted w c lo b lj j g gs gm v z2 d2 jr2 (putN z2 N2 last e) (putL z2 last) ev2):=by
 have HFF:=hid hf;have HZ:=hid hz;have HLA:=hid hla;have HNL:=hid hN;have HNL2:=hid hN2;have HRN:=hid hren;have HAD:Hid (appD d jr (packE e)=d∧appJ d jr (packE e)=jr):=hid (by
  rcases Jou.app_parts d jr (packE e) with⟨_,q,_⟩|⟨_,_,q,_⟩|⟨_,_,_,_,q1,q2⟩|⟨_,_,_,_,q,_⟩|⟨_,_,_,_,q,_⟩
  ·rw[hz] at q;cases q
  ·rw[hz] at q;cases q
  ·exact⟨q1,q2⟩
  ·rw[hz] at q;cases q
  ·rw[hz] at q;cases q)
 have HSZ:Hid (e.k.size+e.v.size≤900000000):=hid (by unfold sizeE at hs;omega);have HKV:Hid (e.k.size≤281474976710656∧e.v.size≤281474976710656):=hid (by have:=HSZ.out;omega);have HKK:Hid (e.k.size≤1000000000):=hid (by omega);have HBW:=hid h.sh.bk.lt;have HXO:Hid (∀q∈JOwn j g gs gm v,q<w.heap.size):=hid h.own_lt;clear hf hz hla hN2 hren;obtain⟨ek,ev⟩:=e;dsimp only at *;have HAL:=Frm.alloc_below w (.cells #[.string ek,.string ev] 62);have HXA:=heap_alloc_new w (.cells #[.string ek,.string ev] 62);obtain⟨bx,hbx⟩:∃bx,w.heap.size=bx:=⟨_,rfl⟩
 obtain⟨w1,hw1⟩:∃w1,w.alloc (.cells #[.string ek,.string ev] 62 (0,0))=w1:=⟨_,rfl⟩
 rw[hw1] at HAL HXA;have HH1:=hid (h.below HAL);have HM:=hid (made_any HH1.out);have HD:=hid (cdown_any HH1.out);rw[hdn] at HD;have HSE:=hid (size_any w1 ⟨ek,ev⟩ (by unfold sizeE at hs;dsimp only at hs ⊢;omega));have HFI:=hid (fun u (hb:Below w1.heap.size w1 u)=>find_any u c 1 lo b last N ek (HH1.out.below hb).sh hN (by omega));have HSV:Hid (sizeE ⟨ek,ev⟩=sizeE ⟨ek,ev⟩):=hid rfl;unfold entV at HSE;dsimp only at HSE;unfold ptr at *;have hsi:(sizeE ⟨ek,ev⟩:Int)≤1048576:=by omega
 have hki:(ek.size:Int)≤65536:=by omega
 have HAL:=hid HAL;have HXA:=hid HXA;rw[hbx] at HXA;clear h hN hs hdn;generalize fndE N ek=en at *;generalize fndB N ek=bn at *;obtain⟨fk,fv⟩:=en;unfold entV at HFI HRN;dsimp only at *;generalize hsz:sizeE ⟨ek,ev⟩=sz at hsi HSE;have HSZE:=hid hsz;clear hsz;go_enter Tryz.func41,Tryz.ntmps41;go_upto_region 2 with fail;have k0:=cell_at HXA.out 0;have k1:=cell_at HXA.out 1;clear hw1;go_wp2_with fail;refine HM.out.mono ?_;rintro e u ⟨rfl,rfl⟩;go_wp2_with fail;refine HD.out.mono ?_;rintro e u ⟨rfl,rfl⟩;go_wp2_with fail;refine(HSE.out).mono ?_;rintro e w2 ⟨rfl,hb2⟩;have HF2:=hid (HFI.out w2 hb2);have HH2:=hid (HH1.out.below hb2);have HB2:=hid (HAL.out.trans (hb2.mono HAL.out.size));have HX2:=hid ((hb2.block bx (lt_of_heap HXA.out)).trans HXA.out);clear hb2 HFI HSE HM HD HXA HAL k0 k1 HH1;go_wp2_with fail;refine HF2.out.mono ?_;rintro e w9 ⟨rfl,hb9⟩;have HH9:=hid (HH2.out.below hb9);have HB9:=hid (HB2.out.trans (hb9.mono HB2.out.size));have HX9:=hid ((hb9.block bx (lt_of_heap HX2.out)).trans HX2.out);clear hb9 HF2 HH2 HB2 HX2;go_upto_region 9 with fail;obtain⟨bo,hbo⟩:∃bo,w9.heap.size=bo:=⟨_,rfl⟩
 have hal3:=Frm.alloc_below w9 (.cells #[.string fk,.string fv] 62);have HO3:=hid (heap_alloc_new w9 (.cells #[.string fk,.string fv] 62));have HH3:=hid (HH9.out.below hal3);have HB3:=hid (HB9.out.trans (hal3.mono HB9.out.size));have HX3:=hid ((hal3.block bx (lt_of_heap HX9.out)).trans HX9.out);clear hal3 HH9 HB9 HX9;rw[hbo] at HO3 ⊢;generalize w9.alloc (.cells #[.string fk,.string fv] 62)=w3 at *;clear hbo;have k0:=cell_at HX3.out 0;have k1:=cell_at HX3.out 1;have o0:=cell_at HO3.out 0;have o1:=cell_at HO3.out 1;clear HO3;have HBX:=hid hbx;go_cut [43] (fun x wc=>x= .bool false∧wc=w3)
 case first=>
  cases bn with
  |false=>
   go_wp2_with fail;go_meet
   exact⟨rfl,rfl⟩
  |true=>
   obtain⟨rfl,hne⟩:=HFF.out rfl;have hvn:=ba_ne hne;clear hne;go_wp2_with fail;go_meet
   exact⟨rfl,rfl⟩
 case rest=>
  obtain⟨rfl,rfl⟩:=hcut;clear HFF k0 k1 o0 o1 HSZE hki;have HH2:=hid HH3.out;have HB2:=hid HB3.out;have HX2:=hid HX3.out;clear HH3 HB3 HX3;obtain⟨w2,rfl⟩:∃u:World,u=wc:=⟨_,rfl⟩
  have HXO2:Hid (bx∉JOwn j g gs gm v):=hid (fun hm=>by have:=HXO.out bx hm;have:=HBX.out;omega);go_upto_region 11 with fail;have HS:Hid (w2.drew.cell? ⟨c,0,none⟩=some (.pointer (some ⟨j,0,none⟩))∧w2.drew.heap[bx]? =some (.cells #[.string ek,.string ev] 62 (0,0))):=hid ⟨HH2.out.c0,HX2.out⟩;have HH3:=hid (HH2.out.below (Below.refl w2.heap.size w2).drew);have HB3:=hid (HB2.out.drew);clear HH2 HX2 HB2;refine Frm.wh_start (fun u=>u.cell? ⟨c,0,none⟩=some (.pointer (some ⟨j,0,none⟩))∧u.heap[bx]? =some (.cells #[.string ek,.string ev] 62 (0,0))) (by kernel_rfl) ?_;generalize w2.drew=u0 at *;have HPK:=hid (pack_any u0 ⟨ek,ev⟩ HSZ.out);unfold entV at HPK;refine Frm.wa 0 44 (.pointer (some ⟨c,0,none⟩)) HS.out ?_;go_frame;refine Frm.wb 1 45 (.pointer (some ⟨c,0,none⟩)) HS.out ?_;go_frame;refine Frm.wb 2 46 (.pointer (some ⟨c,0,none⟩)) HS.out ?_;go_frame;refine Frm.wd 3 47 (.pointer (some ⟨j,0,none⟩)) HS.out (fun w' hw'=> ?_) ?_
  ·have h1:=hw'.1;go_simp
  go_frame;refine Frm.wd 4 48 (.agg #[.string ek,.string ev]) HS.out (fun w' hw'=> ?_) ?_
  ·have h1:=cell_at hw'.2 0;have h2:=cell_at hw'.2 1;go_simp
  go_frame;refine Frm.wh_call 5 49 35 #[.agg #[.string ek,.string ev]] rfl rfl (by kernel_rfl) rfl ?_ ?_
  ·go_simp
  refine(HPK.out).mono ?_;rintro e w4 ⟨A4,c4,rfl,ho4,hb4⟩;have HH4:=hid (HH3.out.below hb4);have HB4:=hid (HB3.out.trans (hb4.mono HB3.out.size));have HS4:Hid (w4.cell? ⟨c,0,none⟩=some (.pointer (some ⟨j,0,none⟩))∧w4.heap[bx]? =some (.cells #[.string ek,.string ev] 62 (0,0))):=hid ⟨HH4.out.c0,(hb4.block bx (lt_of_heap HS.out.2)).trans HS.out.2⟩;have HBT:Hid (Jou.Bts w4 (JOwn j g gs gm v) A4 (sizeE ⟨ek,ev⟩) (packE ⟨ek,ev⟩)):=hid (bts_owns (S:=JOwn j g gs gm v) ho4 (fun q hq=>HH3.out.own_lt q hq));obtain⟨A',c',e',hc1,hc2⟩:=ho4.form;injection e' with e1 _ e3;subst e1 e3;have HAC:=hid (Jou.append_any w4 lj j g gs gm d jr v (sizeE ⟨ek,ev⟩) c4 A4 (packE ⟨ek,ev⟩) HH4.out.jn (HBT.out.sub (fun q hq=> .inl (List.mem_append_left _ hq))) hc1 hc2);rw[HZ.out] at HAC;unfold ptr at HAC;clear ho4 hb4 hc1 hc2 HS HPK HBT;have HS:=HS4;clear HS4;refine⟨_,rfl,HS.out,?_⟩;go_frame;refine Frm.wh_call 6 50 15 #[.pointer (some ⟨j,0,none⟩),.slice A4 (sizeE ⟨ek,ev⟩) c4] rfl rfl (by kernel_rfl) rfl ?_ ?_
  ·go_simp
  refine(HAC.out).mono ?_;rintro e w5 ⟨rfl,v1,hj5,ht5,hv5⟩;have HH5:=hid (HH4.out.journaled ht5 hj5);have HS5:Hid (w5.cell? ⟨c,0,none⟩=some (.pointer (some ⟨j,0,none⟩))∧w5.heap[bx]? =some (.cells #[.string ek,.string ev] 62 (0,0))):=hid ⟨HH5.out.c0,(ht5.block bx (lt_of_heap HS.out.2) (HXO2.out)).trans HS.out.2⟩;have HT5:Hid (FrC lo c b j g gs gm v w w5):=hid ((FrC.of_below HB4.out).trans (v1:=v) (FrC.own ht5 (HH4.out.apart (.inr (.inl rfl))).1) (fun q hq=> .inl hq) HBW.out);have HX5:Hid (w5.heap[bx]? =some (.cells #[.string ek,.string ev] 62 (0,0))):=hid HS5.out.2;have HV5:Hid (∀q,v1.ownBlock=some q→v.ownBlock=some q∨w.heap.size≤q):=hid (fun q hq=>(hv5 q hq).imp id (fun e=>Nat.le_trans HB4.out.size e));clear HS hj5 ht5 hv5 HAC HH4 HB4;have HS:=HS5;clear HS5;refine⟨_,rfl,HS.out,?_⟩;go_frame;refine Frm.wa 7 10 (.int .i64 2) HS.out ?_;go_frame;refine wpAnyH_done (by kernel_rfl) ?_ _;rw[HAD.out.1,HAD.out.2] at HH5;have b0:=cell_at HX5.out 0;have b1:=cell_at HX5.out 1;have HRW:=hid (HRN.out w5 v1 HH5.out);have HHC:=hid (HH5.out.ent_own HX5.out (fun hm=>by have:=HXO.out bx (by unfold JOwn;exact List.mem_append_left _ hm);have:=HBX.out;omega));have hxc:bx≠c:=fun e=>by
   have h1:=HX5.out;rw[e,HH5.out.hd] at h1;injection h1 with h1;injection h1 with _ h2;cases h2
  have hxb:bx≠b:=fun e=>by
   obtain⟨es',cl',hm⟩:=HH5.out.map_at;have h1:=HX5.out;rw[e,hm] at h1;cases h1
  have HXB:=hid (And.intro hxc hxb);clear hxc hxb;clear HRN HAD HS;unfold ptr at HRW;go_wp2_with fail;refine HRW.out.mono ?_;rintro e wA ⟨rfl,v2,hcA,hfA,hvA⟩;have HHA:=hid hcA;have HXA:Hid (wA.heap[bx]? =some (.cells #[.string ek,.string ev] 62 (0,0))):=hid ((hfA.keep (lt_of_heap HX5.out) HXB.out.1 HXB.out.2 (fun _ hr=>by
   obtain⟨C,hC⟩:=hr;rw[HX5.out] at hC;injection hC with hC;injection hC with _ e2;cases e2) HHC.out).trans HX5.out)
  have HTA:Hid (FrC lo c b j g gs gm v w wA):=hid (HT5.out.trans (v1:=v1) hfA HV5.out HBW.out);have HVA:Hid (∀q,v2.ownBlock=some q→v.ownBlock=some q∨w.heap.size≤q):=hid (fun q hq=>by
   rcases hvA q hq with e|e
   ·exact HV5.out q e
   ·exact .inr (Nat.le_trans HT5.out.size e))
  clear hcA hfA hvA HRW HH5 HX5 HT5 HV5 HHC HXB b0 b1;go_upto_region 14 with fail;by_cases hz0:z2=0
  ·subst hz0;go_upto_region 16 with fail;have HS:Hid (wA.drew.heap[bx]? =some (.cells #[.string ek,.string ev] 62 (0,0))):=hid HXA.out;have HH6:=hid (HHA.out.below (Below.refl wA.heap.size wA).drew);have HT6:Hid (FrC lo c b j g gs gm v w wA.drew):=hid (HTA.out.trans (v1:=v) (FrC.of_below (Below.refl wA.heap.size wA).drew) (fun q hq=> .inl hq) HBW.out);clear HXA HHA HTA;refine Frm.wh_start (fun u=>u.heap[bx]? =some (.cells #[.string ek,.string ev] 62 (0,0))) (by kernel_rfl) ?_;generalize wA.drew=u1 at *;have HEC:=hid (eclone_any u1 ⟨ek,ev⟩ HKV.out);unfold entV at HEC;refine Frm.wa 0 59 (.pointer (some ⟨c,0,none⟩)) HS.out ?_;go_frame;refine Frm.wb 1 60 (.pointer (some ⟨c,0,none⟩)) HS.out ?_;go_frame;refine Frm.wb 2 61 (.pointer (some ⟨c,1,none⟩)) HS.out ?_;go_frame;refine Frm.wd 3 62 (.agg #[.string ek,.string ev]) HS.out (fun w' hw'=> ?_) ?_
   ·have h1:=cell_at hw' 0;have h2:=cell_at hw' 1;go_simp
   go_frame;refine Frm.wh_call 4 63 90 #[.agg #[.string ek,.string ev]] rfl rfl (by kernel_rfl) rfl ?_ ?_
   ·go_simp
   refine(HEC.out).mono ?_;rintro e w7 ⟨rfl,hb7⟩;have HH7:=hid (HH6.out.below hb7);have HT7:=hid (HT6.out.trans (v1:=v) (FrC.of_below hb7) (fun q hq=> .inl hq) HBW.out);have HS7:=hid ((hb7.block bx (lt_of_heap HS.out)).trans HS.out);have HP:=hid (put_any w7 c 1 lo b last N2 ⟨ek,ev⟩ HH7.out.sh HNL2.out HKK.out HH7.out.low HLA.out);unfold entV at HP;clear HS hb7 HEC HH6 HT6;have HS:=HS7;clear HS7;refine⟨_,rfl,HS.out,?_⟩;go_frame;refine Frm.wh_call 5 64 85 #[.pointer (some ⟨c,1,none⟩),.agg #[.string ek,.string ev]] rfl rfl (by kernel_rfl) rfl ?_ ?_
   ·go_simp
   refine(HP.out).mono ?_;rintro e w8 ⟨rfl,hs8,ht8,hp8⟩;have hc8:w8.heap[c]? =some (cobj j b (last+1) ev2):=hp8.trans (cobj_last HH7.out.hd);have HH8:=hid (HH7.out.shelved ht8 hs8 hc8);have HT8:Hid (FrC lo c b j g gs gm v w w8):=hid (HT7.out.trans (v1:=v) (FrC.shelf ht8) (fun q hq=> .inl hq) HBW.out);have HS8:Hid (w8.heap[bx]? =some (.cells #[.string ek,.string ev] 62 (0,0))):=hid (sht_keep ht8 HS.out (fun e=>by have h1:=HS.out;rw[e,HH7.out.hd] at h1;injection h1 with h1;injection h1 with _ h2;cases h2) (by obtain⟨es',cl',hm⟩:=HH7.out.map_at;intro e;have h1:=HS.out;rw[e,hm] at h1;cases h1) (by decide));clear HS hc8 hs8 ht8 hp8 HP;have HS:=HS8;refine⟨_,rfl,HS.out,?_⟩;go_frame;refine wpAnyH_done (by kernel_rfl) ?_ _;go_wp2_with fail;go_ret;exact⟨rfl,v2,HH8.out,HT8.out,HVA.out⟩
  have hzb:(z2 !=0)=true:=by simpa using hz0
  have HZN:Hid (putN z2 N2 last ⟨ek,ev⟩=N2∧putL z2 last=last):=hid ⟨if_neg hz0,if_neg hz0⟩;go_wp2_with fail;go_ret;exact⟨rfl,v2,by rw[HZN.out.1,HZN.out.2];exact HHA.out,HTA.out,HVA.out⟩
end
end Go.Proofs.YtdjhlhellkajfaaGreat.Cch
