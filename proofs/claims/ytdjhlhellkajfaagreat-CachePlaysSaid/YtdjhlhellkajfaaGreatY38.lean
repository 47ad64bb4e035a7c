/-
  Texts KWm, KLWi, KLPd, in one file. What each proves, and its conditions, stand at its head below.
-/
import Derived.Test.YtdjhlhellkajfaaGreatY23
import Derived.Test.YtdjhlhellkajfaaGreatY29
import Derived.Test.YtdjhlhellkajfaaGreatY30
import Derived.Test.YtdjhlhellkajfaaGreatY36
import Derived.Test.YtdjhlhellkajfaaGreatY37
import Derived.Test.YtdjhlhellkajfaaGreatY43
import Derived.StringKeys
import Derived.Deep.DeepCutAuto
set_option maxRecDepth 100000
set_option maxHeartbeats 4000000
open Go.Lib (hid)
namespace Go.Proofs.YtdjhlhellkajfaaGreat.Cch
open Go.RowKit Codec Cod
open Disk (Turn Dk Dsk ptr)
open JourM (Jr appE appD appJ takes takes1 room extD extD_n)
theorem Acts.fn{w:World}{base n:Nat}{A:Option Addr}(h:Acts w base A n):∃(X:Nat→ActR) (bb oo:Nat→Nat),∀k,k<n→ActAt w base A n k (X k) (bb k) (oo k):=by
 classical
 refine⟨fun k=>if hk:k<n then (h k hk).choose else ⟨0,0,⟨baOf [],baOf []⟩,none,0,0,[]⟩,fun k=>if hk:k<n then (h k hk).choose_spec.choose else 0,fun k=>if hk:k<n then (h k hk).choose_spec.choose_spec.choose else 0,fun k hk=> ?_⟩;simp only[dif_pos hk];exact(h k hk).choose_spec.choose_spec.choose_spec
def LightR (w:World) (n:Nat) (X:Nat→ActR) (e:Ending) (w':World):Prop:=w'=w∧∃L,e= .returned (.bool L)∧(L=true→n≤50∧∀k,k<n→(X k).e.k.size≤500∧(X k).e.v.size≤1000)
theorem light_any(w:World)(base n c:Nat)(A:Option Addr)(X:Nat→ActR)(bb oo:Nat→Nat)(h:∀k,k<n→ActAt w base A n k (X k) (bb k) (oo k))(hn:n≤maxLen):
  Calls Tryz.prog 37 #[.slice A n c] w (LightR w n X):=by
 have HX:=hid h;have HN:=hid hn;clear h hn;have hn64:(n:Int)≤9223372036854775 * 1024:=by have:=HN.out;unfold maxLen at this;omega
 have HN64:=hid hn64;clear hn64;go_enter Tryz.func37,Tryz.ntmps37;go_wp2_with fail;go_loopw [3] (fun i wr=>wr=w∧∃k:Nat,k≤n∧k≤100∧i= .int .i64 k∧∀q,q<k→(X q).e.k.size≤500∧(X q).e.v.size≤1000) (fun i _=>n-(Go.RowKit.intOf i).toNat)
 case atStart=>exact⟨rfl,0,by omega,by omega,rfl,fun q hq=>absurd hq (by omega)⟩
 case round=>
  obtain⟨rfl,k,hk,hk1,rfl,hq⟩:=hrel;have HQ:=hid hq;clear hq;have hk1i:(k:Int)≤100:=by omega
  by_cases hlt:k<n
  ·by_cases hlh:k<100
   ·obtain⟨hidx0,hin⟩:=HX.out k hlt;have hidx:=fun w'=>hidx0 c w';have c2:=hin.c2;have c3:=hin.c3;have c4:=hin.c4;obtain⟨y,hy⟩:∃y,X k=y:=⟨_,rfl⟩
    rw[hy] at c2 c3 c4;have HY:=hid hy;clear hy hidx0 hin;by_cases b1:(500:Int)<y.e.k.size
    ·go_wp2_with fail;go_ret;exact⟨rfl,false,rfl,fun h=>by cases h⟩
    by_cases b2:(1000:Int)<y.e.v.size
    ·have b1':(y.e.k.size:Int)≤500:=by omega
     go_wp2_with fail;go_ret;exact⟨rfl,false,rfl,fun h=>by cases h⟩
    by_cases b3:(100:Int)<y.nf
    ·have b1':(y.e.k.size:Int)≤500:=by omega
     have b2':(y.e.v.size:Int)≤1000:=by omega
     go_wp2_with fail;go_ret;exact⟨rfl,false,rfl,fun h=>by cases h⟩
    have b1':(y.e.k.size:Int)≤500:=by omega
    have b2':(y.e.v.size:Int)≤1000:=by omega
    have b3':(y.nf:Int)≤100:=by omega
    have HS:Hid (y.e.k.size≤500∧y.e.v.size≤1000):=hid (by omega);go_wp2_with fail;go_roundw
    case rel=>exact⟨trivial,k+1,by omega,by omega,by go_num,fun q hq=>by
     by_cases e:q=k
     ·subst e;rw[HY.out];exact HS.out
     ·exact HQ.out q (by omega)⟩
    case measure=>simp[Go.RowKit.intOf];omega
   obtain rfl:k=100:=by omega
   have h50:¬(n:Int)≤50:=by omega
   go_wp2_with fail;go_ret;exact⟨rfl,false,by simp,fun h=>by cases h⟩
  obtain rfl:k=n:=by omega
  by_cases h50:(k:Int)≤50
  ·go_wp2_with fail;go_ret;exact⟨rfl,true,by simp,fun _=>⟨by omega,HQ.out⟩⟩
  go_wp2_with fail;go_ret;exact⟨rfl,false,by simp,fun h=>by cases h⟩
def fnd (L:List Ent) (key:ByteArray):Option Ent:=L.find? fun x=>decide (x.k=key)
theorem fnd_ents(N:List Nmb)(key:ByteArray):fnd (ents N) key=(findN N key).map Nmb.e:=by
 unfold fnd ents findN;rw[List.find?_map];rfl
theorem fndB_of(N:List Nmb)(key:ByteArray):fndB N key=(fnd (ents N) key).isSome:=by
 rw[fnd_ents];unfold fndB;cases findN N key<;>rfl
theorem fndE_of{N:List Nmb}{key:ByteArray}{e:Ent}(h:fnd (ents N) key=some e):fndE N key=e:=by
 rw[fnd_ents] at h;unfold fndE;cases hf:findN N key with
 |none=>rw[hf] at h;cases h
 |some x=>rw[hf] at h;injection h
theorem fndE_key{N:List Nmb}{key:ByteArray}(h:fndB N key=true):(fndE N key).k=key:=by
 unfold fndB at h;unfold fndE;cases hf:findN N key with
 |none=>rw[hf] at h;cases h
 |some x=>
  unfold findN at hf;simpa using List.find?_some hf
theorem fnd_mem{L:List Ent}{key:ByteArray}{e:Ent}(h:fnd L key=some e):e∈L∧e.k=key:=⟨List.mem_of_find?_eq_some h,by simpa using List.find?_some h⟩
theorem nice_ents{N:List Nmb}{last:Nat}(h:Nice N last):(ents N).Pairwise fun a b=>a.k≠b.k:=List.pairwise_map.2 h.keys
def foldE (gs:List (List UInt8)):List Ent:=(gs.map unE).foldl withE []
theorem foldE_snoc(gs:List (List UInt8))(b:List UInt8):foldE (gs++[b])=withE (foldE gs) (unE b):=by
 unfold foldE;rw[List.map_append,List.foldl_append];rfl
theorem ents_lays(es:List Ent):∀k,k≤es.length→ents (laysF es k)=(es.take k).foldl withE []
 |0,_=>by simp[laysF,ents]
 |k+1,h=>by
  have hk:k<es.length:=by omega
  show ents (lay (laysF es k) k (es.getD k ⟨baOf [],baOf []⟩))=_;rw[ents_lay,ents_lays es k (by omega),List.take_succ_eq_append_getElem hk,List.foldl_append];simp[List.getD_eq_getElem?_getD,hk]
theorem ents_opened(gs:List (List UInt8)):ents (laysF (gs.map unE) gs.length)=foldE gs:=by
 rw[ents_lays _ _ (by simp)];have:(gs.map unE).take gs.length=gs.map unE:=by
  have h:=List.take_length (l:=gs.map unE);rwa [List.length_map] at h
 rw[this];rfl
theorem with_le(L:List Ent)(e:Ent):(withE L e).length≤L.length+1:=by
 unfold withE;have:=List.length_filter_le (fun x:Ent=>decide (x.k≠e.k)) L;rw[List.length_append];simp only[List.length_cons,List.length_nil];omega
theorem takes_pack{e:Ent}(h:e.k.size≤500∧e.v.size≤1000):takes1 (packE e)≤25:=by
 unfold takes1 FrameM.need;rw[packE_length];unfold sizeE;omega
theorem takes_snoc(gs:List (List UInt8))(b:List UInt8):takes (gs++[b])=takes gs+takes1 b:=JourM.takes_snoc gs b
end Go.Proofs.YtdjhlhellkajfaaGreat.Cch
namespace Go.Proofs.YtdjhlhellkajfaaGreat.Cch
open Go.RowKit Codec Cod
open Disk (Turn)
def entL (l:List Ent):List Value:=l.flatMap fun e=>[.string e.k,.string e.v]
theorem entL_app(a b:List Ent):entL (a++b)=entL a++entL b:=by simp[entL]
theorem entL_get:∀(l:List Ent) (p r:Nat),r<2→(entL l)[p * 2+r]? =(l[p]?).bind fun x=>[Value.string x.k,.string x.v][r]?
 |[],p,r,_=>by simp[entL]
 |x::l,0,r,hr=>by
  show([Value.string x.k,.string x.v]++entL l)[0 * 2+r]? =_;rw[List.getElem?_append_left (by simp;omega)];simp
 |x::l,p+1,r,hr=>by
  show([Value.string x.k,.string x.v]++entL l)[(p+1) * 2+r]? =_;rw[List.getElem?_append_right (by simp;omega)];have e:(p+1) * 2+r-[Value.string x.k,.string x.v].length=p * 2+r:=by simp;omega
  rw[e,entL_get l p r hr];simp
def OwnR (w:World) (base:Nat) (v:Value) (n:Nat) (l:List Ent):Prop:=l.length=n∧w.ownsRow base 61 2 v n (entL l)
theorem OwnR.nil(w:World)(base:Nat):OwnR w base (.slice none 0 0) 0 []:=⟨rfl,World.ownsRow_nil _ _ _ _⟩
theorem infoR:(Tryz.prog.info? 61).map (fun i=>(i.zero,i.size,i.bytes))=some (some (.agg #[.string ⟨#[]⟩,.string ⟨#[]⟩]),2,32):=by kernel_rfl
theorem OwnR.below{w w':World}{base n:Nat}{v:Value}{l:List Ent}(h:OwnR w base v n l)(hb:Below w.heap.size w w'):OwnR w' base v n l:=
 ⟨h.1,h.2.kept (row:=none) ⟨hb.os,hb.tape,hb.output,hb.size,fun k hk _=>hb.block k hk⟩ (by
  cases hh:v.ownBlock
  ·exact .inl rfl
  ·exact .inr (fun e=>by cases e))⟩
theorem OwnR.form{w:World}{base n:Nat}{v:Value}{l:List Ent}(h:OwnR w base v n l):∃A c,v= .slice A n c∧n≤c∧Els.Ns w A n l:=by
 obtain⟨hl,h1,h2⟩:=h;rcases h2 with⟨rfl,rfl⟩|⟨g,cap,cur,rfl,hlo,hh,hnc,hcm,hsz,htk⟩
 ·exact⟨none,0,rfl,Nat.le_refl _,hl,fun h0=>absurd h0 (by omega)⟩
 refine⟨some ⟨g,0,none⟩,cap,rfl,hnc,hl,fun h0=>⟨g,0,rfl,lt_of_heap hh,fun j hj=> ?_⟩⟩;have e:∀r,r<2→cur[j * 2+r]? =[Value.string l[j].k,.string l[j].v][r]? :=fun r hr=>by
  have h3:=entL_get l j r hr;rw[←htk,List.getElem?_take_of_lt (by omega),List.getElem?_eq_getElem hj] at h3;simpa using h3
 rw[Nat.zero_add,cell_at hh,cell_at hh];exact⟨e 0 (by omega),e 1 (by omega)⟩
theorem run_app_e(w:World)(ty:TypeId)(base:Nat)(v:Value)(n:Nat)(l:List Ent)(h:OwnR w base v n l)(x:Ent)(eb:Nat)(he:w.heap[eb]? =some (.cells #[.string x.k,.string x.v] 61 (0,0)))(hl:n≤1000000)(hlo:base≤w.heap.size):
  ∃A2 c2 w2,(Builtin.append_ #[86,86] ty #[v,.slice (some ⟨eb,0,none⟩) 1 1]).run Tryz.prog w= .ok (.slice A2 (n+1) c2) w2∧OwnR w2 base (.slice A2 (n+1) c2) (n+1) (l++[x])∧w.grownBy w2 v.ownBlock:=by
 obtain⟨i0,hi0,hz0,hz1,hz2⟩:=info_parts infoR;obtain⟨hl0,h1⟩:=h;obtain⟨v2,w2,hrun,r1,r2,_,_⟩:=run_append_own_at (P:=Tryz.prog) w base 86 ty 61 i0 _ 2 32 Tryz.underlying86 hi0 hz0 hz1 hz2 rfl (by decide) v n (entL l) h1 ⟨eb,0,none⟩ 1 1 [.string x.k,.string x.v] rfl (fun j u hu=>by
  rw[plain_add,Nat.zero_add,cell_at he];have hj:j<2:=(List.getElem?_eq_some_iff.1 hu).1;rcases(show j=0∨j=1 by omega) with rfl|rfl<;>simpa using hu) (fun u hu=>by
  simp only[List.mem_cons,List.not_mem_nil,or_false] at hu;rcases hu with rfl|rfl<;>rfl) (by unfold maxLen;omega) (by omega) hlo
 have hr:entL (l++[x])=entL l++[.string x.k,.string x.v]:=by rw[entL_app];simp[entL]
 have ho:OwnR w2 base v2 (n+1) (l++[x]):=⟨by simp[hl0],by rw[hr];exact r1⟩
 obtain⟨A2,c2,e,_⟩:=ho.form;rw[e] at hrun ho;exact⟨A2,c2,w2,hrun,ho,r2⟩
theorem wpList_app_e(w:World){ops:Array Oper}{rest:List Oper}{o:Oper}{a:Act}{Q:Exit→Act→World→Prop}(hgd:o.guard=none)(s x:Operand)
  (ho:o.op= .call {callee:= .builtin .append,args:= #[s,x],argTypes:= #[86,86]})
  (base:Nat) (v:Value) (n:Nat) (l:List Ent) (hs:a.eval s=v) (h:OwnR w base v n l) (e:Ent) (eb:Nat) (hx:a.eval x= .slice (some ⟨eb,0,none⟩) 1 1) (he:w.heap[eb]? =some (.cells #[.string e.k,.string e.v] 61 (0,0))) (hl:n≤1000000) (hlo:base≤w.heap.size)
  (hK:∀A2 c2 w2,OwnR w2 base (.slice A2 (n+1) c2) (n+1) (l++[e])→w.grownBy w2 v.ownBlock→wpList Tryz.prog ops Q rest (a.put o.dst (.slice A2 (n+1) c2)) w2):wpList Tryz.prog ops Q (o::rest) a w:=by
 obtain⟨A2,c2,w2,hrun,k2,k3⟩:=run_app_e w o.type base v n l h e eb he hl hlo;refine wpList_plain hgd fun _ hK'=> ?_;unfold Oper.wp execOp;simp only[ho,resolve,invoke,builtin,Sem.run_bind,Sem.run_pure,Result.andThen_ok,List.map_toArray,List.map_cons,List.map_nil,hs,hx,hrun];exact hK' _ _ (hK A2 c2 w2 k2 k3)
theorem OwnR.below_own{w w1:World}{base n:Nat}{v:Value}{l:List Ent}(h:OwnR w base v n l)(hB:base≤w.heap.size)(hg:w.grownBy w1 v.ownBlock):Below base w w1:=
 (Below.refl base w).grown hg hB (fun k hk=>(World.ownsRow.lt h.2 k hk).1)
theorem OwnR.lower{w:World}{base base' n:Nat}{v:Value}{l:List Ent}(h:OwnR w base v n l)(hb:base'≤base):OwnR w base' v n l:=by
 obtain⟨h1,h2,h3⟩:=h;refine⟨h1,h2,?_⟩;rcases h3 with h3|⟨g,cap,cur,r1,r2,r3⟩
 ·exact .inl h3
 exact .inr ⟨g,cap,cur,r1,by omega,r3⟩
def WithR (w:World) (L:List Ent) (e:Ending) (w':World):Prop:=∃A c,e= .returned (.slice A L.length c)∧OwnR w' w.heap.size (.slice A L.length c) L.length L∧Below w.heap.size w w'
theorem idx_e(A:Option Addr)(n c k g of:Nat)(hA:A=some ⟨g,of,none⟩)(hk:k<n)(u:World):(Instr.indexAt 86 (.slice A n c) (.int .i64 k)).run Tryz.prog u= .ok (.pointer (some ⟨g,of+k * 2,none⟩)) u:=by
 have hs:(Go.sizeOf 61).run Tryz.prog u= .ok 2 u:=by kernel_rfl
 rw[hA];simp[Instr.indexAt,asIntOf,run_underlying Tryz.underlying86,Result.andThen,Addr.add_mid,hs];intro h1;omega
def cutK (L:List Ent) (key:ByteArray) (k:Nat):List Ent:=(L.take k).filter fun x=>decide (x.k≠key)
theorem cutK_step{L:List Ent}{key:ByteArray}{k:Nat}(hk:k<L.length):cutK L key (k+1)=cutK L key k++if L[k].k=key then [] else [L[k]]:=by
 unfold cutK;rw[List.take_succ_eq_append_getElem hk,List.filter_append];by_cases e:L[k].k=key<;>simp[e]
theorem cutK_le(L:List Ent)(key:ByteArray)(k:Nat):(cutK L key k).length≤k:=by
 have h1:=List.length_filter_le (fun x:Ent=>decide (x.k≠key)) (L.take k);have h2:=List.length_take_le k L;unfold cutK;omega
theorem cutK_all(L:List Ent)(e:Ent):cutK L e.k L.length++[e]=withE L e:=by
 unfold cutK withE;rw[List.take_length]
theorem with_any(w:World)(n c:Nat)(A:Option Addr)(L:List Ent)(e:Ent)(hL:Els.Ns w A n L)(hn:n≤100000):Calls Tryz.prog 86 #[.slice A n c,entV e] w (WithR w (withE L e)):=by
 obtain⟨ek,ev⟩:=e;have HL:=hid hL;have HLN:=hid hL.1;have HNN:=hid hn;have hni:(n:Int)≤100000:=by omega
 have HB0:=hid (Frm.alloc_below w (.cells #[.string ek,.string ev] 61));have HX0:=hid (heap_alloc_new w (.cells #[.string ek,.string ev] 61));have HSZ0:Hid ((w.alloc (.cells #[.string ek,.string ev] 61)).heap.size=w.heap.size+1):=hid (World.size_alloc _ _);clear hL hn;unfold entV;dsimp only;go_enter Tryz.func86,Tryz.ntmps86;go_upto_region 2 with fail;generalize w.alloc (.cells #[.string ek,.string ev] 61)=w1 at *;go_wp2_with fail;go_loopw [5,6] (fun o i wr=>∃(k:Nat) (A5:Option Addr) (c5:Nat),k≤n∧i= .int .i64 k∧o= .slice A5 (cutK L ek k).length c5∧OwnR wr (w.heap.size+1) (.slice A5 (cutK L ek k).length c5) (cutK L ek k).length (cutK L ek k)∧
  wr.heap[w.heap.size]? =some (.cells #[.string ek,.string ev] 61 (0,0))∧Below w.heap.size w wr∧w.heap.size+1≤wr.heap.size) (fun _ i _=>n-(Go.RowKit.intOf i).toNat)
 case atStart=>exact⟨0,none,0,Nat.zero_le _,rfl,rfl,OwnR.nil _ _,HX0.out,HB0.out,by have:=HSZ0.out;omega⟩
 case round=>
  obtain⟨k,A5,c5,hk,rfl,rfl,ho,hx,hb,hsz⟩:=hrel;clear HB0 HX0 HSZ0;have HO:=hid ho;have HX:=hid hx;have HB:=hid hb;have HZ:=hid hsz;have HCL:=hid (cutK_le L ek k);clear ho hx hb hsz;by_cases hlt:k<n
  ·have hkl:k<L.length:=by rw[HLN.out];exact hlt
   have HCS:=hid (cutK_step (key:=ek) hkl);obtain⟨g,of,hA,hgl,hcs⟩:=HL.out.2 (by omega);obtain⟨q0,q1⟩:=hcs k hkl;have hbk:=HB.out.block g hgl;have c0:=(World.cell?_of_block (w:=w) (a:=⟨g,of+k * 2,none⟩) hbk).trans q0;have c1:=(World.cell?_of_block (w:=w) (a:=⟨g,of+k * 2+1,none⟩) hbk).trans q1;have hidx:=idx_e A n c k g of hA hlt;have HXK:Hid (L[k]=L[k]):=hid rfl;clear hcs q0 q1 hbk hA hgl HXK;generalize L[k]=x at *;obtain⟨xk,xv⟩:=x;dsimp only at *;obtain⟨m,hm⟩:∃m,(cutK L ek k).length=m:=⟨_,rfl⟩
   rw[hm] at HO HCL ⊢;have HM:=hid hm;clear hm hkl;have hmi:(m:Int)≤100000:=by have:=HCL.out;have:=HNN.out;omega
   by_cases he:xk=ek
   ·subst he;go_upto_region 5 with fail;have HS:Hid (wr.drew.heap[w.heap.size]? =some (.cells #[.string xk,.string ev] 61 (0,0))∧wr.drew.cell? ⟨g,of+k * 2,none⟩=some (.string xk)):=hid ⟨HX.out,c0⟩;refine Frm.wh_start (fun u=>u.heap[w.heap.size]? =some (.cells #[.string xk,.string ev] 61 (0,0))∧u.cell? ⟨g,of+k * 2,none⟩=some (.string xk)) (by kernel_rfl) ?_;refine Frm.wa 0 13 (.slice A n c) HS.out ?_;go_frame;refine Frm.wa 1 14 (.int .i64 k) HS.out ?_;go_frame;refine Frm.wb 2 15 (.pointer (some ⟨g,of+k * 2,none⟩)) HS.out ?_;go_frame;refine Frm.wb 3 16 (.pointer (some ⟨g,of+k * 2,none⟩)) HS.out ?_;go_frame;refine Frm.wd 4 17 (.string xk) HS.out (fun w' hw'=> ?_) ?_
    ·have h1:=hw'.2;go_simp
    go_frame;refine Frm.wb 5 18 (.pointer (some ⟨w.heap.size,0,none⟩)) HS.out ?_;go_frame;refine Frm.wd 6 19 (.string xk) HS.out (fun w' hw'=> ?_) ?_
    ·have h1:=cell_at hw'.1 0;go_simp
    go_frame;refine Frm.wb 7 20 (.bool false) HS.out ?_;go_frame;refine wpAnyH_done (by kernel_rfl) ?_ _;go_wp2_with fail;go_roundw
    case rel=>exact⟨k+1,A5,c5,by omega,by go_num,by rw[HCS.out,if_pos rfl,List.append_nil,HM.out],by rw[HCS.out,if_pos rfl,List.append_nil,HM.out];exact HO.out,HX.out,HB.out.drew,HZ.out⟩
    case measure=>simp[Go.RowKit.intOf];omega
   have hbn:=ba_ne he;go_upto_region 5 with fail;have HS:Hid (wr.drew.heap[w.heap.size]? =some (.cells #[.string ek,.string ev] 61 (0,0))∧wr.drew.cell? ⟨g,of+k * 2,none⟩=some (.string xk)):=hid ⟨HX.out,c0⟩;refine Frm.wh_start (fun u=>u.heap[w.heap.size]? =some (.cells #[.string ek,.string ev] 61 (0,0))∧u.cell? ⟨g,of+k * 2,none⟩=some (.string xk)) (by kernel_rfl) ?_;refine Frm.wa 0 13 (.slice A n c) HS.out ?_;go_frame;refine Frm.wa 1 14 (.int .i64 k) HS.out ?_;go_frame;refine Frm.wb 2 15 (.pointer (some ⟨g,of+k * 2,none⟩)) HS.out ?_;go_frame;refine Frm.wb 3 16 (.pointer (some ⟨g,of+k * 2,none⟩)) HS.out ?_;go_frame;refine Frm.wd 4 17 (.string xk) HS.out (fun w' hw'=> ?_) ?_
   ·have h1:=hw'.2;go_simp
   go_frame;refine Frm.wb 5 18 (.pointer (some ⟨w.heap.size,0,none⟩)) HS.out ?_;go_frame;refine Frm.wd 6 19 (.string ek) HS.out (fun w' hw'=> ?_) ?_
   ·have h1:=cell_at hw'.1 0;go_simp
   go_frame;refine Frm.wb 7 20 (.bool true) HS.out ?_;go_frame;refine wpAnyH_done (by kernel_rfl) ?_ _;have HXD:Hid (wr.drew.heap[w.heap.size]? =some (.cells #[.string ek,.string ev] 61 (0,0))):=hid HX.out;have HBD:=hid HB.out.drew;have HZD:Hid (w.heap.size+1≤wr.drew.heap.size):=hid HZ.out;have HOD:Hid (OwnR wr.drew (w.heap.size+1) (.slice A5 m c5) m (cutK L ek k)):=hid (HO.out.below (Below.refl wr.heap.size wr).drew);have d0:wr.drew.cell? ⟨g,of+k * 2,none⟩=some (.string xk):=c0;have d1:wr.drew.cell? ⟨g,of+k * 2+1,none⟩=some (.string xv):=c1;clear HX HB HZ HO c0 c1 HS;generalize wr.drew=wd at *;have HBA:=hid (Frm.alloc_below wd (.cells #[.string xk,.string xv] 61));have HXA:=hid (heap_alloc_new wd (.cells #[.string xk,.string xv] 61));have HOA:=hid (HOD.out.below HBA.out);go_wp2_with (at_builtin;refine wpList_app_e (wd.alloc (.cells #[.string xk,.string xv] 61)) rfl (.tmp 21) (.tmp 26) rfl (w.heap.size+1) (.slice A5 m c5) m (cutK L ek k) rfl HOA.out ⟨xk,xv⟩ wd.heap.size rfl HXA.out (by have:=HCL.out;have:=HNN.out;omega) (by have:=HZD.out;have:=HBA.out.size;omega) ?_;intro A7 c7 w7 ho7 hg7);have HB7:=hid ((HBD.out.trans (HBA.out.mono HBD.out.size)).trans ((HOA.out.lower (by omega)).below_own (by have:=HBD.out.size;have:=HBA.out.size;omega) hg7));have HX7:=hid (own_side hg7 ((HBA.out.block _ (lt_of_heap HXD.out)).trans HXD.out) (fun q hq=>by have:=(World.ownsRow.lt HOA.out.2 q hq).1;omega));have HO7:=hid ho7;clear ho7 hg7 HBA HXA HOA HOD HXD HBD;go_wp2_with fail;go_roundw
   case rel=>exact⟨k+1,A7,c7,by omega,by go_num,by rw[HCS.out,if_neg he,List.length_append,HM.out];rfl,by rw[HCS.out,if_neg he,List.length_append,HM.out];exact HO7.out,HX7.out,HB7.out,Nat.lt_of_lt_of_le (Nat.lt_succ_self _) (lt_of_heap HX7.out)⟩
   case measure=>simp[Go.RowKit.intOf];omega
  obtain rfl:k=n:=by omega
  have HCA:Hid (cutK L ek k++[⟨ek,ev⟩]=withE L ⟨ek,ev⟩):=hid (by rw[←HLN.out];exact cutK_all L ⟨ek,ev⟩);obtain⟨m,hm⟩:∃m,(cutK L ek k).length=m:=⟨_,rfl⟩
  rw[hm] at HO HCL ⊢;have HM:=hid hm;clear hm;have HBA:=hid (Frm.alloc_below wr (.cells #[.string ek,.string ev] 61));have HXA:=hid (heap_alloc_new wr (.cells #[.string ek,.string ev] 61));have HOA:=hid (HO.out.below HBA.out);have x0:=cell_at HX.out 0;have x1:=cell_at HX.out 1;go_wp2_with (at_builtin;refine wpList_app_e (wr.alloc (.cells #[.string ek,.string ev] 61)) rfl (.tmp 28) (.tmp 30) rfl (w.heap.size+1) (.slice A5 m c5) m (cutK L ek k) rfl HOA.out ⟨ek,ev⟩ wr.heap.size rfl HXA.out (by have:=HCL.out;have:=HNN.out;omega) (by have:=HZ.out;have:=HBA.out.size;omega) ?_;intro A7 c7 w7 ho7 hg7);have HB7:=hid ((HB.out.trans (HBA.out.mono HB.out.size)).trans ((HOA.out.lower (by omega)).below_own (by have:=HB.out.size;have:=HBA.out.size;omega) hg7));have HO7:=hid ho7;have HLW:Hid ((withE L ⟨ek,ev⟩).length=m+1):=hid (by rw[←HCA.out,List.length_append,HM.out];rfl);clear ho7 hg7 HBA HXA HOA;go_wp2_with fail;go_ret;refine⟨A7,c7,by rw[HLW.out];rfl,?_,HB7.out⟩;rw[HLW.out,←HCA.out];exact HO7.out.lower (by omega)
end Go.Proofs.YtdjhlhellkajfaaGreat.Cch
namespace Go.Proofs.YtdjhlhellkajfaaGreat.Cch
open Go.RowKit Codec Cod
open Disk (Turn ptr)
open Jou (OR Itm itm_own wpList_app_or)
def Packd (w:World) (L:List Ent) (e:Ending) (w':World):Prop:=∃A c,e= .returned (.slice A L.length c)∧OR w' w.heap.size (.slice A L.length c) L.length (L.map packE)∧Below w.heap.size w w'
theorem take_map_pack{L:List Ent}{k:Nat}(hk:k<L.length):(L.take (k+1)).map packE=(L.take k).map packE++[packE L[k]]:=by
 rw[List.take_succ_eq_append_getElem hk,List.map_append];rfl
theorem packed_any(w:World)(n c:Nat)(A:Option Addr)(L:List Ent)(hL:Els.Ns w A n L)(hn:n≤100000)(hs:∀e∈L,e.k.size+e.v.size≤900000000):Calls Tryz.prog 91 #[.slice A n c] w (Packd w L):=by
 have HL:=hid hL;have HLN:=hid hL.1;have HNN:=hid hn;have HS:=hid hs;have hni:(n:Int)≤100000:=by omega
 clear hL hn hs;go_enter Tryz.func91,Tryz.ntmps91;go_wp2_with fail;go_loopw [3,4] (fun o i wr=>∃(k:Nat) (A3:Option Addr) (c3:Nat),k≤n∧i= .int .i64 k∧o= .slice A3 k c3∧OR wr w.heap.size (.slice A3 k c3) k ((L.take k).map packE)∧Below w.heap.size w wr) (fun _ i _=>n-(Go.RowKit.intOf i).toNat)
 case atStart=>exact⟨0,none,0,Nat.zero_le _,rfl,rfl,OR.nil,Below.refl _ _⟩
 case round=>
  obtain⟨k,A3,c3,hk,rfl,rfl,ho,hb⟩:=hrel;have HO:=hid ho;have HB:=hid hb;clear ho hb;by_cases hlt:k<n
  ·have hkl:k<L.length:=by rw[HLN.out];exact hlt
   have HTM:=hid (take_map_pack hkl);obtain⟨g,of,hA,hgl,hcs⟩:=HL.out.2 (by omega);obtain⟨q0,q1⟩:=hcs k hkl;have hbk:=HB.out.block g hgl;have c0:=(World.cell?_of_block (w:=w) (a:=⟨g,of+k * 2,none⟩) hbk).trans q0;have c1:=(World.cell?_of_block (w:=w) (a:=⟨g,of+k * 2+1,none⟩) hbk).trans q1;have hidx:=idx_e A n c k g of hA hlt;have HXS:=hid (HS.out L[k] (List.getElem_mem hkl));have HP:=hid (rpack_any wr L[k] HXS.out);clear hcs q0 q1 hbk hA hgl;generalize L[k]=x at *;clear hkl;obtain⟨xk,xv⟩:=x;unfold entV at HP;dsimp only at *;go_wp2_with fail;refine HP.out.mono ?_;rintro e w2 ⟨A2,c2,rfl,ho2,hb2⟩;have HB2:=hid (HB.out.trans (hb2.mono HB.out.size));have HO2:=hid (HO.out.below hb2);have HI2:=hid (itm_own ho2 HB.out.size);clear ho2 hb2 HP HO HB c0 c1;generalize sizeE ⟨xk,xv⟩=sz at *;have HBA:=hid (Frm.alloc_below w2 (.cells #[.slice A2 sz c2] 39));have HXA:=hid (heap_alloc_new w2 (.cells #[.slice A2 sz c2] 39));have HOA:=hid (HO2.out.below HBA.out);have HIA:=hid (HI2.out.below HBA.out);go_wp2_with (at_builtin;refine wpList_app_or (w2.alloc (.cells #[.slice A2 sz c2] 39)) rfl (.tmp 11) (.tmp 17) rfl w.heap.size (.slice A3 k c3) k ((L.take k).map packE) rfl HOA.out w2.heap.size A2 sz c2 (packE ⟨xk,xv⟩) rfl HXA.out HIA.out (by have:=HNN.out;omega) (Nat.le_trans HB2.out.size HBA.out.size) ?_;intro A7 c7 w7 ho7 hb7 hg7);have HB7:=hid ((HB2.out.trans (HBA.out.mono HB2.out.size)).trans hb7);have HO7:=hid ho7;clear ho7 hb7 hg7 HBA HXA HOA HIA HO2 HI2 HB2;go_wp2_with fail;go_roundw
   case rel=>exact⟨k+1,A7,c7,by omega,by go_num,rfl,by rw[HTM.out];exact HO7.out,HB7.out⟩
   case measure=>simp[Go.RowKit.intOf];omega
  obtain rfl:k=n:=by omega
  have HF:Hid (OR wr w.heap.size (.slice A3 k c3) k (L.map packE)):=hid (by
   have h1:=HO.out;rwa [show L.take k=L by rw[←HLN.out,List.take_length]] at h1)
  go_wp2_with fail;go_ret;exact⟨A3,c3,by rw[HLN.out];rfl,by rw[HLN.out];exact HF.out,HB.out⟩
def r7obj (y n c:Nat) (A:Option Addr) (ev:Int):Obj:= .cells #[.pointer (some ⟨y,0,none⟩),.slice A n c,.int .i64 ev] 88
def fndV (L:List Ent) (key:ByteArray):ByteArray:=match fnd L key with|some e=>e.v|none=>⟨#[]⟩
theorem fnd_first{L:List Ent}{key:ByteArray}{k:Nat}(hk:k<L.length)(he:L[k].k=key)(hq:∀j (h:j<L.length),j<k→L[j].k≠key):fnd L key=some L[k]:=by
 unfold fnd;rw[List.find?_eq_some_iff_getElem];exact⟨by simpa using he,k,hk,rfl,fun j hj=>by simpa using hq j (by omega) hj⟩
theorem fnd_nowhere{L:List Ent}{key:ByteArray}(hq:∀j (h:j<L.length),L[j].k≠key):fnd L key=none:=by
 unfold fnd;rw[List.find?_eq_none];intro x hx;obtain⟨j,hj,rfl⟩:=List.getElem_of_mem hx;simpa using hq j hj
theorem rcget_any(w:World)(cr y n c:Nat)(A:Option Addr)(ev:Int)(L:List Ent)(key:ByteArray)(hd:w.heap[cr]? =some (r7obj y n c A ev))(hL:Els.Ns w A n L)(hn:n≤100000):
  Calls Tryz.prog 44 #[ptr cr,.string key] w (Disk.Ends (.tuple #[.string (fndV L key),.bool (fnd L key).isSome]) w):=by
 have HL:=hid hL;have HLN:=hid hL.1;have hni:(n:Int)≤100000:=by omega
 have r1:=cell_at hd 1;clear hL hn hd;unfold ptr;go_enter Tryz.func44,Tryz.ntmps44;go_wp2_with fail;go_loopw [6] (fun i wr=>wr=w∧∃k:Nat,k≤n∧i= .int .i64 k∧∀j (h:j<L.length),j<k→L[j].k≠key) (fun i _=>n-(Go.RowKit.intOf i).toNat)
 case atStart=>exact⟨rfl,0,Nat.zero_le _,rfl,fun j _ h=>absurd h (by omega)⟩
 case round=>
  obtain⟨rfl,k,hk,rfl,hq⟩:=hrel;have HQ:=hid hq;clear hq;by_cases hlt:k<n
  ·have hkl:k<L.length:=by rw[HLN.out];exact hlt
   obtain⟨g,of,hA,hgl,hcs⟩:=HL.out.2 (by omega);obtain⟨c0,c1⟩:=hcs k hkl;have hidx:=idx_e A n c k g of hA hlt;have HX:Hid (L[k].k=key→fnd L key=some L[k]):=hid (fun he=>fnd_first hkl he HQ.out);have HNX:Hid (L[k].k≠key→∀j (h:j<L.length),j<k+1→L[j].k≠key):=hid (fun hne j hj h2=>by
    by_cases e:j=k
    ·subst e;exact hne
    ·exact HQ.out j hj (by omega))
   clear hcs hgl hA;generalize L[k]=x at *;clear hkl;obtain⟨xk,xv⟩:=x;dsimp only at *;by_cases he:xk=key
   ·subst he;have HF:=hid (HX.out rfl);go_wp2_with fail;go_ret2;exact⟨by unfold fndV;rw[HF.out];rfl,rfl⟩
   have hbn:=ba_ne he;go_wp2_with fail;go_roundw
   case rel=>exact⟨trivial,k+1,by omega,by go_num,HNX.out he⟩
   case measure=>simp[Go.RowKit.intOf];omega
  obtain rfl:k=n:=by omega
  have HF:=hid (fnd_nowhere (fun j hj=>HQ.out j hj (by rw[←HLN.out];exact hj)));go_wp2_with fail;go_ret2;exact⟨by unfold fndV;rw[HF.out];rfl,rfl⟩
end Go.Proofs.YtdjhlhellkajfaaGreat.Cch
