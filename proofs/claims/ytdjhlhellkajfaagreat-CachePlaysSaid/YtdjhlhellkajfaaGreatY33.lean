/-
  Texts KOrd, KIn, in one file. What each proves, and its conditions, stand at its head below.
-/
import Derived.Test.YtdjhlhellkajfaaGreatY8
import Derived.Test.YtdjhlhellkajfaaGreatY31
import Derived.Maps.RangeWalk
import Derived.Deep.DeepCutAuto
set_option maxRecDepth 100000
set_option maxHeartbeats 4000000
open Go.Lib (hid)
namespace Go.Proofs.YtdjhlhellkajfaaGreat.Cch
open Go.RowKit Codec Cod Go.Maps Go.ChangeMaps Go.MapKept
open Disk (Turn)
section
variable {ops:Array Oper} {rest:List Oper} {o:Oper} {a:Act} {Q:Exit→Act→World→Prop}
theorem wpList_next_bk(w:World)(b r nn:Nat)(N:List Nmb)(D:DataW Value)(F:Nat→Value)(left:Lit→Bool)(cnt:Nat)(hKeys:KeysOk D N)(hY:∀t,t<M64→bucket N t≠[]→∀z,D.atKey (kyU t) z= .held (F t))(h:w.ranges Tryz.prog 177 R0 b r nn D left cnt)
  (ho:o.guard=none∧∃it,o.op=Op.next it false∧a.eval it= .pointer (some ⟨r,0,none⟩))
  (hDone:(∀kl,left kl=false)→wpList Tryz.prog ops Q rest (a.put o.dst (.tuple #[.bool false])) w)
  (hMore:∀(t:Nat) (w':World) (cnt':Nat),t<M64→bucket N t≠[]→left (kyU t)=true→w'.ranges Tryz.prog 177 R0 b r nn D (fun z=>left z&& !z.sameKey (kyU t)) cnt'→cnt'<cnt→
   w.grownBy w' (some r)→w'.heap.size=w.heap.size→(Instr.entry (.pointer (some ⟨r,0,none⟩))).run Tryz.prog w'= .ok (.tuple #[.int .u64 (t:Int),F t]) w'→
   wpList Tryz.prog ops Q rest (a.put o.dst (.tuple #[.bool true,.int .u64 (t:Int),F t])) w'):
  wpList Tryz.prog ops Q (o::rest) a w:=by
 obtain⟨hg,it,hop,hit⟩:=ho;refine wpList_plain hg fun K' hK'=> ?_;unfold Oper.wp;rcases h.next keyed_u64 o.type with⟨h0,hl,hrun⟩|⟨key,v,kl,y,w',cnt',hkey,hlk,hv,hat,hrun,hrg,hlt,hgr,hsz,hen⟩
 ·simp[execOp,hop,hit,hrun,Result.andThen];exact hK' _ _ (hDone hl)
 have hhas:=Maps.has_true_of_atKey hat;obtain⟨t,ht,rfl,hb⟩:=hKeys kl hhas;obtain⟨x,rfl,hx,_⟩:=Maps.keyOf_int_inv Tryz.underlying177 hkey;have hxi:x=(t:Int):=by simpa [kyU] using hx.symm
 subst hxi;have e1:=hY t ht hb .nil;rw[hat .nil] at e1;have e2:y=(.held v,[]):=by simpa [R0] using hv.symm
 rw[e2] at e1;have e3:v=F t:=by simpa using e1
 subst e3;simp[execOp,hop,hit,hrun,Result.andThen];exact hK' _ _ (hMore t w' cnt' ht hb hlk hrg hlt hgr hsz hen)
end
def vis (N:List Nmb) (left:Lit→Bool):List Nmb:=N.filter fun x=> !left (kyU (sumK x.e.k))
theorem filter_or{α:Type}(p q:α→Bool)(l:List α)(h:∀x∈l,p x=true→q x=true→False):(l.filter fun x=>p x||q x).Perm (l.filter p++l.filter q):=by
 induction l with
 |nil=>exact .nil
 |cons x l ih=>
  have ih:=ih fun y hy=>h y (List.mem_cons_of_mem _ hy);have hx:=h x List.mem_cons_self;cases hp:p x with
  |true=>
   cases hq:q x with
   |true=>exact(hx hp hq).elim
   |false=>simpa [List.filter_cons,hp,hq] using ih.cons x
  |false=>
   cases hq:q x with
   |true=>
    simp only[List.filter_cons,hp,hq,Bool.false_or,if_true,Bool.false_eq_true,if_false];exact(ih.cons x).trans (List.perm_middle.symm)
   |false=>simpa [List.filter_cons,hp,hq] using ih
theorem vis_step{N:List Nmb}{left:Lit→Bool}{t:Nat}(hl:left (kyU t)=true):(vis N fun z=>left z&& !z.sameKey (kyU t)).Perm (vis N left++bucket N t):=by
 have e:(vis N fun z=>left z&& !z.sameKey (kyU t))=N.filter fun x=> !left (kyU (sumK x.e.k))||decide (sumK x.e.k=t):=by
  unfold vis;congr 1;funext x;by_cases hx:sumK x.e.k=t
  ·rw[hx];simp[kyU,Lit.sameKey]
  have hs:=Maps.sameKey_ne (fun e=>hx (kyU_inj e));simp[hx,hs]
 rw[e];refine filter_or _ _ N fun x _ h1 h2=> ?_;have h2:sumK x.e.k=t:=by simpa using h2
 rw[h2,hl] at h1;cases h1
theorem vis_start{N:List Nmb}{D:DataW Value}{F:Nat→Value}(hY:∀t,t<M64→bucket N t≠[]→∀z,D.atKey (kyU t) z= .held (F t)):vis N (Maps.has D)=[]:=by
 unfold vis;rw[List.filter_eq_nil_iff];intro x hx;have hb:bucket N (sumK x.e.k)≠[]:=fun e=>by
  have:x∈bucket N (sumK x.e.k):=List.mem_filter.2 ⟨hx,by simp⟩;rw[e] at this;cases this
 rw[Maps.has_true_of_atKey (hY _ (sumK_lt _) hb)];simp
theorem vis_end{N:List Nmb}{left:Lit→Bool}(h:∀kl,left kl=false):vis N left=N:=by
 unfold vis;rw[List.filter_eq_self];intro x _;simp[h]
theorem sorted_one{N L:List Nmb}{last:Nat}(h:Nice N last)(hp:L.Perm N)(hs:L.Pairwise fun a b=>a.n≤b.n):L=N:=by
 refine List.Perm.eq_of_pairwise (le:=fun a b=>a.n≤b.n) (fun a b ha hb h1 h2=> ?_) hs (h.rise.imp fun h=>Nat.le_of_lt h) hp;have hab:a.n=b.n:=by omega
 have ha':a∈N:=hp.mem_iff.1 ha;obtain⟨i,hi,rfl⟩:=List.getElem_of_mem ha';obtain⟨j,hj,rfl⟩:=List.getElem_of_mem hb;have hr:=List.pairwise_iff_getElem.1 h.rise;rcases Nat.lt_trichotomy i j with e|e|e
 ·have:=hr i j hi hj e;omega
 ·subst e;rfl
 have:=hr j i hj hi e;omega
theorem app_rows(w:World)(lo:Nat)(v:Value)(l:List Nmb)(h:w.ownsRow lo 188 3 v l.length (rowV l))(u:Value)(lo2:Nat)(m:List Nmb)(hu:OwnN w lo2 u m)(hl:l.length+m.length≤1000000)(hlo:lo≤w.heap.size):
  ∃v2 w2,(∀ty,(Builtin.append_ #[186,186] ty #[v,u]).run Tryz.prog w= .ok v2 w2)∧w2.ownsRow lo 188 3 v2 (l++m).length (rowV (l++m))∧w.grownBy w2 v.ownBlock:=by
 obtain⟨i0,hi0,hz0,hz1,hz2⟩:=info_parts info3;obtain⟨g,cap,C,rfl,hlo2,hh,hs,h1,h2,he⟩:=hu;have ht:=take_of_el he;obtain⟨v2,w2,hrun,r1,r2,_,r4⟩:=run_append_own_at (P:=Tryz.prog) w lo 186 0 188 i0 _ 3 40 Tryz.underlying186 hi0 hz0 hz1 hz2 rfl (by decide) v l.length (rowV l) h ⟨g,0,none⟩ m.length cap (rowV m) (rowV_length m) (fun j x hx=>by
  rw[plain_add,Nat.zero_add,cell_at hh];have hj:j<m.length * 3:=by have:=(List.getElem?_eq_some_iff.1 hx).1;rwa [rowV_length] at this
  rw[←ht,List.getElem?_take_of_lt hj] at hx;simpa using hx) (fun x hx=>by
  obtain⟨y,_,hy⟩:=List.mem_flatMap.1 hx;simp only[nmbV,List.mem_cons,List.not_mem_nil,or_false] at hy;rcases hy with rfl|rfl|rfl<;>rfl) (by unfold maxLen;omega) (by omega) hlo
 exact⟨v2,w2,fun _=>hrun,by rw[rowV_app,List.length_append];exact r1,r2⟩
end Go.Proofs.YtdjhlhellkajfaaGreat.Cch
namespace Go.Proofs.YtdjhlhellkajfaaGreat.Cch
open Go.RowKit Codec Cod
open Disk (Turn)
def Sorted_ (w:World) (lo:Nat) (v:Value) (l:List Nmb) (e:Ending) (w':World):Prop:=e= .returned (.tuple #[])∧∃l',OwnN w' lo v l'∧l'.Perm l∧l'.Pairwise (fun a b=>a.n≤b.n)∧Turn v.ownBlock.toList w w'
structure Sorts:Prop where
 nil:∀(w:World),Calls Tryz.prog 124 #[.slice none 0 0,.func (.func 125) #[] #[]] w (fun e w'=>e= .returned (.tuple #[])∧w'=w)
 any:∀(w:World) (lo:Nat) (v:Value) (l:List Nmb),OwnN w lo v l→l.length≤1000000→Calls Tryz.prog 124 #[v,.func (.func 125) #[] #[]] w (Sorted_ w lo v l)
theorem wpList_app_run(w:World){ops:Array Oper}{rest:List Oper}{o:Oper}{a:Act}{Q:Exit→Act→World→Prop}(hgd:o.guard=none)(s x:Operand)
  (ho:o.op= .call {callee:= .builtin .append,args:= #[s,x],argTypes:= #[186,186]}) (v u v2:Value) (w2:World) (hs:a.eval s=v) (hx:a.eval x=u)
  (hrun:∀ty,(Builtin.append_ #[186,186] ty #[v,u]).run Tryz.prog w= .ok v2 w2) (h:wpList Tryz.prog ops Q rest (a.put o.dst v2) w2):wpList Tryz.prog ops Q (o::rest) a w:=by
 refine wpList_plain hgd fun _ hK'=> ?_;unfold Oper.wp execOp;simp only[ho,resolve,invoke,builtin,Sem.run_bind,Sem.run_pure,Result.andThen_ok,List.map_toArray,List.map_cons,List.map_nil,hs,hx,hrun];exact hK' _ _ h
def El2 (C:Array Value) (p:Nat) (e:Ent):Prop:=C[p * 2]? =some (.string e.k)∧C[p * 2+1]? =some (.string e.v)
theorem el2_same{C:Array Value}{p:Nat}(h:p * 2+1<C.size)(e:Ent):El2 ((C.setIfInBounds (p * 2) (.string e.k)).setIfInBounds (p * 2+1) (.string e.v)) p e:=by
 unfold El2;refine⟨?_,?_⟩<;>simp[Array.getElem?_setIfInBounds]<;>omega
theorem el2_other{C:Array Value}{p q:Nat}(hne:q≠p)(e f:Ent)(h:El2 C q f):El2 ((C.setIfInBounds (p * 2) (.string e.k)).setIfInBounds (p * 2+1) (.string e.v)) q f:=by
 obtain⟨h1,h2⟩:=h;refine⟨?_,?_⟩
 ·rw[Array.getElem?_setIfInBounds_ne (by omega),Array.getElem?_setIfInBounds_ne (by omega),h1]
 rw[Array.getElem?_setIfInBounds_ne (by omega),Array.getElem?_setIfInBounds_ne (by omega),h2]
def ERow (w:World) (base:Nat) (u:Value) (es:List Ent):Prop:=∃g,∃C:Array Value,u= .slice (some ⟨g,0,none⟩) es.length es.length∧base≤g∧w.heap[g]? =some (.cells C 62 (0,0))∧C.size=es.length * 2∧∀p e,es[p]? =some e→El2 C p e
theorem info_e:(Tryz.prog.info? 62).map (fun i=>(i.zero,i.size,i.bytes))=some (some (.agg #[.string ⟨#[]⟩,.string ⟨#[]⟩]),2,32):=by kernel_rfl
theorem run_make_e(K:Nat)(hK:K≤1000000):∃Z:Array Value,Z.size=K * 2∧∀u:World,(Instr.makeSlice 84 (.int .i64 K) (.int .i64 K)).run Tryz.prog u= .ok (.slice (some ⟨u.heap.size,0,none⟩) K K) (u.alloc (.cells Z 62)):=by
 obtain⟨i0,hi,hz0,hz1,hz2⟩:=info_parts info_e;refine⟨madeCells (Value.cells (.agg #[.string ⟨#[]⟩,.string ⟨#[]⟩])) (K * 2),by simp[madeCells,Value.cells],fun u=> ?_⟩;have:=run_make (P:=Tryz.prog) u 84 62 i0 _ Tryz.underlying84 hi hz0 .i64 .i64 K K (by omega) (by omega) (by rw[hz2];omega) (by omega);rw[hz1] at this;simpa using this
theorem inorder_any(HS:Sorts)(w:World)(p o lo b last:Nat)(N:List Nmb)(h:Shf w p o lo b N last)(hN:N.length≤1000000):
  Calls Tryz.prog 93 #[.pointer (some ⟨p,o,none⟩)] w (fun e w'=>∃u,e= .returned u∧ERow w' w.heap.size u (ents N)∧Below w.heap.size w w'):=by
 have c0:=h.c0;obtain⟨D,Fv,hown,hkeys,_,hyes,_⟩:=h.bk;have HK:=hid hkeys;have HY:Hid (∀t,t<M64→bucket N t≠[]→(∀z,D.atKey (kyU t) z= .held (Fv t))∧OwnN w lo (Fv t) (bucket N t)):=hid hyes;have HNI:=hid h.nice;have HNL:=hid hN;have HSS:=hid HS;have hnn:∃nn,Maps.size D=nn:=⟨_,rfl⟩
 obtain⟨nn,hnn⟩:=hnn;rw[hnn] at hown;clear h hkeys hyes hN hnn HS;go_enter Tryz.func93,Tryz.ntmps93;go_wp2_with (first
  |(at_range;refine wpList_range_own _ rfl _ 91 rfl 177 186 keyed_u64 Tryz.underlying91 R0 b nn D rfl hown ?_;intro w0 hrg0 hg0 hs0)
  |go_in)
 go_frame;clear c0;have HB0:Hid (Below w.heap.size w w0):=hid ⟨hg0.os,hg0.tape,hg0.output,hg0.size,fun k hk=>hg0.block k hk (by simp)⟩;clear hg0 hs0;go_loopw [3] (fun l wr=>∃left cnt L v,v=l∧wr.ranges Tryz.prog 177 R0 b w.heap.size nn D left cnt∧wr.ownsRow w.heap.size 188 3 v L.length (rowV L)∧(L=[]→v= .slice none 0 0)∧L.Perm (vis N left)∧Below w.heap.size w wr) (fun _ wr=>wr.rangeLeft b w.heap.size)
 case atStart=>exact⟨_,_,[],_,rfl,hrg0,World.ownsRow_nil _ _ _ _,fun _=>rfl,by rw[vis_start (fun t ht hb=>(HY.out t ht hb).1)],HB0.out⟩
 case round=>
  obtain⟨left,cnt,L,v,rfl,hrg,hrow,hL0,hperm,hb⟩:=hrel;obtain⟨wo,rfl⟩:∃wo:World,wo=wr:=⟨_,rfl⟩
  have HROW:=hid hrow;have HL0:=hid hL0;have HPM:=hid hperm;have HB:=hid hb;clear hrow hL0 hperm hb HB0;go_wp2_with (first
   |(at_next;(with_reducible refine wpList_next_bk wo b w.heap.size nn N D Fv left cnt HK.out (fun t ht hb=>(HY.out t ht hb).1) hrg ?_ ?_ ?_);exact⟨rfl,_,rfl,rfl⟩)
   |go_in)
  ·intro hl0;have HPN:Hid (L.Perm N):=hid (by have:=HPM.out;rwa [vis_end hl0] at this);have HSORT:Hid (Calls Tryz.prog 124 #[v,.func (.func 125) #[] #[]] wo (fun e w'=>e= .returned (.tuple #[])∧∃A c,v= .slice A N.length c∧Ns w' A N.length N∧Below w.heap.size w w')):=hid (by
    by_cases h0:L=[]
    ·have hn:N=[]:=by have:=HPN.out;rw[h0] at this;exact this.nil_eq.symm
     rw[HL0.out h0,hn];exact(HSS.out.nil wo).mono fun e w' ⟨e1,e2⟩=>⟨e1,none,0,rfl,⟨rfl,fun h=>absurd h (by simp)⟩,by rw[e2];exact HB.out⟩
    ·have hp:0<L.length:=List.length_pos_iff.2 h0;have ho:=OwnN.of_row HROW.out hp;refine(HSS.out.any wo w.heap.size v L ho (by rw[HPN.out.length_eq];exact HNL.out)).mono fun e w' ⟨e1,l',h1,h2,h3,h4⟩=> ?_;have hl:l'=N:=sorted_one HNI.out (h2.trans HPN.out) h3;subst hl;obtain⟨A,c,e2,hns⟩:=h1.ns;refine⟨e1,A,c,e2,hns,HB.out.trans (h4.low (fun q hq=> ?_) HB.out.size)⟩;have:=(World.ownsRow.lt HROW.out q (by simpa using hq)).1;exact this)
   clear HROW HL0 HPM HB hrg hl0 hown hrg0;go_wp2_with fail;refine HSORT.out.mono ?_;rintro e w5 ⟨rfl,A,c,rfl,hns,hb5⟩;have HNS:=hid hns;have HB5:=hid hb5;clear hns hb5 HSORT HPN;obtain⟨n,hn⟩:∃n,N.length=n:=⟨_,rfl⟩
   have HN:=hid hn;obtain⟨Z,hZ,hmk⟩:=run_make_e n (by rw[←hn];exact HNL.out);have hn1:(n:Int)≤1000000:=by have:=HNL.out;omega
   rw[hn] at HNS ⊢;have HZ3:Hid ((w5.alloc (.cells Z 62)).heap[w5.heap.size]? =some (.cells Z 62 (0,0))):=hid (heap_alloc_new w5 _);have HB6:Hid (Below w.heap.size w (w5.alloc (.cells Z 62))):=hid (HB5.out.alloc HB5.out.size _);have H650:Hid (∀q,q<w5.heap.size→q<(w5.alloc (.cells Z 62)).heap.size∧(w5.alloc (.cells Z 62)).heap[q]? =w5.heap[q]?):=hid (fun q hq=>⟨by simp;omega,(Frm.alloc_below w5 _).block q hq⟩);have HZ:=hid hZ;clear hn hZ;go_upto_region 8 with fail;obtain⟨eb,heb⟩:∃eb,w5.heap.size=eb:=⟨_,rfl⟩
   have HEB:Hid (w.heap.size≤eb∧eb<(w5.alloc (.cells Z 62)).heap.size):=hid ⟨by rw[←heb];exact HB5.out.size,by rw[←heb];simp⟩;have H65:Hid (w5.heap.size=eb∧∀q,q<w5.heap.size→q<(w5.alloc (.cells Z 62)).heap.size∧(w5.alloc (.cells Z 62)).heap[q]? =w5.heap[q]?):=hid ⟨heb,H650.out⟩;rw[heb] at HZ3 ⊢;clear hmk HB5 heb H650;generalize w5.alloc (.cells Z 62)=w6 at *;go_wp2_with fail;go_loopw [28] (fun i wr=>∃(k:Nat) (C:Array Value),k≤n∧i= .int .i64 k∧wr.heap[eb]? =some (.cells C 62 (0,0))∧C.size=n * 2∧(∀p x,p<k→N[p]? =some x→El2 C p x.e)∧Turn [eb] w6 wr) (fun i _=>n-(Go.RowKit.intOf i).toNat)
   case atStart=>exact⟨0,Z,Nat.zero_le _,rfl,HZ3.out,HZ.out,fun p x h=>absurd h (by omega),Turn.refl _ _⟩
   case round=>
    obtain⟨k,C,hk,rfl,hh,hs,he,ht⟩:=hrel;clear HZ3;have HH:=hid hh;have HE:=hid (And.intro hs he);have HT:=hid ht;clear hh hs he ht;by_cases hlt:k<n
    ·have hkl:k<N.length:=by rw[HN.out];exact hlt
     have hnr:Ns wr A n N:=HNS.out.keep (fun q hq=>(HT.out.block q (H65.out.2 q hq).1 (by have:=H65.out.1;simp;omega)).trans (H65.out.2 q hq).2) (by have h1:=HT.out.size;have h2:=HEB.out.2;have h3:=H65.out.1;omega);obtain⟨g,off,hA,_,hcs⟩:=hnr.2 (by omega);obtain⟨c0,c1,c2⟩:=hcs k hkl;have hidx:∀u:World,(Instr.indexAt 186 (.slice A n c) (.int .i64 k)).run Tryz.prog u= .ok (.pointer (some ⟨g,off+k * 3,none⟩)) u:=fun u=>by
      have hs:(Go.sizeOf 188).run Tryz.prog u= .ok 3 u:=by kernel_rfl
      rw[hA];simp[Instr.indexAt,asIntOf,run_underlying Tryz.underlying186,Result.andThen,Addr.add_mid,hs];intro h1;omega
     have hidx2:∀u:World,(Instr.indexAt 84 (.slice (some ⟨eb,0,none⟩) n n) (.int .i64 k)).run Tryz.prog u= .ok (.pointer (some ⟨eb,k * 2,none⟩)) u:=fun u=>by
      have hs:(Go.sizeOf 62).run Tryz.prog u= .ok 2 u:=by kernel_rfl
      simp[Instr.indexAt,asIntOf,run_underlying Tryz.underlying84,Result.andThen,Addr.add_mid,hs];intro h1;omega
     have HXK:Hid (N[k]? =some N[k]):=hid (List.getElem?_eq_getElem hkl);clear hnr hcs hA;generalize N[k]=x at *;clear hkl;obtain⟨⟨xk,xv⟩,xn⟩:=x;dsimp only at *;have HBA:=hid (Frm.alloc_below wr (.cells #[.string xk,.string xv,.int .i64 (xn:Int)] 188));have hg2:=(HBA.out.block eb (lt_of_heap HH.out)).trans HH.out;have hi2:k * 2+1<C.size:=by have:=HE.out.1;omega
     have d0:=cell_at hg2 (k * 2);have d1:=cell_at hg2 (k * 2+1);rw[Array.getElem?_eq_getElem (by omega)] at d0 d1;have f0:=free_at hg2 (k * 2);have f1:=free_at hg2 (k * 2+1);have HG2:=hid hg2;have HI2:=hid hi2;generalize C[k * 2]'(by omega)=y0 at d0;generalize C[k * 2+1]'(by omega)=y1 at d1;clear hg2 hi2;go_wp2_with fail;go_roundw
     case rel=>exact⟨k+1,_,by omega,by go_num,set_at (set_at HG2.out (k * 2) (.string xk)) (k * 2+1) (.string xv),by simp;exact HE.out.1,fun q x hq hx=>by
      by_cases e:q=k
      ·subst e;rw[HXK.out] at hx;injection hx with hx;subst hx;exact el2_same HI2.out ⟨xk,xv⟩
      ·exact el2_other e ⟨xk,xv⟩ x.e (HE.out.2 q x (by omega) hx),((HT.out.below HBA.out).setCell (.inl (by simp)) _).setCell (.inl (by simp)) _⟩
     case measure=>simp[Go.RowKit.intOf];omega
    obtain rfl:k=n:=by omega
    have HF:Hid (ERow wr w.heap.size (.slice (some ⟨eb,0,none⟩) k k) (ents N)):=hid (by
     have hl:(ents N).length=k:=by unfold ents;rw[List.length_map];exact HN.out
     refine⟨eb,C,by rw[hl],HEB.out.1,HH.out,by rw[hl];exact HE.out.1,fun q e hq=> ?_⟩;unfold ents at hq;rw[List.getElem?_map] at hq;obtain⟨x,hx,rfl⟩:=Option.map_eq_some_iff.1 hq;exact HE.out.2 q x (by have:=(List.getElem?_eq_some_iff.1 hx).1;have:=HN.out;omega) hx)
    have HBE:Hid (Below w.heap.size w wr):=hid (HB6.out.trans (HT.out.low (by intro q hq;have:=HEB.out.1;simp at hq;omega) HB6.out.size));go_wp2_with fail;go_ret;exact⟨_,rfl,HF.out,HBE.out⟩
  intro t w2 cnt2 ht hbt hlk hrg2 hlt hg2 hs2 hen;have hF:=((HY.out t ht hbt).2.keep (w':=w2) (fun q hq=>by
   obtain⟨q',e,_,hql,_⟩:=(HY.out t ht hbt).2.lt;rw[hq] at e;injection e with e;subst e;exact(hg2.block q (Nat.lt_of_lt_of_le hql HB.out.size) (by simp;omega)).trans (HB.out.block q hql)))
  have hvr:∀q,v.ownBlock=some q→q≠w.heap.size:=fun q hq e=>by
   obtain⟨C,hC⟩:=own_row HROW.out hq;obtain⟨_,_,_,_,_,_,_,_,_,hit,_⟩:=hrg;rw[e,hit] at hC;cases hC
  have hrow2:=World.ownsRow.kept HROW.out hg2 (by
   cases hh:v.ownBlock
   ·exact .inl rfl
   ·exact .inr (fun e=>hvr _ hh (by injection e)))
  have hlen:L.length+(bucket N t).length≤1000000:=by
   have h1:=(vis_step (N:=N) hlk).length_eq;rw[List.length_append,←HPM.out.length_eq] at h1;have h2:(vis N fun z=>left z&& !z.sameKey (kyU t)).length≤N.length:=List.length_filter_le _ _;have:=HNL.out;omega
  have hlow2:w.heap.size≤w2.heap.size:=by rw[hs2];exact HB.out.size
  obtain⟨v2,w3,hap,hr3,hg3⟩:=app_rows w2 w.heap.size v L hrow2 (Fv t) lo (bucket N t) hF hlen hlow2;have HB3:Hid (Below w.heap.size w w3):=hid ((HB.out.grown hg2 HB.out.size (fun q hq=>by cases hq;exact Nat.le_refl _)).grown hg3 hlow2 (fun q hq=>(World.ownsRow.lt hrow2 q hq).1));have HR3:Hid (w3.ranges Tryz.prog 177 R0 b w.heap.size nn D (fun z=>left z&& !z.sameKey (kyU t)) cnt2):=hid (hrg2.kept hg3 (by
   intro e;obtain⟨C,hC⟩:=own_row hrow2 e.symm;obtain⟨_,_,_,_,_,hmp,_⟩:=hrg2;rw[hmp] at hC;cases hC) (fun e=>hvr _ e.symm rfl))
  have HRW3:=hid hr3;have HP3:Hid ((L++bucket N t).Perm (vis N fun z=>left z&& !z.sameKey (kyU t))):=hid ((HPM.out.append_right _).trans (vis_step hlk).symm);have HNE:Hid (L++bucket N t≠[]):=hid (by simp[hbt]);have HMS:Hid (wo.rangeLeft b w.heap.size=cnt):=hid hrg.left_eq;have HLT:=hid hlt;clear hF hvr hrow2 hlen hlow2 hr3 hg3 hrg hrg2 hg2 hs2 hlk hbt ht hlt HROW HL0 HPM HB hown hrg0;go_wp2_with (first
   |(at_builtin;refine wpList_app_run w2 rfl (.tmp 18) (.tmp 19) rfl v (Fv t) v2 w3 rfl rfl hap ?_)
   |go_in)
  go_roundw
  case rel=>exact⟨_,cnt2,L++bucket N t,v2,rfl,HR3.out,HRW3.out,fun e=>absurd e HNE.out,HP3.out,HB3.out⟩
  case measure=>rw[HR3.out.left_eq,HMS.out];exact HLT.out
end Go.Proofs.YtdjhlhellkajfaaGreat.Cch
