/-
  Texts JActs, KDel, KRow, KDel2, KEls, in one file. What each proves, and its conditions, stand at its head below.
-/
import Derived.Test.YtdjhlhellkajfaaGreatY23
import Derived.Test.YtdjhlhellkajfaaGreatY28
import Derived.Deep.Slices
import Derived.Deep.Fields
import Derived.ChangeSlices
import Derived.ProofKit
import Derived.OpenShut
import Derived.ChangeSame
import Derived.Deep.DeepCutAuto
set_option maxRecDepth 100000
set_option maxHeartbeats 2000000
open Go.Lib (hid)
namespace Go.Proofs.YtdjhlhellkajfaaGreat.Jou
open Go.RowKit Codec FrameM Cod JourM Go.ChangeShapes Go.WideShapes Go.ChangeAt Go.Deep
open Disk (Turn Dk Dsk ptr Now Made Nums fresh)
def NumsB (w:World) (base:Nat) (A:Option Addr) (n:Nat) (zs:List Int):Prop:=
 zs.length=n∧(0<n→∃b off,A=some ⟨b,off,none⟩∧b<base∧∀j,j<n→w.cell? ⟨b,off+j,none⟩=some (.int .i64 (zs.getD j 0)))
theorem NumsB.nums{w w':World}{base:Nat}{A:Option Addr}{n:Nat}{zs:List Int}(h:NumsB w base A n zs)(hb:Below base w w')(hs:base≤w'.heap.size){S:List Nat}(hS:∀k∈S,base≤k):Nums w' S A n zs:=
 ⟨h.1,fun hn=>by
  obtain⟨b,off,e,hlt,hc⟩:=h.2 hn;exact⟨b,off,e,fun hm=>by have:=hS b hm;omega,by omega,fun j hj=>(World.cell?_of_block (w:=w) (hb.block b hlt)).trans (hc j hj)⟩⟩
theorem NumsB.below{w w':World}{base:Nat}{A:Option Addr}{n:Nat}{zs:List Int}(h:NumsB w base A n zs)(hb:Below base w w'):NumsB w' base A n zs:=
 ⟨h.1,fun hn=>by
  obtain⟨b,off,e,hlt,hc⟩:=h.2 hn;exact⟨b,off,e,hlt,fun j hj=>(World.cell?_of_block (w:=w) (hb.block b hlt)).trans (hc j hj)⟩⟩
theorem cell_low{w:World}{a:Addr}{v:Value}(h:w.cell? a=some v):a.block<w.heap.size:=by
 rcases Nat.lt_or_ge a.block w.heap.size with h'|h'
 ·exact h'
 simp[World.cell?,Array.getElem?_eq_none h'] at h
theorem one_field{cs:List Value}{i:Nat}(h:i<cs.length):(cs.drop i).take 1=[cs[i]]:=by
 rw[List.drop_eq_getElem_cons h];rfl
section
variable {H:Type} {enc:TypeId×Value→H} {w:World} {base:Nat} {spare:Nat→Bool} {held:Bool}
theorem open_cell{fuel:Nat}{cs:List Value}{x:DataW H×List MemPlace}(h:DataW.trod enc Tryz.prog w base spare held fuel 39 cs=some x):
  ∃A n c bs,cs=[.slice A n c]∧n≤c∧c≤maxLen∧Byts w w.heap.size A n bs:=by
 rcases open_ints Tryz.underlying39 Tryz.underlying5 (by kernel_rfl) h with⟨hcs,_⟩|⟨a,len,cap,zs,hcs,_,hl,hm,hz,_,hc,hw⟩
 ·exact⟨none,0,0,[],hcs,Nat.le_refl _,Nat.zero_le _,Byts.none_⟩
 refine⟨some a,len,cap,(zs.take len).map fun z=>UInt8.ofNat z.toNat,hcs,hl,hm,?_,fun h0=> ?_⟩
 ·have:len≤zs.length:=by rw[hz];split<;>omega
  simp;omega
 obtain⟨b,off,spot⟩:=a;have hzl:len≤zs.length:=by rw[hz];split<;>omega
 have hspot:spot=none:=by simpa [Addr.add] using World.cell?_spot (hc 0 (by omega))
 subst hspot;refine⟨b,off,rfl,by simpa [Addr.add] using cell_low (hc 0 (by omega)),fun j hj=> ?_⟩;have h1:=hc j (by omega);rw[plain_add] at h1;rw[h1];have hj2:j<zs.length:=by omega
 have hb:=hw zs[j] (List.getElem_mem hj2);have hb2:0≤zs[j]∧zs[j]≤255:=by simpa [Lit.wf,show IntKind.u8.min=0 from rfl,show IntKind.u8.max=255 from rfl] using hb
 simp[byt,List.getD_eq_getElem?_getD,hj,hj2];omega
theorem open_numc{fuel:Nat}{cs:List Value}{x:DataW H×List MemPlace}(h:DataW.trod enc Tryz.prog w base spare held fuel 41 cs=some x):
  ∃A n c zs,cs=[.slice A n c]∧n≤maxLen∧NumsB w w.heap.size A n zs∧∀z∈zs, -9223372036854775808≤z∧z≤9223372036854775807:=by
 rcases open_ints Tryz.underlying41 Tryz.underlying3 (by kernel_rfl) h with⟨hcs,_⟩|⟨a,len,cap,zs,hcs,_,hl,hm,hz,_,hc,hw⟩
 ·exact⟨none,0,0,[],hcs,Nat.zero_le _,⟨rfl,fun h=>absurd h (by omega)⟩,by simp⟩
 have hzl:len≤zs.length:=by rw[hz];split<;>omega
 refine⟨some a,len,cap,zs.take len,hcs,by omega,⟨by simp;omega,fun h0=> ?_⟩,fun z hz=> ?_⟩
 ·obtain⟨b,off,spot⟩:=a;have hspot:spot=none:=by simpa [Addr.add] using World.cell?_spot (hc 0 (by omega))
  subst hspot;refine⟨b,off,rfl,by simpa [Addr.add] using cell_low (hc 0 (by omega)),fun j hj=> ?_⟩;have h1:=hc j (by omega);rw[plain_add] at h1;rw[h1];simp[List.getD_eq_getElem?_getD,hj]
 have:=hw z (List.mem_of_mem_take hz);simpa [Lit.wf,IntKind.min,IntKind.max,IntKind.signed,IntKind.bits] using this
end
end Go.Proofs.YtdjhlhellkajfaaGreat.Jou
namespace Go.Proofs.YtdjhlhellkajfaaGreat.Cch
open Go.RowKit Codec Cod
def nmbA (x:Nmb):Value:= .agg #[.string x.e.k,.string x.e.v,.int .i64 x.n]
def nmbV (x:Nmb):List Value:=[.string x.e.k,.string x.e.v,.int .i64 x.n]
def rowV (l:List Nmb):List Value:=l.flatMap nmbV
theorem nmbV_length(x:Nmb):(nmbV x).length=3:=rfl
theorem rowV_length(l:List Nmb):(rowV l).length=l.length * 3:=by
 induction l with
 |nil=>rfl
 |cons x l ih=>simp only[rowV,List.flatMap_cons,List.length_append,nmbV_length,List.length_cons] at *;omega
theorem rowV_cons(x:Nmb)(l:List Nmb):rowV (x::l)=nmbV x++rowV l:=rfl
theorem rowV_app(a b:List Nmb):rowV (a++b)=rowV a++rowV b:=by simp[rowV]
def Ns (w:World) (A:Option Addr) (n:Nat) (l:List Nmb):Prop:=
 l.length=n∧(0<n→∃g off,A=some ⟨g,off,none⟩∧g<w.heap.size∧∀j (h:j<l.length),w.cell? ⟨g,off+j * 3,none⟩=some (.string l[j].e.k)∧w.cell? ⟨g,off+j * 3+1,none⟩=some (.string l[j].e.v)∧w.cell? ⟨g,off+j * 3+2,none⟩=some (.int .i64 (l[j].n:Int)))
theorem Ns.keep{w w':World}{A:Option Addr}{n:Nat}{l:List Nmb}(h:Ns w A n l)(hb:∀g,g<w.heap.size→w'.heap[g]? =w.heap[g]?)(hs:w.heap.size≤w'.heap.size):Ns w' A n l:=
 ⟨h.1,fun hn=>by
  obtain⟨g,off,e,hl,hc⟩:=h.2 hn;exact⟨g,off,e,by omega,fun j hj=>⟨(World.cell?_of_block (w:=w) (hb g hl)).trans (hc j hj).1,(World.cell?_of_block (w:=w) (hb g hl)).trans (hc j hj).2.1,(World.cell?_of_block (w:=w) (hb g hl)).trans (hc j hj).2.2⟩⟩⟩
theorem Ns.below{w w':World}{A:Option Addr}{n:Nat}{l:List Nmb}(h:Ns w A n l)(hb:Below w.heap.size w w'):Ns w' A n l:=h.keep hb.block hb.size
theorem ba_ne{k key:ByteArray}(e:¬k=key):(k.toList==key.toList)=false:=by
 simp only[ByteArray.toList_eq,beq_eq_false_iff_ne];exact fun h=>e (WideShapes.bytes_inj h)
theorem is_any(w:World)(x:Nmb)(B:Nat)(key:ByteArray)(hc:w.cell? ⟨B,0,none⟩=some (.string key)):
  Calls Tryz.prog 144 #[nmbA x,.pointer (some ⟨B,0,none⟩)] w (EndsBelow (.bool (decide (x.e.k=key))) w):=by
 have hB:B<w.heap.size:=Jou.cell_low hc;obtain⟨⟨k,v⟩,n⟩:=x;unfold nmbA;dsimp only;have hc1:(w.alloc (.cells #[.string k,.string v,.int .i64 n] 188)).cell? ⟨B,0,none⟩=some (.string key):=(World.cell?_of_block (w:=w) (Below.heap_alloc w _ B hB)).trans hc;clear hc hB;by_cases e:k=key
 ·subst e;go_enter Tryz.func144,Tryz.ntmps144;go_wp2_with fail;go_ret;exact⟨by simp,Frm.alloc_below _ _⟩
 have hbn:=ba_ne e;go_enter Tryz.func144,Tryz.ntmps144;go_wp2_with fail;go_ret;exact⟨by simp[e],Frm.alloc_below _ _⟩
def ixN (l:List Nmb) (key:ByteArray):Int:=match l.findIdx? (fun x=>decide (x.e.k=key)) with|some i=>(i:Int)|none=> -1
theorem index_any(w:World)(B n c:Nat)(A:Option Addr)(l:List Nmb)(key:ByteArray)(hl:Ns w A n l)(hn:n≤1000000000)(hc:w.cell? ⟨B,0,none⟩=some (.string key)):
  Calls Tryz.prog 160 #[.slice A n c,.func (.func 144) #[] #[.pointer (some ⟨B,0,none⟩)]] w (EndsBelow (.int .i64 (ixN l key)) w):=by
 have HL:=hid hl;have HC:Hid (∀u,Below w.heap.size w u→u.cell? ⟨B,0,none⟩=some (.string key)):=hid (fun u hu=>(World.cell?_of_block (w:=w) (hu.block B (Jou.cell_low hc))).trans hc);have hn1:(n:Int)≤1000000000:=by omega
 clear hl hc hn;go_enter Tryz.func160,Tryz.ntmps160;go_wp2_with fail;go_loopw [8] (fun i wr=>∃k:Nat,k≤n∧i= .int .i64 k∧Below w.heap.size w wr∧∀j (h:j<l.length),j<k→l[j].e.k≠key) (fun i _=>n-(Go.RowKit.intOf i).toNat)
 case atStart=>exact⟨0,Nat.zero_le _,rfl,Below.refl _ _,fun j _ h=>absurd h (by omega)⟩
 case round=>
  obtain⟨k,hk,rfl,hb,hq⟩:=hrel;have HB:=hid hb;have HQ:=hid hq;clear hb hq;by_cases hlt:k<n
  ·have hkl:k<l.length:=by rw[HL.out.1];exact hlt
   obtain⟨g,off,hA,_,hcs⟩:=(HL.out.below HB.out).2 (by omega);obtain⟨c0,c1,c2⟩:=hcs k hkl;have hidx:∀u:World,(Instr.indexAt 186 (.slice A n c) (.int .i64 k)).run Tryz.prog u= .ok (.pointer (some ⟨g,off+k * 3,none⟩)) u:=fun u=>by
    have hs:(Go.sizeOf 188).run Tryz.prog u= .ok 3 u:=by kernel_rfl
    rw[hA];simp[Instr.indexAt,asIntOf,run_underlying Tryz.underlying186,Result.andThen,Addr.add_mid,hs];intro h1;omega
   have HI:=hid (is_any wr l[k] B key (HC.out wr HB.out));unfold nmbA at HI;have HX:Hid ((decide (l[k].e.k=key)=true→ixN l key=(k:Int))∧(decide (l[k].e.k=key)=false→l[k].e.k≠key)):=hid ⟨fun h=>by
    unfold ixN;have:l.findIdx? (fun x=>decide (x.e.k=key))=some k:=by
     rw[List.findIdx?_eq_some_iff_getElem];exact⟨hkl,h,fun j hj=>by simpa using HQ.out j (by omega) hj⟩
    rw[this],fun h=>by simpa using h⟩
   have HLK:Hid (decide (l[k].e.k=key)=false→∀j (h:j<l.length),j<k+1→l[j].e.k≠key):=hid (fun h j hj h2=>by
    by_cases e:j=k
    ·subst e;simpa using h
    ·exact HQ.out j hj (by omega))
   clear hcs hA;generalize l[k]=x at *;obtain⟨⟨xk,xv⟩,xn⟩:=x;dsimp only at *;go_wp2_with fail;refine HI.out.mono ?_;rintro e w1 ⟨rfl,hb1⟩;have HB1:=hid (HB.out.trans (hb1.mono HB.out.size));clear hb1 HI c0 c1 c2 hidx;cases hdd:decide (xk=key) with
   |true=>
    go_wp2_with fail;go_ret;exact⟨by rw[HX.out.1 hdd];rfl,HB1.out⟩
   |false=>
    go_wp2_with fail;go_roundw
    case rel=>exact⟨k+1,by omega,by go_num,HB1.out,HLK.out hdd⟩
    case measure=>simp[Go.RowKit.intOf];omega
  obtain rfl:k=n:=by omega
  have HX:Hid (ixN l key= -1):=hid (by
   unfold ixN;have:l.findIdx? (fun x=>decide (x.e.k=key))=none:=by
    rw[List.findIdx?_eq_none_iff];intro x hx;obtain⟨j,hj,rfl⟩:=List.getElem_of_mem hx;simpa using HQ.out j hj (by rw[←HL.out.1];exact hj)
   rw[this])
  go_wp2_with fail;go_ret;exact⟨by rw[HX.out];rfl,HB.out⟩
end Go.Proofs.YtdjhlhellkajfaaGreat.Cch
namespace Go.Proofs.YtdjhlhellkajfaaGreat.Cch
open Go.RowKit Codec Cod
open Disk (Turn)
theorem setCells_at{g:Nat}{T:TypeId}:∀(vs:List Value) (o:Nat) (w:World) (cs:Array Value),w.heap[g]? =some (.cells cs T (0,0))→
  ∃cs':Array Value,(w.setCells g o vs).heap[g]? =some (.cells cs' T (0,0))∧cs'.size=cs.size∧(∀p,p<o∨o+vs.length≤p→cs'[p]? =cs[p]?)
 |[],_,_,cs,h=>⟨cs,h,rfl,fun _ _=>rfl⟩
 |v::vs,o,w,cs,h=>by
  obtain⟨cs',h1,h2,h3⟩:=setCells_at vs (o+1) (w.setCell ⟨g,o,none⟩ v) _ (set_at h o v);refine⟨cs',h1,by simpa using h2,fun p hp=> ?_⟩;simp only[List.length_cons] at hp;rw[h3 p (by omega)];exact Array.getElem?_setIfInBounds_ne (by omega)
def El (C:Array Value) (p:Nat) (x:Nmb):Prop:=C[p * 3]? =some (.string x.e.k)∧C[p * 3+1]? =some (.string x.e.v)∧C[p * 3+2]? =some (.int .i64 (x.n:Int))
def set3 (C:Array Value) (p:Nat) (x:Nmb):Array Value:=((C.setIfInBounds (p * 3) (.string x.e.k)).setIfInBounds (p * 3+1) (.string x.e.v)).setIfInBounds (p * 3+2) (.int .i64 (x.n:Int))
theorem set3_size(C:Array Value)(p:Nat)(x:Nmb):(set3 C p x).size=C.size:=by simp[set3]
theorem set3_same{C:Array Value}{p:Nat}(h:p * 3+2<C.size)(x:Nmb):El (set3 C p x) p x:=by
 unfold El set3;refine⟨?_,?_,?_⟩<;>simp[Array.getElem?_setIfInBounds]<;>omega
theorem set3_other{C:Array Value}{p q:Nat}(hne:q≠p)(x y:Nmb)(h:El C q y):El (set3 C p x) q y:=by
 obtain⟨h1,h2,h3⟩:=h;unfold El set3;refine⟨?_,?_,?_⟩
 ·rw[Array.getElem?_setIfInBounds_ne (by omega),Array.getElem?_setIfInBounds_ne (by omega),Array.getElem?_setIfInBounds_ne (by omega),h1]
 ·rw[Array.getElem?_setIfInBounds_ne (by omega),Array.getElem?_setIfInBounds_ne (by omega),Array.getElem?_setIfInBounds_ne (by omega),h2]
 rw[Array.getElem?_setIfInBounds_ne (by omega),Array.getElem?_setIfInBounds_ne (by omega),Array.getElem?_setIfInBounds_ne (by omega),h3]
theorem rowV_get:∀(l:List Nmb) (p r:Nat),r<3→(rowV l)[p * 3+r]? =(l[p]?).bind fun x=>(nmbV x)[r]?
 |[],p,r,_=>by simp[rowV]
 |x::l,0,r,hr=>by
  rw[rowV_cons,List.getElem?_append_left (by rw[nmbV_length];omega)];simp
 |x::l,p+1,r,hr=>by
  rw[rowV_cons,List.getElem?_append_right (by rw[nmbV_length];omega),nmbV_length,show(p+1) * 3+r-3=p * 3+r by omega,rowV_get l p r hr];simp
theorem el_of_take{C:Array Value}{l:List Nmb}(h:C.toList.take (l.length * 3)=rowV l)(p:Nat)(x:Nmb)(hx:l[p]? =some x):El C p x:=by
 have hp:p<l.length:=(List.getElem?_eq_some_iff.1 hx).1;have e:∀r,r<3→C[p * 3+r]? =(nmbV x)[r]? :=fun r hr=>by
  have h1:=rowV_get l p r hr;rw[←h,List.getElem?_take_of_lt (by omega),hx] at h1;simpa using h1
 exact⟨e 0 (by omega),e 1 (by omega),e 2 (by omega)⟩
theorem take_of_el{C:Array Value}{l:List Nmb}(h:∀p x,l[p]? =some x→El C p x):C.toList.take (l.length * 3)=rowV l:=by
 apply List.ext_getElem?;intro q;obtain⟨P,R,hR,rfl⟩:∃P R,R<3∧q=P * 3+R:=⟨q/3,q%3,by omega,by omega⟩
 by_cases hq:P<l.length
 ·rw[List.getElem?_take_of_lt (by omega)];have hx:l[P]? =some l[P]:=List.getElem?_eq_getElem hq;obtain⟨h1,h2,h3⟩:=h _ _ hx;have h4:=rowV_get l P R hR;rw[hx] at h4;rw[h4];rcases(show R=0∨R=1∨R=2 by omega) with rfl|rfl|rfl
  ·simpa [nmbV] using h1
  ·simpa [nmbV] using h2
  simpa [nmbV] using h3
 rw[List.getElem?_eq_none (by rw[List.length_take];omega),List.getElem?_eq_none (by rw[rowV_length];omega)]
def OwnN (w:World) (lo:Nat) (v:Value) (l:List Nmb):Prop:=
 ∃g cap,∃C:Array Value,v= .slice (some ⟨g,0,none⟩) l.length cap∧lo≤g∧w.heap[g]? =some (.cells C 188 (0,0))∧C.size=cap * 3∧l.length≤cap∧cap≤maxLen∧∀p x,l[p]? =some x→El C p x
theorem OwnN.row{w:World}{lo:Nat}{v:Value}{l:List Nmb}(h:OwnN w lo v l):w.ownsRow lo 188 3 v l.length (rowV l):=by
 obtain⟨g,cap,C,rfl,hlo,hh,hs,h1,h2,he⟩:=h;exact⟨by rw[rowV_length],.inr ⟨g,cap,C,rfl,hlo,hh,h1,h2,hs,take_of_el he⟩⟩
theorem OwnN.of_row{w:World}{lo n:Nat}{v:Value}{l:List Nmb}(h:w.ownsRow lo 188 3 v n (rowV l))(h0:0<n):OwnN w lo v l:=by
 have hl:l.length=n:=by have:=h.1;rw[rowV_length] at this;omega
 rcases h.2 with⟨e,e2⟩|⟨g,cap,cur,e,hlo,hh,h1,h2,h3,h4⟩
 ·omega
 subst hl;exact⟨g,cap,cur,e,hlo,hh,h3,h1,h2,el_of_take h4⟩
theorem OwnN.ns{w:World}{lo:Nat}{v:Value}{l:List Nmb}(h:OwnN w lo v l):∃A c,v= .slice A l.length c∧Ns w A l.length l:=by
 obtain⟨g,cap,C,rfl,hlo,hh,hs,h1,h2,he⟩:=h;refine⟨_,cap,rfl,rfl,fun _=>⟨g,0,rfl,lt_of_heap hh,fun j hj=> ?_⟩⟩;obtain⟨e1,e2,e3⟩:=he j l[j] (List.getElem?_eq_getElem hj);rw[Nat.zero_add,cell_at hh,cell_at hh,cell_at hh];exact⟨e1,e2,e3⟩
theorem OwnN.keep{w w':World}{lo:Nat}{v:Value}{l:List Nmb}(h:OwnN w lo v l)(hb:∀g,v.ownBlock=some g→w'.heap[g]? =w.heap[g]?):OwnN w' lo v l:=by
 obtain⟨g,cap,C,rfl,hlo,hh,r⟩:=h;exact⟨g,cap,C,rfl,hlo,(hb g rfl).trans hh,r⟩
end Go.Proofs.YtdjhlhellkajfaaGreat.Cch
namespace Go.Proofs.YtdjhlhellkajfaaGreat.Cch
open Go.RowKit Codec Cod
open Disk (Turn)
theorem size3(w:World):(Go.sizeOf (Tryz.prog.elem 186)).run Tryz.prog w= .ok 3 w:=by kernel_rfl
theorem to3(w:World)(A:Option Addr)(n c k:Nat)(hk:k≤c):(Instr.slice 186 (.slice A n c) none (some (.int .i64 k)) none).run Tryz.prog w= .ok (.slice A k c) w:=by
 rw[run_slice_h (P:=Tryz.prog) w 186 A n c Tryz.underlying186 .i64 k (by omega) (by omega),size3];simp only[Result.andThen,sliced,Int.toNat_natCast,Nat.zero_mul,Nat.sub_zero];congr 2;split
 ·rfl
 cases A<;>simp[Addr.add]
theorem from3(w:World)(A:Option Addr)(n c k:Nat)(hk:k≤n):
  (Instr.slice 186 (.slice A n c) (some (.int .i64 k)) none none).run Tryz.prog w= .ok (.slice (if c=k then A else A.map (·.add (k * 3))) (n-k) (c-k)) w:=by
 rw[run_slice_l (P:=Tryz.prog) w 186 A n c Tryz.underlying186 .i64 k (by omega) (by omega),size3];simp[Result.andThen,sliced]
theorem run_clear3(w:World)(ty:TypeId)(g cap:Nat)(C:Array Value)(hh:w.heap[g]? =some (.cells C 188 (0,0)))(hs:C.size=cap * 3)(A:Option Addr)(k m c:Nat)(hA:0<m→A=some ⟨g,k * 3,none⟩)(hk:k+m≤cap):
  ∃(w':World) (C':Array Value),(Builtin.clear_ #[186] ty #[.slice A m c]).run Tryz.prog w= .ok (.tuple #[]) w'∧w'.heap[g]? =some (.cells C' 188 (0,0))∧C'.size=C.size∧(∀p,p<k * 3→C'[p]? =C[p]?)∧Turn [g] w w':=by
 rcases Nat.eq_zero_or_pos m with h0|h0
 ·subst h0;refine⟨w,C,?_,hh,rfl,fun _ _=>rfl,Turn.refl _ _⟩;cases A<;>simp[Builtin.clear_,run_underlying Tryz.underlying186]
 have hA:=hA h0;subst hA;obtain⟨z,hz⟩:∃z,(Builtin.zeroCells (Value.agg #[.string ⟨#[]⟩,.string ⟨#[]⟩,.int .i64 0]).cells m).toList=z:=⟨_,rfl⟩
 have hzl:z.length=m * 3:=by rw[←hz,Array.length_toList,size_zeroCells];rfl
 have hz1:∀v∈z,v.oneCell'=true:=fun v hv=>by
  rw[←hz] at hv;simp only[Builtin.zeroCells,Array.toList_map,List.mem_map] at hv;obtain⟨i,_,rfl⟩:=hv;have:i%(Value.agg #[.string ⟨#[]⟩,.string ⟨#[]⟩,.int .i64 0]).cells.size<3:=Nat.mod_lt _ (by decide);have e3:(Value.agg #[.string ⟨#[]⟩,.string ⟨#[]⟩,.int .i64 0]).cells.size=3:=rfl;rw[e3];rcases(show i%3=0∨i%3=1∨i%3=2 by omega) with e|e|e<;>rw[e]<;>rfl
 have hst:=run_storeCells_cells (P:=Tryz.prog) g (k * 3) z 0 w (fun j hj=>by rw[Nat.add_zero,cell_at hh];simp;omega) (fun j hj=>free_at hh _) hz1;rw[Nat.add_zero] at hst;obtain⟨C',h1,h2,h3⟩:=setCells_at z (k * 3) w C hh;refine⟨_,C',?_,h1,h2,fun p hp=>h3 p (.inl hp),(Turn.refl [g] w).setCells (.inl (by simp)) _ _⟩;obtain⟨m',rfl⟩:∃m',m=m'+1:=⟨m-1,by omega⟩
 simp[Builtin.clear_,run_underlying Tryz.underlying186,hz,hst]
def Cutd (w:World) (lo:Nat) (v:Value) (l:List Nmb) (e:Ending) (w':World):Prop:=∃v',e= .returned v'∧OwnN w' lo v' l∧v'.ownBlock=v.ownBlock∧Turn v.ownBlock.toList w w'
theorem cut_none{l:List Nmb}{key:ByteArray}(h:l.findIdx? (fun x=>decide (x.e.k=key))=none):cut l key=l:=by
 unfold cut;rw[List.filter_eq_self];intro x hx;rw[List.findIdx?_eq_none_iff] at h;simpa using h x hx
structure DI (w wr:World) (g cap:Nat) (l:List Nmb) (key:ByteArray) (j:Nat) (C:Array Value):Prop where
 blk:wr.heap[g]? =some (.cells C 188 (0,0))
 sz:C.size=cap * 3
 ht:Turn [g] w wr
 lo:∀p x,(cut (l.take j) key)[p]? =some x→El C p x
 hi:∀p x,j≤p→l[p]? =some x→El C p x
theorem cut_take{l:List Nmb}{key:ByteArray}{j:Nat}(h:j<l.length):cut (l.take (j+1)) key=cut (l.take j) key++(if l[j].e.k=key then [] else [l[j]]):=by
 rw[List.take_succ_eq_append_getElem h];unfold cut;rw[List.filter_append];by_cases e:l[j].e.k=key<;>simp[e]
theorem cut_len(l:List Nmb)(key:ByteArray)(j:Nat):(cut (l.take j) key).length≤j:=by
 have h1:=List.length_filter_le (fun x:Nmb=>decide (x.e.k≠key)) (l.take j);have h2:=List.length_take_le j l;unfold cut;omega
theorem DI.skip{w wr w1:World}{g cap j:Nat}{l:List Nmb}{key:ByteArray}{C:Array Value}(h:DI w wr g cap l key j C)(hb:Below wr.heap.size wr w1)(hj:j<l.length)(hk:l[j].e.k=key):DI w w1 g cap l key (j+1) C:=
 ⟨(hb.block g (lt_of_heap h.blk)).trans h.blk,h.sz,h.ht.below hb,fun p x hx=>h.lo p x (by rw[cut_take hj,if_pos hk,List.append_nil] at hx;exact hx),fun p x hp hx=>h.hi p x (by omega) hx⟩
theorem DI.start{w wr:World}{g cap i:Nat}{l:List Nmb}{key:ByteArray}{C:Array Value}(hh:wr.heap[g]? =some (.cells C 188 (0,0)))(hs:C.size=cap * 3)(ht:Turn [g] w wr)(he:∀p x,l[p]? =some x→El C p x)
  (hi:l.findIdx? (fun x=>decide (x.e.k=key))=some i):i<l.length∧(cut (l.take (i+1)) key).length=i∧DI w wr g cap l key (i+1) C:=by
 rw[List.findIdx?_eq_some_iff_getElem] at hi;obtain⟨hil,h1,h2⟩:=hi;have e1:cut (l.take i) key=l.take i:=by
  unfold cut;rw[List.filter_eq_self];intro x hx;obtain⟨j,hj,rfl⟩:=List.getElem_of_mem hx;rw[List.length_take] at hj;rw[List.getElem_take];simpa using h2 j (by omega)
 have e2:cut (l.take (i+1)) key=l.take i:=by
  rw[cut_take hil,if_pos (by simpa using h1),List.append_nil,e1]
 refine⟨hil,by rw[e2,List.length_take];omega,hh,hs,ht,fun p x hx=> ?_,fun p x hp hx=>he p x hx⟩;rw[e2,List.getElem?_take] at hx;split at hx
 ·exact he p x hx
 cases hx
theorem DI.move{w wr w1 w2:World}{g cap j i:Nat}{l:List Nmb}{key:ByteArray}{C:Array Value}(h:DI w wr g cap l key j C)(hb:Below wr.heap.size wr w1)(hj:j<l.length)(hk:¬l[j].e.k=key)(hi:(cut (l.take j) key).length=i)(hc:l.length≤cap)
  (hw:w2=((w1.setCell ⟨g,i * 3,none⟩ (.string l[j].e.k)).setCell ⟨g,i * 3+1,none⟩ (.string l[j].e.v)).setCell ⟨g,i * 3+2,none⟩ (.int .i64 (l[j].n:Int))):DI w w2 g cap l key (j+1) (set3 C i l[j]):=by
 subst hw;have hij:=cut_len l key j;have h1:w1.heap[g]? =some (.cells C 188 (0,0)):=(hb.block g (lt_of_heap h.blk)).trans h.blk;refine⟨set_at (set_at (set_at h1 _ _) _ _) _ _,by rw[set3_size];exact h.sz,(((h.ht.below hb).setCell (.inl (by simp)) _).setCell (.inl (by simp)) _).setCell (.inl (by simp)) _,fun p x hx=> ?_,fun p x hp hx=> ?_⟩
 ·rw[cut_take hj,if_neg hk] at hx;by_cases hp:p<i
  ·rw[List.getElem?_append_left (by omega)] at hx;exact set3_other (by omega) _ _ (h.lo p x hx)
  have hpi:p=i:=by
   have:=(List.getElem?_eq_some_iff.1 hx).1;rw[List.length_append] at this;simp at this;omega
  subst hpi;rw[List.getElem?_append_right (by omega),hi,Nat.sub_self] at hx;have:l[j]=x:=by simpa using hx
  subst this;exact set3_same (by rw[h.sz];omega) _
 exact set3_other (by omega) _ _ (h.hi p x (by omega) hx)
theorem del_nil(w:World)(B:Nat)(key:ByteArray)(hc:w.cell? ⟨B,0,none⟩=some (.string key)):Calls Tryz.prog 143 #[.slice none 0 0,.func (.func 144) #[] #[.pointer (some ⟨B,0,none⟩)]] w (EndsBelow (.slice none 0 0) w):=by
 have HI:=hid (index_any w B 0 0 none [] key ⟨rfl,fun h=>absurd h (by omega)⟩ (by omega) hc);have hx:ixN [] key= -1:=rfl;rw[hx] at HI;clear hc hx;go_enter Tryz.func143,Tryz.ntmps143;go_wp2_with fail;refine HI.out.mono ?_;rintro e w1 ⟨rfl,hb1⟩;go_wp2_with fail;go_ret;exact⟨rfl,hb1⟩
theorem del_any(w:World)(lo B:Nat)(v:Value)(l:List Nmb)(key:ByteArray)(h:OwnN w lo v l)(hn:l.length≤1000000)(hc:w.cell? ⟨B,0,none⟩=some (.string key))(hB:v.ownBlock≠some B):
  Calls Tryz.prog 143 #[v,.func (.func 144) #[] #[.pointer (some ⟨B,0,none⟩)]] w (Cutd w lo v (cut l key)):=by
 have HO:=hid h;obtain⟨A0,c0,hv0,hns⟩:=h.ns;obtain⟨g,cap,C,hv,hlo,hh,hs,h1,h2,he⟩:=h;rw[hv] at hv0;injection hv0 with hv1 _ hv2;subst hv1 hv2 hv;have HI:=hid (index_any w B l.length cap (some ⟨g,0,none⟩) l key hns (by omega) hc);have HBL:=hid (Jou.cell_low hc);have HC:=hid hc;have HBG:Hid (B≠g):=hid (fun e=>hB (by rw[e];rfl));have hn1:(l.length:Int)≤1000000:=by omega
 have hnc:(l.length:Int)≤(cap:Int):=by omega
 clear hns hc hB;cases hf:l.findIdx? (fun x=>decide (x.e.k=key)) with
 |none=>
  have hx:ixN l key= -1:=by unfold ixN;rw[hf]
  rw[hx] at HI;rw[cut_none hf];clear hf hx he hh;generalize hN:l.length=N at *;have HN:=hid hN;clear hN;go_enter Tryz.func143,Tryz.ntmps143;go_wp2_with fail;refine HI.out.mono ?_;rintro e w1 ⟨rfl,hb1⟩;have HB1:=hid hb1;clear hb1;go_wp2_with fail;go_ret;exact⟨_,rfl,HO.out.keep (fun q hq=>HB1.out.block q (by
   obtain⟨_,_,_,e,_,hh,_⟩:=HO.out;rw[e] at hq;injection hq with hq;subst hq;exact lt_of_heap hh)),rfl,Turn.ofBelow HB1.out⟩
 |some i0=>
  have hx:ixN l key=(i0:Int):=by unfold ixN;rw[hf]
  rw[hx] at HI;obtain⟨hil,hcl,_⟩:=DI.start (w:=w) hh hs (Turn.refl _ _) he hf;have HST:Hid (∀w1,Below w.heap.size w w1→DI w w1 g cap l key (i0+1) C):=hid (fun w1 hb=>(DI.start (w:=w) ((hb.block g (lt_of_heap hh)).trans hh) hs (Turn.ofBelow hb) he hf).2.2);have HCL:=hid (And.intro hcl h1);have hi0:(i0:Int)<(l.length:Int):=by omega
  have HLO:=hid (And.intro hlo h2);clear hx hf he hh hs hcl hlo h1 h2 HO;obtain⟨N,hN⟩:∃N,l.length=N:=⟨_,rfl⟩
  have HN:=hid hN;rw[hN] at HI hn1 hnc hi0 hil ⊢;clear hN;go_enter Tryz.func143,Tryz.ntmps143;go_wp2_with fail;refine HI.out.mono ?_;rintro e w1 ⟨rfl,hb1⟩;have HD1:=hid (HST.out w1 hb1);have hm1:((i0:Int)== -1)=false:=by simp<;>omega
  clear hb1 HI HST;go_wp2_with fail;go_loopw [5,6] (fun i j wr=>∃(j':Nat) (C':Array Value),j'≤N∧j= .int .i64 j'∧i= .int .i64 (cut (l.take j') key).length∧DI w wr g cap l key j' C') (fun _ j _=>N-(Go.RowKit.intOf j).toNat)
  case atStart=>exact⟨i0+1,C,by omega,by push_cast;rfl,by rw[HCL.out.1],HD1.out⟩
  case round=>
   obtain⟨j,C',hj,rfl,rfl,hd⟩:=hrel;clear HD1;have HD:=hid hd;have HJI:=hid (cut_len l key j);clear hd;by_cases hlt:j<N
   ·have hjl:j<l.length:=by rw[HN.out];exact hlt
    obtain⟨e0,e1,e2⟩:=HD.out.hi j l[j] (Nat.le_refl _) (List.getElem?_eq_getElem hjl);have c0:=(cell_at HD.out.blk (j * 3)).trans e0;have c1:=(cell_at HD.out.blk (j * 3+1)).trans e1;have c2:=(cell_at HD.out.blk (j * 3+2)).trans e2;have hidx:∀(q:Nat),q<N→∀u:World,(Instr.indexAt 186 (.slice (some ⟨g,0,none⟩) N cap) (.int .i64 q)).run Tryz.prog u= .ok (.pointer (some ⟨g,q * 3,none⟩)) u:=fun q hq u=>by
     have hs3:(Go.sizeOf 188).run Tryz.prog u= .ok 3 u:=by kernel_rfl
     simp[Instr.indexAt,asIntOf,run_underlying Tryz.underlying186,Result.andThen,Addr.add_mid,hs3];intro h1;omega
    have hidxj:=hidx j hlt;have hij:(cut (l.take j) key).length<N:=by have:=HJI.out;omega
    have hidxi:=hidx _ hij;have HW:=hid (fun u (hb:Below wr.heap.size wr u) (hk:l[j].e.k=key)=>HD.out.skip hb hjl hk);have HM:=hid (fun u w2 (hb:Below wr.heap.size wr u) (hk:¬l[j].e.k=key) hw=>HD.out.move (w1:=u) (w2:=w2) hb hjl hk rfl (by have:=HCL.out.2;exact this) hw);have HTK:Hid ((l[j].e.k=key→(cut (l.take (j+1)) key).length=(cut (l.take j) key).length)∧(¬l[j].e.k=key→(cut (l.take (j+1)) key).length=(cut (l.take j) key).length+1)):=hid ⟨fun hk=>by rw[cut_take hjl,if_pos hk,List.append_nil],fun hk=>by rw[cut_take hjl,if_neg hk,List.length_append];rfl⟩;have HBX:Hid (∀u:World,Below wr.heap.size wr u→u.heap[g]? =some (.cells C' 188 (0,0))∧u.cell? ⟨B,0,none⟩=some (.string key)):=hid (fun u hb=>⟨(hb.block g (lt_of_heap HD.out.blk)).trans HD.out.blk,(World.cell?_of_block (w:=w) ((hb.block B (Nat.lt_of_lt_of_le HBL.out HD.out.ht.size)).trans (HD.out.ht.block B HBL.out (by simp[HBG.out])))).trans HC.out⟩);have HSZ:Hid (C'.size=cap * 3):=hid HD.out.sz;have HLJ:Hid (∃x,l[j]=x):=hid ⟨_,rfl⟩;clear hidx e0 e1 e2;generalize l[j]=x at *;clear hjl HLJ;obtain⟨⟨xk,xv⟩,xn⟩:=x;dsimp only at *;generalize (cut (l.take j) key).length=I at *;have hBX:=HBX.out (wr.alloc (.cells #[.string xk,.string xv,.int .i64 (xn:Int)] 188)) (Frm.alloc_below wr _);have HI:=hid (is_any (wr.alloc (.cells #[.string xk,.string xv,.int .i64 (xn:Int)] 188)) ⟨⟨xk,xv⟩,xn⟩ B key hBX.2);unfold nmbA at HI;dsimp only at HI;have HXB:=hid (heap_alloc_new wr (.cells #[.string xk,.string xv,.int .i64 (xn:Int)] 188));clear hBX;go_wp2_with fail;refine HI.out.mono ?_;rintro e w2 ⟨rfl,hb2⟩;have HB2:Hid (Below wr.heap.size wr w2):=hid ((Frm.alloc_below wr _).trans (hb2.mono (by simp)));have hx2:=(hb2.block wr.heap.size (by simp)).trans HXB.out;have b0:=cell_at hx2 0;have b1:=cell_at hx2 1;have b2:=cell_at hx2 2;obtain⟨hg2,_⟩:=HBX.out w2 HB2.out;have hi3:I * 3+2<C'.size:=by have h1:=HSZ.out;have h2:=HCL.out.2;have h3:=HN.out;omega
    have d0:=cell_at hg2 (I * 3);have d1:=cell_at hg2 (I * 3+1);have d2:=cell_at hg2 (I * 3+2);rw[Array.getElem?_eq_getElem (by omega)] at d0 d1 d2;have f0:=free_at hg2 (I * 3);have f1:=free_at hg2 (I * 3+1);have f2:=free_at hg2 (I * 3+2);generalize C'[I * 3]'(by omega)=y0 at d0;generalize C'[I * 3+1]'(by omega)=y1 at d1;generalize C'[I * 3+2]'(by omega)=y2 at d2;clear hb2 hx2 hg2 hi3 HI HXB HBX c0 c1 c2 hidxj;by_cases hk:xk=key
    ·have hdk:decide (xk=key)=true:=by simpa using hk
     have HDN:=hid (HW.out w2 HB2.out hk);have HTL:=hid (HTK.out.1 hk);clear HW HM HTK hk;go_wp2_with fail;go_roundw
     case rel=>exact⟨j+1,C',by omega,by go_num,by rw[HTL.out],HDN.out⟩
     case measure=>simp[Go.RowKit.intOf];omega
    have hdk:decide (xk=key)=false:=by simpa using hk
    have HDN:=hid (HM.out w2 _ HB2.out hk rfl);have HTL:=hid (HTK.out.2 hk);clear HW HM HTK hk;go_wp2_with fail;go_roundw
    case rel=>exact⟨j+1,_,by omega,by go_num,by rw[HTL.out];go_num,HDN.out⟩
    case measure=>simp[Go.RowKit.intOf];omega
   obtain rfl:j=N:=by omega
   have htk:l.take j=l:=by rw[←HN.out,List.take_length]
   obtain⟨I,hI⟩:∃I,(cut (l.take j) key).length=I:=⟨_,rfl⟩
   rw[hI];have HIJ:Hid (I≤j):=hid (by have:=HJI.out;omega);have hfr:∀u:World,(Instr.slice 186 (.slice (some ⟨g,0,none⟩) j cap) (some (.int .i64 I)) none none).run Tryz.prog u= .ok (.slice (if cap=I then some ⟨g,0,none⟩ else (some ⟨g,0,none⟩:Option Addr).map (·.add (I * 3))) (j-I) (cap-I)) u:=fun u=>from3 u _ j cap I HIJ.out;have hto:∀u:World,(Instr.slice 186 (.slice (some ⟨g,0,none⟩) j cap) none (some (.int .i64 I)) none).run Tryz.prog u= .ok (.slice (some ⟨g,0,none⟩) I cap) u:=fun u=>to3 u _ j cap I (by have:=HIJ.out;omega);obtain⟨AC,hAC⟩:∃AC,(if cap=I then some ⟨g,0,none⟩ else (some (⟨g,0,none⟩:Addr)).map (·.add (I * 3)))=AC:=⟨_,rfl⟩
   rw[hAC] at hfr;have HAC:Hid (0<j-I→AC=some ⟨g,I * 3,none⟩):=hid (fun h0=>by
    rw[←hAC,if_neg (by omega)];simp[plain_add])
   obtain⟨J2,hJ2⟩:∃J2,j-I=J2:=⟨_,rfl⟩
   obtain⟨C2,hC2⟩:∃C2,cap-I=C2:=⟨_,rfl⟩
   rw[hJ2,hC2] at hfr;rw[hJ2] at HAC;have HJ2:Hid (I+J2≤cap∧I≤cap):=hid (by have:=HIJ.out;omega);have HCLR:=hid (fun ty=>run_clear3 wr ty g cap C' HD.out.blk HD.out.sz AC I J2 C2 HAC.out HJ2.out.1);clear hAC hJ2 hC2 hlt;obtain⟨w3,C3,hrun,hh3,hs3,hc3,ht3⟩:=HCLR.out 0;have hrun2:∀ty,(Builtin.clear_ #[186] ty #[.slice AC J2 C2]).run Tryz.prog wr= .ok (.tuple #[]) w3:=fun ty=>hrun;have HF:Hid (OwnN w3 lo (.slice (some ⟨g,0,none⟩) I cap) (cut l key)):=hid (by
    rw[htk] at hI;refine⟨g,cap,C3,by rw[hI],HLO.out.1,hh3,by rw[hs3];exact HD.out.sz,by rw[hI];exact HJ2.out.2,HLO.out.2,fun p x hx=> ?_⟩;have h0:=HD.out.lo p x (by rw[htk];exact hx);have hp:p<I:=by rw[←hI];exact(List.getElem?_eq_some_iff.1 hx).1
    exact⟨(hc3 _ (by omega)).trans h0.1,(hc3 _ (by omega)).trans h0.2.1,(hc3 _ (by omega)).trans h0.2.2⟩)
   have HT:Hid (Turn [g] w w3):=hid (HD.out.ht.trans ht3);clear hrun hh3 hs3 hc3 ht3 HCLR HAC HD HJI HIJ HJ2 htk hI HCL HLO;go_wp2_with fail;go_ret;exact⟨_,rfl,HF.out,rfl,HT.out⟩
end Go.Proofs.YtdjhlhellkajfaaGreat.Cch
namespace Go.Proofs.YtdjhlhellkajfaaGreat.Cch.Els
open Go.RowKit Codec Cod
open Disk (Turn)
def Ns (w:World) (A:Option Addr) (n:Nat) (l:List Ent):Prop:=
 l.length=n∧(0<n→∃g off,A=some ⟨g,off,none⟩∧g<w.heap.size∧∀j (h:j<l.length),w.cell? ⟨g,off+j * 2,none⟩=some (.string l[j].k)∧w.cell? ⟨g,off+j * 2+1,none⟩=some (.string l[j].v))
theorem Ns.keep{w w':World}{A:Option Addr}{n:Nat}{l:List Ent}(h:Ns w A n l)(hb:∀g,g<w.heap.size→w'.heap[g]? =w.heap[g]?)(hs:w.heap.size≤w'.heap.size):Ns w' A n l:=
 ⟨h.1,fun hn=>by
  obtain⟨g,off,e,hl,hc⟩:=h.2 hn;exact⟨g,off,e,by omega,fun j hj=>⟨(World.cell?_of_block (w:=w) (hb g hl)).trans (hc j hj).1,(World.cell?_of_block (w:=w) (hb g hl)).trans (hc j hj).2⟩⟩⟩
theorem Ns.below{w w':World}{A:Option Addr}{n:Nat}{l:List Ent}(h:Ns w A n l)(hb:Below w.heap.size w w'):Ns w' A n l:=h.keep hb.block hb.size
theorem is_any(w:World)(x:Ent)(B:Nat)(key:ByteArray)(hc:w.cell? ⟨B,0,none⟩=some (.string key)):
  Calls Tryz.prog 147 #[entV x,.pointer (some ⟨B,0,none⟩)] w (EndsBelow (.bool (decide (x.k=key))) w):=by
 have hB:B<w.heap.size:=Jou.cell_low hc;obtain⟨k,v⟩:=x;unfold entV;dsimp only;have hc1:(w.alloc (.cells #[.string k,.string v] 62)).cell? ⟨B,0,none⟩=some (.string key):=(World.cell?_of_block (w:=w) (Below.heap_alloc w _ B hB)).trans hc;clear hc hB;by_cases e:k=key
 ·subst e;go_enter Tryz.func147,Tryz.ntmps147;go_wp2_with fail;go_ret;exact⟨by simp,Frm.alloc_below _ _⟩
 have hbn:=ba_ne e;go_enter Tryz.func147,Tryz.ntmps147;go_wp2_with fail;go_ret;exact⟨by simp[e],Frm.alloc_below _ _⟩
def ixN (l:List Ent) (key:ByteArray):Int:=match l.findIdx? (fun x=>decide (x.k=key)) with|some i=>(i:Int)|none=> -1
theorem index_any(w:World)(B n c:Nat)(A:Option Addr)(l:List Ent)(key:ByteArray)(hl:Ns w A n l)(hn:n≤1000000000)(hc:w.cell? ⟨B,0,none⟩=some (.string key)):
  Calls Tryz.prog 161 #[.slice A n c,.func (.func 147) #[] #[.pointer (some ⟨B,0,none⟩)]] w (EndsBelow (.int .i64 (ixN l key)) w):=by
 have HL:=hid hl;have HC:Hid (∀u,Below w.heap.size w u→u.cell? ⟨B,0,none⟩=some (.string key)):=hid (fun u hu=>(World.cell?_of_block (w:=w) (hu.block B (Jou.cell_low hc))).trans hc);have hn1:(n:Int)≤1000000000:=by omega
 clear hl hc hn;go_enter Tryz.func161,Tryz.ntmps161;go_wp2_with fail;go_loopw [8] (fun i wr=>∃k:Nat,k≤n∧i= .int .i64 k∧Below w.heap.size w wr∧∀j (h:j<l.length),j<k→l[j].k≠key) (fun i _=>n-(Go.RowKit.intOf i).toNat)
 case atStart=>exact⟨0,Nat.zero_le _,rfl,Below.refl _ _,fun j _ h=>absurd h (by omega)⟩
 case round=>
  obtain⟨k,hk,rfl,hb,hq⟩:=hrel;have HB:=hid hb;have HQ:=hid hq;clear hb hq;by_cases hlt:k<n
  ·have hkl:k<l.length:=by rw[HL.out.1];exact hlt
   obtain⟨g,off,hA,_,hcs⟩:=(HL.out.below HB.out).2 (by omega);obtain⟨c0,c1⟩:=hcs k hkl;have hidx:∀u:World,(Instr.indexAt 84 (.slice A n c) (.int .i64 k)).run Tryz.prog u= .ok (.pointer (some ⟨g,off+k * 2,none⟩)) u:=fun u=>by
    have hs:(Go.sizeOf 62).run Tryz.prog u= .ok 2 u:=by kernel_rfl
    rw[hA];simp[Instr.indexAt,asIntOf,run_underlying Tryz.underlying84,Result.andThen,Addr.add_mid,hs];intro h1;omega
   have HI:=hid (is_any wr l[k] B key (HC.out wr HB.out));unfold entV at HI;have HX:Hid ((decide (l[k].k=key)=true→ixN l key=(k:Int))∧(decide (l[k].k=key)=false→l[k].k≠key)):=hid ⟨fun h=>by
    unfold ixN;have:l.findIdx? (fun x=>decide (x.k=key))=some k:=by
     rw[List.findIdx?_eq_some_iff_getElem];exact⟨hkl,h,fun j hj=>by simpa using HQ.out j (by omega) hj⟩
    rw[this],fun h=>by simpa using h⟩
   have HLK:Hid (decide (l[k].k=key)=false→∀j (h:j<l.length),j<k+1→l[j].k≠key):=hid (fun h j hj h2=>by
    by_cases e:j=k
    ·subst e;simpa using h
    ·exact HQ.out j hj (by omega))
   clear hcs hA;generalize l[k]=x at *;obtain⟨xk,xv⟩:=x;dsimp only at *;go_wp2_with fail;refine HI.out.mono ?_;rintro e w1 ⟨rfl,hb1⟩;have HB1:=hid (HB.out.trans (hb1.mono HB.out.size));clear hb1 HI c0 c1 hidx;cases hdd:decide (xk=key) with
   |true=>
    go_wp2_with fail;go_ret;exact⟨by rw[HX.out.1 hdd];rfl,HB1.out⟩
   |false=>
    go_wp2_with fail;go_roundw
    case rel=>exact⟨k+1,by omega,by go_num,HB1.out,HLK.out hdd⟩
    case measure=>simp[Go.RowKit.intOf];omega
  obtain rfl:k=n:=by omega
  have HX:Hid (ixN l key= -1):=hid (by
   unfold ixN;have:l.findIdx? (fun x=>decide (x.k=key))=none:=by
    rw[List.findIdx?_eq_none_iff];intro x hx;obtain⟨j,hj,rfl⟩:=List.getElem_of_mem hx;simpa using HQ.out j hj (by rw[←HL.out.1];exact hj)
   rw[this])
  go_wp2_with fail;go_ret;exact⟨by rw[HX.out];rfl,HB.out⟩
def El (C:Array Value) (p:Nat) (x:Ent):Prop:=C[p * 2]? =some (.string x.k)∧C[p * 2+1]? =some (.string x.v)
def set2 (C:Array Value) (p:Nat) (x:Ent):Array Value:=(C.setIfInBounds (p * 2) (.string x.k)).setIfInBounds (p * 2+1) (.string x.v)
theorem set2_size(C:Array Value)(p:Nat)(x:Ent):(set2 C p x).size=C.size:=by simp[set2]
theorem set2_same{C:Array Value}{p:Nat}(h:p * 2+1<C.size)(x:Ent):El (set2 C p x) p x:=by
 unfold El set2;refine⟨?_,?_⟩<;>simp[Array.getElem?_setIfInBounds]<;>omega
theorem set2_other{C:Array Value}{p q:Nat}(hne:q≠p)(x y:Ent)(h:El C q y):El (set2 C p x) q y:=by
 obtain⟨h1,h2⟩:=h;unfold El set2;refine⟨?_,?_⟩
 ·rw[Array.getElem?_setIfInBounds_ne (by omega),Array.getElem?_setIfInBounds_ne (by omega),h1]
 rw[Array.getElem?_setIfInBounds_ne (by omega),Array.getElem?_setIfInBounds_ne (by omega),h2]
def OwnE (w:World) (lo:Nat) (v:Value) (l:List Ent):Prop:=
 ∃g cap,∃C:Array Value,v= .slice (some ⟨g,0,none⟩) l.length cap∧lo≤g∧w.heap[g]? =some (.cells C 62 (0,0))∧C.size=cap * 2∧l.length≤cap∧cap≤maxLen∧∀p x,l[p]? =some x→El C p x
theorem OwnE.ns{w:World}{lo:Nat}{v:Value}{l:List Ent}(h:OwnE w lo v l):∃A c,v= .slice A l.length c∧Ns w A l.length l:=by
 obtain⟨g,cap,C,rfl,hlo,hh,hs,h1,h2,he⟩:=h;refine⟨_,cap,rfl,rfl,fun _=>⟨g,0,rfl,lt_of_heap hh,fun j hj=> ?_⟩⟩;obtain⟨e1,e2⟩:=he j l[j] (List.getElem?_eq_getElem hj);rw[Nat.zero_add,cell_at hh,cell_at hh];exact⟨e1,e2⟩
theorem OwnE.keep{w w':World}{lo:Nat}{v:Value}{l:List Ent}(h:OwnE w lo v l)(hb:∀g,v.ownBlock=some g→w'.heap[g]? =w.heap[g]?):OwnE w' lo v l:=by
 obtain⟨g,cap,C,rfl,hlo,hh,r⟩:=h;exact⟨g,cap,C,rfl,hlo,(hb g rfl).trans hh,r⟩
theorem size2(w:World):(Go.sizeOf (Tryz.prog.elem 84)).run Tryz.prog w= .ok 2 w:=by kernel_rfl
theorem to2(w:World)(A:Option Addr)(n c k:Nat)(hk:k≤c):(Instr.slice 84 (.slice A n c) none (some (.int .i64 k)) none).run Tryz.prog w= .ok (.slice A k c) w:=by
 rw[run_slice_h (P:=Tryz.prog) w 84 A n c Tryz.underlying84 .i64 k (by omega) (by omega),size2];simp only[Result.andThen,sliced,Int.toNat_natCast,Nat.zero_mul,Nat.sub_zero];congr 2;split
 ·rfl
 cases A<;>simp[Addr.add]
theorem from2(w:World)(A:Option Addr)(n c k:Nat)(hk:k≤n):
  (Instr.slice 84 (.slice A n c) (some (.int .i64 k)) none none).run Tryz.prog w= .ok (.slice (if c=k then A else A.map (·.add (k * 2))) (n-k) (c-k)) w:=by
 rw[run_slice_l (P:=Tryz.prog) w 84 A n c Tryz.underlying84 .i64 k (by omega) (by omega),size2];simp[Result.andThen,sliced]
theorem run_clear2(w:World)(ty:TypeId)(g cap:Nat)(C:Array Value)(hh:w.heap[g]? =some (.cells C 62 (0,0)))(hs:C.size=cap * 2)(A:Option Addr)(k m c:Nat)(hA:0<m→A=some ⟨g,k * 2,none⟩)(hk:k+m≤cap):
  ∃(w':World) (C':Array Value),(Builtin.clear_ #[84] ty #[.slice A m c]).run Tryz.prog w= .ok (.tuple #[]) w'∧w'.heap[g]? =some (.cells C' 62 (0,0))∧C'.size=C.size∧(∀p,p<k * 2→C'[p]? =C[p]?)∧Turn [g] w w':=by
 rcases Nat.eq_zero_or_pos m with h0|h0
 ·subst h0;refine⟨w,C,?_,hh,rfl,fun _ _=>rfl,Turn.refl _ _⟩;cases A<;>simp[Builtin.clear_,run_underlying Tryz.underlying84]
 have hA:=hA h0;subst hA;obtain⟨z,hz⟩:∃z,(Builtin.zeroCells (Value.agg #[.string ⟨#[]⟩,.string ⟨#[]⟩]).cells m).toList=z:=⟨_,rfl⟩
 have hzl:z.length=m * 2:=by rw[←hz,Array.length_toList,size_zeroCells];rfl
 have hz1:∀v∈z,v.oneCell'=true:=fun v hv=>by
  rw[←hz] at hv;simp only[Builtin.zeroCells,Array.toList_map,List.mem_map] at hv;obtain⟨i,_,rfl⟩:=hv;have:i%(Value.agg #[.string ⟨#[]⟩,.string ⟨#[]⟩]).cells.size<2:=Nat.mod_lt _ (by decide);have e2:(Value.agg #[.string ⟨#[]⟩,.string ⟨#[]⟩]).cells.size=2:=rfl;rw[e2];rcases(show i%2=0∨i%2=1 by omega) with e|e<;>rw[e]<;>rfl
 have hst:=run_storeCells_cells (P:=Tryz.prog) g (k * 2) z 0 w (fun j hj=>by rw[Nat.add_zero,cell_at hh];simp;omega) (fun j hj=>free_at hh _) hz1;rw[Nat.add_zero] at hst;obtain⟨C',h1,h2,h3⟩:=setCells_at z (k * 2) w C hh;refine⟨_,C',?_,h1,h2,fun p hp=>h3 p (.inl hp),(Turn.refl [g] w).setCells (.inl (by simp)) _ _⟩;obtain⟨m',rfl⟩:∃m',m=m'+1:=⟨m-1,by omega⟩
 simp[Builtin.clear_,run_underlying Tryz.underlying84,hz,hst]
def Cutd (w:World) (lo:Nat) (v:Value) (l:List Ent) (e:Ending) (w':World):Prop:=∃v',e= .returned v'∧OwnE w' lo v' l∧v'.ownBlock=v.ownBlock∧Turn v.ownBlock.toList w w'
def cut (N:List Ent) (key:ByteArray):List Ent:=N.filter fun x=>decide (x.k≠key)
theorem cut_none{l:List Ent}{key:ByteArray}(h:l.findIdx? (fun x=>decide (x.k=key))=none):cut l key=l:=by
 unfold cut;rw[List.filter_eq_self];intro x hx;rw[List.findIdx?_eq_none_iff] at h;simpa using h x hx
structure DI (w wr:World) (g cap:Nat) (l:List Ent) (key:ByteArray) (j:Nat) (C:Array Value):Prop where
 blk:wr.heap[g]? =some (.cells C 62 (0,0))
 sz:C.size=cap * 2
 ht:Turn [g] w wr
 lo:∀p x,(cut (l.take j) key)[p]? =some x→El C p x
 hi:∀p x,j≤p→l[p]? =some x→El C p x
theorem cut_take{l:List Ent}{key:ByteArray}{j:Nat}(h:j<l.length):cut (l.take (j+1)) key=cut (l.take j) key++(if l[j].k=key then [] else [l[j]]):=by
 rw[List.take_succ_eq_append_getElem h];unfold cut;rw[List.filter_append];by_cases e:l[j].k=key<;>simp[e]
theorem cut_len(l:List Ent)(key:ByteArray)(j:Nat):(cut (l.take j) key).length≤j:=by
 have h1:=List.length_filter_le (fun x:Ent=>decide (x.k≠key)) (l.take j);have h2:=List.length_take_le j l;unfold cut;omega
theorem DI.skip{w wr w1:World}{g cap j:Nat}{l:List Ent}{key:ByteArray}{C:Array Value}(h:DI w wr g cap l key j C)(hb:Below wr.heap.size wr w1)(hj:j<l.length)(hk:l[j].k=key):DI w w1 g cap l key (j+1) C:=
 ⟨(hb.block g (lt_of_heap h.blk)).trans h.blk,h.sz,h.ht.below hb,fun p x hx=>h.lo p x (by rw[cut_take hj,if_pos hk,List.append_nil] at hx;exact hx),fun p x hp hx=>h.hi p x (by omega) hx⟩
theorem DI.start{w wr:World}{g cap i:Nat}{l:List Ent}{key:ByteArray}{C:Array Value}(hh:wr.heap[g]? =some (.cells C 62 (0,0)))(hs:C.size=cap * 2)(ht:Turn [g] w wr)(he:∀p x,l[p]? =some x→El C p x)
  (hi:l.findIdx? (fun x=>decide (x.k=key))=some i):i<l.length∧(cut (l.take (i+1)) key).length=i∧DI w wr g cap l key (i+1) C:=by
 rw[List.findIdx?_eq_some_iff_getElem] at hi;obtain⟨hil,h1,h2⟩:=hi;have e1:cut (l.take i) key=l.take i:=by
  unfold cut;rw[List.filter_eq_self];intro x hx;obtain⟨j,hj,rfl⟩:=List.getElem_of_mem hx;rw[List.length_take] at hj;rw[List.getElem_take];simpa using h2 j (by omega)
 have e2:cut (l.take (i+1)) key=l.take i:=by
  rw[cut_take hil,if_pos (by simpa using h1),List.append_nil,e1]
 refine⟨hil,by rw[e2,List.length_take];omega,hh,hs,ht,fun p x hx=> ?_,fun p x hp hx=>he p x hx⟩;rw[e2,List.getElem?_take] at hx;split at hx
 ·exact he p x hx
 cases hx
theorem DI.move{w wr w1 w2:World}{g cap j i:Nat}{l:List Ent}{key:ByteArray}{C:Array Value}(h:DI w wr g cap l key j C)(hb:Below wr.heap.size wr w1)(hj:j<l.length)(hk:¬l[j].k=key)(hi:(cut (l.take j) key).length=i)(hc:l.length≤cap)
  (hw:w2=(w1.setCell ⟨g,i * 2,none⟩ (.string l[j].k)).setCell ⟨g,i * 2+1,none⟩ (.string l[j].v)):DI w w2 g cap l key (j+1) (set2 C i l[j]):=by
 subst hw;have hij:=cut_len l key j;have h1:w1.heap[g]? =some (.cells C 62 (0,0)):=(hb.block g (lt_of_heap h.blk)).trans h.blk;refine⟨set_at (set_at h1 _ _) _ _,by rw[set2_size];exact h.sz,((h.ht.below hb).setCell (.inl (by simp)) _).setCell (.inl (by simp)) _,fun p x hx=> ?_,fun p x hp hx=> ?_⟩
 ·rw[cut_take hj,if_neg hk] at hx;by_cases hp:p<i
  ·rw[List.getElem?_append_left (by omega)] at hx;exact set2_other (by omega) _ _ (h.lo p x hx)
  have hpi:p=i:=by
   have:=(List.getElem?_eq_some_iff.1 hx).1;rw[List.length_append] at this;simp at this;omega
  subst hpi;rw[List.getElem?_append_right (by omega),hi,Nat.sub_self] at hx;have:l[j]=x:=by simpa using hx
  subst this;exact set2_same (by rw[h.sz];omega) _
 exact set2_other (by omega) _ _ (h.hi p x (by omega) hx)
theorem del_any(w:World)(lo B:Nat)(v:Value)(l:List Ent)(key:ByteArray)(h:OwnE w lo v l)(hn:l.length≤1000000)(hc:w.cell? ⟨B,0,none⟩=some (.string key))(hB:v.ownBlock≠some B):
  Calls Tryz.prog 146 #[v,.func (.func 147) #[] #[.pointer (some ⟨B,0,none⟩)]] w (Cutd w lo v (cut l key)):=by
 have HO:=hid h;obtain⟨A0,c0,hv0,hns⟩:=h.ns;obtain⟨g,cap,C,hv,hlo,hh,hs,h1,h2,he⟩:=h;rw[hv] at hv0;injection hv0 with hv1 _ hv2;subst hv1 hv2 hv;have HI:=hid (index_any w B l.length cap (some ⟨g,0,none⟩) l key hns (by omega) hc);have HBL:=hid (Jou.cell_low hc);have HC:=hid hc;have HBG:Hid (B≠g):=hid (fun e=>hB (by rw[e];rfl));have hn1:(l.length:Int)≤1000000:=by omega
 have hnc:(l.length:Int)≤(cap:Int):=by omega
 clear hns hc hB;cases hf:l.findIdx? (fun x=>decide (x.k=key)) with
 |none=>
  have hx:ixN l key= -1:=by unfold ixN;rw[hf]
  rw[hx] at HI;rw[cut_none hf];clear hf hx he hh;generalize hN:l.length=N at *;have HN:=hid hN;clear hN;go_enter Tryz.func146,Tryz.ntmps146;go_wp2_with fail;refine HI.out.mono ?_;rintro e w1 ⟨rfl,hb1⟩;have HB1:=hid hb1;clear hb1;go_wp2_with fail;go_ret;exact⟨_,rfl,HO.out.keep (fun q hq=>HB1.out.block q (by
   obtain⟨_,_,_,e,_,hh,_⟩:=HO.out;rw[e] at hq;injection hq with hq;subst hq;exact lt_of_heap hh)),rfl,Turn.ofBelow HB1.out⟩
 |some i0=>
  have hx:ixN l key=(i0:Int):=by unfold ixN;rw[hf]
  rw[hx] at HI;obtain⟨hil,hcl,_⟩:=DI.start (w:=w) hh hs (Turn.refl _ _) he hf;have HST:Hid (∀w1,Below w.heap.size w w1→DI w w1 g cap l key (i0+1) C):=hid (fun w1 hb=>(DI.start (w:=w) ((hb.block g (lt_of_heap hh)).trans hh) hs (Turn.ofBelow hb) he hf).2.2);have HCL:=hid (And.intro hcl h1);have hi0:(i0:Int)<(l.length:Int):=by omega
  have HLO:=hid (And.intro hlo h2);clear hx hf he hh hs hcl hlo h1 h2 HO;obtain⟨N,hN⟩:∃N,l.length=N:=⟨_,rfl⟩
  have HN:=hid hN;rw[hN] at HI hn1 hnc hi0 hil ⊢;clear hN;go_enter Tryz.func146,Tryz.ntmps146;go_wp2_with fail;refine HI.out.mono ?_;rintro e w1 ⟨rfl,hb1⟩;have HD1:=hid (HST.out w1 hb1);have hm1:((i0:Int)== -1)=false:=by simp<;>omega
  clear hb1 HI HST;go_wp2_with fail;go_loopw [5,6] (fun i j wr=>∃(j':Nat) (C':Array Value),j'≤N∧j= .int .i64 j'∧i= .int .i64 (cut (l.take j') key).length∧DI w wr g cap l key j' C') (fun _ j _=>N-(Go.RowKit.intOf j).toNat)
  case atStart=>exact⟨i0+1,C,by omega,by push_cast;rfl,by rw[HCL.out.1],HD1.out⟩
  case round=>
   obtain⟨j,C',hj,rfl,rfl,hd⟩:=hrel;clear HD1;have HD:=hid hd;have HJI:=hid (cut_len l key j);clear hd;by_cases hlt:j<N
   ·have hjl:j<l.length:=by rw[HN.out];exact hlt
    obtain⟨e0,e1⟩:=HD.out.hi j l[j] (Nat.le_refl _) (List.getElem?_eq_getElem hjl);have c0:=(cell_at HD.out.blk (j * 2)).trans e0;have c1:=(cell_at HD.out.blk (j * 2+1)).trans e1;have hidx:∀(q:Nat),q<N→∀u:World,(Instr.indexAt 84 (.slice (some ⟨g,0,none⟩) N cap) (.int .i64 q)).run Tryz.prog u= .ok (.pointer (some ⟨g,q * 2,none⟩)) u:=fun q hq u=>by
     have hs2:(Go.sizeOf 62).run Tryz.prog u= .ok 2 u:=by kernel_rfl
     simp[Instr.indexAt,asIntOf,run_underlying Tryz.underlying84,Result.andThen,Addr.add_mid,hs2];intro h1;omega
    have hidxj:=hidx j hlt;have hij:(cut (l.take j) key).length<N:=by have:=HJI.out;omega
    have hidxi:=hidx _ hij;have HW:=hid (fun u (hb:Below wr.heap.size wr u) (hk:l[j].k=key)=>HD.out.skip hb hjl hk);have HM:=hid (fun u w2 (hb:Below wr.heap.size wr u) (hk:¬l[j].k=key) hw=>HD.out.move (w1:=u) (w2:=w2) hb hjl hk rfl (by have:=HCL.out.2;exact this) hw);have HTK:Hid ((l[j].k=key→(cut (l.take (j+1)) key).length=(cut (l.take j) key).length)∧(¬l[j].k=key→(cut (l.take (j+1)) key).length=(cut (l.take j) key).length+1)):=hid ⟨fun hk=>by rw[cut_take hjl,if_pos hk,List.append_nil],fun hk=>by rw[cut_take hjl,if_neg hk,List.length_append];rfl⟩;have HBX:Hid (∀u:World,Below wr.heap.size wr u→u.heap[g]? =some (.cells C' 62 (0,0))∧u.cell? ⟨B,0,none⟩=some (.string key)):=hid (fun u hb=>⟨(hb.block g (lt_of_heap HD.out.blk)).trans HD.out.blk,(World.cell?_of_block (w:=w) ((hb.block B (Nat.lt_of_lt_of_le HBL.out HD.out.ht.size)).trans (HD.out.ht.block B HBL.out (by simp[HBG.out])))).trans HC.out⟩);have HSZ:Hid (C'.size=cap * 2):=hid HD.out.sz;have HLJ:Hid (∃x,l[j]=x):=hid ⟨_,rfl⟩;clear hidx e0 e1;generalize l[j]=x at *;clear hjl HLJ;obtain⟨xk,xv⟩:=x;dsimp only at *;generalize (cut (l.take j) key).length=I at *;have hBX:=HBX.out (wr.alloc (.cells #[.string xk,.string xv] 62)) (Frm.alloc_below wr _);have HI:=hid (is_any (wr.alloc (.cells #[.string xk,.string xv] 62)) ⟨xk,xv⟩ B key hBX.2);unfold entV at HI;dsimp only at HI;have HXB:=hid (heap_alloc_new wr (.cells #[.string xk,.string xv] 62));clear hBX;go_wp2_with fail;refine HI.out.mono ?_;rintro e w2 ⟨rfl,hb2⟩;have HB2:Hid (Below wr.heap.size wr w2):=hid ((Frm.alloc_below wr _).trans (hb2.mono (by simp)));have hx2:=(hb2.block wr.heap.size (by simp)).trans HXB.out;have b0:=cell_at hx2 0;have b1:=cell_at hx2 1;obtain⟨hg2,_⟩:=HBX.out w2 HB2.out;have hi3:I * 2+1<C'.size:=by have h1:=HSZ.out;have h2:=HCL.out.2;have h3:=HN.out;omega
    have d0:=cell_at hg2 (I * 2);have d1:=cell_at hg2 (I * 2+1);rw[Array.getElem?_eq_getElem (by omega)] at d0 d1;have f0:=free_at hg2 (I * 2);have f1:=free_at hg2 (I * 2+1);generalize C'[I * 2]'(by omega)=y0 at d0;generalize C'[I * 2+1]'(by omega)=y1 at d1;clear hb2 hx2 hg2 hi3 HI HXB HBX c0 c1 hidxj;by_cases hk:xk=key
    ·have hdk:decide (xk=key)=true:=by simpa using hk
     have HDN:=hid (HW.out w2 HB2.out hk);have HTL:=hid (HTK.out.1 hk);clear HW HM HTK hk;go_wp2_with fail;go_roundw
     case rel=>exact⟨j+1,C',by omega,by go_num,by rw[HTL.out],HDN.out⟩
     case measure=>simp[Go.RowKit.intOf];omega
    have hdk:decide (xk=key)=false:=by simpa using hk
    have HDN:=hid (HM.out w2 _ HB2.out hk rfl);have HTL:=hid (HTK.out.2 hk);clear HW HM HTK hk;go_wp2_with fail;go_roundw
    case rel=>exact⟨j+1,_,by omega,by go_num,by rw[HTL.out];go_num,HDN.out⟩
    case measure=>simp[Go.RowKit.intOf];omega
   obtain rfl:j=N:=by omega
   have htk:l.take j=l:=by rw[←HN.out,List.take_length]
   obtain⟨I,hI⟩:∃I,(cut (l.take j) key).length=I:=⟨_,rfl⟩
   rw[hI];have HIJ:Hid (I≤j):=hid (by have:=HJI.out;omega);have hfr:∀u:World,(Instr.slice 84 (.slice (some ⟨g,0,none⟩) j cap) (some (.int .i64 I)) none none).run Tryz.prog u= .ok (.slice (if cap=I then some ⟨g,0,none⟩ else (some ⟨g,0,none⟩:Option Addr).map (·.add (I * 2))) (j-I) (cap-I)) u:=fun u=>from2 u _ j cap I HIJ.out;have hto:∀u:World,(Instr.slice 84 (.slice (some ⟨g,0,none⟩) j cap) none (some (.int .i64 I)) none).run Tryz.prog u= .ok (.slice (some ⟨g,0,none⟩) I cap) u:=fun u=>to2 u _ j cap I (by have:=HIJ.out;omega);obtain⟨AC,hAC⟩:∃AC,(if cap=I then some ⟨g,0,none⟩ else (some (⟨g,0,none⟩:Addr)).map (·.add (I * 2)))=AC:=⟨_,rfl⟩
   rw[hAC] at hfr;have HAC:Hid (0<j-I→AC=some ⟨g,I * 2,none⟩):=hid (fun h0=>by
    rw[←hAC,if_neg (by omega)];simp[plain_add])
   obtain⟨J2,hJ2⟩:∃J2,j-I=J2:=⟨_,rfl⟩
   obtain⟨C2,hC2⟩:∃C2,cap-I=C2:=⟨_,rfl⟩
   rw[hJ2,hC2] at hfr;rw[hJ2] at HAC;have HJ2:Hid (I+J2≤cap∧I≤cap):=hid (by have:=HIJ.out;omega);have HCLR:=hid (fun ty=>run_clear2 wr ty g cap C' HD.out.blk HD.out.sz AC I J2 C2 HAC.out HJ2.out.1);clear hAC hJ2 hC2 hlt;obtain⟨w3,C3,hrun,hh3,hs3,hc3,ht3⟩:=HCLR.out 0;have hrun2:∀ty,(Builtin.clear_ #[84] ty #[.slice AC J2 C2]).run Tryz.prog wr= .ok (.tuple #[]) w3:=fun ty=>hrun;have HF:Hid (OwnE w3 lo (.slice (some ⟨g,0,none⟩) I cap) (cut l key)):=hid (by
    rw[htk] at hI;refine⟨g,cap,C3,by rw[hI],HLO.out.1,hh3,by rw[hs3];exact HD.out.sz,by rw[hI];exact HJ2.out.2,HLO.out.2,fun p x hx=> ?_⟩;have h0:=HD.out.lo p x (by rw[htk];exact hx);have hp:p<I:=by rw[←hI];exact(List.getElem?_eq_some_iff.1 hx).1
    exact⟨(hc3 _ (by omega)).trans h0.1,(hc3 _ (by omega)).trans h0.2⟩)
   have HT:Hid (Turn [g] w w3):=hid (HD.out.ht.trans ht3);clear hrun hh3 hs3 hc3 ht3 HCLR HAC HD HJI HIJ HJ2 htk hI HCL HLO;go_wp2_with fail;go_ret;exact⟨_,rfl,HF.out,rfl,HT.out⟩
end Go.Proofs.YtdjhlhellkajfaaGreat.Cch.Els
