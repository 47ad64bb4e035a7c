/-
  Texts KShelf, KFind, KTake, KPut, KCh, KOps1, KOpen, KFr, in one file. What each proves, and its conditions, stand at its head below.
-/
import Derived.Test.YtdjhlhellkajfaaGreatY8
import Derived.Test.YtdjhlhellkajfaaGreatY18
import Derived.Test.YtdjhlhellkajfaaGreatY23
import Derived.Test.YtdjhlhellkajfaaGreatY24
import Derived.Test.YtdjhlhellkajfaaGreatY29
import Derived.Test.YtdjhlhellkajfaaGreatY32
import Derived.Maps.OwnSet
import Derived.Deep.DeepCutAuto
set_option maxRecDepth 100000
set_option maxHeartbeats 4000000
open Go.Lib (hid)
namespace Go.Proofs.YtdjhlhellkajfaaGreat.Cch
open Go.RowKit Codec Cod
open Disk (Turn)
def M64:Nat:=18446744073709551616
def R0:Value→Option (DataW Value×List MemPlace):=fun v=>some (.held v,[])
def kyU (s:Nat):Lit:= .int .u64 (s:Int)
theorem kyU_inj{i j:Nat}(h:kyU i=kyU j):i=j:=by
 have h1:((i:Nat):Int)=(j:Nat):=by simpa [kyU] using h
 omega
theorem isKey_kyU(i:Nat):WideAt.IsKeyLit (kyU i):=by first|exact trivial|simp[kyU,WideAt.IsKeyLit]
theorem keyed_u64:Maps.Keyed Tryz.prog 177:=Maps.int_keyed Tryz.underlying177
theorem hkeyU{i:Nat}(hi:i<M64):keyOf Tryz.prog 177 (.int .u64 (i:Int))=some (kyU i):=Maps.keyOf_int_mk Tryz.underlying177 (by
 unfold M64 at hi;simp[Lit.wf,IntKind.min,IntKind.max,IntKind.signed,IntKind.bits];omega)
theorem zero_row(w:World):(zeroValue 186).run Tryz.prog w= .ok (.slice none 0 0) w:=by kernel_rfl
theorem ownsMap_fit{w:World}{b nn:Nat}{D:DataW Value}(h:w.ownsMap Tryz.prog 177 R0 b nn D):w.ownsMap Tryz.prog 177 R0 b (Maps.size D) D:=by
 obtain⟨es,c,h1,h2,h3,h4⟩:=h;refine⟨es,c,h1,h2,?_,h4⟩;rw[h4];simp[Maps.size,length_sorted]
theorem nodup_le:∀(l m:List Nat),l.Nodup→(∀x∈l,x∈m)→l.length≤m.length
 |[],_,_,_=>Nat.zero_le _
 |x::l,m,hn,hm=>by
  obtain⟨h1,h2⟩:=List.nodup_cons.1 hn;have hx:=hm x List.mem_cons_self;have:=nodup_le l (m.erase x) h2 fun y hy=>(List.mem_erase_of_ne (fun e=>h1 (by rw[←e];exact hy))).2 (hm y (List.mem_cons_of_mem _ hy));rw[List.length_erase_of_mem hx] at this;have:=List.length_pos_of_mem hx;simp only[List.length_cons];omega
def KeysOk (D:DataW Value) (N:List Nmb):Prop:=∀kl,Maps.has D kl=true→∃s,s<M64∧kl=kyU s∧bucket N s≠[]
theorem bucket_ne{N:List Nmb}{s:Nat}(h:bucket N s≠[]):s∈N.map fun x=>sumK x.e.k:=by
 obtain⟨x,hx⟩:=List.exists_mem_of_ne_nil _ h;obtain⟨h1,h2⟩:=List.mem_filter.1 hx;exact List.mem_map.2 ⟨x,h1,by simpa using h2⟩
def kyN (l:Lit):Nat:=match l with| .int _ x=>x.toNat|_=>0
theorem keys_size{w:World}{b nn:Nat}{D:DataW Value}{N:List Nmb}(h:w.ownsMap Tryz.prog 177 R0 b nn D)(hk:KeysOk D N):Maps.size D≤N.length:=by
 obtain⟨es0,hD0,hko⟩:=h.keysOf;obtain⟨es,hD,hp⟩:=h.tidy keyed_u64;have hee:es0=es:=by rw[hD0] at hD;injection hD
 subst hee;subst hD0;have hes:∀p∈es0,p.1=kyU (kyN p.1)∧kyN p.1∈N.map fun x=>sumK x.e.k:=fun p hpm=>by
  obtain⟨v,hv⟩:=hko p hpm;obtain⟨x,_,hx,_⟩:=Maps.keyOf_int_inv Tryz.underlying177 hv;obtain⟨s,_,e,hb⟩:=hk p.1 (by
   rw[Maps.has_eq];exact List.any_eq_true.2 ⟨p,hpm,by rw[hx];simp[Lit.sameKey]⟩)
  have e2:kyN p.1=s:=by rw[e];simp[kyN,kyU]
  rw[e2];exact⟨e,bucket_ne hb⟩
 have h1:(es0.map fun p=>kyN p.1).Nodup:=by
  refine List.pairwise_map.2 (hp.imp_of_mem fun {a b} ha hb hne e=>hne ?_);rw[(hes a ha).1,(hes b hb).1,e]
 have h2:=nodup_le _ _ h1 fun x hx=>by
  obtain⟨p,hp,rfl⟩:=List.mem_map.1 hx;exact(hes p hp).2
 simpa [Maps.size] using h2
structure Bx (w:World) (lo b:Nat) (N:List Nmb) (s:Nat) (v:Value) (D:DataW Value) (F:Nat→Value):Prop where
 own:w.ownsMap Tryz.prog 177 R0 b (Maps.size D) D
 keys:KeysOk D N
 no:∀t,t<M64→t≠s→bucket N t=[]→Maps.has D (kyU t)=false
 yes:∀t,t<M64→t≠s→bucket N t≠[]→(∀z,D.atKey (kyU t) z= .held (F t))∧OwnN w lo (F t) (bucket N t)∧(F t).ownBlock≠v.ownBlock
 apart:∀t t',t≠s→t'≠s→t≠t'→bucket N t≠[]→bucket N t'≠[]→(F t).ownBlock≠(F t').ownBlock
def Bk (w:World) (lo b:Nat) (N:List Nmb):Prop:=∃D,∃F:Nat→Value,w.ownsMap Tryz.prog 177 R0 b (Maps.size D) D∧KeysOk D N∧(∀t,t<M64→bucket N t=[]→Maps.has D (kyU t)=false)∧
 (∀t,t<M64→bucket N t≠[]→(∀z,D.atKey (kyU t) z= .held (F t))∧OwnN w lo (F t) (bucket N t))∧(∀t t',t≠t'→bucket N t≠[]→bucket N t'≠[]→(F t).ownBlock≠(F t').ownBlock)
theorem OwnN.lt{w:World}{lo:Nat}{v:Value}{l:List Nmb}(h:OwnN w lo v l):∃g,v.ownBlock=some g∧lo≤g∧g<w.heap.size∧∃C:Array Value,w.heap[g]? =some (.cells C 188 (0,0)):=by
 obtain⟨g,cap,C,rfl,hlo,hh,_⟩:=h;exact⟨g,rfl,hlo,lt_of_heap hh,C,hh⟩
theorem OwnN.ne_map{w:World}{lo b nn:Nat}{v:Value}{l:List Nmb}{D:DataW Value}(h:OwnN w lo v l)(hm:w.ownsMap Tryz.prog 177 R0 b nn D):v.ownBlock≠some b:=by
 obtain⟨g,e,_,_,C,hh⟩:=h.lt;rw[e];rintro e2;injection e2 with e2;subst e2;obtain⟨es,c,h1,_⟩:=hm;rw[hh] at h1;cases h1
theorem Bk.lt{w:World}{lo b:Nat}{N:List Nmb}(h:Bk w lo b N):b<w.heap.size:=by
 obtain⟨D,F,h1,_⟩:=h;exact h1.lt
theorem Bk.look{w:World}{lo b s:Nat}{N:List Nmb}(h:Bk w lo b N)(hs:s<M64):∃v D,∃F:Nat→Value,(∀w':World,w'.heap[b]? =w.heap[b]? →(Instr.lookup 91 (.map (some b)) (.int .u64 (s:Int)) false).run Tryz.prog w'= .ok v w')∧
  ((bucket N s=[]∧v= .slice none 0 0)∨(bucket N s≠[]∧OwnN w lo v (bucket N s)))∧Bx w lo b N s v D F:=by
 obtain⟨D,F,h1,h2,h3,h4,h5⟩:=h;have hlk:∀w':World,w'.heap[b]? =w.heap[b]? →∃v,(Instr.lookup 91 (.map (some b)) (.int .u64 (s:Int)) false).run Tryz.prog w'= .ok v w'∧D.atKey (kyU s) (.held (.slice none 0 0))= .held v:=fun w' hw=>by
  obtain⟨es,c,e1,e2⟩:=h1;obtain⟨v,ps,hrun,hv⟩:=World.ownsMap.lookup (w:=w') (R:=R0) (zd:= .held (.slice none 0 0)) (zp:=[]) ⟨es,c,hw.trans e1,e2⟩ keyed_u64 Tryz.underlying91 (zero_row w') rfl (hkeyU hs);refine⟨v,hrun,?_⟩;unfold R0 at hv;injection hv with hv;injection hv with hv _;exact hv.symm
 obtain⟨v,_,hv⟩:=hlk w rfl;have hall:∀w':World,w'.heap[b]? =w.heap[b]? →(Instr.lookup 91 (.map (some b)) (.int .u64 (s:Int)) false).run Tryz.prog w'= .ok v w':=fun w' hw=>by
  obtain⟨v',hr,hv'⟩:=hlk w' hw;rw[hv] at hv';injection hv' with e;rw[e];exact hr
 by_cases hb:bucket N s=[]
 ·rw[Maps.atKey_of_not_has (h3 s hs hb)] at hv;injection hv with hv;subst hv;exact⟨_,D,F,hall,.inl ⟨hb,rfl⟩,h1,h2,fun t ht _=>h3 t ht,fun t ht hne hbt=>⟨(h4 t ht hbt).1,(h4 t ht hbt).2,by
   obtain⟨g,e,_⟩:=(h4 t ht hbt).2.lt;rw[e];simp[Value.ownBlock]⟩,fun t t' _ _=>h5 t t'⟩
 rw[(h4 s hs hb).1] at hv;injection hv with hv;subst hv;exact⟨_,D,F,hall,.inr ⟨hb,(h4 s hs hb).2⟩,h1,h2,fun t ht _=>h3 t ht,fun t ht hne hbt=>⟨(h4 t ht hbt).1,(h4 t ht hbt).2,h5 t s hne hbt hb⟩,fun t t' _ _=>h5 t t'⟩
section
variable {w w':World} {lo b s:Nat} {N N':List Nmb} {v v':Value} {D:DataW Value} {F:Nat→Value}
theorem Bx.turn{S:List Nat}(h:Bx w lo b N s v D F)(ht:Turn S w w')(hS:∀k∈S,v.ownBlock=some k∨w.heap.size≤k∨(k≠b∧k<lo))(hb:v.ownBlock≠some b):Bx w' lo b N s v D F:=by
 have hbb:b∉S:=fun hm=>by
  rcases hS b hm with e|e|e
  ·exact hb e
  ·have:=h.own.lt;omega
  exact e.1 rfl
 obtain⟨es,c,e1,e2⟩:=h.own;refine⟨⟨es,c,(ht.block b (lt_of_heap e1) hbb).trans e1,e2⟩,h.keys,h.no,fun t htt hne hbt=> ?_,h.apart⟩;obtain⟨h1,h2,h3⟩:=h.yes t htt hne hbt;refine⟨h1,h2.keep fun g hg=> ?_,h3⟩;obtain⟨g',e,hlo,hlt,_⟩:=h2.lt;rw[hg] at e;injection e with e;subst e;refine ht.block g hlt fun hm=> ?_;rcases hS g hm with e|e|e
 ·exact h3 (by rw[hg,e])
 ·omega
 omega
theorem Bx.value(h:Bx w lo b N s v D F)(hv:v'.ownBlock=v.ownBlock∨∀t,t<M64→t≠s→bucket N t≠[]→(F t).ownBlock≠v'.ownBlock):Bx w lo b N s v' D F:=
 ⟨h.own,h.keys,h.no,fun t ht hne hbt=>⟨(h.yes t ht hne hbt).1,(h.yes t ht hne hbt).2.1,by
  rcases hv with e|e
  ·rw[e];exact(h.yes t ht hne hbt).2.2
  ·exact e t ht hne hbt⟩,h.apart⟩
def RowIn (w:World) (b k:Nat):Prop:=∃(nn:Nat) (D:DataW Value) (kl:Lit) (v:Value),w.ownsMap Tryz.prog 177 R0 b nn D∧(∀z,D.atKey kl z= .held v)∧v.ownBlock=some k
theorem own_one{w:World}{b n1 n2:Nat}{D1 D2:DataW Value}(h1:w.ownsMap Tryz.prog 177 R0 b n1 D1)(h2:w.ownsMap Tryz.prog 177 R0 b n2 D2):D1=D2:=by
 obtain⟨es,c,a1,_,_,a4⟩:=h1;obtain⟨es',c',b1,_,_,b4⟩:=h2;rw[a1] at b1;injection b1 with b1;injection b1 with e1 _;rw[a4,b4,e1]
theorem RowIn.back{w w':World}{b k:Nat}(hb:w'.heap[b]? =w.heap[b]?)(h:RowIn w' b k):RowIn w b k:=by
 obtain⟨nn,D,kl,v,⟨es,c,h1,h2⟩,h3⟩:=h;exact⟨nn,D,kl,v,⟨es,c,hb.symm.trans h1,h2⟩,h3⟩
theorem Bk.look_row{w:World}{lo b s k:Nat}{N:List Nmb}{v:Value}(h:Bk w lo b N)(hs:s<M64)(hl:(Instr.lookup 91 (.map (some b)) (.int .u64 (s:Int)) false).run Tryz.prog w= .ok v w)(hk:v.ownBlock=some k):RowIn w b k:=by
 obtain⟨D,F,h1,h2,h3,h4,h5⟩:=h;obtain⟨v2,ps,hrun,hv⟩:=World.ownsMap.lookup (w:=w) (R:=R0) (zd:= .held (.slice none 0 0)) (zp:=[]) h1 keyed_u64 Tryz.underlying91 (zero_row w) rfl (hkeyU hs);rw[hl] at hrun;injection hrun with e _;subst e;have hv2:D.atKey (kyU s) (.held (.slice none 0 0))= .held v:=by
  unfold R0 at hv;injection hv with hv;injection hv with hv _;exact hv.symm
 by_cases hb:bucket N s=[]
 ·rw[Maps.atKey_of_not_has (h3 s hs hb)] at hv2;injection hv2 with e;rw[←e] at hk;cases hk
 have h6:=(h4 s hs hb).1;rw[h6] at hv2;injection hv2 with e;exact⟨_,D,kyU s,v,h1,fun z=>by rw[h6 z,e],hk⟩
theorem turned_turn(h:w.mapTurned w' b):Turn [b] w w':=(Turn.refl [b] w).grown h.grown (fun k hk=>by cases hk;exact .inl (by simp))
theorem Bx.after{D':DataW Value}{F':Nat→Value}(h:Bx w lo b N s v D F)(ht:Turn [b] w w')(hm:w'.ownsMap Tryz.prog 177 R0 b (Maps.size D') D')(hN:∀t,t≠s→bucket N' t=bucket N t)(hF:∀t,t≠s→F' t=F t)(hD1:∀t,t≠s→Maps.has D' (kyU t)=Maps.has D (kyU t))(hD2:∀t z,t≠s→D'.atKey (kyU t) z=D.atKey (kyU t) z)
  (hk:KeysOk D' N') (h0:bucket N' s=[]→Maps.has D' (kyU s)=false) (h1:bucket N' s≠[]→(∀z,D'.atKey (kyU s) z= .held (F' s))∧OwnN w' lo (F' s) (bucket N' s)∧(F' s).ownBlock=v.ownBlock):Bk w' lo b N':=by
 have hrow:∀t,t<M64→t≠s→bucket N t≠[]→OwnN w' lo (F t) (bucket N t):=fun t htt hne hbt=>(h.yes t htt hne hbt).2.1.keep fun g hg=>by
  obtain⟨g',e,_,hlt,_⟩:=(h.yes t htt hne hbt).2.1.lt;rw[hg] at e;injection e with e;subst e;refine ht.block g hlt fun hm=> ?_;simp at hm;exact(h.yes t htt hne hbt).2.1.ne_map h.own (by rw[hg,hm])
 refine⟨D',F',hm,hk,fun t htt hbt=> ?_,fun t htt hbt=> ?_,fun t t' hne hbt hbt'=> ?_⟩
 ·by_cases e:t=s
  ·subst e;exact h0 hbt
  rw[hD1 t e];exact h.no t htt e (by rw[←hN t e];exact hbt)
 ·by_cases e:t=s
  ·subst e;exact⟨(h1 hbt).1,(h1 hbt).2.1⟩
  rw[hN t e] at hbt;rw[hN t e,hF t e];exact⟨fun z=>by rw[hD2 t z e];exact(h.yes t htt e hbt).1 z,hrow t htt e hbt⟩
 have hlt:∀t,bucket N' t≠[]→t<M64:=fun t hb=>by
  obtain⟨x,_,e⟩:=List.mem_map.1 (bucket_ne hb);rw[←e];exact sumK_lt _
 by_cases e:t=s
 ·have e':t'≠s:=fun e2=>hne (e.trans e2.symm);rw[e,(h1 (by rw[←e];exact hbt)).2.2,hF t' e'];rw[hN t' e'] at hbt';exact(h.yes t' (by rw[←hN t' e'] at hbt';exact hlt t' hbt') e' hbt').2.2.symm
 by_cases e':t'=s
 ·rw[e',(h1 (by rw[←e'];exact hbt')).2.2,hF t e];rw[hN t e] at hbt;exact(h.yes t (by rw[←hN t e] at hbt;exact hlt t hbt) e hbt).2.2
 rw[hF t e,hF t' e'];rw[hN t e] at hbt;rw[hN t' e'] at hbt';exact h.apart t t' e e' hne hbt hbt'
theorem Bx.store(h:Bx w lo b N s v D F)(hs:s<M64)(hN:∀t,t≠s→bucket N' t=bucket N t)(hne:bucket N' s≠[])(ho:OwnN w lo v (bucket N' s))(hbig:N.length<10000000):
  ∃w2,(Instr.mapUpdate 91 (.map (some b)) (.int .u64 (s:Int)) v).run Tryz.prog w= .ok () w2∧Bk w2 lo b N'∧Turn [b] w w2∧∀k,RowIn w2 b k→v.ownBlock=some k∨RowIn w b k:=by
 obtain⟨w2,hrun,hm,hturn⟩:=h.own.store keyed_u64 Tryz.underlying91 (by have:=keys_size h.own h.keys;unfold maxLen;omega) (hkeyU hs) (val:=v) (d:= .held v) (ps:=[]) rfl;have ht:=turned_turn hturn;refine⟨w2,hrun,h.after (F':=fun t=>if t=s then v else F t) ht (ownsMap_fit hm) hN (fun t e=>if_neg e) (fun t e=>Maps.has_put_other (fun e2=>e (kyU_inj e2)) _) (fun t z e=>Maps.atKey_put_other (fun e2=>e (kyU_inj e2)) _ z) (fun kl hk=> ?_) (fun e=>absurd e hne) (fun _=>⟨fun z=> ?_,?_,?_⟩),ht,fun k hk=> ?_⟩
 ·by_cases e:kl=kyU s
  ·exact⟨s,hs,e,hne⟩
  rw[Maps.has_put_other e] at hk;obtain⟨t,ht,e2,hb⟩:=h.keys kl hk;have e3:t≠s:=fun e3=>e (by rw[e2,e3]);exact⟨t,ht,e2,by rw[hN t e3];exact hb⟩
 ·rw[if_pos rfl];exact Maps.atKey_put_same h.own.isMap (isKey_kyU s) _ z
 ·rw[if_pos rfl];exact ho.keep fun g hg=>ht.block g (by obtain⟨g',e,_,hlt,_⟩:=ho.lt;rw[hg] at e;injection e with e;omega) (fun hm=>ho.ne_map h.own (by rw[hg];simp at hm;rw[hm]))
 ·rw[if_pos rfl]
 obtain⟨nn,D2,kl,u,h1,h2,h3⟩:=hk;rw[own_one h1 hm] at h2;by_cases e:kl=kyU s
 ·subst e;have h4:=h2 (.map []);rw[Maps.atKey_put_same h.own.isMap (isKey_kyU s)] at h4;injection h4 with h4;exact .inl (by rw[h4];exact h3)
 exact .inr ⟨_,D,kl,u,h.own,fun z=>by rw[←Maps.atKey_put_other e (.held v) z];exact h2 z,h3⟩
theorem Bx.drop(h:Bx w lo b N s v D F)(hs:s<M64)(hN:∀t,t≠s→bucket N' t=bucket N t)(he:bucket N' s=[])(ty:TypeId):
  ∃w2,(Builtin.delete_ #[91,177] ty #[.map (some b),.int .u64 (s:Int)]).run Tryz.prog w= .ok (.tuple #[]) w2∧Bk w2 lo b N'∧Turn [b] w w2∧∀k,RowIn w2 b k→RowIn w b k:=by
 obtain⟨w2,hrun,hm,hturn⟩:=h.own.drop keyed_u64 Tryz.underlying91 (hkeyU hs) ty;have ht:=turned_turn hturn;refine⟨w2,hrun,h.after (F':=F) ht (ownsMap_fit hm) hN (fun _ _=>rfl) (fun t e=>Maps.has_del_other (fun e2=>e (kyU_inj e2))) (fun t z e=>Maps.atKey_del_other (fun e2=>e (kyU_inj e2)) z) (fun kl hk=> ?_) (fun _=>Maps.has_del_same) (fun e=>absurd he e),ht,fun k hk=> ?_⟩;rotate_left
 ·obtain⟨nn,D2,kl,u,h1,h2,h3⟩:=hk;rw[own_one h1 hm] at h2;by_cases e:kl=kyU s
  ·subst e;have h4:=h2 (.map []);have h5:(D.del (kyU s)).atKey (kyU s) (.map [])= .map []:=Maps.atKey_del_same _;rw[h5] at h4;cases h4
  exact⟨_,D,kl,u,h.own,fun z=>by rw[←Maps.atKey_del_other e z];exact h2 z,h3⟩
 by_cases e:kl=kyU s
 ·rw[e,Maps.has_del_same] at hk;cases hk
 rw[Maps.has_del_other e] at hk;obtain⟨t,ht,e2,hb⟩:=h.keys kl hk;have e3:t≠s:=fun e3=>e (by rw[e2,e3]);exact⟨t,ht,e2,by rw[hN t e3];exact hb⟩
end
end Go.Proofs.YtdjhlhellkajfaaGreat.Cch
namespace Go.Proofs.YtdjhlhellkajfaaGreat.Cch
open Go.RowKit Codec Cod
open Disk (Turn)
theorem fnv_byts(w:World)(B n c:Nat)(A:Option Addr)(xs:List UInt8)(h:Byts w B A n xs)(hn:n≤1000000000):Calls Tryz.prog 145 #[.slice A n c] w (fun e w'=>e= .returned (.int .u64 (Sums.fnv (xs.map UInt8.toNat)))∧w=w'):=by
 rcases Nat.eq_zero_or_pos n with h0|h0
 ·subst h0;obtain rfl:xs=[]:=List.eq_nil_of_length_eq_zero h.len;exact Sum.fnv_none c A w
 obtain⟨b,off,rfl,_,hc⟩:=h.at_ h0;exact Sum.fnv_some b off n c (FrameM.nats xs) w (Frm.row_of_byts h.len hc) (by omega)
theorem sumof_any(w:World)(key:ByteArray)(h:key.size≤1000000000):Calls Tryz.prog 120 #[.string key] w (EndsBelow (.int .u64 (sumK key)) w):=by
 have hcv:=fun w=>run_bytes_of_string (P:=Tryz.prog) w 9 39 5 key Tryz.underlying9 Tryz.underlying39 Tryz.underlying5;have HF:=hid (fun cap c=>fnv_byts (w.drew.alloc (.cells (bytesRow key cap) 5 ((bytesRow key cap).size,(bytesRow key cap).size+1))) (w.heap.size+1) key.size c _ _ (byts_string w key cap) h);have HS:Hid (Sums.fnv ((bytesOf key).map UInt8.toNat)=sumK key):=hid rfl;rw[HS.out] at HF;clear HS;generalize sumK key=z at *;go_enter Tryz.func120,Tryz.ntmps120;go_wp2_with fail;refine(HF.out _ _).mono ?_;rintro e w1 ⟨rfl,rfl⟩;go_wp2_with fail;go_ret;exact⟨rfl,(Below.refl w.heap.size w).drew.alloc (Nat.le_refl _) _⟩
structure Shf (w:World) (p o lo b:Nat) (N:List Nmb) (last:Nat):Prop where
 c0:w.cell? ⟨p,o,none⟩=some (.map (some b))
 c1:w.cell? ⟨p,o+1,none⟩=some (.int .i64 (last:Int))
 fr:w.frozen? ⟨p,o+1,none⟩=false
 bk:Bk w lo b N
 nice:Nice N last
 pb:p≠b
 pl:p<lo
 bl:b<lo
def fndB (N:List Nmb) (key:ByteArray):Bool:=(findN N key).isSome
def fndE (N:List Nmb) (key:ByteArray):Ent:=match findN N key with|some x=>x.e|none=>⟨baOf [],baOf []⟩
theorem fnd_bucket(N:List Nmb)(key:ByteArray):fndB (bucket N (sumK key)) key=fndB N key∧fndE (bucket N (sumK key)) key=fndE N key:=by
 unfold fndB fndE;rw[find_bucket];exact⟨rfl,rfl⟩
theorem fnd_at{l:List Nmb}{key:ByteArray}{k:Nat}(h:k<l.length)(hk:l[k].e.k=key)(hq:∀j (h:j<l.length),j<k→l[j].e.k≠key):fndB l key=true∧fndE l key=l[k].e:=by
 have e:findN l key=some l[k]:=by
  unfold findN;rw[List.find?_eq_some_iff_getElem];exact⟨by simpa using hk,k,h,rfl,fun j hj=>by simpa using hq j (by omega) hj⟩
 unfold fndB fndE;rw[e];exact⟨rfl,rfl⟩
theorem fnd_no{l:List Nmb}{key:ByteArray}(hq:∀j (h:j<l.length),l[j].e.k≠key):fndB l key=false∧fndE l key=⟨baOf [],baOf []⟩:=by
 have e:findN l key=none:=by
  unfold findN;rw[List.find?_eq_none];intro x hx;obtain⟨j,hj,rfl⟩:=List.getElem_of_mem hx;simpa using hq j hj
 unfold fndB fndE;rw[e];exact⟨rfl,rfl⟩
theorem find_any(w:World)(p o lo b last:Nat)(N:List Nmb)(key:ByteArray)(h:Shf w p o lo b N last)(hN:N.length≤1000000)(hk:key.size≤1000000000):
  Calls Tryz.prog 88 #[.pointer (some ⟨p,o,none⟩),.string key] w (EndsBelow (.tuple #[entV (fndE N key),.bool (fndB N key)]) w):=by
 obtain⟨v,D,Fv,hlk,hv,_⟩:=h.bk.look (sumK_lt key);obtain⟨hf1,hf2⟩:=fnd_bucket N key;have hbl:(bucket N (sumK key)).length≤1000000:=Nat.le_trans (List.length_filter_le _ _) hN;rw[←hf1,←hf2];have HC0:Hid (∀u:World,Below w.heap.size w u→u.cell? ⟨p,o,none⟩=some (.map (some b))):=hid (fun u hu=>(World.cell?_of_block (w:=w) (hu.block p (Jou.cell_low h.c0))).trans h.c0);have HBLT:=hid h.bk.lt;generalize bucket N (sumK key)=l at *;obtain⟨A,c,n,hve,hns⟩:∃A c n,v= .slice A n c∧Ns w A n l:=by
  rcases hv with⟨e,e2⟩|⟨_,ho⟩
  ·exact⟨none,0,0,e2,by rw[e];exact⟨rfl,fun h=>absurd h (by omega)⟩⟩
  obtain⟨A,c,e,hn⟩:=ho.ns;exact⟨A,c,l.length,e,hn⟩
 subst hve;have HNS:=hid hns;have HLK:=hid hlk;have HKS:=hid hk;have hn1:(n:Int)≤1000000:=by have:=hns.1;omega
 clear h hf1 hf2 hN hk hlk hv hns hbl;unfold entV;go_enter Tryz.func88,Tryz.ntmps88;go_upto_region 1 with fail;have HS:Hid ((w.alloc (.cells #[.string ⟨#[]⟩,.string ⟨#[]⟩] 62 (0,0))).drew.cell? ⟨p,o,none⟩=some (.map (some b))∧(w.alloc (.cells #[.string ⟨#[]⟩,.string ⟨#[]⟩] 62 (0,0))).drew.heap[b]? =w.heap[b]?):=hid ⟨HC0.out _ (Frm.alloc_below w _).drew,(Frm.alloc_below w _).block b HBLT.out⟩;have HB:=hid (Frm.alloc_below w (.cells #[.string ⟨#[]⟩,.string ⟨#[]⟩] 62 (0,0))).drew;have HX:Hid ((w.alloc (.cells #[.string ⟨#[]⟩,.string ⟨#[]⟩] 62 (0,0))).drew.heap[w.heap.size]? =some (.cells #[.string ⟨#[]⟩,.string ⟨#[]⟩] 62 (0,0))):=hid (heap_alloc_new w (.cells #[.string ⟨#[]⟩,.string ⟨#[]⟩] 62 (0,0)));refine Frm.wh_start (fun u=>u.cell? ⟨p,o,none⟩=some (.map (some b))∧u.heap[b]? =w.heap[b]?) (by kernel_rfl) ?_;generalize (w.alloc (.cells #[.string ⟨#[]⟩,.string ⟨#[]⟩] 62 (0,0))).drew=u0 at *;have HSM:=hid (sumof_any u0 key HKS.out);refine Frm.wa 0 8 (.pointer (some ⟨p,o,none⟩)) HS.out ?_;go_frame;refine Frm.wb 1 9 (.pointer (some ⟨p,o,none⟩)) HS.out ?_;go_frame;refine Frm.wb 2 10 (.pointer (some ⟨p,o,none⟩)) HS.out ?_;go_frame;refine Frm.wd 3 11 (.map (some b)) HS.out (fun w' hw'=> ?_) ?_
 ·have h1:=hw'.1;go_simp
 go_frame;refine Frm.wa 4 12 (.string key) HS.out ?_;go_frame;refine Frm.wa 8 16 (.int .i64 0) HS.out ?_;go_frame;refine Frm.wh_call 5 13 120 #[.string key] rfl rfl (by kernel_rfl) rfl ?_ ?_
 ·go_simp
 refine(HSM.out).mono ?_;rintro e w1 ⟨rfl,hb1⟩;have HB1:=hid (HB.out.trans (hb1.mono HB.out.size));have HX1:=hid ((hb1.block _ (lt_of_heap HX.out)).trans HX.out);have HS1:Hid (w1.cell? ⟨p,o,none⟩=some (.map (some b))∧w1.heap[b]? =w.heap[b]?):=hid ⟨HC0.out w1 HB1.out,HB1.out.block b HBLT.out⟩;clear HS HB HX hb1 HSM;have HS:=HS1;have HB:=HB1;have HX:=HX1;clear HS1 HB1 HX1;refine⟨_,rfl,HS.out,?_⟩;go_frame;refine Frm.wd 6 14 (.slice A n c) HS.out (fun w' hw'=> ?_) ?_
 ·have hl:=HLK.out w' hw'.2;go_simp
 go_frame;refine Frm.wb 7 15 (.int .i64 n) HS.out ?_;go_frame;refine wpAnyH_done (by kernel_rfl) ?_ _;clear HS HC0 HLK HKS;go_wp2_with fail;go_loopw [16] (fun i wr=>∃k:Nat,k≤n∧i= .int .i64 k∧Below w.heap.size w wr∧wr.heap[w.heap.size]? =some (.cells #[.string ⟨#[]⟩,.string ⟨#[]⟩] 62 (0,0))∧∀j (h:j<l.length),j<k→l[j].e.k≠key) (fun i _=>n-(Go.RowKit.intOf i).toNat)
 case atStart=>exact⟨0,Nat.zero_le _,rfl,HB.out,HX.out,fun j _ h=>absurd h (by omega)⟩
 case round=>
  obtain⟨k,hk,rfl,hb,hx,hq⟩:=hrel;clear HB HX;have HB:=hid hb;have HX:=hid hx;have HQ:=hid hq;clear hb hx hq;by_cases hlt:k<n
  ·have hkl:k<l.length:=by rw[HNS.out.1];exact hlt
   obtain⟨g,off,hA,_,hcs⟩:=(HNS.out.below HB.out).2 (by omega);obtain⟨c0,c1,c2⟩:=hcs k hkl;have hidx:∀u:World,(Instr.indexAt 186 (.slice A n c) (.int .i64 k)).run Tryz.prog u= .ok (.pointer (some ⟨g,off+k * 3,none⟩)) u:=fun u=>by
    have hs:(Go.sizeOf 188).run Tryz.prog u= .ok 3 u:=by kernel_rfl
    rw[hA];simp[Instr.indexAt,asIntOf,run_underlying Tryz.underlying186,Result.andThen,Addr.add_mid,hs];intro h1;omega
   have HAT:=hid (fun hk=>fnd_at (key:=key) hkl hk (fun j hj h2=>HQ.out j hj h2));have HLK2:Hid (¬l[k].e.k=key→∀j (h:j<l.length),j<k+1→l[j].e.k≠key):=hid (fun h j hj h2=>by
    by_cases e:j=k
    ·subst e;exact h
    ·exact HQ.out j hj (by omega))
   have HX0:=HX.out;clear hcs hA HQ;generalize l[k]=x at *;clear hkl;obtain⟨⟨xk,xv⟩,xn⟩:=x;dsimp only at *;have HBA:=hid (Frm.alloc_below wr (.cells #[.string xk,.string xv,.int .i64 (xn:Int)] 188));by_cases e:xk=key
   ·have HA2:=hid (HAT.out e);have hzz:=(HBA.out.block _ (lt_of_heap HX.out)).trans HX0;have z0:=cell_at hzz 0;have z1:=cell_at hzz 1;have f0:=free_at hzz 0;have f1:=free_at hzz 1;have HZZ:=hid hzz;have HB2:=hid (HB.out.trans (HBA.out.mono HB.out.size));clear HAT HLK2 HX0 hzz;subst e;go_wp2_with fail;have hx2:=set_at (set_at HZZ.out 0 (.string xk)) 1 (.string xv);have y0:=cell_at hx2 0;have y1:=cell_at hx2 1;exact bodyPost_ret (v:= .tuple #[.agg #[.string xk,.string xv],.bool true]) (by simp[results,Tryz.results88,go_sem,y0,y1]) rfl ⟨by rw[HA2.out.1,HA2.out.2],(HB2.out.setCell (Nat.le_refl _) _).setCell (Nat.le_refl _) _⟩
   have hbn:=ba_ne e;have HN2:=hid (HLK2.out e);have HB2:=hid (HB.out.trans (HBA.out.mono HB.out.size));have HX2:=hid ((HBA.out.block _ (lt_of_heap HX.out)).trans HX.out);clear HAT HLK2 HX0;go_wp2_with fail;go_roundw
   case rel=>exact⟨k+1,by omega,by go_num,HB2.out,HX2.out,HN2.out⟩
   case measure=>simp[Go.RowKit.intOf];omega
  obtain rfl:k=n:=by omega
  obtain⟨e1,e2⟩:=fnd_no (key:=key) (l:=l) (fun j hj=>HQ.out j hj (by rw[←HNS.out.1];exact hj));have HE:=hid (And.intro e1 e2);have hzz:=HX.out;have HZZ:=hid hzz;have z0:=cell_at hzz 0;have z1:=cell_at hzz 1;have f0:=free_at hzz 0;have f1:=free_at hzz 1;clear e1 e2 hzz;go_wp2_with fail;have hx2:=set_at (set_at HZZ.out 0 (.string ⟨#[]⟩)) 1 (.string ⟨#[]⟩);have y0:=cell_at hx2 0;have y1:=cell_at hx2 1;exact bodyPost_ret (v:= .tuple #[.agg #[.string ⟨#[]⟩,.string ⟨#[]⟩],.bool false]) (by simp[results,Tryz.results88,go_sem,y0,y1]) rfl ⟨by rw[HE.out.1,HE.out.2];rfl,(HB.out.setCell (Nat.le_refl _) _).setCell (Nat.le_refl _) _⟩
end Go.Proofs.YtdjhlhellkajfaaGreat.Cch
namespace Go.Proofs.YtdjhlhellkajfaaGreat.Cch
open Go.RowKit Codec Cod
open Disk (Turn)
def IsRow (w:World) (k:Nat):Prop:=∃C:Array Value,w.heap[k]? =some (.cells C 188 (0,0))
def ShT (p lo b:Nat) (w w':World):Prop:=(∃S,Turn S w w'∧∀k∈S,k=p∨k=b∨(lo≤k∧IsRow w k∧RowIn w b k))∧(b<w.heap.size→∀k,RowIn w' b k→RowIn w b k∨w.heap.size≤k)
theorem ShT.of_turn{p lo b:Nat}{S:List Nat}{w w':World}(h:Turn S w w')(hS:∀k∈S,k=p∨k=b∨(lo≤k∧IsRow w k∧RowIn w b k))(hR:b<w.heap.size→∀k,RowIn w' b k→RowIn w b k∨w.heap.size≤k):ShT p lo b w w':=⟨⟨S,h,hS⟩,hR⟩
theorem ShT.of_below{p lo b:Nat}{w w':World}(h:Below w.heap.size w w'):ShT p lo b w w':=⟨⟨[],Turn.ofBelow h,by simp⟩,fun hb _ hk=> .inl (hk.back (h.block b hb))⟩
theorem ShT.trans{p lo b:Nat}{w w1 w2:World}(h:ShT p lo b w w1)(h2:ShT p lo b w1 w2)(hb:b<w.heap.size):ShT p lo b w w2:=by
 obtain⟨⟨S,ht,hS⟩,hR⟩:=h;obtain⟨⟨S2,ht2,hS2⟩,hR2⟩:=h2;refine⟨⟨S++S2.filter (fun k=>decide (k<w.heap.size)),(ht.more (S':=S++S2.filter (fun k=>decide (k<w.heap.size))) (fun k hk=>List.mem_append_left _ hk)).then_ ht2 (fun k hk=> ?_),fun k hk=> ?_⟩,fun _ k hk=> ?_⟩
 ·by_cases e:k<w.heap.size
  ·exact .inl (List.mem_append_right _ (List.mem_filter.2 ⟨hk,by simpa using e⟩))
  exact .inr (by omega)
 ·rcases List.mem_append.1 hk with hk|hk
  ·exact hS k hk
  obtain⟨hk,hlt⟩:=List.mem_filter.1 hk;have hlt:k<w.heap.size:=by simpa using hlt
  by_cases hm:k∈S
  ·exact hS k hm
  rcases hS2 k hk with e|e|⟨e,⟨C,hC⟩,hin⟩
  ·exact .inl e
  ·exact .inr (.inl e)
  exact .inr (.inr ⟨e,⟨C,(ht.block k hlt hm).symm.trans hC⟩,(hR hb k hin).resolve_right (by omega)⟩)
 rcases hR2 (Nat.lt_of_lt_of_le hb ht.size) k hk with e|e
 ·exact hR hb k e
 exact .inr (Nat.le_trans ht.size e)
theorem bucket_cut(N:List Nmb)(key:ByteArray):bucket (cut N key) (sumK key)=cut (bucket N (sumK key)) key:=bucket_cut_same N key
theorem Shf.lt{w:World}{p o lo b last:Nat}{N:List Nmb}(h:Shf w p o lo b N last):p<w.heap.size:=Jou.cell_low h.c0
theorem Shf.same_p{w w':World}{p o lo b last:Nat}{N:List Nmb}{S:List Nat}(h:Shf w p o lo b N last)(ht:Turn S w w')(hS:∀k∈S,k=b∨lo≤k):w'.heap[p]? =w.heap[p]? :=
 ht.block p h.lt fun hm=>by
  rcases hS p hm with e|e
  ·exact h.pb e
  have:=h.pl;omega
theorem Shf.with_{w w':World}{p o lo b last:Nat}{N N':List Nmb}{S:List Nat}(h:Shf w p o lo b N last)(ht:Turn S w w')(hS:∀k∈S,k=b∨lo≤k)(hb:Bk w' lo b N')(hn:Nice N' last):Shf w' p o lo b N' last:=by
 have hp:=h.same_p ht hS;exact⟨(World.cell?_of_block (w:=w) hp).trans h.c0,(World.cell?_of_block (w:=w) hp).trans h.c1,(Disk.frozen_keep (w:=w) hp).trans h.fr,hb,hn,h.pb,h.pl,h.bl⟩
def Took (w:World) (p o lo b last:Nat) (N':List Nmb) (e:Ending) (w':World):Prop:=e= .returned (.tuple #[])∧Shf w' p o lo b N' last∧ShT p lo b w w'∧w'.heap[p]? =w.heap[p]?
theorem take_any(w:World)(p o lo b last:Nat)(N:List Nmb)(key:ByteArray)(h:Shf w p o lo b N last)(hN:N.length≤1000000)(hk:key.size≤1000000000)(hlw:lo≤w.heap.size):
  Calls Tryz.prog 119 #[.pointer (some ⟨p,o,none⟩),.string key] w (Took w p o lo b last (cut N key)):=by
 obtain⟨v,D,Fv,hlk,hv,hbx⟩:=h.bk.look (sumK_lt key);have hbl:(bucket N (sumK key)).length≤1000000:=Nat.le_trans (List.length_filter_le _ _) hN;have HH:=hid h;have HC0:Hid (∀u:World,u.heap[p]? =w.heap[p]? →u.cell? ⟨p,o,none⟩=some (.map (some b))):=hid (fun u hu=>(World.cell?_of_block (w:=w) hu).trans h.c0);have HBLT:=hid (And.intro h.bk.lt h.lt);have HNC:Hid (∀t,t≠sumK key→bucket (cut N key) t=bucket N t):=hid (fun t ht=>bucket_cut_other N key ht);have HBC:=hid (bucket_cut N key);have HLK:=hid hlk;have HBX:=hid hbx;have HSM:=hid (sumof_any (w.alloc (.cells #[.string key] 9)) key hk);have HSL:=hid (sumK_lt key);have HNB:Hid (N.length<10000000):=hid (by omega);have HLW:=hid hlw;generalize hsk:sumK key=s at *;have hkb:=heap_alloc_new w (.cells #[.string key] 9);have HKB:=hid hkb;have c0:=cell_at hkb 0;clear h hlk hbx hN hk hkb hlw;go_enter Tryz.func119,Tryz.ntmps119;go_wp2_with fail;refine HSM.out.mono ?_;rintro e w1 ⟨rfl,hb1⟩;have HB1:Hid (Below w.heap.size w w1):=hid ((Frm.alloc_below w _).trans (hb1.mono (by simp)));have hl1:=HLK.out w1 (HB1.out.block b HBLT.out.1);have c1:=HC0.out w1 (HB1.out.block p HBLT.out.2);have hk1:w1.cell? ⟨w.heap.size,0,none⟩=some (.string key):=(World.cell?_of_block (w:=w.alloc (.cells #[.string key] 9)) (hb1.block w.heap.size (by simp))).trans c0;have HK1:=hid hk1;clear hb1 c0 HSM hk1 HKB;rcases hv with⟨hb0,rfl⟩|⟨hb0,ho⟩
 ·have HD:=hid (del_nil w1 w.heap.size key HK1.out);have hE:bucket (cut N key) s=[]:=by rw[HBC.out,hb0];rfl
  go_wp2_with fail;refine HD.out.mono ?_;rintro e w2 ⟨rfl,hb2⟩;have HB2:Hid (Below w.heap.size w w2):=hid (HB1.out.trans (hb2.mono HB1.out.size));obtain⟨w3,hrun,hbk,ht3,hrw3⟩:=(HBX.out.turn (S:=[]) (Turn.ofBelow HB2.out) (by simp) (by simp[Value.ownBlock])).drop HSL.out HNC.out hE 0;have hrun2:∀ty,(Builtin.delete_ #[91,177] ty #[.map (some b),.int .u64 (s:Int)]).run Tryz.prog w2= .ok (.tuple #[]) w3:=fun _=>hrun;have c2:=HC0.out w2 (HB2.out.block p HBLT.out.2);have HT3:Hid (Turn [b] w w3):=hid ((Turn.ofBelow HB2.out).trans ht3);have HR:Hid (Shf w3 p o lo b (cut N key) last∧ShT p lo b w w3∧w3.heap[p]? =w.heap[p]?):=hid ⟨HH.out.with_ HT3.out (fun k hk=> .inl (by simpa using hk)) hbk (nice_cut HH.out.nice key),ShT.of_turn HT3.out (fun k hk=> .inr (.inl (by simpa using hk))) (fun _ k hk=> .inl ((hrw3 k hk).back (HB2.out.block b HBLT.out.1))),HH.out.same_p HT3.out (fun k hk=> .inl (by simpa using hk))⟩;clear hb2 hrun hbk ht3 hrw3 hE hb0 c1 hl1 HD;go_wp2_with fail;go_end0;exact⟨rfl,HR.out⟩
 have HOV:=hid ho;obtain⟨g0,hg0,hlo0,hlt0,C0,hC0⟩:=ho.lt;have HG:=hid (And.intro hg0 (And.intro hlo0 (And.intro hlt0 (And.intro (⟨C0,hC0⟩:IsRow w g0) (HH.out.bk.look_row HSL.out (HLK.out w rfl) hg0)))));have HD:=hid (del_any w1 lo w.heap.size v (bucket N s) key (ho.keep (fun g hg=>HB1.out.block g (by rw[hg0] at hg;injection hg with hg;omega))) hbl HK1.out (by rw[hg0];intro e;injection e with e;omega));rw[←HBC.out] at HD;obtain⟨l',hl'⟩:∃l',bucket (cut N key) s=l':=⟨_,rfl⟩
 rw[hl'] at HD;have HL':=hid hl';clear ho hg0 hlo0 hlt0 hC0 hl';go_wp2_with fail;refine HD.out.mono ?_;rintro e w2 ⟨v',rfl,ho2,hvb,ht2⟩;have HTV:Hid (Turn v.ownBlock.toList w w2):=hid ((Turn.ofBelow HB1.out).trans ht2);have HX2:=hid ((HBX.out.turn (S:=v.ownBlock.toList) HTV.out (fun k hk=> .inl (by simpa using hk)) (HOV.out.ne_map HBX.out.own)).value (.inl hvb));have HO2:=hid ho2;have hpp:w2.heap[p]? =w.heap[p]? :=HTV.out.block p HBLT.out.2 (fun hm=>by have h1:=HG.out.1;have h2:=HG.out.2.1;have h3:=HH.out.pl;simp[h1] at hm;omega);have c2:=HC0.out w2 hpp;obtain⟨g,cap,C,hv',_⟩:=ho2;have HRR:Hid (∀w3:World,Bk w3 lo b (cut N key)→Turn [b] w2 w3→(∀k,RowIn w3 b k→v.ownBlock=some k∨RowIn w2 b k)→Shf w3 p o lo b (cut N key) last∧ShT p lo b w w3∧w3.heap[p]? =w.heap[p]?):=hid (fun w3 hbk ht3 hrw3=>by
  have ht:Turn (b::v.ownBlock.toList) w w3:=(HTV.out.more (fun k hk=>List.mem_cons_of_mem _ hk)).trans (ht3.more (by simp));have hS:∀k∈b::v.ownBlock.toList,k=b∨(lo≤k∧IsRow w k∧RowIn w b k):=fun k hk=>by
   rcases List.mem_cons.1 hk with e|e
   ·exact .inl e
   rw[HG.out.1] at e;have e:k=g0:=by simpa using e
   subst e;exact .inr ⟨HG.out.2.1,HG.out.2.2.2.1,HG.out.2.2.2.2⟩
  exact⟨HH.out.with_ ht (fun k hk=>(hS k hk).imp id And.left) hbk (nice_cut HH.out.nice key),ShT.of_turn ht (fun k hk=> .inr (hS k hk)) (fun _ k hk=> .inl (by
   rcases hrw3 k hk with e|e
   ·have h1:=HG.out.1;rw[e] at h1;injection h1 with h1;rw[h1];exact HG.out.2.2.2.2
   ·exact e.back (HTV.out.block b HBLT.out.1 (fun hm=>HOV.out.ne_map HBX.out.own (by simpa using hm))))),HH.out.same_p ht (fun k hk=>(hS k hk).imp id And.left)⟩)
 by_cases h0:l'.length=0
 ·have hE:bucket (cut N key) s=[]:=by rw[HL'.out];exact List.eq_nil_of_length_eq_zero h0
  obtain⟨w3,hrun,hbk,ht3,hrw3⟩:=HX2.out.drop HSL.out HNC.out hE 0;have hrun2:∀ty,(Builtin.delete_ #[91,177] ty #[.map (some b),.int .u64 (s:Int)]).run Tryz.prog w2= .ok (.tuple #[]) w3:=fun _=>hrun;have HR:=hid (HRR.out w3 hbk ht3 (fun k hk=> .inr (hrw3 k hk)));have h0i:(l'.length:Int)=0:=by omega
  subst hv';clear hrun hbk ht3 hrw3 hE hb0 c1 hl1 HD ht2 hvb h0 HRR hpp;go_wp2_with fail;go_end0;exact⟨rfl,HR.out⟩
 have hE:bucket (cut N key) s≠[]:=by rw[HL'.out];intro e;rw[e] at h0;exact h0 rfl
 obtain⟨w3,hrun,hbk,ht3,hrw3⟩:=HX2.out.store HSL.out HNC.out hE (by rw[HL'.out];exact HO2.out) HNB.out;have HR:=hid (HRR.out w3 hbk ht3 (fun k hk=>(hrw3 k hk).imp (fun e=>by rw[←hvb];exact e) id));have h0i:((l'.length:Int)==0)=false:=by
  rw[beq_eq_false_iff_ne];omega
 subst hv';clear hbk ht3 hrw3 hE hb0 c1 hl1 HD ht2 hvb h0 HRR hpp;go_wp2_with fail;go_end0;exact⟨rfl,HR.out⟩
end Go.Proofs.YtdjhlhellkajfaaGreat.Cch
namespace Go.Proofs.YtdjhlhellkajfaaGreat.Cch
open Go.RowKit Codec Cod
open Disk (Turn)
section
variable {ops:Array Oper} {Q:Exit→Act→World→Prop} {md:Region.Mode} {S:World→Prop} {nn fuel:Nat} {listed:Array Bool} {a:Act} {w:World} {oi:Oper}
theorem at_take(i d:Nat)(v:Value)(hi:ops[i]? =some oi)(hd:oi.dst=some d)(hB:(Region.noSelect ops&&Region.free md ops listed i&&(Region.ready md ops listed).contains i)=true)(hin:i<nn)(hn:nn<ops.size)
  (hQ:∀c a w,Q (.panic c) (a.put oi.dst v) w→Q (.panic c) a w) (hw:Region.wanted oi (yielded ops a.tmps)=true) (hS:S w) (hy:∀w,S w→(execOp a.eval oi).run Tryz.prog w= .ok (.value v) w)
  (h:Disk.AtS Tryz.prog md ops Q S nn fuel (listed.setIfInBounds i true) (a.put (some d) v) w):Disk.AtS Tryz.prog md ops Q S nn (fuel+1) listed a w:=by
 simp only[Bool.and_eq_true] at hB;exact Disk.AtS.take hi hB.1.1 hB.1.2 hB.2 hin hn hQ hw hy hS (by rw[hd];exact h)
theorem at_run(i d:Nat)(v:Value)(w':World)(hi:ops[i]? =some oi)(hd:oi.dst=some d)(hr:Region.ready md ops listed=[i])(hin:i<nn)(hw:Region.wanted oi (yielded ops a.tmps)=true)
  (hrun:(execOp a.eval oi).run Tryz.prog w= .ok (.value v) w') (hS:S w') (h:Disk.AtS Tryz.prog md ops Q S nn fuel (listed.setIfInBounds i true) (a.put (some d) v) w'):Disk.AtS Tryz.prog md ops Q S nn (fuel+1) listed a w:=
 Jou.AtS.run hi hr hin hw hrun hS (by rw[hd];exact h)
theorem at_app1(i d:Nat)(v2:Value)(w':World)(hi:ops[i]? =some oi)(hd:oi.dst=some d)(hr:Region.ready md ops listed=[i])(hin:i<nn)(hw:Region.wanted oi (yielded ops a.tmps)=true)(s x:Operand)
  (ho:oi.op= .call {callee:= .builtin .append,args:= #[s,x],argTypes:= #[186,186]}) (v u:Value) (hs:a.eval s=v) (hx:a.eval x=u) (hrun:∀ty,(Builtin.append_ #[186,186] ty #[v,u]).run Tryz.prog w= .ok v2 w') (hS:S w')
  (h:Disk.AtS Tryz.prog md ops Q S nn fuel (listed.setIfInBounds i true) (a.put (some d) v2) w'):Disk.AtS Tryz.prog md ops Q S nn (fuel+1) listed a w:=by
 refine at_run i d v2 w' hi hd hr hin hw ?_ hS h;unfold execOp;simp only[ho,resolve,invoke,builtin,Sem.run_bind,Sem.run_pure,Result.andThen_ok,List.map_toArray,List.map_cons,List.map_nil,hs,hx,hrun]
end
theorem info3:(Tryz.prog.info? 188).map (fun i=>(i.zero,i.size,i.bytes))=some (some (.agg #[.string ⟨#[]⟩,.string ⟨#[]⟩,.int .i64 0]),3,40):=by kernel_rfl
theorem own_row{w:World}{lo n:Nat}{v:Value}{xs:List Value}(h:w.ownsRow lo 188 3 v n xs){k:Nat}(hk:v.ownBlock=some k):IsRow w k:=by
 rcases h.2 with⟨rfl,_⟩|⟨g,cap,cur,rfl,_,hh,_⟩
 ·cases hk
 injection hk with hk;subst hk;exact⟨cur,hh⟩
theorem app_one(w:World)(lo:Nat)(v:Value)(l:List Nmb)(x:Nmb)(eb:Nat)(h:w.ownsRow lo 188 3 v l.length (rowV l))(he:w.heap[eb]? =some (.cells #[.string x.e.k,.string x.e.v,.int .i64 (x.n:Int)] 188 (0,0)))(hl:l.length≤1000000)(hlo:lo≤w.heap.size):
  ∃v2 w2,(∀ty,(Builtin.append_ #[186,186] ty #[v,.slice (some ⟨eb,0,none⟩) 1 1]).run Tryz.prog w= .ok v2 w2)∧OwnN w2 lo v2 (l++[x])∧w.grownBy w2 v.ownBlock∧(v2.ownBlock=v.ownBlock∨v2.ownBlock=some w.heap.size):=by
 obtain⟨i0,hi0,hz0,hz1,hz2⟩:=info_parts info3;obtain⟨v2,w2,hrun,r1,r2,_,r4⟩:=run_append_own_at (P:=Tryz.prog) w lo 186 0 188 i0 _ 3 40 Tryz.underlying186 hi0 hz0 hz1 hz2 rfl (by decide) v l.length (rowV l) h ⟨eb,0,none⟩ 1 1 (nmbV x) rfl (fun j u hu=>by
  rw[plain_add,Nat.zero_add,cell_at he];have hj:j<3:=(List.getElem?_eq_some_iff.1 hu).1;rcases(show j=0∨j=1∨j=2 by omega) with rfl|rfl|rfl<;>simpa [nmbV] using hu) (fun u hu=>by
  simp only[nmbV,List.mem_cons,List.not_mem_nil,or_false] at hu;rcases hu with rfl|rfl|rfl<;>rfl) (by unfold maxLen;omega) (by omega) hlo
 have hr:rowV (l++[x])=rowV l++nmbV x:=by rw[rowV_app];simp[rowV]
 exact⟨v2,w2,fun _=>hrun,OwnN.of_row (n:=l.length+1) (by rw[hr];exact r1) (by omega),r2,r4⟩
theorem Bk.turn{w w':World}{lo b:Nat}{N:List Nmb}{S:List Nat}(h:Bk w lo b N)(ht:Turn S w w')(hS:∀k∈S,(k≠b∧k<lo)∨w.heap.size≤k):Bk w' lo b N:=by
 obtain⟨D,F,h1,h2,h3,h4,h5⟩:=h;have hb:w'.heap[b]? =w.heap[b]? :=ht.block b h1.lt fun hm=>by
  rcases hS b hm with e|e
  ·exact e.1 rfl
  have:=h1.lt;omega
 obtain⟨es,c,e1,e2⟩:=h1;refine⟨D,F,⟨es,c,hb.trans e1,e2⟩,h2,h3,fun t ht' hbt=>⟨(h4 t ht' hbt).1,(h4 t ht' hbt).2.keep fun g hg=> ?_⟩,h5⟩;obtain⟨g',e,hlo,hlt,_⟩:=(h4 t ht' hbt).2.lt;rw[hg] at e;injection e with e;subst e;refine ht.block g hlt fun hm=> ?_;rcases hS g hm with e|e<;>omega
theorem Shf.below{w w':World}{p o lo b last:Nat}{N:List Nmb}(h:Shf w p o lo b N last)(hb:Below w.heap.size w w'):Shf w' p o lo b N last:=
 h.with_ (S:=[]) (Turn.ofBelow hb) (by simp) (h.bk.turn (S:=[]) (Turn.ofBelow hb) (by simp)) h.nice
def Put (w:World) (p o lo b last:Nat) (N':List Nmb) (e:Ending) (w':World):Prop:=e= .returned (.tuple #[])∧Shf w' p o lo b N' (last+1)∧ShT p lo b w w'∧w'.heap[p]? =(w.setCell ⟨p,o+1,none⟩ (.int .i64 ((last:Int)+1))).heap[p]?
theorem setCell_congr{w w':World}{p i:Nat}{u:Value}(h:w'.heap[p]? =w.heap[p]?):(w'.setCell ⟨p,i,none⟩ u).heap[p]? =(w.setCell ⟨p,i,none⟩ u).heap[p]? :=by
 simp only[World.setCell,Array.getElem?_modify];rw[h]
theorem put_any(w:World)(p o lo b last:Nat)(N:List Nmb)(e:Ent)(h:Shf w p o lo b N last)(hN:N.length≤1000000)(hk:e.k.size≤1000000000)(hlw:lo≤w.heap.size)(hla:last≤1000000000):
  Calls Tryz.prog 85 #[.pointer (some ⟨p,o,none⟩),entV e] w (Put w p o lo b last (lay N last e)):=by
 obtain⟨ek,ev⟩:=e;unfold entV;dsimp only at *;have hal:=Frm.alloc_below w (.cells #[.string ek,.string ev] 62 (0,0));have h0:Shf (w.alloc (.cells #[.string ek,.string ev] 62 (0,0))) p o lo b N last:=h.below hal;have HTK:=hid (take_any (w.alloc (.cells #[.string ek,.string ev] 62 (0,0))) p o lo b last N ek h0 hN hk (by simp;omega));have HH:=hid h;have HEB:=hid (heap_alloc_new w (.cells #[.string ek,.string ev] 62 (0,0)));have HNC:=hid (nice_lay h.nice ⟨ek,ev⟩);have HLEN:Hid ((cut N ek).length≤1000000):=hid (Nat.le_trans (List.length_filter_le _ _) hN);have HSM:=hid (fun u=>sumof_any u ek hk);have HLW:=hid hlw;have hwl:IntKind.i64.wrap ((last:Int)+1)=(last:Int)+1:=IntWalk.i64_in _ (by omega);have z0:=cell_at HEB.out 0;have z1:=cell_at HEB.out 1;have HPL:Hid (p≠b∧p<lo∧p<w.heap.size):=hid ⟨h.pb,h.pl,h.lt⟩;clear h hal h0 hN hk hlw hla;go_enter Tryz.func85,Tryz.ntmps85;go_wp2_with fail;refine HTK.out.mono ?_;rintro e w1 ⟨rfl,hs1,ht1,hp1⟩;have HX1:Hid (w1.heap[w.heap.size]? =some (.cells #[.string ek,.string ev] 62 (0,0))):=hid (by
  obtain⟨⟨S,ht,hS⟩,_⟩:=ht1;refine(ht.block w.heap.size (by simp) (fun hm=> ?_)).trans HEB.out;rcases hS _ hm with e|e|⟨_,⟨C,hC⟩,_⟩
  ·have:=HPL.out.2.2;omega
  ·have:=HH.out.bk.lt;omega
  ·rw[HEB.out] at hC;injection hC with hC;injection hC with _ e;cases e)
 have HT1:Hid (ShT p lo b w w1):=hid ((ShT.of_below (Frm.alloc_below w (.cells #[.string ek,.string ev] 62 (0,0)))).trans ht1 HH.out.bk.lt);have HP1:Hid (w1.heap[p]? =w.heap[p]?):=hid (hp1.trans ((Frm.alloc_below w (.cells #[.string ek,.string ev] 62 (0,0))).block p HPL.out.2.2));have HS1:=hid hs1;have c1:=hs1.c1;have f1:=hs1.fr;have b0:=cell_at HX1.out 0;have b1:=cell_at HX1.out 1;clear hs1 ht1 hp1 HTK z0 z1;obtain⟨v,D,Fv,hlk,hv,hbx⟩:=HS1.out.bk.look (sumK_lt ek);have HLS:Hid (bucket (lay N last ⟨ek,ev⟩) (sumK ek)=bucket (cut N ek) (sumK ek)++[⟨⟨ek,ev⟩,last+1⟩]):=hid (bucket_lay_same N last ⟨ek,ev⟩);have HNO:Hid (∀t,t≠sumK ek→bucket (lay N last ⟨ek,ev⟩) t=bucket (cut N ek) t):=hid (fun t ht=>by
  rw[bucket_lay_other N last ⟨ek,ev⟩ ht,bucket_cut_other N ek ht])
 have HSL:=hid (sumK_lt ek);have HNB:Hid ((cut N ek).length<10000000):=hid (by have:=HLEN.out;omega);have HBL:Hid ((bucket (cut N ek) (sumK ek)).length≤1000000):=hid (Nat.le_trans (List.length_filter_le _ _) HLEN.out);generalize hN1:cut N ek=N1 at *;generalize sumK ek=s at *;have HLK0:=hid hlk;have HRI:Hid (∀u:World,u.heap[b]? =w1.heap[b]? →∀k,v.ownBlock=some k→RowIn u b k):=hid (fun u hu k hk=>(HS1.out.bk.look_row HSL.out (hlk w1 rfl) hk).back hu.symm);have HBX0:=hid hbx;have HROW1:Hid (w1.ownsRow lo 188 3 v (bucket N1 s).length (rowV (bucket N1 s))):=hid (by
  rcases hv with⟨e,e2⟩|⟨_,ho⟩
  ·rw[e,e2];exact World.ownsRow_nil _ _ _ _
  ·exact ho.row)
 have HVB:Hid (v.ownBlock≠some b):=hid (by
  rcases hv with⟨_,e2⟩|⟨_,ho⟩
  ·rw[e2];simp[Value.ownBlock]
  ·exact ho.ne_map hbx.own)
 have HVN:Hid (∀k,v.ownBlock=some k→k=w.heap.size→False):=hid (fun k hk e=>by
  obtain⟨C,hC⟩:=own_row HROW1.out hk;rw[e,HX1.out] at hC;injection hC with hC;injection hC with _ e2;cases e2)
 obtain⟨L,hL⟩:∃L:Int,(last:Int)+1=L:=⟨_,rfl⟩
 have HLI:Hid (((last+1:Nat):Int)=L):=hid (by rw[←hL];push_cast;rfl);rw[hL] at hwl;have HSC:=hid (setCell_congr (i:=o+1) (u:= .int .i64 L) HP1.out);have HLL:=hid hL;clear hlk hv hbx hN1;go_upto_region 3 with fail;have HT2:Hid (Turn [p] w1 (w1.setCell ⟨p,o+1,none⟩ (.int .i64 L))):=hid ((Turn.refl [p] w1).setCell (.inl (by simp)) _);have HC2:Hid ((w1.setCell ⟨p,o+1,none⟩ (.int .i64 L)).cell? ⟨p,o,none⟩=some (.map (some b))∧(w1.setCell ⟨p,o+1,none⟩ (.int .i64 L)).cell? ⟨p,o+1,none⟩=some (.int .i64 L)∧(w1.setCell ⟨p,o+1,none⟩ (.int .i64 L)).frozen? ⟨p,o+1,none⟩=false):=hid ⟨by
  rw[World.cell?_setCell_other w1 _ _ _ (by simp)];exact HS1.out.c0,World.cell?_setCell_same w1 _ _ HS1.out.c1,by
  rw[World.frozen?_setCell];exact HS1.out.fr⟩
 have HX2:Hid (Bx (w1.setCell ⟨p,o+1,none⟩ (.int .i64 L)) lo b N1 s v D Fv):=hid (HBX0.out.turn HT2.out (fun k hk=> .inr (.inr (by simp at hk;rw[hk];exact⟨HPL.out.1,HPL.out.2.1⟩))) HVB.out);have HV2:Hid ((w1.setCell ⟨p,o+1,none⟩ (.int .i64 L)).ownsRow lo 188 3 v (bucket N1 s).length (rowV (bucket N1 s))):=hid (World.ownsRow.kept HROW1.out (grown_set w1 p (o+1) _) (.inr fun e=>by have:=(World.ownsRow.lt HROW1.out p e).1;have:=HPL.out.2.1;omega));have HE2:Hid ((w1.setCell ⟨p,o+1,none⟩ (.int .i64 L)).heap[w.heap.size]? =some (.cells #[.string ek,.string ev] 62 (0,0))):=hid ((Below.heap_setCell w1 _ _ _ (by have:=HPL.out.2.2;show w.heap.size≠p;omega)).trans HX1.out);have HM2:Hid ((w1.setCell ⟨p,o+1,none⟩ (.int .i64 L)).heap[b]? =w1.heap[b]?):=hid (Below.heap_setCell w1 _ _ _ (Ne.symm HPL.out.1));have HS2:Hid (ShT p lo b w (w1.setCell ⟨p,o+1,none⟩ (.int .i64 L))):=hid (HT1.out.trans (ShT.of_turn HT2.out (fun k hk=> .inl (by simpa using hk)) (fun hb k hk=> .inl (hk.back HM2.out))) HH.out.bk.lt);have HZ2:Hid (lo≤(w1.setCell ⟨p,o+1,none⟩ (.int .i64 L)).heap.size∧p<(w1.setCell ⟨p,o+1,none⟩ (.int .i64 L)).heap.size∧b<(w1.setCell ⟨p,o+1,none⟩ (.int .i64 L)).heap.size∧w.heap.size<(w1.setCell ⟨p,o+1,none⟩ (.int .i64 L)).heap.size):=hid (by
  have h1:=HT2.out.size;have h2:=lt_of_heap HX1.out;have h3:=HBX0.out.own.lt;have:=HPL.out.2.2;have:=HLW.out;omega)
 clear c1 f1 b0 b1 HT2 HX1 HBX0 HROW1 HT1 HS1;generalize w1.setCell ⟨p,o+1,none⟩ (.int .i64 L)=w2 at *;have b0:=cell_at HE2.out 0;go_wp2_with fail;refine(HSM.out w2).mono ?_;rintro e w3 ⟨rfl,hb3⟩;have HB3:=hid hb3;have HC3:Hid (w3.cell? ⟨p,o,none⟩=some (.map (some b))∧w3.cell? ⟨p,o+1,none⟩=some (.int .i64 L)∧w3.heap[w.heap.size]? =some (.cells #[.string ek,.string ev] 62 (0,0))):=hid ⟨(World.cell?_of_block (w:=w2) (hb3.block p HZ2.out.2.1)).trans HC2.out.1,(World.cell?_of_block (w:=w2) (hb3.block p HZ2.out.2.1)).trans HC2.out.2.1,(hb3.block _ HZ2.out.2.2.2).trans HE2.out⟩;have HX3:Hid (Bx w3 lo b N1 s v D Fv):=hid (HX2.out.turn (S:=[]) (Turn.ofBelow hb3) (by simp) HVB.out);have HV3:Hid (w3.ownsRow lo 188 3 v (bucket N1 s).length (rowV (bucket N1 s))):=hid (World.ownsRow.kept HV2.out ⟨hb3.os,hb3.tape,hb3.output,hb3.size,fun k hk _=>hb3.block k hk⟩ (row:=none) (by
  cases hh:v.ownBlock
  ·exact .inl rfl
  ·exact .inr (by simp)))
 have HM3:Hid (w3.heap[b]? =w1.heap[b]?):=hid ((hb3.block b HZ2.out.2.2.1).trans HM2.out);have HT3:Hid (ShT p lo b w w3):=hid (HS2.out.trans (ShT.of_below hb3) HH.out.bk.lt);have HLW3:Hid (lo≤w3.heap.size):=hid (Nat.le_trans HZ2.out.1 hb3.size);have HPB3:Hid (p<w3.heap.size∧b<w3.heap.size∧w.heap.size<w3.heap.size):=hid (by have:=hb3.size;have:=HZ2.out;omega);have HLK:Hid (∀w':World,w'.heap[b]? =w3.heap[b]? →(Instr.lookup 91 (.map (some b)) (.int .u64 (s:Int)) false).run Tryz.prog w'= .ok v w'):=hid (fun w' hw=>HLK0.out w' (hw.trans ((hb3.block b HZ2.out.2.2.1).trans HM2.out)));have HPW:Hid (w3.heap[p]? =w2.heap[p]?):=hid (hb3.block p HZ2.out.2.1);clear b0 hb3 HX2 HV2 HE2 HM2 HS2 HZ2 HLK0 HB3 HSM;go_upto_region 4 with fail;have HS:Hid (w3.drew.cell? ⟨p,o,none⟩=some (.map (some b))∧w3.drew.cell? ⟨p,o+1,none⟩=some (.int .i64 L)∧w3.drew.heap[b]? =w3.heap[b]? ∧w3.drew.heap[w.heap.size]? =some (.cells #[.string ek,.string ev] 62 (0,0))):=hid ⟨HC3.out.1,HC3.out.2.1,rfl,HC3.out.2.2⟩;have HX0:Hid (Bx w3.drew lo b N1 s v D Fv):=hid (HX3.out.turn (S:=[]) (Turn.refl [] w3).drew (by simp) HVB.out);have HV0:Hid (w3.drew.ownsRow lo 188 3 v (bucket N1 s).length (rowV (bucket N1 s))):=hid HV3.out;have HT0:Hid (ShT p lo b w w3.drew):=hid (HT3.out.trans (ShT.of_below (Below.refl w3.heap.size w3).drew) HH.out.bk.lt);have HLW0:Hid (lo≤w3.drew.heap.size):=hid HLW3.out;have HPB0:Hid (p<w3.drew.heap.size∧b<w3.drew.heap.size∧w.heap.size<w3.drew.heap.size):=hid HPB3.out;have HQ0:Hid (w3.drew.heap[p]? =w2.heap[p]?):=hid HPW.out;clear HX3 HV3 HT3 HLW3 HPB3 HC3 HPW;refine Disk.AtS.start (by kernel_rfl) 19 (fun u=>u.cell? ⟨p,o,none⟩=some (.map (some b))∧u.cell? ⟨p,o+1,none⟩=some (.int .i64 L)∧u.heap[b]? =w3.heap[b]? ∧u.heap[w.heap.size]? =some (.cells #[.string ek,.string ev] 62 (0,0))) (by kernel_rfl) (by kernel_rfl) ?_;generalize w3.drew=u0 at *;refine at_take 0 19 (.pointer (some ⟨p,o,none⟩)) rfl rfl (by kernel_rfl) (by decide) (by decide) (fun _ _ _ h=>h) rfl (HS.out) (fun w' hw'=> ?_) ?_
 ·exact rfl
 go_frame;refine at_take 1 20 (.pointer (some ⟨p,o,none⟩)) rfl rfl (by kernel_rfl) (by decide) (by decide) (fun _ _ _ h=>h) rfl (HS.out) (fun w' hw'=> ?_) ?_
 ·go_simp
 go_frame;refine at_take 2 21 (.pointer (some ⟨p,o,none⟩)) rfl rfl (by kernel_rfl) (by decide) (by decide) (fun _ _ _ h=>h) rfl (HS.out) (fun w' hw'=> ?_) ?_
 ·go_simp
 go_frame;refine at_take 3 22 (.map (some b)) rfl rfl (by kernel_rfl) (by decide) (by decide) (fun _ _ _ h=>h) rfl (HS.out) (fun w' hw'=> ?_) ?_
 ·have h1:=hw'.1;go_simp
 go_frame;refine at_take 4 23 (.int .u64 s) rfl rfl (by kernel_rfl) (by decide) (by decide) (fun _ _ _ h=>h) rfl (HS.out) (fun w' hw'=> ?_) ?_
 ·exact rfl
 go_frame;refine at_take 5 24 (.pointer (some ⟨p,o,none⟩)) rfl rfl (by kernel_rfl) (by decide) (by decide) (fun _ _ _ h=>h) rfl (HS.out) (fun w' hw'=> ?_) ?_
 ·exact rfl
 go_frame;refine at_take 6 25 (.pointer (some ⟨p,o,none⟩)) rfl rfl (by kernel_rfl) (by decide) (by decide) (fun _ _ _ h=>h) rfl (HS.out) (fun w' hw'=> ?_) ?_
 ·go_simp
 go_frame;refine at_take 7 26 (.pointer (some ⟨p,o,none⟩)) rfl rfl (by kernel_rfl) (by decide) (by decide) (fun _ _ _ h=>h) rfl (HS.out) (fun w' hw'=> ?_) ?_
 ·go_simp
 go_frame;refine at_take 8 27 (.map (some b)) rfl rfl (by kernel_rfl) (by decide) (by decide) (fun _ _ _ h=>h) rfl (HS.out) (fun w' hw'=> ?_) ?_
 ·have h1:=hw'.1;go_simp
 go_frame;refine at_take 9 28 (.int .u64 s) rfl rfl (by kernel_rfl) (by decide) (by decide) (fun _ _ _ h=>h) rfl (HS.out) (fun w' hw'=> ?_) ?_
 ·exact rfl
 go_frame;refine at_take 10 29 (v) rfl rfl (by kernel_rfl) (by decide) (by decide) (fun _ _ _ h=>h) rfl (HS.out) (fun w' hw'=> ?_) ?_
 ·have hl:=HLK.out w' hw'.2.2.1;go_simp
 go_frame;refine at_take 11 30 (.agg #[.string ek,.string ev]) rfl rfl (by kernel_rfl) (by decide) (by decide) (fun _ _ _ h=>h) rfl (HS.out) (fun w' hw'=> ?_) ?_
 ·have h1:=cell_at hw'.2.2.2 0;have h2:=cell_at hw'.2.2.2 1;go_simp
 go_frame;refine at_take 12 31 (.pointer (some ⟨p,o,none⟩)) rfl rfl (by kernel_rfl) (by decide) (by decide) (fun _ _ _ h=>h) rfl (HS.out) (fun w' hw'=> ?_) ?_
 ·exact rfl
 go_frame;refine at_take 13 32 (.pointer (some ⟨p,o,none⟩)) rfl rfl (by kernel_rfl) (by decide) (by decide) (fun _ _ _ h=>h) rfl (HS.out) (fun w' hw'=> ?_) ?_
 ·go_simp
 go_frame;refine at_take 14 33 (.pointer (some ⟨p,o+1,none⟩)) rfl rfl (by kernel_rfl) (by decide) (by decide) (fun _ _ _ h=>h) rfl (HS.out) (fun w' hw'=> ?_) ?_
 ·go_simp
 go_frame;refine at_take 15 34 (.int .i64 L) rfl rfl (by kernel_rfl) (by decide) (by decide) (fun _ _ _ h=>h) rfl (HS.out) (fun w' hw'=> ?_) ?_
 ·have h1:=hw'.2.1;go_simp
 go_frame;refine at_take 16 35 (.agg #[.string ek,.string ev,.int .i64 L]) rfl rfl (by kernel_rfl) (by decide) (by decide) (fun _ _ _ h=>h) rfl (HS.out) (fun w' hw'=> ?_) ?_
 ·go_simp
 go_frame;have HB1:Hid (Below u0.heap.size u0 (u0.alloc (.cells #[.string ek,.string ev,.int .i64 L] 188))):=hid (Frm.alloc_below u0 _);have HS1:Hid ((u0.alloc (.cells #[.string ek,.string ev,.int .i64 L] 188)).cell? ⟨p,o,none⟩=some (.map (some b))∧(u0.alloc (.cells #[.string ek,.string ev,.int .i64 L] 188)).cell? ⟨p,o+1,none⟩=some (.int .i64 L)∧(u0.alloc (.cells #[.string ek,.string ev,.int .i64 L] 188)).heap[b]? =w3.heap[b]? ∧(u0.alloc (.cells #[.string ek,.string ev,.int .i64 L] 188)).heap[w.heap.size]? =some (.cells #[.string ek,.string ev] 62 (0,0))):=hid ⟨(World.cell?_of_block (w:=u0) (HB1.out.block p HPB0.out.1)).trans HS.out.1,(World.cell?_of_block (w:=u0) (HB1.out.block p HPB0.out.1)).trans HS.out.2.1,(HB1.out.block b HPB0.out.2.1).trans HS.out.2.2.1,(HB1.out.block _ HPB0.out.2.2).trans HS.out.2.2.2⟩;refine at_run 17 36 (.slice (some ⟨u0.heap.size,0,none⟩) 1 1) (u0.alloc (.cells #[.string ek,.string ev,.int .i64 L] 188)) rfl rfl (by kernel_rfl) (by decide) rfl ?_ ?_ ?_
 ·go_simp
 ·exact HS1.out
 go_frame;have HX1:Hid (Bx (u0.alloc (.cells #[.string ek,.string ev,.int .i64 L] 188)) lo b N1 s v D Fv):=hid (HX0.out.turn (S:=[]) (Turn.ofBelow HB1.out) (by simp) HVB.out);have HV1:Hid ((u0.alloc (.cells #[.string ek,.string ev,.int .i64 L] 188)).ownsRow lo 188 3 v (bucket N1 s).length (rowV (bucket N1 s))):=hid (World.ownsRow.alloc HV0.out _);have HT1:Hid (ShT p lo b w (u0.alloc (.cells #[.string ek,.string ev,.int .i64 L] 188))):=hid (HT0.out.trans (ShT.of_below HB1.out) HH.out.bk.lt);have HLW1:Hid (lo≤(u0.alloc (.cells #[.string ek,.string ev,.int .i64 L] 188)).heap.size):=hid (Nat.le_trans HLW0.out HB1.out.size);have HPB1:Hid (p<(u0.alloc (.cells #[.string ek,.string ev,.int .i64 L] 188)).heap.size∧b<(u0.alloc (.cells #[.string ek,.string ev,.int .i64 L] 188)).heap.size∧w.heap.size<(u0.alloc (.cells #[.string ek,.string ev,.int .i64 L] 188)).heap.size):=hid (by have:=HB1.out.size;have:=HPB0.out;omega);have HE1:=hid (heap_alloc_new u0 (.cells #[.string ek,.string ev,.int .i64 L] 188));have HQ1:Hid ((u0.alloc (.cells #[.string ek,.string ev,.int .i64 L] 188)).heap[p]? =w2.heap[p]?):=hid ((HB1.out.block p HPB0.out.1).trans HQ0.out);clear HS HX0 HV0 HT0 HLW0 HPB0 HB1 HQ0;generalize (u0.alloc (.cells #[.string ek,.string ev,.int .i64 L] 188))=u1 at *;generalize u0.heap.size=eb at *;obtain⟨v2,u2,hap,how,hgr,hbo⟩:=app_one u1 lo v (bucket N1 s) ⟨⟨ek,ev⟩,last+1⟩ eb HV1.out (by show u1.heap[eb]? =some (.cells #[.string ek,.string ev,.int .i64 ((last+1:Nat):Int)] 188 (0,0));rw[HLI.out];exact HE1.out) HBL.out HLW1.out;have hap2:∀ty,(Builtin.append_ #[186,186] ty #[v,.slice (some ⟨eb,0,none⟩) 1 1]).run Tryz.prog u1= .ok v2 u2:=hap;have hvo:∀k,v.ownBlock=some k→lo≤k∧k<u1.heap.size:=World.ownsRow.lt HV1.out;have hkeep:∀k,k<u1.heap.size→(v.ownBlock=some k→False)→u2.heap[k]? =u1.heap[k]? :=fun k hk hne=>hgr.block k hk (fun e=>hne e.symm);have HS2:Hid (u2.cell? ⟨p,o,none⟩=some (.map (some b))∧u2.cell? ⟨p,o+1,none⟩=some (.int .i64 L)∧u2.heap[b]? =w3.heap[b]? ∧u2.heap[w.heap.size]? =some (.cells #[.string ek,.string ev] 62 (0,0))):=hid (by
  have hp:=hkeep p HPB1.out.1 (fun e=>by have:=(hvo p e).1;have:=HPL.out.2.1;omega);have hb:=hkeep b HPB1.out.2.1 (fun e=>HVB.out e);have hx:=hkeep w.heap.size HPB1.out.2.2 (fun e=>HVN.out _ e rfl);exact⟨(World.cell?_of_block (w:=u1) hp).trans HS1.out.1,(World.cell?_of_block (w:=u1) hp).trans HS1.out.2.1,hb.trans HS1.out.2.2.1,hx.trans HS1.out.2.2.2⟩)
 refine at_app1 18 37 v2 u2 rfl rfl (by kernel_rfl) (by decide) rfl (.tmp 29) (.tmp 36) rfl v (.slice (some ⟨eb,0,none⟩) 1 1) rfl rfl hap2 HS2.out ?_;go_frame;have ht2:Turn v.ownBlock.toList u1 u2:=(Turn.refl _ u1).grown hgr (fun k hk=> .inl (by rw[hk];simp));have hx2:Bx u2 lo b N1 s v D Fv:=HX1.out.turn (S:=v.ownBlock.toList) ht2 (fun k hk=> .inl (by simpa using hk)) HVB.out;have hx3:Bx u2 lo b N1 s v2 D Fv:=hx2.value (hbo.imp id fun e t ht hne hbt=>by
  obtain⟨g,e2,_,hlt,_⟩:=(HX1.out.yes t ht hne hbt).2.1.lt;rw[e,e2];intro e3;injection e3 with e3;omega)
 obtain⟨u3,hrun,hbk,ht3,hrw3⟩:=hx3.store (N':=lay N last ⟨ek,ev⟩) HSL.out HNO.out (by rw[HLS.out];simp) (by rw[HLS.out];exact how) HNB.out;have hub:u1.heap[b]? =w1.heap[b]? :=HS1.out.2.2.1.trans HM3.out;have ht13:Turn (b::v.ownBlock.toList) u1 u3:=(ht2.more (fun k hk=>List.mem_cons_of_mem _ hk)).trans (ht3.more (by simp));have HT2:Hid (ShT p lo b w u3):=hid (HT1.out.trans (ShT.of_turn ht13 (fun k hk=>by
  rcases List.mem_cons.1 hk with e|e
  ·exact .inr (.inl e)
  ·have hk:v.ownBlock=some k:=(by simpa using e)
   exact .inr (.inr ⟨(hvo k hk).1,own_row HV1.out hk,HRI.out u1 hub k hk⟩)) (fun _ k hk=>by
  rcases hrw3 k hk with e|e
  ·rcases hbo with e2|e2
   ·exact .inl (HRI.out u1 hub k (by rw[←e2];exact e))
   rw[e2] at e;injection e with e;exact .inr (by omega)
  ·exact .inl (e.back (hkeep b HPB1.out.2.1 (fun e=>HVB.out e))))) HH.out.bk.lt)
 have HF:Hid (Bk u3 lo b (lay N last ⟨ek,ev⟩)∧ShT p lo b w u3):=hid ⟨hbk,HT2.out⟩;have HPP:Hid (u3.cell? ⟨p,o,none⟩=some (.map (some b))∧u3.cell? ⟨p,o+1,none⟩=some (.int .i64 L)):=hid (by
  have hp:u3.heap[p]? =u2.heap[p]? :=ht3.block p (Nat.lt_of_lt_of_le HPB1.out.1 hgr.size) (fun hm=>HPL.out.1 (by simpa using hm));exact⟨(World.cell?_of_block (w:=u2) hp).trans HS2.out.1,(World.cell?_of_block (w:=u2) hp).trans HS2.out.2.1⟩)
 have HPQ:Hid (u3.heap[p]? =w2.heap[p]?):=hid (((ht3.block p (Nat.lt_of_lt_of_le HPB1.out.1 hgr.size) (fun hm=>HPL.out.1 (by simpa using hm))).trans (hkeep p HPB1.out.1 (fun e=>by have:=(hvo p e).1;have:=HPL.out.2.1;omega))).trans HQ1.out);clear hap how hgr hbo hvo hkeep ht2 hx2 hx3 hbk ht3 hrw3 hub ht13 HX1 HV1 HT1 HLW1 HE1 HS1 HT2;refine Disk.AtS.last (i:=19) (w':=u3) rfl (by kernel_rfl) (by kernel_rfl) (by decide) rfl ?_ ?_
 ·go_simp
 go_frame;go_wp2_with fail;go_end0;refine⟨rfl,⟨HPP.out.1,by rw[HPP.out.2,←HLL.out];push_cast;rfl,?_,HF.out.1,HNC.out,HPL.out.1,HPL.out.2.1,HH.out.bl⟩,HF.out.2,?_⟩
 ·exact(Disk.frozen_keep (w:=w2) HPQ.out).trans HC2.out.2.2
 rw[HLL.out];exact HPQ.out.trans HSC.out
end Go.Proofs.YtdjhlhellkajfaaGreat.Cch
namespace Go.Proofs.YtdjhlhellkajfaaGreat.Cch
open Go.RowKit Codec Cod
open Disk (Turn Dk Dsk ptr)
open JourM (Jr)
open Jou (Jn It)
def JOwn (j g gs gm:Nat) (v:Value):List Nat:=[j,g,gs,gm]++v.ownBlock.toList
def NotU8 (w:World) (S:List Nat):Prop:=∀k∈S,∀(cs:Array Value) (fr:Nat×Nat),w.heap[k]? ≠some (.cells cs 5 fr)
theorem it_turn{w w':World}{lo:Nat}{S:List Nat}{x:It}(h:x.ok w lo)(ht:Turn S w w')(hS:NotU8 w S):x.ok w' lo:=by
 have hb:∀p:Addr,x.A=some p→w'.heap[p.block]? =w.heap[p.block]? :=fun p hp=>by
  obtain⟨cs,hc⟩:=h.u8 p hp;exact ht.block _ (lt_of_heap hc) fun hm=>hS _ hm _ _ hc
 refine⟨⟨h.byts.len,fun hn=> ?_⟩,h.mc,h.cm,h.ab,fun p hp=> ?_⟩
 ·obtain⟨b,off,e,hl,hc⟩:=h.byts.at_ hn;have hbb:=hb _ e;exact⟨b,off,e,Nat.lt_of_lt_of_le hl ht.size,fun j hj=>(World.cell?_of_block (w:=w) (a:=⟨b,off+j,none⟩) hbb).trans (hc j hj)⟩
 obtain⟨cs,hc⟩:=h.u8 p hp;exact⟨cs,(hb p hp).trans hc⟩
theorem jn_turn{w w':World}{lo j g gs gm:Nat}{d:Dsk}{jr:Jr}{v:Value}{S:List Nat}(h:Jn w lo j g gs gm d jr v)(ht:Turn S w w')(h1:∀k∈S,k∉JOwn j g gs gm v)(h2:NotU8 w S):Jn w' lo j g gs gm d jr v:=by
 obtain⟨its,o1,o2,o3⟩:=h.own;have ha:∀k∈JOwn j g gs gm v,k∉S:=fun k hk hm=>h1 k hm hk;refine⟨h.disk.turn ht (ha g (by simp[JOwn])) (ha gs (by simp[JOwn])) (ha gm (by simp[JOwn])),(ht.block j (lt_of_heap h.hd) (ha j (by simp[JOwn]))).trans h.hd,⟨its,Jou.own_same o1 fun q hq=> ?_,o2,fun x hx=>it_turn (o3 x hx) ht h2⟩,h.lows,Nat.le_trans h.le ht.size,h.n8,h.one,h.big,h.fit⟩;obtain⟨_,cur,hc⟩:=Jou.own_type o1 hq;exact ht.block q (lt_of_heap hc) (ha q (by simp[JOwn,hq]))
def cobj (j b last:Nat) (ev:Int):Obj:= .cells #[.pointer (some ⟨j,0,none⟩),.map (some b),.int .i64 (last:Int),.int .i64 ev] 95
structure Ch (w:World) (c lo b lj j g gs gm:Nat) (d:Dsk) (jr:Jr) (v:Value) (N:List Nmb) (last:Nat) (ev:Int):Prop where
 hd:w.heap[c]? =some (cobj j b last ev)
 jn:Jn w lj j g gs gm d jr v
 sh:Shf w c 1 lo b N last
 cl:lj≤c∧lj≤b∧lj≤lo
 low:lo≤w.heap.size
section
variable {w w':World} {c lo b lj j g gs gm last last':Nat} {d d':Dsk} {jr jr':Jr} {v v':Value} {N N':List Nmb} {ev ev':Int}
theorem Ch.map_at(h:Ch w c lo b lj j g gs gm d jr v N last ev):∃es cl,w.heap[b]? =some (.map es cl):=by
 obtain⟨D,F,⟨es,cl,h1,_⟩,_⟩:=h.sh.bk;exact⟨es,cl,h1⟩
theorem Ch.own_type(h:Ch w c lo b lj j g gs gm d jr v N last ev){k:Nat}(hk:v.ownBlock=some k):lj≤k∧∃cur,w.heap[k]? =some (.cells cur 39 (0,0)):=by
 obtain⟨its,o1,_⟩:=h.jn.own;exact Jou.own_type o1 hk
theorem Ch.apart(h:Ch w c lo b lj j g gs gm d jr v N last ev){k:Nat}(hk:k=c∨k=b∨(lo≤k∧IsRow w k)):k∉JOwn j g gs gm v∧∀(cs:Array Value) (fr:Nat×Nat),w.heap[k]? ≠some (.cells cs 5 fr):=by
 obtain⟨es,cl,hm⟩:=h.map_at;have hlj:lj≤k:=by
  have:=h.cl;rcases hk with rfl|rfl|⟨e,_⟩<;>omega
 refine⟨fun hm2=> ?_,fun cs fr e=> ?_⟩
 ·rcases List.mem_append.1 hm2 with e|e
  ·have:=h.jn.lows k e;omega
  obtain⟨_,cur,hc⟩:=h.own_type (by simpa using e);rcases hk with rfl|rfl|⟨_,C,hC⟩
  ·rw[h.hd] at hc;injection hc with hc;injection hc with _ e;cases e
  ·rw[hm] at hc;cases hc
  rw[hC] at hc;injection hc with hc;injection hc with _ e;cases e
 rcases hk with rfl|rfl|⟨_,C,hC⟩
 ·rw[h.hd] at e;injection e with e;injection e with _ e;cases e
 ·rw[hm] at e;cases e
 rw[hC] at e;injection e with e;injection e with _ e;cases e
theorem Ch.shelved(h:Ch w c lo b lj j g gs gm d jr v N last ev)(ht:ShT c lo b w w')(hs:Shf w' c 1 lo b N' last')(hc:w'.heap[c]? =some (cobj j b last' ev')):Ch w' c lo b lj j g gs gm d jr v N' last' ev':=by
 obtain⟨⟨S,ht,hS⟩,_⟩:=ht;have hS:∀k∈S,k=c∨k=b∨(lo≤k∧IsRow w k):=fun k hk=>(hS k hk).imp id (Or.imp id fun e=>⟨e.1,e.2.1⟩);exact⟨hc,jn_turn h.jn ht (fun k hk=>(h.apart (hS k hk)).1) (fun k hk=>(h.apart (hS k hk)).2),hs,h.cl,Nat.le_trans h.low ht.size⟩
theorem Bk.turn2{S:List Nat}(h:Bk w lo b N)(ht:Turn S w w')(hS:∀k∈S,k≠b∧¬(lo≤k∧IsRow w k)):Bk w' lo b N:=by
 obtain⟨D,F,h1,h2,h3,h4,h5⟩:=h;have hb:w'.heap[b]? =w.heap[b]? :=ht.block b h1.lt fun hm=>(hS b hm).1 rfl;obtain⟨es,c,e1,e2⟩:=h1;refine⟨D,F,⟨es,c,hb.trans e1,e2⟩,h2,h3,fun t ht' hbt=>⟨(h4 t ht' hbt).1,(h4 t ht' hbt).2.keep fun g hg=> ?_⟩,h5⟩;obtain⟨g',e,hlo,hlt,C,hC⟩:=(h4 t ht' hbt).2.lt;rw[hg] at e;injection e with e;subst e;exact ht.block g hlt fun hm=>(hS g hm).2 ⟨hlo,C,hC⟩
theorem Ch.journaled(h:Ch w c lo b lj j g gs gm d jr v N last ev)(ht:Turn (JOwn j g gs gm v) w w')(hj:Jn w' lj j g gs gm d' jr' v'):Ch w' c lo b lj j g gs gm d' jr' v' N last ev:=by
 have hc:w'.heap[c]? =w.heap[c]? :=ht.block c h.sh.lt (h.apart (.inl rfl)).1;have hbk:Bk w' lo b N:=h.sh.bk.turn2 ht fun k hk=>⟨fun e=>(h.apart (.inr (.inl rfl))).1 (by rw[←e];exact hk),fun e=>(h.apart (.inr (.inr e))).1 hk⟩
 exact⟨hc.trans h.hd,hj,⟨(World.cell?_of_block (w:=w) hc).trans h.sh.c0,(World.cell?_of_block (w:=w) hc).trans h.sh.c1,(Disk.frozen_keep (w:=w) hc).trans h.sh.fr,hbk,h.sh.nice,h.sh.pb,h.sh.pl,h.sh.bl⟩,h.cl,Nat.le_trans h.low ht.size⟩
theorem Ch.below(h:Ch w c lo b lj j g gs gm d jr v N last ev)(hb:Below w.heap.size w w'):Ch w' c lo b lj j g gs gm d jr v N last ev:=
 h.journaled (Turn.ofBelow hb) (h.jn.below hb)
theorem Ch.c0(h:Ch w c lo b lj j g gs gm d jr v N last ev):w.cell? ⟨c,0,none⟩=some (.pointer (some ⟨j,0,none⟩)):=cell_at h.hd 0
theorem Ch.c1(h:Ch w c lo b lj j g gs gm d jr v N last ev):w.cell? ⟨c,1,none⟩=some (.map (some b)):=cell_at h.hd 1
theorem Ch.c3(h:Ch w c lo b lj j g gs gm d jr v N last ev):w.cell? ⟨c,3,none⟩=some (.int .i64 ev):=cell_at h.hd 3
theorem made_any(h:Ch w c lo b lj j g gs gm d jr v N last ev):Calls Tryz.prog 87 #[ptr c] w (Disk.Ends (.bool true) w):=by
 have c1:=h.c1;have hmn:=fun u m=>run_neq_map_nil (P:=Tryz.prog) u 91 177 186 m Tryz.underlying91;clear h;unfold ptr;go_enter Tryz.func87,Tryz.ntmps87;go_wp2_with fail;go_ret;exact⟨rfl,rfl⟩
end
end Go.Proofs.YtdjhlhellkajfaaGreat.Cch
namespace Go.Proofs.YtdjhlhellkajfaaGreat.Cch
open Go.RowKit Codec Cod
open Disk (Turn Dk Dsk ptr)
open JourM (Jr)
open Jou (Jn It)
section
variable {w w':World} {c lo b lj j g gs gm last last':Nat} {d d':Dsk} {jr jr':Jr} {v v':Value} {N N':List Nmb} {ev ev':Int}
theorem cdown_any(h:Ch w c lo b lj j g gs gm d jr v N last ev):Calls Tryz.prog 48 #[ptr c] w (Disk.Ends (.bool jr.down) w):=by
 have HM:=hid (made_any h);have HD:=hid (Jou.jdown_any h.jn);have c0:=h.c0;clear h;unfold ptr at *;go_enter Tryz.func48,Tryz.ntmps48;go_wp2_with fail;refine HM.out.mono ?_;rintro e u ⟨rfl,rfl⟩;go_wp2_with fail;refine HD.out.mono ?_;rintro e u ⟨rfl,rfl⟩;go_wp2_with fail;go_ret;exact⟨rfl,rfl⟩
theorem cev_any(h:Ch w c lo b lj j g gs gm d jr v N last ev):Calls Tryz.prog 47 #[ptr c] w (Disk.Ends (.int .i64 ev) w):=by
 have HM:=hid (made_any h);have c3:=h.c3;clear h;unfold ptr at *;go_enter Tryz.func47,Tryz.ntmps47;go_wp2_with fail;refine HM.out.mono ?_;rintro e u ⟨rfl,rfl⟩;go_wp2_with fail;go_ret;exact⟨rfl,rfl⟩
theorem cfree_any(h:Ch w c lo b lj j g gs gm d jr v N last ev):Calls Tryz.prog 49 #[ptr c] w (EndsBelow (.int .i64 ((JourM.room d.n:Int)-JourM.takes jr.gs)) w):=by
 have HM:=hid (made_any h);have HW:Hid (IntKind.i64.wrap ((JourM.room d.n:Int)-JourM.takes jr.gs)=(JourM.room d.n:Int)-JourM.takes jr.gs):=hid (IntWalk.i64_in _ (by
  have h1:=h.jn.fit;have h2:=h.jn.disk.ok.2.1;have h3:JourM.room d.n≤65536:=by unfold JourM.room;omega
  omega))
 have HH:=hid h;clear h;unfold ptr at *;go_enter Tryz.func49,Tryz.ntmps49;go_wp2_with fail;refine HM.out.mono ?_;rintro e u ⟨rfl,rfl⟩;go_upto_region 3 with fail;have HS:Hid (w.drew.cell? ⟨c,0,none⟩=some (.pointer (some ⟨j,0,none⟩))):=hid HH.out.c0;have HH0:=hid (HH.out.below (Below.refl w.heap.size w).drew);have HBD:=hid (Below.refl w.heap.size w).drew;clear HH;refine Frm.wh_start (fun u=>u.cell? ⟨c,0,none⟩=some (.pointer (some ⟨j,0,none⟩))) (by kernel_rfl) ?_;generalize w.drew=u0 at *;have HR:=hid (Jou.jroom_any HH0.out.jn);unfold ptr at HR;refine Frm.wa 0 6 (.pointer (some ⟨c,0,none⟩)) HS.out ?_;go_frame;refine Frm.wb 1 7 (.pointer (some ⟨c,0,none⟩)) HS.out ?_;go_frame;refine Frm.wb 2 8 (.pointer (some ⟨c,0,none⟩)) HS.out ?_;go_frame;refine Frm.wb 3 9 (.pointer (some ⟨j,0,none⟩)) HS.out ?_;go_frame;refine Frm.wa 5 11 (.pointer (some ⟨c,0,none⟩)) HS.out ?_;go_frame;refine Frm.wb 6 12 (.pointer (some ⟨c,0,none⟩)) HS.out ?_;go_frame;refine Frm.wb 7 13 (.pointer (some ⟨c,0,none⟩)) HS.out ?_;go_frame;refine Frm.wb 8 14 (.pointer (some ⟨j,0,none⟩)) HS.out ?_;go_frame;refine Frm.wh_call 4 10 29 #[.pointer (some ⟨j,0,none⟩)] rfl rfl (by kernel_rfl) rfl ?_ ?_
 ·go_simp
 refine(HR.out).mono ?_;rintro e w1 ⟨rfl,hb1⟩;have HH1:=hid (HH0.out.below hb1);have HB1:=hid (HBD.out.trans (hb1.mono HBD.out.size));have HS1:=hid HH1.out.c0;clear HS hb1 HR HH0;have HS:=HS1;have HU:=hid (Jou.jused_any HH1.out.jn);unfold ptr at HU;refine⟨_,rfl,HS.out,?_⟩;go_frame;refine Frm.wh_call 9 15 27 #[.pointer (some ⟨j,0,none⟩)] rfl rfl (by kernel_rfl) rfl ?_ ?_
 ·go_simp
 refine(HU.out).mono ?_;rintro e u ⟨rfl,rfl⟩;refine⟨_,rfl,HS.out,?_⟩;go_frame;refine Frm.wd 10 16 (.int .i64 ((JourM.room d.n:Int)-JourM.takes jr.gs)) HS.out (fun w' hw'=> ?_) ?_
 ·have hw:=HW.out;go_simp
 go_frame;refine Frm.wa 11 2 (.int .i64 ((JourM.room d.n:Int)-JourM.takes jr.gs)) HS.out ?_;go_frame;refine wpAnyH_done (by kernel_rfl) ?_ _;go_wp2_with fail;go_ret;exact⟨rfl,HB1.out⟩
end
end Go.Proofs.YtdjhlhellkajfaaGreat.Cch
namespace Go.Proofs.YtdjhlhellkajfaaGreat.Cch
open Go.RowKit Codec Cod
open Disk (Turn Dk Dsk ptr)
open JourM (Jr)
open Jou (Jn It RowsB)
def laysF (es:List Ent):Nat→List Nmb
 |0=>[]
 |k+1=>lay (laysF es k) k (es.getD k ⟨baOf [],baOf []⟩)
theorem laysF_len(es:List Ent):∀k,(laysF es k).length≤k
 |0=>Nat.le_refl _
 |k+1=>by
  have h1:=laysF_len es k;have h2:(cut (laysF es k) (es.getD k ⟨baOf [],baOf []⟩).k).length≤(laysF es k).length:=List.length_filter_le _ _;show(lay _ _ _).length≤_;unfold lay;rw[List.length_append];simp only[List.length_cons,List.length_nil];omega
theorem copen_err(w:World)(p:Value)(e:Int)(he:(e==0)=false)(h:Calls Tryz.prog 13 #[p] w (Disk.Ends (.tuple #[.pointer none,.int .i64 e]) w)):Calls Tryz.prog 38 #[p] w (Disk.Ends (.tuple #[.pointer none,.int .i64 e]) w):=by
 have HJ:=hid h;clear h;go_enter Tryz.func38,Tryz.ntmps38;go_wp2_with fail;refine HJ.out.mono ?_;rintro e2 u ⟨rfl,rfl⟩;go_wp2_with fail;go_ret2;exact⟨rfl,rfl⟩
theorem newshelf_any(w:World):Calls Tryz.prog 84 #[] w (fun e w'=>∃b,e= .returned (.agg #[.map (some b),.int .i64 0])∧w'.heap[b]? =some (.map #[] 0)∧w.heap.size≤b∧Below w.heap.size w w'):=by
 have hmm:= @run_makeMap Tryz.prog;go_enter Tryz.func84,Tryz.ntmps84;go_wp2_with fail;have h1:=heap_alloc_new (w.alloc (.cells #[.map (some (w.heap.size+1)),.int .i64 0] 93)) (.map #[] 0);have h0:=heap_alloc_new w (.cells #[.map (some (w.heap.size+1)),.int .i64 0] 93);have h2:=(Below.heap_alloc (w.alloc (.cells #[.map (some (w.heap.size+1)),.int .i64 0] 93)) (.map #[] 0) w.heap.size (by simp)).trans h0;have z0:=cell_at h2 0;have z1:=cell_at h2 1;rw[World.size_alloc] at h1;exact bodyPost_ret (v:= .agg #[.map (some (w.heap.size+1)),.int .i64 0]) (by simp[results,Tryz.results84,go_sem,z0,z1]) rfl ⟨w.heap.size+1,rfl,h1,by omega,((Below.refl _ w).alloc (Nat.le_refl _) _).alloc (by simp) _⟩
theorem cobj_last{w:World}{c j b last:Nat}{ev:Int}(h:w.heap[c]? =some (cobj j b last ev)):(w.setCell ⟨c,1+1,none⟩ (.int .i64 ((last:Int)+1))).heap[c]? =some (cobj j b (last+1) ev):=by
 rw[set_at h];show some (Obj.cells #[.pointer (some ⟨j,0,none⟩),.map (some b),.int .i64 ((last:Int)+1),.int .i64 ev] _ (0,0))=some (cobj j b (last+1) ev);unfold cobj;push_cast;rfl
theorem sht_cb{p lo b:Nat}{w0 w w':World}(_hp:p<lo)(hs:w0.heap.size≤w.heap.size)(hlo:w0.heap.size≤lo)(h:ShT p lo b w w'):Turn [p,b] w0 w→Turn [p,b] w0 w':=fun h0=>by
 obtain⟨⟨S,ht,hS⟩,_⟩:=h;refine⟨ht.os.trans h0.os,ht.tape.trans h0.tape,ht.output.trans h0.output,Nat.le_trans h0.size ht.size,fun k hk hm=> ?_⟩;refine(ht.block k (by omega) fun hm2=> ?_).trans (h0.block k hk hm);rcases hS k hm2 with e|e|⟨e,_⟩
 ·exact hm (by simp[e])
 ·exact hm (by simp[e])
 omega
theorem sht_keep{p lo b k:Nat}{w w':World}{cs:Array Value}{T:TypeId}(h:ShT p lo b w w')(hk:w.heap[k]? =some (.cells cs T (0,0)))(hp:k≠p)(hb:k≠b)(hT:T≠188):w'.heap[k]? =some (.cells cs T (0,0)):=by
 obtain⟨⟨S,ht,hS⟩,_⟩:=h;refine(ht.block k (lt_of_heap hk) fun hm=> ?_).trans hk;rcases hS k hm with e|e|⟨_,⟨C,hC⟩,_⟩
 ·exact hp e
 ·exact hb e
 rw[hk] at hC;injection hC with hC;injection hC with _ e;exact hT e
theorem bk_new{w:World}{b lo:Nat}(h:w.heap[b]? =some (.map #[] 0)):Bk w lo b []:=by
 refine⟨.map [],fun _=> .map none,?_,fun kl hk=>by simp[Maps.has] at hk,fun t _ _=>by simp[Maps.has],fun t _ h=>absurd rfl h,fun t t' _ h=>absurd rfl h⟩;obtain⟨es,c,h1,h2⟩:=World.ownsMap_made w Tryz.prog 177 R0;rw[heap_alloc_new] at h1;injection h1 with h1;injection h1 with e1 e2;subst e1 e2;exact⟨#[],0,h,h2⟩
theorem takes_mem{x:List UInt8}{ls:List (List UInt8)}(h:x∈ls):JourM.takes1 x≤JourM.takes ls:=by
 induction ls with
 |nil=>cases h
 |cons y l ih=>
  simp only[JourM.takes];rcases List.mem_cons.1 h with rfl|h
  ·omega
  have:=ih h;omega
theorem unE_size(x:List UInt8):(unE x).k.size≤x.length:=by
 unfold unE;split
 ·show((x.drop 8).take (numU x).toNat).toArray.size≤_;simp;omega
 exact Nat.zero_le _
def COpened (w:World) (g gs gm:Nat) (d:Dsk) (jr:Jr) (e:Ending) (w':World):Prop:=
 ∃c lo b lj j v,e= .returned (.tuple #[ptr c,.int .i64 0])∧Ch w' c lo b lj j g gs gm d jr v (laysF (jr.gs.map unE) jr.gs.length) jr.gs.length 0∧Turn [g,gs,gm] w w'∧w.heap.size≤c∧w.heap.size≤j∧w.heap.size≤b∧w.heap.size≤lo
theorem copen_any(w:World)(g gs gm:Nat)(d:Dsk)(jr:Jr)(hd:∀k∈[g,gs,gm],k<w.heap.size)(h:Calls Tryz.prog 13 #[ptr g] w (Jou.Opened w g gs gm d jr))(hen:∀x∈jr.gs,unB x=true):Calls Tryz.prog 38 #[ptr g] w (COpened w g gs gm d jr):=by
 have HJ:=hid h;have HEN:=hid hen;have HNW:=hid (fun u=>newshelf_any u);have HD:=hid hd;clear h hen hd;unfold ptr at *;go_enter Tryz.func38,Tryz.ntmps38;go_wp2_with fail;refine HJ.out.mono ?_;rintro e w1 ⟨lj,j,v,rfl,hj1,ht1,hlj1⟩;have HJ1:=hid hj1;have HT1:=hid ht1;have HLJ:=hid hlj1;clear hj1 ht1 hlj1 HJ;unfold ptr;go_wp2_with fail;refine(HNW.out w1).mono ?_;rintro e w2 ⟨b,rfl,hm2,hb2,hbl2⟩;have HM2:=hid hm2;have HB2:=hid hbl2;have HBB:=hid hb2;have HLT:Hid (b<w2.heap.size):=hid (lt_of_heap hm2);clear hm2 hb2 hbl2 HNW;go_upto_region 5 with fail;obtain⟨c,hc⟩:∃c,w2.heap.size=c:=⟨_,rfl⟩
 have HCC:=hid hc;have hal:=Frm.alloc_below w2 (cobj j b 0 0);have HC3:Hid ((w2.alloc (cobj j b 0 0)).heap[c]? =some (cobj j b 0 0)):=hid (by rw[←hc];exact heap_alloc_new w2 _);have HJ3:Hid (Jn (w2.alloc (cobj j b 0 0)) lj j g gs gm d jr v):=hid (HJ1.out.below (HB2.out.trans (hal.mono HB2.out.size)));have HM3:Hid ((w2.alloc (cobj j b 0 0)).heap[b]? =some (.map #[] 0)):=hid ((Below.heap_alloc w2 _ b HLT.out).trans HM2.out);have HZ3:Hid (w.heap.size≤c∧w.heap.size≤b∧w.heap.size≤j∧lj≤c∧lj≤b∧b<c∧c<(w2.alloc (cobj j b 0 0)).heap.size):=hid (by
  have h1:=HT1.out.size;have h2:=HB2.out.size;have h3:=HBB.out;have h4:=HJ1.out.le;have h5:=HLT.out;have h6:=HLJ.out;rw[World.size_alloc];omega)
 have HT3:Hid (Turn [g,gs,gm] w (w2.alloc (cobj j b 0 0))):=hid (HT1.out.below (HB2.out.trans (hal.mono HB2.out.size)));clear hal HJ1 HM2 HB2 HBB HLT HT1 HLJ;rw[hc];unfold cobj at *;simp only[Int.natCast_zero] at *;generalize w2.alloc (.cells #[.pointer (some ⟨j,0,none⟩),.map (some b),.int .i64 0,.int .i64 0] 95)=w3 at *;clear hc HCC;have HC3':Hid (w3.heap[c]? =some (cobj j b 0 0)):=hid HC3.out;clear HC3;have HG:=hid (Jou.groups_any HJ3.out);unfold ptr at HG;go_wp2_with fail;refine HG.out.mono ?_;rintro e w4 ⟨A,cg,rfl,hnr,_,_,hb4⟩;have HB4:=hid hb4;have HR4:=hid (hnr [c,b] (by intro q hq;have:=HZ3.out;simp at hq;omega));have HC4:Hid (w4.heap[c]? =some (cobj j b 0 0)):=hid ((hb4.block c HZ3.out.2.2.2.2.2.2).trans HC3'.out);have HH4:Hid (Ch w4 c w4.heap.size b lj j g gs gm d jr v [] 0 0):=hid ⟨HC4.out,HJ3.out.below hb4,⟨cell_at HC4.out 1,cell_at HC4.out 2,free_at HC4.out 2,bk_new ((hb4.block b (by have:=HZ3.out;omega)).trans HM3.out),nice_nil,by have:=HZ3.out;omega,lt_of_heap HC4.out,by have:=HZ3.out;have:=hb4.size;omega⟩,⟨HZ3.out.2.2.2.1,HZ3.out.2.2.2.2.1,Nat.le_trans HJ3.out.le hb4.size⟩,Nat.le_refl _⟩;have HNN:Hid (jr.gs.length≤65536):=hid (by have h1:=JourM.takes_length jr.gs;have h2:=HJ3.out.fit;have h3:=HJ3.out.disk.ok.2.1;unfold JourM.room at h2;omega);have HXL:Hid (∀x∈jr.gs,x.length≤5000000):=hid (fun x hx=>by have h1:=takes_mem hx;have h2:=HJ3.out.fit;have h3:=HJ3.out.disk.ok.2.1;unfold JourM.room at h2;unfold JourM.takes1 FrameM.need at h1;omega);obtain⟨n,hn⟩:∃n,jr.gs.length=n:=⟨_,rfl⟩
 have HNE:=hid hn;rw[hn] at HR4 ⊢;have hn1:(n:Int)≤65536:=by have:=HNN.out;omega
 obtain⟨lo,hlo⟩:∃lo,w4.heap.size=lo:=⟨_,rfl⟩
 rw[hlo] at HH4;have HLO:=hid hlo;clear hnr hb4 hn hlo HG HC3' HC4 HM3 HJ3;go_wp2_with fail;go_loopw [26] (fun i wr=>∃k:Nat,k≤n∧i= .int .i64 k∧Ch wr c lo b lj j g gs gm d jr v (laysF (jr.gs.map unE) k) k 0∧Turn [c,b] w4 wr) (fun i _=>n-(Go.RowKit.intOf i).toNat)
 case atStart=>exact⟨0,Nat.zero_le _,rfl,HH4.out,Turn.refl _ _⟩
 case round=>
  obtain⟨k,hk,rfl,hh,ht⟩:=hrel;have HH:=hid hh;have HT:=hid ht;clear hh ht HH4;by_cases hlt:k<n
  ·have hkl:k<jr.gs.length:=by rw[HNE.out];exact hlt
   obtain⟨rb,ro,Ak,ck,hat⟩:=(HR4.out.turn HT.out (fun q hq=> .inl hq)).at hlt;have hidx:=hat.index cg;obtain⟨_,hrc,hbk,hc1,hc2,_,_⟩:=hat;have hmem:jr.gs.getD k []∈jr.gs:=by rw[List.getD_eq_getElem?_getD,List.getElem?_eq_getElem hkl];exact List.getElem_mem _
   have HXX:=hid (HXL.out _ hmem);have HUB:=hid (HEN.out _ hmem);have HUP:=hid (unpack_any wr wr.heap.size (jr.gs.getD k []).length ck Ak (jr.gs.getD k []) hbk.byts (Nat.le_refl _) hc1 (by have:=HXX.out;omega));rw[HUB.out] at HUP;have HUE:Hid ((jr.gs.map unE).getD k ⟨baOf [],baOf []⟩=unE (jr.gs.getD k [])):=hid (by simp[List.getD_eq_getElem?_getD,hkl]);have HUS:=hid (unE_size (jr.gs.getD k []));clear hbk hc1 hc2 hkl hmem HUB;generalize unE (jr.gs.getD k [])=en at *;obtain⟨ek,ev⟩:=en;unfold entV at HUP;dsimp only at *;generalize (jr.gs.getD k []).length=lx at *;go_wp2_with fail;refine HUP.out.mono ?_;rintro e w6 ⟨rfl,hb6⟩;have HH6:=hid (HH.out.below hb6);have HT6:=hid (HT.out.below hb6);have HNL:Hid ((laysF (jr.gs.map unE) k).length≤1000000):=hid (by have:=laysF_len (jr.gs.map unE) k;have:=HNN.out;have:=HNE.out;omega);have HKS:Hid (ek.size≤1000000000):=hid (by have:=HUS.out;have:=HXX.out;omega);have HKB:Hid (k≤65536):=hid (by have:=HNN.out;have:=HNE.out;omega);clear hb6 HH HT HUP hrc hidx;go_upto_region 11 with fail;have HS:Hid ((w6.alloc (.cells #[.string ek,.string ev] 62 (0,0))).drew.heap[w6.heap.size]? =some (.cells #[.string ek,.string ev] 62 (0,0))):=hid (heap_alloc_new w6 (.cells #[.string ek,.string ev] 62 (0,0)));have HH7:Hid (Ch (w6.alloc (.cells #[.string ek,.string ev] 62 (0,0))).drew c lo b lj j g gs gm d jr v (laysF (jr.gs.map unE) k) k 0):=hid (HH6.out.below (Frm.alloc_below w6 (.cells #[.string ek,.string ev] 62 (0,0))).drew);have HT7:Hid (Turn [c,b] w4 (w6.alloc (.cells #[.string ek,.string ev] 62 (0,0))).drew):=hid (HT6.out.below (Frm.alloc_below w6 (.cells #[.string ek,.string ev] 62 (0,0))).drew);clear HH6 HT6;refine Frm.wh_start (fun u=>u.heap[w6.heap.size]? =some (.cells #[.string ek,.string ev] 62 (0,0))) (by kernel_rfl) ?_;generalize (w6.alloc (.cells #[.string ek,.string ev] 62 (0,0))).drew=u0 at *;have HP:=hid (put_any u0 c 1 lo b k (laysF (jr.gs.map unE) k) ⟨ek,ev⟩ HH7.out.sh HNL.out HKS.out HH7.out.low (by have:=HKB.out;omega));unfold entV at HP;refine Frm.wa 0 37 (.pointer (some ⟨c,0,none⟩)) HS.out ?_;go_frame;refine Frm.wb 1 38 (.pointer (some ⟨c,0,none⟩)) HS.out ?_;go_frame;refine Frm.wb 2 39 (.pointer (some ⟨c,1,none⟩)) HS.out ?_;go_frame;refine Frm.wd 3 40 (.agg #[.string ek,.string ev]) HS.out (fun w' hw'=> ?_) ?_
   ·have h1:=cell_at hw' 0;have h2:=cell_at hw' 1;go_simp
   go_frame;refine Frm.wh_call 4 41 85 #[.pointer (some ⟨c,1,none⟩),.agg #[.string ek,.string ev]] rfl rfl (by kernel_rfl) rfl ?_ ?_
   ·go_simp
   refine(HP.out).mono ?_;rintro e w8 ⟨rfl,hs8,ht8,hp8⟩;have hc8:w8.heap[c]? =some (cobj j b (k+1) 0):=hp8.trans (cobj_last HH7.out.hd);have HH8:=hid (HH7.out.shelved ht8 hs8 hc8);have HT8:=hid (sht_cb HH7.out.sh.pl HT7.out.size (Nat.le_of_eq HLO.out) ht8 HT7.out);have HS8:Hid (w8.heap[w6.heap.size]? =some (.cells #[.string ek,.string ev] 62 (0,0))):=hid (sht_keep ht8 HS.out (fun e=>by have h1:=HS.out;rw[e,HH7.out.hd] at h1;injection h1 with h1;injection h1 with _ h2;cases h2) (by obtain⟨es',cl',hm⟩:=HH7.out.map_at;intro e;have h1:=HS.out;rw[e,hm] at h1;cases h1) (by decide));clear HS hc8 hs8 ht8 hp8 HP;have HS:=HS8;refine⟨_,rfl,HS.out,?_⟩;go_frame;refine wpAnyH_done (by kernel_rfl) ?_ _;go_wp2_with fail;go_roundw
   case rel=>exact⟨k+1,by omega,by go_num,by
    have:=HH8.out;show Ch _ c lo b lj j g gs gm d jr v (lay (laysF (jr.gs.map unE) k) k ((jr.gs.map unE).getD k ⟨baOf [],baOf []⟩)) (k+1) 0;rw[HUE.out];exact this,HT8.out⟩
   case measure=>simp[Go.RowKit.intOf];omega
  obtain rfl:k=n:=by omega
  have HTE:Hid (Turn [g,gs,gm] w wr):=hid ((HT3.out.below HB4.out).then_ HT.out (fun q hq=> .inr (by have:=HZ3.out;simp at hq;omega)));have HF:Hid (Ch wr c lo b lj j g gs gm d jr v (laysF (jr.gs.map unE) jr.gs.length) jr.gs.length 0):=hid (by rw[HNE.out];exact HH.out);have HLL:Hid (w.heap.size≤lo):=hid (by rw[←HLO.out];exact Nat.le_trans HT3.out.size HB4.out.size);go_wp2_with fail;go_ret2;exact⟨c,lo,b,lj,j,v,rfl,HF.out,HTE.out,HZ3.out.1,HZ3.out.2.2.1,HZ3.out.2.1,HLL.out⟩
end Go.Proofs.YtdjhlhellkajfaaGreat.Cch
namespace Go.Proofs.YtdjhlhellkajfaaGreat.Cch
open Go.RowKit Codec Cod
open Disk (Turn Dk Dsk ptr)
open JourM (Jr)
open Jou (Jn It)
def FrC (lo c b j g gs gm:Nat) (v:Value) (w w':World):Prop:=(∃S,Turn S w w'∧∀k∈S,k=c∨k=b∨(lo≤k∧IsRow w k∧RowIn w b k)∨k∈JOwn j g gs gm v)∧(b<w.heap.size→∀k,RowIn w' b k→RowIn w b k∨w.heap.size≤k)
section
variable {lo c b j g gs gm:Nat} {v v1:Value} {w w1 w2:World}
theorem FrC.of_below(h:Below w.heap.size w w1):FrC lo c b j g gs gm v w w1:=⟨⟨[],Turn.ofBelow h,by simp⟩,fun hb _ hk=> .inl (hk.back (h.block b hb))⟩
theorem FrC.own(h:Turn (JOwn j g gs gm v) w w1)(hb:b∉JOwn j g gs gm v):FrC lo c b j g gs gm v w w1:=⟨⟨_,h,fun _ hk=> .inr (.inr (.inr hk))⟩,fun hl _ hk=> .inl (hk.back (h.block b hl hb))⟩
theorem FrC.shelf(h:ShT c lo b w w1):FrC lo c b j g gs gm v w w1:=by
 obtain⟨⟨S,ht,hS⟩,hR⟩:=h;refine⟨⟨S,ht,fun k hk=> ?_⟩,hR⟩;rcases hS k hk with e|e|e
 ·exact .inl e
 ·exact .inr (.inl e)
 exact .inr (.inr (.inl e))
theorem FrC.size(h:FrC lo c b j g gs gm v w w1):w.heap.size≤w1.heap.size:=by
 obtain⟨⟨S,ht,_⟩,_⟩:=h;exact ht.size
theorem FrC.trans(h:FrC lo c b j g gs gm v w w1)(h2:FrC lo c b j g gs gm v1 w1 w2)(hv:∀q,v1.ownBlock=some q→v.ownBlock=some q∨w.heap.size≤q)(hb:b<w.heap.size):FrC lo c b j g gs gm v w w2:=by
 obtain⟨⟨S,ht,hS⟩,hR⟩:=h;obtain⟨⟨S2,ht2,hS2⟩,hR2⟩:=h2;refine⟨⟨S++S2.filter (fun k=>decide (k<w.heap.size)),(ht.more (S':=S++S2.filter (fun k=>decide (k<w.heap.size))) (fun k hk=>List.mem_append_left _ hk)).then_ ht2 (fun k hk=> ?_),fun k hk=> ?_⟩,fun _ k hk=> ?_⟩
 ·by_cases e:k<w.heap.size
  ·exact .inl (List.mem_append_right _ (List.mem_filter.2 ⟨hk,by simpa using e⟩))
  exact .inr (by omega)
 ·rcases List.mem_append.1 hk with hk|hk
  ·exact hS k hk
  obtain⟨hk,hlt⟩:=List.mem_filter.1 hk;have hlt:k<w.heap.size:=by simpa using hlt
  by_cases hm:k∈S
  ·exact hS k hm
  rcases hS2 k hk with e|e|⟨e,⟨C,hC⟩,hin⟩|e
  ·exact .inl e
  ·exact .inr (.inl e)
  ·exact .inr (.inr (.inl ⟨e,⟨C,(ht.block k hlt hm).symm.trans hC⟩,(hR hb k hin).resolve_right (by omega)⟩))
  refine .inr (.inr (.inr ?_));unfold JOwn at e ⊢;rcases List.mem_append.1 e with e|e
  ·exact List.mem_append_left _ e
  refine List.mem_append_right _ ?_;rcases hv k (by simpa using e) with e2|e2
  ·simpa using e2
  omega
 rcases hR2 (Nat.lt_of_lt_of_le hb ht.size) k hk with e|e
 ·exact hR hb k e
 exact .inr (Nat.le_trans ht.size e)
theorem FrC.keep(h:FrC lo c b j g gs gm v w w1){k:Nat}(hk:k<w.heap.size)(hc:k≠c)(hb:k≠b)(hr:lo≤k→¬IsRow w k)(ho:k∉JOwn j g gs gm v):w1.heap[k]? =w.heap[k]? :=by
 obtain⟨⟨S,ht,hS⟩,_⟩:=h;refine ht.block k hk fun hm=> ?_;rcases hS k hm with e|e|e|e
 ·exact hc e
 ·exact hb e
 ·exact hr e.1 e.2.1
 exact ho e
theorem FrC.low{base:Nat}(h:FrC lo c b j g gs gm v w w1)(hb:base≤w.heap.size)(hl:base≤lo∧base≤c∧base≤b)(ho:∀k∈JOwn j g gs gm v,base≤k):Below base w w1:=by
 obtain⟨⟨S,ht,hS⟩,_⟩:=h;refine ht.low (fun k hk=> ?_) hb;rcases hS k hk with e|e|e|e
 ·omega
 ·omega
 ·omega
 exact ho k e
end
section
variable {w:World} {c lo b lj j g gs gm last:Nat} {d:Dsk} {jr:Jr} {v:Value} {N:List Nmb} {ev:Int}
theorem Ch.own_lt(h:Ch w c lo b lj j g gs gm d jr v N last ev):∀q∈JOwn j g gs gm v,q<w.heap.size:=fun q hq=>by
 unfold JOwn at hq;rcases List.mem_append.1 hq with e|e
 ·exact Nat.lt_of_lt_of_le (h.jn.lows q e) h.jn.le
 obtain⟨_,cur,hc⟩:=h.own_type (by simpa using e);exact lt_of_heap hc
end
theorem bts_owns{w:World}{base n c:Nat}{A:Option Addr}{xs:List UInt8}{S:List Nat}(h:Owns w base (.slice A n c) n xs)(hS:∀k∈S,k<base):Jou.Bts w S A n xs:=
 ⟨h.len,fun hn=>by
  obtain⟨b,off,e,hl,hc⟩:=h.byts.at_ hn;obtain⟨g,cap,hv,hg,_⟩:=World.ownsRow.form h hn;have e2:A=some ⟨g,0,none⟩:=by injection hv
  rw[e2] at e;injection e with e;injection e with e3;subst e3;refine⟨g,off,?_,hl,fun hm=> ?_,hc⟩
  ·rw[e2];congr 2
  ·have:=hS g hm;omega⟩
end Go.Proofs.YtdjhlhellkajfaaGreat.Cch
