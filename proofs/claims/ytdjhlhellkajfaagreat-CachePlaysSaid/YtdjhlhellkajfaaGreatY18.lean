/-
  Texts DMem, DSmall, DNew, in one file. What each proves, and its conditions, stand at its head below.
-/
import Derived.Test.YtdjhlhellkajfaaGreatY9
import Derived.Test.YtdjhlhellkajfaaGreatRows
import Derived.WalkKit
import Derived.WalkSpells
import Derived.WalkLawsBesides
import Derived.Below
import Derived.OwnWalk
import Derived.Lib.Hide
import Derived.Maps.OwnSet
import Derived.Maps.RangeWalk
import Derived.Deep.MidRow
import Derived.Deep.WholeRow
import Derived.Lib.SlKeysI
set_option maxRecDepth 100000
set_option maxHeartbeats 400000
open Go.Lib (hid)
namespace Go.Proofs.YtdjhlhellkajfaaGreat.Disk
open Go.RowKit Go.Maps Go.ChangeMaps Go.MapKept
open Go.WideElems (Fit rd rg pl rd_val elemAt)
def byt (x:UInt8):Value:= .int .u8 (x.toNat:Int)
def cel (xs:List UInt8):List Value:=xs.map byt
theorem cel_length(xs:List UInt8):(cel xs).length=xs.length:=by simp[cel]
theorem cel_app(xs ys:List UInt8):cel xs++cel ys=cel (xs++ys):=by simp[cel]
theorem cel_one(xs:List UInt8):∀u∈cel xs,u.oneCell'=true:=by
 intro u hu;obtain⟨x,_,rfl⟩:=List.mem_map.1 hu;rfl
theorem cel_get(xs:List UInt8)(j:Nat)(h:j<xs.length):(cel xs)[j]? =some (byt (xs.getD j 0)):=by simp[cel,h]
theorem cel_all(xs:List UInt8):(cel xs).toArray.all (·.oneCell')=true:=all_oneCell_toArray (cel_one xs)
theorem cel_take(xs:List UInt8)(n:Nat):(cel xs).take n=cel (xs.take n):=by simp[cel]
theorem cel_drop(xs:List UInt8)(n:Nat):(cel xs).drop n=cel (xs.drop n):=by simp[cel]
theorem lt_of_heap{w:World}{g:Nat}{o:Obj}(h:w.heap[g]? =some o):g<w.heap.size:=(Array.getElem?_eq_some_iff.1 h).1
structure Turn (S:List Nat) (w w':World):Prop where
 os:w'.os=w.os
 tape:w'.tape=w.tape
 output:w'.output=w.output
 size:w.heap.size≤w'.heap.size
 block:∀k,k<w.heap.size→k∉S→w'.heap[k]? =w.heap[k]?
theorem Turn.refl(S:List Nat)(w:World):Turn S w w:=⟨rfl,rfl,rfl,Nat.le_refl _,fun _ _ _=>rfl⟩
section
variable {S S':List Nat} {w w1 w2:World}
theorem Turn.then_(h:Turn S w w1)(h2:Turn S' w1 w2)(hS:∀k∈S',k∈S∨w.heap.size≤k):Turn S w w2:=
 ⟨h2.os.trans h.os,h2.tape.trans h.tape,h2.output.trans h.output,Nat.le_trans h.size h2.size,fun k hk hn=>
  (h2.block k (Nat.lt_of_lt_of_le hk h.size) (fun hm=>by rcases hS k hm with h|h;exact hn h;omega)).trans (h.block k hk hn)⟩
theorem Turn.trans(h:Turn S w w1)(h2:Turn S w1 w2):Turn S w w2:=h.then_ h2 fun _ hk=> .inl hk
theorem Turn.more(h:Turn S w w1)(hS:∀k∈S,k∈S'):Turn S' w w1:=⟨h.os,h.tape,h.output,h.size,fun k hk hn=>h.block k hk fun hm=>hn (hS k hm)⟩
theorem Turn.grown(h:Turn S w w1){row:Option Nat}(hg:w1.grownBy w2 row)(hr:∀k,row=some k→k∈S∨w.heap.size≤k):Turn S w w2:=
 ⟨hg.os.trans h.os,hg.tape.trans h.tape,hg.output.trans h.output,Nat.le_trans h.size hg.size,fun k hk hn=>
  (hg.block k (Nat.lt_of_lt_of_le hk h.size) (fun he=>by rcases hr k he.symm with h|h;exact hn h;omega)).trans (h.block k hk hn)⟩
theorem Turn.below(h:Turn S w w1)(hb:Below w1.heap.size w1 w2):Turn S w w2:=
 ⟨hb.os.trans h.os,hb.tape.trans h.tape,hb.output.trans h.output,Nat.le_trans h.size hb.size,fun k hk hn=>(hb.block k (Nat.lt_of_lt_of_le hk h.size)).trans (h.block k hk hn)⟩
theorem Turn.alloc(h:Turn S w w1)(o:Obj):Turn S w (w1.alloc o):=h.grown (World.grownBy_alloc w1 o none) (by simp)
theorem Turn.drew(h:Turn S w w1):Turn S w w1.drew:=⟨h.os,h.tape,h.output,h.size,h.block⟩
theorem Turn.drewN(h:Turn S w w1)(m:Nat):Turn S w (w1.drewN m):=⟨h.os,h.tape,h.output,h.size,h.block⟩
theorem Turn.setCell(h:Turn S w w1){p:Addr}(hp:p.block∈S∨w.heap.size≤p.block)(u:Value):Turn S w (w1.setCell p u):=
 ⟨h.os,h.tape,h.output,by simp[World.setCell];exact h.size,fun k hk hn=>(Below.heap_setCell w1 p u k (by rintro rfl;rcases hp with h|h;exact hn h;omega)).trans (h.block k hk hn)⟩
theorem heap_setCells{b k:Nat}(hk:k≠b):∀(vs:List Value) (o:Nat) (w:World),(w.setCells b o vs).heap[k]? =w.heap[k]?
 |[],_,_=>rfl
 |v::r,o,w=>(heap_setCells hk r (o+1) (w.setCell ⟨b,o,none⟩ v)).trans (Below.heap_setCell w _ v k hk)
theorem size_setCells{b:Nat}:∀(vs:List Value) (o:Nat) (w:World),(w.setCells b o vs).heap.size=w.heap.size
 |[],_,_=>rfl
 |v::r,o,w=>(size_setCells r (o+1) (w.setCell ⟨b,o,none⟩ v)).trans (by simp[World.setCell])
theorem os_setCells{b:Nat}:∀(vs:List Value) (o:Nat) (w:World),(w.setCells b o vs).os=w.os∧(w.setCells b o vs).tape=w.tape∧(w.setCells b o vs).output=w.output
 |[],_,_=>⟨rfl,rfl,rfl⟩
 |v::r,o,w=>os_setCells r (o+1) (w.setCell ⟨b,o,none⟩ v)
theorem Turn.setCells(h:Turn S w w1){b:Nat}(hb:b∈S∨w.heap.size≤b)(o:Nat)(vs:List Value):Turn S w (w1.setCells b o vs):=by
 obtain⟨e1,e2,e3⟩:=os_setCells (b:=b) vs o w1;exact⟨e1.trans h.os,e2.trans h.tape,e3.trans h.output,by rw[size_setCells];exact h.size,
  fun k hk hn=>(heap_setCells (by rintro rfl;rcases hb with h|h;exact hn h;omega) vs o w1).trans (h.block k hk hn)⟩
theorem Turn.low(h:Turn S w w1){base:Nat}(hS:∀k∈S,base≤k)(hb:base≤w.heap.size):Below base w w1:=
 ⟨h.os,h.tape,h.output,h.size,fun k hk=>h.block k (by omega) (fun hm=>by have:=hS k hm;omega)⟩
theorem Turn.ofBelow(h:Below w.heap.size w w1):Turn S w w1:=(Turn.refl S w).below h
end
theorem rangeAt_keep{w w':World}{b o:Nat}{cs:List Value}(h:w.rangeAt b o cs)(hb:w'.heap[b]? =w.heap[b]?):w'.rangeAt b o cs:=fun j v hv=>(World.cell?_of_block (w:=w) hb).trans (h j v hv)
theorem frozen_keep{w w':World}{p:Addr}(hb:w'.heap[p.block]? =w.heap[p.block]?):w'.frozen? p=w.frozen? p:=by simp[World.frozen?,hb]
theorem there_keep{w w':World}{b o n:Nat}(h:w.there b o n)(hb:w'.heap[b]? =w.heap[b]?):w'.there b o n:=fun j hj=>
 ⟨by rw[World.cell?_of_block (w:=w) hb];exact(h j hj).1,by rw[frozen_keep (w:=w) hb];exact(h j hj).2⟩
theorem there_part{w:World}{b o n o' n':Nat}(h:w.there b o n)(h1:o≤o')(h2:o'+n'≤o+n):w.there b o' n':=fun j hj=>by
 have:=h (o'-o+j) (by omega);rwa [show o+(o'-o+j)=o'+j by omega] at this
theorem there_block{w:World}{b:Nat}{C:Array Value}{t:TypeId}(hb:w.heap[b]? =some (.cells C t (0,0))):w.there b 0 C.size:=fun j hj=>by
 simp[World.cell?,World.frozen?,hb,hj]
theorem cell_at{w:World}{g:Nat}{cs:Array Value}{T:TypeId}(h:w.heap[g]? =some (.cells cs T (0,0)))(i:Nat):w.cell? ⟨g,i,none⟩=cs[i]? :=by simp[World.cell?,h]
theorem free_at{w:World}{g:Nat}{cs:Array Value}{T:TypeId}(h:w.heap[g]? =some (.cells cs T (0,0)))(i:Nat):w.frozen? ⟨g,i,none⟩=false:=by simp[World.frozen?,h]
theorem set_at{w:World}{g:Nat}{cs:Array Value}{T:TypeId}(h:w.heap[g]? =some (.cells cs T (0,0)))(i:Nat)(u:Value):
  (w.setCell ⟨g,i,none⟩ u).heap[g]? =some (.cells (cs.setIfInBounds i u) T (0,0)):=by simp[World.setCell,Array.getElem?_modify,h]
def secV (s:List UInt8):Value:= .agg (cel s).toArray
def R0:Value→Option (DataW Value×List MemPlace):=fun v=>some (.held v,[])
def ky (i:Nat):Lit:= .int .i64 i
def Told (D:DataW Value) (n:Nat) (f:Nat→Option (List UInt8)):Prop:=
 (∀kl,Maps.has D kl=true→∃i:Nat,i<n∧kl=ky i)∧
 ∀i:Nat,i<n→(f i=none→Maps.has D (ky i)=false)∧(∀s,f i=some s→∀z,D.atKey (ky i) z= .held (secV s))
theorem ky_inj{i j:Nat}(h:ky i=ky j):i=j:=by
 have h1:((i:Nat):Int)=(j:Nat):=by simpa [ky] using h
 omega
theorem Told.empty(n:Nat):Told (.map []) n fun _=>none:=
 ⟨fun kl h=>by simp[Maps.has] at h,fun i _=>⟨fun _=>by simp[Maps.has],fun s h=>by cases h⟩⟩
theorem Told.has{D:DataW Value}{n:Nat}{f:Nat→Option (List UInt8)}(h:Told D n f){i:Nat}(hi:i<n):Maps.has D (ky i)=(f i).isSome:=by
 cases hf:f i with
 |none=>exact(h.2 i hi).1 hf
 |some s=>exact Maps.has_true_of_atKey ((h.2 i hi).2 s hf)
theorem isKey_ky(i:Nat):WideAt.IsKeyLit (ky i):=by first|exact trivial|simp[ky,WideAt.IsKeyLit]
theorem Told.put{D:DataW Value}{n:Nat}{f:Nat→Option (List UInt8)}(h:Told D n f)(hD:Maps.IsMap D){i:Nat}(hi:i<n)(s:List UInt8):
  Told (D.put (ky i) (.held (secV s))) n (upd f i (some s)):=by
 refine⟨fun kl hk=> ?_,fun j hj=> ?_⟩
 ·by_cases he:kl=ky i
  ·exact⟨i,hi,he⟩
  rw[Maps.has_put_other he] at hk;exact h.1 kl hk
 by_cases he:j=i
 ·subst he;rw[upd_same];refine⟨fun h=>(by cases h),fun t ht z=> ?_⟩;injection ht with ht;subst ht;exact Maps.atKey_put_same hD (isKey_ky j) _ z
 rw[upd_other f _ he,Maps.has_put_other (fun e=>he (ky_inj e))];exact⟨(h.2 j hj).1,fun t ht z=>by rw[Maps.atKey_put_other (fun e=>he (ky_inj e))];exact(h.2 j hj).2 t ht z⟩
def Ints (D:DataW Value):Prop:=∀es,D= .map es→∀p∈es,∃x,p.1=Lit.int .i64 x
theorem ints_of{w:World}{gm nn:Nat}{D:DataW Value}(h:w.ownsMap Tryz.prog 3 R0 gm nn D):Ints D:=by
 obtain⟨es,hD,hko⟩:=h.keysOf;intro es' he p hp;rw[hD] at he;injection he with he;subst he;obtain⟨v,hv⟩:=hko p hp;obtain⟨x,_,hx,_⟩:=Maps.keyOf_i64 Tryz.underlying3 hv;exact⟨x,hx⟩
theorem Told.keys{D:DataW Value}{n:Nat}{f:Nat→Option (List UInt8)}(h:Told D n f)(hD:Maps.Tidy D)(hI:Ints D):((waitsOf n f).map (fun i:Nat=>(i:Int))).Perm (intKeys D):=by
 obtain⟨es,rfl,hp⟩:=hD;refine perm_intKeys hp (hI es rfl) ?_ fun x=> ?_
 ·refine List.pairwise_map.2 ((waitsOf_nodup n f).imp fun {a b} hne e=>hne ?_);omega
 constructor
 ·intro hx;obtain⟨i,hi,rfl⟩:=List.mem_map.1 hx;obtain⟨h1,h2⟩:=waitsOf_mem.1 hi;exact(h.has h1).trans h2
 intro hx;obtain⟨i,hi,he⟩:=h.1 _ hx;have hs:=(h.has hi).symm.trans (he ▸ hx);have he:x=(i:Int):=by simpa [ky] using he
 exact List.mem_map.2 ⟨i,waitsOf_mem.2 ⟨hi,hs⟩,he.symm⟩
theorem length_intKeys{H:Type}{D:DataW H}(hD:Maps.IsMap D):(intKeys D).length=Maps.size D:=by
 obtain⟨es,rfl⟩:=hD;simp[intKeys,Maps.size]
theorem Told.size{D:DataW Value}{n:Nat}{f:Nat→Option (List UInt8)}(h:Told D n f)(hD:Maps.Tidy D)(hI:Ints D):Maps.size D≤n:=by
 have h1:=(h.keys hD hI).length_eq;rw[List.length_map,length_intKeys hD.isMap] at h1;have:=waitsOf_length n f;omega
theorem Told.sorted{D:DataW Value}{n:Nat}{f:Nat→Option (List UInt8)}(h:Told D n f)(hD:Maps.Tidy D)(hI:Ints D){ss:List Int}(hs:ss.Perm (intKeys D)):
  ss.mergeSort (fun x y=>decide (x≤y))=(waitsOf n f).map fun i:Nat=>(i:Int):=by
 have tr:∀a b c:Int,leI a b=true→leI b c=true→leI a c=true:=fun a b c h1 h2=>by simp only[leI,decide_eq_true_eq] at *;omega
 have tot:∀a b:Int,(leI a b||leI b a)=true:=fun a b=>by simp only[leI,Bool.or_eq_true,decide_eq_true_eq];omega
 refine List.Perm.eq_of_pairwise (le:=fun a b=>leI a b=true) (fun a b _ _ h1 h2=> ?_) (List.pairwise_mergeSort tr tot ss) ?_ (((List.mergeSort_perm ss leI).trans hs).trans (h.keys hD hI).symm)
 ·simp only[leI,decide_eq_true_eq] at h1 h2;omega
 refine List.pairwise_map.2 ?_;refine(List.Pairwise.filter _ (List.pairwise_lt_range (n:=n))).imp fun {a b} hab=> ?_;simp only[leI,decide_eq_true_eq];omega
def Mp (w:World) (gm n:Nat) (f:Nat→Option (List UInt8)):Prop:=∃nn D,w.ownsMap Tryz.prog 3 R0 gm nn D∧nn≤n∧Told D n f
theorem Mp.keep{w w':World}{gm n:Nat}{f:Nat→Option (List UInt8)}(h:Mp w gm n f)(hb:w'.heap[gm]? =w.heap[gm]?):Mp w' gm n f:=by
 obtain⟨nn,D,⟨es,c,h1,h2⟩,hn,hT⟩:=h;exact⟨nn,D,⟨es,c,hb.trans h1,h2⟩,hn,hT⟩
theorem key3:Maps.Keyed Tryz.prog 3:=Maps.int_keyed Tryz.underlying3
theorem ownsMap_fit{w:World}{gm nn:Nat}{D:DataW Value}(h:w.ownsMap Tryz.prog 3 R0 gm nn D):w.ownsMap Tryz.prog 3 R0 gm (Maps.size D) D:=by
 obtain⟨es,c,h1,h2,h3,h4⟩:=h;refine⟨es,c,h1,h2,?_,h4⟩;rw[h4];simp[Maps.size,length_sorted]
theorem Mp.made{w:World}{gm n:Nat}{f:Nat→Option (List UInt8)}{nn:Nat}{D:DataW Value}(h:w.ownsMap Tryz.prog 3 R0 gm nn D)(hT:Told D n f):Mp w gm n f:=
 ⟨_,D,ownsMap_fit h,hT.size (h.tidy key3) (ints_of h),hT⟩
theorem Mp.lt{w:World}{gm n:Nat}{f:Nat→Option (List UInt8)}(h:Mp w gm n f):gm<w.heap.size:=by
 obtain⟨nn,D,h,_⟩:=h;exact h.lt
theorem Mp.isMap{w:World}{gm n:Nat}{f:Nat→Option (List UInt8)}(h:Mp w gm n f){k:Nat}{cs:Array Value}{T:TypeId}{fr:Nat×Nat}(hk:w.heap[k]? =some (.cells cs T fr)):k≠gm:=by
 obtain⟨nn,D,⟨es,c,h1,_⟩,_⟩:=h;rintro rfl;rw[h1] at hk;cases hk
def Sf (w:World) (gs n:Nat) (safe:Nat→List UInt8):Prop:=gs<w.heap.size∧w.there gs 0 (n * 64)∧∀i,i<n→w.rangeAt gs (i * 64) (cel (safe i))
theorem Sf.keep{w w':World}{gs n:Nat}{safe:Nat→List UInt8}(h:Sf w gs n safe)(hb:w'.heap[gs]? =w.heap[gs]?)(hs:w.heap.size≤w'.heap.size):Sf w' gs n safe:=
 ⟨Nat.lt_of_lt_of_le h.1 hs,there_keep h.2.1 hb,fun i hi=>rangeAt_keep (h.2.2 i hi) hb⟩
theorem Sf.at_{w:World}{gs n:Nat}{safe:Nat→List UInt8}(h:Sf w gs n safe){i:Nat}(hi:i<n):w.there gs (i * 64) 64:=there_part h.2.1 (by omega) (by omega)
theorem Sf.set{w:World}{gs n:Nat}{safe:Nat→List UInt8}(h:Sf w gs n safe)(hl:∀i,i<n→(safe i).length=64){i:Nat}(hi:i<n){s:List UInt8}(hs:s.length=64):
  Sf (w.setCells gs (i * 64) (cel s)) gs n (upd safe i s):=by
 refine⟨by rw[size_setCells];exact h.1,World.there_setCells h.2.1 _ _ _,fun j hj=> ?_⟩;by_cases he:j=i
 ·subst he;rw[upd_same];exact World.rangeAt_setCells_same w gs _ _ (by rw[cel_length,hs];exact h.at_ hi)
 rw[upd_other _ _ he];refine World.rangeAt_setCells_apart (h.2.2 j hj) _ _ _ (.inr ?_);rw[cel_length,cel_length,hs,hl j hj];omega
theorem Sf.same{w:World}{gs n:Nat}{safe safe':Nat→List UInt8}(h:Sf w gs n safe)(he:∀i,i<n→safe' i=safe i):Sf w gs n safe':=
 ⟨h.1,h.2.1,fun i hi=>by rw[he i hi];exact h.2.2 i hi⟩
def fields (gs gm:Nat) (d:Dsk) (z:Int):Array Value:=
 #[.slice (some ⟨gs,0,none⟩) d.n d.n,.map (some gm),.bool d.off,.bool d.stops,.int .i64 d.left,.int .i64 z]
structure Dk (w:World) (g gs gm:Nat) (d:Dsk):Prop where
 ok:d.ok
 ne:g≠gs
 hd:∃z,w.heap[g]? =some (.cells (fields gs gm d z) 101 (0,0))
 sf:Sf w gs d.n d.safe
 mp:Mp w gm d.n d.waits
section
variable {w w':World} {g gs gm:Nat} {d:Dsk}
theorem Dk.keep(h:Dk w g gs gm d)(h1:w'.heap[g]? =w.heap[g]?)(h2:w'.heap[gs]? =w.heap[gs]?)(h3:w'.heap[gm]? =w.heap[gm]?)(hs:w.heap.size≤w'.heap.size):Dk w' g gs gm d:=
 ⟨h.ok,h.ne,by obtain⟨z,hz⟩:=h.hd;exact⟨z,h1.trans hz⟩,h.sf.keep h2 hs,h.mp.keep h3⟩
theorem Dk.lt(h:Dk w g gs gm d):g<w.heap.size:=by obtain⟨z,hz⟩:=h.hd;exact lt_of_heap hz
theorem Dk.ltm(h:Dk w g gs gm d):gm<w.heap.size:=h.mp.lt
theorem Dk.nem(h:Dk w g gs gm d):g≠gm:=by obtain⟨z,hz⟩:=h.hd;exact h.mp.isMap hz
theorem Dk.nes(h:Dk w g gs gm d):gs≠gm:=by
 have h0:=(h.sf.2.1 0 (by have:=h.ok.1;omega)).1;obtain⟨nn,D,⟨es,c,h1,_⟩,_⟩:=h.mp;rintro rfl;simp[World.cell?,h1] at h0
theorem Dk.turn{S:List Nat}(h:Dk w g gs gm d)(ht:Turn S w w')(h1:g∉S)(h2:gs∉S)(h3:gm∉S):Dk w' g gs gm d:=
 h.keep (ht.block g h.lt h1) (ht.block gs h.sf.1 h2) (ht.block gm h.ltm h3) ht.size
theorem Dk.alloc(h:Dk w g gs gm d)(o:Obj):Dk (w.alloc o) g gs gm d:=h.turn ((Turn.refl [] w).alloc o) (by simp) (by simp) (by simp)
theorem Dk.drewN(h:Dk w g gs gm d)(m:Nat):Dk (w.drewN m) g gs gm d:=h.turn ((Turn.refl [] w).drewN m) (by simp) (by simp) (by simp)
end
end Go.Proofs.YtdjhlhellkajfaaGreat.Disk
namespace Go.Proofs.YtdjhlhellkajfaaGreat.Disk
open Go.RowKit Go.Maps
def Ends (v:Value) (w:World) (e:Ending) (w':World):Prop:=e= .returned v∧w=w'
def ptr (g:Nat):Value:= .pointer (some ⟨g,0,none⟩)
def Six (w:World) (g gs gm n:Nat) (off stops:Bool) (left z:Int):Prop:=
 w.heap[g]? =some (.cells #[.slice (some ⟨gs,0,none⟩) n n,.map (some gm),.bool off,.bool stops,.int .i64 left,.int .i64 z] 101 (0,0))
section
variable {w:World} {g gs gm n:Nat} {off stops:Bool} {left z:Int}
theorem Dk.six{d:Dsk}(h:Dk w g gs gm d):∃z,Six w g gs gm d.n d.off d.stops d.left z:=h.hd
theorem Six.c0(h:Six w g gs gm n off stops left z):w.cell? ⟨g,0,none⟩=some (.slice (some ⟨gs,0,none⟩) n n):=cell_at h 0
theorem Six.c1(h:Six w g gs gm n off stops left z):w.cell? ⟨g,1,none⟩=some (.map (some gm)):=cell_at h 1
theorem Six.c2(h:Six w g gs gm n off stops left z):w.cell? ⟨g,2,none⟩=some (.bool off):=cell_at h 2
theorem Six.c3(h:Six w g gs gm n off stops left z):w.cell? ⟨g,3,none⟩=some (.bool stops):=cell_at h 3
theorem Six.c4(h:Six w g gs gm n off stops left z):w.cell? ⟨g,4,none⟩=some (.int .i64 left):=cell_at h 4
theorem Six.c5(h:Six w g gs gm n off stops left z):w.cell? ⟨g,5,none⟩=some (.int .i64 z):=cell_at h 5
theorem Six.f(h:Six w g gs gm n off stops left z)(i:Nat):w.frozen? ⟨g,i,none⟩=false:=free_at h i
theorem Six.set2(h:Six w g gs gm n off stops left z)(b:Bool):Six (w.setCell ⟨g,2,none⟩ (.bool b)) g gs gm n b stops left z:=set_at h 2 _
theorem Six.set3(h:Six w g gs gm n off stops left z)(b:Bool):Six (w.setCell ⟨g,3,none⟩ (.bool b)) g gs gm n off b left z:=set_at h 3 _
theorem Six.set4(h:Six w g gs gm n off stops left z)(k:Int):Six (w.setCell ⟨g,4,none⟩ (.int .i64 k)) g gs gm n off stops k z:=set_at h 4 _
theorem Six.set5(h:Six w g gs gm n off stops left z)(k:Int):Six (w.setCell ⟨g,5,none⟩ (.int .i64 k)) g gs gm n off stops left k:=set_at h 5 _
theorem Dk.head{w':World}{d d':Dsk}(h:Dk w g gs gm d)(hs:Six w' g gs gm d'.n d'.off d'.stops d'.left z)(ht:Turn [g] w w')(hok:d'.ok)(hn:d'.n=d.n)(h1:d'.safe=d.safe)(h2:d'.waits=d.waits):Dk w' g gs gm d':=
 ⟨hok,h.ne,⟨z,hs⟩,by rw[hn,h1];exact h.sf.keep (ht.block gs h.sf.1 (by simp;exact fun e=>h.ne e.symm)) ht.size,by rw[hn,h2];exact h.mp.keep (ht.block gm h.ltm (by simp;exact fun e=>h.nem e.symm))⟩
end
theorem made_disk(w:World)(g gs gm:Nat)(d:Dsk)(h:Dk w g gs gm d):Calls Tryz.prog 71 #[ptr g] w (Ends (.bool true) w):=by
 obtain⟨z,hz⟩:=h.six;have c0:=hz.c0;clear hz h;unfold ptr;go_enter Tryz.func71,Tryz.ntmps71;go_wp2;go_ret;exact⟨rfl,rfl⟩
theorem sectors_disk(w:World)(g gs gm:Nat)(d:Dsk)(h:Dk w g gs gm d):Calls Tryz.prog 52 #[ptr g] w (Ends (.int .i64 d.n) w):=by
 obtain⟨z,hz⟩:=h.six;have c0:=hz.c0;clear hz h;unfold ptr;go_enter Tryz.func52,Tryz.ntmps52;go_wp2;go_ret;exact⟨rfl,rfl⟩
theorem down_disk(w:World)(g gs gm:Nat)(d:Dsk)(h:Dk w g gs gm d):Calls Tryz.prog 50 #[ptr g] w (Ends (.bool d.off) w):=by
 have HM:=hid (made_disk w g gs gm d h);obtain⟨z,hz⟩:=h.six;have c2:=hz.c2;clear hz h;unfold ptr at HM ⊢;generalize d.off=o at c2 ⊢;go_enter Tryz.func50,Tryz.ntmps50;go_wp2_with fail;refine HM.out.mono ?_;rintro e w1 ⟨rfl,rfl⟩;go_wp2;go_ret;exact⟨rfl,rfl⟩
def Now (v:Value) (w:World) (g gs gm:Nat) (d:Dsk) (e:Ending) (w':World):Prop:=e= .returned v∧Dk w' g gs gm d∧Turn [g,gs,gm] w w'
theorem stop_disk(w:World)(g gs gm:Nat)(d:Dsk)(k:Int)(h:Dk w g gs gm d)(k1: -9223372036854775808≤k)(k2:k≤9223372036854775807):
  Calls Tryz.prog 19 #[ptr g,.int .i64 k] w (Now (.tuple #[]) w g gs gm (d.stop k)):=by
 have HM:=hid (made_disk w g gs gm d h);obtain⟨z,hz⟩:=h.six;have f2:=hz.f 2;have f3:=hz.f 3;have f4:=hz.f 4;have c2:=hz.c2;have c3:=hz.c3;have c4:=hz.c4;have HD:=hid h;have HZ:=hid hz;clear hz h;unfold ptr at HM ⊢;have Hgo:∀w',Six w' g gs gm d.n (d.off||decide (k<1)) true k z→Turn [g] w w'→Now (.tuple #[]) w g gs gm (d.stop k) (.returned (.tuple #[])) w':=fun w' h6 ht=>
  ⟨rfl,HD.out.head h6 ht (Dsk.stop_ok HD.out.ok k1 k2) rfl rfl rfl,ht.more (by simp)⟩
 have HG:=hid Hgo;clear Hgo;generalize hoff:d.off=o at HG HZ c2;generalize d.stops=s at HZ c3;generalize d.left=l at HZ c4;by_cases hk:k<1
 ·have hk2:decide (k<1)=true:=by simpa using hk
  rw[hk2,Bool.or_true] at HG;go_enter Tryz.func19,Tryz.ntmps19;go_wp2_with fail;refine HM.out.mono ?_;rintro e w1 ⟨rfl,rfl⟩;go_wp2;go_end0;exact HG.out _ (((HZ.out.set3 true).set4 k).set2 true) ((((Turn.refl _ _).setCell (by simp) _).setCell (by simp) _).setCell (by simp) _)
 have hk2:decide (k<1)=false:=by simpa using hk
 rw[hk2,Bool.or_false] at HG;go_enter Tryz.func19,Tryz.ntmps19;go_wp2_with fail;refine HM.out.mono ?_;rintro e w1 ⟨rfl,rfl⟩;go_wp2;go_end0;exact HG.out _ ((HZ.out.set3 true).set4 k) (((Turn.refl _ _).setCell (by simp) _).setCell (by simp) _)
end Go.Proofs.YtdjhlhellkajfaaGreat.Disk
namespace Go.Proofs.YtdjhlhellkajfaaGreat.Disk
open Go.RowKit Go.Maps
theorem deed_fin{w w':World}{g gs gm n:Nat}{sf:Nat→List UInt8}{wt:Nat→Option (List UInt8)}{s b s':Bool}{l l' z:Int}(h:Dk w g gs gm ⟨n,sf,wt,false,s,l⟩)
  (hd:Dsk.deed ⟨n,sf,wt,false,s,l⟩=⟨n,sf,wt,b,s',l'⟩) (h6:Six w' g gs gm n b s' l' z) (ht:Turn [g] w w') (v:Value):Now v w g gs gm ⟨n,sf,wt,b,s',l'⟩ (.returned v) w':=
 ⟨rfl,h.head (d':=⟨n,sf,wt,b,s',l'⟩) h6 ht (hd ▸ Dsk.deed_ok h.ok rfl) rfl rfl rfl,ht.more (by simp)⟩
theorem deed_disk(w:World)(g gs gm:Nat)(d:Dsk)(h:Dk w g gs gm d)(ho:d.off=false):Calls Tryz.prog 155 #[ptr g] w (Now (.bool d.done) w g gs gm d.deed):=by
 obtain⟨n,sf,wt,off,s,l⟩:=d;obtain rfl:off=false:=ho;obtain⟨z,hz⟩:=h.six;obtain⟨l1,l2,l3⟩:=h.ok.2.2.2.2;have l2:l≤9223372036854775807:=l2;have l3:s=true→0≤l:=fun e=>l3 e rfl;have HD:=hid h;have HZ:=hid hz;have f2:=hz.f 2;have f4:=hz.f 4;have f5:=hz.f 5;have c2:=hz.c2;have c3:=hz.c3;have c4:=hz.c4;have c5:=hz.c5;clear hz h l1;unfold ptr;cases s
 ·have hd:Dsk.deed ⟨n,sf,wt,false,false,l⟩=⟨n,sf,wt,false,false,l⟩:=rfl;have hn:Dsk.done ⟨n,sf,wt,false,false,l⟩=true:=rfl;rw[hd,hn];clear hn l3;have Hd:=hid hd;clear hd;go_enter Tryz.func155,Tryz.ntmps155;go_wp2;go_ret;exact deed_fin HD.out Hd.out (HZ.out.set5 _) ((Turn.refl _ _).setCell (by simp) _) _
 by_cases hl0:l=0
 ·subst hl0;have hd:Dsk.deed ⟨n,sf,wt,false,true,0⟩=⟨n,sf,wt,true,true,0⟩:=rfl;have hn:Dsk.done ⟨n,sf,wt,false,true,0⟩=false:=rfl;rw[hd,hn];clear hn l3 l2;have Hd:=hid hd;clear hd;go_enter Tryz.func155,Tryz.ntmps155;go_wp2;go_ret;exact deed_fin HD.out Hd.out (HZ.out.set2 true) ((Turn.refl _ _).setCell (by simp) _) _
 have hd:Dsk.deed ⟨n,sf,wt,false,true,l⟩=⟨n,sf,wt,false,true,l-1⟩:=by simp[Dsk.deed,hl0]
 have hn:Dsk.done ⟨n,sf,wt,false,true,l⟩=true:=by simp[Dsk.done,hl0]
 rw[hd,hn];have Hd:=hid hd;have l4:0<l:=by have:=l3 rfl;omega
 clear hd hn l3;go_enter Tryz.func155,Tryz.ntmps155;go_wp2;go_ret;exact deed_fin HD.out Hd.out ((HZ.out.set4 _).set5 _) (((Turn.refl _ _).setCell (by simp) _).setCell (by simp) _) _
def Dsk.why (d:Dsk) (i:Int):Int:=if d.off then 3 else if i<0∨(d.n:Int)≤i then 1 else 0
theorem refuses_disk(w:World)(g gs gm:Nat)(d:Dsk)(i:Int)(h:Dk w g gs gm d):Calls Tryz.prog 115 #[ptr g,.int .i64 i] w (Ends (.int .i64 (d.why i)) w):=by
 have HM:=hid (made_disk w g gs gm d h);obtain⟨z,hz⟩:=h.six;have c0:=hz.c0;have c2:=hz.c2;clear hz h;unfold Dsk.why;unfold ptr at HM ⊢;generalize d.off=o at c2 ⊢;generalize d.n=n at c0 ⊢;cases o
 ·by_cases h0:i<0
  ·rw[if_neg (by simp),if_pos (.inl h0)];go_enter Tryz.func115,Tryz.ntmps115;go_wp2_with fail;refine HM.out.mono ?_;rintro e w1 ⟨rfl,rfl⟩;go_wp2;go_ret;exact⟨rfl,rfl⟩
  have h0':0≤i:=by omega
  by_cases h1:(n:Int)≤i
  ·rw[if_neg (by simp),if_pos (.inr h1)];clear h0;go_enter Tryz.func115,Tryz.ntmps115;go_wp2_with fail;refine HM.out.mono ?_;rintro e w1 ⟨rfl,rfl⟩;go_wp2;go_ret;exact⟨rfl,rfl⟩
  rw[if_neg (by simp),if_neg (by omega)];have h1':i<(n:Int):=by omega
  clear h0 h1;go_enter Tryz.func115,Tryz.ntmps115;go_wp2_with fail;refine HM.out.mono ?_;rintro e w1 ⟨rfl,rfl⟩;go_wp2;go_ret;exact⟨rfl,rfl⟩
 rw[if_pos rfl];go_enter Tryz.func115,Tryz.ntmps115;go_wp2_with fail;refine HM.out.mono ?_;rintro e w1 ⟨rfl,rfl⟩;go_wp2;go_ret;exact⟨rfl,rfl⟩
theorem info49:(Tryz.prog.info? 132).map (fun i=>(i.zero,i.size,i.bytes))=some (some (secV (List.replicate 64 0)),64,64):=by kernel_rfl
def zeros (n:Nat):Array Value:=madeCells (secV (List.replicate 64 0)).cells (n * 64)
theorem zeros_get(n i:Nat)(h:i<n * 64):(zeros n)[i]? =some (byt 0):=by
 have e:(secV (List.replicate 64 0)).cells=Array.replicate 64 (byt 0):=by rfl
 simp only[zeros,madeCells,e,Array.getElem?_map,Array.getElem?_range,Array.size_replicate,h,if_true,Option.map_some];rw[getElem!_pos _ _ (by simp;omega)];simp
theorem fresh_sf{w:World}{gs n:Nat}(h:w.heap[gs]? =some (.cells (zeros n) 132 (0,0))):Sf w gs n (fresh n).safe:=by
 refine⟨lt_of_heap h,?_,fun i hi j v hv=> ?_⟩
 ·have:=there_block h;rwa [show(zeros n).size=n * 64 from size_madeCells _ _] at this
 have hj:j<64:=by
  have:=(List.getElem?_eq_some_iff.1 hv).1;simpa [cel,fresh] using this
 rw[cell_at h,zeros_get n _ (by omega),←hv];simp only[cel,fresh,List.map_replicate,List.getElem?_replicate,hj,if_true]
theorem run_make43(w:World)(n:Nat)(hn:n≤65536):
  (Instr.makeSlice 98 (.int .i64 n) (.int .i64 n)).run Tryz.prog w= .ok (.slice (some ⟨w.heap.size,0,none⟩) n n) (w.alloc (.cells (zeros n) 132)):=by
 obtain⟨i0,hi,hz0,hz1,hz2⟩:=info_parts info49;have:=run_make (P:=Tryz.prog) w 98 132 i0 _ Tryz.underlying98 hi hz0 .i64 .i64 n n (by omega) (Int.le_refl _) (by rw[hz2];omega) (by omega);rw[this,hz1];rfl
def Made (w:World) (n:Nat) (e:Ending) (w':World):Prop:=
 ∃g gs gm,e= .returned (.tuple #[ptr g,.int .i64 0])∧Dk w' g gs gm (fresh n)∧Turn [] w w'∧w.heap.size≤g∧w.heap.size≤gs∧w.heap.size≤gm
theorem made_fresh(w:World)(n:Nat)(h1:1≤n)(h2:n≤65536):Made w n (.returned (.tuple #[ptr (w.heap.size+1+1),.int .i64 0]))
  (((w.alloc (.cells (zeros n) 132)).alloc (.map #[] 0)).alloc (.cells (fields w.heap.size (w.heap.size+1) (fresh n) 0) 101)):=by
 have s1:(w.alloc (.cells (zeros n) 132)).heap.size=w.heap.size+1:=by simp
 have s2:((w.alloc (.cells (zeros n) 132)).alloc (.map #[] 0)).heap.size=w.heap.size+1+1:=by simp
 have hf:=fresh_sf (n:=n) (heap_alloc_last w (.cells (zeros n) 132));have hm:Mp ((w.alloc (.cells (zeros n) 132)).alloc (.map #[] 0)) (w.heap.size+1) n fun _=>none:=
  Mp.made (s1 ▸ World.ownsMap_made (w.alloc (.cells (zeros n) 132)) Tryz.prog 3 R0) (Told.empty n)
 refine⟨w.heap.size+1+1,w.heap.size,w.heap.size+1,rfl,⟨fresh_ok h1 h2,by omega,⟨0,?_⟩,?_,?_⟩,(((Turn.refl [] w).alloc _).alloc _).alloc _,by omega,by omega,by omega⟩
 ·have:=heap_alloc_last ((w.alloc (.cells (zeros n) 132)).alloc (.map #[] 0)) (.cells (fields w.heap.size (w.heap.size+1) (fresh n) 0) 101);rwa [s2] at this
 ·exact hf.keep ((Below.heap_alloc _ _ _ (by omega)).trans (Below.heap_alloc _ _ _ (by omega))) (by simp)
 exact hm.keep (Below.heap_alloc _ _ _ (by omega))
theorem new_disk(w:World)(n:Nat)(h1:1≤n)(h2:n≤65536):Calls Tryz.prog 10 #[.int .i64 n] w (Made w n):=by
 have hmk:=run_make43 w n h2;have hmm:= @run_makeMap Tryz.prog;have HH:=hid (And.intro h1 h2);have h1':(1:Int)≤n:=by omega
 have h2':(n:Int)≤65536:=by omega
 clear h1 h2;go_enter Tryz.func10,Tryz.ntmps10;go_wp2;go_ret2;exact made_fresh w n HH.out.1 HH.out.2
end Go.Proofs.YtdjhlhellkajfaaGreat.Disk
