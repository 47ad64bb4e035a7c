/-
  Texts JMath, JWhole, JSafe, JSafe2, JKnown, in one file. What each proves, and its conditions, stand at its head below.
-/
import Derived.Test.YtdjhlhellkajfaaGreatY2
import Derived.Test.YtdjhlhellkajfaaGreatY9
set_option maxRecDepth 100000
namespace Go.Proofs.YtdjhlhellkajfaaGreat.JourM
open Disk FrameM Codec
def nul64:List UInt8:=List.replicate 64 0
theorem nul64_length:nul64.length=64:=rfl
def go (d:Dsk):Bool:= !d.off&&d.done
def wr (d:Dsk) (i:Nat) (s:List UInt8):Dsk:=if d.off then d else if d.done then d.deed.put i s else d.deed
def sy (d:Dsk):Dsk:=if d.off then d else if d.done then d.deed.synced else d.deed
theorem wr_n(d:Dsk)(i:Nat)(s:List UInt8):(wr d i s).n=d.n:=by
 unfold wr;split
 ·rfl
 split
 ·exact d.deed_parts.1
 exact d.deed_parts.1
theorem sy_n(d:Dsk):(sy d).n=d.n:=by
 unfold sy;split
 ·rfl
 split
 ·exact d.deed_parts.1
 exact d.deed_parts.1
def wrsB (d:Dsk) (i:Nat):List (List UInt8)→Bool
 |[]=>true
 |s::l=>go d&&wrsB (wr d i s) (i+1) l
def wrsD (d:Dsk) (i:Nat):List (List UInt8)→Dsk
 |[]=>d
 |s::l=>if go d then wrsD (wr d i s) (i+1) l else wr d i s
theorem wrsB_cons(d:Dsk)(i:Nat)(s:List UInt8)(l:List (List UInt8)):wrsB d i (s::l)=(go d&&wrsB (wr d i s) (i+1) l):=rfl
theorem wrsD_cons(d:Dsk)(i:Nat)(s:List UInt8)(l:List (List UInt8)):wrsD d i (s::l)=if go d then wrsD (wr d i s) (i+1) l else wr d i s:=rfl
theorem wrsD_n(d:Dsk)(i:Nat)(l:List (List UInt8)):(wrsD d i l).n=d.n:=by
 induction l generalizing d i with
 |nil=>rfl
 |cons s l ih=>
  unfold wrsD;split
  ·rw[ih,wr_n]
  exact wr_n d i s
theorem wrsB_app(d:Dsk)(i:Nat)(a b:List (List UInt8)):wrsB d i (a++b)=(wrsB d i a&&wrsB (wrsD d i a) (i+a.length) b):=by
 induction a generalizing d i with
 |nil=>simp[wrsB,wrsD]
 |cons s a ih=>
  rw[List.cons_append,wrsB_cons,wrsB_cons,wrsD_cons,ih,List.length_cons,show i+1+a.length=i+(a.length+1) by omega];rcases Bool.eq_false_or_eq_true (go d) with hg|hg<;>simp[hg]
theorem wrsD_app(d:Dsk)(i:Nat)(a b:List (List UInt8)):wrsD d i (a++b)=if wrsB d i a then wrsD (wrsD d i a) (i+a.length) b else wrsD d i a:=by
 induction a generalizing d i with
 |nil=>simp[wrsB,wrsD]
 |cons s a ih=>
  rw[List.cons_append,wrsB_cons,wrsD_cons,wrsD_cons,ih,List.length_cons,show i+1+a.length=i+(a.length+1) by omega];rcases Bool.eq_false_or_eq_true (go d) with hg|hg<;>simp[hg]
def keepB (d:Dsk) (i:Nat) (l:List (List UInt8)):Bool:=wrsB d i l&&go (wrsD d i l)
def keepD (d:Dsk) (i:Nat) (l:List (List UInt8)):Dsk:=if wrsB d i l then sy (wrsD d i l) else wrsD d i l
theorem keepD_n(d:Dsk)(i:Nat)(l:List (List UInt8)):(keepD d i l).n=d.n:=by
 unfold keepD;split
 ·rw[sy_n,wrsD_n]
 rw[wrsD_n]
theorem keepB_nil(d:Dsk)(i:Nat):keepB d i []=go d:=by simp[keepB,wrsB,wrsD]
theorem keepD_nil(d:Dsk)(i:Nat):keepD d i []=sy d:=by simp[keepD,wrsB,wrsD]
theorem keepB_cons(d:Dsk)(i:Nat)(s:List UInt8)(l:List (List UInt8)):keepB d i (s::l)=(go d&&keepB (wr d i s) (i+1) l):=by
 unfold keepB;rw[wrsB_cons,wrsD_cons];rcases Bool.eq_false_or_eq_true (go d) with hg|hg<;>simp[hg]
theorem keepD_cons(d:Dsk)(i:Nat)(s:List UInt8)(l:List (List UInt8)):keepD d i (s::l)=if go d then keepD (wr d i s) (i+1) l else wr d i s:=by
 unfold keepD;rw[wrsB_cons,wrsD_cons];rcases Bool.eq_false_or_eq_true (go d) with hg|hg<;>simp[hg]
def room (n:Nat):Nat:=(n-2)/2
def secAt (n gen pos:Nat):Nat:=2+(gen%2) * room n+pos
def headM (g:Nat):Mk:=⟨1,g,0,0⟩
def markM (gen seq:Nat) (b:List UInt8):Mk:=⟨2,gen,seq,(b.length:Int) * 4294967296+(crcOf b:Nat)⟩
def takes1 (b:List UInt8):Nat:=1+need b.length
def takes:List (List UInt8)→Nat
 |[]=>0
 |b::l=>takes1 b+takes l
theorem takes_app(a b:List (List UInt8)):takes (a++b)=takes a+takes b:=by
 induction a with
 |nil=>simp[takes]
 |cons x a ih=>simp only[List.cons_append,takes,ih];omega
theorem takes_one(b:List UInt8):takes [b]=takes1 b:=by simp[takes]
theorem takes_snoc(a:List (List UInt8))(b:List UInt8):takes (a++[b])=takes a+takes1 b:=by rw[takes_app,takes_one]
def rd (d:Dsk) (i:Nat):List UInt8:=if i<d.n then d.read i else []
def headB (f:Nat→List UInt8) (i:Nat):Bool:=(getM (f i)).eq (headM (getM (f i)).gen.toNat)&&decide ((getM (f i)).gen.toNat%2=i)
def headIn (f:Nat→List UInt8) (i:Nat):Nat:=if headB f i then (getM (f i)).gen.toNat else 0
def newest (f:Nat→List UInt8):Nat:=max (headIn f 0) (headIn f 1)
def gLen (f:Nat→List UInt8) (n gen pos:Nat):Nat:=((getM (f (secAt n gen pos))).n/4294967296).toNat
def gRows (f:Nat→List UInt8) (n gen pos k:Nat):List (List UInt8):=(List.range k).map fun i=>f (secAt n gen (pos+1+i))
def gSecs (f:Nat→List UInt8) (n gen pos:Nat):List (List UInt8):=gRows f n gen pos (need (gLen f n gen pos))
def gFit (f:Nat→List UInt8) (n gen pos:Nat):Bool:=getB (f (secAt n gen pos))&&decide (need (gLen f n gen pos)+pos<room n)
def gX (f:Nat→List UInt8) (n gen pos:Nat):List UInt8:=unpack (gSecs f n gen pos) (gLen f n gen pos)
def gUn (f:Nat→List UInt8) (n gen pos:Nat):Bool:=unpackB (gSecs f n gen pos) (gLen f n gen pos)
def gMk (f:Nat→List UInt8) (n gen pos seq:Nat):Bool:=(getM (f (secAt n gen pos))).eq (markM gen seq (gX f n gen pos))
def gB (f:Nat→List UInt8) (n gen pos seq:Nat):Bool:=gFit f n gen pos&&(gUn f n gen pos&&gMk f n gen pos seq)
def groupsF (f:Nat→List UInt8) (n gen:Nat):Nat→Nat→Nat→List (List UInt8)
 |0,_,_=>[]
 |fuel+1,pos,seq=>if gB f n gen pos seq then gX f n gen pos::groupsF f n gen fuel (pos+takes1 (gX f n gen pos)) (seq+1) else []
def groups (f:Nat→List UInt8) (n gen:Nat):List (List UInt8):=groupsF f n gen (room n+1) 0 0
theorem gX_length{f:Nat→List UInt8}{n gen pos:Nat}(h:gUn f n gen pos=true):(gX f n gen pos).length=gLen f n gen pos:=by
 unfold gX;unfold gUn at h;rw[unpack_yes h];simp only[unpackB,Bool.and_eq_true,decide_eq_true_eq,List.all_eq_true] at h;obtain⟨⟨h1,h2,h3⟩,h4,h5⟩:=h;have hl:=flatten_length _ h4;rw[needI_nat] at h3;rw[List.length_take,Int.toNat_natCast,hl];unfold need at h3;omega
theorem gB_room{f:Nat→List UInt8}{n gen pos seq:Nat}(h:gB f n gen pos seq=true):pos+takes1 (gX f n gen pos)≤room n:=by
 simp only[gB,gFit,Bool.and_eq_true,decide_eq_true_eq] at h;unfold takes1;rw[gX_length h.2.1];omega
theorem groupsF_takes(f:Nat→List UInt8)(n gen:Nat):∀fuel pos seq,pos≤room n→pos+takes (groupsF f n gen fuel pos seq)≤room n
 |0,pos,seq,h=>by simpa [groupsF,takes] using h
 |fuel+1,pos,seq,h=>by
  unfold groupsF;cases hg:gB f n gen pos seq with
  |false=>simpa [takes] using h
  |true=>
   have:=groupsF_takes f n gen fuel (pos+takes1 (gX f n gen pos)) (seq+1) (gB_room hg);simp only[if_true,takes];omega
theorem takes_length(l:List (List UInt8)):l.length≤takes l:=by
 induction l with
 |nil=>simp[takes]
 |cons b l ih=>simp only[takes,takes1,List.length_cons];omega
theorem groupsF_fuel(f:Nat→List UInt8)(n gen:Nat):∀fuel fuel' pos seq,room n<fuel+pos→room n<fuel'+pos→pos≤room n→groupsF f n gen fuel pos seq=groupsF f n gen fuel' pos seq
 |0,_,pos,_,h,_,h3=>by omega
 |_+1,0,pos,_,_,h,h3=>by omega
 |fuel+1,fuel'+1,pos,seq,h,h',h3=>by
  unfold groupsF;cases hg:gB f n gen pos seq with
  |false=>rfl
  |true=>
   have:=gB_room hg;have ht:1≤takes1 (gX f n gen pos):=by unfold takes1;omega
   simp only[if_true];rw[groupsF_fuel f n gen fuel fuel' _ _ (by omega) (by omega) this]
def laid (gen seq:Nat) (b:List UInt8):List (List UInt8):=put (markM gen seq b)::pack b
def laidAll (gen:Nat):Nat→List (List UInt8)→List (List UInt8)
 |_,[]=>[]
 |seq,b::l=>laid gen seq b++laidAll gen (seq+1) l
theorem laidAll_cons(gen seq:Nat)(b:List UInt8)(l:List (List UInt8)):laidAll gen seq (b::l)=laid gen seq b++laidAll gen (seq+1) l:=rfl
def endL (n pos:Nat):List (List UInt8):=if pos<room n then [nul64] else []
theorem laid_length(gen seq:Nat)(b:List UInt8):(laid gen seq b).length=takes1 b:=by simp[laid,pack_length,takes1];omega
theorem laidAll_length(gen:Nat):∀seq l,(laidAll gen seq l).length=takes l
 |_,[]=>rfl
 |seq,b::l=>by simp[laidAll,takes,laid_length,laidAll_length gen (seq+1) l]
theorem laidAll_app(gen:Nat):∀seq a b,laidAll gen seq (a++b)=laidAll gen seq a++laidAll gen (seq+a.length) b
 |seq,[],b=>by simp[laidAll]
 |seq,x::a,b=>by
  simp only[List.cons_append,laidAll,List.length_cons,List.append_assoc];rw[laidAll_app gen (seq+1) a b,show seq+1+a.length=seq+(a.length+1) by omega]
def beginL (n gen:Nat) (l:List (List UInt8)):List (List UInt8):=laidAll gen 0 l++endL n (takes l)
def beginB (d:Dsk) (gen:Nat) (l:List (List UInt8)):Bool:=
 keepB d (secAt d.n gen 0) (beginL d.n gen l)&&keepB (keepD d (secAt d.n gen 0) (beginL d.n gen l)) (gen%2) [put (headM gen)]
def beginD (d:Dsk) (gen:Nat) (l:List (List UInt8)):Dsk:=
 if keepB d (secAt d.n gen 0) (beginL d.n gen l) then keepD (keepD d (secAt d.n gen 0) (beginL d.n gen l)) (gen%2) [put (headM gen)] else keepD d (secAt d.n gen 0) (beginL d.n gen l)
def extL (n pos:Nat) (b:List UInt8):List (List UInt8):=pack b++endL n (pos+takes1 b)
def extB (d:Dsk) (gen pos seq:Nat) (b:List UInt8):Bool:=
 keepB d (secAt d.n gen (pos+1)) (extL d.n pos b)&&keepB (keepD d (secAt d.n gen (pos+1)) (extL d.n pos b)) (secAt d.n gen pos) [put (markM gen seq b)]
def extD (d:Dsk) (gen pos seq:Nat) (b:List UInt8):Dsk:=
 if keepB d (secAt d.n gen (pos+1)) (extL d.n pos b) then keepD (keepD d (secAt d.n gen (pos+1)) (extL d.n pos b)) (secAt d.n gen pos) [put (markM gen seq b)] else keepD d (secAt d.n gen (pos+1)) (extL d.n pos b)
theorem beginD_n(d:Dsk)(gen:Nat)(l:List (List UInt8)):(beginD d gen l).n=d.n:=by
 unfold beginD;split
 ·rw[keepD_n,keepD_n]
 rw[keepD_n]
theorem extD_n(d:Dsk)(gen pos seq:Nat)(b:List UInt8):(extD d gen pos seq b).n=d.n:=by
 unfold extD;split
 ·rw[keepD_n,keepD_n]
 rw[keepD_n]
structure Jr where
 gen:Nat
 gs:List (List UInt8)
 down:Bool
def openB (d:Dsk):Bool:=if newest (rd d)=0 then beginB d 1 [] else true
def openD (d:Dsk):Dsk:=if newest (rd d)=0 then beginD d 1 [] else d
def openG (d:Dsk):Nat:=if newest (rd d)=0 then 1 else newest (rd d)
def openJ (d:Dsk):Jr:=⟨openG d,groups (rd (openD d)) d.n (openG d),false⟩
theorem openD_n(d:Dsk):(openD d).n=d.n:=by
 unfold openD;split
 ·exact beginD_n d 1 []
 rfl
def appE (d:Dsk) (j:Jr) (b:List UInt8):Int:=
 if j.down then 3 else if 1048576<b.length then 1 else if room d.n<takes1 b+takes j.gs then 2 else if extB d j.gen (takes j.gs) j.gs.length b then 0 else 3
def appDo (d:Dsk) (j:Jr) (b:List UInt8):Bool:= !j.down&&(decide (b.length≤1048576)&&decide (takes1 b+takes j.gs≤room d.n))
def appD (d:Dsk) (j:Jr) (b:List UInt8):Dsk:=if appDo d j b then extD d j.gen (takes j.gs) j.gs.length b else d
def appJ (d:Dsk) (j:Jr) (b:List UInt8):Jr:=if appDo d j b then (if extB d j.gen (takes j.gs) j.gs.length b then {j with gs:=j.gs++[b]} else {j with down:=true}) else j
def anyLong (l:List (List UInt8)):Bool:=l.any fun b=>decide (1048576<b.length)
def rstE (d:Dsk) (j:Jr) (l:List (List UInt8)):Int:=
 if j.down then 3 else if anyLong l then 1 else if room d.n<takes l then 2 else if beginB d (j.gen+1) l then 0 else 3
def rstDo (d:Dsk) (j:Jr) (l:List (List UInt8)):Bool:= !j.down&&(!anyLong l&&decide (takes l≤room d.n))
def rstD (d:Dsk) (j:Jr) (l:List (List UInt8)):Dsk:=if rstDo d j l then beginD d (j.gen+1) l else d
def rstJ (d:Dsk) (j:Jr) (l:List (List UInt8)):Jr:=if rstDo d j l then (if beginB d (j.gen+1) l then ⟨j.gen+1,l,false⟩ else {j with down:=true}) else j
end Go.Proofs.YtdjhlhellkajfaaGreat.JourM
namespace Go.Proofs.YtdjhlhellkajfaaGreat.JourM
open Disk FrameM Codec
theorem go_on{d:Dsk}(h:go d=true):d.off=false∧d.done=true:=by
 unfold go at h;cases ho:d.off<;>simp_all
theorem wr_go{d:Dsk}(h:go d=true)(i:Nat)(s:List UInt8):wr d i s=d.deed.put i s:=by
 obtain⟨h1,h2⟩:=go_on h;unfold wr;rw[h1,h2];rfl
theorem wr_off{d:Dsk}(h:go d=false)(i:Nat)(s:List UInt8):(wr d i s).off=true∧(wr d i s).safe=d.safe∧(wr d i s).waits=d.waits:=by
 unfold wr;cases ho:d.off with
 |true=>exact⟨ho,rfl,rfl⟩
 |false=>
  have hd:d.done=false:=by simpa [go,ho] using h
  rw[hd];refine⟨?_,d.deed_parts.2.1,d.deed_parts.2.2⟩;have:=Dsk.deed_on ho;rw[hd] at this;exact this
theorem sy_go{d:Dsk}(h:go d=true):sy d=d.deed.synced:=by
 obtain⟨h1,h2⟩:=go_on h;unfold sy;rw[h1,h2];rfl
theorem sy_off{d:Dsk}(h:go d=false):(sy d).off=true∧(sy d).safe=d.safe∧(sy d).waits=d.waits:=by
 unfold sy;cases ho:d.off with
 |true=>exact⟨ho,rfl,rfl⟩
 |false=>
  have hd:d.done=false:=by simpa [go,ho] using h
  rw[hd];refine⟨?_,d.deed_parts.2.1,d.deed_parts.2.2⟩;have:=Dsk.deed_on ho;rw[hd] at this;exact this
theorem deed_go{d:Dsk}(h:go d=true):d.deed.off=false:=by
 obtain⟨h1,h2⟩:=go_on h;rw[Dsk.deed_on h1,h2];rfl
theorem wr_ok{d:Dsk}(h:d.ok){i:Nat}(hi:i<d.n){s:List UInt8}(hs:s.length=64):(wr d i s).ok:=by
 unfold wr;split
 ·exact h
 rename_i ho;have ho:d.off=false:=by simpa using ho
 split
 ·exact Dsk.put_ok (Dsk.deed_ok h ho) (by rw[d.deed_parts.1];exact hi) hs
 exact Dsk.deed_ok h ho
theorem sy_ok{d:Dsk}(h:d.ok):(sy d).ok:=by
 unfold sy;split
 ·exact h
 rename_i ho;have ho:d.off=false:=by simpa using ho
 split
 ·exact Dsk.synced_ok (Dsk.deed_ok h ho)
 exact Dsk.deed_ok h ho
theorem wrsD_ok{d:Dsk}(h:d.ok){i:Nat}{l:List (List UInt8)}(hi:i+l.length≤d.n)(hl:∀s∈l,s.length=64):(wrsD d i l).ok:=by
 induction l generalizing d i with
 |nil=>exact h
 |cons s l ih=>
  have hs:=hl s (by simp);simp only[List.length_cons] at hi;have h1:=wr_ok h (i:=i) (by omega) hs;unfold wrsD;split
  ·exact ih h1 (by rw[wr_n];omega) (fun t ht=>hl t (by simp[ht]))
  exact h1
theorem keepD_ok{d:Dsk}(h:d.ok){i:Nat}{l:List (List UInt8)}(hi:i+l.length≤d.n)(hl:∀s∈l,s.length=64):(keepD d i l).ok:=by
 unfold keepD;split
 ·exact sy_ok (wrsD_ok h hi hl)
 exact wrsD_ok h hi hl
theorem wrsD_safe(d:Dsk)(i:Nat)(l:List (List UInt8)):(wrsD d i l).safe=d.safe:=by
 induction l generalizing d i with
 |nil=>rfl
 |cons s l ih=>
  unfold wrsD;cases hg:go d with
  |true=>
   rw[if_pos rfl,ih,wr_go hg];exact d.deed_parts.2.1
  |false=>exact(wr_off hg i s).2.1
theorem wrsD_out(d:Dsk)(i:Nat)(l:List (List UInt8))(k:Nat)(hk:k<i∨i+l.length≤k):(wrsD d i l).waits k=d.waits k:=by
 induction l generalizing d i with
 |nil=>rfl
 |cons s l ih=>
  simp only[List.length_cons] at hk;unfold wrsD;cases hg:go d with
  |true=>
   rw[if_pos rfl,ih (wr d i s) (i+1) (by omega),wr_go hg];show upd d.deed.waits i (some s) k=_;rw[upd_other _ _ (by omega),d.deed_parts.2.2]
  |false=>exact congrFun (wr_off hg i s).2.2 k
theorem wrsD_in(d:Dsk)(i:Nat)(l:List (List UInt8))(k:Nat):(wrsD d i l).waits k=d.waits k∨∃j,j<l.length∧k=i+j∧(wrsD d i l).waits k=some (l.getD j []):=by
 induction l generalizing d i with
 |nil=>exact .inl rfl
 |cons s l ih=>
  unfold wrsD;cases hg:go d with
  |true=>
   rw[if_pos rfl];rcases ih (wr d i s) (i+1) with h|⟨j,h1,h2,h3⟩
   ·rw[h,wr_go hg];show upd d.deed.waits i (some s) k=_∨_;by_cases hk:k=i
    ·subst hk;rw[upd_same];exact .inr ⟨0,by simp,rfl,upd_same _ _ _⟩
    rw[upd_other _ _ hk,d.deed_parts.2.2];exact .inl rfl
   exact .inr ⟨j+1,by simp;omega,by omega,by rw[h3];rfl⟩
  |false=>exact .inl (congrFun (wr_off hg i s).2.2 k)
theorem wrsD_all{d:Dsk}{i:Nat}{l:List (List UInt8)}(h:wrsB d i l=true)(j:Nat)(hj:j<l.length):(wrsD d i l).waits (i+j)=some (l.getD j []):=by
 induction l generalizing d i j with
 |nil=>simp at hj
 |cons s l ih=>
  simp only[wrsB,Bool.and_eq_true] at h;unfold wrsD;rw[h.1,if_pos rfl];cases j with
  |zero=>
   rw[wrsD_out _ _ _ _ (by omega),wr_go h.1];exact upd_same _ _ _
  |succ j=>
   have:=ih h.2 j (by simpa using hj);rw[show i+(j+1)=i+1+j by omega,this];rfl
theorem wrsD_fail{d:Dsk}{i:Nat}{l:List (List UInt8)}(h:wrsB d i l=false):(wrsD d i l).off=true:=by
 induction l generalizing d i with
 |nil=>simp[wrsB] at h
 |cons s l ih=>
  unfold wrsD;cases hg:go d with
  |true=>
   rw[if_pos rfl];exact ih (by simpa [wrsB,hg] using h)
  |false=>exact(wr_off hg i s).1
def laidAt (f:Nat→List UInt8) (i:Nat) (l:List (List UInt8)) (k:Nat):List UInt8:=if i≤k∧k<i+l.length then l.getD (k-i) [] else f k
theorem keep_yes{d:Dsk}{i:Nat}{l:List (List UInt8)}(h:keepB d i l=true)(hw:d.waits=fun _=>none):
  (keepD d i l).safe=laidAt d.safe i l∧(keepD d i l).waits=(fun _=>none)∧(keepD d i l).off=false:=by
 simp only[keepB,Bool.and_eq_true] at h;unfold keepD;rw[h.1,if_pos rfl,sy_go h.2];refine⟨?_,rfl,deed_go h.2⟩;funext k;show(wrsD d i l).deed.read k=_;unfold Dsk.read;rw[(wrsD d i l).deed_parts.2.1,(wrsD d i l).deed_parts.2.2,wrsD_safe];unfold laidAt;by_cases hk:i≤k∧k<i+l.length
 ·rw[if_pos hk];have:=wrsD_all h.1 (k-i) (by omega);rw[show i+(k-i)=k by omega] at this;rw[this];rfl
 rw[if_neg hk,wrsD_out _ _ _ _ (by omega),hw];rfl
theorem keep_no{d:Dsk}{i:Nat}{l:List (List UInt8)}(h:keepB d i l=false)(hw:d.waits=fun _=>none):
  (keepD d i l).off=true∧(keepD d i l).safe=d.safe∧∀k,(keepD d i l).waits k=none∨∃j,j<l.length∧k=i+j∧(keepD d i l).waits k=some (l.getD j []):=by
 have key:∀k,(wrsD d i l).waits k=none∨∃j,j<l.length∧k=i+j∧(wrsD d i l).waits k=some (l.getD j []):=fun k=>by
  have:=wrsD_in d i l k;rwa [hw] at this
 unfold keepD;cases hb:wrsB d i l with
 |false=>exact⟨wrsD_fail hb,wrsD_safe d i l,key⟩
 |true=>
  have hg:go (wrsD d i l)=false:=by simpa [keepB,hb] using h
  obtain⟨h1,h2,h3⟩:=sy_off hg;rw[if_pos rfl];exact⟨h1,by rw[h2,wrsD_safe],by rw[h3];exact key⟩
theorem headM_right(g:Nat):(headM g).right=true:=right_iff.2 (by simp[headM])
theorem headM_fits{g:Nat}(h:g<9223372036854775808):(headM g).fits:=⟨by simp[headM,in64],by simp only[headM,in64];omega,by simp[headM,in64],by simp[headM,in64]⟩
theorem markM_right(gen seq:Nat)(b:List UInt8):(markM gen seq b).right=true:=right_iff.2 (by simp only[markM];omega)
theorem markM_fits{gen seq:Nat}{b:List UInt8}(h:gen<9223372036854775808)(hs:seq<9223372036854775808)(hb:b.length≤1048576):(markM gen seq b).fits:=by
 have:=crcOf_lt b;exact⟨by simp[markM,in64],by simp only[markM,in64];omega,by simp only[markM,in64];omega,by simp only[markM,in64];omega⟩
theorem getB_nul:getB nul64=false:=torn_ahead (zeros 32)
theorem getB_halves{x:List UInt8}(h:getB x=true):∃m:Mk,m.right=true∧x=half m++half m∧getM x=m:=by
 have hm:=getM_yes h;simp only[getB,isM,Bool.and_eq_true,decide_eq_true_eq] at h;obtain⟨h1,h2⟩:=h;have hr:(readM x).right=true:=by
  cases hb:(readM x).right with
  |true=>rfl
  |false=>
   rw[put_wrong hb] at h2;rw[←h2] at h1;simp at h1
 exact⟨readM x,hr,by rw[←put_right hr,h2],hm⟩
theorem torn_three{m:Mk}(hr:m.right=true){a x:List UInt8}(h:halfs a (put m) x):x=put m∨x=a∨getB x=false:=by
 cases hb:getB x with
 |false=>exact .inr (.inr rfl)
 |true=>
  obtain⟨m',hr',hx,_⟩:=getB_halves hb;have t1:x.take 32=half m':=by rw[hx,List.take_left' (half_length _)]
  have t2:x.drop 32=half m':=by rw[hx,List.drop_left' (half_length _)]
  have p1:(put m).take 32=half m:=by rw[put_right hr,List.take_left' (half_length _)]
  have p2:(put m).drop 32=half m:=by rw[put_right hr,List.drop_left' (half_length _)]
  have key:half m'=half m→x=put m:=fun e=>by rw[hx,e,put_right hr]
  rcases h with⟨h1|h1,h2|h2⟩
  ·exact .inr (.inl (by rw[←List.take_append_drop 32 x,h1,h2,List.take_append_drop]))
  ·exact .inl (key (by rw[←t2,h2,p2]))
  ·exact .inl (key (by rw[←t1,h1,p1]))
  exact .inl (key (by rw[←t1,h1,p1]))
def Holds (f:Nat→List UInt8) (n gen:Nat):Nat→Nat→List (List UInt8)→Prop
 |pos,_,[]=>pos≤room n∧(pos<room n→getB (f (secAt n gen pos))=false)
 |pos,seq,g::gs=>pos+takes1 g≤room n∧g.length≤1048576∧f (secAt n gen pos)=put (markM gen seq g)∧(∀i,i<need g.length→f (secAt n gen (pos+1+i))=sec g i)∧Holds f n gen (pos+takes1 g) (seq+1) gs
theorem Holds.room{f:Nat→List UInt8}{n gen:Nat}:∀{pos seq:Nat} {gs:List (List UInt8)},Holds f n gen pos seq gs→pos+takes gs≤JourM.room n
 |_,_,[],h=>h.1
 |pos,seq,g::gs,h=>by
  have:=Holds.room h.2.2.2.2;simp only[takes];omega
theorem gB_of{f:Nat→List UInt8}{n gen pos seq:Nat}{g:List UInt8}(hg:gen<9223372036854775808)(hs:seq<9223372036854775808)(h1:pos+takes1 g≤JourM.room n)(h2:g.length≤1048576)
  (h3:f (secAt n gen pos)=put (markM gen seq g)) (h4:∀i,i<need g.length→f (secAt n gen (pos+1+i))=sec g i):gB f n gen pos seq=true∧gX f n gen pos=g:=by
 obtain⟨k1,k2⟩:=getB_put (markM_right gen seq g) (markM_fits hg hs h2);have hc:=crcOf_lt g;have hl:gLen f n gen pos=g.length:=by
  unfold gLen;rw[h3,k2];show(((g.length:Int) * 4294967296+(crcOf g:Nat))/4294967296).toNat=_;omega
 have hr:gSecs f n gen pos=pack g:=by
  unfold gSecs gRows;rw[hl];exact List.map_congr_left fun i hi=>h4 i (by simpa using hi)
 obtain⟨u1,u2⟩:=unpack_pack g h2;have hx:gX f n gen pos=g:=by unfold gX;rw[hr,hl,u2]
 refine⟨?_,hx⟩;unfold takes1 at h1;simp only[gB,gFit,gUn,gMk,Bool.and_eq_true,decide_eq_true_eq];refine⟨⟨by rw[h3,k1],by rw[hl];omega⟩,by rw[hr,hl,u1],?_⟩;rw[Mk.eq_iff,hx,h3,k2]
theorem Holds.groups{f:Nat→List UInt8}{n gen:Nat}(hn:n≤65536)(hg:gen<9223372036854775808):∀{fuel pos seq:Nat} {gs:List (List UInt8)},Holds f n gen pos seq gs→seq≤pos→JourM.room n<fuel+pos→groupsF f n gen fuel pos seq=gs
 |0,pos,seq,gs,h,_,hf=>by have:=h.room;omega
 |fuel+1,pos,seq,[],h,_,_=>by
  unfold groupsF;have:gB f n gen pos seq=false:=by
   unfold gB gFit;by_cases hp:pos<JourM.room n
   ·rw[h.2 hp];rfl
   rw[show decide (need (gLen f n gen pos)+pos<JourM.room n)=false by simp;omega];simp
  rw[this];rfl
 |fuel+1,pos,seq,g::gs,h,hs,hf=>by
  have hrm:JourM.room n≤65536:=by unfold JourM.room;omega
  obtain⟨h1,h2,h3,h4,h5⟩:=h;have ht:1≤takes1 g:=by unfold takes1;omega
  obtain⟨k1,k2⟩:=gB_of hg (by omega) h1 h2 h3 h4;unfold groupsF;rw[k1,k2,if_pos rfl,Holds.groups hn hg h5 (by omega) (by omega)]
theorem Holds.congr{f f':Nat→List UInt8}{n gen:Nat}:∀{pos seq:Nat} {gs:List (List UInt8)},Holds f n gen pos seq gs→(∀p,pos≤p→p<pos+takes gs→f' (secAt n gen p)=f (secAt n gen p))→
  (pos+takes gs<JourM.room n→getB (f' (secAt n gen (pos+takes gs)))=false)→Holds f' n gen pos seq gs
 |pos,seq,[],h,_,h2=>⟨h.1,h2⟩
 |pos,seq,g::gs,⟨a,b,c,d,e⟩,h1,h2=>by
  simp only[takes] at h1 h2;unfold takes1 at h1 a;refine⟨a,b,by rw[h1 pos (Nat.le_refl _) (by omega)];exact c,fun i hi=>by rw[h1 _ (by omega) (by omega)];exact d i hi,e.congr (fun p hp1 hp2=>h1 p (by unfold takes1 at hp1;omega) (by unfold takes1 at hp2;omega)) (fun hp=> ?_)⟩;rw[Nat.add_assoc];exact h2 (by omega)
theorem Holds.snoc{f f':Nat→List UInt8}{n gen:Nat}{b:List UInt8}:∀{pos seq:Nat} {gs:List (List UInt8)},Holds f n gen pos seq gs→(∀p,pos≤p→p<pos+takes gs→f' (secAt n gen p)=f (secAt n gen p))→
  Holds f' n gen (pos+takes gs) (seq+gs.length) [b]→Holds f' n gen pos seq (gs++[b])
 |pos,seq,[],_,_,h2=>h2
 |pos,seq,g::gs,⟨a,b',c,d,e⟩,h1,h2=>by
  simp only[takes] at h1 h2;unfold takes1 at h1 a;refine⟨a,b',by rw[h1 pos (Nat.le_refl _) (by omega)];exact c,fun i hi=>by rw[h1 _ (by omega) (by omega)];exact d i hi,e.snoc (fun p hp1 hp2=>h1 p (by unfold takes1 at hp1;omega) (by unfold takes1 at hp2;omega)) ?_⟩;rw[Nat.add_assoc,Nat.add_assoc,show 1+gs.length=(g::gs).length by simp;omega];exact h2
theorem getD_left{α:Type}(a b:List α)(k:Nat)(d:α)(h:k<a.length):(a++b).getD k d=a.getD k d:=by simp[List.getD_eq_getElem?_getD,List.getElem?_append_left h]
theorem getD_right{α:Type}(a b:List α)(k:Nat)(d:α)(h:a.length≤k):(a++b).getD k d=b.getD (k-a.length) d:=by simp[List.getD_eq_getElem?_getD,List.getElem?_append_right h]
theorem sec_get(b:List UInt8)(i:Nat)(h:i<need b.length):(pack b).getD i []=sec b i:=by simp[pack,List.getD_eq_getElem?_getD,h]
theorem Holds.laid{f:Nat→List UInt8}{n gen:Nat}:∀{pos seq:Nat} {l:List (List UInt8)},pos+takes l≤JourM.room n→(∀b∈l,b.length≤1048576)→(∀k,k<takes l→f (secAt n gen (pos+k))=(laidAll gen seq l).getD k [])→
  (pos+takes l<JourM.room n→getB (f (secAt n gen (pos+takes l)))=false)→Holds f n gen pos seq l
 |pos,seq,[],h1,_,_,h4=>⟨h1,h4⟩
 |pos,seq,b::l,h1,h2,h3,h4=>by
  have hlen:=laid_length gen seq b;have ht:takes1 b=1+need b.length:=rfl;simp only[takes] at h1 h3 h4;refine⟨by omega,h2 b (by simp),?_,fun i hi=> ?_,Holds.laid (by omega) (fun x hx=>h2 x (by simp[hx])) (fun k hk=> ?_) (fun hp=> ?_)⟩
  ·have:=h3 0 (by omega);exact this
  ·have:=h3 (1+i) (by omega);rw[show pos+1+i=pos+(1+i) by omega,this];rw[laidAll_cons];unfold JourM.laid;rw[getD_left _ _ _ _ (by simp[pack_length];omega),show 1+i=i+1 by omega,List.getD_cons_succ,sec_get b i hi]
  ·have:=h3 (takes1 b+k) (by omega);rw[Nat.add_assoc,this];rw[laidAll_cons,getD_right _ _ _ _ (by omega),hlen,Nat.add_sub_cancel_left]
  rw[Nat.add_assoc];exact h4 (by omega)
end Go.Proofs.YtdjhlhellkajfaaGreat.JourM
namespace Go.Proofs.YtdjhlhellkajfaaGreat.JourM
open Disk FrameM Codec
theorem Holds.last{f:Nat→List UInt8}{n gen:Nat}:∀{pos seq:Nat} {gs:List (List UInt8)},Holds f n gen pos seq gs→pos+takes gs<JourM.room n→getB (f (secAt n gen (pos+takes gs)))=false
 |_,_,[],h,hp=>h.2 hp
 |pos,seq,g::gs,h,hp=>by
  simp only[takes] at hp ⊢;rw[←Nat.add_assoc];exact Holds.last h.2.2.2.2 (by omega)
structure Good (f:Nat→List UInt8) (n gen:Nat) (gs:List (List UInt8)):Prop where
 one:1≤gen
 big:gen<9223372036854775808
 head:f (gen%2)=put (headM gen)
 other:headIn f (1-gen%2)<gen
 holds:Holds f n gen 0 0 gs
theorem headIn_congr{f f':Nat→List UInt8}{i:Nat}(h:f' i=f i):headIn f' i=headIn f i:=by unfold headIn headB;rw[h]
theorem headIn_put{f:Nat→List UInt8}{g:Nat}(h:f (g%2)=put (headM g))(hg:g<9223372036854775808):headIn f (g%2)=g:=by
 have hm:=(getB_put (headM_right g) (headM_fits hg)).2;have e:(getM (f (g%2))).gen.toNat=g:=by rw[h,hm];simp[headM]
 unfold headIn headB;rw[e,h,hm,show(headM g).eq (headM g)=true from Mk.eq_iff.2 rfl];simp
theorem headIn_no{f:Nat→List UInt8}{i:Nat}(h:getB (f i)=false):headIn f i=0:=by
 unfold headIn;split
 ·rw[getM_no h];rfl
 rfl
section
variable {f f':Nat→List UInt8} {n gen:Nat} {gs:List (List UInt8)}
theorem Good.newest(h:Good f n gen gs):JourM.newest f=gen:=by
 have h1:=headIn_put h.head h.big;have h2:=h.other;unfold JourM.newest;rcases Nat.mod_two_eq_zero_or_one gen with e|e
 ·rw[e] at h1 h2;simp only[Nat.sub_zero] at h2;omega
 rw[e] at h1 h2;simp only[Nat.sub_self] at h2;omega
theorem Good.groups(h:Good f n gen gs)(hn:n≤65536):JourM.groups f n gen=gs:=h.holds.groups hn h.big (Nat.le_refl _) (by omega)
end
theorem sec_lt{n gen pos:Nat}(hn:2≤n)(h:pos<room n):secAt n gen pos<n:=by
 unfold secAt;have hr:2+2 * room n≤n:=by unfold room;omega
 generalize room n=r at *;rcases Nat.mod_two_eq_zero_or_one gen with e|e<;>rw[e]<;>omega
theorem sec_add(n gen p q:Nat):secAt n gen (p+q)=secAt n gen p+q:=by unfold secAt;omega
theorem sec_two(n gen p:Nat):2≤secAt n gen p:=by unfold secAt;omega
theorem sec_end{n gen p k:Nat}(hn:2≤n)(h:p+k≤room n):secAt n gen p+k≤n:=by
 unfold secAt;have hr:2+2 * room n≤n:=by unfold room;omega
 generalize room n=r at *;rcases Nat.mod_two_eq_zero_or_one gen with e|e<;>rw[e]<;>omega
theorem sec_apart{n gen p:Nat}(hp:p<room n):secAt n gen p<secAt n (gen+1) 0∨secAt n (gen+1) 0+room n≤secAt n gen p:=by
 unfold secAt;generalize room n=r at *;rcases Nat.mod_two_eq_zero_or_one gen with e|e
 ·rw[e,show(gen+1)%2=1 by omega];omega
 rw[e,show(gen+1)%2=0 by omega];omega
structure Rest (d:Dsk) (j:Jr):Prop where
 ok:d.ok
 n8:8≤d.n
 calm:d.waits=fun _=>none
 off:d.off=false
 up:j.down=false
 good:Good (rd d) d.n j.gen j.gs
theorem rd_calm{d:Dsk}(h:d.waits=fun _=>none){i:Nat}(hi:i<d.n):rd d i=d.safe i:=by
 unfold rd Dsk.read;rw[if_pos hi,h];rfl
theorem crash_n(d:Dsk)(fs:List Int):(d.crash fs).n=d.n:=rfl
theorem crash_rd{d:Dsk}(h:d.ok)(fs:List Int){i:Nat}(hi:i<d.n):halfs (d.safe i) (d.read i) (rd (d.crash fs) i):=by
 rw[rd_calm (d:=d.crash fs) rfl hi];exact crash_halfs h fs _ (Nat.le_refl _) i hi
theorem crash_same{d:Dsk}(h:d.ok)(fs:List Int){i:Nat}(hi:i<d.n)(hw:d.waits i=none):rd (d.crash fs) i=d.safe i:=by
 have hr:d.read i=d.safe i:=by unfold Dsk.read;rw[hw];rfl
 have:=crash_rd h fs hi;rw[hr] at this;obtain⟨h1,h2⟩:=this;rw[←List.take_append_drop 32 (rd (d.crash fs) i),h1.elim id id,h2.elim id id,List.take_append_drop]
theorem crash_torn{d:Dsk}(h:d.ok)(fs:List Int){i:Nat}(hi:i<d.n){s:List UInt8}(hw:d.waits i=some s):halfs (d.safe i) s (rd (d.crash fs) i):=by
 have hr:d.read i=s:=by unfold Dsk.read;rw[hw];rfl
 have:=crash_rd h fs hi;rwa [hr] at this
theorem rd_out{d:Dsk}{i:Nat}(h:d.n≤i):rd d i=[]:=by unfold rd;rw[if_neg (by omega)]
theorem room_pos{n:Nat}(h:8≤n):3≤room n:=by unfold room;omega
theorem all64_ext(n pos:Nat)(b:List UInt8):∀s∈extL n pos b,s.length=64:=by
 intro s hs;unfold extL endL at hs;rcases List.mem_append.1 hs with h|h
 ·exact pack_all b s h
 split at h
 ·rw[List.mem_singleton.1 h];rfl
 cases h
theorem extL_length{n pos:Nat}{b:List UInt8}(h:pos+takes1 b≤room n):pos+1+(extL n pos b).length≤room n:=by
 unfold extL endL;rw[List.length_append,pack_length];unfold takes1 at h ⊢;split<;>simp<;>omega
theorem extL_pack{n pos:Nat}{b:List UInt8}{i:Nat}(h:i<need b.length):(extL n pos b).getD i []=sec b i∧i<(extL n pos b).length:=by
 unfold extL;refine⟨?_,by rw[List.length_append,pack_length];omega⟩;rw[getD_left _ _ _ _ (by rw[pack_length];exact h),sec_get b i h]
theorem extL_end{n pos:Nat}{b:List UInt8}(h:pos+takes1 b<room n):(extL n pos b).getD (need b.length) []=nul64∧need b.length<(extL n pos b).length:=by
 unfold extL endL;rw[if_pos h];refine⟨?_,by rw[List.length_append,pack_length];simp⟩;rw[getD_right _ _ _ _ (by rw[pack_length];omega),pack_length,Nat.sub_self];rfl
structure Ahead (f f':Nat→List UInt8) (n gen pos:Nat) (b:List UInt8):Prop where
 heads:∀i,i<2→f' i=f i
 before:∀p,p<pos→f' (secAt n gen p)=f (secAt n gen p)
 bytes:∀i,i<need b.length→f' (secAt n gen (pos+1+i))=sec b i
 end_:pos+takes1 b<room n→f' (secAt n gen (pos+takes1 b))=nul64
theorem good_heads{f f':Nat→List UInt8}{n gen:Nat}{gs gs':List (List UInt8)}(h:Good f n gen gs)(he:∀i,i<2→f' i=f i)(hh:Holds f' n gen 0 0 gs'):Good f' n gen gs':=
 ⟨h.one,h.big,by rw[he _ (Nat.mod_lt _ (by omega))];exact h.head,by rw[headIn_congr (he _ (by omega))];exact h.other,hh⟩
theorem Ahead.not_there{f f':Nat→List UInt8}{n gen:Nat}{gs:List (List UInt8)}{b:List UInt8}(h:Good f n gen gs)(ha:Ahead f f' n gen (takes gs) b)(hx:getB (f' (secAt n gen (takes gs)))=false):Good f' n gen gs:=
 good_heads h ha.heads (h.holds.congr (fun p _ hp=>ha.before p (by omega)) (fun _=>by rw[Nat.zero_add];exact hx))
theorem Ahead.there{f f':Nat→List UInt8}{n gen:Nat}{gs:List (List UInt8)}{b:List UInt8}(h:Good f n gen gs)(ha:Ahead f f' n gen (takes gs) b)(hr:takes gs+takes1 b≤room n)(hb:b.length≤1048576)
  (hx:f' (secAt n gen (takes gs))=put (markM gen gs.length b)):Good f' n gen (gs++[b]):=by
 refine good_heads h ha.heads (h.holds.snoc (fun p _ hp=>ha.before p (by omega)) ?_);rw[Nat.zero_add,Nat.zero_add];exact⟨hr,hb,hx,ha.bytes,hr,fun hp=>by rw[ha.end_ hp];exact getB_nul⟩
theorem ext_ok{d:Dsk}(h:d.ok)(h8:8≤d.n){gen pos seq:Nat}{b:List UInt8}(hr:pos+takes1 b≤room d.n):(keepD d (secAt d.n gen (pos+1)) (extL d.n pos b)).ok∧(extD d gen pos seq b).ok:=by
 have h1:=keepD_ok h (sec_end (gen:=gen) (by omega) (extL_length hr)) (all64_ext d.n pos b);refine⟨h1,?_⟩;unfold extD;split
 ·have ht:takes1 b=1+need b.length:=rfl;have:=sec_lt (n:=d.n) (gen:=gen) (pos:=pos) (by omega) (by omega);exact keepD_ok h1 (by rw[keepD_n];simp;omega) (fun s hs=>by rw[List.mem_singleton.1 hs];exact put_length (markM_right _ _ _))
 exact h1
section
variable {d:Dsk} {j:Jr} {b:List UInt8}
theorem app_first(h:Rest d j)(hr:takes j.gs+takes1 b≤room d.n)(hk:keepB d (secAt d.n j.gen (takes j.gs+1)) (extL d.n (takes j.gs) b)=true){d1:Dsk}(h1:d1=keepD d (secAt d.n j.gen (takes j.gs+1)) (extL d.n (takes j.gs) b)):
  d1.waits=(fun _=>none)∧d1.off=false∧d1.n=d.n∧d1.ok∧∀f',(∀i,i<d.n→i≠secAt d.n j.gen (takes j.gs)→f' i=d1.safe i)→Ahead (rd d) f' d.n j.gen (takes j.gs) b:=by
 subst h1;obtain⟨k1,k2,k3⟩:=keep_yes hk h.calm;have ht:takes1 b=1+need b.length:=rfl;have hn:(2:Nat)≤d.n:=by have:=h.n8;omega
 refine⟨k2,k3,keepD_n _ _ _,(ext_ok (gen:=j.gen) (seq:=0) h.ok h.n8 hr).1,fun f' hf=>⟨fun i hi=> ?_,fun p hp=> ?_,fun i hi=> ?_,fun hp=> ?_⟩⟩
 ·have hs:=sec_two d.n j.gen (takes j.gs);have hs2:=sec_two d.n j.gen (takes j.gs+1);rw[hf i (by omega) (by omega),k1,laidAt,if_neg (by omega),rd_calm h.calm (by omega)]
 ·have hl:=sec_lt (n:=d.n) (gen:=j.gen) (pos:=p) hn (by omega);have e1:secAt d.n j.gen (takes j.gs)=secAt d.n j.gen p+(takes j.gs-p):=by rw[←sec_add];congr 1;omega
  have e2:secAt d.n j.gen (takes j.gs+1)=secAt d.n j.gen p+(takes j.gs+1-p):=by rw[←sec_add];congr 1;omega
  rw[hf _ hl (by omega),k1,laidAt,if_neg (by omega),rd_calm h.calm hl]
 ·have hl:=sec_lt (n:=d.n) (gen:=j.gen) (pos:=takes j.gs+1+i) hn (by omega);have e1:=sec_add d.n j.gen (takes j.gs) (1+i);rw[←Nat.add_assoc] at e1;have e2:=sec_add d.n j.gen (takes j.gs+1) i;obtain⟨g1,g2⟩:=extL_pack (n:=d.n) (pos:=takes j.gs) hi;rw[hf _ hl (by omega),k1,laidAt,if_pos (by omega),show secAt d.n j.gen (takes j.gs+1+i)-secAt d.n j.gen (takes j.gs+1)=i by omega,g1]
 have hl:=sec_lt (n:=d.n) (gen:=j.gen) (pos:=takes j.gs+takes1 b) hn hp;have e1:=sec_add d.n j.gen (takes j.gs) (takes1 b);have e2:=sec_add d.n j.gen (takes j.gs+1) (need b.length);rw[show takes j.gs+1+need b.length=takes j.gs+takes1 b by omega] at e2;obtain⟨g1,g2⟩:=extL_end hp;rw[hf _ hl (by omega),k1,laidAt,if_pos (by omega),show secAt d.n j.gen (takes j.gs+takes1 b)-secAt d.n j.gen (takes j.gs+1)=need b.length by omega,g1]
theorem app_fail(h:Rest d j)(hr:takes j.gs+takes1 b≤room d.n)(hk:keepB d (secAt d.n j.gen (takes j.gs+1)) (extL d.n (takes j.gs) b)=false)(fs:List Int):
  (keepD d (secAt d.n j.gen (takes j.gs+1)) (extL d.n (takes j.gs) b)).off=true∧Good (rd ((keepD d (secAt d.n j.gen (takes j.gs+1)) (extL d.n (takes j.gs) b)).crash fs)) d.n j.gen j.gs:=by
 obtain⟨k1,k2,k3⟩:=keep_no hk h.calm;have hok:=(ext_ok (gen:=j.gen) (seq:=0) h.ok h.n8 hr).1;have hn:=keepD_n d (secAt d.n j.gen (takes j.gs+1)) (extL d.n (takes j.gs) b);refine⟨k1,?_⟩;have ht:takes1 b=1+need b.length:=rfl;have h8:=h.n8;have key:∀i,i<secAt d.n j.gen (takes j.gs+1)→i<d.n→rd ((keepD d (secAt d.n j.gen (takes j.gs+1)) (extL d.n (takes j.gs) b)).crash fs) i=rd d i:=fun i hi hl=>by
  rw[crash_same hok fs (by rw[hn];exact hl) ((k3 i).elim id (fun⟨q,_,e,_⟩=>by omega)),k2,rd_calm h.calm hl]
 have hs2:=sec_two d.n j.gen (takes j.gs+1);have e1:=sec_add d.n j.gen (takes j.gs) 1;have hl:=sec_lt (n:=d.n) (gen:=j.gen) (pos:=takes j.gs) (by omega) (by omega);refine good_heads h.good (fun i hi=>key i (by omega) (by omega)) (h.good.holds.congr (fun p _ hp=> ?_) (fun hp=> ?_))
 ·have e2:secAt d.n j.gen (takes j.gs)=secAt d.n j.gen p+(takes j.gs-p):=by rw[←sec_add];congr 1;omega
  exact key _ (by omega) (by omega)
 rw[Nat.zero_add] at hp ⊢;rw[key _ (by omega) hl];have:=h.good.holds.last (by rw[Nat.zero_add];exact hp);rwa [Nat.zero_add] at this
theorem mark_free(h:Rest d j)(hp:takes j.gs<room d.n):getB (d.safe (secAt d.n j.gen (takes j.gs)))=false:=by
 have:=h.good.holds.last (by rw[Nat.zero_add];exact hp);have h8:=h.n8;rw[Nat.zero_add] at this;rwa [rd_calm h.calm (sec_lt (by omega) hp)] at this
theorem first_keeps(h:Rest d j)(hk:keepB d (secAt d.n j.gen (takes j.gs+1)) (extL d.n (takes j.gs) b)=true):(keepD d (secAt d.n j.gen (takes j.gs+1)) (extL d.n (takes j.gs) b)).safe (secAt d.n j.gen (takes j.gs))=d.safe (secAt d.n j.gen (takes j.gs)):=by
 obtain⟨k1,_,_⟩:=keep_yes hk h.calm;have e1:=sec_add d.n j.gen (takes j.gs) 1;rw[k1,laidAt,if_neg (by omega)]
theorem app_done(h:Rest d j)(hb:b.length≤1048576)(hr:takes j.gs+takes1 b≤room d.n)(hk:extB d j.gen (takes j.gs) j.gs.length b=true):Rest (extD d j.gen (takes j.gs) j.gs.length b) {j with gs:=j.gs++[b]}:=by
 have hok:=(ext_ok (gen:=j.gen) (seq:=j.gs.length) h.ok h.n8 hr).2;simp only[extB,Bool.and_eq_true] at hk;have hD:extD d j.gen (takes j.gs) j.gs.length b=keepD (keepD d (secAt d.n j.gen (takes j.gs+1)) (extL d.n (takes j.gs) b)) (secAt d.n j.gen (takes j.gs)) [put (markM j.gen j.gs.length b)]:=by unfold extD;rw[if_pos hk.1]
 obtain⟨a1,a2,a3,a4,a5⟩:=app_first h hr hk.1 rfl;obtain⟨k1,k2,k3⟩:=keep_yes hk.2 a1;have hn:=extD_n d j.gen (takes j.gs) j.gs.length b;have hN:(keepD (keepD d (secAt d.n j.gen (takes j.gs+1)) (extL d.n (takes j.gs) b)) (secAt d.n j.gen (takes j.gs)) [put (markM j.gen j.gs.length b)]).n=d.n:=by rw[←hD];exact hn
 have ht:takes1 b=1+need b.length:=rfl;have h8:=h.n8;have hl:=sec_lt (n:=d.n) (gen:=j.gen) (pos:=takes j.gs) (by omega) (by omega);rw[hD] at hok ⊢;refine⟨hok,by rw[hN];exact h.n8,k2,k3,h.up,?_⟩;rw[hN];refine Ahead.there h.good (a5 _ fun i hi hne=> ?_) hr hb ?_
 ·rw[rd_calm k2 (by rw[hN];exact hi),k1,laidAt,if_neg (by simp;omega)]
 rw[rd_calm k2 (by rw[hN];exact hl),k1,laidAt,if_pos (by simp),Nat.sub_self];rfl
theorem app_torn(h:Rest d j)(hb:b.length≤1048576)(hr:takes j.gs+takes1 b≤room d.n)(hk:extB d j.gen (takes j.gs) j.gs.length b=false)(fs:List Int):
  (extD d j.gen (takes j.gs) j.gs.length b).off=true∧(Good (rd ((extD d j.gen (takes j.gs) j.gs.length b).crash fs)) d.n j.gen j.gs∨Good (rd ((extD d j.gen (takes j.gs) j.gs.length b).crash fs)) d.n j.gen (j.gs++[b])):=by
 have hok:=(ext_ok (gen:=j.gen) (seq:=j.gs.length) h.ok h.n8 hr).2;have hn:=extD_n d j.gen (takes j.gs) j.gs.length b;cases hk1:keepB d (secAt d.n j.gen (takes j.gs+1)) (extL d.n (takes j.gs) b) with
 |false=>
  have hD:extD d j.gen (takes j.gs) j.gs.length b=keepD d (secAt d.n j.gen (takes j.gs+1)) (extL d.n (takes j.gs) b):=by unfold extD;rw[hk1];rfl
  rw[hD];obtain⟨g1,g2⟩:=app_fail h hr hk1 fs;exact⟨g1,.inl g2⟩
 |true=>
  have hk2:keepB (keepD d (secAt d.n j.gen (takes j.gs+1)) (extL d.n (takes j.gs) b)) (secAt d.n j.gen (takes j.gs)) [put (markM j.gen j.gs.length b)]=false:=by simpa [extB,hk1] using hk
  have hD:extD d j.gen (takes j.gs) j.gs.length b=keepD (keepD d (secAt d.n j.gen (takes j.gs+1)) (extL d.n (takes j.gs) b)) (secAt d.n j.gen (takes j.gs)) [put (markM j.gen j.gs.length b)]:=by unfold extD;rw[if_pos hk1]
  obtain⟨a1,a2,a3,a4,a5⟩:=app_first h hr hk1 rfl;obtain⟨k1,k2,k3⟩:=keep_no hk2 a1;have hfk:=first_keeps h hk1;rw[hD] at hok hn ⊢;generalize keepD d (secAt d.n j.gen (takes j.gs+1)) (extL d.n (takes j.gs) b)=d1 at *;generalize keepD d1 (secAt d.n j.gen (takes j.gs)) [put (markM j.gen j.gs.length b)]=d2 at *;refine⟨k1,?_⟩;have ht:takes1 b=1+need b.length:=rfl;have h8:=h.n8;have hl:=sec_lt (n:=d.n) (gen:=j.gen) (pos:=takes j.gs) (by omega) (by omega);have hA:=a5 (rd (d2.crash fs)) fun i hi hne=>by
   rw[crash_same hok fs (by omega) ((k3 i).elim id (fun⟨q,hq,e,_⟩=>by simp at hq;omega)),k2]
  have hfree:=mark_free h (by omega);rcases k3 (secAt d.n j.gen (takes j.gs)) with hw|⟨q,hq,_,hw⟩
  ·refine .inl (hA.not_there h.good ?_);rw[crash_same hok fs (by omega) hw,k2,hfk];exact hfree
  obtain rfl:q=0:=by simpa using hq
  have hh:=crash_torn hok fs (by omega) hw;rw[k2,hfk] at hh;rcases torn_three (markM_right _ _ _) hh with hx|hx|hx
  ·exact .inr (hA.there h.good hr hb hx)
  ·refine .inl (hA.not_there h.good ?_);rw[hx];exact hfree
  exact .inl (hA.not_there h.good hx)
end
end Go.Proofs.YtdjhlhellkajfaaGreat.JourM
namespace Go.Proofs.YtdjhlhellkajfaaGreat.JourM
open Disk FrameM Codec
theorem laidAll_64(gen:Nat):∀(seq:Nat) (l:List (List UInt8)),∀s∈laidAll gen seq l,s.length=64
 |_,[],s,hs=>by cases hs
 |seq,b::l,s,hs=>by
  rw[laidAll_cons] at hs;rcases List.mem_append.1 hs with h|h
  ·unfold laid at h;rcases List.mem_cons.1 h with rfl|h
   ·exact put_length (markM_right _ _ _)
   exact pack_all b s h
  exact laidAll_64 gen (seq+1) l s h
theorem all64_begin(n gen:Nat)(l:List (List UInt8)):∀s∈beginL n gen l,s.length=64:=by
 intro s hs;unfold beginL endL at hs;rcases List.mem_append.1 hs with h|h
 ·exact laidAll_64 gen 0 l s h
 split at h
 ·rw[List.mem_singleton.1 h];rfl
 cases h
theorem beginL_length{n gen:Nat}{l:List (List UInt8)}(h:takes l≤room n):(beginL n gen l).length≤room n∧takes l≤(beginL n gen l).length:=by
 unfold beginL endL;rw[List.length_append,laidAll_length];split<;>simp<;>omega
theorem begin_ok{d:Dsk}(h:d.ok)(h8:8≤d.n){gen:Nat}{l:List (List UInt8)}(hr:takes l≤room d.n):(keepD d (secAt d.n gen 0) (beginL d.n gen l)).ok∧(beginD d gen l).ok:=by
 have h1:=keepD_ok h (sec_end (gen:=gen) (p:=0) (by omega) (by rw[Nat.zero_add];exact(beginL_length hr).1)) (all64_begin d.n gen l);refine⟨h1,?_⟩;unfold beginD;split
 ·exact keepD_ok h1 (by rw[keepD_n];simp;omega) (fun s hs=>by rw[List.mem_singleton.1 hs];exact put_length (headM_right _))
 exact h1
section
variable {d:Dsk} {l:List (List UInt8)} {gen:Nat}
theorem begin_first(hw:d.waits=fun _=>none)(h8:8≤d.n)(hok:d.ok)(hr:takes l≤room d.n)(hb:∀b∈l,b.length≤1048576)(hk:keepB d (secAt d.n gen 0) (beginL d.n gen l)=true){d1:Dsk}(h1:d1=keepD d (secAt d.n gen 0) (beginL d.n gen l)):
  d1.waits=(fun _=>none)∧d1.off=false∧d1.n=d.n∧d1.ok∧(∀i,i<secAt d.n gen 0∨secAt d.n gen 0+room d.n≤i→d1.safe i=d.safe i)∧∀f',(∀i,2≤i→i<d.n→f' i=d1.safe i)→Holds f' d.n gen 0 0 l:=by
 subst h1;obtain⟨k1,k2,k3⟩:=keep_yes hk hw;obtain⟨g1,g2⟩:=beginL_length (gen:=gen) hr;refine⟨k2,k3,keepD_n _ _ _,(begin_ok hok h8 hr).1,fun i hi=>by rw[k1,laidAt,if_neg (by omega)],fun f' hf=> ?_⟩;refine Holds.laid (by omega) hb (fun k hk'=> ?_) (fun hp=> ?_)
 ·have hl:=sec_lt (n:=d.n) (gen:=gen) (pos:=0+k) (by omega) (by omega);have e:=sec_add d.n gen 0 k;rw[hf _ (sec_two _ _ _) hl,k1,laidAt,if_pos (by omega),e,Nat.add_sub_cancel_left];unfold beginL;rw[getD_left _ _ _ _ (by rw[laidAll_length];exact hk')]
 have hl:=sec_lt (n:=d.n) (gen:=gen) (pos:=0+takes l) (by omega) hp;have e:=sec_add d.n gen 0 (takes l);rw[Nat.zero_add] at hp;have hlen:takes l<(beginL d.n gen l).length:=by unfold beginL endL;rw[if_pos hp,List.length_append,laidAll_length];simp
 rw[hf _ (sec_two _ _ _) hl,k1,laidAt,if_pos (by omega),e,Nat.add_sub_cancel_left];unfold beginL endL;rw[if_pos hp,getD_right _ _ _ _ (by rw[laidAll_length];omega),laidAll_length,Nat.sub_self];exact getB_nul
theorem mod_other(gen:Nat):1-gen%2=(gen+1)%2∧1-(gen+1)%2=gen%2∧gen%2≠(gen+1)%2:=by omega
section
variable {j:Jr}
theorem holds_apart{f f':Nat→List UInt8}{n gen:Nat}{gs:List (List UInt8)}(h:Holds f n gen 0 0 gs)(he:∀p,p<room n→f' (secAt n gen p)=f (secAt n gen p)):Holds f' n gen 0 0 gs:=by
 have:=h.room;exact h.congr (fun p _ hp=>he p (by omega)) (fun hp=>by rw[he _ hp];exact h.last hp)
theorem rst_fail(h:Rest d j)(hr:takes l≤room d.n)(hk:keepB d (secAt d.n (j.gen+1) 0) (beginL d.n (j.gen+1) l)=false)(fs:List Int):
  (keepD d (secAt d.n (j.gen+1) 0) (beginL d.n (j.gen+1) l)).off=true∧Good (rd ((keepD d (secAt d.n (j.gen+1) 0) (beginL d.n (j.gen+1) l)).crash fs)) d.n j.gen j.gs:=by
 obtain⟨k1,k2,k3⟩:=keep_no hk h.calm;have hok:=(begin_ok (gen:=j.gen+1) h.ok h.n8 hr).1;have hn:=keepD_n d (secAt d.n (j.gen+1) 0) (beginL d.n (j.gen+1) l);have h8:=h.n8;obtain⟨g1,g2⟩:=beginL_length (gen:=j.gen+1) hr;refine⟨k1,?_⟩;have key:∀i,i<secAt d.n (j.gen+1) 0∨secAt d.n (j.gen+1) 0+room d.n≤i→i<d.n→rd ((keepD d (secAt d.n (j.gen+1) 0) (beginL d.n (j.gen+1) l)).crash fs) i=rd d i:=fun i hi hl=>by
  rw[crash_same hok fs (by rw[hn];exact hl) ((k3 i).elim id (fun⟨q,_,e,_⟩=>by omega)),k2,rd_calm h.calm hl]
 have hs2:=sec_two d.n (j.gen+1) 0;exact good_heads h.good (fun i hi=>key i (by omega) (by omega)) (holds_apart h.good.holds fun p hp=>key _ (sec_apart hp) (sec_lt (by omega) hp))
theorem rst_head(h:Rest d j)(hg:j.gen+1<9223372036854775808){f':Nat→List UInt8}(hold:f' (j.gen%2)=put (headM j.gen))(hs:∀p,p<room d.n→f' (secAt d.n j.gen p)=rd d (secAt d.n j.gen p))(hh:Holds f' d.n (j.gen+1) 0 0 l):
  (f' ((j.gen+1)%2)=put (headM (j.gen+1))→Good f' d.n (j.gen+1) l)∧(headIn f' ((j.gen+1)%2)<j.gen→Good f' d.n j.gen j.gs):=by
 obtain⟨m1,m2,m3⟩:=mod_other j.gen;refine⟨fun hx=>⟨by omega,hg,hx,?_,hh⟩,fun hx=>⟨h.good.one,h.good.big,hold,by rw[m1];exact hx,holds_apart h.good.holds hs⟩⟩;rw[m2,headIn_put hold h.good.big];omega
theorem rst_first(h:Rest d j){d1:Dsk}(hs:∀i,i<secAt d.n (j.gen+1) 0∨secAt d.n (j.gen+1) 0+room d.n≤i→d1.safe i=d.safe i){f':Nat→List UInt8}(hf:∀i,i<d.n→i≠(j.gen+1)%2→f' i=d1.safe i):
  f' (j.gen%2)=put (headM j.gen)∧∀p,p<room d.n→f' (secAt d.n j.gen p)=rd d (secAt d.n j.gen p):=by
 obtain⟨m1,m2,m3⟩:=mod_other j.gen;have h8:=h.n8;have hs2:=sec_two d.n (j.gen+1) 0;refine⟨?_,fun p hp=> ?_⟩
 ·rw[hf _ (by omega) m3,hs _ (.inl (by omega)),←h.good.head,rd_calm h.calm (by omega)]
 have hl:=sec_lt (n:=d.n) (gen:=j.gen) (by omega) hp;have:=sec_two d.n j.gen p;rw[hf _ hl (by omega),hs _ (sec_apart hp),rd_calm h.calm hl]
theorem rst_done(h:Rest d j)(hg:j.gen+1<9223372036854775808)(hb:∀b∈l,b.length≤1048576)(hr:takes l≤room d.n)(hk:beginB d (j.gen+1) l=true):Rest (beginD d (j.gen+1) l) ⟨j.gen+1,l,false⟩:=by
 have hok:=(begin_ok (gen:=j.gen+1) h.ok h.n8 hr).2;simp only[beginB,Bool.and_eq_true] at hk;have hD:beginD d (j.gen+1) l=keepD (keepD d (secAt d.n (j.gen+1) 0) (beginL d.n (j.gen+1) l)) ((j.gen+1)%2) [put (headM (j.gen+1))]:=by unfold beginD;rw[if_pos hk.1]
 obtain⟨a1,a2,a3,a4,a5,a6⟩:=begin_first h.calm h.n8 h.ok hr hb hk.1 rfl;obtain⟨k1,k2,k3⟩:=keep_yes hk.2 a1;have hN:=beginD_n d (j.gen+1) l;rw[hD] at hok hN ⊢;generalize keepD d (secAt d.n (j.gen+1) 0) (beginL d.n (j.gen+1) l)=d1 at *;generalize keepD d1 ((j.gen+1)%2) [put (headM (j.gen+1))]=d2 at *;have h8:=h.n8;have hf:∀i,i<d.n→i≠(j.gen+1)%2→rd d2 i=d1.safe i:=fun i hi hne=>by
  rw[rd_calm k2 (by rw[hN];exact hi),k1,laidAt,if_neg (by simp;omega)]
 obtain⟨f1,f2⟩:=rst_first h a5 hf;refine⟨hok,by rw[hN];exact h8,k2,k3,rfl,?_⟩;rw[hN];refine(rst_head h hg f1 f2 (a6 _ fun i h2 hi=>hf i hi (by omega))).1 ?_;rw[rd_calm k2 (by omega),k1,laidAt,if_pos (by simp),Nat.sub_self];rfl
theorem rst_torn(h:Rest d j)(hg:j.gen+1<9223372036854775808)(hb:∀b∈l,b.length≤1048576)(hr:takes l≤room d.n)(hk:beginB d (j.gen+1) l=false)(fs:List Int):
  (beginD d (j.gen+1) l).off=true∧(Good (rd ((beginD d (j.gen+1) l).crash fs)) d.n j.gen j.gs∨Good (rd ((beginD d (j.gen+1) l).crash fs)) d.n (j.gen+1) l):=by
 have hok:=(begin_ok (gen:=j.gen+1) h.ok h.n8 hr).2;have hN:=beginD_n d (j.gen+1) l;cases hk1:keepB d (secAt d.n (j.gen+1) 0) (beginL d.n (j.gen+1) l) with
 |false=>
  have hD:beginD d (j.gen+1) l=keepD d (secAt d.n (j.gen+1) 0) (beginL d.n (j.gen+1) l):=by unfold beginD;rw[hk1];rfl
  rw[hD];obtain⟨g1,g2⟩:=rst_fail h hr hk1 fs;exact⟨g1,.inl g2⟩
 |true=>
  have hk2:keepB (keepD d (secAt d.n (j.gen+1) 0) (beginL d.n (j.gen+1) l)) ((j.gen+1)%2) [put (headM (j.gen+1))]=false:=by simpa [beginB,hk1] using hk
  have hD:beginD d (j.gen+1) l=keepD (keepD d (secAt d.n (j.gen+1) 0) (beginL d.n (j.gen+1) l)) ((j.gen+1)%2) [put (headM (j.gen+1))]:=by unfold beginD;rw[if_pos hk1]
  obtain⟨a1,a2,a3,a4,a5,a6⟩:=begin_first h.calm h.n8 h.ok hr hb hk1 rfl;obtain⟨k1,k2,k3⟩:=keep_no hk2 a1;rw[hD] at hok hN ⊢;generalize keepD d (secAt d.n (j.gen+1) 0) (beginL d.n (j.gen+1) l)=d1 at *;generalize keepD d1 ((j.gen+1)%2) [put (headM (j.gen+1))]=d2 at *;refine⟨k1,?_⟩;have h8:=h.n8;obtain⟨m1,m2,m3⟩:=mod_other j.gen;have hf:∀i,i<d.n→i≠(j.gen+1)%2→rd (d2.crash fs) i=d1.safe i:=fun i hi hne=>by
   rw[crash_same hok fs (by omega) ((k3 i).elim id (fun⟨q,hq,e,_⟩=>by simp at hq;omega)),k2]
  obtain⟨f1,f2⟩:=rst_first h a5 hf;obtain⟨r1,r2⟩:=rst_head (l:=l) h hg f1 f2 (a6 _ fun i h2 hi=>hf i hi (by omega));have hs2:=sec_two d.n (j.gen+1) 0;have hold:d1.safe ((j.gen+1)%2)=rd d ((j.gen+1)%2):=by rw[a5 _ (.inl (by omega)),rd_calm h.calm (by omega)]
  have hlow:=h.good.other;rw[m1] at hlow;rcases k3 ((j.gen+1)%2) with hw|⟨q,hq,_,hw⟩
  ·refine .inl (r2 ?_);rw[headIn_congr (f:=rd d) (by rw[crash_same hok fs (by omega) hw,k2,hold])];exact hlow
  obtain rfl:q=0:=by simpa using hq
  have hh:=crash_torn hok fs (by omega) hw;rw[k2] at hh;rcases torn_three (headM_right _) hh with hx|hx|hx
  ·exact .inr (r1 hx)
  ·refine .inl (r2 ?_);rw[headIn_congr (f:=rd d) (by rw[hx,hold])];exact hlow
  refine .inl (r2 ?_);rw[headIn_no hx];exact h.good.one
end
theorem open_good{gs:List (List UInt8)}(hok:d.ok)(h8:8≤d.n)(hw:d.waits=fun _=>none)(ho:d.off=false)(h:Good (rd d) d.n gen gs):openB d=true∧openD d=d∧openJ d=⟨gen,gs,false⟩∧Rest d ⟨gen,gs,false⟩:=by
 have hn:=h.newest;have h1:=h.one;have hD:openD d=d:=by unfold openD;rw[hn,if_neg (by omega)]
 have hG:openG d=gen:=by unfold openG;rw[hn,if_neg (by omega)]
 refine⟨by unfold openB;rw[hn,if_neg (by omega)],hD,?_,⟨hok,h8,hw,ho,rfl,h⟩⟩;unfold openJ;rw[hD,hG,h.groups hok.2.1]
theorem rest_crash{j:Jr}(h:Rest d j)(fs:List Int):Rest (d.crash fs) j:=by
 refine⟨Dsk.crash_ok h.ok fs,h.n8,rfl,rfl,h.up,?_⟩;have e:rd (d.crash fs)=rd d:=by
  funext i;by_cases hi:i<d.n
  ·rw[crash_same h.ok fs hi (by rw[h.calm]),rd_calm h.calm hi]
  rw[rd_out (d:=d.crash fs) (by rw[crash_n];omega),rd_out (by omega)]
 rw[e];exact h.good
structure Still (d:Dsk) (j:Jr):Prop where
 ok:d.ok
 n8:8≤d.n
 calm:d.waits=fun _=>none
 up:j.down=false
 good:Good (rd d) d.n j.gen j.gs
theorem Rest.still{j:Jr}(h:Rest d j):Still d j:=⟨h.ok,h.n8,h.calm,h.up,h.good⟩
theorem Still.rest{j:Jr}(h:Still d j)(ho:d.off=false):Rest d j:=⟨h.ok,h.n8,h.calm,ho,h.up,h.good⟩
theorem rd_eq{d d':Dsk}(hn:d'.n=d.n)(hs:d'.safe=d.safe)(hw:d'.waits=d.waits):rd d'=rd d:=by
 funext i;unfold rd Dsk.read;rw[hn,hs,hw]
theorem Still.stop{j:Jr}(h:Still d j){k:Int}(h1: -9223372036854775808≤k)(h2:k≤9223372036854775807):Still (d.stop k) j:=
 ⟨Dsk.stop_ok h.ok h1 h2,h.n8,h.calm,h.up,by rw[rd_eq (d:=d) (d':=d.stop k) rfl rfl rfl];exact h.good⟩
theorem Rest.opened{j:Jr}(h:Rest d j):openB d=true∧openD d=d∧openJ d=j:=by
 obtain⟨h1,h2,h3,_⟩:=open_good h.ok h.n8 h.calm h.off h.good;refine⟨h1,h2,?_⟩;rw[h3];obtain⟨g,gs,dn⟩:=j;have:=h.up;simp only at this;rw[this]
def Free (d:Dsk):Prop:=d.off=false∧d.stops=false
theorem Free.go(h:Free d):JourM.go d=true:=by simp[JourM.go,Dsk.done,h.1,h.2]
theorem Free.deed(h:Free d):d.deed=d:=by unfold Dsk.deed;rw[h.2];rfl
theorem Free.wr(h:Free d)(i:Nat)(s:List UInt8):Free (JourM.wr d i s):=by
 rw[wr_go h.go,h.deed];exact h
theorem Free.wrs(h:Free d)(i:Nat)(l:List (List UInt8)):wrsB d i l=true∧Free (wrsD d i l):=by
 induction l generalizing d i with
 |nil=>exact⟨rfl,h⟩
 |cons s l ih=>
  rw[wrsB_cons,wrsD_cons,h.go];exact ih (h.wr i s) (i+1)
theorem Free.keep(h:Free d)(i:Nat)(l:List (List UInt8)):keepB d i l=true∧Free (keepD d i l):=by
 obtain⟨h1,h2⟩:=h.wrs i l;refine⟨by simp[keepB,h1,h2.go],?_⟩;unfold keepD;rw[h1,if_pos rfl,sy_go h2.go,h2.deed];exact h2
theorem Free.begin(h:Free d)(gen:Nat)(l:List (List UInt8)):beginB d gen l=true∧Free (beginD d gen l):=by
 obtain⟨h1,h2⟩:=h.keep (secAt d.n gen 0) (beginL d.n gen l);obtain⟨h3,h4⟩:=h2.keep (gen%2) [put (headM gen)];refine⟨by simp[beginB,h1,h3],?_⟩;unfold beginD;rw[h1,if_pos rfl];exact h4
theorem Free.ext(h:Free d)(gen pos seq:Nat)(b:List UInt8):extB d gen pos seq b=true∧Free (extD d gen pos seq b):=by
 obtain⟨h1,h2⟩:=h.keep (secAt d.n gen (pos+1)) (extL d.n pos b);obtain⟨h3,h4⟩:=h2.keep (secAt d.n gen pos) [put (markM gen seq b)];refine⟨by simp[extB,h1,h3],?_⟩;unfold extD;rw[h1,if_pos rfl];exact h4
theorem fresh_free(n:Nat):Free (fresh n):=⟨rfl,rfl⟩
theorem fresh_newest(n:Nat)(h:8≤n):newest (rd (fresh n))=0:=by
 have e:∀i,i<2→rd (fresh n) i=nul64:=fun i hi=>by rw[rd_calm (d:=fresh n) rfl (by show i<n;omega)];rfl
 unfold newest;rw[headIn_no (by rw[e 0 (by omega)];exact getB_nul),headIn_no (by rw[e 1 (by omega)];exact getB_nul)];rfl
theorem fresh_open(n:Nat)(h8:8≤n)(hn:n≤65536):openB (fresh n)=true∧openJ (fresh n)=⟨1,[],false⟩∧Rest (openD (fresh n)) ⟨1,[],false⟩∧Free (openD (fresh n)):=by
 have hnw:=fresh_newest n h8;obtain⟨b1,b2⟩:=(fresh_free n).begin 1 [];have hok:=fresh_ok (n:=n) (by omega) hn;have hD:openD (fresh n)=beginD (fresh n) 1 []:=by unfold openD;rw[hnw,if_pos rfl]
 have hG:openG (fresh n)=1:=by unfold openG;rw[hnw,if_pos rfl]
 have hR:Rest (beginD (fresh n) 1 []) ⟨1,[],false⟩:=by
  have hok2:=(begin_ok (gen:=1) (l:=[]) hok h8 (by simp[takes])).2;have hk:=b1;simp only[beginB,Bool.and_eq_true] at hk;have hD2:beginD (fresh n) 1 []=keepD (keepD (fresh n) (secAt (fresh n).n 1 0) (beginL (fresh n).n 1 [])) (1%2) [put (headM 1)]:=by unfold beginD;rw[if_pos hk.1]
  obtain⟨a1,a2,a3,a4,a5,a6⟩:=begin_first (d:=fresh n) (l:=[]) rfl h8 hok (by simp[takes]) (by simp) hk.1 rfl;obtain⟨k1,k2,k3⟩:=keep_yes hk.2 a1;have hN:=beginD_n (fresh n) 1 [];have hs2:=sec_two n 1 0;rw[hD2] at hok2 hN ⊢;generalize keepD (fresh n) (secAt (fresh n).n 1 0) (beginL (fresh n).n 1 [])=d1 at *;generalize keepD d1 (1%2) [put (headM 1)]=d2 at *;have hNn:d2.n=n:=hN;refine⟨hok2,by rw[hNn];exact h8,k2,k3,rfl,?_⟩;rw[hNn];refine⟨Nat.le_refl _,by decide,?_,?_,a6 _ fun i h2 hi=> ?_⟩
  ·rw[rd_calm k2 (by omega),k1,laidAt,if_pos (by simp),Nat.sub_self];rfl
  ·rw[headIn_no]
   ·exact Nat.one_pos
   rw[rd_calm k2 (by omega),k1,laidAt,if_neg (by simp),a5 (1-1%2) (.inl (by show 1-1%2<secAt n 1 0;omega))];exact getB_nul
  have hi:i<n:=hi;have hi2:i<d2.n:=by omega
  rw[rd_calm k2 hi2,k1,laidAt,if_neg (by simp;omega)]
 refine⟨by unfold openB;rw[hnw,if_pos rfl];exact b1,?_,by rw[hD];exact hR,by rw[hD];exact b2⟩;unfold openJ;rw[hD,hG];have:=hR.good.groups (by rw[beginD_n];exact hn);rw[beginD_n] at this;rw[this]
end
end Go.Proofs.YtdjhlhellkajfaaGreat.JourM
namespace Go.Proofs.YtdjhlhellkajfaaGreat.JourM
open Codec FrameM
open Disk (Dsk fresh)
def kA:Dsk:=openD (fresh 20)
theorem kA_n:kA.n=20:=openD_n _
theorem kA_rest:Rest kA ⟨1,[],false⟩∧Free kA:=by
 obtain⟨_,_,h3,h4⟩:=fresh_open 20 (by omega) (by omega);exact⟨h3,h4⟩
theorem stop_off(d:Dsk)(k:Int):(d.stop k).off=(d.off||decide (k<1)):=rfl
end Go.Proofs.YtdjhlhellkajfaaGreat.JourM
