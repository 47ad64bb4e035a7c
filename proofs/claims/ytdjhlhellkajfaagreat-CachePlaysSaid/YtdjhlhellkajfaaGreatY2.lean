/-
  Texts CMath, FMath, in one file. What each proves, and its conditions, stand at its head below.
-/
import Derived.Test.YtdjhlhellkajfaaGreatY1
import Derived.KernelRfl
set_option maxRecDepth 100000
namespace Go.Proofs.YtdjhlhellkajfaaGreat.Codec
def le:Nat→Nat→List UInt8
 |0,_=>[]
 |k+1,n=>UInt8.ofNat (n%256)::le k (n/256)
def leVal:List UInt8→Nat
 |[]=>0
 |x::r=>x.toNat+256 * leVal r
theorem le_length:∀k n,(le k n).length=k
 |0,_=>rfl
 |k+1,n=>by simp[le,le_length k]
theorem le_snoc:∀k n,le (k+1) n=le k n++[UInt8.ofNat (n/256^k%256)]
 |0,n=>by simp[le]
 |k+1,n=>by
  rw[le,le_snoc k,le,List.cons_append,Nat.div_div_eq_div_mul,Nat.pow_succ,Nat.mul_comm]
theorem leVal_lt:∀l:List UInt8,leVal l<256^l.length
 |[]=>by simp[leVal]
 |x::r=>by
  have:=leVal_lt r;have hx:=x.toNat_lt;simp only[leVal,List.length_cons,Nat.pow_succ];omega
theorem leVal_snoc:∀(l:List UInt8) (x:UInt8),leVal (l++[x])=leVal l+256^l.length * x.toNat
 |[],x=>by simp[leVal]
 |y::r,x=>by
  simp only[List.cons_append,leVal,leVal_snoc r x,List.length_cons,Nat.pow_succ,Nat.mul_add];rw[Nat.mul_comm (256^r.length) 256,Nat.mul_assoc];omega
theorem leVal_le:∀k n,n<256^k→leVal (le k n)=n
 |0,n,h=>by simp at h;simp[le,leVal,h]
 |k+1,n,h=>by
  have h1:n/256<256^k:=by rw[Nat.pow_succ] at h;exact Nat.div_lt_of_lt_mul (by omega)
  rw[le,leVal,leVal_le k _ h1];simp;omega
structure St where
 left:List UInt8
 bad:Bool
def St.ok (s:St):Prop:=s.bad=true→s.left=[]
def short (n:Nat) (s:St):Bool:=s.bad||decide (s.left.length<n)
def tk (n:Nat) (s:St):List UInt8:=if short n s then [] else s.left.take n
def tkS (n:Nat) (s:St):St:=if short n s then ⟨[],true⟩ else ⟨s.left.drop n,false⟩
def signed (n:Nat):Int:=if n<9223372036854775808 then n else n-18446744073709551616
def num (s:St):Int:=signed (leVal (tk 8 s))
def small (s:St):Nat:=leVal (tk 2 s)
def over (most:Int) (s:St):Bool:=decide (most<(small s:Int))
def count (most:Int) (s:St):Nat:=if over most s then 0 else small s
def countS (most:Int) (s:St):St:=if over most s then ⟨[],true⟩ else tkS 2 s
theorem badOk:St.ok ⟨[],true⟩:=fun _=>rfl
theorem goodOk(l:List UInt8):St.ok ⟨l,false⟩:=fun h=>by cases h
theorem tkS_ok(n:Nat)(s:St):(tkS n s).ok:=by unfold tkS;split<;>first|exact badOk|exact goodOk _
theorem small_lt(s:St):small s<65536:=by
 have h:=leVal_lt (tk 2 s);have h2:(tk 2 s).length≤2:=by unfold tk;split<;>simp;omega
 have h3:256^(tk 2 s).length≤256^2:=Nat.pow_le_pow_right (by decide) h2;unfold small;omega
theorem signed_bound(n:Nat)(h:n<18446744073709551616): -9223372036854775808≤signed n∧signed n≤9223372036854775807:=by
 unfold signed;split<;>omega
theorem tk_short{n:Nat}{s:St}(h:short n s=true):tk n s=[]:=by simp[tk,h]
theorem tkS_short{n:Nat}{s:St}(h:short n s=true):tkS n s=⟨[],true⟩:=by simp[tkS,h]
def clip (n:Int):Nat:=(min (max n 0) 65535).toNat
theorem clip_lt(n:Int):clip n<65536:=by unfold clip;omega
def encNum (n:Int):List UInt8:=le 8 (n%18446744073709551616).toNat
def encSmall (n:Int):List UInt8:=le 2 (clip n)
theorem encNum_length(n:Int):(encNum n).length=8:=le_length _ _
theorem encSmall_length(n:Int):(encSmall n).length=2:=le_length _ _
theorem tk_app(l r:List UInt8)(n:Nat)(hn:l.length=n):tk n ⟨l++r,false⟩=l∧tkS n ⟨l++r,false⟩=⟨r,false⟩:=by
 subst hn;have h:short l.length ⟨l++r,false⟩=false:=by simp[short]
 simp[tk,tkS,h]
theorem num_back(n:Int)(r:List UInt8)(h: -9223372036854775808≤n∧n≤9223372036854775807):num ⟨encNum n++r,false⟩=n∧tkS 8 ⟨encNum n++r,false⟩=⟨r,false⟩:=by
 have h1:=tk_app (encNum n) r 8 (encNum_length n);refine⟨?_,h1.2⟩;unfold num;rw[h1.1,encNum,leVal_le 8 _ (by simp;omega)];unfold signed;split<;>omega
theorem small_back(n:Nat)(r:List UInt8)(h:n<65536):small ⟨le 2 n++r,false⟩=n∧tkS 2 ⟨le 2 n++r,false⟩=⟨r,false⟩:=by
 have h1:=tk_app (le 2 n) r 2 (le_length _ _);exact⟨by unfold small;rw[h1.1,leVal_le 2 _ (by simpa using h)],h1.2⟩
end Go.Proofs.YtdjhlhellkajfaaGreat.Codec
namespace Go.Proofs.YtdjhlhellkajfaaGreat.FrameM
open Go.Proofs.YtdjhlhellkajfaaGreat.Codec
structure Mk where
 kind:Int
 gen:Int
 seq:Int
 n:Int
def Mk.right (m:Mk):Bool:=decide (1≤m.kind)&&decide (m.kind≤255)&&decide (0≤m.gen)&&decide (0≤m.seq)&&decide (0≤m.n)
def in64 (n:Int):Prop:= -9223372036854775808≤n∧n≤9223372036854775807
structure Mk.fits (m:Mk):Prop where
 kind:in64 m.kind
 gen:in64 m.gen
 seq:in64 m.seq
 n:in64 m.n
def Mk.eq (m o:Mk):Bool:=(m.kind==o.kind)&&(m.gen==o.gen)&&(m.seq==o.seq)&&(m.n==o.n)
theorem Mk.eq_iff{m o:Mk}:m.eq o=true↔m=o:=by
 cases m
 cases o
 simp[Mk.eq,and_assoc]
def zeroM:Mk:=⟨0,0,0,0⟩
theorem right_iff{m:Mk}:m.right=true↔1≤m.kind∧m.kind≤255∧0≤m.gen∧0≤m.seq∧0≤m.n:=by simp[Mk.right,and_assoc]
def nats (xs:List UInt8):List Nat:=xs.map UInt8.toNat
def body (m:Mk):List UInt8:=encSmall 19796++(encSmall m.kind++(encNum m.gen++(encNum m.seq++encNum m.n)))
def crcOf (xs:List UInt8):Nat:=Sums.crc (nats xs)
def half (m:Mk):List UInt8:=body m++(encSmall (crcOf (body m)%65536:Nat)++encSmall (crcOf (body m)/65536:Nat))
def put (m:Mk):List UInt8:=if m.right then half m++half m else []
theorem crcOf_lt(xs:List UInt8):crcOf xs<4294967296:=Sums.crc_lt _
theorem body_length(m:Mk):(body m).length=28:=by simp[body,encSmall_length,encNum_length]
theorem half_length(m:Mk):(half m).length=32:=by simp[half,body_length,encSmall_length]
theorem put_right{m:Mk}(h:m.right=true):put m=half m++half m:=by simp[put,h]
theorem put_wrong{m:Mk}(h:m.right=false):put m=[]:=by simp[put,h]
theorem put_length{m:Mk}(h:m.right=true):(put m).length=64:=by simp[put_right h,half_length]
theorem encSmall_nat(n:Nat)(h:n<65536):encSmall (n:Int)=le 2 n:=by
 unfold encSmall clip;rw[show(min (max (n:Int) 0) 65535).toNat=n by omega]
theorem sum_bytes(s:Nat)(h:s<4294967296):encSmall (s%65536:Nat)++encSmall (s/65536:Nat)=le 4 s:=by
 rw[encSmall_nat _ (by omega),encSmall_nat _ (by omega)];simp only[le,List.cons_append,List.nil_append];rw[show s%65536%256=s%256 by omega,show s%65536/256%256=s/256%256 by omega,show s/65536%256=s/256/256%256 by omega,show s/65536/256%256=s/256/256/256%256 by omega]
theorem letters_bytes:encSmall 19796=[84,77]:=by decide
def readFrom (s:St):Mk:=⟨small s,num (tkS 2 s),num (tkS 8 (tkS 2 s)),num (tkS 8 (tkS 8 (tkS 2 s)))⟩
def readM (xs:List UInt8):Mk:=readFrom (tkS 2 ⟨xs.take 32,false⟩)
theorem readM_ref(xs:List UInt8)(h:xs.length=64):readM xs=readFrom ⟨(xs.drop 2).take 30,false⟩:=by
 unfold readM;have:short 2 ⟨xs.take 32,false⟩=false:=by simp[short];omega
 rw[tkS,this];simp[List.drop_take]
theorem readM_fits(xs:List UInt8):(readM xs).fits:=by
 have hn:∀s:St,in64 (num s):=fun s=>by
  refine signed_bound _ ?_;have h:=leVal_lt (tk 8 s);have h2:256^(tk 8 s).length≤256^8:=Nat.pow_le_pow_right (by decide) (by unfold tk;split<;>simp;omega);omega
 refine⟨?_,hn _,hn _,hn _⟩;have:=small_lt (tkS 2 ⟨xs.take 32,false⟩);exact⟨by show _≤((small _:Nat):Int);omega,by show((small _:Nat):Int)≤_;omega⟩
theorem small_enc(n:Int)(r:List UInt8)(h:0≤n∧n≤65535):((small ⟨encSmall n++r,false⟩:Nat):Int)=n∧tkS 2 ⟨encSmall n++r,false⟩=⟨r,false⟩:=by
 have e:encSmall n=le 2 n.toNat:=by
  unfold encSmall clip;rw[show(min (max n 0) 65535).toNat=n.toNat by omega]
 have:=small_back n.toNat r (by omega);rw[e];exact⟨by rw[this.1];omega,this.2⟩
theorem readM_half{m:Mk}(h:m.right=true)(hf:m.fits)(ys:List UInt8):readM (half m++ys)=m:=by
 obtain⟨h1,h2,h3,h4,h5⟩:=right_iff.1 h;have e:(half m++ys).take 32=half m:=by rw[List.take_append_of_le_length (by rw[half_length];omega),List.take_of_length_le (by rw[half_length];omega)]
 unfold readM;rw[e];unfold half body;simp only[List.append_assoc];rw[(small_enc 19796 _ (by omega)).2];unfold readFrom;have k1:=small_enc m.kind (encNum m.gen++(encNum m.seq++(encNum m.n++(encSmall (crcOf (body m)%65536:Nat)++encSmall (crcOf (body m)/65536:Nat))))) (by omega);have k2:=num_back m.gen (encNum m.seq++(encNum m.n++(encSmall (crcOf (body m)%65536:Nat)++encSmall (crcOf (body m)/65536:Nat)))) hf.gen;have k3:=num_back m.seq (encNum m.n++(encSmall (crcOf (body m)%65536:Nat)++encSmall (crcOf (body m)/65536:Nat))) hf.seq;have k4:=num_back m.n (encSmall (crcOf (body m)%65536:Nat)++encSmall (crcOf (body m)/65536:Nat)) hf.n;simp only[body] at k1 k2 k3 k4;rw[k1.2,k2.2,k3.2,k1.1,k2.1,k3.1,k4.1]
def isM (xs:List UInt8):Bool:=decide (put (readM xs)=xs)
def getB (xs:List UInt8):Bool:=decide (xs.length=64)&&isM xs
def getM (xs:List UInt8):Mk:=if getB xs then readM xs else zeroM
theorem getB_put{m:Mk}(h:m.right=true)(hf:m.fits):getB (put m)=true∧getM (put m)=m:=by
 have hr:readM (put m)=m:=by rw[put_right h];exact readM_half h hf _
 have:getB (put m)=true:=by simp[getB,isM,put_length h,hr]
 exact⟨this,by simp[getM,this,hr]⟩
def zeros (n:Nat):List UInt8:=List.replicate n 0
theorem zeros_length(n:Nat):(zeros n).length=n:=List.length_replicate
theorem torn_ahead(ys:List UInt8):getB (zeros 32++ys)=false:=by
 have e:(zeros 32++ys).take 32=zeros 32:=by rw[List.take_append_of_le_length (by rw[zeros_length];omega),List.take_of_length_le (by rw[zeros_length];omega)]
 have hk:(readM (zeros 32++ys)).kind=0:=by
  unfold readM;rw[e];decide
 have hw:(readM (zeros 32++ys)).right=false:=by
  cases hb:(readM (zeros 32++ys)).right with
  |false=>rfl
  |true=>have:=(right_iff.1 hb).1;omega
 have hne:¬[]=zeros 32++ys:=by simp[zeros]
 simp[getB,isM,put_wrong hw,hne]
theorem getM_no{xs:List UInt8}(h:getB xs=false):getM xs=zeroM:=by simp[getM,h]
theorem getM_yes{xs:List UInt8}(h:getB xs=true):getM xs=readM xs:=by simp[getM,h]
def need (n:Nat):Nat:=(n+63)/64
def needI (n:Int):Int:=if n≤0 then 0 else (n-1)/64+1
theorem needI_nat(n:Nat):needI (n:Int)=(need n:Int):=by
 unfold needI need;split<;>omega
def pad (ys:List UInt8):List UInt8:=ys++zeros (64-ys.length)
def piece (xs:List UInt8) (i:Nat):List UInt8:=(xs.drop (64 * i)).take 64
def sec (xs:List UInt8) (i:Nat):List UInt8:=pad (piece xs i)
def pack (xs:List UInt8):List (List UInt8):=(List.range (need xs.length)).map (sec xs)
theorem piece_length(xs:List UInt8)(i:Nat):(piece xs i).length=min 64 (xs.length-64 * i):=by simp[piece]
theorem sec_length(xs:List UInt8)(i:Nat):(sec xs i).length=64:=by
 have:=piece_length xs i;simp only[sec,pad,List.length_append,zeros_length];omega
theorem pack_length(xs:List UInt8):(pack xs).length=need xs.length:=by simp[pack]
theorem pack_all(xs:List UInt8):∀s∈pack xs,s.length=64:=by
 intro s hs;obtain⟨i,_,rfl⟩:=List.mem_map.1 hs;exact sec_length xs i
theorem sec_of(xs:List UInt8)(i:Nat)(h:i<need xs.length):sec xs i=piece (xs++zeros (64 * need xs.length-xs.length)) i:=by
 unfold sec pad piece zeros;unfold need at h ⊢;rw[List.drop_append,List.take_append,List.length_take,List.length_drop,List.drop_replicate,List.take_replicate];congr 2;omega
theorem take_pieces(zs:List UInt8)(k:Nat):((List.range k).map (piece zs)).flatten=zs.take (64 * k):=by
 induction k with
 |zero=>simp
 |succ k ih=>
  rw[List.range_succ,List.map_append,List.flatten_append,ih];simp only[List.map_cons,List.map_nil,List.flatten_cons,List.flatten_nil,List.append_nil];rw[Nat.mul_add,Nat.mul_one,List.take_add];rfl
theorem pack_flatten(xs:List UInt8):(pack xs).flatten=xs++zeros (64 * need xs.length-xs.length):=by
 have e:pack xs=(List.range (need xs.length)).map (piece (xs++zeros (64 * need xs.length-xs.length))):=by
  refine List.map_congr_left fun i hi=>sec_of xs i (by simpa using hi)
 rw[e,take_pieces,List.take_of_length_le];rw[List.length_append,zeros_length];unfold need;omega
def unpackB (ls:List (List UInt8)) (n:Int):Bool:=
 decide (0≤n∧n≤1048576∧(ls.length:Int)=needI n)&&(ls.all (fun s=>decide (s.length=64))&&(ls.flatten.drop n.toNat).all (fun x=>decide (x=0)))
def unpack (ls:List (List UInt8)) (n:Int):List UInt8:=if unpackB ls n then ls.flatten.take n.toNat else []
theorem flatten_length(ls:List (List UInt8))(h:∀s∈ls,s.length=64):ls.flatten.length=64 * ls.length:=by
 induction ls with
 |nil=>rfl
 |cons a r ih=>
  have h1:=h a (by simp);have h2:=ih (fun s hs=>h s (by simp[hs]));simp only[List.flatten_cons,List.length_append,List.length_cons];omega
theorem unpack_pack(xs:List UInt8)(h:xs.length≤1048576):unpackB (pack xs) xs.length=true∧unpack (pack xs) xs.length=xs:=by
 have hb:unpackB (pack xs) xs.length=true:=by
  unfold unpackB;rw[needI_nat,pack_length,pack_flatten];simp only[Bool.and_eq_true,decide_eq_true_eq,List.all_eq_true,Int.toNat_natCast,List.drop_left];exact⟨⟨by omega,by omega,trivial⟩,pack_all xs,fun x hx=>(List.mem_replicate.1 hx).2⟩
 refine⟨hb,?_⟩;rw[unpack,hb,if_pos rfl,pack_flatten];simp
theorem unpack_no{ls:List (List UInt8)}{n:Int}(h:unpackB ls n=false):unpack ls n=[]:=by simp[unpack,h]
theorem unpack_yes{ls:List (List UInt8)}{n:Int}(h:unpackB ls n=true):unpack ls n=ls.flatten.take n.toNat:=by simp[unpack,h]
end Go.Proofs.YtdjhlhellkajfaaGreat.FrameM
