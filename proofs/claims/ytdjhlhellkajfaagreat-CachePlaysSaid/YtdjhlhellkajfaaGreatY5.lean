/-
  Texts CTake, CRead, CRef, KMath, in one file. What each proves, and its conditions, stand at its head below.
-/
import Derived.Test.YtdjhlhellkajfaaGreatY1
import Derived.Test.YtdjhlhellkajfaaGreatY4
import Derived.Laws.BitsAll
set_option maxRecDepth 100000
set_option maxHeartbeats 400000
open Go.Lib (hid)
namespace Go.Proofs.YtdjhlhellkajfaaGreat.Cod
open Go.RowKit Codec
def Turned (T:TypeId) (w:World) (B g:Nat) (v:Value) (s:St) (e:Ending) (w':World):Prop:=e= .returned v∧Rdr T w' B g s∧w.grownBy w' (some g)
def Took (T:TypeId) (w:World) (B g:Nat) (xs:List UInt8) (s:St) (e:Ending) (w':World):Prop:=
 ∃A m c,e= .returned (.slice A m c)∧Byts w' B A m xs∧Rdr T w' B g s∧w.grownBy w' (some g)
theorem Rdr.bads{T:TypeId}{w:World}{B g:Nat}(hB:B≤g){A:Option Addr}(h:w.heap[g]? =some (.cells #[.slice A 0 0,.bool true] T (0,0))):Rdr T w B g ⟨[],true⟩:=
 ⟨badOk,hB,A,0,0,h,Byts.none_,Nat.le_refl _,Nat.zero_le _,Nat.zero_le _⟩
theorem refuse_true(w:World)(B g:Nat)(s:St)(hr:Rdr 176 w B g s):Calls Tryz.prog 159 #[.pointer (some ⟨g,0,none⟩),.bool true] w (Turned 176 w B g (.tuple #[]) ⟨[],true⟩):=by
 obtain⟨_,hB,A,n,c,hg,_⟩:=hr;have c0:=cell_at hg 0;have c1:=cell_at hg 1;have f0:=free_at hg 0;have f1:=free_at hg 1;have HG:=hid hg;clear hg;go_enter Tryz.func159,Tryz.ntmps159;go_wp2;go_end0;refine⟨rfl,Rdr.bads hB (A:=none) ?_,grown_trans (grown_set w g 0 _) (grown_set _ g 1 _)⟩;rw[set_at (set_at HG.out 0 _) 1 _];rfl
theorem size5(w:World):(sizeOf (Tryz.prog.elem 39)).run Tryz.prog w= .ok 1 w:=by kernel_rfl
theorem run_to(w:World)(A:Option Addr)(n c k:Nat)(hk:k≤c):(Instr.slice 39 (.slice A n c) none (some (.int .i64 k)) none).run Tryz.prog w= .ok (.slice A k c) w:=by
 rw[run_slice_h (P:=Tryz.prog) w 39 A n c Tryz.underlying39 .i64 k (by omega) (by omega),size5];simp only[Result.andThen,sliced,Int.toNat_natCast,Nat.zero_mul,Nat.sub_zero];congr 2;split
 ·rfl
 cases A<;>simp[Addr.add]
theorem run_from(w:World)(A:Option Addr)(n c k:Nat)(hk:k≤n):
  (Instr.slice 39 (.slice A n c) (some (.int .i64 k)) none none).run Tryz.prog w= .ok (.slice (if c=k then A else A.map (·.add k)) (n-k) (c-k)) w:=by
 rw[run_slice_l (P:=Tryz.prog) w 39 A n c Tryz.underlying39 .i64 k (by omega) (by omega),size5];simp[Result.andThen,sliced]
theorem tk_long{k:Nat}{s:St}(h:s.ok)(hk:k≤s.left.length):tk k s=s.left.take k∧tkS k s=⟨s.left.drop k,s.bad⟩:=by
 obtain⟨l,b⟩:=s;cases b
 ·have h0:short k ⟨l,false⟩=false:=by simpa [short] using hk
  simp[tk,tkS,h0]
 obtain rfl:l=[]:=h rfl;simp[tk,tkS,short]
theorem take_few(w:World)(B g k:Nat)(s:St)(hr:Rdr 176 w B g s)(hk:s.left.length<k):
  Calls Tryz.prog 141 #[.pointer (some ⟨g,0,none⟩),.int .i64 k] w (Took 176 w B g (tk k s) (tkS k s)):=by
 have hsh:short k s=true:=by simp[short,hk]
 have h1:=hid (tk_short hsh);have h2:=hid (tkS_short hsh);have HR:=hid (refuse_true w B g s hr);obtain⟨_,hB,A,n,c,hg,hb,_⟩:=hr;have hn:n<k:=by have:=hb.len;omega
 have c0:=cell_at hg 0;have f0:=free_at hg 0;clear hg hsh hb hk;go_enter Tryz.func141,Tryz.ntmps141;go_wp2_with fail;refine HR.out.mono ?_;rintro e w1 ⟨rfl,hw,hgr⟩;have HW:=hid hw;have HG:=hid hgr;clear hw hgr;go_wp2_with fail;go_ret;rw[h1.out,h2.out];exact⟨none,0,0,rfl,Byts.none_,HW.out,HG.out⟩
theorem take_long(w:World)(B g k:Nat)(s:St)(hr:Rdr 176 w B g s)(hk:k≤s.left.length):
  Calls Tryz.prog 141 #[.pointer (some ⟨g,0,none⟩),.int .i64 k] w (Took 176 w B g (tk k s) (tkS k s)):=by
 obtain⟨hok,hB,A,n,c,hg,hb,hnc,hcm,hnm⟩:=hr;have h1:=hid (tk_long hok hk);have hl:=hb.len;have hkn:k≤n:=by omega
 have hkc:k≤c:=by omega
 have hcm2:c≤9223372036854775807:=hcm;have HB:=hid hb;have HG:=hid hg;have c0:w.cell? ⟨g,0,none⟩=some (.slice A n c):=cell_at hg 0;have f0:=free_at hg 0;have hs1:=fun w=>run_to w A n c k hkc;have hs2:=fun w=>run_from w A n c k hkn;have HA:=hid (HB.out.drop k c hkn hnc);generalize (if c=k then A else A.map (·.add k))=A2 at *;have hd:decide (n<k)=false:=by simpa using hkn
 clear hg hl hb hok hk hcm;go_enter Tryz.func141,Tryz.ntmps141;go_wp2_with fail;go_ret;rw[h1.out.1,h1.out.2];refine⟨A,k,c,rfl,(HB.out.take k hkn).setCell hB _,⟨?_,hB,A2,n-k,c-k,set_at HG.out 0 _,HA.out.setCell hB _,by omega,?_,by omega⟩,grown_set w g 0 _⟩
 ·rw[←h1.out.2];exact tkS_ok _ _
 unfold maxLen;omega
theorem take_any(w:World)(B g k:Nat)(s:St)(hr:Rdr 176 w B g s):
  Calls Tryz.prog 141 #[.pointer (some ⟨g,0,none⟩),.int .i64 k] w (Took 176 w B g (tk k s) (tkS k s)):=by
 by_cases h:s.left.length<k
 ·exact take_few w B g k s hr h
 exact take_long w B g k s hr (by omega)
theorem number_step(xs:List UInt8)(j:Nat)(h:j<xs.length):leVal (xs.take (j+1))=leVal (xs.take j)+256^j * (xs.getD j 0).toNat:=by
 rw[List.take_succ_eq_append_getElem h,leVal_snoc,List.length_take,Nat.min_eq_left (by omega)];simp[List.getD_eq_getElem?_getD,h]
theorem or_step(r x j:Nat)(hr:r<256^j)(hx:x<256)(hj:j<8):
  bits .or .u64 (r:Int) (IntKind.u64.wrap (IntKind.u64.wrap (x:Int) * 2^(8 * j)))=((r+256^j * x:Nat):Int):=by
 have e:(256:Nat)^j=2^(8 * j):=by rw[show(256:Nat)=2^8 from rfl,←Nat.pow_mul]
 have e2:((2:Int)^(8 * j))=((256^j:Nat):Int):=by rw[e];simp
 have h1:256^j * x<18446744073709551616:=by
  have h2:256^j≤256^7:=Nat.pow_le_pow_right (by decide) (by omega);have h3:256^j * x≤256^7 * 255:=Nat.mul_le_mul h2 (by omega);omega
 have h4:r<18446744073709551616:=by
  have h2:256^j≤256^7:=Nat.pow_le_pow_right (by decide) (by omega);omega
 have h5:256^j * x+r=256^j * x|||r:=by rw[e] at hr ⊢;exact Nat.two_pow_add_eq_or_of_lt hr x
 rw[e2,IntKind.wrap_u64,IntKind.wrap_u64];have h6:(x:Int)%18446744073709551616 * ((256^j:Nat):Int)%18446744073709551616=((256^j * x:Nat):Int):=by
  rw[show(x:Int)%18446744073709551616=(x:Int) by omega,←Int.natCast_mul,Nat.mul_comm];generalize 256^j * x=q at *;omega
 rw[h6,u64_or_nat _ _ h4 h1,Nat.or_comm,←h5,Nat.add_comm]
theorem take_le(k:Nat)(s:St):(tk k s).length≤k:=by
 unfold tk;split<;>simp
 omega
theorem number_any(w:World)(B g k:Nat)(s:St)(hr:Rdr 176 w B g s)(hk:k≤8):
  Calls Tryz.prog 116 #[.pointer (some ⟨g,0,none⟩),.int .i64 k] w (Turned 176 w B g (.int .u64 (leVal (tk k s))) (tkS k s)):=by
 have HT:=hid (take_any w B g k s hr);clear hr;go_enter Tryz.func116,Tryz.ntmps116;go_wp2_with fail;refine HT.out.mono ?_;rintro e w1 ⟨A,m,c,rfl,hb,hw,hgr⟩;have HB:=hid hb;have HW:=hid hw;have HG:=hid hgr;have hm:m≤8:=by have:=take_le k s;have:=hb.len;omega
 generalize tk k s=xs at *;generalize tkS k s=s1 at *;clear hb hw hgr HT;go_wp2_with fail;go_loop [5,12] (fun r i=>∃j:Nat,j≤m∧i= .int .i64 j∧r= .int .u64 (leVal (xs.take j))) (fun _ i=>m-(intOf i).toNat)
 case atStart=>exact⟨0,Nat.zero_le _,rfl,rfl⟩
 case round=>
  obtain⟨j,hj,rfl,rfl⟩:=hrel;by_cases hlt:j<m
  ·obtain⟨b,off,hA,_,hc⟩:=HB.out.at_ (by omega);subst hA;have hcx:=hc j hlt;have HX:=hid (number_step xs j (by rw[HB.out.len];exact hlt));have HR:=hid (leVal_lt (xs.take j));have HJ:=hid (show(xs.take j).length=j by rw[List.length_take,HB.out.len];omega);unfold byt at hcx;clear hc;generalize leVal (xs.take j)=r at *;go_wp2;go_round
   case rel=>
    have hr:=HR.out;rw[HJ.out] at hr;refine⟨j+1,by omega,by go_num,?_⟩;rw[HX.out,List.getD_eq_getElem?_getD,or_step r _ j hr (UInt8.toNat_lt _) (by omega)]
   case measure=>simp[intOf];omega
  obtain rfl:j=m:=by omega
  go_wp2;go_ret;refine⟨?_,HW.out,HG.out⟩;rw[List.take_of_length_le (by rw[HB.out.len];omega)];rfl
end Go.Proofs.YtdjhlhellkajfaaGreat.Cod
namespace Go.Proofs.YtdjhlhellkajfaaGreat.Cod
open Go.RowKit Codec
theorem signed_of(n:Nat)(h:n<18446744073709551616):wrap64 (n:Int)=signed n:=by
 unfold wrap64 signed;split<;>omega
theorem num_lt(s:St):leVal (tk 8 s)<18446744073709551616:=by
 have h:=leVal_lt (tk 8 s);have h2:256^(tk 8 s).length≤256^8:=Nat.pow_le_pow_right (by decide) (take_le 8 s);omega
theorem num_any(w:World)(B g:Nat)(s:St)(hr:Rdr 176 w B g s):
  Calls Tryz.prog 78 #[.pointer (some ⟨g,0,none⟩)] w (Turned 176 w B g (.int .i64 (num s)) (tkS 8 s)):=by
 have HN:=hid (number_any w B g 8 s hr (Nat.le_refl _));have HS:Hid (wrap64 (leVal (tk 8 s):Int)=num s):=signed_of _ (num_lt s);clear hr;generalize leVal (tk 8 s)=x at *;generalize num s=y at *;generalize tkS 8 s=s1 at *;go_enter Tryz.func78,Tryz.ntmps78;go_wp2_with fail;refine HN.out.mono ?_;rintro e w1 ⟨rfl,hw,hg⟩;have HW:=hid hw;have HG:=hid hg;clear hw hg;go_wp2_with fail;go_ret;exact⟨by rw[←HS.out];rfl,HW.out,HG.out⟩
theorem small_any(w:World)(B g:Nat)(s:St)(hr:Rdr 176 w B g s):
  Calls Tryz.prog 172 #[.pointer (some ⟨g,0,none⟩)] w (Turned 176 w B g (.int .i64 (small s)) (tkS 2 s)):=by
 have HN:=hid (number_any w B g 2 s hr (by decide));have hx:small s<65536:=small_lt s;have e:leVal (tk 2 s)=small s:=rfl;rw[e] at HN;clear hr e;generalize small s=x at *;generalize tkS 2 s=s1 at *;go_enter Tryz.func172,Tryz.ntmps172;go_wp2_with fail;refine HN.out.mono ?_;rintro e w1 ⟨rfl,hw,hg⟩;have HW:=hid hw;have HG:=hid hg;clear hw hg;go_wp2_with fail;go_ret;exact⟨rfl,HW.out,HG.out⟩
def Opened (w:World) (xs:List UInt8) (e:Ending) (w':World):Prop:=∃B g,e= .returned (.pointer (some ⟨g,0,none⟩))∧Rdr 176 w' B g ⟨xs,false⟩∧w.heap.size≤B∧Below w.heap.size w w'
theorem read_any(w:World)(B m c:Nat)(A:Option Addr)(ys:List UInt8)(hr:Byts w B A m ys)(hB:B≤w.heap.size)(hn:m≤1000000000):
  Calls Tryz.prog 77 #[.slice A m c] w (Opened w ys):=by
 have HC:=hid (clone_any w B m c A ys hr hB hn);clear hr;go_enter Tryz.func77,Tryz.ntmps77;go_wp2_with fail;refine HC.out.mono ?_;rintro e w1 ⟨A1,c1,rfl,ho,hb⟩;have HO:=hid ho;have HB:=hid hb;clear ho hb;go_wp2_with fail;go_ret;obtain⟨A2,c2,e2,h1,h2⟩:=Owns.form HO.out;obtain⟨rfl,rfl⟩:A1=A2∧c1=c2:=by injection e2 with a b c;exact⟨a,c⟩
 exact⟨w1.heap.size,w1.heap.size,rfl,⟨goodOk _,Nat.le_refl _,A1,m,c1,heap_alloc_new w1 _,(HO.out.byts).alloc (Nat.le_refl _) _,h1,h2,hn⟩,HB.out.size,HB.out.alloc HB.out.size _⟩
end Go.Proofs.YtdjhlhellkajfaaGreat.Cod
namespace Go.Proofs.YtdjhlhellkajfaaGreat.Cod
open Go.RowKit Codec
def Grew (w:World) (base:Nat) (xs:List UInt8) (e:Ending) (w':World):Prop:=∃A m c,e= .returned (.slice A m c)∧Owns w' base (.slice A m c) m xs∧Below base w w'
theorem byte_int(n:Int)(k:Nat):IntKind.u64.wrap n/2^(8 * k)%256=((UInt8.ofNat ((n%18446744073709551616).toNat/256^k%256)).toNat:Int):=by
 rw[←byte_of,IntKind.wrap_u64,show(((n%18446744073709551616).toNat:Nat):Int)=n%18446744073709551616 by omega]
theorem num_byte(w:World)(n:Int)(k:Nat):
  Byts (w.alloc (.cells #[.int .u8 (IntKind.u64.wrap n/2^(8 * k)%256)] 5)) (w.heap.size+1) (some ⟨w.heap.size,0,none⟩) 1 [UInt8.ofNat ((n%18446744073709551616).toNat/256^k%256)]:=by
 rw[byte_int];exact byt_new _ _ _
theorem num_next(n:Int)(k:Nat)(xs:List UInt8):xs++le k (n%18446744073709551616).toNat++[UInt8.ofNat ((n%18446744073709551616).toNat/256^k%256)]=xs++le (k+1) (n%18446744073709551616).toNat:=by
 rw[le_snoc,List.append_assoc]
theorem Owns.below_own{w w1:World}{base n:Nat}{v:Value}{xs:List UInt8}(h:Owns w base v n xs)(hB:base≤w.heap.size)(hg:w.grownBy w1 v.ownBlock):Below base w w1:=
 (Below.refl base w).grown hg hB (fun k hk=>(World.ownsRow.lt h k hk).1)
theorem ref_num(w:World)(base m0 c0:Nat)(A0:Option Addr)(n:Int)(xs:List UInt8)(hown:Owns w base (.slice A0 m0 c0) m0 xs)(hm:m0≤900000000)(hB:base≤w.heap.size):
  Calls Tryz.prog 83 #[.slice A0 m0 c0,.int .i64 n] w (Grew w base (xs++encNum n)):=by
 have HO0:=hid hown;clear hown;go_enter Tryz.func83,Tryz.ntmps83;go_wp2;go_loopw [0,5] (fun v i wr=>∃k:Nat,k≤8∧i= .int .i64 k∧∃A m c,v= .slice A m c∧m=m0+k∧Owns wr base (.slice A m c) m (xs++le k (n%18446744073709551616).toNat)∧Below base w wr) (fun _ i _=>8-(intOf i).toNat)
 case atStart=>exact⟨0,by omega,rfl,A0,m0,c0,rfl,rfl,by simpa [le] using HO0.out,Below.refl _ _⟩
 case round=>
  obtain⟨k,hk,rfl,A,m,c,rfl,hmk,ho,hbel⟩:=hrel;have HO:=hid ho;have hm2:m≤900000008:=by omega
  have HM:=hid hmk;clear ho hmk;by_cases hlt:k<8
  ·have hz:=hbel.size;have HX:=hid (num_byte wr n k);have HN:=hid (num_next n k xs);go_wp2_with (at_builtin;(refine wpList_app _ rfl (.tmp 10) (.tmp 17) rfl base (.slice A m c) m (xs++le k (n%18446744073709551616).toNat) rfl (HO.out.alloc _) (wr.heap.size+1) (some ⟨wr.heap.size,0,none⟩) 1 1 [UInt8.ofNat ((n%18446744073709551616).toNat/256^k%256)] rfl HX.out (by omega) (by simp;omega) ?_);intro A1 c1 w1 hown1 hg1;have HO1:=hid hown1;have HG1:=hid hg1;clear hown1 hg1);go_roundw
   case rel=>
    have h1:=HO1.out;rw[HN.out] at h1;exact⟨k+1,by omega,by go_num,A1,m+1,c1,rfl,by rw[HM.out];omega,h1,(hbel.alloc (by omega) _).trans ((HO.out.alloc _).below_own (by simp;omega) HG1.out)⟩
   case measure=>simp[intOf];omega
  obtain rfl:k=8:=by omega
  go_wp2;go_ret;exact⟨A,m,c,rfl,HO.out,hbel⟩
theorem byts_two(w:World)(x y:UInt8)(fr:Nat×Nat):Byts (w.alloc (.cells #[byt x,byt y] 5 fr)) (w.heap.size+1) (some ⟨w.heap.size,0,none⟩) 2 [x,y]:=
 ⟨rfl,fun _=>⟨w.heap.size,0,rfl,by omega,fun j hj=>by
  match j,hj with
  |0,_=>rw[World.cell?_alloc_mark];rfl
  |1,_=>rw[World.cell?_alloc_mark];rfl⟩⟩
theorem small_bytes(w:World)(n a b:Int)(ha:a=(clip n:Int)%256)(hb:b=(clip n:Int)/256):
  Byts (w.alloc (.cells #[.int .u8 a,.int .u8 b] 5)) (w.heap.size+1) (some ⟨w.heap.size,0,none⟩) 2 (encSmall n):=by
 have hc:=clip_lt n;have e1:a=((UInt8.ofNat (clip n%256)).toNat:Int):=by rw[ha];simp
 have e2:b=((UInt8.ofNat (clip n/256%256)).toNat:Int):=by rw[hb];simp;omega
 rw[e1,e2];exact byts_two w _ _ (0,0)
theorem cel_str(s:ByteArray):Lib.strCells s=cel (bytesOf s):=rfl
theorem run_app_str(w:World)(ty:TypeId)(base:Nat)(v:Value)(n:Nat)(xs:List UInt8)(hown:Owns w base v n xs)(s:ByteArray)(hn:n+s.size≤1000000000)(hbase:base≤w.heap.size):
  ∃A' c' w',(Builtin.append_ #[39,9] ty #[v,.string s]).run Tryz.prog w= .ok (.slice A' (n+s.size) c') w'∧Owns w' base (.slice A' (n+s.size) c') (n+s.size) (xs++bytesOf s)∧w.grownBy w' v.ownBlock:=by
 obtain⟨i0,hi0,hz0,hz1,hz2⟩:=info_parts info5;obtain⟨v',w',h1,h2,h3,_⟩:=Lib.run_append_own_string (P:=Tryz.prog) w base 39 9 ty 5 i0 Tryz.underlying39 Tryz.underlying9 hi0 hz0 hz1 hz2 v n (cel xs) hown s (by unfold maxLen;omega) (by omega) hbase;rw[cel_str,cel_app] at h2;obtain⟨A',c',rfl,_,_⟩:=Owns.form h2;exact⟨A',c',w',h1,h2,h3⟩
theorem wpList_app_str(w:World){ops:Array Oper}{rest:List Oper}{o:Oper}{a:Act}{Q:Exit→Act→World→Prop}(hgd:o.guard=none)(sl x:Operand)
  (ho:o.op= .call {callee:= .builtin .append,args:= #[sl,x],argTypes:= #[39,9]})
  (base:Nat) (v:Value) (n:Nat) (xs:List UInt8) (hs:a.eval sl=v) (hown:Owns w base v n xs) (s:ByteArray) (hx:a.eval x= .string s)
  (hn:n+s.size≤1000000000) (hbase:base≤w.heap.size)
  (h:∀A' c' w',Owns w' base (.slice A' (n+s.size) c') (n+s.size) (xs++bytesOf s)→w.grownBy w' v.ownBlock→wpList Tryz.prog ops Q rest (a.put o.dst (.slice A' (n+s.size) c')) w'):wpList Tryz.prog ops Q (o::rest) a w:=by
 obtain⟨A',c',w',hrun,h2,h3⟩:=run_app_str w o.type base v n xs hown s hn hbase;refine wpList_plain hgd fun _ hK=> ?_;unfold Oper.wp execOp;simp only[ho,resolve,invoke,builtin,Sem.run_bind,Sem.run_pure,Result.andThen_ok,List.map_toArray,List.map_cons,List.map_nil,hs,hx,hrun];exact hK _ _ (h A' c' w' h2 h3)
end Go.Proofs.YtdjhlhellkajfaaGreat.Cod
namespace Go.Proofs.YtdjhlhellkajfaaGreat.Cch
open Codec Cod
structure Ent where
 k:ByteArray
 v:ByteArray
deriving DecidableEq
structure Nmb where
 e:Ent
 n:Nat
deriving DecidableEq
def packE (e:Ent):List UInt8:=encNum (e.k.size:Int)++(bytesOf e.k++bytesOf e.v)
def sizeE (e:Ent):Nat:=8+e.k.size+e.v.size
theorem packE_length(e:Ent):(packE e).length=sizeE e:=by
 unfold packE sizeE;rw[List.length_append,List.length_append,encNum_length,bytesOf_length,bytesOf_length];omega
def numU (b:List UInt8):Int:=num ⟨b,false⟩
def unB (b:List UInt8):Bool:=decide (8≤b.length)&&(decide (0≤numU b)&&decide (numU b≤(b.length:Int)-8))
def baOf (l:List UInt8):ByteArray:=⟨l.toArray⟩
def unE (b:List UInt8):Ent:=if unB b then ⟨baOf ((b.drop 8).take (numU b).toNat),baOf ((b.drop 8).drop (numU b).toNat)⟩ else ⟨baOf [],baOf []⟩
theorem baOf_bytesOf(s:ByteArray):baOf (bytesOf s)=s:=by
 unfold baOf bytesOf;simp
theorem numU_pack(e:Ent)(h:e.k.size<9223372036854775808):numU (packE e)=(e.k.size:Int):=(num_back _ _ (by omega)).1
theorem unB_pack(e:Ent)(h:e.k.size<9223372036854775808):unB (packE e)=true:=by
 unfold unB;rw[numU_pack e h,packE_length];unfold sizeE;simp;omega
theorem unE_pack(e:Ent)(h:e.k.size<9223372036854775808):unE (packE e)=e:=by
 unfold unE;rw[if_pos (unB_pack e h),numU_pack e h];have h1:(packE e).drop 8=bytesOf e.k++bytesOf e.v:=List.drop_left' (encNum_length _);rw[h1,Int.toNat_natCast,List.take_left' (bytesOf_length _),List.drop_left' (bytesOf_length _),baOf_bytesOf,baOf_bytesOf]
def sumK (k:ByteArray):Nat:=Sums.fnv ((bytesOf k).map UInt8.toNat)
theorem sumK_lt(k:ByteArray):sumK k<18446744073709551616:=Sums.fnv_lt _
def bucket (N:List Nmb) (s:Nat):List Nmb:=N.filter fun x=>decide (sumK x.e.k=s)
def cut (N:List Nmb) (key:ByteArray):List Nmb:=N.filter fun x=>decide (x.e.k≠key)
def lay (N:List Nmb) (last:Nat) (e:Ent):List Nmb:=cut N e.k++[⟨e,last+1⟩]
def withE (l:List Ent) (e:Ent):List Ent:=(l.filter fun x=>decide (x.k≠e.k))++[e]
structure Nice (N:List Nmb) (last:Nat):Prop where
 keys:N.Pairwise fun a b=>a.e.k≠b.e.k
 rise:N.Pairwise fun a b=>a.n<b.n
 most:∀x∈N,x.n≤last
def ents (N:List Nmb):List Ent:=N.map Nmb.e
theorem nice_nil:Nice [] 0:=⟨.nil,.nil,by simp⟩
theorem nice_cut{N:List Nmb}{last:Nat}(h:Nice N last)(key:ByteArray):Nice (cut N key) last:=
 ⟨h.keys.filter _,h.rise.filter _,fun x hx=>h.most x (List.mem_filter.1 hx).1⟩
theorem nice_lay{N:List Nmb}{last:Nat}(h:Nice N last)(e:Ent):Nice (lay N last e) (last+1):=by
 have hc:=nice_cut h e.k;refine⟨List.pairwise_append.2 ⟨hc.keys,List.pairwise_singleton _ _,fun a ha b hb=> ?_⟩,List.pairwise_append.2 ⟨hc.rise,List.pairwise_singleton _ _,fun a ha b hb=> ?_⟩,fun x hx=> ?_⟩
 ·rw[List.mem_singleton.1 hb];simpa using (List.mem_filter.1 ha).2
 ·rw[List.mem_singleton.1 hb];have:=hc.most a ha;show a.n<last+1;omega
 rcases List.mem_append.1 hx with hx|hx
 ·have:=hc.most x hx;omega
 rw[List.mem_singleton.1 hx];exact Nat.le_refl _
theorem ents_lay(N:List Nmb)(last:Nat)(e:Ent):ents (lay N last e)=withE (ents N) e:=by
 unfold ents lay withE cut;rw[List.map_append,List.filter_map];rfl
theorem bucket_cut_same(N:List Nmb)(key:ByteArray):bucket (cut N key) (sumK key)=(bucket N (sumK key)).filter fun x=>decide (x.e.k≠key):=by
 unfold bucket cut;rw[List.filter_filter,List.filter_filter];congr 1;funext x;exact Bool.and_comm _ _
theorem bucket_cut_other(N:List Nmb)(key:ByteArray){s:Nat}(h:s≠sumK key):bucket (cut N key) s=bucket N s:=by
 unfold bucket cut;rw[List.filter_filter];apply List.filter_congr;intro x _;by_cases e:sumK x.e.k=s
 ·have:x.e.k≠key:=fun e2=>h (by rw[←e,e2]);simp[e,this]
 simp[e]
theorem bucket_lay_same(N:List Nmb)(last:Nat)(e:Ent):bucket (lay N last e) (sumK e.k)=bucket (cut N e.k) (sumK e.k)++[⟨e,last+1⟩]:=by
 unfold lay bucket;rw[List.filter_append];simp
theorem bucket_lay_other(N:List Nmb)(last:Nat)(e:Ent){s:Nat}(h:s≠sumK e.k):bucket (lay N last e) s=bucket N s:=by
 rw[←bucket_cut_other N e.k h];unfold lay bucket;rw[List.filter_append];simp[Ne.symm h]
def findN (N:List Nmb) (key:ByteArray):Option Nmb:=N.find? fun x=>decide (x.e.k=key)
theorem find_bucket(N:List Nmb)(key:ByteArray):findN (bucket N (sumK key)) key=findN N key:=by
 unfold findN bucket;rw[List.find?_filter];congr 1;funext x;by_cases e:x.e.k=key
 ·simp[e]
 simp[e]
end Go.Proofs.YtdjhlhellkajfaaGreat.Cch
