/-
  Texts DSurv, DLaws, DSync, in one file. What each proves, and its conditions, stand at its head below.
-/
import Derived.Test.YtdjhlhellkajfaaGreatY19
import Derived.Laws.CopyRow
import Derived.Laws.BitsLemmas
import Derived.Deep.DeepCutAuto
set_option maxRecDepth 100000
set_option maxHeartbeats 1000000
open Go.Lib (hid)
namespace Go.Proofs.YtdjhlhellkajfaaGreat.Disk
open Go.RowKit Go.Maps
theorem i64_and3(n:Int):bits .and .i64 n 3=n%4:=by
 have h3:(BitVec.ofInt 64 3).toNat=2^2-1:=by decide
 have key:(BitVec.ofInt 64 n&&& BitVec.ofInt 64 3).toNat=(n%((2^64:Nat):Int)).toNat%2^2:=by
  rw[BitVec.toNat_and,BitVec.toNat_ofInt,h3,Nat.and_two_pow_sub_one_eq_mod]
 show IntKind.i64.wrap ((BitVec.ofInt 64 n&&& BitVec.ofInt 64 3).toNat:Nat)=n%4;rw[key,IntKind.wrap_i64];omega
def Sec1 (w:World) (b:Nat) (s:List UInt8):Prop:=w.heap[b]? =some (.cells (cel s).toArray 132 (0,0))
theorem Sec1.range{w:World}{b:Nat}{s:List UInt8}(h:Sec1 w b s):w.rangeAt b 0 (cel s):=fun j v hv=>by
 rw[cell_at h,Nat.zero_add];simpa using hv
theorem Sec1.setOther{w:World}{b k:Nat}{s:List UInt8}(h:Sec1 w b s)(hk:b≠k)(c:Array Value):Sec1 (w.setRow k c) b s:=by
 unfold Sec1 at *;rw[←h];simp only[World.setRow,Array.getElem?_modify];rw[if_neg (fun e=>hk e.symm)]
theorem Sec1.set{w:World}{b:Nat}{s t:List UInt8}(h:Sec1 w b s):Sec1 (w.setRow b (cel t).toArray) b t:=by
 unfold Sec1 at *;simp[World.setRow,Array.getElem?_modify,h]
theorem Sec1.below{w w1:World}{b:Nat}(h:Below w.heap.size w w1)(hb:w.heap.size≤b)(c:Array Value):Below w.heap.size w (w1.setRow b c):=
 ⟨h.os,h.tape,h.output,by simp[World.setRow];exact h.size,fun k hk=>by
  rw[←h.block k hk];simp only[World.setRow,Array.getElem?_modify];rw[if_neg (by omega)]⟩
section
variable {ops:Array Oper} {rest:List Oper} {o:Oper} {a:Act} {Q:Exit→Act→World→Prop}
theorem wpList_storeRow(w:World)(b:Nat)(s t:List UInt8)(h:Sec1 w b s)(hs:s.length=64)(ht:t.length=64)(ho:IsStore o a (.pointer (some ⟨b,0,none⟩)) (.agg (cel t).toArray))
  (hK:wpList Tryz.prog ops Q rest (a.put o.dst undef) (w.setRow b (cel t).toArray)):wpList Tryz.prog ops Q (o::rest) a w:=by
 obtain⟨hg,x,y,ho,hx,hy⟩:=ho;refine wpList_plain hg fun _ hK'=> ?_;have e:(storeVar 132 ⟨b,0,none⟩ (.agg (cel t).toArray)).run Tryz.prog w= .ok () (w.setRow b (cel t).toArray):=
  run_storeVar_row w b 132 132 _ _ h (by rw[List.size_toArray,cel_length,ht];exact size49) (by rw[List.size_toArray,List.size_toArray,cel_length,cel_length,ht,hs]) (cel_all t)
 unfold Oper.wp execOp;simp only[ho,hx,hy,Instr.storeAt,Instr.sureAddr,Sem.run_bind,Sem.run_pure,Result.andThen_ok,e];exact hK' _ _ hK
def IsCopy (o:Oper) (a:Act) (x' y':Value):Prop:=o.guard=none∧∃x y,o.op= .call {callee:= .builtin .copy,args:= #[x,y],argTypes:= #[39,39]}∧a.eval x=x'∧a.eval y=y'
theorem size5i:(Tryz.prog.info? 5).map (·.size)=some 1:=by kernel_rfl
theorem wpList_copy32(w:World)(k0 k1 off c c':Nat)(s t:List UInt8)(h0:Sec1 w k0 s)(h1:Sec1 w k1 t)(hs:s.length=64)(ht:t.length=64)(hoff:off+32≤64)
  (ho:IsCopy o a (.slice (some ⟨k0,off,none⟩) 32 c) (.slice (some ⟨k1,off,none⟩) 32 c'))
  (hK:wpList Tryz.prog ops Q rest (a.put o.dst (.int .i64 32)) (w.setRow k0 (cel (s.take off++(t.drop off).take 32++s.drop (off+32))).toArray)):wpList Tryz.prog ops Q (o::rest) a w:=by
 obtain⟨hg,x,y,ho,hx,hy⟩:=ho;have hl:((t.drop off).take 32).length=32:=by simp;omega
 have e:=run_copy_row (P:=Tryz.prog) w 39 39 o.type 5 k0 off 32 c ⟨k1,off,none⟩ 32 c' _ 132 (cel ((t.drop off).take 32)) Tryz.underlying39 size5i h0 (by rw[cel_length,hl];rfl)
  (fun j v hv=>by
   have hj:j<32:=by have:=(List.getElem?_eq_some_iff.1 hv).1;rwa [cel_length,hl] at this
   rw[Addr.add_mid,cell_at h1,←hv,←cel_take,←cel_drop];simp[hj]) (by rw[cel_length,hl,List.size_toArray,cel_length,hs];exact hoff) (cel_one _)
 rw[cel_length,hl] at e;have e2:((cel s).toArray.toList.take off++cel ((t.drop off).take 32)++(cel s).toArray.toList.drop (off+32))=cel (s.take off++(t.drop off).take 32++s.drop (off+32)):=by
  simp only[cel_take,cel_drop,cel_app]
 rw[e2] at e;refine wpList_plain hg fun _ hK'=> ?_;unfold Oper.wp execOp;simp only[ho,resolve,invoke,builtin,Sem.run_bind,Sem.run_pure,Result.andThen_ok,List.map_toArray,List.map_cons,List.map_nil,hx,hy,e];exact hK' _ _ hK
end
theorem surv_two{f:Int}(h:f%4=2)(s t:List UInt8):s.take 0++(t.drop 0).take 32++s.drop (0+32)=surv f s t:=by simp[surv,h]
theorem surv_three{f:Int}(h:f%4=3){s t:List UInt8}(hs:s.length=64)(ht:t.length=64):s.take 32++(t.drop 32).take 32++s.drop (32+32)=surv f s t:=by
 have e1:(t.drop 32).take 32=t.drop 32:=List.take_of_length_le (by simp;omega);have e2:s.drop (32+32)=[]:=List.drop_eq_nil_of_le (by omega);rw[e1,e2];simp[surv,h]
def Left1 (w:World) (s:List UInt8) (e:Ending) (w':World):Prop:=e= .returned (.agg (cel s).toArray)∧Below w.heap.size w w'
def W3 (w:World) (s t:List UInt8):World:=((w.alloc (.cells (cel s).toArray 132)).alloc (.cells (cel t).toArray 132)).alloc (.cells (cel nul).toArray 132)
theorem w3_a(w:World)(s t:List UInt8):Sec1 (W3 w s t) w.heap.size s:=
 (Below.heap_alloc _ _ _ (by simp;omega)).trans ((Below.heap_alloc _ _ _ (by simp)).trans (heap_alloc_last w _))
theorem w3_b(w:World)(s t:List UInt8):Sec1 (W3 w s t) (w.heap.size+1) t:=by
 have:=heap_alloc_last (w.alloc (.cells (cel s).toArray 132)) (.cells (cel t).toArray 132);rw[World.size_alloc] at this;exact(Below.heap_alloc _ _ _ (by simp)).trans this
theorem w3_c(w:World)(s t:List UInt8):Sec1 (W3 w s t) (w.heap.size+1+1) nul:=by
 have:=heap_alloc_last ((w.alloc (.cells (cel s).toArray 132)).alloc (.cells (cel t).toArray 132)) (.cells (cel nul).toArray 132);rwa [World.size_alloc,World.size_alloc] at this
theorem w3_low(w:World)(s t:List UInt8):Below w.heap.size w (W3 w s t):=(((Below.refl _ w).alloc (Nat.le_refl _) _).alloc (by simp) _).alloc (by simp;omega) _
theorem surv_end{tmps:Array Value}{W:World}{k:Nat}{r:List UInt8}(hp:tmps.getD 6 undef= .pointer (some ⟨k,0,none⟩))(h:Sec1 W k r)(hr:r.length=64):(results Tryz.f73 tmps).run Tryz.prog W= .ok (.agg (cel r).toArray) W:=
 results_cell_row (P:=Tryz.prog) (ty:=132) (p:=6) rfl tmps W k 132 _ (0,0) _ hp h Tryz.underlying132 rfl (by rw[List.size_toArray,cel_length,hr];exact size49)
theorem surv_one(w:World)(f:Int)(s t:List UInt8)(hs:s.length=64)(ht:t.length=64)(hf:f%4=1):Calls Tryz.prog 73 #[.int .i64 f,.agg (cel s).toArray,.agg (cel t).toArray] w (Left1 w (surv f s t)):=by
 have e:surv f s t=t:=by simp[surv,hf]
 have hb:bits .and .i64 f 3=1:=(i64_and3 f).trans hf;have HR:=hid (surv_length f hs ht);have HS:=hid hs;have HT:=hid ht;have HA:=hid (w3_a w s t);have HB:=hid (w3_b w s t);have HC:=hid (w3_c w s t);have HL:=hid (w3_low w s t);generalize hrr:surv f s t=r at *;have HE:=hid e;clear hs ht hf e hrr;go_enter Tryz.func73,Tryz.ntmps73;go_upto_region 1 with (first
  |((with_reducible refine wpList_alloc49 _ ?_ ?_);exact⟨rfl,rfl⟩))
 have hw:((w.alloc (.cells (cel s).toArray 132)).alloc (.cells (cel t).toArray 132)).alloc (.cells (cel nul).toArray 132)=W3 w s t:=rfl;rw[hw];clear hw;generalize W3 w s t=W at *;have k1:w.heap.size≠w.heap.size+1:=by omega
 have k2:w.heap.size+1+1≠w.heap.size:=by omega
 obtain rfl:=HE.out;have HA1:=hid (HA.out.set (t:=r));have HC1:=hid (HC.out.setOther k2 (cel r).toArray);have HL1:=hid (Sec1.below HL.out (Nat.le_refl _) (cel r).toArray);go_wp2_with (first
  |((with_reducible refine wpList_load49 W (w.heap.size+1) 0 r HR.out HB.out.range ?_ ?_);exact⟨rfl,_,rfl,rfl⟩)
  |((with_reducible refine wpList_storeRow W w.heap.size s r HA.out HS.out HR.out ?_ ?_);exact⟨rfl,_,_,rfl,rfl,rfl⟩)
  |((with_reducible refine wpList_load49 (W.setRow w.heap.size (cel r).toArray) w.heap.size 0 r HR.out HA1.out.range ?_ ?_);exact⟨rfl,_,rfl,rfl⟩)
  |((with_reducible refine wpList_storeRow (W.setRow w.heap.size (cel r).toArray) (w.heap.size+1+1) nul r HC1.out nul_length HR.out ?_ ?_);exact⟨rfl,_,_,rfl,rfl,rfl⟩))
 try simp only[Exit.inBlock,Exit.then]
 refine bodyPost_ret (surv_end rfl HC1.out.set HR.out) rfl ?_;exact⟨rfl,Sec1.below HL1.out (by omega) _⟩
theorem surv_zero(w:World)(f:Int)(s t:List UInt8)(hs:s.length=64)(ht:t.length=64)(hf:f%4=0):Calls Tryz.prog 73 #[.int .i64 f,.agg (cel s).toArray,.agg (cel t).toArray] w (Left1 w (surv f s t)):=by
 have e:surv f s t=s:=by simp[surv,hf]
 have hb:bits .and .i64 f 3=0:=(i64_and3 f).trans hf;have HR:=hid (surv_length f hs ht);have HS:=hid hs;have HT:=hid ht;have HA:=hid (w3_a w s t);have HB:=hid (w3_b w s t);have HC:=hid (w3_c w s t);have HL:=hid (w3_low w s t);generalize hrr:surv f s t=r at *;have HE:=hid e;clear hs ht hf e hrr;go_enter Tryz.func73,Tryz.ntmps73;go_upto_region 1 with (first
  |((with_reducible refine wpList_alloc49 _ ?_ ?_);exact⟨rfl,rfl⟩))
 have hw:((w.alloc (.cells (cel s).toArray 132)).alloc (.cells (cel t).toArray 132)).alloc (.cells (cel nul).toArray 132)=W3 w s t:=rfl;rw[hw];clear hw;generalize W3 w s t=W at *;have k1:w.heap.size≠w.heap.size+1:=by omega
 have k2:w.heap.size+1+1≠w.heap.size:=by omega
 obtain rfl:=HE.out;go_wp2_with (first
  |((with_reducible refine wpList_load49 W w.heap.size 0 r HR.out HA.out.range ?_ ?_);exact⟨rfl,_,rfl,rfl⟩)
  |((with_reducible refine wpList_storeRow W (w.heap.size+1+1) nul r HC.out nul_length HR.out ?_ ?_);exact⟨rfl,_,_,rfl,rfl,rfl⟩))
 try simp only[Exit.inBlock,Exit.then]
 refine bodyPost_ret (surv_end rfl HC.out.set HR.out) rfl ?_;exact⟨rfl,Sec1.below HL.out (by omega) _⟩
theorem surv_two_(w:World)(f:Int)(s t:List UInt8)(hs:s.length=64)(ht:t.length=64)(hf:f%4=2):Calls Tryz.prog 73 #[.int .i64 f,.agg (cel s).toArray,.agg (cel t).toArray] w (Left1 w (surv f s t)):=by
 have e:s.take 0++(t.drop 0).take 32++s.drop (0+32)=surv f s t:=surv_two hf s t;have hb:bits .and .i64 f 3=2:=(i64_and3 f).trans hf;have HR:=hid (surv_length f hs ht);have HS:=hid hs;have HT:=hid ht;have HA:=hid (w3_a w s t);have HB:=hid (w3_b w s t);have HC:=hid (w3_c w s t);have HL:=hid (w3_low w s t);generalize hrr:surv f s t=r at *;have HE:=hid e;clear hs ht hf e hrr;go_enter Tryz.func73,Tryz.ntmps73;go_upto_region 1 with (first
  |((with_reducible refine wpList_alloc49 _ ?_ ?_);exact⟨rfl,rfl⟩))
 have hw:((w.alloc (.cells (cel s).toArray 132)).alloc (.cells (cel t).toArray 132)).alloc (.cells (cel nul).toArray 132)=W3 w s t:=rfl;rw[hw];clear hw;generalize W3 w s t=W at *;have k1:w.heap.size≠w.heap.size+1:=by omega
 have k2:w.heap.size+1+1≠w.heap.size:=by omega
 have HA1:=hid (HA.out.set (t:=r));have HC1:=hid (HC.out.setOther k2 (cel r).toArray);have HL1:=hid (Sec1.below HL.out (Nat.le_refl _) (cel r).toArray);go_wp2_with fail;refine wp_region_still_tail 2 (by kernel_rfl) (by kernel_rfl) ?_;simp only[List.take_succ_cons,List.take_zero,List.drop_succ_cons,List.drop_zero];iterate 2 still_step
 refine wpStill_nil ?_;change wpList _ _ _ _ _ W.drew;refine wpList_copy32 W.drew w.heap.size (w.heap.size+1) 0 _ _ s t HA.out HB.out HS.out HT.out (by omega) ⟨rfl,_,_,rfl,rfl,rfl⟩ ?_;rw[HE.out];have HA2:Hid (Sec1 (W.drew.setRow w.heap.size (cel r).toArray) w.heap.size r):=HA1;have HC2:Hid (Sec1 (W.drew.setRow w.heap.size (cel r).toArray) (w.heap.size+1+1) nul):=HC1;have HL2:Hid (Below w.heap.size w (W.drew.setRow w.heap.size (cel r).toArray)):=hid ⟨HL1.out.os,HL1.out.tape,HL1.out.output,HL1.out.size,HL1.out.block⟩;generalize W.drew.setRow w.heap.size (cel r).toArray=X at *;go_wp2_with (first
  |((with_reducible refine wpList_load49 X w.heap.size 0 r HR.out HA2.out.range ?_ ?_);exact⟨rfl,_,rfl,rfl⟩)
  |((with_reducible refine wpList_storeRow X (w.heap.size+1+1) nul r HC2.out nul_length HR.out ?_ ?_);exact⟨rfl,_,_,rfl,rfl,rfl⟩))
 try simp only[Exit.inBlock,Exit.then]
 refine bodyPost_ret (surv_end rfl HC2.out.set HR.out) rfl ?_;exact⟨rfl,Sec1.below HL2.out (by omega) _⟩
theorem surv_three_(w:World)(f:Int)(s t:List UInt8)(hs:s.length=64)(ht:t.length=64)(hf:f%4=3):Calls Tryz.prog 73 #[.int .i64 f,.agg (cel s).toArray,.agg (cel t).toArray] w (Left1 w (surv f s t)):=by
 have e:s.take 32++(t.drop 32).take 32++s.drop (32+32)=surv f s t:=surv_three hf hs ht;have hb:bits .and .i64 f 3=3:=(i64_and3 f).trans hf;have HR:=hid (surv_length f hs ht);have HS:=hid hs;have HT:=hid ht;have HA:=hid (w3_a w s t);have HB:=hid (w3_b w s t);have HC:=hid (w3_c w s t);have HL:=hid (w3_low w s t);generalize hrr:surv f s t=r at *;have HE:=hid e;clear hs ht hf e hrr;go_enter Tryz.func73,Tryz.ntmps73;go_upto_region 1 with (first
  |((with_reducible refine wpList_alloc49 _ ?_ ?_);exact⟨rfl,rfl⟩))
 have hw:((w.alloc (.cells (cel s).toArray 132)).alloc (.cells (cel t).toArray 132)).alloc (.cells (cel nul).toArray 132)=W3 w s t:=rfl;rw[hw];clear hw;generalize W3 w s t=W at *;have k1:w.heap.size≠w.heap.size+1:=by omega
 have k2:w.heap.size+1+1≠w.heap.size:=by omega
 have HA1:=hid (HA.out.set (t:=r));have HC1:=hid (HC.out.setOther k2 (cel r).toArray);have HL1:=hid (Sec1.below HL.out (Nat.le_refl _) (cel r).toArray);go_wp2_with fail;refine wp_region_still_tail 2 (by kernel_rfl) (by kernel_rfl) ?_;simp only[List.take_succ_cons,List.take_zero,List.drop_succ_cons,List.drop_zero];iterate 2 still_step
 refine wpStill_nil ?_;change wpList _ _ _ _ _ W.drew;refine wpList_copy32 W.drew w.heap.size (w.heap.size+1) 32 _ _ s t HA.out HB.out HS.out HT.out (by omega) ⟨rfl,_,_,rfl,rfl,rfl⟩ ?_;rw[HE.out];have HA2:Hid (Sec1 (W.drew.setRow w.heap.size (cel r).toArray) w.heap.size r):=HA1;have HC2:Hid (Sec1 (W.drew.setRow w.heap.size (cel r).toArray) (w.heap.size+1+1) nul):=HC1;have HL2:Hid (Below w.heap.size w (W.drew.setRow w.heap.size (cel r).toArray)):=hid ⟨HL1.out.os,HL1.out.tape,HL1.out.output,HL1.out.size,HL1.out.block⟩;generalize W.drew.setRow w.heap.size (cel r).toArray=X at *;go_wp2_with (first
  |((with_reducible refine wpList_load49 X w.heap.size 0 r HR.out HA2.out.range ?_ ?_);exact⟨rfl,_,rfl,rfl⟩)
  |((with_reducible refine wpList_storeRow X (w.heap.size+1+1) nul r HC2.out nul_length HR.out ?_ ?_);exact⟨rfl,_,_,rfl,rfl,rfl⟩))
 try simp only[Exit.inBlock,Exit.then]
 refine bodyPost_ret (surv_end rfl HC2.out.set HR.out) rfl ?_;exact⟨rfl,Sec1.below HL2.out (by omega) _⟩
theorem survivor_any(w:World)(f:Int)(s t:List UInt8)(hs:s.length=64)(ht:t.length=64):Calls Tryz.prog 73 #[.int .i64 f,.agg (cel s).toArray,.agg (cel t).toArray] w (Left1 w (surv f s t)):=by
 have h4:f%4=0∨f%4=1∨f%4=2∨f%4=3:=by omega
 rcases h4 with h|h|h|h
 ·exact surv_zero w f s t hs ht h
 ·exact surv_one w f s t hs ht h
 ·exact surv_two_ w f s t hs ht h
 exact surv_three_ w f s t hs ht h
end Go.Proofs.YtdjhlhellkajfaaGreat.Disk
namespace Go.Proofs.YtdjhlhellkajfaaGreat.Disk
open Go.RowKit Go.Maps Go.ChangeMaps Go.MapKept
section
variable {ops:Array Oper} {rest:List Oper} {o:Oper} {a:Act} {Q:Exit→Act→World→Prop}
theorem wpList_next_sec(w:World)(gm r n nn:Nat)(f:Nat→Option (List UInt8))(D:DataW Value)(left:Lit→Bool)(cnt:Nat)(hT:Told D n f)(h:w.ranges Tryz.prog 3 R0 gm r nn D left cnt)
  (ho:o.guard=none∧∃it,o.op=Op.next it false∧a.eval it= .pointer (some ⟨r,0,none⟩))
  (hDone:(∀kl,left kl=false)→wpList Tryz.prog ops Q rest (a.put o.dst (.tuple #[.bool false])) w)
  (hMore:∀(i:Nat) (s:List UInt8) (w':World) (cnt':Nat),i<n→f i=some s→left (ky i)=true→w'.ranges Tryz.prog 3 R0 gm r nn D (fun z=>left z&& !z.sameKey (ky i)) cnt'→cnt'<cnt→
   w.grownBy w' (some r)→w'.heap.size=w.heap.size→(Instr.entry (.pointer (some ⟨r,0,none⟩))).run Tryz.prog w'= .ok (.tuple #[.int .i64 i,.agg (cel s).toArray]) w'→
   wpList Tryz.prog ops Q rest (a.put o.dst (.tuple #[.bool true,.int .i64 i,.agg (cel s).toArray])) w'):
  wpList Tryz.prog ops Q (o::rest) a w:=by
 obtain⟨hg,it,hop,hit⟩:=ho;refine wpList_plain hg fun K' hK'=> ?_;unfold Oper.wp;rcases h.next key3 o.type with⟨h0,hl,hrun⟩|⟨key,v,kl,y,w',cnt',hkey,hlk,hv,hat,hrun,hrg,hlt,hgr,hsz,hen⟩
 ·simp[execOp,hop,hit,hrun,Result.andThen];exact hK' _ _ (hDone hl)
 have hhas:=Maps.has_true_of_atKey hat;obtain⟨i,hi,rfl⟩:=hT.1 kl hhas;obtain⟨x,rfl,hx,_⟩:=Maps.keyOf_i64 Tryz.underlying3 hkey;have hxi:x=(i:Int):=by simpa [ky] using hx.symm
 subst hxi;have hs:=(hT.has hi).symm.trans hhas;obtain⟨s,hs⟩:=Option.isSome_iff_exists.1 hs;have e1:=(hT.2 i hi).2 s hs .nil;rw[hat .nil] at e1;have e2:y=(.held v,[]):=by simpa [R0] using hv.symm
 rw[e2] at e1;have e3:v=secV s:=by simpa using e1
 subst e3;simp[execOp,hop,hit,hrun,Result.andThen];exact hK' _ _ (hMore i s w' cnt' hi hs hlk hrg hlt hgr hsz hen)
theorem wpList_clear(w:World)(gm n:Nat)(f:Nat→Option (List UInt8))(h:Mp w gm n f)(ho:o.guard=none∧∃x,o.op= .call {callee:= .builtin .clear,args:= #[x],argTypes:= #[99]}∧a.eval x= .map (some gm))
  (hK:∀w',Mp w' gm n (fun _=>none)→w.grownBy w' (some gm)→wpList Tryz.prog ops Q rest (a.put o.dst (.tuple #[])) w'):wpList Tryz.prog ops Q (o::rest) a w:=by
 obtain⟨hg,x,hop,hx⟩:=ho;obtain⟨nn,D,⟨es,clock,hb,F,hs,hD⟩,hnn,hT⟩:=h;have e:(Builtin.clear_ #[99] o.type #[.map (some gm)]).run Tryz.prog w= .ok (.tuple #[]) (setBlock w gm (.map #[] clock)):=by
  simp[Builtin.clear_,run_underlying Tryz.underlying99,MapKept.run_getObj_map hb,MapKept.run_setObj_map _ hb,Result.andThen,setBlock]
 refine wpList_plain hg fun _ hK'=> ?_;unfold Oper.wp execOp;simp only[hop,resolve,invoke,builtin,Sem.run_bind,Sem.run_pure,Result.andThen_ok,List.map_toArray,List.map_cons,List.map_nil,hx,e];refine hK' _ _ (hK _ ⟨0,.map [],⟨#[],clock,heap_setBlock_same hb _,⟨by simp,stamped_empty clock,by simp⟩,Nat.le_refl _,rfl⟩,Nat.zero_le _,Told.empty n⟩ ?_);exact⟨rfl,rfl,rfl,by simp[setBlock],fun i _ hi=>heap_setBlock_other hb _ (fun e=>hi (by rw[e]))⟩
theorem wpList_storeMid(w:World)(b off:Nat)(s:List UInt8)(h:w.there b off 64)(hs:s.length=64)(ho:IsStore o a (.pointer (some ⟨b,off,none⟩)) (.agg (cel s).toArray))
  (hK:wpList Tryz.prog ops Q rest (a.put o.dst undef) (w.setCells b off (cel s))):wpList Tryz.prog ops Q (o::rest) a w:=by
 obtain⟨hg,x,y,ho,hx,hy⟩:=ho;have hc:(cel s).toArray.size=64:=by rw[List.size_toArray,cel_length,hs]
 exact wpList_store_mid hg 132 x y ho b off (cel s).toArray hx hy (hc ▸ h) (hc ▸ size49) (cel_all s) hK
end
end Go.Proofs.YtdjhlhellkajfaaGreat.Disk
namespace Go.Proofs.YtdjhlhellkajfaaGreat.Disk
open Go.RowKit Go.Maps
def part (safe:Nat→List UInt8) (f:Nat→Option (List UInt8)) (left:Lit→Bool) (i:Nat):List UInt8:=
 match f i with
 |some s=>if left (ky i) then safe i else s
 |none=>safe i
theorem part_start{D:DataW Value}{n:Nat}{f:Nat→Option (List UInt8)}(h:Told D n f)(safe:Nat→List UInt8)(i:Nat)(hi:i<n):part safe f (Maps.has D) i=safe i:=by
 unfold part;cases hf:f i with
 |none=>rfl
 |some s=>simp[h.has hi,hf]
theorem sameKey_ky(i j:Nat):(ky i).sameKey (ky j)=decide (i=j):=by
 by_cases h:i=j
 ·subst h;simp[ky,Lit.sameKey]
 rw[Maps.sameKey_ne (fun e=>h (ky_inj e))];simp[h]
theorem part_step(safe:Nat→List UInt8){f:Nat→Option (List UInt8)}(left:Lit→Bool){k:Nat}{s:List UInt8}(hf:f k=some s)(i:Nat):
  part safe f (fun z=>left z&& !z.sameKey (ky k)) i=upd (part safe f left) k s i:=by
 by_cases he:i=k
 ·subst he;rw[upd_same];simp[part,hf,sameKey_ky]
 rw[upd_other _ _ he];simp[part,sameKey_ky,he]
theorem part_end{d:Dsk}{left:Lit→Bool}(h:∀kl,left kl=false)(i:Nat):part d.safe d.waits left i=d.read i:=by
 unfold part Dsk.read;cases d.waits i<;>simp[h]
theorem part_length{d:Dsk}(h:d.ok)(left:Lit→Bool)(i:Nat)(hi:i<d.n):(part d.safe d.waits left i).length=64:=by
 unfold part;cases hf:d.waits i with
 |none=>exact h.2.2.1 i hi
 |some s=>
  show(if left (ky i) then d.safe i else s).length=64;split
  ·exact h.2.2.1 i hi
  exact(h.2.2.2.1 i s hf).2
theorem grown_setCells(w:World)(b o:Nat)(vs:List Value):w.grownBy (w.setCells b o vs) (some b):=by
 obtain⟨e1,e2,e3⟩:=os_setCells (b:=b) vs o w;exact⟨e1,e2,e3,by rw[size_setCells];exact Nat.le_refl _,fun k _ hk=>heap_setCells (fun e=>hk (by rw[e])) vs o w⟩
theorem sync_off(w:World)(g gs gm:Nat)(d:Dsk)(h:Dk w g gs gm d)(ho:d.off=true):Calls Tryz.prog 131 #[ptr g] w (Ends (.int .i64 3) w):=by
 have HM:=hid (made_disk w g gs gm d h);obtain⟨z,hz⟩:=h.six;have c2:=hz.c2;rw[ho] at c2;clear hz h ho;unfold ptr at HM ⊢;go_enter Tryz.func131,Tryz.ntmps131;go_wp2_with fail;refine HM.out.mono ?_;rintro e w1 ⟨rfl,rfl⟩;go_wp2;go_ret;exact⟨rfl,rfl⟩
theorem sync_stop(w:World)(g gs gm:Nat)(d:Dsk)(h:Dk w g gs gm d)(ho:d.off=false)(hd:d.done=false):Calls Tryz.prog 131 #[ptr g] w (Now (.int .i64 3) w g gs gm d.deed):=by
 have HM:=hid (made_disk w g gs gm d h);have HW:=hid (deed_disk w g gs gm d h ho);rw[hd] at HW;obtain⟨z,hz⟩:=h.six;have c2:=hz.c2;rw[ho] at c2;clear hz h ho hd;unfold ptr at HM HW ⊢;generalize d.deed=d' at HW ⊢;go_enter Tryz.func131,Tryz.ntmps131;go_wp2_with fail;refine HM.out.mono ?_;rintro e w1 ⟨rfl,rfl⟩;go_wp2_with fail;refine HW.out.mono ?_;rintro e w1 ⟨rfl,hdk,ht⟩;have HF:=hid (And.intro hdk ht);clear hdk ht;go_wp2;go_ret;exact⟨rfl,HF.out.1,HF.out.2⟩
theorem sync_do(w:World)(g gs gm:Nat)(d:Dsk)(h:Dk w g gs gm d)(ho:d.off=false)(hd:d.done=true):Calls Tryz.prog 131 #[ptr g] w (Now (.int .i64 0) w g gs gm d.deed.synced):=by
 have HM:=hid (made_disk w g gs gm d h);have HW:=hid (deed_disk w g gs gm d h ho);rw[hd] at HW;obtain⟨z,hz⟩:=h.six;have c2:=hz.c2;rw[ho] at c2;clear hz h ho hd;unfold ptr at HM HW ⊢;generalize d.deed=d' at HW ⊢;go_enter Tryz.func131,Tryz.ntmps131;go_wp2_with fail;refine HM.out.mono ?_;rintro e w1 ⟨rfl,rfl⟩;go_wp2_with fail;refine HW.out.mono ?_;rintro e w1 ⟨rfl,hdk,ht⟩;clear c2;obtain⟨z1,hz1⟩:=hdk.six;have c1:=hz1.c1;obtain⟨nn,D,hown,hnn,hT⟩:=hdk.mp;have HD:=hid hdk;have HT:=hid ht;have HTD:=hid hT;clear hdk ht hz1 hnn hT;go_wp2_with (first
  |(at_range;refine wpList_range_own _ rfl _ 99 rfl 3 132 key3 Tryz.underlying99 R0 gm nn D rfl hown ?_;intro w0 hrg0 hg0 hs0)
  |go_in)
 go_frame;clear c1;go_loopw [3] (fun _ wr=>∃left cnt,wr.ranges Tryz.prog 3 R0 gm w1.heap.size nn D left cnt∧Sf wr gs d'.n (part d'.safe d'.waits left)∧wr.heap[g]? =w1.heap[g]? ∧Turn [gs] w1 wr)
  (fun _ wr=>wr.rangeLeft gm w1.heap.size)
 case atStart=>
  have hdk:=HD.out;exact⟨_,_,hrg0,(hdk.sf.keep (hg0.block gs hdk.sf.1 (by simp)) hg0.size).same fun i hi=>part_start HTD.out _ i hi,hg0.block g hdk.lt (by simp),(Turn.refl _ _).grown hg0 (by simp)⟩
 case round=>
  obtain⟨left,cnt,hrg,hsf,hgg,htr⟩:=hrel;obtain⟨wo,rfl⟩:∃wo:World,wo=wr:=⟨_,rfl⟩
  go_wp2_with (first
   |(at_next;(with_reducible refine wpList_next_sec wo gm w1.heap.size d'.n nn d'.waits D left cnt HTD.out hrg ?_ ?_ ?_);exact⟨rfl,_,rfl,rfl⟩)
   |go_in)
  ·-- nothing is left
   intro hl0;have hown2:=hrg.owns;obtain⟨z2,hz2⟩:=HD.out.six;have c1:wo.cell? ⟨g,1,none⟩=some (.map (some gm)):=(World.cell?_of_block (w:=w1) hgg).trans hz2.c1;have HMP:=hid (Mp.made hown2 HTD.out);have HH:=hid (And.intro hl0 (And.intro hsf (And.intro hgg htr)));clear hl0 hown2 hz2 hsf hgg htr hrg;go_wp2_with (first
    |((with_reducible refine wpList_clear wo gm d'.n d'.waits HMP.out ?_ ?_);exact⟨rfl,_,rfl,rfl⟩;intro w4 hm4 hg4;have HQ:=hid (And.intro hm4 hg4);clear hm4 hg4)
    |go_in)
   go_ret;obtain⟨hl0,hsf,hgg,htr⟩:=HH.out;obtain⟨hm4,hg4⟩:=HQ.out;have hdk:=HD.out;obtain⟨z2,hz2⟩:=hdk.hd;have hng:g<wo.heap.size:=Nat.lt_of_lt_of_le hdk.lt htr.size;refine⟨rfl,⟨Dsk.synced_ok hdk.ok,hdk.ne,⟨z2,?_⟩,?_,hm4⟩,?_⟩
   ·exact(hg4.block g hng (by simp;exact hdk.nem)).trans (hgg.trans hz2)
   ·exact(hsf.keep (hg4.block gs hsf.1 (by simp;exact hdk.nes)) hg4.size).same fun i _=>(part_end hl0 i).symm
   exact HT.out.then_ ((htr.more (S':=[gs,gm]) (by simp)).grown hg4 (fun k hk=> .inl (by cases hk;simp))) (by simp)
  -- a sector has come
  intro i s w2 cnt2 hi hf hlk hrg2 hlt hg2 hs2 hen;have hdk:=HD.out;obtain⟨z2,hz2⟩:=hdk.six;have hgl:g<w2.heap.size:=by have:=hdk.lt;have:=htr.size;omega
  have e2:w2.heap[g]? =w1.heap[g]? :=(hg2.block g (Nat.lt_of_lt_of_le hdk.lt htr.size) (by simp;exact fun e=>absurd hdk.lt (by omega))).trans hgg;have c0:w2.cell? ⟨g,0,none⟩=some (.slice (some ⟨gs,0,none⟩) d'.n d'.n):=(World.cell?_of_block (w:=w1) e2).trans hz2.c0;have i0:(0:Int)≤i:=by omega
  have i1:(i:Int)<d'.n:=by omega
  have HS:=hid (hdk.ok.2.2.2.1 i s hf).2;have hsf2:Sf w2 gs d'.n (part d'.safe d'.waits left):=hsf.keep (hg2.block gs hsf.1 (by simp;exact fun e=>absurd hdk.sf.1 (by omega))) (by omega);have CX:=hid (show(w2.alloc (.cells (cel s).toArray 132)).cell? ⟨g,0,none⟩=some (.slice (some ⟨gs,0,none⟩) d'.n d'.n) from(World.cell?_of_block (w:=w2) (Below.heap_alloc w2 _ g hgl)).trans c0);have HTH:=hid ((World.there_drew _ _ _ _).2 (World.there_alloc (hsf2.at_ hi) (.cells (cel s).toArray 132)));have HSE:=hid ((World.rangeAt_drew _ _ _ _).2 (Sec1.range (show Sec1 (w2.alloc (.cells (cel s).toArray 132)) w2.heap.size s from heap_alloc_last w2 _)));have HH:=hid (And.intro hi (And.intro hf (And.intro hrg2 (And.intro hlt (And.intro hg2 (And.intro hs2 (And.intro e2 hsf2)))))));have HR:=hid (And.intro hrg (And.intro hgg htr));clear hs2 hsf2 hg2 hrg2 hlt hlk hf hi hz2 hdk hrg hsf hgg htr e2;go_upto_region 8 with (first
   |((with_reducible refine wpList_alloc49 w2 ?_ ?_);exact⟨rfl,rfl⟩)
   |((with_reducible refine wpList_store49 w2 w2.heap.size _ s rfl ?_ ?_ HS.out ?_);exact⟨rfl,_,_,rfl,rfl,rfl⟩;rfl)
   |go_in)
  obtain⟨X,hX⟩:∃X,X=w2.alloc (.cells (cel s).toArray 132):=⟨_,rfl⟩
  rw[←hX] at CX HTH HSE ⊢;have HX:=hid hX;clear c0 hX;have c0:=CX.out;refine wp_region_still_tail 7 (by kernel_rfl) (by kernel_rfl) ?_;simp only[List.take_succ_cons,List.take_zero,List.drop_succ_cons,List.drop_zero];iterate 5 still_step
  refine still_load49 w2.heap.size 0 s _ rfl rfl HS.out HSE.out rfl ?_;simp only[Act.put,List.setIfInBounds_toArray,List.set_cons_zero,List.set_cons_succ];still_step
  refine wpStill_nil ?_;change wpList _ _ _ _ _ X.drew;refine wpList_storeMid _ gs (i * 64) s HTH.out HS.out ⟨rfl,_,_,rfl,rfl,rfl⟩ ?_;go_frame;have hX:=HX.out;obtain⟨hi,hf,hrg2,hlt,hg2,hs2,e2,hsf2⟩:=HH.out;obtain⟨hrg,hgg,htr⟩:=HR.out;have hdk:=HD.out;have hrX:X.ranges Tryz.prog 3 R0 gm w1.heap.size nn D (fun z=>left z&& !z.sameKey (ky i)) cnt2:=by rw[hX];exact hrg2.alloc _
  have htX:Turn [gs] w1 X:=by rw[hX];exact(htr.grown hg2 (fun k hk=> .inr (by cases hk;exact Nat.le_refl _))).alloc _
  have hsX:Sf X gs d'.n (part d'.safe d'.waits left):=by rw[hX];exact hsf2.keep (Below.heap_alloc w2 _ gs hsf2.1) (by simp)
  have hgX:X.heap[g]? =w1.heap[g]? :=by rw[hX];exact(Below.heap_alloc w2 _ g hgl).trans e2
  have hr1:(X.drew.setCells gs (i * 64) (cel s)).ranges Tryz.prog 3 R0 gm w1.heap.size nn D (fun z=>left z&& !z.sameKey (ky i)) cnt2:=
   World.ranges.kept (w:=X.drew) hrX (grown_setCells _ _ _ _) (by simp;exact fun e=>hdk.nes e.symm) (by simp;exact fun e=>absurd hdk.sf.1 (by omega))
  have hs1:Sf (X.drew.setCells gs (i * 64) (cel s)) gs d'.n (part d'.safe d'.waits fun z=>left z&& !z.sameKey (ky i)):=
   Sf.same (Sf.set (w:=X.drew) hsX (part_length hdk.ok left) hi HS.out) fun j _=>part_step _ left hf j
  have hm:=hr1.left_eq;have hm0:=hrg.left_eq;have HY:=hid (And.intro hr1 (And.intro hs1 (And.intro ((heap_setCells hdk.ne (cel s) (i * 64) X.drew).trans hgX) (htX.drew.setCells (b:=gs) (by simp) (i * 64) (cel s)))));have HZ:=hid (And.intro hm (And.intro hm0 hlt));clear hX hi hf hrg2 hlt hg2 hs2 e2 hsf2 hrg hgg htr hdk hrX htX hsX hgX hr1 hs1 hm hm0;go_wp2;obtain⟨hm,hm0,hlt⟩:=HZ.out;rw[hm,hm0];exact⟨⟨_,cnt2,HY.out⟩,hlt⟩
end Go.Proofs.YtdjhlhellkajfaaGreat.Disk
