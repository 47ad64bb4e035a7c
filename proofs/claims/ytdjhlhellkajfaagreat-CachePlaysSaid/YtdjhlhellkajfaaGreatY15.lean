/-
  Texts FUnpack, FPk, FRPack, QFRPack, in one file. What each proves, and its conditions, stand at its head below.
-/
import Derived.Test.YtdjhlhellkajfaaGreatY13
import Derived.Test.YtdjhlhellkajfaaGreatY14
import Derived.Test.YtdjhlhellkajfaaGreatY16
import Derived.Deep.DeepCutAuto
set_option maxRecDepth 100000
set_option maxHeartbeats 2000000
open Go.Lib (hid)
namespace Go.Proofs.YtdjhlhellkajfaaGreat.Frm
open Go.RowKit Codec FrameM Cod
def Told (w:World) (xs:List UInt8) (ok:Bool) (e:Ending) (w':World):Prop:=
 ∃A m c,e= .returned (.tuple #[.slice A m c,.bool ok])∧Byts w' w'.heap.size A m xs∧Below w.heap.size w w'
theorem told_no(w w':World)(xs:List UInt8)(hx:xs=[])(h:Below w.heap.size w w'):Told w xs false (.returned (.tuple #[.slice none 0 0,.bool false])) w':=by
 subst hx;exact⟨none,0,0,rfl,Byts.none_,h⟩
def ToldN (w:World) (xs:List UInt8) (ok:Bool) (e:Ending) (w':World):Prop:=
 ∃A m c,e= .returned (.tuple #[.slice A m c,.bool ok])∧Byts w' w'.heap.size A m xs∧Below w.heap.size w w'∧m≤c∧c≤maxLen∧Above w.heap.size A∧U8 w' A
theorem told_noN(w w':World)(xs:List UInt8)(hx:xs=[])(h:Below w.heap.size w w'):ToldN w xs false (.returned (.tuple #[.slice none 0 0,.bool false])) w':=by
 subst hx;exact⟨none,0,0,rfl,Byts.none_,h,Nat.le_refl _,Nat.zero_le _,Above.none_,U8.none_⟩
def outer (ls:List (List UInt8)) (n:Int):Prop:=0≤n∧n≤1048576∧(ls.length:Int)=needI n
theorem unpack_outer{ls:List (List UInt8)}{n:Int}(h:¬outer ls n):unpackB ls n=false:=by
 unfold outer at h;simp[unpackB,h]
theorem unpack_wrong(w:World)(k c:Nat)(A:Option Addr)(ls:List (List UInt8))(n:Int)(hn:in64 n)(hl:ls.length=k)(h:¬outer ls n):Calls Tryz.prog 135 #[.slice A k c,.int .i64 n] w (ToldN w (unpack ls n) (unpackB ls n)):=by
 have hu:=unpack_outer h;have HU:=hid (unpack_no hu);rw[hu,HU.out];clear hu HU;have HN:=hid (need_any n w hn);obtain⟨h1,h2⟩:=hn;have hc:n<0∨(0≤n∧1048576<n)∨(0≤n∧n≤1048576∧((k:Int)!=needI n)=true):=by
  unfold outer at h;rw[hl] at h;by_cases a:n<0
  ·exact .inl a
  by_cases b:1048576<n
  ·exact .inr (.inl ⟨by omega,b⟩)
  refine .inr (.inr ⟨by omega,by omega,?_⟩);rw[bne_iff_ne];exact fun e=>h ⟨by omega,by omega,e⟩
 clear h;generalize needI n=q at *;rcases hc with a|⟨a,b⟩|⟨a,b,d⟩
 ·go_enter Tryz.func135,Tryz.ntmps135;go_wp2_with fail;go_ret2;exact told_noN w w [] rfl (Below.refl _ _)
 ·go_enter Tryz.func135,Tryz.ntmps135;go_wp2_with fail;go_ret2;exact told_noN w w [] rfl (Below.refl _ _)
 go_enter Tryz.func135,Tryz.ntmps135;go_wp2_with fail;refine HN.out.mono ?_;rintro e w1 ⟨rfl,rfl⟩;go_wp2_with fail;go_ret2;exact told_noN w w [] rfl (Below.refl _ _)
def flat (ls:List (List UInt8)) (k j:Nat):List UInt8:=(ls.take j).flatten++zeros (64 * k-64 * j)
theorem flat_len(ls:List (List UInt8))(j:Nat)(hj:j≤ls.length)(h:∀x,x<j→(ls.getD x []).length=64):(ls.take j).flatten.length=64 * j:=by
 induction j with
 |zero=>simp
 |succ j ih=>
  rw[flat_step ls j (by omega),List.length_append,ih (by omega) (fun x hx=>h x (by omega)),h j (by omega)];omega
theorem flat_length(ls:List (List UInt8))(k j:Nat)(hk:ls.length=k)(hj:j≤k)(h:∀x,x<j→(ls.getD x []).length=64):(flat ls k j).length=64 * k:=by
 rw[flat,List.length_append,flat_len ls j (by omega) h,zeros_length];omega
theorem flat_next(ls:List (List UInt8))(k j:Nat)(hk:ls.length=k)(hj:j<k)(h:∀x,x<j→(ls.getD x []).length=64)(hs:(ls.getD j []).length=64):splice (flat ls k j) (64 * j) (ls.getD j [])=flat ls k (j+1):=by
 have hl:=flat_len ls j (by omega) h;unfold splice flat zeros;rw[flat_step ls j (by omega),List.take_left' hl,List.drop_append,hl,hs,List.drop_eq_nil_of_le (by omega),List.nil_append,List.drop_replicate,List.append_assoc,
  show 64 * k-64 * j-(64 * j+64-64 * j)=64 * k-64 * (j+1) by omega]
theorem flat_all(ls:List (List UInt8))(k:Nat)(hk:ls.length=k):flat ls k k=ls.flatten:=by
 rw[flat,List.take_of_length_le (by omega),Nat.sub_self];simp[zeros]
theorem all_zero(l:List UInt8)(r:Nat)(hr:l.length=r):decide (l=zeros r)=l.all (fun x=>decide (x=0)):=by
 rw[Bool.eq_iff_iff];simp only[decide_eq_true_eq,List.all_eq_true];refine⟨fun h x hx=> ?_,fun h=> ?_⟩
 ·rw[h] at hx;exact(List.mem_replicate.1 hx).2
 exact List.eq_replicate_iff.2 ⟨hr,h⟩
theorem unpack_some{ls:List (List UInt8)}{k N:Nat}(ho:outer ls (N:Int))(hk:ls.length=k)(h:∀x,x<k→(ls.getD x []).length=64)(r:Nat)(hr:(ls.flatten.drop N).length=r):unpackB ls (N:Int)=decide (ls.flatten.drop N=zeros r):=by
 have ha:ls.all (fun s=>decide (s.length=64))=true:=by
  simp only[List.all_eq_true,decide_eq_true_eq];intro s hs;obtain⟨x,hx,rfl⟩:=List.getElem_of_mem hs;rw[←getD_of (d:=[]) hx];exact h x (by omega)
 rw[all_zero _ r hr];unfold outer at ho;simp[unpackB,ho,ha]
theorem unpack_short{ls:List (List UInt8)}{n:Int}{j:Nat}(hj:j<ls.length)(h:(ls.getD j []).length≠64):unpackB ls n=false:=by
 have ha:ls.all (fun s=>decide (s.length=64))=false:=by
  rw[List.all_eq_false];refine⟨ls[j],List.getElem_mem hj,?_⟩;rw[getD_of hj] at h;simpa using h
 simp[unpackB,ha]
theorem unpack_right(w:World)(k c:Nat)(A:Option Addr)(ls:List (List UInt8))(N:Nat)(hr:Rows w w.heap.size A k ls)(ho:outer ls (N:Int)):Calls Tryz.prog 135 #[.slice A k c,.int .i64 N] w (ToldN w (unpack ls N) (unpackB ls N)):=by
 have hkl:=hr.len;have hN:N≤1048576∧need N=k:=by
  obtain⟨_,h2,h3⟩:=ho;rw[needI_nat,hkl] at h3;exact⟨by omega,by omega⟩
 have hNK:N≤64 * k∧k≤16384:=by unfold need at hN;omega
 have HN:=hid (need_any (N:Int) w (by unfold in64;omega));rw[needI_nat,hN.2] at HN;have hN1:(0:Int)≤N:=Int.natCast_nonneg _;have hN2:(N:Int)≤1048576:=by omega
 have HO:=hid ho;have HR:=hid hr;have HKL:=hid hkl;have HNK:=hid hNK.1;have hk16:=hNK.2;obtain⟨K,hK⟩:∃K,64 * k=K:=⟨_,rfl⟩
 have HK:=hid hK;have hmk:∀v:World,(Instr.makeSlice 39 (.int .i64 ((k:Int) * 64)) (.int .i64 ((k:Int) * 64))).run Tryz.prog v= .ok (.slice (some ⟨v.heap.size,0,none⟩) K K) (v.alloc (.cells (cel (zeros K)).toArray 5)):=fun v=>by
  have:=run_make_bytes v K (by omega);rwa [show((K:Nat):Int)=(k:Int) * 64 by omega] at this
 have HST:Hid ((w.alloc (.cells (cel (zeros K)).toArray 5)).heap[w.heap.size]? =some (.cells (cel (flat ls k 0)).toArray 5 (0,0))):=hid (by
  have e:flat ls k 0=zeros K:=by unfold flat;simp[hK]
  rw[e];exact heap_alloc_new w _)
 clear hr ho hkl hN hNK hK;go_enter Tryz.func135,Tryz.ntmps135;go_wp2_with fail;refine HN.out.mono ?_;rintro e w1 ⟨rfl,rfl⟩;go_wp2_with fail;go_loopw [29] (fun i wr=>∃j:Nat,j≤k∧i= .int .i64 j∧(∀x,x<j→(ls.getD x []).length=64)∧wr.heap[w.heap.size]? =some (.cells (cel (flat ls k j)).toArray 5 (0,0))∧Below w.heap.size w wr) (fun i _=>k-(intOf i).toNat)
 case atStart=>exact⟨0,by omega,rfl,fun x hx=>absurd hx (by omega),HST.out,alloc_below w _⟩
 case round=>
  obtain⟨j,hj,rfl,hall,hg,hbel⟩:=hrel;have HA:=hid hall;have HG:=hid hg;have HB:=hid hbel;clear hall hg hbel HST hmk;by_cases hlt:j<k
  ·obtain⟨b,off,rfl,hb,hc⟩:=HR.out.at_ (by omega);obtain⟨Aj,cj,h1,h2,h3,h4⟩:=hc j hlt;have hcell:wr.cell? ⟨b,off+j,none⟩=some (.slice Aj (ls.getD j []).length cj):=(HB.out.cell (p:=⟨b,off+j,none⟩) hb).trans h1;have HY:=hid (h2.below HB.out);have h4':cj≤9223372036854775807:=h4;have HJ:Hid (j<ls.length):=hid (by rw[HKL.out];exact hlt);clear h1 h2 hc h4;by_cases hs:(ls.getD j []).length=64
   ·have HS:=hid (flat_next ls k j HKL.out hlt HA.out hs);have HFL:=hid (flat_length ls k j HKL.out hj HA.out);have HS64:=hid hs;have HSJ:Hid (∀x,x<j+1→(ls.getD x []).length=64):=hid (fun x hx=>by
     by_cases hxj:x=j
     ·rw[hxj];exact hs
     ·exact HA.out x (by omega))
    generalize ls.getD j []=ys at *;rw[HS64.out] at hcell HY h3;have hjK:64 * j≤K:=by have:=HK.out;omega
    have hs1:∀v:World,(Instr.slice 39 (.slice (some ⟨w.heap.size,0,none⟩) K K) (some (.int .i64 ((j:Int) * 64))) none none).run Tryz.prog v= .ok (.slice (cutAt (some ⟨w.heap.size,0,none⟩) (64 * j) K) (K-64 * j) (K-64 * j)) v:=fun v=>by
     have:=cut_l v (some ⟨w.heap.size,0,none⟩) K K (64 * j) hjK;rwa [show((64 * j:Nat):Int)=(j:Int) * 64 by omega] at this
    have HD:Hid (cutAt (some ⟨w.heap.size,0,none⟩) (64 * j) K=some ⟨w.heap.size,64 * j,none⟩):=hid (by
     unfold cutAt;rw[if_neg (by have:=HK.out;omega),Option.map_some,plain_add,Nat.zero_add])
    have hfit:64≤K-64 * j:=by have:=HK.out;omega
    clear hs hjK;rw[HD.out] at hs1;generalize K-64 * j=R at *;go_wp2_with (with_reducible refine wpList_copy_to _ rfl (.tmp 40) (.tmp 41) rfl w.heap.size (64 * j) (flat ls k j) ys _ Aj R R 64 cj w.heap.size rfl rfl HY.out hfit (fun _=>rfl) HG.out (by have:=HFL.out;omega) w w.heap.size HB.out (Nat.le_refl _) ?_;intro w1 hg1 hb1);go_roundw
    case rel=>exact⟨j+1,by omega,by go_num,HSJ.out,by rw[←HS.out];exact hg1.out,hb1.out⟩
    case measure=>simp[intOf];omega
   have HU:=hid (unpack_short (n:=(N:Int)) HJ.out hs);have HU2:=hid (unpack_no HU.out);generalize (ls.getD j []).length=m at *;have hs':((m:Int)!=64)=true:=by simp;omega
   clear hs;go_wp2_with fail;go_ret2;rw[HU.out];exact told_noN w wr _ HU2.out HB.out
  obtain rfl:j=k:=by omega
  have hfk:=flat_all ls j HKL.out;have hfl:=flat_length ls j j HKL.out (Nat.le_refl _) HA.out;rw[hfk] at hfl;have HG1:Hid (wr.heap[w.heap.size]? =some (.cells (cel ls.flatten).toArray 5 (0,0))):=hid (by rw[←hfk];exact HG.out);have hKn:K=64 * j:=HK.out.symm;have hnk:=HNK.out;obtain⟨r,hr⟩:∃r,K-N=r:=⟨_,rfl⟩
  have hdl:(ls.flatten.drop N).length=r:=by rw[List.length_drop,hfl];omega
  have HU:=hid (unpack_some HO.out HKL.out HA.out r hdl);have HBY:Hid (Byts wr (w.heap.size+1) (some ⟨w.heap.size,0,none⟩) K ls.flatten):=hid ⟨by rw[hfl];exact HK.out,fun _=>⟨w.heap.size,0,rfl,by omega,fun x hx=>by
   rw[cell_at HG1.out,Nat.zero_add,←cel_get ls.flatten x (by omega)];simp⟩⟩
  have HBC:=hid (Byts.cut HBY.out N K K (by omega) (Nat.le_refl _) (Nat.le_refl _));have hs1:∀v:World,(Instr.slice 39 (.slice (some ⟨w.heap.size,0,none⟩) K K) (some (.int .i64 N)) none none).run Tryz.prog v= .ok (.slice (cutAt (some ⟨w.heap.size,0,none⟩) N K) r r) v:=fun v=>by
   have:=cut_l v (some ⟨w.heap.size,0,none⟩) K K N (by omega);rwa [hr] at this
  have hs2:∀v:World,(Instr.slice 39 (.slice (some ⟨w.heap.size,0,none⟩) K K) none (some (.int .i64 N)) (some (.int .i64 N))).run Tryz.prog v= .ok (.slice (some ⟨w.heap.size,0,none⟩) N N) v:=fun v=>cut_hm v _ K K N N (Nat.le_refl _) (by omega);have hmk:=fun v=>run_make_bytes v r (by omega);rw[hr,List.take_of_length_le (by omega)] at HBC;have HZ:Hid (Byts (wr.alloc (.cells (cel (zeros r)).toArray 5)) (wr.heap.size+1) (some ⟨wr.heap.size,0,none⟩) r (zeros r)):=hid (by
   have h:=(own_lit wr wr.heap.size (zeros r) (cel (zeros r)).toArray r (by simp) (zeros_length r) (Nat.le_refl _) (by omega)).byts;rwa [World.size_alloc] at h)
  have HBL:=hid (HB.out.alloc HB.out.size (.cells (cel (zeros r)).toArray 5));have hlt0:=lt_of_heap HG1.out;have HEQ:=hid (equal_any (wr.alloc (.cells (cel (zeros r)).toArray 5)) _ _ r r r r _ _ _ _ (HBC.out.alloc (by omega) _) HZ.out);have HTK:=hid ((HBY.out.take N (by omega)).alloc (by omega) (.cells (cel (zeros r)).toArray 5));generalize cutAt (some ⟨w.heap.size,0,none⟩) N K=A2 at *;clear hfk hfl hdl hr HBC HZ HBY hKn hnk;go_wp2_with fail;refine HEQ.out.mono ?_;rintro e w2 ⟨rfl,rfl⟩;rw[←HU.out];rcases Bool.eq_false_or_eq_true (unpackB ls (N:Int)) with hu|hu
  ·have HV:=hid (unpack_yes hu);have HUU:=hid hu;rw[hu];clear hu;go_wp2_with fail;go_ret2;rw[HV.out,HUU.out];exact⟨_,N,N,rfl,HTK.out.more (by simp;omega),HBL.out,Nat.le_refl _,by unfold maxLen;omega,Above.one (Nat.le_refl _),U8.one ((Below.heap_alloc wr _ _ (lt_of_heap HG1.out)).trans HG1.out)⟩
  have HV:=hid (unpack_no hu);have HUU:=hid hu;rw[hu];clear hu;go_wp2_with fail;go_ret2;rw[HUU.out];exact told_noN w _ _ HV.out HBL.out
theorem unpack_any(w:World)(k c:Nat)(A:Option Addr)(ls:List (List UInt8))(n:Int)(hn:in64 n)(hr:Rows w w.heap.size A k ls):Calls Tryz.prog 135 #[.slice A k c,.int .i64 n] w (ToldN w (unpack ls n) (unpackB ls n)):=by
 by_cases ho:outer ls n
 ·obtain⟨N,rfl⟩:∃N:Nat,n=N:=⟨n.toNat,by have:=ho.1;omega⟩
  exact unpack_right w k c A ls N hr ho
 exact unpack_wrong w k c A ls n hn hr.len ho
end Go.Proofs.YtdjhlhellkajfaaGreat.Frm
namespace Go.Proofs.YtdjhlhellkajfaaGreat.Frm
open Go.RowKit Codec FrameM Cod
def Sct (w:World) (lo:Nat) (v:Value) (s:List UInt8):Prop:=∃g,v= .slice (some ⟨g,0,none⟩) 64 64∧w.heap[g]? =some (.cells (cel s).toArray 5 (0,0))∧lo≤g∧s.length=64
def Pk (w:World) (lo:Nat) (v:Value) (n:Nat) (ls:List (List UInt8)):Prop:=
 ∃vs:List Value,w.ownsRow lo 39 1 v n vs∧vs.length=n∧ls.length=n∧∀j,j<n→Sct w lo (vs.getD j undef) (ls.getD j [])
theorem Sct.keep{w w':World}{lo:Nat}{v:Value}{s:List UInt8}(h:Sct w lo v s)(hk:∀(g:Nat) (cs:Array Value),w.heap[g]? =some (Obj.cells cs 5 (0,0))→w'.heap[g]? =some (Obj.cells cs 5 (0,0))):Sct w' lo v s:=by
 obtain⟨g,e,hg,h1,h2⟩:=h;exact⟨g,e,hk g _ hg,h1,h2⟩
theorem Pk.nil{w:World}{lo:Nat}:Pk w lo (.slice none 0 0) 0 []:=⟨[],World.ownsRow_nil w lo 39 1,rfl,rfl,fun j hj=>absurd hj (by omega)⟩
theorem Pk.kept{w w':World}{lo n:Nat}{v:Value}{ls:List (List UInt8)}{row:Option Nat}(h:Pk w lo v n ls)(hg:w.grownBy w' row)(hrow:∀r,row=some r→∀(cs:Array Value) (T:TypeId),w.heap[r]? =some (Obj.cells cs T (0,0))→T≠5∧T≠39):Pk w' lo v n ls:=by
 obtain⟨vs,ho,h1,h2,h3⟩:=h;refine⟨vs,ho.kept hg ?_,h1,h2,fun j hj=>(h3 j hj).keep fun g cs hgc=>(hg.block g (lt_of_heap hgc) (fun e=>(hrow g e.symm cs 5 hgc).1 rfl)).trans hgc⟩;rcases ho.2 with⟨rfl,_⟩|⟨g,cap,cur,rfl,_,hgb,_⟩
 ·exact .inl rfl
 exact .inr fun e=>(hrow g (by rw[←e];rfl) cur 39 hgb).2 rfl
theorem Pk.alloc{w:World}{lo n:Nat}{v:Value}{ls:List (List UInt8)}(h:Pk w lo v n ls)(o:Obj):Pk (w.alloc o) lo v n ls:=h.kept (World.grownBy_alloc w o none) (fun r e=>by cases e)
theorem Pk.below{w w':World}{lo n:Nat}{v:Value}{ls:List (List UInt8)}(h:Pk w lo v n ls)(hb:Below w.heap.size w w'):Pk w' lo v n ls:=
 h.kept (row:=none) ⟨hb.os,hb.tape,hb.output,hb.size,fun k hk _=>hb.block k hk⟩ (fun r e=>by cases e)
theorem Pk.form{w:World}{lo n:Nat}{v:Value}{ls:List (List UInt8)}(h:Pk w lo v n ls):∃A c,v= .slice A n c∧n≤c∧c≤maxLen:=by
 obtain⟨vs,ho,_⟩:=h;rcases ho.2 with⟨rfl,rfl⟩|⟨g,cap,cur,rfl,_,_,h1,h2,_⟩
 ·exact⟨none,0,rfl,Nat.le_refl _,Nat.zero_le _⟩
 exact⟨_,cap,rfl,h1,h2⟩
theorem Pk.rows{w:World}{lo n c:Nat}{A:Option Addr}{ls:List (List UInt8)}(h:Pk w lo (.slice A n c) n ls):Rows w w.heap.size A n ls:=by
 obtain⟨vs,ho,h1,h2,h3⟩:=h;refine⟨h2,fun hn=> ?_⟩;obtain⟨g,cap,hv,_,hlt⟩:=World.ownsRow.form ho hn;have hA:A=some ⟨g,0,none⟩:=by injection hv
 subst hA;refine⟨g,0,rfl,hlt,fun j hj=> ?_⟩;obtain⟨gj,e,hg,_,hs⟩:=h3 j hj;have hc:=ho.cells (g:=g) rfl j (vs.getD j undef) (by simp[List.getD_eq_getElem?_getD,h1,hj]);rw[plain_add,e] at hc;refine⟨some ⟨gj,0,none⟩,64,by rw[hs];exact hc,⟨by rw[hs],fun _=>⟨gj,0,rfl,lt_of_heap hg,fun x hx=> ?_⟩⟩,by omega,by unfold maxLen;omega⟩;rw[cell_at hg,Nat.zero_add,←cel_get _ x hx];simp
theorem info24:(Tryz.prog.info? 39).map (fun i=>(i.zero,i.size,i.bytes))=some (some (.slice none 0 0),1,24):=by kernel_rfl
theorem run_app34(w:World)(ty:TypeId)(lo:Nat)(v:Value)(n:Nat)(ls:List (List UInt8))(h:Pk w lo v n ls)(u:Value)(s:List UInt8)(hs:Sct w lo u s)(ad:Addr)(c:Nat)(hc:w.cell? ad=some u)(hn:n≤1000000)(hlo:lo≤w.heap.size):
  ∃A' c' w',(Builtin.append_ #[40,40] ty #[v,.slice (some ad) 1 c]).run Tryz.prog w= .ok (.slice A' (n+1) c') w'∧Pk w' lo (.slice A' (n+1) c') (n+1) (ls++[s])∧Below lo w w'∧w.grownBy w' v.ownBlock∧((Value.slice A' (n+1) c').ownBlock=v.ownBlock∨(Value.slice A' (n+1) c').ownBlock=some w.heap.size):=by
 obtain⟨i0,hi0,hz0,hz1,hz2⟩:=info_parts info24;obtain⟨vs,ho,h1,h2,h3⟩:=h;obtain⟨g,rfl,hg,hlg,hl⟩:=hs;have hadd:ad.add 0=ad:=by unfold Addr.add;split<;>simp_all
 obtain⟨v',w',hrun,r1,r2,_,r5⟩:=run_append_own_at (P:=Tryz.prog) w lo 40 ty 39 i0 (.slice none 0 0) 1 24 Tryz.underlying40 hi0 hz0 hz1 hz2 rfl (by decide) v n vs ho ad 1 c [.slice (some ⟨g,0,none⟩) 64 64] rfl (fun j x hx=>by
   match j,hx with
   |0,hx=>
    simp at hx;subst hx;rw[hadd];exact hc) (by simp[Value.oneCell']) (by unfold maxLen;omega) (by omega) hlo
 have hk:∀(k:Nat) (cs:Array Value),w.heap[k]? =some (Obj.cells cs 5 (0,0))→w'.heap[k]? =some (Obj.cells cs 5 (0,0)):=fun k cs hkc=>by
  refine(r2.block k (lt_of_heap hkc) ?_).trans hkc;rcases ho.2 with⟨rfl,_⟩|⟨b,cap,cur,rfl,_,hgb,_⟩
  ·simp[Value.ownBlock]
  intro e;have:b=k:=by simpa [Value.ownBlock] using e.symm
  subst this;rw[hkc] at hgb;injection hgb with hgb;injection hgb with _ ht;exact absurd ht (by decide)
 have hpk:Pk w' lo v' (n+1) (ls++[s]):=by
  refine⟨vs++[.slice (some ⟨g,0,none⟩) 64 64],r1,by simp[h1],by simp[h2],fun j hj=> ?_⟩;by_cases hjn:j<n
  ·have e1:(vs++[Value.slice (some ⟨g,0,none⟩) 64 64]).getD j undef=vs.getD j undef:=by simp[List.getD_eq_getElem?_getD,List.getElem?_append,h1,hjn]
   have e2:(ls++[s]).getD j []=ls.getD j []:=by simp[List.getD_eq_getElem?_getD,List.getElem?_append,h2,hjn]
   rw[e1,e2];exact(h3 j hjn).keep hk
  obtain rfl:j=n:=by omega
  have e1:(vs++[Value.slice (some ⟨g,0,none⟩) 64 64]).getD j undef= .slice (some ⟨g,0,none⟩) 64 64:=by simp[List.getD_eq_getElem?_getD,←h1]
  have e2:(ls++[s]).getD j []=s:=by simp[List.getD_eq_getElem?_getD,←h2]
  rw[e1,e2];exact⟨g,rfl,hk g _ hg,hlg,hl⟩
 have hb:Below lo w w':=(Below.refl lo w).grown r2 hlo (fun k hk=>(World.ownsRow.lt ho k hk).1);obtain⟨A',c',rfl,_,_⟩:=hpk.form;exact⟨A',c',w',hrun,hpk,hb,r2,r5⟩
theorem wpList_app34(w:World){ops:Array Oper}{rest:List Oper}{o:Oper}{a:Act}{Q:Exit→Act→World→Prop}(hgd:o.guard=none)(s x:Operand)
  (ho:o.op= .call {callee:= .builtin .append,args:= #[s,x],argTypes:= #[40,40]})
  (lo:Nat) (v:Value) (n:Nat) (ls:List (List UInt8)) (hs:a.eval s=v) (h:Pk w lo v n ls) (u:Value) (sc:List UInt8) (hsc:Sct w lo u sc) (ad:Addr) (c:Nat) (hx:a.eval x= .slice (some ad) 1 c) (hc:w.cell? ad=some u) (hn:n≤1000000) (hlo:lo≤w.heap.size)
  (hK:∀A' c' w',Pk w' lo (.slice A' (n+1) c') (n+1) (ls++[sc])→Below lo w w'→wpList Tryz.prog ops Q rest (a.put o.dst (.slice A' (n+1) c')) w'):wpList Tryz.prog ops Q (o::rest) a w:=by
 obtain⟨A',c',w',hrun,h2,h3,_⟩:=run_app34 w o.type lo v n ls h u sc hsc ad c hc hn hlo;refine wpList_plain hgd fun _ hK'=> ?_;unfold Oper.wp execOp;simp only[ho,resolve,invoke,builtin,Sem.run_bind,Sem.run_pure,Result.andThen_ok,List.map_toArray,List.map_cons,List.map_nil,hs,hx,hrun];exact hK' _ _ (hK A' c' w' h2 h3)
end Go.Proofs.YtdjhlhellkajfaaGreat.Frm
namespace Go.Proofs.YtdjhlhellkajfaaGreat.Frm
open Go.RowKit Codec FrameM Cod
def Packed (w:World) (ls:List (List UInt8)) (e:Ending) (w':World):Prop:=∃A k c,e= .returned (.slice A k c)∧Pk w' w.heap.size (.slice A k c) k ls∧Below w.heap.size w w'
def part (xs:List UInt8) (j x:Nat):List UInt8:=(piece xs j).take x++zeros (64-x)
theorem part_length(xs:List UInt8)(j x:Nat)(h:x≤(piece xs j).length):(part xs j x).length=64:=by
 have:=piece_length xs j;simp only[part,List.length_append,List.length_take,zeros_length];omega
theorem part_full(xs:List UInt8)(j:Nat):part xs j (piece xs j).length=sec xs j:=by
 simp[part,sec,pad]
theorem part_set(xs:List UInt8)(j x:Nat)(h:x<(piece xs j).length):(part xs j x).set x (xs.getD (64 * j+x) 0)=part xs j (x+1):=by
 have hl:=piece_length xs j;have hp:(piece xs j)[x]? =some (xs.getD (64 * j+x) 0):=by
  have h64:x<64:=by omega
  have hx:64 * j+x<xs.length:=by omega
  simp[piece,h64,List.getD_eq_getElem?_getD,hx]
 apply List.ext_getElem?;intro y;have hlt:x<64:=by omega
 rw[List.getElem?_set,part_length xs j x (by omega)];by_cases hy:x=y
 ·subst hy;rw[if_pos rfl,if_pos hlt];unfold part;rw[List.getElem?_append_left (by rw[List.length_take];omega),List.getElem?_take,if_pos (by omega),hp]
 rw[if_neg hy];unfold part zeros;by_cases hyx:y<x
 ·rw[List.getElem?_append_left (by rw[List.length_take];omega),List.getElem?_append_left (by rw[List.length_take];omega),List.getElem?_take,List.getElem?_take,if_pos hyx,if_pos (by omega)]
 rw[List.getElem?_append_right (by rw[List.length_take];omega),List.getElem?_append_right (by rw[List.length_take];omega),List.length_take,List.length_take,List.getElem?_replicate,List.getElem?_replicate];by_cases hy64:y<64
 ·rw[if_pos (by omega),if_pos (by omega)]
 rw[if_neg (by omega),if_neg (by omega)]
theorem cel_set(s:List UInt8)(x:Nat)(b:UInt8):(cel s).toArray.setIfInBounds x (byt b)=(cel (s.set x b)).toArray:=by
 simp[cel,List.map_set]
theorem range_next(xs:List UInt8)(j:Nat):(List.range j).map (sec xs)++[sec xs j]=(List.range (j+1)).map (sec xs):=by
 rw[List.range_succ,List.map_append];rfl
theorem index_at(w:World)(b off n c p:Nat)(z:Int)(hz:z=(p:Int))(h:p<n):(Instr.indexAt 39 (.slice (some ⟨b,off,none⟩) n c) (.int .i64 z)).run Tryz.prog w= .ok (.pointer (some ⟨b,off+p,none⟩)) w:=by
 subst hz;have h1:¬n≤p:=by omega
 simp[Instr.indexAt,asIntOf,run_underlying Tryz.underlying39,Result.andThen,Addr.add_mid,h1]
end Go.Proofs.YtdjhlhellkajfaaGreat.Frm
namespace Go.Proofs.YtdjhlhellkajfaaGreat.Frm
open Go.RowKit Codec FrameM Cod
theorem rpack_any(w:World)(n c:Nat)(A:Option Addr)(xs:List UInt8)(h:Byts w w.heap.size A n xs)(hn:n≤1048576):Calls Tryz.prog 111 #[.slice A n c] w (Packed w (pack xs)):=by
 have hK:need n≤16384:=by unfold need;omega
 have hL:=h.len;have HN:=hid (fun u=>rneed_any (n:Int) u (by unfold in64;omega));rw[needI_nat] at HN;have HX:=hid h;have HPL:Hid (∀j,(piece xs j).length=min 64 (n-64 * j)):=hid (fun j=>by rw[piece_length,hL]);have HPK:Hid (pack xs=(List.range (need n)).map (sec xs)):=hid (by unfold pack;rw[hL]);have HKN:Hid (∀j,j<need n→64 * j<n):=hid (fun j hj=>by unfold need at hj;omega);have hmk:∀v:World,(Instr.makeSlice 39 (.int .i64 64) (.int .i64 64)).run Tryz.prog v= .ok (.slice (some ⟨v.heap.size,0,none⟩) 64 64) (v.alloc (.cells (cel (zeros 64)).toArray 5)):=fun v=>run_make_bytes v 64 (by omega);rw[HPK.out];clear h hL HPK;generalize need n=K at *;have hn1:(n:Int)≤1048576:=by omega
 go_enter Tryz.func111,Tryz.ntmps111;go_wp2_with fail;go_loopw [3,4] (fun v i wr=>∃j:Nat,j≤K∧i= .int .i64 j∧∃A' c',v= .slice A' j c'∧Pk wr w.heap.size (.slice A' j c') j ((List.range j).map (sec xs))∧Below w.heap.size w wr) (fun _ i _=>K-(intOf i).toNat)
 case atStart=>exact⟨0,by omega,rfl,none,0,rfl,Pk.nil,Below.refl _ _⟩
 case round=>
  obtain⟨j,hj,rfl,A',c',rfl,hpk,hbel⟩:=hrel;have HP:=hid hpk;have HB:=hid hbel;clear hpk hbel;by_cases hlt:j<K
  ·obtain⟨wo,rfl⟩:∃wo:World,wo=wr:=⟨_,rfl⟩
   have hjn:=HKN.out j hlt;have hpl:=HPL.out j;have hL64:(piece xs j).length≤64∧64 * j+(piece xs j).length≤n∧((piece xs j).length=64∨((piece xs j).length<64∧n≤64 * j+(piece xs j).length)):=by omega
   have HPS:=hid (part_set xs j);have HPF:=hid (part_full xs j);have HST:Hid ((wo.alloc (.cells (cel (zeros 64)).toArray 5)).heap[wo.heap.size]? =some (.cells (cel (part xs j 0)).toArray 5 (0,0))):=hid (by
    have e:part xs j 0=zeros 64:=by simp[part]
    rw[e];exact heap_alloc_new wo _)
   have HPLN:=hid (part_length xs j);clear hpl;generalize (piece xs j).length=L at *;obtain⟨hL1,hL2,hL3⟩:=hL64;have HL3:=hid hL3;clear hL3;go_wp2_with fail;refine(HN.out _).mono ?_;rintro e w1 ⟨rfl,rfl⟩;go_wp2_with fail;clear hmk;go_loopw [6] (fun k wi=>∃x:Nat,x≤L∧k= .int .i64 x∧wi.heap[wo.heap.size]? =some (.cells (cel (part xs j x)).toArray 5 (0,0))∧Below wo.heap.size wo wi) (fun k _=>64-(intOf k).toNat)
   case atStart=>exact⟨0,Nat.zero_le _,rfl,HST.out,alloc_below wo _⟩
   case round=>
    obtain⟨x,hx,rfl,hg,hb⟩:=hrel;have HG:=hid hg;have HBI:=hid hb;clear hg hb HST;by_cases hxl:x<L
    ·obtain⟨b,off,rfl,hbw,hc⟩:=HX.out.at_ (by omega);have hcx:wr.cell? ⟨b,off+(64 * j+x),none⟩=some (byt (xs.getD (64 * j+x) 0)):=((HB.out.trans (HBI.out.mono HB.out.size)).cell (p:=⟨b,off+(64 * j+x),none⟩) hbw).trans (hc _ (by omega));have hix:∀v:World,(Instr.indexAt 39 (.slice (some ⟨b,off,none⟩) n c) (.int .i64 ((j:Int) * 64+x))).run Tryz.prog v= .ok (.pointer (some ⟨b,off+(64 * j+x),none⟩)) v:=fun v=>index_at v b off n c (64 * j+x) _ (by omega) (by omega);have hgx:wr.cell? ⟨wo.heap.size,x,none⟩=some (byt ((part xs j x).getD x 0)):=(cell_at HG.out x).trans (by rw[←cel_get _ x (by have:=HPLN.out x hx;omega)];simp);have hfx:=free_at HG.out x;have HS:=hid (HPS.out x hxl);have hlt64:(x:Int)<64:=by omega
     have hltn:(j:Int) * 64+x<n:=by omega
     unfold byt at hcx hgx;clear hc;generalize xs.getD (64 * j+x) 0=y at *;generalize (part xs j x).getD x 0=z at *;go_wp2_with fail;go_roundw
     case rel=>exact⟨x+1,by omega,by go_num,by
      have h:=set_at HG.out x (byt y);rw[cel_set,HS.out] at h;exact h,HBI.out.setCell (p:=⟨wo.heap.size,x,none⟩) (Nat.le_refl _) _⟩
     case measure=>simp[intOf];omega
    obtain rfl:x=L:=by omega
    have hsc:Sct wr w.heap.size (.slice (some ⟨wo.heap.size,0,none⟩) 64 64) (sec xs j):=⟨wo.heap.size,rfl,by
     have h:=HG.out;rwa [HPF.out] at h,HB.out.size,sec_length xs j⟩
    have HSC:=hid hsc;have HPW:=hid (HP.out.below HBI.out);have HBW:=hid (HB.out.trans (HBI.out.mono HB.out.size));have HRN:=hid (range_next xs j);clear hsc;rcases HL3.out with h64|⟨h64,hnl⟩
    ·subst h64;go_wp2_with (at_builtin;(refine wpList_app34 _ rfl (.tmp 41) (.tmp 43) rfl w.heap.size (.slice A' j c') j _ rfl (HPW.out.alloc _) (.slice (some ⟨wo.heap.size,0,none⟩) 64 64) (sec xs j) (HSC.out.keep fun g cs hg=>(Below.heap_alloc _ _ _ (lt_of_heap hg)).trans hg) ⟨wr.heap.size,0,none⟩ 1 rfl (by rw[World.cell?_alloc_mark];rfl) (by omega) (by have:=HBW.out.size;simp;omega) ?_);intro A1 c1 w2 hp2 hb2;have HP2:=hid hp2;have HB2:=hid hb2;clear hp2 hb2);go_roundw
     case rel=>exact⟨j+1,by omega,by go_num,A1,c1,rfl,by rw[←HRN.out];exact HP2.out,(HBW.out.alloc HBW.out.size _).trans HB2.out⟩
     case measure=>simp[intOf];omega
    have hx64:(x:Int)<64:=by omega
    have hnl2:(n:Int)≤(j:Int) * 64+x:=by omega
    go_wp2_with (at_builtin;(refine wpList_app34 _ rfl (.tmp 41) (.tmp 43) rfl w.heap.size (.slice A' j c') j _ rfl (HPW.out.alloc _) (.slice (some ⟨wo.heap.size,0,none⟩) 64 64) (sec xs j) (HSC.out.keep fun g cs hg=>(Below.heap_alloc _ _ _ (lt_of_heap hg)).trans hg) ⟨wr.heap.size,0,none⟩ 1 rfl (by rw[World.cell?_alloc_mark];rfl) (by omega) (by have:=HBW.out.size;simp;omega) ?_);intro A1 c1 w2 hp2 hb2;have HP2:=hid hp2;have HB2:=hid hb2;clear hp2 hb2);go_roundw
    case rel=>exact⟨j+1,by omega,by go_num,A1,c1,rfl,by rw[←HRN.out];exact HP2.out,(HBW.out.alloc HBW.out.size _).trans HB2.out⟩
    case measure=>simp[intOf];omega
  obtain rfl:j=K:=by omega
  go_wp2_with fail;refine(HN.out _).mono ?_;rintro e w1 ⟨rfl,rfl⟩;go_wp2_with fail;go_ret;exact⟨A',j,c',rfl,HP.out,HB.out⟩
end Go.Proofs.YtdjhlhellkajfaaGreat.Frm
