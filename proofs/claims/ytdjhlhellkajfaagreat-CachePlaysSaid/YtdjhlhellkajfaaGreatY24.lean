/-
  Texts JOps, JReset, JList, JLaw, KUnpack, KLUn, in one file. What each proves, and its conditions, stand at its head below.
-/
import Derived.Test.YtdjhlhellkajfaaGreatY12
import Derived.Test.YtdjhlhellkajfaaGreatY14
import Derived.Test.YtdjhlhellkajfaaGreatY23
import Derived.Deep.DeepCutAuto
set_option maxRecDepth 100000
set_option maxHeartbeats 8000000
open Go.Lib (hid)
namespace Go.Proofs.YtdjhlhellkajfaaGreat.Jou
open Go.RowKit Codec FrameM Cod JourM
open Disk (Turn Dk Dsk ptr Now)
open Frm (Above U8)
def whyJ (dn:Bool) (ls:List (List UInt8)):Int:=if dn then 3 else if anyLong ls then 1 else 0
theorem anyLong_no{ls:List (List UInt8)}(h:∀q,q<ls.length→(ls.getD q []).length≤1048576):anyLong ls=false:=by
 unfold anyLong;rw[List.any_eq_false];intro b hb;obtain⟨q,hq,rfl⟩:=List.getElem_of_mem hb;have:=h q hq;rw[Frm.getD_of hq] at this;simp;omega
theorem anyLong_yes{ls:List (List UInt8)}{q:Nat}(hq:q<ls.length)(h:1048576<(ls.getD q []).length):anyLong ls=true:=by
 unfold anyLong;rw[List.any_eq_true];exact⟨ls[q],List.getElem_mem _,by rw[Frm.getD_of hq] at h;simp;omega⟩
theorem anyLong_all{ls:List (List UInt8)}(h:anyLong ls=false):∀b∈ls,b.length≤1048576:=by
 intro b hb;unfold anyLong at h;rw[List.any_eq_false] at h;have:=h b hb;simp at this;exact this
theorem refuses_any(w:World)(lo j g gs gm:Nat)(d:Dsk)(jr:Jr)(v:Value)(n c:Nat)(A:Option Addr)(ls:List (List UInt8))(h:Jn w lo j g gs gm d jr v)(hr:RowL w A n ls)(hn:n≤1000000000000):
  Calls Tryz.prog 64 #[ptr j,.slice A n c] w (Disk.Ends (.int .i64 (whyJ jr.down ls)) w):=by
 have HM:=hid (jmade_any h);have h4:=h.c.2.2.2.2;have HR:=hid hr;have HLEN:=hid hr.len;have hn1:(n:Int)≤1000000000000:=by omega
 clear h hr;unfold ptr at *;cases hdn:jr.down with
 |true=>
  have HV:Hid (whyJ true ls=3):=hid rfl;rw[HV.out];rw[hdn] at h4;clear hdn;go_enter Tryz.func64,Tryz.ntmps64;go_wp2_with fail;refine HM.out.mono ?_;rintro e w1 ⟨rfl,rfl⟩;go_wp2;go_ret;exact⟨rfl,rfl⟩
 |false=>
  have HV:Hid (whyJ false ls=if anyLong ls then 1 else 0):=hid rfl;rw[hdn] at h4;clear hdn;generalize whyJ false ls=wy at *;go_enter Tryz.func64,Tryz.ntmps64;go_wp2_with fail;refine HM.out.mono ?_;rintro e w1 ⟨rfl,rfl⟩;go_wp2;go_loop [16] (fun i=>∃k:Nat,k≤n∧i= .int .i64 k∧∀q,q<k→(ls.getD q []).length≤1048576) (fun i=>n-(Go.RowKit.intOf i).toNat)
  case atStart=>exact⟨0,by omega,rfl,fun q hq=>absurd hq (by omega)⟩
  case round=>
   obtain⟨k,hk,rfl,hq⟩:=hrel;have HQ:=hid hq;clear hq;by_cases hlt:k<n
   ·obtain⟨b,o,Aj,cj,hat,hcell⟩:=HR.out.at hlt;have hidx:=hat c;have HKL:Hid (k<ls.length):=hid (by rw[HLEN.out];exact hlt);clear hat;by_cases hl:(ls.getD k []).length≤1048576
    ·have HL:=hid hl;have hl2:((ls.getD k []).length:Int)≤1048576:=by omega
     clear hl;obtain⟨lx,hlx⟩:∃lx,(ls.getD k []).length=lx:=⟨_,rfl⟩
     rw[hlx] at hcell hl2;clear hlx;go_wp2;go_round
     case rel=>
      refine⟨k+1,by omega,by go_num,fun q hq=> ?_⟩;by_cases he:q=k
      ·subst he;exact HL.out
      exact HQ.out q (by omega)
     case measure=>simp[Go.RowKit.intOf];omega
    have HWY:Hid (wy=1):=hid (by rw[HV.out,anyLong_yes HKL.out (by omega)];rfl);have hl2:(1048576:Int)<((ls.getD k []).length:Int):=by omega
    clear hl;generalize (ls.getD k []).length=lx at *;go_wp2;go_ret;rw[HWY.out];exact⟨rfl,rfl⟩
   obtain rfl:k=n:=by omega
   have HWY:Hid (wy=0):=hid (by rw[HV.out,anyLong_no (fun q hq=>HQ.out q (by rw[←HLEN.out];exact hq))];rfl);go_wp2;go_ret;rw[HWY.out];exact⟨rfl,rfl⟩
def Fell (w:World) (lo j g gs gm:Nat) (d:Dsk) (jr:Jr) (v:Value) (e:Ending) (w':World):Prop:=e= .returned (.int .i64 3)∧Jn w' lo j g gs gm d {jr with down:=true} v∧Turn [j] w w'
theorem fall_any(w:World)(lo j g gs gm:Nat)(d:Dsk)(jr:Jr)(v:Value)(h:Jn w lo j g gs gm d jr v):Calls Tryz.prog 66 #[ptr j] w (Fell w lo j g gs gm d jr v):=by
 have HJ:=hid h;have h4:=h.c.2.2.2.2;have f4:w.frozen? ⟨j,4,none⟩=false:=free_at h.hd 4;clear h;unfold ptr;go_enter Tryz.func66,Tryz.ntmps66;go_wp2;go_ret;have ht:Turn [j] w (w.setCell ⟨j,4,none⟩ (.bool true)):=(Turn.refl [j] w).setCell (.inl (by simp)) _;have hj:=HJ.out;have hap:=hj.apart;have hjl:=hj.lows j (by simp);simp only[List.mem_cons,List.not_mem_nil,or_false,not_or] at hap;obtain⟨its,o1,o2,o3⟩:=hj.own;refine⟨rfl,⟨hj.disk.turn ht (by simp;omega) (by simp;omega) (by simp;omega),set_at hj.hd 4 _,⟨its,own_same o1 fun r hr=> ?_,o2,fun x hx=>(o3 x hx).turn ht fun k hk=> .inl (by simp at hk;omega)⟩,hj.lows,Nat.le_trans hj.le ht.size,hj.n8,hj.one,hj.big,hj.fit⟩,ht⟩;obtain⟨hlo,cur,hc⟩:=own_type o1 hr;exact ht.block r (lt_of_heap hc) (by simp;omega)
def Appended (w:World) (lo j g gs gm:Nat) (v:Value) (z:Int) (d':Dsk) (jr':Jr) (e:Ending) (w':World):Prop:=
 e= .returned (.int .i64 z)∧∃v',Jn w' lo j g gs gm d' jr' v'∧Turn ([j,g,gs,gm]++v.ownBlock.toList) w w'∧∀r,v'.ownBlock=some r→v.ownBlock=some r∨w.heap.size≤r
theorem app_parts(d:Dsk)(jr:Jr)(b:List UInt8):(jr.down=true∧appE d jr b=3∧appD d jr b=d∧appJ d jr b=jr)∨(jr.down=false∧1048576<b.length∧appE d jr b=1∧appD d jr b=d∧appJ d jr b=jr)∨
  (jr.down=false∧b.length≤1048576∧room d.n<takes1 b+takes jr.gs∧appE d jr b=2∧appD d jr b=d∧appJ d jr b=jr)∨
  (jr.down=false∧b.length≤1048576∧takes1 b+takes jr.gs≤room d.n∧extB d jr.gen (takes jr.gs) jr.gs.length b=false∧appE d jr b=3∧appD d jr b=extD d jr.gen (takes jr.gs) jr.gs.length b∧appJ d jr b={jr with down:=true})∨
  (jr.down=false∧b.length≤1048576∧takes1 b+takes jr.gs≤room d.n∧extB d jr.gen (takes jr.gs) jr.gs.length b=true∧appE d jr b=0∧appD d jr b=extD d jr.gen (takes jr.gs) jr.gs.length b∧appJ d jr b={jr with gs:=jr.gs++[b]}):=by
 unfold appE appD appJ appDo;cases hd:jr.down with
 |true=>simp
 |false=>
  by_cases h1:1048576<b.length
  ·have:¬b.length≤1048576:=by omega
   simp[h1,this]
  have h1':b.length≤1048576:=by omega
  by_cases h2:room d.n<takes1 b+takes jr.gs
  ·have:¬takes1 b+takes jr.gs≤room d.n:=by omega
   simp[h1,h1',h2,this]
  have h2':takes1 b+takes jr.gs≤room d.n:=by omega
  cases h3:extB d jr.gen (takes jr.gs) jr.gs.length b<;>simp[h1,h1',h2,h2']
theorem append_any(w:World)(lo j g gs gm:Nat)(d:Dsk)(jr:Jr)(v:Value)(m c:Nat)(A:Option Addr)(b:List UInt8)(h:Jn w lo j g gs gm d jr v)(hb:Bts w [j,g,gs,gm] A m b)(hmc:m≤c)(hcm:c≤maxLen):
  Calls Tryz.prog 15 #[ptr j,.slice A m c] w (Appended w lo j g gs gm v (appE d jr b) (appD d jr b) (appJ d jr b)):=by
 have HJ:=hid h;have HB:=hid hb;have HLB:=hid hb.len;have HMC:=hid (And.intro hmc hcm);rcases app_parts d jr b with⟨hdn,hz,hD,hJ⟩|⟨hdn,hl,hz,hD,hJ⟩|⟨hdn,hl,hfit,hz,hD,hJ⟩|⟨hdn,hl,hfit,hex,hz,hD,hJ⟩|⟨hdn,hl,hfit,hex,hz,hD,hJ⟩
 ·rw[hz,hD,hJ];have HV:Hid (whyJ true [b]=3):=hid rfl;have HW1:=hid (Frm.alloc_below w (.cells #[.slice A m c] 39));have HJ1:=hid (HJ.out.below HW1.out);have HRF:=hid (refuses_any _ lo j g gs gm d jr v 1 1 _ [b] HJ1.out (rowl_one w A c b m HLB.out) (by omega));rw[hdn] at HRF;rw[HV.out] at HRF;clear h hb hdn hz hD hJ HV;unfold ptr at *;go_enter Tryz.func15,Tryz.ntmps15;go_wp2_with fail;refine HRF.out.mono ?_;rintro e w1 ⟨rfl,rfl⟩;go_wp2_with fail;go_ret;exact⟨rfl,v,HJ1.out,(Turn.ofBelow (S:=[j,g,gs,gm]++v.ownBlock.toList) HW1.out),fun _ hr=> .inl hr⟩
 ·rw[hz,hD,hJ];have HV:Hid (whyJ false [b]=1):=hid (by unfold whyJ anyLong;simp[hl]);have HW1:=hid (Frm.alloc_below w (.cells #[.slice A m c] 39));have HJ1:=hid (HJ.out.below HW1.out);have HRF:=hid (refuses_any _ lo j g gs gm d jr v 1 1 _ [b] HJ1.out (rowl_one w A c b m HLB.out) (by omega));rw[hdn] at HRF;rw[HV.out] at HRF;clear h hb hdn hl hz hD hJ HV;unfold ptr at *;go_enter Tryz.func15,Tryz.ntmps15;go_wp2_with fail;refine HRF.out.mono ?_;rintro e w1 ⟨rfl,rfl⟩;go_wp2_with fail;go_ret;exact⟨rfl,v,HJ1.out,(Turn.ofBelow (S:=[j,g,gs,gm]++v.ownBlock.toList) HW1.out),fun _ hr=> .inl hr⟩
 ·rw[hz,hD,hJ];have HV:Hid (whyJ false [b]=0):=hid (by unfold whyJ anyLong;simp;omega);have HW1:=hid (Frm.alloc_below w (.cells #[.slice A m c] 39));have HJ1:=hid (HJ.out.below HW1.out);have HRF:=hid (refuses_any _ lo j g gs gm d jr v 1 1 _ [b] HJ1.out (rowl_one w A c b m HLB.out) (by omega));rw[hdn] at HRF;rw[HV.out] at HRF;have HDN:=hid hdn;have hcc:=HJ1.out.c;have hr16:=HJ.out.room16;rw[hdn] at hcc;have HLK:=hid (HJ1.out.len);obtain⟨c0,c1,c2,c3,c4⟩:=hcc;have HOB:Hid ((w.alloc (.cells #[.slice A m c] 39)).heap[j]? =some (.cells #[.pointer (some ⟨g,0,none⟩),.int .i64 jr.gen,v,.int .i64 (takes jr.gs),.bool false] 109 (0,0))):=hid (by have:=HJ1.out.hd;rw[hdn] at this;exact this);have HRM:=hid (fun u hu=>jroom_any (w:=u) (lo:=lo) (j:=j) (g:=g) (gs:=gs) (gm:=gm) (d:=d) (jr:=jr) (v:=v) hu);have HTO:=hid (takes_one b);have hnd:takes1 b≤16385:=by unfold takes1 need;omega
  have HTB:=hid hnd;have htb:(takes1 b:Int)≤16385:=by omega
  have htg:(takes jr.gs:Int)≤65536:=by omega
  have hrm2:(room d.n:Int)≤65536:=by omega
  have HF2:=hid hfit;clear c0 c1 c2 c3 c4 hr16 hnd h hb hdn hz hD hJ HV hl hfit;generalize hu0:takes jr.gs=u0 at *;generalize hgen:jr.gen=gen at *;generalize hR:room d.n=R at *;generalize takes1 b=tb at *;clear hu0 hgen hR;unfold ptr at *;go_enter Tryz.func15,Tryz.ntmps15;go_wp2_with fail;refine HRF.out.mono ?_;rintro e w1 ⟨rfl,rfl⟩;go_wp2_with fail;have HJ1:=hid HJ1.out.drew;have HOB:Hid (((w.alloc (.cells #[.slice A m c] 39)).drew).heap[j]? =some (.cells #[.pointer (some ⟨g,0,none⟩),.int .i64 gen,v,.int .i64 u0,.bool false] 109 (0,0))):=hid HOB.out;have HW1:=hid HW1.out.drew;refine Frm.wh_start (fun w'=>w'.heap[j]? =some (.cells #[.pointer (some ⟨g,0,none⟩),.int .i64 gen,v,.int .i64 u0,.bool false] 109 (0,0))) (by kernel_rfl) ?_;generalize (w.alloc (.cells #[.slice A m c] 39)).drew=w2 at *;refine Frm.wa 0 13 (.slice A m c) HOB.out ?_;go_frame;refine Frm.wa 3 16 (.pointer (some ⟨j,0,none⟩)) HOB.out ?_;go_frame;refine Frm.wa 5 18 (.pointer (some ⟨j,0,none⟩)) HOB.out ?_;go_frame;refine Frm.wb 6 19 (.pointer (some ⟨j,0,none⟩)) HOB.out ?_;go_frame;refine Frm.wb 7 20 (.pointer (some ⟨j,3,none⟩)) HOB.out ?_;go_frame;refine Frm.wd 8 21 (.int .i64 u0) HOB.out (fun w' hw'=> ?_) ?_
  ·have q3:w'.cell? ⟨j,3,none⟩=some (.int .i64 u0):=cell_at hw' 3;go_simp
  go_frame;have hba:=Frm.alloc_below w2 (.cells #[.slice A m c] 39);have HTK:=hid (takes_any _ 1 1 _ [b] (rowl_one w2 A c b m HLB.out) (by rw[HTO.out];have:=HTB.out;omega));rw[HTO.out] at HTK;have HOB3:=hid ((hba.block j (lt_of_heap HOB.out)).trans HOB.out);refine Frm.wh_run 1 14 (.slice (some ⟨w2.heap.size,0,none⟩) 1 1) (w2.alloc (.cells #[.slice A m c] 39)) rfl rfl (by kernel_rfl) rfl ?_ HOB3.out ?_
  ·go_simp
  go_frame;have HJ3:=hid (HJ1.out.below hba);have HW3:=hid (HW1.out.trans (hba.mono HW1.out.size));clear hba;generalize w2.alloc (.cells #[.slice A m c] 39)=w3 at *;refine Frm.wh_call 2 15 51 #[.slice (some ⟨w2.heap.size,0,none⟩) 1 1] rfl rfl (by kernel_rfl) rfl ?_ ?_
  ·go_simp
  refine(HTK.out).mono ?_;rintro e w4 ⟨rfl,rfl⟩;refine⟨_,rfl,HOB3.out,?_⟩;go_frame;have HRC:=hid (HRM.out _ HJ3.out);refine Frm.wh_call 4 17 29 #[.pointer (some ⟨j,0,none⟩)] rfl rfl (by kernel_rfl) rfl ?_ ?_
  ·go_simp
  refine(HRC.out).mono ?_;rintro e w5 ⟨rfl,hb5⟩;have HOB5:=hid ((hb5.block j (lt_of_heap HOB3.out)).trans HOB3.out);have HJ5:=hid (HJ3.out.below hb5);have HW5:=hid (HW3.out.trans (hb5.mono HW3.out.size));clear hb5;refine⟨_,rfl,HOB5.out,?_⟩;go_frame;have hw1:IntKind.i64.wrap ((R:Int)-(u0:Int))=(R:Int)-(u0:Int):=IntWalk.i64_in _ (by omega);refine Frm.wb 9 22 (.int .i64 ((R:Int)-(u0:Int))) HOB5.out ?_;go_frame;refine Frm.wd 10 23 (.bool true) HOB5.out (fun w' hw'=> ?_) ?_
  ·have hf:=HF2.out;go_simp;all_goals omega
  go_frame;refine wpAnyH_done (by kernel_rfl) ?_ _;clear hw1;go_wp2_with fail;go_ret;exact⟨rfl,v,HJ5.out,(Turn.ofBelow (S:=[j,g,gs,gm]++v.ownBlock.toList) HW5.out),fun _ hr=> .inl hr⟩
 ·rw[hz,hD,hJ];have HV:Hid (whyJ false [b]=0):=hid (by unfold whyJ anyLong;simp;omega);obtain⟨Av,cv,hv,_⟩:=h.len;have HFIT:Hid (takes jr.gs+takes1 b≤room d.n):=hid (by omega);subst hv;have hml:=hb.len;have HXT:=hid (fun u hu hby=>extend_any u g gs gm d jr.gen (takes jr.gs) jr.gs.length m c A b hu (by have:=h.n8;omega) (by have:=h.big;omega) hby (by omega) hmc (by omega));have HXN:=hid (extD_n d jr.gen (takes jr.gs) jr.gs.length b);have HMB:Hid (m≤1048576):=hid (by omega);rw[hex] at HXT;clear hex hml;generalize extD d jr.gen (takes jr.gs) jr.gs.length b=XD at *;have hgl:(jr.gs.length:Int)≤65536:=by have:=takes_length jr.gs;have:=HJ.out.room16.2;omega
  have HW1:=hid (Frm.alloc_below w (.cells #[.slice A m c] 39));have HJ1:=hid (HJ.out.below HW1.out);have HRF:=hid (refuses_any _ lo j g gs gm d jr (.slice Av jr.gs.length cv) 1 1 _ [b] HJ1.out (rowl_one w A c b m HLB.out) (by omega));rw[hdn] at HRF;rw[HV.out] at HRF;have HDN:=hid hdn;have hcc:=HJ1.out.c;have hr16:=HJ.out.room16;rw[hdn] at hcc;have HLK:=hid (HJ1.out.len);obtain⟨c0,c1,c2,c3,c4⟩:=hcc;have HOB:Hid ((w.alloc (.cells #[.slice A m c] 39)).heap[j]? =some (.cells #[.pointer (some ⟨g,0,none⟩),.int .i64 jr.gen,.slice Av jr.gs.length cv,.int .i64 (takes jr.gs),.bool false] 109 (0,0))):=hid (by have:=HJ1.out.hd;rw[hdn] at this;exact this);have HRM:=hid (fun u hu=>jroom_any (w:=u) (lo:=lo) (j:=j) (g:=g) (gs:=gs) (gm:=gm) (d:=d) (jr:=jr) (v:= .slice Av jr.gs.length cv) hu);have HTO:=hid (takes_one b);have hnd:takes1 b≤16385:=by unfold takes1 need;omega
  have HTB:=hid hnd;have htb:(takes1 b:Int)≤16385:=by omega
  have htg:(takes jr.gs:Int)≤65536:=by omega
  have hrm2:(room d.n:Int)≤65536:=by omega
  have HF2:=hid hfit;clear c0 c1 c2 c3 c4 hr16 hnd h hb hdn hz hD hJ HV hl hfit;generalize hu0:takes jr.gs=u0 at *;generalize hgen:jr.gen=gen at *;generalize hR:room d.n=R at *;generalize htb9:takes1 b=tb at *;generalize hN:jr.gs.length=N at *;have HU0:=hid hu0;have HGE:=hid hgen;have HRR:=hid hR;have HTB9:=hid htb9;clear hu0 hgen hR hN htb9;unfold hv at HXT;unfold ptr at *;go_enter Tryz.func15,Tryz.ntmps15;go_wp2_with fail;refine HRF.out.mono ?_;rintro e w1 ⟨rfl,rfl⟩;go_wp2_with fail;have HJ1:=hid HJ1.out.drew;have HOB:Hid (((w.alloc (.cells #[.slice A m c] 39)).drew).heap[j]? =some (.cells #[.pointer (some ⟨g,0,none⟩),.int .i64 gen,.slice Av N cv,.int .i64 u0,.bool false] 109 (0,0))):=hid HOB.out;have HW1:=hid HW1.out.drew;refine Frm.wh_start (fun w'=>w'.heap[j]? =some (.cells #[.pointer (some ⟨g,0,none⟩),.int .i64 gen,.slice Av N cv,.int .i64 u0,.bool false] 109 (0,0))) (by kernel_rfl) ?_;generalize (w.alloc (.cells #[.slice A m c] 39)).drew=w2 at *;refine Frm.wa 0 13 (.slice A m c) HOB.out ?_;go_frame;refine Frm.wa 3 16 (.pointer (some ⟨j,0,none⟩)) HOB.out ?_;go_frame;refine Frm.wa 5 18 (.pointer (some ⟨j,0,none⟩)) HOB.out ?_;go_frame;refine Frm.wb 6 19 (.pointer (some ⟨j,0,none⟩)) HOB.out ?_;go_frame;refine Frm.wb 7 20 (.pointer (some ⟨j,3,none⟩)) HOB.out ?_;go_frame;refine Frm.wd 8 21 (.int .i64 u0) HOB.out (fun w' hw'=> ?_) ?_
  ·have q3:w'.cell? ⟨j,3,none⟩=some (.int .i64 u0):=cell_at hw' 3;go_simp
  go_frame;have hba:=Frm.alloc_below w2 (.cells #[.slice A m c] 39);have HTK:=hid (takes_any _ 1 1 _ [b] (rowl_one w2 A c b m HLB.out) (by rw[HTO.out];have:=HTB.out;omega));rw[HTO.out] at HTK;have HOB3:=hid ((hba.block j (lt_of_heap HOB.out)).trans HOB.out);refine Frm.wh_run 1 14 (.slice (some ⟨w2.heap.size,0,none⟩) 1 1) (w2.alloc (.cells #[.slice A m c] 39)) rfl rfl (by kernel_rfl) rfl ?_ HOB3.out ?_
  ·go_simp
  go_frame;have HJ3:=hid (HJ1.out.below hba);have HW3:=hid (HW1.out.trans (hba.mono HW1.out.size));clear hba;generalize w2.alloc (.cells #[.slice A m c] 39)=w3 at *;refine Frm.wh_call 2 15 51 #[.slice (some ⟨w2.heap.size,0,none⟩) 1 1] rfl rfl (by kernel_rfl) rfl ?_ ?_
  ·go_simp
  refine(HTK.out).mono ?_;rintro e w4 ⟨rfl,rfl⟩;refine⟨_,rfl,HOB3.out,?_⟩;go_frame;have HRC:=hid (HRM.out _ HJ3.out);refine Frm.wh_call 4 17 29 #[.pointer (some ⟨j,0,none⟩)] rfl rfl (by kernel_rfl) rfl ?_ ?_
  ·go_simp
  refine(HRC.out).mono ?_;rintro e w5 ⟨rfl,hb5⟩;have HOB5:=hid ((hb5.block j (lt_of_heap HOB3.out)).trans HOB3.out);have HJ5:=hid (HJ3.out.below hb5);have HW5:=hid (HW3.out.trans (hb5.mono HW3.out.size));clear hb5;refine⟨_,rfl,HOB5.out,?_⟩;go_frame;have hw1:IntKind.i64.wrap ((R:Int)-(u0:Int))=(R:Int)-(u0:Int):=IntWalk.i64_in _ (by omega);refine Frm.wb 9 22 (.int .i64 ((R:Int)-(u0:Int))) HOB5.out ?_;go_frame;refine Frm.wd 10 23 (.bool false) HOB5.out (fun w' hw'=> ?_) ?_
  ·have hf:=HF2.out;go_simp;all_goals omega
  go_frame;refine wpAnyH_done (by kernel_rfl) ?_ _;clear hw1;go_wp2_with fail;have HJ5:=hid HJ5.out.drew;have HOB5:Hid (w5.drew.heap[j]? =some (.cells #[.pointer (some ⟨g,0,none⟩),.int .i64 gen,.slice Av N cv,.int .i64 u0,.bool false] 109 (0,0))):=hid HOB5.out;have HW5:=hid HW5.out.drew;refine Frm.wh_start (fun w'=>w'.heap[j]? =some (.cells #[.pointer (some ⟨g,0,none⟩),.int .i64 gen,.slice Av N cv,.int .i64 u0,.bool false] 109 (0,0))) (by kernel_rfl) ?_;generalize w5.drew=w6 at *;refine Frm.wa 0 24 (.pointer (some ⟨j,0,none⟩)) HOB5.out ?_;go_frame;refine Frm.wb 1 25 (.pointer (some ⟨j,0,none⟩)) HOB5.out ?_;go_frame;refine Frm.wb 2 26 (.pointer (some ⟨j,0,none⟩)) HOB5.out ?_;go_frame;refine Frm.wd 3 27 (.agg #[.pointer (some ⟨g,0,none⟩),.int .i64 gen]) HOB5.out (fun w' hw'=> ?_) ?_
  ·have q0:w'.cell? ⟨j,0,none⟩=some (.pointer (some ⟨g,0,none⟩)):=cell_at hw' 0;have q1:w'.cell? ⟨j,1,none⟩=some (.int .i64 gen):=cell_at hw' 1;go_simp
  go_frame;refine Frm.wa 4 28 (.pointer (some ⟨j,0,none⟩)) HOB5.out ?_;go_frame;refine Frm.wb 5 29 (.pointer (some ⟨j,0,none⟩)) HOB5.out ?_;go_frame;refine Frm.wb 6 30 (.pointer (some ⟨j,3,none⟩)) HOB5.out ?_;go_frame;refine Frm.wd 7 31 (.int .i64 u0) HOB5.out (fun w' hw'=> ?_) ?_
  ·have q3:w'.cell? ⟨j,3,none⟩=some (.int .i64 u0):=cell_at hw' 3;go_simp
  go_frame;refine Frm.wa 8 32 (.pointer (some ⟨j,0,none⟩)) HOB5.out ?_;go_frame;refine Frm.wb 9 33 (.pointer (some ⟨j,0,none⟩)) HOB5.out ?_;go_frame;refine Frm.wb 10 34 (.pointer (some ⟨j,2,none⟩)) HOB5.out ?_;go_frame;refine Frm.wd 11 35 (.slice Av N cv) HOB5.out (fun w' hw'=> ?_) ?_
  ·have q2:w'.cell? ⟨j,2,none⟩=some (.slice Av N cv):=cell_at hw' 2;go_simp
  go_frame;refine Frm.wb 12 36 (.int .i64 N) HOB5.out ?_;go_frame;refine Frm.wa 13 37 (.slice A m c) HOB5.out ?_;go_frame;have hbt:=HB.out.below (HW5.out);have HB6:=hid hbt;clear hbt;have HC:=hid (HXT.out w6 HJ5.out.disk HB6.out.byts);refine Frm.wh_call 14 38 65 #[.agg #[.pointer (some ⟨g,0,none⟩),.int .i64 gen],.int .i64 u0,.int .i64 N,.slice A m c] rfl rfl (by kernel_rfl) rfl ?_ ?_
  ·go_simp
  refine(HC.out).mono ?_;rintro e w7 ⟨rfl,hdk,ht⟩;have HOB7:Hid (w7.heap[j]? =some (.cells #[.pointer (some ⟨g,0,none⟩),.int .i64 gen,.slice Av N cv,.int .i64 u0,.bool false] 109 (0,0))):=hid ((ht.block j (lt_of_heap HOB5.out) HJ5.out.apart).trans HOB5.out);have HJ7:=hid (HJ5.out.disked hdk ht HXN.out);have HT7:=hid ht;have HB7:=hid (HB6.out.turn ht (fun k hk=> .inl (List.mem_cons_of_mem _ hk)));clear hdk ht HC HXT;refine⟨_,rfl,HOB7.out,?_⟩;go_frame;have he:err false=3:=rfl;rw[he];clear he;refine Frm.wb 15 39 (.bool true) HOB7.out ?_;go_frame;refine wpAnyH_done (by kernel_rfl) ?_ _;have HFL:=hid (fall_any w7 lo j g gs gm XD jr _ HJ7.out);unfold ptr at HFL;go_wp2_with fail;refine HFL.out.mono ?_;rintro e w8 ⟨rfl,hj8,ht8⟩;have H8:=hid (And.intro hj8 ht8);clear hj8 ht8;go_wp2_with fail;go_ret;rw[←HGE.out];exact⟨rfl,_,H8.out.1,((Turn.ofBelow HW5.out).trans (HT7.out.more (fun k hk=>List.mem_append_left _ (List.mem_cons_of_mem _ hk)))).trans (H8.out.2.more (fun k hk=>List.mem_append_left _ (by simp at hk;simp[hk]))),fun _ hr=> .inl hr⟩
 rw[hz,hD,hJ];have HV:Hid (whyJ false [b]=0):=hid (by unfold whyJ anyLong;simp;omega);obtain⟨Av,cv,hv,_⟩:=h.len;have HFIT:Hid (takes jr.gs+takes1 b≤room d.n):=hid (by omega);subst hv;have hml:=hb.len;have HXT:=hid (fun u hu hby=>extend_any u g gs gm d jr.gen (takes jr.gs) jr.gs.length m c A b hu (by have:=h.n8;omega) (by have:=h.big;omega) hby (by omega) hmc (by omega));have HXN:=hid (extD_n d jr.gen (takes jr.gs) jr.gs.length b);have HMB:Hid (m≤1048576):=hid (by omega);rw[hex] at HXT;clear hex hml;generalize extD d jr.gen (takes jr.gs) jr.gs.length b=XD at *;have hgl:(jr.gs.length:Int)≤65536:=by have:=takes_length jr.gs;have:=HJ.out.room16.2;omega
 have HW1:=hid (Frm.alloc_below w (.cells #[.slice A m c] 39));have HJ1:=hid (HJ.out.below HW1.out);have HRF:=hid (refuses_any _ lo j g gs gm d jr (.slice Av jr.gs.length cv) 1 1 _ [b] HJ1.out (rowl_one w A c b m HLB.out) (by omega));rw[hdn] at HRF;rw[HV.out] at HRF;have HDN:=hid hdn;have hcc:=HJ1.out.c;have hr16:=HJ.out.room16;rw[hdn] at hcc;have HLK:=hid (HJ1.out.len);obtain⟨c0,c1,c2,c3,c4⟩:=hcc;have HOB:Hid ((w.alloc (.cells #[.slice A m c] 39)).heap[j]? =some (.cells #[.pointer (some ⟨g,0,none⟩),.int .i64 jr.gen,.slice Av jr.gs.length cv,.int .i64 (takes jr.gs),.bool false] 109 (0,0))):=hid (by have:=HJ1.out.hd;rw[hdn] at this;exact this);have HRM:=hid (fun u hu=>jroom_any (w:=u) (lo:=lo) (j:=j) (g:=g) (gs:=gs) (gm:=gm) (d:=d) (jr:=jr) (v:= .slice Av jr.gs.length cv) hu);have HTO:=hid (takes_one b);have hnd:takes1 b≤16385:=by unfold takes1 need;omega
 have HTB:=hid hnd;have htb:(takes1 b:Int)≤16385:=by omega
 have htg:(takes jr.gs:Int)≤65536:=by omega
 have hrm2:(room d.n:Int)≤65536:=by omega
 have HF2:=hid hfit;clear c0 c1 c2 c3 c4 hr16 hnd h hb hdn hz hD hJ HV hl hfit;generalize hu0:takes jr.gs=u0 at *;generalize hgen:jr.gen=gen at *;generalize hR:room d.n=R at *;generalize htb9:takes1 b=tb at *;generalize hN:jr.gs.length=N at *;have HU0:=hid hu0;have HGE:=hid hgen;have HRR:=hid hR;have HTB9:=hid htb9;clear hu0 hgen hR hN htb9;unfold hv at HXT;unfold ptr at *;go_enter Tryz.func15,Tryz.ntmps15;go_wp2_with fail;refine HRF.out.mono ?_;rintro e w1 ⟨rfl,rfl⟩;go_wp2_with fail;have HJ1:=hid HJ1.out.drew;have HOB:Hid (((w.alloc (.cells #[.slice A m c] 39)).drew).heap[j]? =some (.cells #[.pointer (some ⟨g,0,none⟩),.int .i64 gen,.slice Av N cv,.int .i64 u0,.bool false] 109 (0,0))):=hid HOB.out;have HW1:=hid HW1.out.drew;refine Frm.wh_start (fun w'=>w'.heap[j]? =some (.cells #[.pointer (some ⟨g,0,none⟩),.int .i64 gen,.slice Av N cv,.int .i64 u0,.bool false] 109 (0,0))) (by kernel_rfl) ?_;generalize (w.alloc (.cells #[.slice A m c] 39)).drew=w2 at *;refine Frm.wa 0 13 (.slice A m c) HOB.out ?_;go_frame;refine Frm.wa 3 16 (.pointer (some ⟨j,0,none⟩)) HOB.out ?_;go_frame;refine Frm.wa 5 18 (.pointer (some ⟨j,0,none⟩)) HOB.out ?_;go_frame;refine Frm.wb 6 19 (.pointer (some ⟨j,0,none⟩)) HOB.out ?_;go_frame;refine Frm.wb 7 20 (.pointer (some ⟨j,3,none⟩)) HOB.out ?_;go_frame;refine Frm.wd 8 21 (.int .i64 u0) HOB.out (fun w' hw'=> ?_) ?_
 ·have q3:w'.cell? ⟨j,3,none⟩=some (.int .i64 u0):=cell_at hw' 3;go_simp
 go_frame;have hba:=Frm.alloc_below w2 (.cells #[.slice A m c] 39);have HTK:=hid (takes_any _ 1 1 _ [b] (rowl_one w2 A c b m HLB.out) (by rw[HTO.out];have:=HTB.out;omega));rw[HTO.out] at HTK;have HOB3:=hid ((hba.block j (lt_of_heap HOB.out)).trans HOB.out);refine Frm.wh_run 1 14 (.slice (some ⟨w2.heap.size,0,none⟩) 1 1) (w2.alloc (.cells #[.slice A m c] 39)) rfl rfl (by kernel_rfl) rfl ?_ HOB3.out ?_
 ·go_simp
 go_frame;have HJ3:=hid (HJ1.out.below hba);have HW3:=hid (HW1.out.trans (hba.mono HW1.out.size));clear hba;generalize w2.alloc (.cells #[.slice A m c] 39)=w3 at *;refine Frm.wh_call 2 15 51 #[.slice (some ⟨w2.heap.size,0,none⟩) 1 1] rfl rfl (by kernel_rfl) rfl ?_ ?_
 ·go_simp
 refine(HTK.out).mono ?_;rintro e w4 ⟨rfl,rfl⟩;refine⟨_,rfl,HOB3.out,?_⟩;go_frame;have HRC:=hid (HRM.out _ HJ3.out);refine Frm.wh_call 4 17 29 #[.pointer (some ⟨j,0,none⟩)] rfl rfl (by kernel_rfl) rfl ?_ ?_
 ·go_simp
 refine(HRC.out).mono ?_;rintro e w5 ⟨rfl,hb5⟩;have HOB5:=hid ((hb5.block j (lt_of_heap HOB3.out)).trans HOB3.out);have HJ5:=hid (HJ3.out.below hb5);have HW5:=hid (HW3.out.trans (hb5.mono HW3.out.size));clear hb5;refine⟨_,rfl,HOB5.out,?_⟩;go_frame;have hw1:IntKind.i64.wrap ((R:Int)-(u0:Int))=(R:Int)-(u0:Int):=IntWalk.i64_in _ (by omega);refine Frm.wb 9 22 (.int .i64 ((R:Int)-(u0:Int))) HOB5.out ?_;go_frame;refine Frm.wd 10 23 (.bool false) HOB5.out (fun w' hw'=> ?_) ?_
 ·have hf:=HF2.out;go_simp;all_goals omega
 go_frame;refine wpAnyH_done (by kernel_rfl) ?_ _;clear hw1;go_wp2_with fail;have HJ5:=hid HJ5.out.drew;have HOB5:Hid (w5.drew.heap[j]? =some (.cells #[.pointer (some ⟨g,0,none⟩),.int .i64 gen,.slice Av N cv,.int .i64 u0,.bool false] 109 (0,0))):=hid HOB5.out;have HW5:=hid HW5.out.drew;refine Frm.wh_start (fun w'=>w'.heap[j]? =some (.cells #[.pointer (some ⟨g,0,none⟩),.int .i64 gen,.slice Av N cv,.int .i64 u0,.bool false] 109 (0,0))) (by kernel_rfl) ?_;generalize w5.drew=w6 at *;refine Frm.wa 0 24 (.pointer (some ⟨j,0,none⟩)) HOB5.out ?_;go_frame;refine Frm.wb 1 25 (.pointer (some ⟨j,0,none⟩)) HOB5.out ?_;go_frame;refine Frm.wb 2 26 (.pointer (some ⟨j,0,none⟩)) HOB5.out ?_;go_frame;refine Frm.wd 3 27 (.agg #[.pointer (some ⟨g,0,none⟩),.int .i64 gen]) HOB5.out (fun w' hw'=> ?_) ?_
 ·have q0:w'.cell? ⟨j,0,none⟩=some (.pointer (some ⟨g,0,none⟩)):=cell_at hw' 0;have q1:w'.cell? ⟨j,1,none⟩=some (.int .i64 gen):=cell_at hw' 1;go_simp
 go_frame;refine Frm.wa 4 28 (.pointer (some ⟨j,0,none⟩)) HOB5.out ?_;go_frame;refine Frm.wb 5 29 (.pointer (some ⟨j,0,none⟩)) HOB5.out ?_;go_frame;refine Frm.wb 6 30 (.pointer (some ⟨j,3,none⟩)) HOB5.out ?_;go_frame;refine Frm.wd 7 31 (.int .i64 u0) HOB5.out (fun w' hw'=> ?_) ?_
 ·have q3:w'.cell? ⟨j,3,none⟩=some (.int .i64 u0):=cell_at hw' 3;go_simp
 go_frame;refine Frm.wa 8 32 (.pointer (some ⟨j,0,none⟩)) HOB5.out ?_;go_frame;refine Frm.wb 9 33 (.pointer (some ⟨j,0,none⟩)) HOB5.out ?_;go_frame;refine Frm.wb 10 34 (.pointer (some ⟨j,2,none⟩)) HOB5.out ?_;go_frame;refine Frm.wd 11 35 (.slice Av N cv) HOB5.out (fun w' hw'=> ?_) ?_
 ·have q2:w'.cell? ⟨j,2,none⟩=some (.slice Av N cv):=cell_at hw' 2;go_simp
 go_frame;refine Frm.wb 12 36 (.int .i64 N) HOB5.out ?_;go_frame;refine Frm.wa 13 37 (.slice A m c) HOB5.out ?_;go_frame;have hbt:=HB.out.below (HW5.out);have HB6:=hid hbt;clear hbt;have HC:=hid (HXT.out w6 HJ5.out.disk HB6.out.byts);refine Frm.wh_call 14 38 65 #[.agg #[.pointer (some ⟨g,0,none⟩),.int .i64 gen],.int .i64 u0,.int .i64 N,.slice A m c] rfl rfl (by kernel_rfl) rfl ?_ ?_
 ·go_simp
 refine(HC.out).mono ?_;rintro e w7 ⟨rfl,hdk,ht⟩;have HOB7:Hid (w7.heap[j]? =some (.cells #[.pointer (some ⟨g,0,none⟩),.int .i64 gen,.slice Av N cv,.int .i64 u0,.bool false] 109 (0,0))):=hid ((ht.block j (lt_of_heap HOB5.out) HJ5.out.apart).trans HOB5.out);have HJ7:=hid (HJ5.out.disked hdk ht HXN.out);have HT7:=hid ht;have HB7:=hid (HB6.out.turn ht (fun k hk=> .inl (List.mem_cons_of_mem _ hk)));clear hdk ht HC HXT;refine⟨_,rfl,HOB7.out,?_⟩;go_frame;have he:err true=0:=rfl;rw[he];clear he;refine Frm.wb 15 39 (.bool false) HOB7.out ?_;go_frame;refine wpAnyH_done (by kernel_rfl) ?_ _;have HCL:=hid (Cod.clone_any w7 w7.heap.size m c A b HB7.out.byts (Nat.le_refl _) (by have:=HMB.out;omega));go_wp2_with fail;refine HCL.out.mono ?_;rintro e w8 ⟨A8,c8,rfl,ho8,hb8⟩;have HX8:Hid (It.ok w8 lo ⟨A8,m,c8,b⟩):=hid (by
  obtain⟨A',c',e',h1,h2⟩:=ho8.form;injection e' with _ _ e3;subst e3;exact⟨ho8.byts,h1,h2,(Frm.own_above ho8).mono HJ7.out.le,Frm.own_u8 ho8⟩)
 have HJ8:=hid (HJ7.out.below hb8);have HB8:=hid hb8;clear ho8 hb8;have HAD:=hid (add_any w8 lo j g gs gm XD jr _ ⟨A8,m,c8,b⟩ HJ8.out HX8.out (by rw[HXN.out,HU0.out,HRR.out];show u0+takes1 b≤R;rw[HTB9.out];exact HFIT.out));unfold ptr It.val at HAD;dsimp only at HAD;go_wp2_with fail;refine HAD.out.mono ?_;rintro e w9 ⟨rfl,v9,hj9,ht9,hv9⟩;have H9:=hid (And.intro hj9 (And.intro ht9 hv9));clear hj9 ht9 hv9;go_wp2_with fail;go_ret;rw[←HGE.out];refine⟨rfl,v9,H9.out.1,(((Turn.ofBelow HW5.out).trans (HT7.out.more (fun k hk=>List.mem_append_left _ (List.mem_cons_of_mem _ hk)))).trans (Turn.ofBelow HB8.out)).trans (H9.out.2.1.more (fun k hk=> ?_)),?_⟩
 ·rcases List.mem_cons.1 hk with rfl|hk
  ·simp
  exact List.mem_append_right _ hk
 intro q hq;rcases H9.out.2.2 with e|⟨r,e,hr⟩
 ·exact .inl (by rw[←e];exact hq)
 rw[e] at hq;cases hq
 exact .inr (by have:=HW5.out.size;have:=HT7.out.size;have:=HB8.out.size;omega)
end Go.Proofs.YtdjhlhellkajfaaGreat.Jou
namespace Go.Proofs.YtdjhlhellkajfaaGreat.Jou
open Go.RowKit Codec FrameM Cod JourM
open Disk (Turn Dk Dsk ptr Now)
open Frm (Above U8)
theorem rst_parts(d:Dsk)(jr:Jr)(ls:List (List UInt8)):(jr.down=true∧rstE d jr ls=3∧rstD d jr ls=d∧rstJ d jr ls=jr)∨(jr.down=false∧anyLong ls=true∧rstE d jr ls=1∧rstD d jr ls=d∧rstJ d jr ls=jr)∨
  (jr.down=false∧anyLong ls=false∧room d.n<takes ls∧rstE d jr ls=2∧rstD d jr ls=d∧rstJ d jr ls=jr)∨
  (jr.down=false∧anyLong ls=false∧takes ls≤room d.n∧beginB d (jr.gen+1) ls=false∧rstE d jr ls=3∧rstD d jr ls=beginD d (jr.gen+1) ls∧rstJ d jr ls={jr with down:=true})∨
  (jr.down=false∧anyLong ls=false∧takes ls≤room d.n∧beginB d (jr.gen+1) ls=true∧rstE d jr ls=0∧rstD d jr ls=beginD d (jr.gen+1) ls∧rstJ d jr ls=⟨jr.gen+1,ls,false⟩):=by
 unfold rstE rstD rstJ rstDo;cases hd:jr.down with
 |true=>simp
 |false=>
  cases h1:anyLong ls with
  |true=>simp
  |false=>
   by_cases h2:room d.n<takes ls
   ·have:¬takes ls≤room d.n:=by omega
    simp[h2,this]
   have h2':takes ls≤room d.n:=by omega
   cases h3:beginB d (jr.gen+1) ls<;>simp[h2,h2']
theorem takes_le(ls:List (List UInt8))(h:∀b∈ls,b.length≤1048576):takes ls≤16385 * ls.length:=by
 induction ls with
 |nil=>simp[takes]
 |cons b l ih=>
  have h1:=h b (by simp);have h2:=ih (fun x hx=>h x (by simp[hx]));simp only[takes,takes1,need,List.length_cons];omega
structure RI (w u:World) (lo j g gs gm:Nat) (d:Dsk) (gen n:Nat) (A:Option Addr) (ls:List (List UInt8)) (k:Nat) (v:Value):Prop where
 jn:Jn u lo j g gs gm d ⟨gen,ls.take k,false⟩ v
 fr:Turn [j,g,gs,gm] w u
 rows:RowsB u ([j,g,gs,gm]++v.ownBlock.toList) A n ls
 fresh:∀r,v.ownBlock=some r→w.heap.size≤r
theorem RI.step{w u u' u2:World}{lo j g gs gm gen n k:Nat}{d:Dsk}{A:Option Addr}{ls:List (List UInt8)}{v v':Value}(h:RI w u lo j g gs gm d gen n A ls k v)(hb:Below u.heap.size u u')(hjn:Jn u2 lo j g gs gm d ⟨gen,ls.take (k+1),false⟩ v')
  (ht:Turn (j::v.ownBlock.toList) u' u2) (hv:v'.ownBlock=v.ownBlock∨∃r,v'.ownBlock=some r∧u'.heap.size≤r):RI w u2 lo j g gs gm d gen n A ls (k+1) v':=by
 have hfr:∀r,v'.ownBlock=some r→w.heap.size≤r:=fun r hr=>by
  rcases hv with e|⟨q,e,hq⟩
  ·exact h.fresh r (by rw[←e];exact hr)
  rw[e] at hr;cases hr
  have:=h.fr.size;have:=hb.size;omega
 refine⟨hjn,(h.fr.below hb).then_ ht fun k hk=> ?_,?_,hfr⟩
 ·rcases List.mem_cons.1 hk with rfl|hk
  ·exact .inl (by simp)
  exact .inr (h.fresh k (by simpa using hk))
 have r1:=h.rows.below hb;have r2:RowsB u' (([j,g,gs,gm]++v.ownBlock.toList)++([j,g,gs,gm]++v'.ownBlock.toList)) A n ls:=r1.sub fun k hk=>by
  rcases List.mem_append.1 hk with hk|hk
  ·exact .inl hk
  rcases List.mem_append.1 hk with hk|hk
  ·exact .inl (List.mem_append_left _ hk)
  rcases hv with e|⟨q,e,hq⟩
  ·exact .inl (List.mem_append_right _ (by rw[←e];exact hk))
  rw[e] at hk;simp at hk;subst hk;exact .inr hq
 have r3:=r2.turn ht fun k hk=> .inl (List.mem_append_left _ (by
  rcases List.mem_cons.1 hk with rfl|hk
  ·simp
  ·exact List.mem_append_right _ hk))
 exact r3.sub fun k hk=> .inl (List.mem_append_right _ hk)
theorem take_getD(ls:List (List UInt8))(k:Nat)(h:k<ls.length):ls.take (k+1)=ls.take k++[ls.getD k []]:=by
 rw[List.take_succ_eq_append_getElem h];simp[List.getD_eq_getElem?_getD,h]
theorem Jn.aside{w w':World}{lo j g gs gm k:Nat}{d:Dsk}{jr:Jr}{v:Value}{cs:Array Value}{T:TypeId}(h:Jn w lo j g gs gm d jr v)(ht:Turn [k] w w')(hk:w.heap[k]? =some (.cells cs T (0,0)))(hT:T≠5∧T≠39)(hj:j<k)(hl:lo≤k):Jn w' lo j g gs gm d jr v:=by
 have l1:=h.lows g (by simp);have l2:=h.lows gs (by simp);have l3:=h.lows gm (by simp);obtain⟨its,o1,o2,o3⟩:=h.own;refine⟨h.disk.turn ht (by simp;omega) (by simp;omega) (by simp;omega),(ht.block j (lt_of_heap h.hd) (by simp;omega)).trans h.hd,⟨its,own_same o1 fun r hr=> ?_,o2,fun x hx=>(o3 x hx).turn ht fun q hq=> ?_⟩,h.lows,Nat.le_trans h.le ht.size,h.n8,h.one,h.big,h.fit⟩
 ·obtain⟨_,cur,hc⟩:=own_type o1 hr;refine ht.block r (lt_of_heap hc) fun hm=> ?_;simp at hm;subst hm;rw[hc] at hk;injection hk with hk;injection hk with _ e;exact hT.2 e.symm
 simp at hq;subst hq;exact .inr (.inr ⟨cs,T,hk,hT.1⟩)
theorem Jn.anew{w w':World}{lo j g gs gm gen:Nat}{d:Dsk}{jr:Jr}{v:Value}(h:Jn w lo j g gs gm d jr v)(ht:Turn [j] w w')(hs:w'.heap[j]? =some (.cells #[.pointer (some ⟨g,0,none⟩),.int .i64 ((gen:Int)+1),.slice none 0 0,.int .i64 0,.bool false] 109 (0,0)))(hg:gen+1<9223372036854775807):Jn w' lo j g gs gm d ⟨gen+1,[],false⟩ (.slice none 0 0):=by
 have hap:=h.apart;simp only[List.mem_cons,List.not_mem_nil,or_false,not_or] at hap;refine⟨h.disk.turn ht (by simp;omega) (by simp;omega) (by simp;omega),?_,⟨[],World.ownsRow_nil _ _ _ _,rfl,by simp⟩,h.lows,Nat.le_trans h.le ht.size,h.n8,Nat.succ_le_succ (Nat.zero_le _),hg,Nat.zero_le _⟩;have e:((gen+1:Nat):Int)=(gen:Int)+1:=by omega
 show w'.heap[j]? =some (.cells #[.pointer (some ⟨g,0,none⟩),.int .i64 ((gen+1:Nat):Int),.slice none 0 0,.int .i64 0,.bool false] 109 (0,0));rw[e];exact hs
theorem reset_any(w:World)(lo j g gs gm:Nat)(d:Dsk)(jr:Jr)(v:Value)(n c:Nat)(A:Option Addr)(ls:List (List UInt8))(h:Jn w lo j g gs gm d jr v)(hr:RowsB w [j,g,gs,gm] A n ls)(hn:n≤1000000)(hg1:jr.gen+1<9223372036854775807):
  Calls Tryz.prog 17 #[ptr j,.slice A n c] w (Appended w lo j g gs gm v (rstE d jr ls) (rstD d jr ls) (rstJ d jr ls)):=by
 have HJ:=hid h;have HR:=hid hr;have HN:=hid hn;have HG:=hid hg1;rcases rst_parts d jr ls with⟨hdn,hz,hD,hJ⟩|⟨hdn,hl,hz,hD,hJ⟩|⟨hdn,hl,hfit,hz,hD,hJ⟩|⟨hdn,hl,hfit,hex,hz,hD,hJ⟩|⟨hdn,hl,hfit,hex,hz,hD,hJ⟩
 ·rw[hz,hD,hJ];have HV:Hid (whyJ true ls=3):=hid rfl;have HRF:=hid (refuses_any _ lo j g gs gm d jr v n c A ls HJ.out hr.rowl (by omega));rw[hdn,HV.out] at HRF;clear h hr hdn hz hD hJ HV;unfold ptr at *;go_enter Tryz.func17,Tryz.ntmps17;go_wp2_with fail;refine HRF.out.mono ?_;rintro e w1 ⟨rfl,rfl⟩;go_wp2_with fail;go_ret;exact⟨rfl,v,HJ.out,Turn.refl _ _,fun _ hr=> .inl hr⟩
 ·rw[hz,hD,hJ];have HV:Hid (whyJ false ls=1):=hid (by unfold whyJ;rw[hl];rfl);have HRF:=hid (refuses_any _ lo j g gs gm d jr v n c A ls HJ.out hr.rowl (by omega));rw[hdn,HV.out] at HRF;clear h hr hdn hl hz hD hJ HV;unfold ptr at *;go_enter Tryz.func17,Tryz.ntmps17;go_wp2_with fail;refine HRF.out.mono ?_;rintro e w1 ⟨rfl,rfl⟩;go_wp2_with fail;go_ret;exact⟨rfl,v,HJ.out,Turn.refl _ _,fun _ hr=> .inl hr⟩
 ·rw[hz,hD,hJ];have HV:Hid (whyJ false ls=0):=hid (by unfold whyJ;rw[hl];rfl);have HRF:=hid (refuses_any _ lo j g gs gm d jr v n c A ls HJ.out hr.rowl (by omega));rw[hdn,HV.out] at HRF;have HAL:=hid (anyLong_all hl);have htl:=takes_le ls HAL.out;have hlen:=hr.len;have HTK:=hid (takes_any w n c A ls hr.rowl (by omega));have HRM:=hid (jroom_any h);have hr16:=h.room16;have hrm2:(room d.n:Int)≤65536:=by omega
  have hf2:(room d.n:Int)<(takes ls:Int):=by omega
  clear h hr hdn hl hfit hz hD hJ HV htl hlen hr16;generalize takes ls=tk at *;generalize room d.n=R at *;unfold ptr at *;go_enter Tryz.func17,Tryz.ntmps17;go_wp2_with fail;refine HRF.out.mono ?_;rintro e w1 ⟨rfl,rfl⟩;go_wp2_with fail;refine HTK.out.mono ?_;rintro e w2 ⟨rfl,rfl⟩;go_wp2_with fail;refine HRM.out.mono ?_;rintro e w2 ⟨rfl,hb2⟩;have HB2:=hid hb2;clear hb2;go_wp2_with fail;go_ret;exact⟨rfl,v,HJ.out.below HB2.out,Turn.ofBelow HB2.out,fun _ hr=> .inl hr⟩
 ·rw[hz,hD,hJ];have HV:Hid (whyJ false ls=0):=hid (by unfold whyJ;rw[hl];rfl);have HRF:=hid (refuses_any _ lo j g gs gm d jr v n c A ls HJ.out hr.rowl (by omega));rw[hdn,HV.out] at HRF;have HAL:=hid (anyLong_all hl);have htl:=takes_le ls HAL.out;have hlen:=hr.len;have HTK:=hid (takes_any w n c A ls hr.rowl (by omega));have HRM:=hid (jroom_any h);have hr16:=h.room16;have hrm2:(room d.n:Int)≤65536:=by omega
  have HBG:=hid (fun u hu hR=>begin_any u g gs gm d (jr.gen+1) n c A ls hu (by have:=h.n8;omega) (by omega) hR HAL.out hfit);have HXN:=hid (beginD_n d (jr.gen+1) ls);rw[hex] at HBG;clear hex;generalize beginD d (jr.gen+1) ls=XD at *;have hf2:(takes ls:Int)≤room d.n:=by omega
  have HF2:=hid hfit;have hcc:=h.c;rw[hdn] at hcc;obtain⟨c0,c1,c2,c3,c4⟩:=hcc;have HOB:Hid (w.heap[j]? =some (.cells #[.pointer (some ⟨g,0,none⟩),.int .i64 jr.gen,v,.int .i64 (takes jr.gs),.bool false] 109 (0,0))):=hid (by have:=h.hd;rw[hdn] at this;exact this);have hgm:((jr.gen:Int)==9223372036854775807)=false:=by simp;omega
  clear hg1;have HGEN:=hid (Eq.refl jr.gen);clear h hr hdn hl hfit hz hD hJ HV htl hlen hr16 c0 c3 c4 c2;generalize hgen:jr.gen=gen at *;have HGE:=hid hgen;generalize takes jr.gs=u0 at *;generalize htk:takes ls=tk at *;have HTT:=hid htk;generalize hR:room d.n=R at *;have HRR:=hid hR;unfold hv at HBG;push_cast at HBG;clear hgen htk hR;unfold ptr at *;go_enter Tryz.func17,Tryz.ntmps17;go_wp2_with fail;refine HRF.out.mono ?_;rintro e w1 ⟨rfl,rfl⟩;go_wp2_with fail;refine HTK.out.mono ?_;rintro e w2 ⟨rfl,rfl⟩;go_wp2_with fail;refine HRM.out.mono ?_;rintro e w2 ⟨rfl,hb2⟩;have HB2:=hid hb2;have HJ2:=hid (HJ.out.below hb2);have HOB2:=hid ((hb2.block j (lt_of_heap HOB.out)).trans HOB.out);have k1:w2.cell? ⟨j,1,none⟩=some (.int .i64 gen):=cell_at HOB2.out 1;clear hb2 c1;generalize hM:(9223372036854775807:Int)=M at *;clear hM;go_wp2_with fail;clear k1 hgm;have HB2:=hid HB2.out.drew;have HJ2:=hid HJ2.out.drew;have HOB2:Hid (w2.drew.heap[j]? =some (.cells #[.pointer (some ⟨g,0,none⟩),.int .i64 gen,v,.int .i64 u0,.bool false] 109 (0,0))):=hid HOB2.out;refine Frm.wh_start (fun w'=>w'.heap[j]? =some (.cells #[.pointer (some ⟨g,0,none⟩),.int .i64 gen,v,.int .i64 u0,.bool false] 109 (0,0))) (by kernel_rfl) ?_;generalize w2.drew=w3 at *;refine Frm.wa 0 28 (.pointer (some ⟨j,0,none⟩)) HOB2.out ?_;go_frame;refine Frm.wb 1 29 (.pointer (some ⟨j,0,none⟩)) HOB2.out ?_;go_frame;refine Frm.wb 2 30 (.pointer (some ⟨j,0,none⟩)) HOB2.out ?_;go_frame;refine Frm.wb 3 31 (.pointer (some ⟨j,0,none⟩)) HOB2.out ?_;go_frame;refine Frm.wd 4 32 (.pointer (some ⟨g,0,none⟩)) HOB2.out (fun w' hw'=> ?_) ?_
  ·have q0:w'.cell? ⟨j,0,none⟩=some (.pointer (some ⟨g,0,none⟩)):=cell_at hw' 0;go_simp
  go_frame;refine Frm.wa 5 33 (.pointer (some ⟨j,0,none⟩)) HOB2.out ?_;go_frame;refine Frm.wb 6 34 (.pointer (some ⟨j,0,none⟩)) HOB2.out ?_;go_frame;refine Frm.wb 7 35 (.pointer (some ⟨j,0,none⟩)) HOB2.out ?_;go_frame;refine Frm.wb 8 36 (.pointer (some ⟨j,1,none⟩)) HOB2.out ?_;go_frame;refine Frm.wd 9 37 (.int .i64 gen) HOB2.out (fun w' hw'=> ?_) ?_
  ·have q1:w'.cell? ⟨j,1,none⟩=some (.int .i64 gen):=cell_at hw' 1;go_simp
  go_frame;have hw1:IntKind.i64.wrap ((gen:Int)+1)=(gen:Int)+1:=IntWalk.i64_in _ (by have:=HG.out;omega);refine Frm.wb 10 38 (.int .i64 ((gen:Int)+1)) HOB2.out ?_;go_frame;refine Frm.wb 11 39 (.agg #[.pointer (some ⟨g,0,none⟩),.int .i64 ((gen:Int)+1)]) HOB2.out ?_;go_frame;have hba:=Frm.alloc_below w3 (.cells #[.pointer none,.int .i64 0] 105);have HOB3:=hid ((hba.block j (lt_of_heap HOB2.out)).trans HOB2.out);refine Frm.wh_run 12 6 (.pointer (some ⟨w3.heap.size,0,none⟩)) (w3.alloc (.cells #[.pointer none,.int .i64 0] 105)) rfl rfl (by kernel_rfl) rfl ?_ HOB3.out ?_
  ·go_simp
  go_frame;have hk6:=heap_alloc_new w3 (.cells #[.pointer none,.int .i64 0] 105);have z0:(w3.alloc (.cells #[.pointer none,.int .i64 0] 105)).cell? ⟨w3.heap.size,0,none⟩=some (.pointer none):=cell_at hk6 0;have z1:(w3.alloc (.cells #[.pointer none,.int .i64 0] 105)).cell? ⟨w3.heap.size,1,none⟩=some (.int .i64 0):=cell_at hk6 1;have f0:(w3.alloc (.cells #[.pointer none,.int .i64 0] 105)).frozen? ⟨w3.heap.size,0,none⟩=false:=free_at hk6 0;have f1:(w3.alloc (.cells #[.pointer none,.int .i64 0] 105)).frozen? ⟨w3.heap.size,1,none⟩=false:=free_at hk6 1;have HB3:Hid (Below w.heap.size w (w3.alloc (.cells #[.pointer none,.int .i64 0] 105))):=hid (HB2.out.trans (hba.mono HB2.out.size));have HJ3:=hid (HJ2.out.below hba);have hlt6:j<w3.heap.size:=lt_of_heap HOB2.out;have hse:=set_at (set_at hk6 0 (.pointer (some ⟨g,0,none⟩))) 1 (.int .i64 ((gen:Int)+1));have HST:Hid (Turn [w3.heap.size] (w3.alloc (.cells #[.pointer none,.int .i64 0] 105)) (((w3.alloc (.cells #[.pointer none,.int .i64 0] 105)).setCell ⟨w3.heap.size,0,none⟩ (.pointer (some ⟨g,0,none⟩))).setCell ⟨w3.heap.size,1,none⟩ (.int .i64 ((gen:Int)+1)))):=hid (((Turn.refl [w3.heap.size] _).setCell (.inl (by simp)) _).setCell (.inl (by simp)) _);have HOB4:=hid ((HST.out.block j (lt_of_heap HOB3.out) (by simp;omega)).trans HOB3.out);refine Frm.wh_store 13 (((w3.alloc (.cells #[.pointer none,.int .i64 0] 105)).setCell ⟨w3.heap.size,0,none⟩ (.pointer (some ⟨g,0,none⟩))).setCell ⟨w3.heap.size,1,none⟩ (.int .i64 ((gen:Int)+1))) rfl rfl (by kernel_rfl) rfl ?_ HOB4.out ?_
  ·go_simp
  refine wpAnyH_done (by kernel_rfl) ?_ _;have HSE:=hid hse;have HJ4:=hid (HJ3.out.aside HST.out hk6 ⟨by decide,by decide⟩ hlt6 (HJ2.out.le));have HB4:Hid (Turn [j,g,gs,gm] w (((w3.alloc (.cells #[.pointer none,.int .i64 0] 105)).setCell ⟨w3.heap.size,0,none⟩ (.pointer (some ⟨g,0,none⟩))).setCell ⟨w3.heap.size,1,none⟩ (.int .i64 ((gen:Int)+1)))):=hid ((Turn.ofBelow HB3.out).then_ HST.out (fun k hk=> .inr (by simp at hk;have:=HB2.out.size;omega)));clear z0 z1 f0 f1 hba hk6 hse hlt6 hw1;generalize ((w3.alloc (.cells #[.pointer none,.int .i64 0] 105)).setCell ⟨w3.heap.size,0,none⟩ (.pointer (some ⟨g,0,none⟩))).setCell ⟨w3.heap.size,1,none⟩ (.int .i64 ((gen:Int)+1))=w4 at *;generalize w3.heap.size=k6 at *;have HSE:Hid (w4.heap[k6]? =some (.cells #[.pointer (some ⟨g,0,none⟩),.int .i64 ((gen:Int)+1)] 105 (0,0))):=hid HSE.out;have b0:w4.cell? ⟨k6,0,none⟩=some (.pointer (some ⟨g,0,none⟩)):=cell_at HSE.out 0;have b1:w4.cell? ⟨k6,1,none⟩=some (.int .i64 ((gen:Int)+1)):=cell_at HSE.out 1;have HR4:=hid (HR.out.turn HB4.out (fun k hk=> .inl hk));have HC:=hid (HBG.out w4 HJ4.out.disk HR4.out.rows);go_wp2_with fail;refine HC.out.mono ?_;rintro e w5 ⟨rfl,hdk,ht⟩;have HK6:=hid ((ht.block k6 (lt_of_heap HSE.out) (apart_disk HJ4.out.disk HSE.out (by decide) (by simp))).trans HSE.out);have HJ5:=hid (HJ4.out.disked hdk ht HXN.out);have HT5:Hid (Turn [j,g,gs,gm] w w5):=hid (HB4.out.trans (ht.more (fun k hk=>List.mem_cons_of_mem _ hk)));have HR5:=hid (HR4.out.turn ht (fun k hk=> .inl (List.mem_cons_of_mem _ hk)));have HDK:=hid hdk;clear b0 b1 hdk ht HC HBG HJ2 HJ3;have he:err false=3:=rfl;rw[he];clear he;have HFL:=hid (fall_any w5 lo j g gs gm XD jr _ HJ5.out);unfold ptr at HFL;go_wp2_with fail;refine HFL.out.mono ?_;rintro e w8 ⟨rfl,hj8,ht8⟩;have H8:=hid (And.intro hj8 ht8);clear hj8 ht8;go_wp2_with fail;go_ret;rw[←HGE.out];exact⟨rfl,_,H8.out.1,(HT5.out.more (fun k hk=>List.mem_append_left _ hk)).trans (H8.out.2.more (fun k hk=>List.mem_append_left _ (by simp at hk;simp[hk]))),fun _ hr=> .inl hr⟩
 rw[hz,hD,hJ];have HV:Hid (whyJ false ls=0):=hid (by unfold whyJ;rw[hl];rfl);have HRF:=hid (refuses_any _ lo j g gs gm d jr v n c A ls HJ.out hr.rowl (by omega));rw[hdn,HV.out] at HRF;have HAL:=hid (anyLong_all hl);have htl:=takes_le ls HAL.out;have hlen:=hr.len;have HTK:=hid (takes_any w n c A ls hr.rowl (by omega));have HRM:=hid (jroom_any h);have hr16:=h.room16;have hrm2:(room d.n:Int)≤65536:=by omega
 have HBG:=hid (fun u hu hR=>begin_any u g gs gm d (jr.gen+1) n c A ls hu (by have:=h.n8;omega) (by omega) hR HAL.out hfit);have HXN:=hid (beginD_n d (jr.gen+1) ls);rw[hex] at HBG;clear hex;generalize beginD d (jr.gen+1) ls=XD at *;have hf2:(takes ls:Int)≤room d.n:=by omega
 have HF2:=hid hfit;have hcc:=h.c;rw[hdn] at hcc;obtain⟨c0,c1,c2,c3,c4⟩:=hcc;have HOB:Hid (w.heap[j]? =some (.cells #[.pointer (some ⟨g,0,none⟩),.int .i64 jr.gen,v,.int .i64 (takes jr.gs),.bool false] 109 (0,0))):=hid (by have:=h.hd;rw[hdn] at this;exact this);have hgm:((jr.gen:Int)==9223372036854775807)=false:=by simp;omega
 clear hg1;have HGEN:=hid (Eq.refl jr.gen);clear h hr hdn hl hfit hz hD hJ HV htl hlen hr16 c0 c3 c4 c2;generalize hgen:jr.gen=gen at *;have HGE:=hid hgen;generalize takes jr.gs=u0 at *;generalize htk:takes ls=tk at *;have HTT:=hid htk;generalize hR:room d.n=R at *;have HRR:=hid hR;unfold hv at HBG;push_cast at HBG;clear hgen htk hR;unfold ptr at *;go_enter Tryz.func17,Tryz.ntmps17;go_wp2_with fail;refine HRF.out.mono ?_;rintro e w1 ⟨rfl,rfl⟩;go_wp2_with fail;refine HTK.out.mono ?_;rintro e w2 ⟨rfl,rfl⟩;go_wp2_with fail;refine HRM.out.mono ?_;rintro e w2 ⟨rfl,hb2⟩;have HB2:=hid hb2;have HJ2:=hid (HJ.out.below hb2);have HOB2:=hid ((hb2.block j (lt_of_heap HOB.out)).trans HOB.out);have k1:w2.cell? ⟨j,1,none⟩=some (.int .i64 gen):=cell_at HOB2.out 1;clear hb2 c1;generalize hM:(9223372036854775807:Int)=M at *;clear hM;go_wp2_with fail;clear k1 hgm;have HB2:=hid HB2.out.drew;have HJ2:=hid HJ2.out.drew;have HOB2:Hid (w2.drew.heap[j]? =some (.cells #[.pointer (some ⟨g,0,none⟩),.int .i64 gen,v,.int .i64 u0,.bool false] 109 (0,0))):=hid HOB2.out;refine Frm.wh_start (fun w'=>w'.heap[j]? =some (.cells #[.pointer (some ⟨g,0,none⟩),.int .i64 gen,v,.int .i64 u0,.bool false] 109 (0,0))) (by kernel_rfl) ?_;generalize w2.drew=w3 at *;refine Frm.wa 0 28 (.pointer (some ⟨j,0,none⟩)) HOB2.out ?_;go_frame;refine Frm.wb 1 29 (.pointer (some ⟨j,0,none⟩)) HOB2.out ?_;go_frame;refine Frm.wb 2 30 (.pointer (some ⟨j,0,none⟩)) HOB2.out ?_;go_frame;refine Frm.wb 3 31 (.pointer (some ⟨j,0,none⟩)) HOB2.out ?_;go_frame;refine Frm.wd 4 32 (.pointer (some ⟨g,0,none⟩)) HOB2.out (fun w' hw'=> ?_) ?_
 ·have q0:w'.cell? ⟨j,0,none⟩=some (.pointer (some ⟨g,0,none⟩)):=cell_at hw' 0;go_simp
 go_frame;refine Frm.wa 5 33 (.pointer (some ⟨j,0,none⟩)) HOB2.out ?_;go_frame;refine Frm.wb 6 34 (.pointer (some ⟨j,0,none⟩)) HOB2.out ?_;go_frame;refine Frm.wb 7 35 (.pointer (some ⟨j,0,none⟩)) HOB2.out ?_;go_frame;refine Frm.wb 8 36 (.pointer (some ⟨j,1,none⟩)) HOB2.out ?_;go_frame;refine Frm.wd 9 37 (.int .i64 gen) HOB2.out (fun w' hw'=> ?_) ?_
 ·have q1:w'.cell? ⟨j,1,none⟩=some (.int .i64 gen):=cell_at hw' 1;go_simp
 go_frame;have hw1:IntKind.i64.wrap ((gen:Int)+1)=(gen:Int)+1:=IntWalk.i64_in _ (by have:=HG.out;omega);refine Frm.wb 10 38 (.int .i64 ((gen:Int)+1)) HOB2.out ?_;go_frame;refine Frm.wb 11 39 (.agg #[.pointer (some ⟨g,0,none⟩),.int .i64 ((gen:Int)+1)]) HOB2.out ?_;go_frame;have hba:=Frm.alloc_below w3 (.cells #[.pointer none,.int .i64 0] 105);have HOB3:=hid ((hba.block j (lt_of_heap HOB2.out)).trans HOB2.out);refine Frm.wh_run 12 6 (.pointer (some ⟨w3.heap.size,0,none⟩)) (w3.alloc (.cells #[.pointer none,.int .i64 0] 105)) rfl rfl (by kernel_rfl) rfl ?_ HOB3.out ?_
 ·go_simp
 go_frame;have hk6:=heap_alloc_new w3 (.cells #[.pointer none,.int .i64 0] 105);have z0:(w3.alloc (.cells #[.pointer none,.int .i64 0] 105)).cell? ⟨w3.heap.size,0,none⟩=some (.pointer none):=cell_at hk6 0;have z1:(w3.alloc (.cells #[.pointer none,.int .i64 0] 105)).cell? ⟨w3.heap.size,1,none⟩=some (.int .i64 0):=cell_at hk6 1;have f0:(w3.alloc (.cells #[.pointer none,.int .i64 0] 105)).frozen? ⟨w3.heap.size,0,none⟩=false:=free_at hk6 0;have f1:(w3.alloc (.cells #[.pointer none,.int .i64 0] 105)).frozen? ⟨w3.heap.size,1,none⟩=false:=free_at hk6 1;have HB3:Hid (Below w.heap.size w (w3.alloc (.cells #[.pointer none,.int .i64 0] 105))):=hid (HB2.out.trans (hba.mono HB2.out.size));have HJ3:=hid (HJ2.out.below hba);have hlt6:j<w3.heap.size:=lt_of_heap HOB2.out;have hse:=set_at (set_at hk6 0 (.pointer (some ⟨g,0,none⟩))) 1 (.int .i64 ((gen:Int)+1));have HST:Hid (Turn [w3.heap.size] (w3.alloc (.cells #[.pointer none,.int .i64 0] 105)) (((w3.alloc (.cells #[.pointer none,.int .i64 0] 105)).setCell ⟨w3.heap.size,0,none⟩ (.pointer (some ⟨g,0,none⟩))).setCell ⟨w3.heap.size,1,none⟩ (.int .i64 ((gen:Int)+1)))):=hid (((Turn.refl [w3.heap.size] _).setCell (.inl (by simp)) _).setCell (.inl (by simp)) _);have HOB4:=hid ((HST.out.block j (lt_of_heap HOB3.out) (by simp;omega)).trans HOB3.out);refine Frm.wh_store 13 (((w3.alloc (.cells #[.pointer none,.int .i64 0] 105)).setCell ⟨w3.heap.size,0,none⟩ (.pointer (some ⟨g,0,none⟩))).setCell ⟨w3.heap.size,1,none⟩ (.int .i64 ((gen:Int)+1))) rfl rfl (by kernel_rfl) rfl ?_ HOB4.out ?_
 ·go_simp
 refine wpAnyH_done (by kernel_rfl) ?_ _;have HSE:=hid hse;have HJ4:=hid (HJ3.out.aside HST.out hk6 ⟨by decide,by decide⟩ hlt6 (HJ2.out.le));have HB4:Hid (Turn [j,g,gs,gm] w (((w3.alloc (.cells #[.pointer none,.int .i64 0] 105)).setCell ⟨w3.heap.size,0,none⟩ (.pointer (some ⟨g,0,none⟩))).setCell ⟨w3.heap.size,1,none⟩ (.int .i64 ((gen:Int)+1)))):=hid ((Turn.ofBelow HB3.out).then_ HST.out (fun k hk=> .inr (by simp at hk;have:=HB2.out.size;omega)));clear z0 z1 f0 f1 hba hk6 hse hlt6 hw1;generalize ((w3.alloc (.cells #[.pointer none,.int .i64 0] 105)).setCell ⟨w3.heap.size,0,none⟩ (.pointer (some ⟨g,0,none⟩))).setCell ⟨w3.heap.size,1,none⟩ (.int .i64 ((gen:Int)+1))=w4 at *;generalize w3.heap.size=k6 at *;have HSE:Hid (w4.heap[k6]? =some (.cells #[.pointer (some ⟨g,0,none⟩),.int .i64 ((gen:Int)+1)] 105 (0,0))):=hid HSE.out;have b0:w4.cell? ⟨k6,0,none⟩=some (.pointer (some ⟨g,0,none⟩)):=cell_at HSE.out 0;have b1:w4.cell? ⟨k6,1,none⟩=some (.int .i64 ((gen:Int)+1)):=cell_at HSE.out 1;have HR4:=hid (HR.out.turn HB4.out (fun k hk=> .inl hk));have HC:=hid (HBG.out w4 HJ4.out.disk HR4.out.rows);go_wp2_with fail;refine HC.out.mono ?_;rintro e w5 ⟨rfl,hdk,ht⟩;have HK6:=hid ((ht.block k6 (lt_of_heap HSE.out) (apart_disk HJ4.out.disk HSE.out (by decide) (by simp))).trans HSE.out);have HJ5:=hid (HJ4.out.disked hdk ht HXN.out);have HT5:Hid (Turn [j,g,gs,gm] w w5):=hid (HB4.out.trans (ht.more (fun k hk=>List.mem_cons_of_mem _ hk)));have HR5:=hid (HR4.out.turn ht (fun k hk=> .inl (List.mem_cons_of_mem _ hk)));have HDK:=hid hdk;clear b0 b1 hdk ht HC HBG HJ2 HJ3;have he:err true=0:=rfl;rw[he];clear he;have b0:w5.cell? ⟨k6,0,none⟩=some (.pointer (some ⟨g,0,none⟩)):=cell_at HK6.out 0;have b1:w5.cell? ⟨k6,1,none⟩=some (.int .i64 ((gen:Int)+1)):=cell_at HK6.out 1;have hjh:=HJ5.out.hd;unfold jobj ptr at hjh;have y0:=cell_at hjh 0;have y1:=cell_at hjh 1;have y2:=cell_at hjh 2;have y3:=cell_at hjh 3;have y4:=cell_at hjh 4;have g0:=free_at hjh 0;have g1:=free_at hjh 1;have g2:=free_at hjh 2;have g3:=free_at hjh 3;have g4:=free_at hjh 4;simp only[List.getElem?_toArray,List.getElem?_cons_zero,List.getElem?_cons_succ] at y0 y1 y2 y3 y4;have hst5:=set_at (set_at (set_at (set_at (set_at hjh 0 (.pointer (some ⟨g,0,none⟩))) 1 (.int .i64 ((gen:Int)+1))) 2 (.slice none 0 0)) 3 (.int .i64 0)) 4 (.bool false);have HT6:Hid (Turn [j] w5 (((((w5.setCell ⟨j,0,none⟩ (.pointer (some ⟨g,0,none⟩))).setCell ⟨j,1,none⟩ (.int .i64 ((gen:Int)+1))).setCell ⟨j,2,none⟩ (.slice none 0 0)).setCell ⟨j,3,none⟩ (.int .i64 0)).setCell ⟨j,4,none⟩ (.bool false))):=hid ((((((Turn.refl [j] w5).setCell (.inl (by simp)) _).setCell (.inl (by simp)) _).setCell (.inl (by simp)) _).setCell (.inl (by simp)) _).setCell (.inl (by simp)) _);have HS6:Hid ((((((w5.setCell ⟨j,0,none⟩ (.pointer (some ⟨g,0,none⟩))).setCell ⟨j,1,none⟩ (.int .i64 ((gen:Int)+1))).setCell ⟨j,2,none⟩ (.slice none 0 0)).setCell ⟨j,3,none⟩ (.int .i64 0)).setCell ⟨j,4,none⟩ (.bool false)).heap[j]? =some (.cells #[.pointer (some ⟨g,0,none⟩),.int .i64 ((gen:Int)+1),.slice none 0 0,.int .i64 0,.bool false] 109 (0,0))):=hid hst5;clear hjh hst5;go_upto_region 10 with fail;clear y0 y1 y2 y3 y4 g0 g1 g2 g3 g4 b0 b1;generalize ((((w5.setCell ⟨j,0,none⟩ (.pointer (some ⟨g,0,none⟩))).setCell ⟨j,1,none⟩ (.int .i64 ((gen:Int)+1))).setCell ⟨j,2,none⟩ (.slice none 0 0)).setCell ⟨j,3,none⟩ (.int .i64 0)).setCell ⟨j,4,none⟩ (.bool false)=w6 at *;have HJ6:=hid (HJ5.out.anew HT6.out HS6.out HG.out);have HR6:=hid (HR5.out.turn HT6.out (fun k hk=> .inl (by rcases List.mem_singleton.1 hk with rfl;simp)));have HT7:Hid (Turn [j,g,gs,gm] w w6):=hid (HT5.out.trans (HT6.out.more (fun k hk=>by rcases List.mem_singleton.1 hk with rfl;simp)));have HLEN:=hid HR.out.len;have hn2:(n:Int)≤1000000:=by have:=HN.out;omega
 clear hf2 hrm2;go_wp2_with fail;go_loopw [52] (fun i' wr=>∃(k:Nat) (vk:Value),k≤n∧i'= .int .i64 k∧RI w wr lo j g gs gm XD (gen+1) n A ls k vk) (fun i' _=>n-(Go.RowKit.intOf i').toNat)
 case atStart=>exact⟨0,.slice none 0 0,by omega,rfl,⟨HJ6.out,HT7.out,by simpa [Value.ownBlock] using HR6.out,fun r hr=>by cases hr⟩⟩
 case round=>
  obtain⟨k,vk,hk,rfl,hrl⟩:=hrel;have HK:=hid hrl;clear hrl;by_cases hlt:k<n
  ·obtain⟨b,o,Aj,cj,hat⟩:=HK.out.rows.at hlt;have hidx:=hat.index c;obtain⟨_,hcell,hbt,hlc,hcm,_⟩:=hat;have HKL:Hid (k<ls.length):=hid (by rw[HLEN.out];exact hlt);have hle:(ls.getD k []).length≤1048576:=HAL.out _ (by rw[Frm.getD_of HKL.out];exact List.getElem_mem _);have HCL:=hid (Cod.clone_any wr wr.heap.size _ cj Aj (ls.getD k []) hbt.byts (Nat.le_refl _) (by omega));generalize hlx:(ls.getD k []).length=lx at *;have HLX:=hid hlx;clear hbt hlc hcm hle hlx;go_wp2_with fail;refine HCL.out.mono ?_;rintro e w7 ⟨A8,c8,rfl,ho8,hb8⟩;have HX8:Hid (It.ok w7 lo ⟨A8,lx,c8,ls.getD k []⟩):=hid (by
    obtain⟨A',c',e',h1,h2⟩:=ho8.form;injection e' with _ _ e3;subst e3;exact⟨ho8.byts,h1,h2,(Frm.own_above ho8).mono HK.out.jn.le,Frm.own_u8 ho8⟩)
   have HB8:=hid hb8;have HJ8:=hid (HK.out.jn.below hb8);clear ho8 hb8;have HAD:=hid (add_any w7 lo j g gs gm XD ⟨gen+1,ls.take k,false⟩ vk ⟨A8,lx,c8,ls.getD k []⟩ HJ8.out HX8.out (by
    have h1:=takes_snoc_take ls k HKL.out;have h2:=takes_take ls (k+1);have h3:=HTT.out;have h4:=HRR.out;have h5:=HF2.out;rw[HXN.out];show takes (ls.take k)+takes1 (ls.getD k [])≤_;omega))
   unfold ptr It.val at HAD;dsimp only at HAD;go_wp2_with fail;refine HAD.out.mono ?_;rintro e w9 ⟨rfl,v9,hj9,ht9,hv9⟩;have H9:=hid (And.intro hj9 (And.intro ht9 hv9));clear hj9 ht9 hv9 hcell hidx;go_wp2_with fail;go_roundw
   case rel=>exact⟨k+1,v9,by omega,by go_num,HK.out.step HB8.out (by rw[take_getD ls k HKL.out];exact H9.out.1) H9.out.2.1 H9.out.2.2⟩
   case measure=>simp[Go.RowKit.intOf];omega
  obtain rfl:k=n:=by omega
  go_wp2_with fail;go_ret;refine⟨rfl,vk,?_,HK.out.fr.more (fun q hq=>List.mem_append_left _ hq),fun q hq=> .inr (HK.out.fresh q hq)⟩;have h1:=HK.out.jn;rw[←HLEN.out,List.take_length] at h1;exact h1
end Go.Proofs.YtdjhlhellkajfaaGreat.Jou
namespace Go.Proofs.YtdjhlhellkajfaaGreat.Jou
open Go.RowKit Codec FrameM Cod JourM
open Disk (Turn Dk Dsk ptr Now)
open Frm (Above U8)
theorem takes_mem{b:List UInt8}{l:List (List UInt8)}(h:b∈l):takes1 b≤takes l:=by
 induction l with
 |nil=>cases h
 |cons a l ih=>
  rcases List.mem_cons.1 h with rfl|h
  ·simp only[takes];omega
  have:=ih h;simp only[takes];omega
theorem need_big(n:Nat):n≤64 * need n:=by unfold need;omega
section
variable {w:World} {lo j g gs gm:Nat} {d:Dsk} {jr:Jr} {v:Value}
theorem Jn.rowsB(h:Jn w lo j g gs gm d jr v):∃A c,v= .slice A jr.gs.length c∧jr.gs.length≤c∧RowsB w [] A jr.gs.length jr.gs:=by
 obtain⟨A,c,hv,hc⟩:=h.len;subst hv;obtain⟨its,ho,hi,hok⟩:=h.own;have hl:its.length=jr.gs.length:=by rw[←hi,List.length_map]
 refine⟨A,c,rfl,hc,rfl,fun hn=> ?_⟩;rw[←hl] at ho;obtain⟨gb,cap,hv,hlo,hlt⟩:=World.ownsRow.form ho (by omega);have hA:A=some ⟨gb,0,none⟩:=by injection hv
 subst hA;refine⟨gb,0,rfl,hlt,by simp,fun k hk=> ?_⟩;have hk':k<its.length:=by omega
 have hx:=hok its[k] (List.getElem_mem _);have hc:=ho.cells (g:=gb) rfl k its[k].val (by simp[hk']);rw[plain_add] at hc;have e:jr.gs.getD k []=its[k].xs:=by
  rw[Frm.getD_of hk];simp[←hi]
 rw[e];have hm:its[k].m=its[k].xs.length:=hx.byts.len.symm;refine⟨its[k].A,its[k].c,by rw[hc,It.val,hm],?_,by rw[←hm];exact hx.mc,hx.cm⟩;rw[←hm];exact Bts.of_byts hx.byts (Nat.le_refl _) (by simp)
theorem jused_any(h:Jn w lo j g gs gm d jr v):Calls Tryz.prog 27 #[ptr j] w (Disk.Ends (.int .i64 (takes jr.gs)) w):=by
 have HM:=hid (jmade_any h);obtain⟨_,_,_,h3,_⟩:=h.c;clear h;unfold ptr at HM ⊢;generalize takes jr.gs=u0 at *;go_enter Tryz.func27,Tryz.ntmps27;go_wp2_with fail;refine HM.out.mono ?_;rintro e w1 ⟨rfl,rfl⟩;go_wp2;go_ret;exact⟨rfl,rfl⟩
structure RG (w':World) (lo b K k:Nat) (x:Nat→List UInt8) (C:Array Value):Prop where
 rr:RR w' b K k x C
 ab:∀q,q<k→∀Aj l cj,C[q]? =some (.slice Aj l cj)→Above lo Aj
theorem RG.set{w1:World}{lo b K k:Nat}{x:Nat→List UInt8}{C:Array Value}(h:RG w1 lo b K k x C)(hk:k<K){A:Option Addr}{c:Nat}(hb:Bts w1 [b] A (x k).length (x k))(hc:(x k).length≤c)(hm:c≤maxLen)(ha:Above lo A):
  RG (w1.setCell ⟨b,k,none⟩ (.slice A (x k).length c)) lo b K (k+1) x (C.setIfInBounds k (.slice A (x k).length c)):=by
 refine⟨h.rr.set hk hb hc hm,fun q hq Aj l cj he=> ?_⟩;by_cases e:q=k
 ·subst e;rw[Array.getElem?_setIfInBounds_self_of_lt (by rw[h.rr.size];exact hk)] at he;cases he
  exact ha
 rw[Array.getElem?_setIfInBounds_ne (by omega)] at he;exact h.ab q (by omega) Aj l cj he
def NewRows (w w':World) (A:Option Addr) (n:Nat) (ls:List (List UInt8)):Prop:=∀S:List Nat,(∀k∈S,k<w.heap.size)→RowsB w' S A n ls
theorem RG.rows{w w1:World}{b K:Nat}{ls:List (List UInt8)}{C:Array Value}(hl:ls.length=K)(h:RG w1 w.heap.size b K K (fun i=>ls.getD i []) C)(hb:w.heap.size≤b):NewRows w w1 (some ⟨b,0,none⟩) K ls:=by
 intro S hS;refine⟨hl,fun hK=>⟨b,0,rfl,lt_of_heap h.rr.row,fun hm=>by have:=hS b hm;omega,fun q hq=> ?_⟩⟩;obtain⟨Aj,cj,h1,h2,h3,h4⟩:=h.rr.at_ q hq;exact⟨Aj,cj,by rw[cell_at h.rr.row,Nat.zero_add];exact h1,Bts.above h2.byts (h.ab q hq _ _ _ h1) hS,h3,h4⟩
def GroupsR (w:World) (ls:List (List UInt8)) (e:Ending) (w':World):Prop:=∃A c,e= .returned (.slice A ls.length c)∧NewRows w w' A ls.length ls∧ls.length≤c∧c≤maxLen∧Below w.heap.size w w'
structure GI (w wr:World) (N:Nat) (Av:Option Addr) (ls:List (List UInt8)) (k:Nat) (C:Array Value):Prop where
 low:Below w.heap.size w wr
 rg:RG wr w.heap.size w.heap.size N k (fun i=>ls.getD i []) C
theorem groups_any(h:Jn w lo j g gs gm d jr v):Calls Tryz.prog 24 #[ptr j] w (GroupsR w jr.gs):=by
 have HM:=hid (jmade_any h);obtain⟨Av,cv,hv,hcv,hrow⟩:=h.rowsB;subst hv;have HR:=hid hrow;have HJ:=hid h;have hgl:jr.gs.length≤65536:=by have:=takes_length jr.gs;have:=h.room16.2;omega
 have HG:=hid hgl;obtain⟨_,_,c2,_,_⟩:=h.c;have hmk:∀u:World,(Instr.makeSlice 40 (.int .i64 jr.gs.length) (.int .i64 jr.gs.length)).run Tryz.prog u= .ok (.slice (some ⟨u.heap.size,0,none⟩) jr.gs.length jr.gs.length) (u.alloc (.cells (Frm.room jr.gs.length) 39)):=fun u=>run_make34K u _ (by omega);have HBB:Hid (∀b∈jr.gs,b.length≤1000000000):=hid (fun b hb=>by
  have h1:=h.room16.2;have h2:=takes_mem hb;unfold takes1 at h2;have h3:=need_big b.length;omega)
 have hN1:(jr.gs.length:Int)≤65536:=by omega
 clear hrow hcv h hgl;unfold ptr at *;generalize jr.gs=ls at *;generalize hN:ls.length=N at *;have HL:=hid hN;clear hN;go_enter Tryz.func24,Tryz.ntmps24;go_wp2_with fail;refine HM.out.mono ?_;rintro e w1 ⟨rfl,rfl⟩;have HC2:=hid c2;go_upto_region 4 with fail;have HB1:=hid (Frm.alloc_below w (.cells (Frm.room N) 39));have c2:(w.alloc (.cells (Frm.room N) 39)).cell? ⟨j,2,none⟩=some (.slice Av N cv):=(World.cell?_of_block (w:=w) (HB1.out.block j (lt_of_heap HJ.out.hd))).trans HC2.out;have HI:Hid (GI w (w.alloc (.cells (Frm.room N) 39)) N Av ls 0 (Frm.room N)):=hid ⟨HB1.out,⟨heap_alloc_new w _,room_size N,fun q hq=>absurd hq (by omega)⟩,fun q hq=>absurd hq (by omega)⟩;clear hmk;go_wp2_with fail;clear c2;generalize w.alloc (.cells (Frm.room N) 39)=W at *;go_loopw [20] (fun i' wr=>∃(k:Nat) (C:Array Value),k≤N∧i'= .int .i64 k∧GI w wr N Av ls k C) (fun i' _=>N-(Go.RowKit.intOf i').toNat)
 case atStart=>exact⟨0,_,by omega,rfl,HI.out⟩
 case round=>
  obtain⟨k,C,hk,rfl,hrl⟩:=hrel;have HK:=hid hrl;clear hrl;by_cases hlt:k<N
  ·obtain⟨b,o,Aj,cj,hat⟩:=(HR.out.below HK.out.low).at hlt;have hidx:=hat.index cv;obtain⟨_,hcell,hbt,hlc,hcm,_⟩:=hat;have hle:(ls.getD k []).length≤1000000000:=HBB.out _ (by rw[Frm.getD_of (by rw[HL.out];exact hlt)];exact List.getElem_mem _);have HCL:=hid (Cod.clone_any wr wr.heap.size _ cj Aj (ls.getD k []) hbt.byts (Nat.le_refl _) (by omega));have hidx2:∀u:World,(Instr.indexAt 40 (.slice (some ⟨w.heap.size,0,none⟩) N N) (.int .i64 k)).run Tryz.prog u= .ok (.pointer (some ⟨w.heap.size,k,none⟩)) u:=fun u=>by
    simp[Instr.indexAt,asIntOf,run_underlying Tryz.underlying40,Result.andThen,plain_add];intro h1;omega
   generalize hlx:(ls.getD k []).length=lx at *;have HLX:=hid hlx;clear hbt hlc hcm hle hlx;go_wp2_with fail;refine HCL.out.mono ?_;rintro e w7 ⟨A8,c8,rfl,ho8,hb8⟩;have HX8:Hid (It.ok w7 w.heap.size ⟨A8,lx,c8,ls.getD k []⟩):=hid (by
    obtain⟨A',c',e',h1,h2⟩:=ho8.form;injection e' with _ _ e3;subst e3;exact⟨ho8.byts,h1,h2,(Frm.own_above ho8).mono HK.out.low.size,Frm.own_u8 ho8⟩)
   have HBW:Hid (Bts w7 [w.heap.size] A8 lx (ls.getD k [])):=hid (Bts.above (lo:=wr.heap.size) HX8.out.byts (Frm.own_above ho8) (by have:=lt_of_heap HK.out.rg.rr.row;simpa using this));have HRG:Hid (RG w7 w.heap.size w.heap.size N k (fun i=>ls.getD i []) C):=hid ⟨HK.out.rg.rr.below hb8,HK.out.rg.ab⟩;have HLW:Hid (Below w.heap.size w w7):=hid (HK.out.low.trans (hb8.mono HK.out.low.size));clear ho8 hb8 hcell hidx;have hcell:∃v,w7.cell? ⟨w.heap.size,k,none⟩=some v:=by
    rw[cell_at HRG.out.rr.row];exact⟨C[k]'(by rw[HRG.out.rr.size];exact hlt),by simp[HRG.out.rr.size,hlt]⟩
   obtain⟨v0,hv0⟩:=hcell;have hf0:w7.frozen? ⟨w.heap.size,k,none⟩=false:=free_at HRG.out.rr.row k;have HR4:=hid (HRG.out.set hlt (by dsimp only;rw[HLX.out];exact HBW.out) (by dsimp only;rw[HLX.out];exact HX8.out.mc) HX8.out.cm HX8.out.ab);dsimp only at HR4;rw[HLX.out] at HR4;have HL4:Hid (Below w.heap.size w (w7.setCell ⟨w.heap.size,k,none⟩ (.slice A8 lx c8))):=hid (HLW.out.setCell (p:=⟨w.heap.size,k,none⟩) (by simp) _);go_wp2_with fail;go_roundw
   case rel=>exact⟨k+1,_,by omega,by go_num,HL4.out,HR4.out⟩
   case measure=>simp[Go.RowKit.intOf];omega
  obtain rfl:k=N:=by omega
  go_wp2_with fail;go_ret;exact⟨some ⟨w.heap.size,0,none⟩,k,by rw[HL.out];rfl,by rw[HL.out];exact HK.out.rg.rows HL.out (Nat.le_refl _),by rw[HL.out];exact Nat.le_refl _,by unfold maxLen;omega,HK.out.low⟩
end
end Go.Proofs.YtdjhlhellkajfaaGreat.Jou
namespace Go.Proofs.YtdjhlhellkajfaaGreat.Jou
open Go.RowKit Codec FrameM Cod JourM
open Disk (Turn Dk Dsk ptr Now)
def CvS (A:Option Addr) (n c:Nat) (ys:List UInt8) (w:World):Prop:=(convert 39 9 (.slice A n c)).run Tryz.prog w= .ok (.string ⟨ys.toArray⟩) w
end Go.Proofs.YtdjhlhellkajfaaGreat.Jou
namespace Go.Proofs.YtdjhlhellkajfaaGreat.Cch
open Go.RowKit Codec Cod
theorem take_num{b:List UInt8}(h:8≤b.length):num ⟨b.take 8,false⟩=numU b:=by
 unfold numU num tk short;have h1:(b.take 8).length=8:=by simp;omega
 rw[if_neg (by simp;omega),if_neg (by simp;omega)];show signed (leVal ((b.take 8).take 8))=signed (leVal (b.take 8));rw[List.take_take];rfl
theorem numU_in(b:List UInt8): -9223372036854775808≤numU b∧numU b≤9223372036854775807:=signed_bound _ (num_lt _)
theorem unpack_any(w:World)(B n c:Nat)(A:Option Addr)(b:List UInt8)(hb:Byts w B A n b)(hB:B≤w.heap.size)(hnc:n≤c)(hcm:n≤1000000000):
  Calls Tryz.prog 33 #[.slice A n c] w (EndsBelow (.tuple #[entV (unE b),.bool (unB b)]) w):=by
 have hlen:=hb.len;by_cases h8:n<8
 ·have hu:unB b=false:=by unfold unB;rw[decide_eq_false (by omega)];rfl
  have he:unE b=⟨baOf [],baOf []⟩:=by unfold unE;rw[hu];rfl
  rw[hu,he];have h8i:(n:Int)<8:=by omega
  clear hb hlen hu he;unfold entV;go_enter Tryz.func33,Tryz.ntmps33;go_wp2_with fail;have hx:=heap_alloc_new w (.cells #[.string ⟨#[]⟩,.string ⟨#[]⟩] 62);have z0:=cell_at hx 0;have z1:=cell_at hx 1;exact bodyPost_ret (v:= .tuple #[.agg #[.string ⟨#[]⟩,.string ⟨#[]⟩],.bool false]) (by simp[results,Tryz.results33,go_sem,z0,z1]) rfl ⟨rfl,Frm.alloc_below _ _⟩
 have h8i:¬(n:Int)<8:=by omega
 obtain⟨M,rfl⟩:∃M,n=M+8:=⟨n-8,by omega⟩
 have HTN:Hid (num ⟨b.take 8,false⟩=numU b):=hid (take_num (by omega));have hin:=numU_in b;have HUB:Hid (unB b=(decide (0≤numU b)&&decide (numU b≤(M:Int)))):=hid (by
  unfold unB;rw[decide_eq_true (by omega),hlen];have:(((M+8:Nat):Int)-8)=(M:Int):=by push_cast;omega
  rw[this];rfl)
 have HUE:Hid (∀Q:Nat,numU b=(Q:Int)→unB b=true→unE b=⟨baOf ((b.drop 8).take Q),baOf ((b.drop 8).drop Q)⟩):=hid (fun Q h1 h2=>by
  unfold unE;rw[if_pos h2,h1,Int.toNat_natCast])
 have HUN:Hid (unB b=false→unE b=⟨baOf [],baOf []⟩):=hid (fun h=>by unfold unE;rw[h];rfl);have hs8:∀u:World,(Instr.slice 39 (.slice A (M+8) c) none (some (.int .i64 8)) none).run Tryz.prog u= .ok (.slice A 8 c) u:=fun u=>run_to u A (M+8) c 8 (by omega);have hs9:∀u:World,(Instr.slice 39 (.slice A (M+8) c) (some (.int .i64 8)) none none).run Tryz.prog u= .ok (.slice (if c=8 then A else A.map (·.add 8)) M (c-8)) u:=fun u=>by
  have:=run_from u A (M+8) c 8 (by omega);rwa [show M+8-8=M by omega] at this
 have hdr:=hb.drop 8 c (by omega) hnc;rw[show M+8-8=M by omega] at hdr;obtain⟨C8,hC8⟩:∃C8,c-8=C8:=⟨_,rfl⟩
 obtain⟨T1,hT1⟩:∃T1,(if c=8 then A else A.map (·.add 8))=T1:=⟨_,rfl⟩
 rw[hC8,hT1] at hs9;rw[hT1] at hdr;have HDR:=hid (hdr.more hB);have HC8:Hid (M≤C8):=hid (by omega);have HRD:=hid (read_any (w.alloc (.cells #[.string ⟨#[]⟩,.string ⟨#[]⟩] 62)) B 8 c A (b.take 8) ((hb.take 8 (by omega)).alloc hB _) (by simp;omega) (by omega));clear hb hB hlen hT1 hC8 hdr h8;unfold entV;have hM:(M:Int)≤1000000000:=by omega
 clear hnc hcm;go_enter Tryz.func33,Tryz.ntmps33;go_wp2_with fail;refine HRD.out.mono ?_;rintro e w1 ⟨B1,g1,rfl,hr1,hlo1,hb1⟩;have HB1:Hid (Below w.heap.size w w1):=hid ((Frm.alloc_below w _).trans (hb1.mono (by simp)));have HX1:Hid (w1.heap[w.heap.size]? =some (.cells #[.string (baOf []),.string (baOf [])] 62 (0,0))∧w.heap.size<B1):=hid ⟨(hb1.block _ (by simp)).trans (heap_alloc_new w _),by rw[World.size_alloc] at hlo1;omega⟩;have HNA:=hid (num_any w1 B1 g1 ⟨b.take 8,false⟩ hr1);rw[HTN.out] at HNA;clear hr1 hlo1 hb1 HRD HTN;generalize numU b=q at *;go_wp2_with fail;refine HNA.out.mono ?_;rintro e wr ⟨rfl,hr2,hg2⟩;have hgg:B1≤g1:=hr2.2.1;have HX2:Hid (wr.heap[w.heap.size]? =some (.cells #[.string (baOf []),.string (baOf [])] 62 (0,0))):=hid ((hg2.block _ (lt_of_heap HX1.out.1) (fun e=>by have:=HX1.out.2;injection e with e;omega)).trans HX1.out.1);have HB2:Hid (Below w.heap.size w wr):=hid (HB1.out.grown hg2 HB1.out.size (fun q hq=>by cases hq;have:=HX1.out.2;omega));clear hr2 hg2 HNA HX1 HB1 hgg;go_upto_region 5 with fail;clear hs8 hs9;by_cases hq0:q<0
 ·have hu:unB b=false:=by rw[HUB.out,decide_eq_false (by omega)];rfl
  have HU:=hid (And.intro hu (HUN.out hu));have z0:=cell_at HX2.out 0;have z1:=cell_at HX2.out 1;have f0:=free_at HX2.out 0;have f1:=free_at HX2.out 1;unfold baOf at z0 z1 HX2;clear hu HUB HUE HUN;go_wp2_with fail;have hx:=set_at (set_at HX2.out 0 (.string ⟨#[]⟩)) 1 (.string ⟨#[]⟩);have y0:=cell_at hx 0;have y1:=cell_at hx 1;exact bodyPost_ret (v:= .tuple #[.agg #[.string ⟨#[]⟩,.string ⟨#[]⟩],.bool false]) (by simp[results,Tryz.results33,go_sem,y0,y1]) rfl ⟨by rw[HU.out.2,HU.out.1];first|done|rfl,(HB2.out.setCell (Nat.le_refl _) _).setCell (Nat.le_refl _) _⟩
 obtain⟨Q,rfl⟩:∃Q:Nat,q=(Q:Int):=⟨q.toNat,by omega⟩
 by_cases hq1:(M:Int)<(Q:Int)
 ·have hu:unB b=false:=by rw[HUB.out,decide_eq_false (p:=(Q:Int)≤(M:Int)) (by omega),Bool.and_false]
  have HU:=hid (And.intro hu (HUN.out hu));have z0:=cell_at HX2.out 0;have z1:=cell_at HX2.out 1;have f0:=free_at HX2.out 0;have f1:=free_at HX2.out 1;unfold baOf at *;clear hu HUB HUE HUN;go_wp2_with fail;have hx:=set_at (set_at HX2.out 0 (.string ⟨#[]⟩)) 1 (.string ⟨#[]⟩);have y0:=cell_at hx 0;have y1:=cell_at hx 1;exact bodyPost_ret (v:= .tuple #[.agg #[.string ⟨#[]⟩,.string ⟨#[]⟩],.bool false]) (by simp[results,Tryz.results33,go_sem,y0,y1]) rfl ⟨by rw[HU.out.2,HU.out.1];first|done|rfl,(HB2.out.setCell (Nat.le_refl _) _).setCell (Nat.le_refl _) _⟩
 have hu:unB b=true:=by rw[HUB.out,decide_eq_true (p:=(Q:Int)≤(M:Int)) (by omega),decide_eq_true (by omega)];rfl
 have HU:=hid (And.intro hu (HUE.out Q rfl hu));have hQM:Q≤M:=by omega
 obtain⟨T2,hT2⟩:∃T2,(if C8=Q then T1 else T1.map (·.add Q))=T2:=⟨_,rfl⟩
 have HK1:=hid (HDR.out.take Q hQM);have hv1:=HDR.out.drop Q C8 hQM HC8.out;rw[hT2] at hv1;have hsl:=fun u=>run_from u T1 M C8 Q hQM;rw[hT2] at hsl;obtain⟨MQ,hMQ⟩:∃MQ,M-Q=MQ:=⟨_,rfl⟩
 obtain⟨CQ,hCQ⟩:∃CQ,C8-Q=CQ:=⟨_,rfl⟩
 rw[hMQ] at hv1;rw[hMQ,hCQ] at hsl;have HSL1:=hid (fun u=>run_to u T1 M C8 Q (by have:=HC8.out;omega));have HSL2:=hid hsl;have HV1:=hid hv1;have HX1:=HX2;have HB1:=HB2;clear hT2 hv1 hsl hMQ hCQ HDR HC8 hu HUB HUE HUN hq0 HX2 HB2;generalize (b.drop 8).take Q=ks at *;generalize (b.drop 8).drop Q=vs at *;go_upto_region 7 with fail;have hk:∀u:World,(∀q,q<w.heap.size→u.heap[q]? =w.heap[q]?)→Jou.CvS T1 Q C8 ks u∧Jou.CvS T2 MQ CQ vs u:=fun u hu=>⟨run_string_of u _ Q C8 T1 ks (HK1.out.keep hu),run_string_of u _ MQ CQ T2 vs (HV1.out.keep hu)⟩
 have HS:Hid (Jou.CvS T1 Q C8 ks wr.drew∧Jou.CvS T2 MQ CQ vs wr.drew):=hid (hk _ (fun q hq=>HB1.out.block q hq));have hbx:wr.drew.heap[w.heap.size]? =some (.cells #[.string (baOf []),.string (baOf [])] 62 (0,0)):=HX1.out;have HSB:Hid (∀u:World,wr.drew.grownBy u (some w.heap.size)→Jou.CvS T1 Q C8 ks u∧Jou.CvS T2 MQ CQ vs u):=hid (fun u hu=>hk u fun q hq=>(hu.block q (Nat.lt_trans hq (lt_of_heap hbx)) (fun e=>by injection e with e;omega)).trans (HB1.out.block q hq));have HBD:Hid (Below w.heap.size w wr.drew):=hid HB1.out.drew;have hsl1:=HSL1.out;have hsl2:=HSL2.out;clear hk HK1 HV1 HX1 HB1 HSL1 HSL2;refine Frm.wh_start (fun u=>Jou.CvS T1 Q C8 ks u∧Jou.CvS T2 MQ CQ vs u) (by kernel_rfl) ?_;generalize wr.drew=u0 at *;refine Frm.wa 0 25 (.slice T1 M C8) HS.out ?_;go_frame;refine Frm.wa 1 26 (.int .i64 Q) HS.out ?_;go_frame;refine Frm.wd 2 27 (.slice T1 Q C8) HS.out (fun w' hw'=> ?_) ?_
 ·have h1:=hsl1 w';go_simp
 go_frame;refine Frm.wd 3 28 (.string ⟨ks.toArray⟩) HS.out (fun w' hw'=> ?_) ?_
 ·have hc1:=hw'.1;unfold Jou.CvS at hc1;go_simp
 go_frame;refine Frm.wa 4 29 (.slice T1 M C8) HS.out ?_;go_frame;refine Frm.wa 5 30 (.int .i64 Q) HS.out ?_;go_frame;refine Frm.wd 6 31 (.slice T2 MQ CQ) HS.out (fun w' hw'=> ?_) ?_
 ·have h1:=hsl2 w';go_simp
 go_frame;refine Frm.wd 7 32 (.string ⟨vs.toArray⟩) HS.out (fun w' hw'=> ?_) ?_
 ·have hc1:=hw'.2;unfold Jou.CvS at hc1;go_simp
 go_frame;refine Frm.wb 8 33 (.agg #[.string ⟨ks.toArray⟩,.string ⟨vs.toArray⟩]) HS.out ?_;go_frame;have f0:u0.frozen? ⟨w.heap.size,0,none⟩=false:=free_at hbx 0;have f1:u0.frozen? ⟨w.heap.size,1,none⟩=false:=free_at hbx 1;have k0:=cell_at hbx 0;have k1:=cell_at hbx 1;have hst:=set_at (set_at hbx 0 (.string ⟨ks.toArray⟩)) 1 (.string ⟨vs.toArray⟩);have HST:=hid hst;have hg2:u0.grownBy ((u0.setCell ⟨w.heap.size,0,none⟩ (.string ⟨ks.toArray⟩)).setCell ⟨w.heap.size,1,none⟩ (.string ⟨vs.toArray⟩)) (some w.heap.size):=grown_trans (grown_set u0 w.heap.size 0 _) (grown_set _ w.heap.size 1 _);have HS2:=hid (HSB.out _ hg2);have HB2:Hid (Below w.heap.size w ((u0.setCell ⟨w.heap.size,0,none⟩ (.string ⟨ks.toArray⟩)).setCell ⟨w.heap.size,1,none⟩ (.string ⟨vs.toArray⟩))):=hid (HBD.out.grown hg2 HBD.out.size (fun q hq=>by cases hq;exact Nat.le_refl _));clear hst hg2;refine Frm.wh_store 9 ((u0.setCell ⟨w.heap.size,0,none⟩ (.string ⟨ks.toArray⟩)).setCell ⟨w.heap.size,1,none⟩ (.string ⟨vs.toArray⟩)) rfl rfl (by kernel_rfl) rfl ?_ ?_ ?_
 ·go_simp
 ·exact HS2.out
 clear f0 f1 k0 k1 hbx HSB HBD;generalize ((u0.setCell ⟨w.heap.size,0,none⟩ (.string ⟨ks.toArray⟩)).setCell ⟨w.heap.size,1,none⟩ (.string ⟨vs.toArray⟩))=u2 at *;refine Frm.wa 10 3 (.bool true) HS2.out ?_;go_frame;refine wpAnyH_done (by kernel_rfl) ?_ _;go_wp2_with fail;have y0:=cell_at HST.out 0;have y1:=cell_at HST.out 1;exact bodyPost_ret (v:= .tuple #[.agg #[.string ⟨ks.toArray⟩,.string ⟨vs.toArray⟩],.bool true]) (by simp[results,Tryz.results33,go_sem,y0,y1]) rfl ⟨by rw[HU.out.2,HU.out.1];first|done|rfl,HB2.out⟩
end Go.Proofs.YtdjhlhellkajfaaGreat.Cch
namespace Go.Proofs.YtdjhlhellkajfaaGreat.Cch
open Go.RowKit Codec Cod
theorem run_mid(w:World)(A:Option Addr)(n c Q:Nat)(hQ:8+Q≤c):(Instr.slice 39 (.slice A n c) (some (.int .i64 8)) (some (.int .i64 (8+(Q:Int)))) none).run Tryz.prog w= .ok (.slice (if c=8 then A else A.map (·.add 8)) Q (c-8)) w:=by
 rw[run_slice_lh (P:=Tryz.prog) w 39 A n c Tryz.underlying39 .i64 .i64 8 (8+(Q:Int)) (by omega) (by omega) (by omega),size5];have e:(8+(Q:Int)).toNat=8+Q:=by omega
 simp[Result.andThen,sliced,e]
theorem run_tail(w:World)(A:Option Addr)(n c Q:Nat)(hQ:8+Q≤n):(Instr.slice 39 (.slice A n c) (some (.int .i64 (8+(Q:Int)))) none none).run Tryz.prog w= .ok (.slice (if c=8+Q then A else A.map (·.add (8+Q))) (n-(8+Q)) (c-(8+Q))) w:=by
 have:=run_from w A n c (8+Q) hQ;rwa [show((8+Q:Nat):Int)=8+(Q:Int) by push_cast;rfl] at this
theorem runpack_any(w:World)(B n c:Nat)(A:Option Addr)(b:List UInt8)(hb:Byts w B A n b)(hB:B≤w.heap.size)(hnc:n≤c)(hcm:n≤1000000000)(hcc:c≤maxLen):
  Calls Tryz.prog 34 #[.slice A n c] w (EndsBelow (.tuple #[entV (unE b),.bool (unB b)]) w):=by
 have hlen:=hb.len;have HX0:=hid (heap_alloc_new w (.cells #[.string ⟨#[]⟩,.string ⟨#[]⟩] 61));have HB0:Hid (Below w.heap.size w (w.alloc (.cells #[.string ⟨#[]⟩,.string ⟨#[]⟩] 61))):=hid (Frm.alloc_below w _);have HSZ:Hid ((w.alloc (.cells #[.string ⟨#[]⟩,.string ⟨#[]⟩] 61)).heap.size=w.heap.size+1):=hid (World.size_alloc _ _);have HBY0:=hid ((hb.alloc hB (.cells #[.string ⟨#[]⟩,.string ⟨#[]⟩] 61)));have HN0:=numU_in b;have HTK:Hid (tkS 8 ⟨b,false⟩=if n<8 then ⟨[],true⟩ else ⟨b.drop 8,false⟩):=hid (by
  unfold tkS short;by_cases h:n<8
  ·rw[if_pos h,if_pos (by simp;omega)]
  ·rw[if_neg h,if_neg (by simp;omega)])
 unfold entV;go_enter Tryz.func34,Tryz.ntmps34;go_upto_region 2 with fail;generalize w.alloc (.cells #[.string ⟨#[]⟩,.string ⟨#[]⟩] 61)=w0 at *;have HBR:=hid (Frm.alloc_below w0 (.cells #[.slice A n c,.bool false] 138));have HRD:Hid (Rdr 138 (w0.alloc (.cells #[.slice A n c,.bool false] 138)) B w0.heap.size ⟨b,false⟩):=hid ⟨goodOk _,by have:=HSZ.out;omega,A,n,c,heap_alloc_new w0 _,(HBY0.out.alloc (by have:=HSZ.out;omega) _),hnc,hcc,hcm⟩;have hwg:w0.heap.size=w.heap.size+1:=HSZ.out;generalize w0.alloc (.cells #[.slice A n c,.bool false] 138)=w1 at *;rw[hwg] at HRD HBR;clear hwg;obtain⟨g,hg⟩:∃g,w.heap.size+1=g:=⟨_,rfl⟩
 rw[hg] at HRD HBR ⊢;have HNA:=hid (rnum_any w1 B g ⟨b,false⟩ HRD.out);rw[HTK.out] at HNA;have HX1:=hid ((HBR.out.block _ (by omega)).trans HX0.out);have HB1:=hid (HB0.out.trans (HBR.out.mono (by omega)));clear HX0 HB0 HSZ HBY0 HTK HBR HRD;rw[show num ⟨b,false⟩=numU b from rfl] at HNA;have HQB:=hid HN0;have HUE:Hid (∀Q:Nat,numU b=(Q:Int)→unB b=true→unE b=⟨baOf ((b.drop 8).take Q),baOf ((b.drop 8).drop Q)⟩):=hid (fun Q h1 h2=>by
  unfold unE;rw[if_pos h2,h1,Int.toNat_natCast])
 have HUN:Hid (unB b=false→unE b=⟨baOf [],baOf []⟩):=hid (fun h=>by unfold unE;rw[h];rfl);by_cases h8:n<8
 ·rw[if_pos h8] at HNA;have hu:unB b=false:=by unfold unB;rw[decide_eq_false (by omega)];rfl
  have HU:=hid (And.intro hu (HUN.out hu));clear hb hB hnc hcm hlen hu HUE HUN HN0;generalize numU b=q at *;go_wp2_with fail;refine HNA.out.mono ?_;rintro e w2 ⟨rfl,⟨_,_,A2,n2,c2,hr2,_⟩,hg2⟩;have hx2:w2.heap[w.heap.size]? =some (.cells #[.string ⟨#[]⟩,.string ⟨#[]⟩] 61 (0,0)):=(hg2.block _ (lt_of_heap HX1.out) (fun e=>by injection e with e;omega)).trans HX1.out;have HB2:Hid (Below w.heap.size w w2):=hid (HB1.out.grown hg2 HB1.out.size (fun q hq=>by cases hq;omega));have r1:=cell_at hr2 1;have z0:=cell_at hx2 0;have z1:=cell_at hx2 1;have f0:=free_at hx2 0;have f1:=free_at hx2 1;have HX2:=hid hx2;clear hx2 hg2 hr2 HX1 HB1 HNA;go_wp2_with fail;have hx:=set_at (set_at HX2.out 0 (.string ⟨#[]⟩)) 1 (.string ⟨#[]⟩);have y0:=cell_at hx 0;have y1:=cell_at hx 1;exact bodyPost_ret (v:= .tuple #[.agg #[.string ⟨#[]⟩,.string ⟨#[]⟩],.bool false]) (by simp[results,Tryz.results34,go_sem,y0,y1]) rfl ⟨by rw[HU.out.2,HU.out.1];first|done|rfl,(HB2.out.setCell (Nat.le_refl _) _).setCell (Nat.le_refl _) _⟩
 rw[if_neg h8] at HNA;have HUB:Hid (unB b=(decide (0≤numU b)&&decide (numU b≤(n:Int)-8))):=hid (by
  unfold unB;rw[decide_eq_true (by omega),hlen];rfl)
 have HBY:=hid (hb.more hB);have hn8:(8:Int)≤n:=by omega
 have hnb:(n:Int)≤1000000000:=by omega
 have HNC:=hid (And.intro hnc hcm);have HLEN:=hid hlen;clear hb hB hnc hcm hlen HN0 hcc;obtain⟨q,hq⟩:∃q,numU b=q:=⟨_,rfl⟩
 rw[hq] at HNA HQB HUE HUB;go_wp2_with fail;refine HNA.out.mono ?_;rintro e wr ⟨rfl,⟨_,_,A2,n2,c2,hr2,_⟩,hg2⟩;have HX2:Hid (wr.heap[w.heap.size]? =some (.cells #[.string ⟨#[]⟩,.string ⟨#[]⟩] 61 (0,0))):=hid ((hg2.block _ (lt_of_heap HX1.out) (fun e=>by injection e with e;omega)).trans HX1.out);have HB2:Hid (Below w.heap.size w wr):=hid (HB1.out.grown hg2 HB1.out.size (fun q hq=>by cases hq;omega));have r1:=cell_at hr2 1;clear hg2 hr2 HX1 HB1 HNA;go_upto_region 3 with fail;by_cases hq0:q<0
 ·have hu:unB b=false:=by rw[HUB.out,decide_eq_false (by omega)];rfl
  have HU:=hid (And.intro hu (HUN.out hu));have z0:=cell_at HX2.out 0;have z1:=cell_at HX2.out 1;have f0:=free_at HX2.out 0;have f1:=free_at HX2.out 1;clear hu HUB HUE HUN;go_wp2_with fail;have hx:=set_at (set_at HX2.out 0 (.string ⟨#[]⟩)) 1 (.string ⟨#[]⟩);have y0:=cell_at hx 0;have y1:=cell_at hx 1;exact bodyPost_ret (v:= .tuple #[.agg #[.string ⟨#[]⟩,.string ⟨#[]⟩],.bool false]) (by simp[results,Tryz.results34,go_sem,y0,y1]) rfl ⟨by rw[HU.out.2,HU.out.1];first|done|rfl,(HB2.out.setCell (Nat.le_refl _) _).setCell (Nat.le_refl _) _⟩
 obtain⟨Q,rfl⟩:∃Q:Nat,q=(Q:Int):=⟨q.toNat,by omega⟩
 by_cases hq1:(n:Int)-8<(Q:Int)
 ·have hu:unB b=false:=by rw[HUB.out,decide_eq_false (p:=(Q:Int)≤(n:Int)-8) (by omega),Bool.and_false]
  have HU:=hid (And.intro hu (HUN.out hu));have z0:=cell_at HX2.out 0;have z1:=cell_at HX2.out 1;have f0:=free_at HX2.out 0;have f1:=free_at HX2.out 1;clear hu HUB HUE HUN;go_wp2_with fail;have hx:=set_at (set_at HX2.out 0 (.string ⟨#[]⟩)) 1 (.string ⟨#[]⟩);have y0:=cell_at hx 0;have y1:=cell_at hx 1;exact bodyPost_ret (v:= .tuple #[.agg #[.string ⟨#[]⟩,.string ⟨#[]⟩],.bool false]) (by simp[results,Tryz.results34,go_sem,y0,y1]) rfl ⟨by rw[HU.out.2,HU.out.1];first|done|rfl,(HB2.out.setCell (Nat.le_refl _) _).setCell (Nat.le_refl _) _⟩
 have hu:unB b=true:=by rw[HUB.out,decide_eq_true (p:=(Q:Int)≤(n:Int)-8) (by omega),decide_eq_true (by omega)];rfl
 have HU:=hid (And.intro hu (HUE.out Q rfl hu));have hQM:8+Q≤n:=by omega
 have HQW:Hid (IntKind.i64.wrap (8+(Q:Int))=8+(Q:Int)):=hid (IntWalk.i64_in _ (by omega));have hd1:=HBY.out.drop 8 c (by omega) HNC.out.1;have hd2:=HBY.out.drop (8+Q) c hQM HNC.out.1;have e2:b.drop (8+Q)=(b.drop 8).drop Q:=by rw[List.drop_drop]
 rw[e2] at hd2;have hm:=fun u=>run_mid u A n c Q (by have:=HNC.out;omega);have htl:=fun u=>run_tail u A n c Q hQM;obtain⟨T1,hT1⟩:∃T1,(if c=8 then A else A.map (·.add 8))=T1:=⟨_,rfl⟩
 obtain⟨T2,hT2⟩:∃T2,(if c=8+Q then A else A.map (·.add (8+Q)))=T2:=⟨_,rfl⟩
 obtain⟨C8,hC8⟩:∃C8,c-8=C8:=⟨_,rfl⟩
 obtain⟨CQ,hCQ⟩:∃CQ,c-(8+Q)=CQ:=⟨_,rfl⟩
 obtain⟨MQ,hMQ⟩:∃MQ,n-(8+Q)=MQ:=⟨_,rfl⟩
 rw[hT1] at hd1 hm;rw[hT2,hMQ] at hd2 htl;rw[hC8] at hm;rw[hCQ] at htl;have HK1:=hid (hd1.take Q (by omega));have HV1:=hid hd2;have HSL1:=hid hm;have HSL2:=hid htl;have HX1:=HX2;have HB1:=HB2;clear hT1 hT2 hd1 hd2 e2 hm htl hC8 hCQ hMQ HBY hu HUB HUE HUN hq0 HX2 HB2 HNC;generalize (b.drop 8).take Q=ks at *;generalize (b.drop 8).drop Q=vs at *;go_upto_region 5 with fail;have hk:∀u:World,(∀q,q<w.heap.size→u.heap[q]? =w.heap[q]?)→Jou.CvS T1 Q C8 ks u∧Jou.CvS T2 MQ CQ vs u:=fun u hu=>⟨run_string_of u _ Q C8 T1 ks (HK1.out.keep hu),run_string_of u _ MQ CQ T2 vs (HV1.out.keep hu)⟩
 have HS:Hid (Jou.CvS T1 Q C8 ks wr.drew∧Jou.CvS T2 MQ CQ vs wr.drew):=hid (hk _ (fun q hq=>HB1.out.block q hq));have hbx:wr.drew.heap[w.heap.size]? =some (.cells #[.string ⟨#[]⟩,.string ⟨#[]⟩] 61 (0,0)):=HX1.out;have HSB:Hid (∀u:World,wr.drew.grownBy u (some w.heap.size)→Jou.CvS T1 Q C8 ks u∧Jou.CvS T2 MQ CQ vs u):=hid (fun u hu=>hk u fun q hq=>(hu.block q (Nat.lt_trans hq (lt_of_heap hbx)) (fun e=>by injection e with e;omega)).trans (HB1.out.block q hq));have HBD:Hid (Below w.heap.size w wr.drew):=hid HB1.out.drew;have hsl1:=HSL1.out;have hsl2:=HSL2.out;clear hk HK1 HV1 HX1 HB1 HSL1 HSL2;refine Frm.wh_start (fun u=>Jou.CvS T1 Q C8 ks u∧Jou.CvS T2 MQ CQ vs u) (by kernel_rfl) ?_;generalize wr.drew=u0 at *;refine Frm.wa 0 27 (.slice A n c) HS.out ?_;go_frame;refine Frm.wa 1 28 (.int .i64 Q) HS.out ?_;go_frame;refine Frm.wd 2 29 (.int .i64 (8+(Q:Int))) HS.out (fun w' hw'=> ?_) ?_
 ·have h1:=HQW.out;go_simp
 go_frame;refine Frm.wd 3 30 (.slice T1 Q C8) HS.out (fun w' hw'=> ?_) ?_
 ·have h1:=hsl1 w';go_simp
 go_frame;refine Frm.wd 4 31 (.string ⟨ks.toArray⟩) HS.out (fun w' hw'=> ?_) ?_
 ·have hc1:=hw'.1;unfold Jou.CvS at hc1;go_simp
 go_frame;refine Frm.wa 5 32 (.slice A n c) HS.out ?_;go_frame;refine Frm.wa 6 33 (.int .i64 Q) HS.out ?_;go_frame;refine Frm.wd 7 34 (.int .i64 (8+(Q:Int))) HS.out (fun w' hw'=> ?_) ?_
 ·have h1:=HQW.out;go_simp
 go_frame;refine Frm.wd 8 35 (.slice T2 MQ CQ) HS.out (fun w' hw'=> ?_) ?_
 ·have h1:=hsl2 w';go_simp
 go_frame;refine Frm.wd 9 36 (.string ⟨vs.toArray⟩) HS.out (fun w' hw'=> ?_) ?_
 ·have hc1:=hw'.2;unfold Jou.CvS at hc1;go_simp
 go_frame;refine Frm.wb 10 37 (.agg #[.string ⟨ks.toArray⟩,.string ⟨vs.toArray⟩]) HS.out ?_;go_frame;have f0:u0.frozen? ⟨w.heap.size,0,none⟩=false:=free_at hbx 0;have f1:u0.frozen? ⟨w.heap.size,1,none⟩=false:=free_at hbx 1;have k0:=cell_at hbx 0;have k1:=cell_at hbx 1;have hst:=set_at (set_at hbx 0 (.string ⟨ks.toArray⟩)) 1 (.string ⟨vs.toArray⟩);have HST:=hid hst;have hg2:u0.grownBy ((u0.setCell ⟨w.heap.size,0,none⟩ (.string ⟨ks.toArray⟩)).setCell ⟨w.heap.size,1,none⟩ (.string ⟨vs.toArray⟩)) (some w.heap.size):=grown_trans (grown_set u0 w.heap.size 0 _) (grown_set _ w.heap.size 1 _);have HS2:=hid (HSB.out _ hg2);have HB2:Hid (Below w.heap.size w ((u0.setCell ⟨w.heap.size,0,none⟩ (.string ⟨ks.toArray⟩)).setCell ⟨w.heap.size,1,none⟩ (.string ⟨vs.toArray⟩))):=hid (HBD.out.grown hg2 HBD.out.size (fun q hq=>by cases hq;exact Nat.le_refl _));clear hst hg2;refine Frm.wh_store 11 ((u0.setCell ⟨w.heap.size,0,none⟩ (.string ⟨ks.toArray⟩)).setCell ⟨w.heap.size,1,none⟩ (.string ⟨vs.toArray⟩)) rfl rfl (by kernel_rfl) rfl ?_ ?_ ?_
 ·go_simp
 ·exact HS2.out
 clear f0 f1 k0 k1 hbx HSB HBD;generalize ((u0.setCell ⟨w.heap.size,0,none⟩ (.string ⟨ks.toArray⟩)).setCell ⟨w.heap.size,1,none⟩ (.string ⟨vs.toArray⟩))=u2 at *;refine Frm.wa 12 3 (.bool true) HS2.out ?_;go_frame;refine wpAnyH_done (by kernel_rfl) ?_ _;go_wp2_with fail;have y0:=cell_at HST.out 0;have y1:=cell_at HST.out 1;exact bodyPost_ret (v:= .tuple #[.agg #[.string ⟨ks.toArray⟩,.string ⟨vs.toArray⟩],.bool true]) (by simp[results,Tryz.results34,go_sem,y0,y1]) rfl ⟨by rw[HU.out.2,HU.out.1];first|done|rfl,HB2.out⟩
end Go.Proofs.YtdjhlhellkajfaaGreat.Cch
