/-
  Texts ROpn, RPre, in one file. What each proves, and its conditions, stand at its head below.
-/
import Derived.Test.YtdjhlhellkajfaaGreatY23
import Derived.Test.YtdjhlhellkajfaaGreatY24
import Derived.Test.YtdjhlhellkajfaaGreatY43
import Derived.Test.YtdjhlhellkajfaaGreatY44
import Derived.Test.YtdjhlhellkajfaaGreatY51
import Derived.Deep.DeepCutAuto
set_option maxRecDepth 100000
set_option maxHeartbeats 8000000
open Go.Lib (hid)
namespace Go.Proofs.YtdjhlhellkajfaaGreat.Jou
open Go.RowKit Codec FrameM Cod JourM
open Disk (Turn Dk Dsk ptr Now upd)
def ROpened (w:World) (S:List Nat) (r bs bw:Nat) (d:Dsk) (e:Ending) (w':World):Prop:=
 (openB d=true∧∃y,e= .returned (.tuple #[ptr y,.int .i64 0])∧RJ w' S y r bs bw (openD d) (openJ d)∧Turn [r,bs,bw] w w'∧w.heap.size≤y)∨
 (openB d=false∧e= .returned (.tuple #[.pointer none,.int .i64 3])∧Rk w' S r bs bw (openD d)∧Turn [r,bs,bw] w w')
theorem ropen_off(w:World)(S:List Nat)(r bs bw:Nat)(d:Dsk)(h:Rk w S r bs bw d)(h8:8≤d.n)(ho:d.off=true):Calls Tryz.prog 14 #[ptr r] w (Disk.Ends (.tuple #[.pointer none,.int .i64 3]) w):=by
 obtain⟨cs,cw,left,z,h1,_⟩:=h.hd;obtain⟨_,c0,_,_,_,c4,_⟩:=hd5 h1;rw[ho] at c4;have h8':¬(d.n:Int)<8:=by omega
 clear h h1 ho h8;unfold ptr;generalize d.n=n at *;go_enter Tryz.func14,Tryz.ntmps14;go_wp2;exact bodyPost_ret (v:= .tuple #[.pointer none,.int .i64 3]) (by simp[results,Tryz.results14,go_sem]) rfl ⟨rfl,rfl⟩
theorem open_start{wo:World}{S:List Nat}{r bs bw gq:Nat}{d:Dsk}(h:Rk wo S r bs bw d)(hS:∀k∈S,k<wo.heap.size):
  (wo.alloc (yobj r gq none 0 0 false)).heap[wo.heap.size]? =some (yobj r gq none 0 0 false)∧Rk (wo.alloc (yobj r gq none 0 0 false)) (wo.heap.size::S) r bs bw d∧(∀k∈wo.heap.size::S,k<(wo.alloc (yobj r gq none 0 0 false)).heap.size)∧wo.heap.size∉[r,bs,bw]++S:=by
 refine⟨heap_alloc_new wo _,(h.others (S':=wo.heap.size::S) (fun k hk=> ?_)).below (Frm.alloc_below wo _),fun k hk=> ?_,fun hm=> ?_⟩
 ·rcases List.mem_cons.1 hk with rfl|hk
  ·exact .inr (Nat.le_refl _)
  exact .inl hk
 ·rw[World.size_alloc];rcases List.mem_cons.1 hk with rfl|hk
  ·omega
  have:=hS k hk;omega
 rcases List.mem_append.1 hm with e|e
 ·have:=h.lows _ e;omega
 have:=hS _ e;omega
theorem open_end{u0 w9:World}{S:List Nat}{y r bs bw gq c:Nat}{A:Option Addr}{dq:Dsk}(hk:Rk u0 (y::S) r bs bw dq)(hb:Below u0.heap.size u0 w9)(hy:w9.heap[y]? =some (yobj r gq none 0 0 false))(hr:RowsB w9 ([y,r,bs,bw]++S) A (groups (rd dq) dq.n gq).length (groups (rd dq) dq.n gq))(hyo:y∉[r,bs,bw]++S)(h8:8≤dq.n):
  RJ (w9.setCell ⟨y,2,none⟩ (.slice A (groups (rd dq) dq.n gq).length c)) S y r bs bw dq ⟨gq,groups (rd dq) dq.n gq,false⟩:=by
 have ht:Turn [y] w9 (w9.setCell ⟨y,2,none⟩ (.slice A (groups (rd dq) dq.n gq).length c)):=(Turn.refl [y] w9).setCell (.inl (by simp)) _;refine⟨(hk.below hb).turn ht (fun k hk=> .inl (by simp at hk;simp[hk])),⟨A,c,set_at hy 2 _,hr.turn ht (fun k hk=> .inl (by simp at hk;simp[hk]))⟩,hyo,h8,?_⟩;have:=groupsF_takes (rd dq) dq.n gq (room dq.n+1) 0 0 (Nat.zero_le _);show takes (groups (rd dq) dq.n gq)≤room dq.n;unfold groups;omega
def hmax (f:Nat→List UInt8):Nat→Nat
 |0=>0
 |i+1=>max (hmax f i) (headIn f i)
theorem hmax_two(f:Nat→List UInt8):hmax f 2=newest f:=by simp[hmax,newest]
theorem head_cond(f:Nat→List UInt8)(i:Nat)(m0 m1 m2 m3:Int)(ok:Bool)(hm:getM (f i)=⟨m0,m1,m2,m3⟩)(ho:getB (f i)=ok)(hp:0≤m1):
  (headIn f i:Int)=if ok=true∧m0=1∧1≤m1∧m2=0∧m3=0∧m1%2=i then m1 else 0:=by
 unfold headIn headB;rw[hm];simp only[Bool.and_eq_true,decide_eq_true_eq];have he:=eq_cases ⟨m0,m1,m2,m3⟩ (headM m1.toNat);simp only[headM] at he;by_cases hc:ok=true∧m0=1∧1≤m1∧m2=0∧m3=0∧m1%2=i
 ·rw[if_pos hc];obtain⟨_,h0,h1,h2,h3,h4⟩:=hc;rcases he with⟨e,_⟩|⟨_,e⟩
  ·have hcc:(Mk.eq ⟨m0,m1,m2,m3⟩ (headM m1.toNat)=true∧m1.toNat%2=i):=⟨e,by omega⟩
   rw[if_pos hcc];omega
  exfalso;have e1:(m0==1)=true:=by simpa using h0
  have e2:(m1==((m1.toNat:Nat):Int))=true:=by simp;omega
  have e3:(m2==0)=true:=by simpa using h2
  have e4:(m3==0)=true:=by simpa using h3
  rw[e1,e2,e3,e4] at e;simp at e
 rw[if_neg hc];by_cases hcc:(Mk.eq ⟨m0,m1,m2,m3⟩ (headM m1.toNat)=true∧m1.toNat%2=i)
 ·rw[if_pos hcc];obtain⟨h1,h2⟩:=hcc;rcases he with⟨_,e0,e1,e2,e3⟩|⟨e,_⟩
  ·by_cases hz:m1=0
   ·subst hz;rfl
   exfalso;refine hc ⟨?_,by simpa using e0,by omega,by simpa using e2,by simpa using e3,by omega⟩;cases ok with
   |true=>rfl
   |false=>
    rw[getM_no ho] at hm;injection hm with h0;have h0':(0:Int)=m0:=h0;have:m0=1:=by simpa using e0
    omega
  cases h1.symm.trans e
 rw[if_neg hcc];rfl
theorem ropen_any(w:World)(S:List Nat)(r bs bw:Nat)(d:Dsk)(h:Rk w S r bs bw d)(hS:∀k∈S,k<w.heap.size)(h8:8≤d.n)(ho:d.off=false)(hb:newest (rd d)<9223372036854775807):Calls Tryz.prog 14 #[ptr r] w (ROpened w S r bs bw d):=by
 have HD:=hid h;have HS0:=hid hS;have HO:=hid ho;have h65:=h.ok.2.1;have HNB:=hid hb;have HN:=hid (And.intro h8 h65);have HRD:=hid (fun u i (hu:Rk u S r bs bw d) (hi:i<d.n)=>rread_it u S r bs bw d i hu ho hi);obtain⟨cs,cw,left,z,h1,_⟩:=h.hd;obtain⟨_,c0,_,_,_,c4,_⟩:=hd5 h1;rw[ho] at c4;have h8':¬(d.n:Int)<8:=by omega
 clear h hS ho hb h1;unfold ptr at *;go_enter Tryz.func14,Tryz.ntmps14;go_wp2_with fail;go_loopw [4,5,6,7,8,9] (fun gv iv _ _ _ _ wr=>∃i:Nat,i≤2∧iv= .int .i64 i∧gv= .int .i64 (hmax (rd d) i)∧Below w.heap.size w wr) (fun _ iv _ _ _ _ _=>2-(Go.RowKit.intOf iv).toNat)
 case atStart=>exact⟨0,by omega,rfl,rfl,Below.refl _ _⟩
 case round=>
  obtain⟨i,hi,rfl,rfl,hbel⟩:=hrel;have HB:=hid hbel;have HRK:=hid (HD.out.below hbel);clear hbel;by_cases hlt:i<2
  ·as_aux_lemma=>
    have hil:i<d.n:=by omega
    have hrx:d.read i=rd d i:=by unfold rd;rw[if_pos hil]
    have HREAD:=hid (HRD.out wr i HRK.out hil);rw[hrx] at HREAD;have hmp:=getM_pos (rd d i);have hcnd:=head_cond (rd d) i;have hgs:hmax (rd d) (i+1)=max (hmax (rd d) i) (headIn (rd d) i):=rfl;have HGS:=hid hgs;generalize hokk:getB (rd d i)=ok at *;generalize hMM:getM (rd d i)=M at *;obtain⟨m0,m1,m2,m3⟩:=M;have HCND:=hid (hcnd m0 m1 m2 m3 ok rfl rfl hmp.1);clear hcnd hgs hrx hil;obtain⟨hq1,hq2,_,_⟩:=hmp;try dsimp only at hq1
    try dsimp only at hq2
    generalize hmax (rd d) i=g0 at *;generalize headIn (rd d) i=hi0 at *;generalize rd d i=xs at *;clear c0 c4;go_wp2_with fail;refine HREAD.out.mono ?_;rintro e w1 ⟨A1,c1,rfl,hnb,hc1,hm1,hb1,_,_⟩;have HGT:=hid (Frm.rget_any w1 w1.heap.size 64 c1 A1 xs (hnb [] (by simp)).byts (Nat.le_refl _) hc1 hm1);have HB1:=hid hb1;rw[hMM,hokk] at HGT;unfold Frm.tupV Frm.mkV at HGT;try dsimp only at HGT
    clear hnb hc1 hm1 hb1 HREAD;go_wp2_with fail;refine HGT.out.mono ?_;rintro e w2 ⟨rfl,hb2⟩;have HB2:=hid (HB1.out.trans (hb2.mono HB1.out.size));clear hb2 HGT HB1;go_upto_region 11 with fail;have HMB:Hid ((w2.alloc (.cells #[.int .i64 m0,.int .i64 m1,.int .i64 m2,.int .i64 m3] 117)).heap[w2.heap.size]? =some (.cells #[.int .i64 m0,.int .i64 m1,.int .i64 m2,.int .i64 m3] 117 (0,0))):=hid (heap_alloc_new w2 _);have HB3:=hid (HB2.out.alloc HB2.out.size (.cells #[.int .i64 m0,.int .i64 m1,.int .i64 m2,.int .i64 m3] 117));clear HB2;generalize w2.alloc (.cells #[.int .i64 m0,.int .i64 m1,.int .i64 m2,.int .i64 m3] 117)=w3 at *;generalize w2.heap.size=mb at *;have k0:w3.cell? ⟨mb,0,none⟩=some (.int .i64 m0):=cell_at HMB.out 0;have k1:w3.cell? ⟨mb,1,none⟩=some (.int .i64 m1):=cell_at HMB.out 1;have k2:w3.cell? ⟨mb,2,none⟩=some (.int .i64 m2):=cell_at HMB.out 2;have k3:w3.cell? ⟨mb,3,none⟩=some (.int .i64 m3):=cell_at HMB.out 3;have hbit:bits .and .i64 m1 1=m1%2:=i64_and1 m1;clear hMM hokk;go_cut [63] (fun v wx=>w3=wx∧∃v':Bool,v= .bool v'∧(v'=true↔(ok=true∧m0=1∧1≤m1∧m2=0∧m3=0∧m1%2=i)))
    case first=>
     cases ok with
     |false=>
      go_wp2_with fail;go_meet
      exact⟨rfl,false,rfl,by simp⟩
     |true=>
      by_cases h0:m0=1
      ·subst h0;by_cases h1:1≤m1
       ·by_cases h2:m2=0
        ·subst h2;by_cases h3:m3=0
         ·subst h3;by_cases h4:m1%2=i
          ·have h4':(m1%2==(i:Int))=true:=by simpa using h4
           go_wp2_with fail;go_meet
           exact⟨rfl,true,by simp,by simp[h1,h4]⟩
          have h4':(m1%2==(i:Int))=false:=by simpa using h4
          go_wp2_with fail;go_meet
          exact⟨rfl,false,by simp,by simp[h4]⟩
         have h3':(m3==0)=false:=by simpa using h3
         go_wp2_with fail;go_meet
         exact⟨rfl,false,by simp,by simp[h3]⟩
        have h2':(m2==0)=false:=by simpa using h2
        go_wp2_with fail;go_meet
        exact⟨rfl,false,by simp,by simp[h2]⟩
       go_wp2_with fail;go_meet
       exact⟨rfl,false,by simp<;>omega,by simp<;>omega⟩
      have h0':(m0==1)=false:=by simpa using h0
      go_wp2_with fail;go_meet
      exact⟨rfl,false,by simp,by simp[h0]⟩
    case rest=>
     obtain⟨hwx,v',rfl,hv⟩:=hcut;subst hwx;have HBE:=hid (HB.out.trans (HB3.out.mono HB.out.size));cases v' with
     |false=>
      have hh:hi0=0:=by
       have:=HCND.out;rw[if_neg (fun h=>by have:=hv.2 h;cases this)] at this;omega
      have HG1:Hid (hmax (rd d) (i+1)=g0):=hid (by rw[HGS.out,hh];omega);clear hv hh hbit k0 k1 k2 k3;go_wp2_with fail;go_roundw
      case rel=>exact⟨i+1,by omega,by go_num,by rw[HG1.out],HBE.out⟩
      case measure=>simp[Go.RowKit.intOf];omega
     |true=>
      have hh:(hi0:Int)=m1:=by
       have:=HCND.out;rwa [if_pos (hv.1 rfl)] at this
      have HG1:Hid (((hmax (rd d) (i+1):Nat):Int)=max (g0:Int) m1):=hid (by rw[HGS.out,←hh];omega);clear hv hh hbit k0 k2 k3;by_cases hle:(g0:Int)≤m1
      ·have hmx:max (g0:Int) m1=m1:=by omega
       go_wp2_with fail;go_roundw
       case rel=>exact⟨i+1,by omega,by go_num,by rw[HG1.out,hmx],HBE.out⟩
       case measure=>simp[Go.RowKit.intOf];omega
      have hmx:max (g0:Int) m1=g0:=by omega
      go_wp2_with fail;go_roundw
      case rel=>exact⟨i+1,by omega,by go_num,by rw[HG1.out,hmx],HBE.out⟩
      case measure=>simp[Go.RowKit.intOf];omega
  obtain rfl:i=2:=by omega
  rw[hmax_two];clear c0 c4 HRD hi;obtain⟨wo,rfl⟩:∃q:World,q=wr:=⟨_,rfl⟩
  have HSo:Hid (∀k∈S,k<wo.heap.size):=hid (fun k hk=>Nat.lt_of_lt_of_le (HS0.out k hk) HB.out.size);have hmk:∀v:World,(Instr.makeSlice 39 (.int .i64 64) (.int .i64 64)).run Tryz.prog v= .ok (.slice (some ⟨v.heap.size,0,none⟩) 64 64) (v.alloc (.cells (cel (zeros 64)).toArray 5)):=fun v=>Frm.run_make_bytes v 64 (by omega);have HMK:=hid hmk;clear hmk;by_cases hz:newest (rd d)=0
  ·have HZ:=hid hz;rw[hz];clear hz;go_upto_region 16 with fail;have HST:=hid (open_start (gq:=1) HRK.out HSo.out);have HBs:=hid (HB.out.trans ((Frm.alloc_below wo (.cells #[.pointer (some ⟨r,0,none⟩),.int .i64 1,.slice none 0 0,.bool false] 53)).mono HB.out.size));have HYG:Hid (w.heap.size≤wo.heap.size):=hid HB.out.size;unfold yobj at HST;generalize wo.alloc (.cells #[.pointer (some ⟨r,0,none⟩),.int .i64 1,.slice none 0 0,.bool false] 53)=w0 at *;generalize wo.heap.size=y at *;have HY0:=hid HST.out.1;have HK0:=hid HST.out.2.1;have HSS:=hid HST.out.2.2.1;have HYO:=hid HST.out.2.2.2;obtain⟨P1,hP1⟩:∃q,secAt d.n 1 0=q:=⟨_,rfl⟩
   have h8n:=HN.out;have HP1:Hid (P1<d.n):=hid (by rw[←hP1];exact sec_lt (by omega) (by have:=room_pos h8n.1;omega));have H1:Hid (1<(sy (JourM.wr d P1 nul64)).n):=hid (by rw[sy_n,wr_n];omega);have HML:Hid ((put (headM 1)).length=64):=hid (by rw[put_right (by decide),List.length_append,half_length]);have hbl:beginL d.n 1 []=[nul64]:=by
    unfold beginL laidAll endL takes;rw[if_pos (by have:=room_pos h8n.1;omega)];rfl
   have HXB:Hid (openB d=(JourM.go d&&JourM.go (JourM.wr d P1 nul64)&&(JourM.go (sy (JourM.wr d P1 nul64))&&JourM.go (JourM.wr (sy (JourM.wr d P1 nul64)) 1 (put (headM 1)))))):=hid (by
    unfold openB;rw[if_pos HZ.out];unfold beginB keepB keepD;rw[hbl,hP1];cases hg0:JourM.go d
    ·simp[wrsB,wrsD,hg0]
    ·cases hg:JourM.go (sy (JourM.wr d P1 nul64))<;>simp[wrsB,wrsD,hg0,hg])
   have HXD:Hid (openD d=if JourM.go d then (if JourM.go (JourM.wr d P1 nul64) then (if JourM.go (sy (JourM.wr d P1 nul64)) then sy (JourM.wr (sy (JourM.wr d P1 nul64)) 1 (put (headM 1))) else JourM.wr (sy (JourM.wr d P1 nul64)) 1 (put (headM 1))) else sy (JourM.wr d P1 nul64)) else JourM.wr d P1 nul64):=hid (by
    unfold openD;rw[if_pos HZ.out];unfold beginD keepB keepD;rw[hbl,hP1];cases hg0:JourM.go d
    ·simp[wrsB,wrsD,hg0]
    ·cases hg1:JourM.go (JourM.wr d P1 nul64)
     ·simp[wrsB,wrsD,hg0,hg1]
     ·cases hg:JourM.go (sy (JourM.wr d P1 nul64))<;>simp[wrsB,wrsD,hg0,hg1,hg])
   clear HST hbl HRK HB;go_cut [99] (fun v wx=>∃v':Bool,v= .bool v'∧v'= !(openB d)∧Rk wx (y::S) r bs bw (openD d)∧Turn [r,bs,bw] w0 wx)
   case first=>
    have hmk:=HMK.out;have HKd:=hid (HK0.out.below (Below.refl w0.heap.size w0).drew);have HT0:Hid (Turn [r,bs,bw] w0 w0.drew):=hid (Turn.refl _ w0).drew;refine Frm.wh_start (fun _=>True) (by kernel_rfl) ?_;generalize w0.drew=u0 at *;cases hG0:JourM.go d with
    |false=>
     as_aux_lemma=>
      refine Frm.wa 0 77 (.pointer (some ⟨r,0,none⟩)) trivial ?_;go_frame;refine Frm.wa 1 78 (.pointer (some ⟨r,0,none⟩)) trivial ?_;go_frame;refine Frm.wh_all2 2 3 (by kernel_rfl) ?_ ?_
      ·have HF:=hid (first_any u0 (y::S) r bs bw d 1 HKd.out (by omega));rw[hP1] at HF;unfold ptr at HF;refine Frm.wo_call 79 60 #[.pointer (some ⟨r,0,none⟩),.int .i64 1] rfl rfl rfl ?_ ?_
       ·go_simp
       refine HF.out.mono ?_;rintro e u ⟨rfl,rfl⟩;refine⟨_,rfl,trivial,?_⟩;go_frame;refine Frm.wh_run 3 80 (.slice (some ⟨u0.heap.size,0,none⟩) 64 64) (u0.alloc (.cells (cel (zeros 64)).toArray 5)) rfl rfl (by kernel_rfl) rfl ?_ trivial ?_
       ·have:=hmk u0;go_simp
       go_frame;have HK1:=hid (HKd.out.below (Frm.alloc_below u0 (.cells (cel (zeros 64)).toArray 5)));have HT1:=hid (HT0.out.below (Frm.alloc_below u0 (.cells (cel (zeros 64)).toArray 5)));have HX1:Hid (Bts (u0.alloc (.cells (cel (zeros 64)).toArray 5)) [r,bs,bw] (some ⟨u0.heap.size,0,none⟩) 64 nul64):=hid (bts_zero u0 (fun q hq=>HKd.out.lows q hq));generalize u0.alloc (.cells (cel (zeros 64)).toArray 5)=u1 at *;generalize u0.heap.size=bz at *;have HWC:=hid (rwrite_any u1 (y::S) r bs bw d P1 64 (some ⟨bz,0,none⟩) nul64 HK1.out HP1.out HX1.out (fun q hq=>Nat.lt_of_lt_of_le (HSS.out q hq) HT1.out.size));rw[hG0] at HWC;unfold ptr at HWC;refine Frm.wh_call 4 81 59 #[.pointer (some ⟨r,0,none⟩),.int .i64 P1,.slice (some ⟨bz,0,none⟩) 64 64] rfl rfl (by kernel_rfl) rfl ?_ ?_
       ·go_simp
       refine(HWC.out).mono ?_;rintro e w2 ⟨rfl,hr2,ht2⟩;have HK2:=hid hr2;have HT2:=hid (HT1.out.trans ht2);clear hr2 ht2;refine⟨_,rfl,trivial,?_⟩;go_frame;refine Frm.wd 5 82 (.bool true) trivial (fun w' hw'=> ?_) ?_
       ·have hz1:=err_true;have hz2:=err_false;go_simp
       go_frame;refine Frm.wa 6 83 (.bool true) trivial ?_;go_frame;refine Frm.wq 7 84 trivial ?_;go_frame;refine Frm.wq 8 85 trivial ?_;go_frame;refine Frm.wq 9 86 trivial ?_;go_frame;refine Frm.wb 10 87 (.bool true) trivial ?_;go_frame;refine Frm.wa 11 88 (.bool true) trivial ?_;go_frame;refine Frm.wq 12 89 trivial ?_;go_frame;refine Frm.wq 13 90 trivial ?_;go_frame;refine Frm.wq 14 91 trivial ?_;go_frame;refine Frm.wq 15 92 trivial ?_;go_frame;refine Frm.wq 16 93 trivial ?_;go_frame;refine Frm.wb 17 94 (.bool true) trivial ?_;go_frame;refine Frm.wa 18 95 (.bool true) trivial ?_;go_frame;refine Frm.wq 19 96 trivial ?_;go_frame;refine Frm.wq 20 97 trivial ?_;go_frame;refine Frm.wq 21 98 trivial ?_;go_frame;refine Frm.wb 22 99 (.bool true) trivial ?_;go_frame;refine wpAnyH_done (by kernel_rfl) ?_ _;go_wp2_with fail;go_meet
       exact⟨true,rfl,by rw[HXB.out];simp[hG0],by rw[HXD.out];simpa [hG0] using HK2.out,HT2.out⟩
      refine Frm.wo_run 80 (.slice (some ⟨u0.heap.size,0,none⟩) 64 64) (u0.alloc (.cells (cel (zeros 64)).toArray 5)) rfl rfl rfl ?_ ⟨trivial,?_⟩
      ·have:=hmk u0;go_simp
      go_frame;have HK1:=hid (HKd.out.below (Frm.alloc_below u0 (.cells (cel (zeros 64)).toArray 5)));have HT1:=hid (HT0.out.below (Frm.alloc_below u0 (.cells (cel (zeros 64)).toArray 5)));have HX1:Hid (Bts (u0.alloc (.cells (cel (zeros 64)).toArray 5)) [r,bs,bw] (some ⟨u0.heap.size,0,none⟩) 64 nul64):=hid (bts_zero u0 (fun q hq=>HKd.out.lows q hq));generalize u0.alloc (.cells (cel (zeros 64)).toArray 5)=u1 at *;generalize u0.heap.size=bz at *;have HWC:=hid (rwrite_any u1 (y::S) r bs bw d P1 64 (some ⟨bz,0,none⟩) nul64 HK1.out HP1.out HX1.out (fun q hq=>Nat.lt_of_lt_of_le (HSS.out q hq) HT1.out.size));rw[hG0] at HWC;unfold ptr at HWC;have HF:=hid (first_any u1 (y::S) r bs bw d 1 HK1.out (by omega));rw[hP1] at HF;unfold ptr at HF;refine Frm.wh_call 2 79 60 #[.pointer (some ⟨r,0,none⟩),.int .i64 1] rfl rfl (by kernel_rfl) rfl ?_ ?_
      ·go_simp
      refine HF.out.mono ?_;rintro e u ⟨rfl,rfl⟩;refine⟨_,rfl,trivial,?_⟩;go_frame;refine Frm.wh_call 4 81 59 #[.pointer (some ⟨r,0,none⟩),.int .i64 P1,.slice (some ⟨bz,0,none⟩) 64 64] rfl rfl (by kernel_rfl) rfl ?_ ?_
      ·go_simp
      refine(HWC.out).mono ?_;rintro e w2 ⟨rfl,hr2,ht2⟩;have HK2:=hid hr2;have HT2:=hid (HT1.out.trans ht2);clear hr2 ht2;refine⟨_,rfl,trivial,?_⟩;go_frame;refine Frm.wd 5 82 (.bool true) trivial (fun w' hw'=> ?_) ?_
      ·have hz1:=err_true;have hz2:=err_false;go_simp
      go_frame;refine Frm.wa 6 83 (.bool true) trivial ?_;go_frame;refine Frm.wq 7 84 trivial ?_;go_frame;refine Frm.wq 8 85 trivial ?_;go_frame;refine Frm.wq 9 86 trivial ?_;go_frame;refine Frm.wb 10 87 (.bool true) trivial ?_;go_frame;refine Frm.wa 11 88 (.bool true) trivial ?_;go_frame;refine Frm.wq 12 89 trivial ?_;go_frame;refine Frm.wq 13 90 trivial ?_;go_frame;refine Frm.wq 14 91 trivial ?_;go_frame;refine Frm.wq 15 92 trivial ?_;go_frame;refine Frm.wq 16 93 trivial ?_;go_frame;refine Frm.wb 17 94 (.bool true) trivial ?_;go_frame;refine Frm.wa 18 95 (.bool true) trivial ?_;go_frame;refine Frm.wq 19 96 trivial ?_;go_frame;refine Frm.wq 20 97 trivial ?_;go_frame;refine Frm.wq 21 98 trivial ?_;go_frame;refine Frm.wb 22 99 (.bool true) trivial ?_;go_frame;refine wpAnyH_done (by kernel_rfl) ?_ _;go_wp2_with fail;go_meet
      exact⟨true,rfl,by rw[HXB.out];simp[hG0],by rw[HXD.out];simpa [hG0] using HK2.out,HT2.out⟩
    |true=>
     cases hG1:JourM.go (JourM.wr d P1 nul64) with
     |false=>
      as_aux_lemma=>
       refine Frm.wa 0 77 (.pointer (some ⟨r,0,none⟩)) trivial ?_;go_frame;refine Frm.wa 1 78 (.pointer (some ⟨r,0,none⟩)) trivial ?_;go_frame;refine Frm.wh_all2 2 3 (by kernel_rfl) ?_ ?_
       ·have HF:=hid (first_any u0 (y::S) r bs bw d 1 HKd.out (by omega));rw[hP1] at HF;unfold ptr at HF;refine Frm.wo_call 79 60 #[.pointer (some ⟨r,0,none⟩),.int .i64 1] rfl rfl rfl ?_ ?_
        ·go_simp
        refine HF.out.mono ?_;rintro e u ⟨rfl,rfl⟩;refine⟨_,rfl,trivial,?_⟩;go_frame;refine Frm.wh_run 3 80 (.slice (some ⟨u0.heap.size,0,none⟩) 64 64) (u0.alloc (.cells (cel (zeros 64)).toArray 5)) rfl rfl (by kernel_rfl) rfl ?_ trivial ?_
        ·have:=hmk u0;go_simp
        go_frame;have HK1:=hid (HKd.out.below (Frm.alloc_below u0 (.cells (cel (zeros 64)).toArray 5)));have HT1:=hid (HT0.out.below (Frm.alloc_below u0 (.cells (cel (zeros 64)).toArray 5)));have HX1:Hid (Bts (u0.alloc (.cells (cel (zeros 64)).toArray 5)) [r,bs,bw] (some ⟨u0.heap.size,0,none⟩) 64 nul64):=hid (bts_zero u0 (fun q hq=>HKd.out.lows q hq));generalize u0.alloc (.cells (cel (zeros 64)).toArray 5)=u1 at *;generalize u0.heap.size=bz at *;have HWC:=hid (rwrite_any u1 (y::S) r bs bw d P1 64 (some ⟨bz,0,none⟩) nul64 HK1.out HP1.out HX1.out (fun q hq=>Nat.lt_of_lt_of_le (HSS.out q hq) HT1.out.size));rw[hG0] at HWC;unfold ptr at HWC;refine Frm.wh_call 4 81 59 #[.pointer (some ⟨r,0,none⟩),.int .i64 P1,.slice (some ⟨bz,0,none⟩) 64 64] rfl rfl (by kernel_rfl) rfl ?_ ?_
        ·go_simp
        refine(HWC.out).mono ?_;rintro e w2 ⟨rfl,hr2,ht2⟩;have HK2:=hid hr2;have HT2:=hid (HT1.out.trans ht2);clear hr2 ht2;have HSY:=hid (rsync_any w2 (y::S) r bs bw (JourM.wr d P1 nul64) HK2.out);rw[hG1] at HSY;unfold ptr at HSY;refine⟨_,rfl,trivial,?_⟩;go_frame;refine Frm.wd 5 82 (.bool false) trivial (fun w' hw'=> ?_) ?_
        ·have hz1:=err_true;have hz2:=err_false;go_simp
        go_frame;refine Frm.wa 6 83 (.bool false) trivial ?_;go_frame;refine Frm.wa 7 84 (.pointer (some ⟨r,0,none⟩)) trivial ?_;go_frame;refine Frm.wh_call 8 85 61 #[.pointer (some ⟨r,0,none⟩)] rfl rfl (by kernel_rfl) rfl ?_ ?_
        ·go_simp
        refine(HSY.out).mono ?_;rintro e w3 ⟨rfl,hr3,ht3⟩;have HK3:=hid hr3;have HT3:=hid (HT2.out.trans ht3);clear hr3 ht3;refine⟨_,rfl,trivial,?_⟩;go_frame;refine Frm.wd 9 86 (.bool true) trivial (fun w' hw'=> ?_) ?_
        ·have hz1:=err_true;have hz2:=err_false;go_simp
        go_frame;refine Frm.wb 10 87 (.bool true) trivial ?_;go_frame;refine Frm.wa 11 88 (.bool true) trivial ?_;go_frame;refine Frm.wq 12 89 trivial ?_;go_frame;refine Frm.wq 13 90 trivial ?_;go_frame;refine Frm.wq 14 91 trivial ?_;go_frame;refine Frm.wq 15 92 trivial ?_;go_frame;refine Frm.wq 16 93 trivial ?_;go_frame;refine Frm.wb 17 94 (.bool true) trivial ?_;go_frame;refine Frm.wa 18 95 (.bool true) trivial ?_;go_frame;refine Frm.wq 19 96 trivial ?_;go_frame;refine Frm.wq 20 97 trivial ?_;go_frame;refine Frm.wq 21 98 trivial ?_;go_frame;refine Frm.wb 22 99 (.bool true) trivial ?_;go_frame;refine wpAnyH_done (by kernel_rfl) ?_ _;go_wp2_with fail;go_meet
        exact⟨true,rfl,by rw[HXB.out];simp[hG0,hG1],by rw[HXD.out];simpa [hG0,hG1] using HK3.out,HT3.out⟩
       refine Frm.wo_run 80 (.slice (some ⟨u0.heap.size,0,none⟩) 64 64) (u0.alloc (.cells (cel (zeros 64)).toArray 5)) rfl rfl rfl ?_ ⟨trivial,?_⟩
       ·have:=hmk u0;go_simp
       go_frame;have HK1:=hid (HKd.out.below (Frm.alloc_below u0 (.cells (cel (zeros 64)).toArray 5)));have HT1:=hid (HT0.out.below (Frm.alloc_below u0 (.cells (cel (zeros 64)).toArray 5)));have HX1:Hid (Bts (u0.alloc (.cells (cel (zeros 64)).toArray 5)) [r,bs,bw] (some ⟨u0.heap.size,0,none⟩) 64 nul64):=hid (bts_zero u0 (fun q hq=>HKd.out.lows q hq));generalize u0.alloc (.cells (cel (zeros 64)).toArray 5)=u1 at *;generalize u0.heap.size=bz at *;have HWC:=hid (rwrite_any u1 (y::S) r bs bw d P1 64 (some ⟨bz,0,none⟩) nul64 HK1.out HP1.out HX1.out (fun q hq=>Nat.lt_of_lt_of_le (HSS.out q hq) HT1.out.size));rw[hG0] at HWC;unfold ptr at HWC;have HF:=hid (first_any u1 (y::S) r bs bw d 1 HK1.out (by omega));rw[hP1] at HF;unfold ptr at HF;refine Frm.wh_call 2 79 60 #[.pointer (some ⟨r,0,none⟩),.int .i64 1] rfl rfl (by kernel_rfl) rfl ?_ ?_
       ·go_simp
       refine HF.out.mono ?_;rintro e u ⟨rfl,rfl⟩;refine⟨_,rfl,trivial,?_⟩;go_frame;refine Frm.wh_call 4 81 59 #[.pointer (some ⟨r,0,none⟩),.int .i64 P1,.slice (some ⟨bz,0,none⟩) 64 64] rfl rfl (by kernel_rfl) rfl ?_ ?_
       ·go_simp
       refine(HWC.out).mono ?_;rintro e w2 ⟨rfl,hr2,ht2⟩;have HK2:=hid hr2;have HT2:=hid (HT1.out.trans ht2);clear hr2 ht2;have HSY:=hid (rsync_any w2 (y::S) r bs bw (JourM.wr d P1 nul64) HK2.out);rw[hG1] at HSY;unfold ptr at HSY;refine⟨_,rfl,trivial,?_⟩;go_frame;refine Frm.wd 5 82 (.bool false) trivial (fun w' hw'=> ?_) ?_
       ·have hz1:=err_true;have hz2:=err_false;go_simp
       go_frame;refine Frm.wa 6 83 (.bool false) trivial ?_;go_frame;refine Frm.wa 7 84 (.pointer (some ⟨r,0,none⟩)) trivial ?_;go_frame;refine Frm.wh_call 8 85 61 #[.pointer (some ⟨r,0,none⟩)] rfl rfl (by kernel_rfl) rfl ?_ ?_
       ·go_simp
       refine(HSY.out).mono ?_;rintro e w3 ⟨rfl,hr3,ht3⟩;have HK3:=hid hr3;have HT3:=hid (HT2.out.trans ht3);clear hr3 ht3;refine⟨_,rfl,trivial,?_⟩;go_frame;refine Frm.wd 9 86 (.bool true) trivial (fun w' hw'=> ?_) ?_
       ·have hz1:=err_true;have hz2:=err_false;go_simp
       go_frame;refine Frm.wb 10 87 (.bool true) trivial ?_;go_frame;refine Frm.wa 11 88 (.bool true) trivial ?_;go_frame;refine Frm.wq 12 89 trivial ?_;go_frame;refine Frm.wq 13 90 trivial ?_;go_frame;refine Frm.wq 14 91 trivial ?_;go_frame;refine Frm.wq 15 92 trivial ?_;go_frame;refine Frm.wq 16 93 trivial ?_;go_frame;refine Frm.wb 17 94 (.bool true) trivial ?_;go_frame;refine Frm.wa 18 95 (.bool true) trivial ?_;go_frame;refine Frm.wq 19 96 trivial ?_;go_frame;refine Frm.wq 20 97 trivial ?_;go_frame;refine Frm.wq 21 98 trivial ?_;go_frame;refine Frm.wb 22 99 (.bool true) trivial ?_;go_frame;refine wpAnyH_done (by kernel_rfl) ?_ _;go_wp2_with fail;go_meet
       exact⟨true,rfl,by rw[HXB.out];simp[hG0,hG1],by rw[HXD.out];simpa [hG0,hG1] using HK3.out,HT3.out⟩
     |true=>
      cases hG3:JourM.go (sy (JourM.wr d P1 nul64)) with
      |false=>
       as_aux_lemma=>
        refine Frm.wa 0 77 (.pointer (some ⟨r,0,none⟩)) trivial ?_;go_frame;refine Frm.wa 1 78 (.pointer (some ⟨r,0,none⟩)) trivial ?_;go_frame;refine Frm.wh_all2 2 3 (by kernel_rfl) ?_ ?_
        ·have HF:=hid (first_any u0 (y::S) r bs bw d 1 HKd.out (by omega));rw[hP1] at HF;unfold ptr at HF;refine Frm.wo_call 79 60 #[.pointer (some ⟨r,0,none⟩),.int .i64 1] rfl rfl rfl ?_ ?_
         ·go_simp
         refine HF.out.mono ?_;rintro e u ⟨rfl,rfl⟩;refine⟨_,rfl,trivial,?_⟩;go_frame;refine Frm.wh_run 3 80 (.slice (some ⟨u0.heap.size,0,none⟩) 64 64) (u0.alloc (.cells (cel (zeros 64)).toArray 5)) rfl rfl (by kernel_rfl) rfl ?_ trivial ?_
         ·have:=hmk u0;go_simp
         go_frame;have HK1:=hid (HKd.out.below (Frm.alloc_below u0 (.cells (cel (zeros 64)).toArray 5)));have HT1:=hid (HT0.out.below (Frm.alloc_below u0 (.cells (cel (zeros 64)).toArray 5)));have HX1:Hid (Bts (u0.alloc (.cells (cel (zeros 64)).toArray 5)) [r,bs,bw] (some ⟨u0.heap.size,0,none⟩) 64 nul64):=hid (bts_zero u0 (fun q hq=>HKd.out.lows q hq));generalize u0.alloc (.cells (cel (zeros 64)).toArray 5)=u1 at *;generalize u0.heap.size=bz at *;have HWC:=hid (rwrite_any u1 (y::S) r bs bw d P1 64 (some ⟨bz,0,none⟩) nul64 HK1.out HP1.out HX1.out (fun q hq=>Nat.lt_of_lt_of_le (HSS.out q hq) HT1.out.size));rw[hG0] at HWC;unfold ptr at HWC;refine Frm.wh_call 4 81 59 #[.pointer (some ⟨r,0,none⟩),.int .i64 P1,.slice (some ⟨bz,0,none⟩) 64 64] rfl rfl (by kernel_rfl) rfl ?_ ?_
         ·go_simp
         refine(HWC.out).mono ?_;rintro e w2 ⟨rfl,hr2,ht2⟩;have HK2:=hid hr2;have HT2:=hid (HT1.out.trans ht2);clear hr2 ht2;have HSY:=hid (rsync_any w2 (y::S) r bs bw (JourM.wr d P1 nul64) HK2.out);rw[hG1] at HSY;unfold ptr at HSY;refine⟨_,rfl,trivial,?_⟩;go_frame;refine Frm.wd 5 82 (.bool false) trivial (fun w' hw'=> ?_) ?_
         ·have hz1:=err_true;have hz2:=err_false;go_simp
         go_frame;refine Frm.wa 6 83 (.bool false) trivial ?_;go_frame;refine Frm.wa 7 84 (.pointer (some ⟨r,0,none⟩)) trivial ?_;go_frame;refine Frm.wh_call 8 85 61 #[.pointer (some ⟨r,0,none⟩)] rfl rfl (by kernel_rfl) rfl ?_ ?_
         ·go_simp
         refine(HSY.out).mono ?_;rintro e w3 ⟨rfl,hr3,ht3⟩;have HK3:=hid hr3;have HT3:=hid (HT2.out.trans ht3);clear hr3 ht3;refine⟨_,rfl,trivial,?_⟩;go_frame;refine Frm.wd 9 86 (.bool false) trivial (fun w' hw'=> ?_) ?_
         ·have hz1:=err_true;have hz2:=err_false;go_simp
         go_frame;refine Frm.wb 10 87 (.bool false) trivial ?_;go_frame;refine Frm.wa 11 88 (.bool false) trivial ?_;go_frame;refine Frm.wa 12 89 (.pointer (some ⟨r,0,none⟩)) trivial ?_;go_frame;refine Frm.wb 13 90 (.agg #[.int .i64 1,.int .i64 1,.int .i64 0,.int .i64 0]) trivial ?_;go_frame;refine Frm.wh_call 14 91 62 #[.agg #[.int .i64 1,.int .i64 1,.int .i64 0,.int .i64 0]] rfl rfl (by kernel_rfl) rfl ?_ ?_
         ·go_simp
         refine(Frm.rput_any (headM 1) w3).mono ?_;rintro e w4 ⟨A4,c4,rfl,hy4,hb4,hc4,hm4,ha4⟩;rw[HML.out] at hy4 hc4 ⊢;have HK4:=hid (HK3.out.below hb4);have HT4:=hid (HT3.out.below hb4);have HX4:Hid (Bts w4 [r,bs,bw] A4 64 (put (headM 1))):=hid (Bts.above hy4 ha4 (fun q hq=>HK3.out.lows q hq));have HWD:=hid (rwrite_any w4 (y::S) r bs bw (sy (JourM.wr d P1 nul64)) 1 c4 A4 (put (headM 1)) HK4.out H1.out HX4.out (fun q hq=>Nat.lt_of_lt_of_le (HSS.out q hq) HT4.out.size));rw[hG3] at HWD;unfold ptr at HWD;clear hy4 hb4 hc4 hm4 ha4;refine⟨_,rfl,trivial,?_⟩;go_frame;refine Frm.wh_call 15 92 59 #[.pointer (some ⟨r,0,none⟩),.int .i64 1,.slice A4 64 c4] rfl rfl (by kernel_rfl) rfl ?_ ?_
         ·go_simp
         refine(HWD.out).mono ?_;rintro e w5 ⟨rfl,hr5,ht5⟩;have HK5:=hid hr5;have HT5:=hid (HT4.out.trans ht5);clear hr5 ht5;refine⟨_,rfl,trivial,?_⟩;go_frame;refine Frm.wd 16 93 (.bool true) trivial (fun w' hw'=> ?_) ?_
         ·have hz1:=err_true;have hz2:=err_false;go_simp
         go_frame;refine Frm.wb 17 94 (.bool true) trivial ?_;go_frame;refine Frm.wa 18 95 (.bool true) trivial ?_;go_frame;refine Frm.wq 19 96 trivial ?_;go_frame;refine Frm.wq 20 97 trivial ?_;go_frame;refine Frm.wq 21 98 trivial ?_;go_frame;refine Frm.wb 22 99 (.bool true) trivial ?_;go_frame;refine wpAnyH_done (by kernel_rfl) ?_ _;go_wp2_with fail;go_meet
         exact⟨true,rfl,by rw[HXB.out];simp[hG0,hG1,hG3],by rw[HXD.out];simpa [hG0,hG1,hG3] using HK5.out,HT5.out⟩
        refine Frm.wo_run 80 (.slice (some ⟨u0.heap.size,0,none⟩) 64 64) (u0.alloc (.cells (cel (zeros 64)).toArray 5)) rfl rfl rfl ?_ ⟨trivial,?_⟩
        ·have:=hmk u0;go_simp
        go_frame;have HK1:=hid (HKd.out.below (Frm.alloc_below u0 (.cells (cel (zeros 64)).toArray 5)));have HT1:=hid (HT0.out.below (Frm.alloc_below u0 (.cells (cel (zeros 64)).toArray 5)));have HX1:Hid (Bts (u0.alloc (.cells (cel (zeros 64)).toArray 5)) [r,bs,bw] (some ⟨u0.heap.size,0,none⟩) 64 nul64):=hid (bts_zero u0 (fun q hq=>HKd.out.lows q hq));generalize u0.alloc (.cells (cel (zeros 64)).toArray 5)=u1 at *;generalize u0.heap.size=bz at *;have HWC:=hid (rwrite_any u1 (y::S) r bs bw d P1 64 (some ⟨bz,0,none⟩) nul64 HK1.out HP1.out HX1.out (fun q hq=>Nat.lt_of_lt_of_le (HSS.out q hq) HT1.out.size));rw[hG0] at HWC;unfold ptr at HWC;have HF:=hid (first_any u1 (y::S) r bs bw d 1 HK1.out (by omega));rw[hP1] at HF;unfold ptr at HF;refine Frm.wh_call 2 79 60 #[.pointer (some ⟨r,0,none⟩),.int .i64 1] rfl rfl (by kernel_rfl) rfl ?_ ?_
        ·go_simp
        refine HF.out.mono ?_;rintro e u ⟨rfl,rfl⟩;refine⟨_,rfl,trivial,?_⟩;go_frame;refine Frm.wh_call 4 81 59 #[.pointer (some ⟨r,0,none⟩),.int .i64 P1,.slice (some ⟨bz,0,none⟩) 64 64] rfl rfl (by kernel_rfl) rfl ?_ ?_
        ·go_simp
        refine(HWC.out).mono ?_;rintro e w2 ⟨rfl,hr2,ht2⟩;have HK2:=hid hr2;have HT2:=hid (HT1.out.trans ht2);clear hr2 ht2;have HSY:=hid (rsync_any w2 (y::S) r bs bw (JourM.wr d P1 nul64) HK2.out);rw[hG1] at HSY;unfold ptr at HSY;refine⟨_,rfl,trivial,?_⟩;go_frame;refine Frm.wd 5 82 (.bool false) trivial (fun w' hw'=> ?_) ?_
        ·have hz1:=err_true;have hz2:=err_false;go_simp
        go_frame;refine Frm.wa 6 83 (.bool false) trivial ?_;go_frame;refine Frm.wa 7 84 (.pointer (some ⟨r,0,none⟩)) trivial ?_;go_frame;refine Frm.wh_call 8 85 61 #[.pointer (some ⟨r,0,none⟩)] rfl rfl (by kernel_rfl) rfl ?_ ?_
        ·go_simp
        refine(HSY.out).mono ?_;rintro e w3 ⟨rfl,hr3,ht3⟩;have HK3:=hid hr3;have HT3:=hid (HT2.out.trans ht3);clear hr3 ht3;refine⟨_,rfl,trivial,?_⟩;go_frame;refine Frm.wd 9 86 (.bool false) trivial (fun w' hw'=> ?_) ?_
        ·have hz1:=err_true;have hz2:=err_false;go_simp
        go_frame;refine Frm.wb 10 87 (.bool false) trivial ?_;go_frame;refine Frm.wa 11 88 (.bool false) trivial ?_;go_frame;refine Frm.wa 12 89 (.pointer (some ⟨r,0,none⟩)) trivial ?_;go_frame;refine Frm.wb 13 90 (.agg #[.int .i64 1,.int .i64 1,.int .i64 0,.int .i64 0]) trivial ?_;go_frame;refine Frm.wh_call 14 91 62 #[.agg #[.int .i64 1,.int .i64 1,.int .i64 0,.int .i64 0]] rfl rfl (by kernel_rfl) rfl ?_ ?_
        ·go_simp
        refine(Frm.rput_any (headM 1) w3).mono ?_;rintro e w4 ⟨A4,c4,rfl,hy4,hb4,hc4,hm4,ha4⟩;rw[HML.out] at hy4 hc4 ⊢;have HK4:=hid (HK3.out.below hb4);have HT4:=hid (HT3.out.below hb4);have HX4:Hid (Bts w4 [r,bs,bw] A4 64 (put (headM 1))):=hid (Bts.above hy4 ha4 (fun q hq=>HK3.out.lows q hq));have HWD:=hid (rwrite_any w4 (y::S) r bs bw (sy (JourM.wr d P1 nul64)) 1 c4 A4 (put (headM 1)) HK4.out H1.out HX4.out (fun q hq=>Nat.lt_of_lt_of_le (HSS.out q hq) HT4.out.size));rw[hG3] at HWD;unfold ptr at HWD;clear hy4 hb4 hc4 hm4 ha4;refine⟨_,rfl,trivial,?_⟩;go_frame;refine Frm.wh_call 15 92 59 #[.pointer (some ⟨r,0,none⟩),.int .i64 1,.slice A4 64 c4] rfl rfl (by kernel_rfl) rfl ?_ ?_
        ·go_simp
        refine(HWD.out).mono ?_;rintro e w5 ⟨rfl,hr5,ht5⟩;have HK5:=hid hr5;have HT5:=hid (HT4.out.trans ht5);clear hr5 ht5;refine⟨_,rfl,trivial,?_⟩;go_frame;refine Frm.wd 16 93 (.bool true) trivial (fun w' hw'=> ?_) ?_
        ·have hz1:=err_true;have hz2:=err_false;go_simp
        go_frame;refine Frm.wb 17 94 (.bool true) trivial ?_;go_frame;refine Frm.wa 18 95 (.bool true) trivial ?_;go_frame;refine Frm.wq 19 96 trivial ?_;go_frame;refine Frm.wq 20 97 trivial ?_;go_frame;refine Frm.wq 21 98 trivial ?_;go_frame;refine Frm.wb 22 99 (.bool true) trivial ?_;go_frame;refine wpAnyH_done (by kernel_rfl) ?_ _;go_wp2_with fail;go_meet
        exact⟨true,rfl,by rw[HXB.out];simp[hG0,hG1,hG3],by rw[HXD.out];simpa [hG0,hG1,hG3] using HK5.out,HT5.out⟩
      |true=>
       cases hG4:JourM.go (JourM.wr (sy (JourM.wr d P1 nul64)) 1 (put (headM 1))) with
       |false=>
        as_aux_lemma=>
         refine Frm.wa 0 77 (.pointer (some ⟨r,0,none⟩)) trivial ?_;go_frame;refine Frm.wa 1 78 (.pointer (some ⟨r,0,none⟩)) trivial ?_;go_frame;refine Frm.wh_all2 2 3 (by kernel_rfl) ?_ ?_
         ·have HF:=hid (first_any u0 (y::S) r bs bw d 1 HKd.out (by omega));rw[hP1] at HF;unfold ptr at HF;refine Frm.wo_call 79 60 #[.pointer (some ⟨r,0,none⟩),.int .i64 1] rfl rfl rfl ?_ ?_
          ·go_simp
          refine HF.out.mono ?_;rintro e u ⟨rfl,rfl⟩;refine⟨_,rfl,trivial,?_⟩;go_frame;refine Frm.wh_run 3 80 (.slice (some ⟨u0.heap.size,0,none⟩) 64 64) (u0.alloc (.cells (cel (zeros 64)).toArray 5)) rfl rfl (by kernel_rfl) rfl ?_ trivial ?_
          ·have:=hmk u0;go_simp
          go_frame;have HK1:=hid (HKd.out.below (Frm.alloc_below u0 (.cells (cel (zeros 64)).toArray 5)));have HT1:=hid (HT0.out.below (Frm.alloc_below u0 (.cells (cel (zeros 64)).toArray 5)));have HX1:Hid (Bts (u0.alloc (.cells (cel (zeros 64)).toArray 5)) [r,bs,bw] (some ⟨u0.heap.size,0,none⟩) 64 nul64):=hid (bts_zero u0 (fun q hq=>HKd.out.lows q hq));generalize u0.alloc (.cells (cel (zeros 64)).toArray 5)=u1 at *;generalize u0.heap.size=bz at *;have HWC:=hid (rwrite_any u1 (y::S) r bs bw d P1 64 (some ⟨bz,0,none⟩) nul64 HK1.out HP1.out HX1.out (fun q hq=>Nat.lt_of_lt_of_le (HSS.out q hq) HT1.out.size));rw[hG0] at HWC;unfold ptr at HWC;refine Frm.wh_call 4 81 59 #[.pointer (some ⟨r,0,none⟩),.int .i64 P1,.slice (some ⟨bz,0,none⟩) 64 64] rfl rfl (by kernel_rfl) rfl ?_ ?_
          ·go_simp
          refine(HWC.out).mono ?_;rintro e w2 ⟨rfl,hr2,ht2⟩;have HK2:=hid hr2;have HT2:=hid (HT1.out.trans ht2);clear hr2 ht2;have HSY:=hid (rsync_any w2 (y::S) r bs bw (JourM.wr d P1 nul64) HK2.out);rw[hG1] at HSY;unfold ptr at HSY;refine⟨_,rfl,trivial,?_⟩;go_frame;refine Frm.wd 5 82 (.bool false) trivial (fun w' hw'=> ?_) ?_
          ·have hz1:=err_true;have hz2:=err_false;go_simp
          go_frame;refine Frm.wa 6 83 (.bool false) trivial ?_;go_frame;refine Frm.wa 7 84 (.pointer (some ⟨r,0,none⟩)) trivial ?_;go_frame;refine Frm.wh_call 8 85 61 #[.pointer (some ⟨r,0,none⟩)] rfl rfl (by kernel_rfl) rfl ?_ ?_
          ·go_simp
          refine(HSY.out).mono ?_;rintro e w3 ⟨rfl,hr3,ht3⟩;have HK3:=hid hr3;have HT3:=hid (HT2.out.trans ht3);clear hr3 ht3;refine⟨_,rfl,trivial,?_⟩;go_frame;refine Frm.wd 9 86 (.bool false) trivial (fun w' hw'=> ?_) ?_
          ·have hz1:=err_true;have hz2:=err_false;go_simp
          go_frame;refine Frm.wb 10 87 (.bool false) trivial ?_;go_frame;refine Frm.wa 11 88 (.bool false) trivial ?_;go_frame;refine Frm.wa 12 89 (.pointer (some ⟨r,0,none⟩)) trivial ?_;go_frame;refine Frm.wb 13 90 (.agg #[.int .i64 1,.int .i64 1,.int .i64 0,.int .i64 0]) trivial ?_;go_frame;refine Frm.wh_call 14 91 62 #[.agg #[.int .i64 1,.int .i64 1,.int .i64 0,.int .i64 0]] rfl rfl (by kernel_rfl) rfl ?_ ?_
          ·go_simp
          refine(Frm.rput_any (headM 1) w3).mono ?_;rintro e w4 ⟨A4,c4,rfl,hy4,hb4,hc4,hm4,ha4⟩;rw[HML.out] at hy4 hc4 ⊢;have HK4:=hid (HK3.out.below hb4);have HT4:=hid (HT3.out.below hb4);have HX4:Hid (Bts w4 [r,bs,bw] A4 64 (put (headM 1))):=hid (Bts.above hy4 ha4 (fun q hq=>HK3.out.lows q hq));have HWD:=hid (rwrite_any w4 (y::S) r bs bw (sy (JourM.wr d P1 nul64)) 1 c4 A4 (put (headM 1)) HK4.out H1.out HX4.out (fun q hq=>Nat.lt_of_lt_of_le (HSS.out q hq) HT4.out.size));rw[hG3] at HWD;unfold ptr at HWD;clear hy4 hb4 hc4 hm4 ha4;refine⟨_,rfl,trivial,?_⟩;go_frame;refine Frm.wh_call 15 92 59 #[.pointer (some ⟨r,0,none⟩),.int .i64 1,.slice A4 64 c4] rfl rfl (by kernel_rfl) rfl ?_ ?_
          ·go_simp
          refine(HWD.out).mono ?_;rintro e w5 ⟨rfl,hr5,ht5⟩;have HK5:=hid hr5;have HT5:=hid (HT4.out.trans ht5);clear hr5 ht5;have HSZ:=hid (rsync_any w5 (y::S) r bs bw (JourM.wr (sy (JourM.wr d P1 nul64)) 1 (put (headM 1))) HK5.out);rw[hG4] at HSZ;unfold ptr at HSZ;refine⟨_,rfl,trivial,?_⟩;go_frame;refine Frm.wd 16 93 (.bool false) trivial (fun w' hw'=> ?_) ?_
          ·have hz1:=err_true;have hz2:=err_false;go_simp
          go_frame;refine Frm.wb 17 94 (.bool false) trivial ?_;go_frame;refine Frm.wa 18 95 (.bool false) trivial ?_;go_frame;refine Frm.wa 19 96 (.pointer (some ⟨r,0,none⟩)) trivial ?_;go_frame;refine Frm.wh_call 20 97 61 #[.pointer (some ⟨r,0,none⟩)] rfl rfl (by kernel_rfl) rfl ?_ ?_
          ·go_simp
          refine(HSZ.out).mono ?_;rintro e w6 ⟨rfl,hr6,ht6⟩;have HK6:=hid hr6;have HT6:=hid (HT5.out.trans ht6);clear hr6 ht6;refine⟨_,rfl,trivial,?_⟩;go_frame;refine Frm.wd 21 98 (.bool true) trivial (fun w' hw'=> ?_) ?_
          ·have hz1:=err_true;have hz2:=err_false;go_simp
          go_frame;refine Frm.wb 22 99 (.bool true) trivial ?_;go_frame;refine wpAnyH_done (by kernel_rfl) ?_ _;go_wp2_with fail;go_meet
          exact⟨true,rfl,by rw[HXB.out];simp[hG0,hG1,hG3,hG4],by rw[HXD.out];simpa [hG0,hG1,hG3] using HK6.out,HT6.out⟩
         refine Frm.wo_run 80 (.slice (some ⟨u0.heap.size,0,none⟩) 64 64) (u0.alloc (.cells (cel (zeros 64)).toArray 5)) rfl rfl rfl ?_ ⟨trivial,?_⟩
         ·have:=hmk u0;go_simp
         go_frame;have HK1:=hid (HKd.out.below (Frm.alloc_below u0 (.cells (cel (zeros 64)).toArray 5)));have HT1:=hid (HT0.out.below (Frm.alloc_below u0 (.cells (cel (zeros 64)).toArray 5)));have HX1:Hid (Bts (u0.alloc (.cells (cel (zeros 64)).toArray 5)) [r,bs,bw] (some ⟨u0.heap.size,0,none⟩) 64 nul64):=hid (bts_zero u0 (fun q hq=>HKd.out.lows q hq));generalize u0.alloc (.cells (cel (zeros 64)).toArray 5)=u1 at *;generalize u0.heap.size=bz at *;have HWC:=hid (rwrite_any u1 (y::S) r bs bw d P1 64 (some ⟨bz,0,none⟩) nul64 HK1.out HP1.out HX1.out (fun q hq=>Nat.lt_of_lt_of_le (HSS.out q hq) HT1.out.size));rw[hG0] at HWC;unfold ptr at HWC;have HF:=hid (first_any u1 (y::S) r bs bw d 1 HK1.out (by omega));rw[hP1] at HF;unfold ptr at HF;refine Frm.wh_call 2 79 60 #[.pointer (some ⟨r,0,none⟩),.int .i64 1] rfl rfl (by kernel_rfl) rfl ?_ ?_
         ·go_simp
         refine HF.out.mono ?_;rintro e u ⟨rfl,rfl⟩;refine⟨_,rfl,trivial,?_⟩;go_frame;refine Frm.wh_call 4 81 59 #[.pointer (some ⟨r,0,none⟩),.int .i64 P1,.slice (some ⟨bz,0,none⟩) 64 64] rfl rfl (by kernel_rfl) rfl ?_ ?_
         ·go_simp
         refine(HWC.out).mono ?_;rintro e w2 ⟨rfl,hr2,ht2⟩;have HK2:=hid hr2;have HT2:=hid (HT1.out.trans ht2);clear hr2 ht2;have HSY:=hid (rsync_any w2 (y::S) r bs bw (JourM.wr d P1 nul64) HK2.out);rw[hG1] at HSY;unfold ptr at HSY;refine⟨_,rfl,trivial,?_⟩;go_frame;refine Frm.wd 5 82 (.bool false) trivial (fun w' hw'=> ?_) ?_
         ·have hz1:=err_true;have hz2:=err_false;go_simp
         go_frame;refine Frm.wa 6 83 (.bool false) trivial ?_;go_frame;refine Frm.wa 7 84 (.pointer (some ⟨r,0,none⟩)) trivial ?_;go_frame;refine Frm.wh_call 8 85 61 #[.pointer (some ⟨r,0,none⟩)] rfl rfl (by kernel_rfl) rfl ?_ ?_
         ·go_simp
         refine(HSY.out).mono ?_;rintro e w3 ⟨rfl,hr3,ht3⟩;have HK3:=hid hr3;have HT3:=hid (HT2.out.trans ht3);clear hr3 ht3;refine⟨_,rfl,trivial,?_⟩;go_frame;refine Frm.wd 9 86 (.bool false) trivial (fun w' hw'=> ?_) ?_
         ·have hz1:=err_true;have hz2:=err_false;go_simp
         go_frame;refine Frm.wb 10 87 (.bool false) trivial ?_;go_frame;refine Frm.wa 11 88 (.bool false) trivial ?_;go_frame;refine Frm.wa 12 89 (.pointer (some ⟨r,0,none⟩)) trivial ?_;go_frame;refine Frm.wb 13 90 (.agg #[.int .i64 1,.int .i64 1,.int .i64 0,.int .i64 0]) trivial ?_;go_frame;refine Frm.wh_call 14 91 62 #[.agg #[.int .i64 1,.int .i64 1,.int .i64 0,.int .i64 0]] rfl rfl (by kernel_rfl) rfl ?_ ?_
         ·go_simp
         refine(Frm.rput_any (headM 1) w3).mono ?_;rintro e w4 ⟨A4,c4,rfl,hy4,hb4,hc4,hm4,ha4⟩;rw[HML.out] at hy4 hc4 ⊢;have HK4:=hid (HK3.out.below hb4);have HT4:=hid (HT3.out.below hb4);have HX4:Hid (Bts w4 [r,bs,bw] A4 64 (put (headM 1))):=hid (Bts.above hy4 ha4 (fun q hq=>HK3.out.lows q hq));have HWD:=hid (rwrite_any w4 (y::S) r bs bw (sy (JourM.wr d P1 nul64)) 1 c4 A4 (put (headM 1)) HK4.out H1.out HX4.out (fun q hq=>Nat.lt_of_lt_of_le (HSS.out q hq) HT4.out.size));rw[hG3] at HWD;unfold ptr at HWD;clear hy4 hb4 hc4 hm4 ha4;refine⟨_,rfl,trivial,?_⟩;go_frame;refine Frm.wh_call 15 92 59 #[.pointer (some ⟨r,0,none⟩),.int .i64 1,.slice A4 64 c4] rfl rfl (by kernel_rfl) rfl ?_ ?_
         ·go_simp
         refine(HWD.out).mono ?_;rintro e w5 ⟨rfl,hr5,ht5⟩;have HK5:=hid hr5;have HT5:=hid (HT4.out.trans ht5);clear hr5 ht5;have HSZ:=hid (rsync_any w5 (y::S) r bs bw (JourM.wr (sy (JourM.wr d P1 nul64)) 1 (put (headM 1))) HK5.out);rw[hG4] at HSZ;unfold ptr at HSZ;refine⟨_,rfl,trivial,?_⟩;go_frame;refine Frm.wd 16 93 (.bool false) trivial (fun w' hw'=> ?_) ?_
         ·have hz1:=err_true;have hz2:=err_false;go_simp
         go_frame;refine Frm.wb 17 94 (.bool false) trivial ?_;go_frame;refine Frm.wa 18 95 (.bool false) trivial ?_;go_frame;refine Frm.wa 19 96 (.pointer (some ⟨r,0,none⟩)) trivial ?_;go_frame;refine Frm.wh_call 20 97 61 #[.pointer (some ⟨r,0,none⟩)] rfl rfl (by kernel_rfl) rfl ?_ ?_
         ·go_simp
         refine(HSZ.out).mono ?_;rintro e w6 ⟨rfl,hr6,ht6⟩;have HK6:=hid hr6;have HT6:=hid (HT5.out.trans ht6);clear hr6 ht6;refine⟨_,rfl,trivial,?_⟩;go_frame;refine Frm.wd 21 98 (.bool true) trivial (fun w' hw'=> ?_) ?_
         ·have hz1:=err_true;have hz2:=err_false;go_simp
         go_frame;refine Frm.wb 22 99 (.bool true) trivial ?_;go_frame;refine wpAnyH_done (by kernel_rfl) ?_ _;go_wp2_with fail;go_meet
         exact⟨true,rfl,by rw[HXB.out];simp[hG0,hG1,hG3,hG4],by rw[HXD.out];simpa [hG0,hG1,hG3] using HK6.out,HT6.out⟩
       |true=>
        as_aux_lemma=>
         refine Frm.wa 0 77 (.pointer (some ⟨r,0,none⟩)) trivial ?_;go_frame;refine Frm.wa 1 78 (.pointer (some ⟨r,0,none⟩)) trivial ?_;go_frame;refine Frm.wh_all2 2 3 (by kernel_rfl) ?_ ?_
         ·have HF:=hid (first_any u0 (y::S) r bs bw d 1 HKd.out (by omega));rw[hP1] at HF;unfold ptr at HF;refine Frm.wo_call 79 60 #[.pointer (some ⟨r,0,none⟩),.int .i64 1] rfl rfl rfl ?_ ?_
          ·go_simp
          refine HF.out.mono ?_;rintro e u ⟨rfl,rfl⟩;refine⟨_,rfl,trivial,?_⟩;go_frame;refine Frm.wh_run 3 80 (.slice (some ⟨u0.heap.size,0,none⟩) 64 64) (u0.alloc (.cells (cel (zeros 64)).toArray 5)) rfl rfl (by kernel_rfl) rfl ?_ trivial ?_
          ·have:=hmk u0;go_simp
          go_frame;have HK1:=hid (HKd.out.below (Frm.alloc_below u0 (.cells (cel (zeros 64)).toArray 5)));have HT1:=hid (HT0.out.below (Frm.alloc_below u0 (.cells (cel (zeros 64)).toArray 5)));have HX1:Hid (Bts (u0.alloc (.cells (cel (zeros 64)).toArray 5)) [r,bs,bw] (some ⟨u0.heap.size,0,none⟩) 64 nul64):=hid (bts_zero u0 (fun q hq=>HKd.out.lows q hq));generalize u0.alloc (.cells (cel (zeros 64)).toArray 5)=u1 at *;generalize u0.heap.size=bz at *;have HWC:=hid (rwrite_any u1 (y::S) r bs bw d P1 64 (some ⟨bz,0,none⟩) nul64 HK1.out HP1.out HX1.out (fun q hq=>Nat.lt_of_lt_of_le (HSS.out q hq) HT1.out.size));rw[hG0] at HWC;unfold ptr at HWC;refine Frm.wh_call 4 81 59 #[.pointer (some ⟨r,0,none⟩),.int .i64 P1,.slice (some ⟨bz,0,none⟩) 64 64] rfl rfl (by kernel_rfl) rfl ?_ ?_
          ·go_simp
          refine(HWC.out).mono ?_;rintro e w2 ⟨rfl,hr2,ht2⟩;have HK2:=hid hr2;have HT2:=hid (HT1.out.trans ht2);clear hr2 ht2;have HSY:=hid (rsync_any w2 (y::S) r bs bw (JourM.wr d P1 nul64) HK2.out);rw[hG1] at HSY;unfold ptr at HSY;refine⟨_,rfl,trivial,?_⟩;go_frame;refine Frm.wd 5 82 (.bool false) trivial (fun w' hw'=> ?_) ?_
          ·have hz1:=err_true;have hz2:=err_false;go_simp
          go_frame;refine Frm.wa 6 83 (.bool false) trivial ?_;go_frame;refine Frm.wa 7 84 (.pointer (some ⟨r,0,none⟩)) trivial ?_;go_frame;refine Frm.wh_call 8 85 61 #[.pointer (some ⟨r,0,none⟩)] rfl rfl (by kernel_rfl) rfl ?_ ?_
          ·go_simp
          refine(HSY.out).mono ?_;rintro e w3 ⟨rfl,hr3,ht3⟩;have HK3:=hid hr3;have HT3:=hid (HT2.out.trans ht3);clear hr3 ht3;refine⟨_,rfl,trivial,?_⟩;go_frame;refine Frm.wd 9 86 (.bool false) trivial (fun w' hw'=> ?_) ?_
          ·have hz1:=err_true;have hz2:=err_false;go_simp
          go_frame;refine Frm.wb 10 87 (.bool false) trivial ?_;go_frame;refine Frm.wa 11 88 (.bool false) trivial ?_;go_frame;refine Frm.wa 12 89 (.pointer (some ⟨r,0,none⟩)) trivial ?_;go_frame;refine Frm.wb 13 90 (.agg #[.int .i64 1,.int .i64 1,.int .i64 0,.int .i64 0]) trivial ?_;go_frame;refine Frm.wh_call 14 91 62 #[.agg #[.int .i64 1,.int .i64 1,.int .i64 0,.int .i64 0]] rfl rfl (by kernel_rfl) rfl ?_ ?_
          ·go_simp
          refine(Frm.rput_any (headM 1) w3).mono ?_;rintro e w4 ⟨A4,c4,rfl,hy4,hb4,hc4,hm4,ha4⟩;rw[HML.out] at hy4 hc4 ⊢;have HK4:=hid (HK3.out.below hb4);have HT4:=hid (HT3.out.below hb4);have HX4:Hid (Bts w4 [r,bs,bw] A4 64 (put (headM 1))):=hid (Bts.above hy4 ha4 (fun q hq=>HK3.out.lows q hq));have HWD:=hid (rwrite_any w4 (y::S) r bs bw (sy (JourM.wr d P1 nul64)) 1 c4 A4 (put (headM 1)) HK4.out H1.out HX4.out (fun q hq=>Nat.lt_of_lt_of_le (HSS.out q hq) HT4.out.size));rw[hG3] at HWD;unfold ptr at HWD;clear hy4 hb4 hc4 hm4 ha4;refine⟨_,rfl,trivial,?_⟩;go_frame;refine Frm.wh_call 15 92 59 #[.pointer (some ⟨r,0,none⟩),.int .i64 1,.slice A4 64 c4] rfl rfl (by kernel_rfl) rfl ?_ ?_
          ·go_simp
          refine(HWD.out).mono ?_;rintro e w5 ⟨rfl,hr5,ht5⟩;have HK5:=hid hr5;have HT5:=hid (HT4.out.trans ht5);clear hr5 ht5;have HSZ:=hid (rsync_any w5 (y::S) r bs bw (JourM.wr (sy (JourM.wr d P1 nul64)) 1 (put (headM 1))) HK5.out);rw[hG4] at HSZ;unfold ptr at HSZ;refine⟨_,rfl,trivial,?_⟩;go_frame;refine Frm.wd 16 93 (.bool false) trivial (fun w' hw'=> ?_) ?_
          ·have hz1:=err_true;have hz2:=err_false;go_simp
          go_frame;refine Frm.wb 17 94 (.bool false) trivial ?_;go_frame;refine Frm.wa 18 95 (.bool false) trivial ?_;go_frame;refine Frm.wa 19 96 (.pointer (some ⟨r,0,none⟩)) trivial ?_;go_frame;refine Frm.wh_call 20 97 61 #[.pointer (some ⟨r,0,none⟩)] rfl rfl (by kernel_rfl) rfl ?_ ?_
          ·go_simp
          refine(HSZ.out).mono ?_;rintro e w6 ⟨rfl,hr6,ht6⟩;have HK6:=hid hr6;have HT6:=hid (HT5.out.trans ht6);clear hr6 ht6;refine⟨_,rfl,trivial,?_⟩;go_frame;refine Frm.wd 21 98 (.bool false) trivial (fun w' hw'=> ?_) ?_
          ·have hz1:=err_true;have hz2:=err_false;go_simp
          go_frame;refine Frm.wb 22 99 (.bool false) trivial ?_;go_frame;refine wpAnyH_done (by kernel_rfl) ?_ _;go_wp2_with fail;go_meet
          exact⟨false,rfl,by rw[HXB.out];simp[hG0,hG1,hG3,hG4],by rw[HXD.out];simpa [hG0,hG1,hG3] using HK6.out,HT6.out⟩
         refine Frm.wo_run 80 (.slice (some ⟨u0.heap.size,0,none⟩) 64 64) (u0.alloc (.cells (cel (zeros 64)).toArray 5)) rfl rfl rfl ?_ ⟨trivial,?_⟩
         ·have:=hmk u0;go_simp
         go_frame;have HK1:=hid (HKd.out.below (Frm.alloc_below u0 (.cells (cel (zeros 64)).toArray 5)));have HT1:=hid (HT0.out.below (Frm.alloc_below u0 (.cells (cel (zeros 64)).toArray 5)));have HX1:Hid (Bts (u0.alloc (.cells (cel (zeros 64)).toArray 5)) [r,bs,bw] (some ⟨u0.heap.size,0,none⟩) 64 nul64):=hid (bts_zero u0 (fun q hq=>HKd.out.lows q hq));generalize u0.alloc (.cells (cel (zeros 64)).toArray 5)=u1 at *;generalize u0.heap.size=bz at *;have HWC:=hid (rwrite_any u1 (y::S) r bs bw d P1 64 (some ⟨bz,0,none⟩) nul64 HK1.out HP1.out HX1.out (fun q hq=>Nat.lt_of_lt_of_le (HSS.out q hq) HT1.out.size));rw[hG0] at HWC;unfold ptr at HWC;have HF:=hid (first_any u1 (y::S) r bs bw d 1 HK1.out (by omega));rw[hP1] at HF;unfold ptr at HF;refine Frm.wh_call 2 79 60 #[.pointer (some ⟨r,0,none⟩),.int .i64 1] rfl rfl (by kernel_rfl) rfl ?_ ?_
         ·go_simp
         refine HF.out.mono ?_;rintro e u ⟨rfl,rfl⟩;refine⟨_,rfl,trivial,?_⟩;go_frame;refine Frm.wh_call 4 81 59 #[.pointer (some ⟨r,0,none⟩),.int .i64 P1,.slice (some ⟨bz,0,none⟩) 64 64] rfl rfl (by kernel_rfl) rfl ?_ ?_
         ·go_simp
         refine(HWC.out).mono ?_;rintro e w2 ⟨rfl,hr2,ht2⟩;have HK2:=hid hr2;have HT2:=hid (HT1.out.trans ht2);clear hr2 ht2;have HSY:=hid (rsync_any w2 (y::S) r bs bw (JourM.wr d P1 nul64) HK2.out);rw[hG1] at HSY;unfold ptr at HSY;refine⟨_,rfl,trivial,?_⟩;go_frame;refine Frm.wd 5 82 (.bool false) trivial (fun w' hw'=> ?_) ?_
         ·have hz1:=err_true;have hz2:=err_false;go_simp
         go_frame;refine Frm.wa 6 83 (.bool false) trivial ?_;go_frame;refine Frm.wa 7 84 (.pointer (some ⟨r,0,none⟩)) trivial ?_;go_frame;refine Frm.wh_call 8 85 61 #[.pointer (some ⟨r,0,none⟩)] rfl rfl (by kernel_rfl) rfl ?_ ?_
         ·go_simp
         refine(HSY.out).mono ?_;rintro e w3 ⟨rfl,hr3,ht3⟩;have HK3:=hid hr3;have HT3:=hid (HT2.out.trans ht3);clear hr3 ht3;refine⟨_,rfl,trivial,?_⟩;go_frame;refine Frm.wd 9 86 (.bool false) trivial (fun w' hw'=> ?_) ?_
         ·have hz1:=err_true;have hz2:=err_false;go_simp
         go_frame;refine Frm.wb 10 87 (.bool false) trivial ?_;go_frame;refine Frm.wa 11 88 (.bool false) trivial ?_;go_frame;refine Frm.wa 12 89 (.pointer (some ⟨r,0,none⟩)) trivial ?_;go_frame;refine Frm.wb 13 90 (.agg #[.int .i64 1,.int .i64 1,.int .i64 0,.int .i64 0]) trivial ?_;go_frame;refine Frm.wh_call 14 91 62 #[.agg #[.int .i64 1,.int .i64 1,.int .i64 0,.int .i64 0]] rfl rfl (by kernel_rfl) rfl ?_ ?_
         ·go_simp
         refine(Frm.rput_any (headM 1) w3).mono ?_;rintro e w4 ⟨A4,c4,rfl,hy4,hb4,hc4,hm4,ha4⟩;rw[HML.out] at hy4 hc4 ⊢;have HK4:=hid (HK3.out.below hb4);have HT4:=hid (HT3.out.below hb4);have HX4:Hid (Bts w4 [r,bs,bw] A4 64 (put (headM 1))):=hid (Bts.above hy4 ha4 (fun q hq=>HK3.out.lows q hq));have HWD:=hid (rwrite_any w4 (y::S) r bs bw (sy (JourM.wr d P1 nul64)) 1 c4 A4 (put (headM 1)) HK4.out H1.out HX4.out (fun q hq=>Nat.lt_of_lt_of_le (HSS.out q hq) HT4.out.size));rw[hG3] at HWD;unfold ptr at HWD;clear hy4 hb4 hc4 hm4 ha4;refine⟨_,rfl,trivial,?_⟩;go_frame;refine Frm.wh_call 15 92 59 #[.pointer (some ⟨r,0,none⟩),.int .i64 1,.slice A4 64 c4] rfl rfl (by kernel_rfl) rfl ?_ ?_
         ·go_simp
         refine(HWD.out).mono ?_;rintro e w5 ⟨rfl,hr5,ht5⟩;have HK5:=hid hr5;have HT5:=hid (HT4.out.trans ht5);clear hr5 ht5;have HSZ:=hid (rsync_any w5 (y::S) r bs bw (JourM.wr (sy (JourM.wr d P1 nul64)) 1 (put (headM 1))) HK5.out);rw[hG4] at HSZ;unfold ptr at HSZ;refine⟨_,rfl,trivial,?_⟩;go_frame;refine Frm.wd 16 93 (.bool false) trivial (fun w' hw'=> ?_) ?_
         ·have hz1:=err_true;have hz2:=err_false;go_simp
         go_frame;refine Frm.wb 17 94 (.bool false) trivial ?_;go_frame;refine Frm.wa 18 95 (.bool false) trivial ?_;go_frame;refine Frm.wa 19 96 (.pointer (some ⟨r,0,none⟩)) trivial ?_;go_frame;refine Frm.wh_call 20 97 61 #[.pointer (some ⟨r,0,none⟩)] rfl rfl (by kernel_rfl) rfl ?_ ?_
         ·go_simp
         refine(HSZ.out).mono ?_;rintro e w6 ⟨rfl,hr6,ht6⟩;have HK6:=hid hr6;have HT6:=hid (HT5.out.trans ht6);clear hr6 ht6;refine⟨_,rfl,trivial,?_⟩;go_frame;refine Frm.wd 21 98 (.bool false) trivial (fun w' hw'=> ?_) ?_
         ·have hz1:=err_true;have hz2:=err_false;go_simp
         go_frame;refine Frm.wb 22 99 (.bool false) trivial ?_;go_frame;refine wpAnyH_done (by kernel_rfl) ?_ _;go_wp2_with fail;go_meet
         exact⟨false,rfl,by rw[HXB.out];simp[hG0,hG1,hG3,hG4],by rw[HXD.out];simpa [hG0,hG1,hG3] using HK6.out,HT6.out⟩
   case rest=>
    obtain⟨v',rfl,hv,hk,ht⟩:=hcut;have HKc:=hid hk;have HTc:=hid ht;have HYc:=hid ((ht.block y (lt_of_heap HY0.out) (fun hm=>HYO.out (List.mem_append_left _ hm))).trans HY0.out);have HSc:Hid (∀q∈[y,r,bs,bw]++S,q<wc.heap.size):=hid (fun q hq=>by
     rcases List.mem_append.1 hq with e|e
     ·rcases List.mem_cons.1 e with rfl|e
      ·exact Nat.lt_of_lt_of_le (HSS.out _ List.mem_cons_self) ht.size
      exact hk.lows q e
     ·exact Nat.lt_of_lt_of_le (HSS.out q (List.mem_cons_of_mem _ e)) ht.size)
    clear hk ht HXB HXD HK0 HY0 HP1 H1 HML;cases hob:openB d with
    |false=>
     rw[hob] at hv;subst hv;have HE:Hid (ROpened w S r bs bw d (.returned (.tuple #[.pointer none,.int .i64 3])) wc):=hid (.inr ⟨hob,rfl,HKc.out.others (fun k hk=> .inl (List.mem_cons_of_mem _ hk)),(Turn.ofBelow (HBs.out.mono (Nat.le_refl _))).then_ HTc.out (fun q hq=> .inl hq)⟩);clear hob;go_wp2_with fail;exact bodyPost_ret (v:= .tuple #[.pointer none,.int .i64 3]) (by simp[results,Tryz.results14,go_sem]) rfl HE.out
    |true=>
     rw[hob] at hv;subst hv;have HOFF:Hid ((openD d).off=false):=hid (openB_on hob HO.out);have H8:Hid (8≤(openD d).n):=hid (by rw[openD_n];exact h8n.1);have HGQ:Hid ((1:Nat)<9223372036854775808):=hid (by omega);have HOB:=hid hob;have HOJ:Hid (openJ d=⟨1,groups (rd (openD d)) (openD d).n 1,false⟩):=hid (by unfold openJ openG;rw[if_pos HZ.out,openD_n]);clear hob;go_upto_region 18 with fail;have k1:wc.cell? ⟨y,1,none⟩=some (.int .i64 1):=cell_at HYc.out 1;have HKd:=HKc;have HGC:=hid (rgroups_any wc (y::S) r bs bw (openD d) 1 HKd.out HOFF.out H8.out HGQ.out);unfold ptr at HGC;go_wp2_with fail;refine HGC.out.mono ?_;rintro e w9 ⟨A9,c9,rfl,hn9,hb9⟩;have HR9:Hid (RowsB w9 ([y,r,bs,bw]++S) A9 (groups (rd (openD d)) (openD d).n 1).length (groups (rd (openD d)) (openD d).n 1)):=hid (hn9 _ (fun q hq=>HSc.out q hq));have HBz:=hid hb9;have HY9:=hid ((hb9.block y (lt_of_heap HYc.out)).trans HYc.out);have k2:w9.cell? ⟨y,2,none⟩=some (.slice none 0 0):=cell_at HY9.out 2;have k2f:w9.frozen? ⟨y,2,none⟩=false:=free_at HY9.out 2;clear hn9 hb9 k1 HGC;go_wp2_with fail;exact bodyPost_ret (v:= .tuple #[.pointer (some ⟨y,0,none⟩),.int .i64 0]) (by simp[results,Tryz.results14,go_sem]) rfl (.inl ⟨HOB.out,y,rfl,by rw[HOJ.out];exact open_end HKd.out HBz.out HY9.out HR9.out HYO.out H8.out,((Turn.ofBelow HBs.out).then_ (HTc.out.below HBz.out) (fun q hq=> .inl hq)).setCell (.inr HYG.out) _,HYG.out⟩)
  have HZ:=hid hz;have hz':¬((newest (rd d):Nat):Int)=0:=by omega
  have HOJ:Hid (openJ d=⟨newest (rd d),groups (rd d) d.n (newest (rd d)),false⟩):=hid (by unfold openJ openG openD;rw[if_neg hz,if_neg hz]);have HOB:Hid (openB d=true∧openD d=d):=hid (by unfold openB openD;rw[if_neg hz,if_neg hz];exact⟨rfl,rfl⟩);have HGQ:Hid (newest (rd d)<9223372036854775808):=hid (by have:=HNB.out;omega);generalize newest (rd d)=gq at *;clear hz;go_upto_region 18 with fail;have HST:=hid (open_start (gq:=gq) HRK.out HSo.out);have HBs:=hid (HB.out.trans ((Frm.alloc_below wo (.cells #[.pointer (some ⟨r,0,none⟩),.int .i64 gq,.slice none 0 0,.bool false] 53)).mono HB.out.size));have HYG:Hid (w.heap.size≤wo.heap.size):=hid HB.out.size;unfold yobj at HST;generalize wo.alloc (.cells #[.pointer (some ⟨r,0,none⟩),.int .i64 gq,.slice none 0 0,.bool false] 53)=w0 at *;generalize wo.heap.size=y at *;have HYc:=hid HST.out.1;have HKc:=hid HST.out.2.1;have HYO:=hid HST.out.2.2.2;have HSc:Hid (∀q∈[y,r,bs,bw]++S,q<w0.heap.size):=hid (fun q hq=>by
   rcases List.mem_append.1 hq with e|e
   ·rcases List.mem_cons.1 e with rfl|e
    ·exact HST.out.2.2.1 _ List.mem_cons_self
    exact HKc.out.lows q e
   ·exact HST.out.2.2.1 q (List.mem_cons_of_mem _ e))
  have HOFF:=hid HO.out;have H8:Hid (8≤d.n):=hid HN.out.1;clear HST HRK HB hz';have k1:w0.cell? ⟨y,1,none⟩=some (.int .i64 gq):=cell_at HYc.out 1;have HKd:=HKc;have HGC:=hid (rgroups_any w0 (y::S) r bs bw d gq HKd.out HOFF.out H8.out HGQ.out);unfold ptr at HGC;go_wp2_with fail;refine HGC.out.mono ?_;rintro e w9 ⟨A9,c9,rfl,hn9,hb9⟩;have HR9:Hid (RowsB w9 ([y,r,bs,bw]++S) A9 (groups (rd d) d.n gq).length (groups (rd d) d.n gq)):=hid (hn9 _ (fun q hq=>HSc.out q hq));have HBz:=hid hb9;have HY9:=hid ((hb9.block y (lt_of_heap HYc.out)).trans HYc.out);have k2:w9.cell? ⟨y,2,none⟩=some (.slice none 0 0):=cell_at HY9.out 2;have k2f:w9.frozen? ⟨y,2,none⟩=false:=free_at HY9.out 2;clear hn9 hb9 k1 HGC;go_wp2_with fail;exact bodyPost_ret (v:= .tuple #[.pointer (some ⟨y,0,none⟩),.int .i64 0]) (by simp[results,Tryz.results14,go_sem]) rfl (.inl ⟨HOB.out.1,y,rfl,by rw[HOJ.out,HOB.out.2];exact open_end HKd.out HBz.out HY9.out HR9.out HYO.out H8.out,((Turn.ofBelow HBs.out).below HBz.out).setCell (.inr HYG.out) _,HYG.out⟩)
end Go.Proofs.YtdjhlhellkajfaaGreat.Jou
namespace Go.Proofs.YtdjhlhellkajfaaGreat.Jou
open Go.RowKit Codec FrameM Cod JourM
open Disk (Turn Dk Dsk ptr Now Made Nums fresh)
def Own (j g gs gm:Nat) (v:Value):List Nat:=[j,g,gs,gm]++v.ownBlock.toList
theorem Jn.new_own{w w':World}{lo j g gs gm:Nat}{d:Dsk}{jr:Jr}{v:Value}(h:Jn w' lo j g gs gm d jr v)(hj:w.heap.size≤j){S:List Nat}(hg:∀k∈[g,gs,gm],k∈S):∀k∈Own j g gs gm v,k∈S∨w.heap.size≤k:=by
 intro k hk;rcases List.mem_append.1 hk with hk|hk
 ·rcases List.mem_cons.1 hk with rfl|hk
  ·exact .inr hj
  exact .inl (hg k hk)
 obtain⟨its,o1,_⟩:=h.own;have h1:=h.lows j (by simp);have h2:=own_type o1 (by simpa using hk);exact .inr (by have:=h2.1;omega)
end Go.Proofs.YtdjhlhellkajfaaGreat.Jou
