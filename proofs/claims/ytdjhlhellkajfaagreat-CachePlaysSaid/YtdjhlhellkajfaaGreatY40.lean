/-
  Texts FRUnpack, QFRUnpack, in one file. What each proves, and its conditions, stand at its head below.
-/
import Derived.Test.YtdjhlhellkajfaaGreatY15
set_option maxRecDepth 100000
set_option maxHeartbeats 2000000
open Go.Lib (hid)
namespace Go.Proofs.YtdjhlhellkajfaaGreat.Frm
open Go.RowKit Codec FrameM Cod
theorem zero_upto{l:List UInt8}{N r:Nat}(hl:l.length=N+r)(h:∀x,N≤x→x<N+r→l.getD x 0=0):decide (l.drop N=zeros r)=true:=by
 rw[decide_eq_true_eq];refine List.eq_replicate_iff.2 ⟨by rw[List.length_drop];omega,fun b hb=> ?_⟩;obtain⟨x,hx,rfl⟩:=List.getElem_of_mem hb;rw[List.length_drop] at hx;rw[List.getElem_drop];have:=h (N+x) (by omega) (by omega);rwa [getD_of (by omega)] at this
theorem nonzero_at{l:List UInt8}{N r x:Nat}(hl:l.length=N+r)(hx:N≤x)(hx2:x<N+r)(h:l.getD x 0≠0):decide (l.drop N=zeros r)=false:=by
 rw[decide_eq_false_iff_not];intro e;have h2:(l.drop N)[x-N]? =(zeros r)[x-N]? :=by rw[e]
 rw[List.getElem?_drop,show N+(x-N)=x by omega,List.getElem?_eq_getElem (by omega)] at h2;rw[getD_of (by omega)] at h;have h3:x-N<r:=by omega
 simp[zeros,h3] at h2;exact h h2
end Go.Proofs.YtdjhlhellkajfaaGreat.Frm
namespace Go.Proofs.YtdjhlhellkajfaaGreat.Frm
open Go.RowKit Codec FrameM Cod
theorem runpack_wrong(w:World)(k c:Nat)(A:Option Addr)(ls:List (List UInt8))(n:Int)(hn:in64 n)(hl:ls.length=k)(h:¬outer ls n):Calls Tryz.prog 110 #[.slice A k c,.int .i64 n] w (Told w (unpack ls n) (unpackB ls n)):=by
 have hu:=unpack_outer h;have HU:=hid (unpack_no hu);rw[hu,HU.out];clear hu HU;have HN:=hid (rneed_any n w hn);obtain⟨h1,h2⟩:=hn;have hc:n<0∨(0≤n∧1048576<n)∨(0≤n∧n≤1048576∧((k:Int)!=needI n)=true):=by
  unfold outer at h;rw[hl] at h;by_cases a:n<0
  ·exact .inl a
  by_cases b:1048576<n
  ·exact .inr (.inl ⟨by omega,b⟩)
  refine .inr (.inr ⟨by omega,by omega,?_⟩);rw[bne_iff_ne];exact fun e=>h ⟨by omega,by omega,e⟩
 clear h;generalize needI n=q at *;rcases hc with a|⟨a,b⟩|⟨a,b,d⟩
 ·go_enter Tryz.func110,Tryz.ntmps110;go_wp2_with fail;go_ret2;exact told_no w w [] rfl (Below.refl _ _)
 ·go_enter Tryz.func110,Tryz.ntmps110;go_wp2_with fail;go_ret2;exact told_no w w [] rfl (Below.refl _ _)
 go_enter Tryz.func110,Tryz.ntmps110;go_wp2_with fail;refine HN.out.mono ?_;rintro e w1 ⟨rfl,rfl⟩;go_wp2_with fail;go_ret2;exact told_no w w [] rfl (Below.refl _ _)
theorem runpack_right(w:World)(k c:Nat)(A:Option Addr)(ls:List (List UInt8))(N:Nat)(hr:Rows w w.heap.size A k ls)(ho:outer ls (N:Int)):Calls Tryz.prog 110 #[.slice A k c,.int .i64 N] w (Told w (unpack ls N) (unpackB ls N)):=by
 have hkl:=hr.len;have hN:N≤1048576∧need N=k:=by
  obtain⟨_,h2,h3⟩:=ho;rw[needI_nat,hkl] at h3;exact⟨by omega,by omega⟩
 have hNK:N≤64 * k∧k≤16384:=by unfold need at hN;omega
 have HN:=hid (rneed_any (N:Int) w (by unfold in64;omega));rw[needI_nat,hN.2] at HN;have hN1:(0:Int)≤N:=Int.natCast_nonneg _;have hN2:(N:Int)≤1048576:=by omega
 have HO:=hid ho;have HR:=hid hr;have HKL:=hid hkl;have HNK:=hid hNK.1;have hk16:=hNK.2;clear hr ho hkl hN hNK;go_enter Tryz.func110,Tryz.ntmps110;go_wp2_with fail;refine HN.out.mono ?_;rintro e w1 ⟨rfl,rfl⟩;go_wp2_with fail;go_loopw [6,7] (fun v i wr=>∃j:Nat,j≤k∧i= .int .i64 j∧∃A' m' c',v= .slice A' m' c'∧(∀x,x<j→(ls.getD x []).length=64)∧Owns wr w.heap.size (.slice A' m' c') m' (ls.take j).flatten∧Below w.heap.size w wr) (fun _ i _=>k-(intOf i).toNat)
 case atStart=>exact⟨0,by omega,rfl,none,0,0,rfl,fun x hx=>absurd hx (by omega),by simpa using Owns.nil,Below.refl _ _⟩
 case round=>
  obtain⟨j,hj,rfl,A',m',c',rfl,hall,ho,hbel⟩:=hrel;have HA:=hid hall;have HW:=hid ho;have HB:=hid hbel;have HM:Hid (m'=64 * j):=hid (by rw[←flat_len ls j (by rw[HKL.out];exact hj) hall];exact ho.len.symm);clear hall ho hbel;by_cases hlt:j<k
  ·obtain⟨b,off,rfl,hb,hc⟩:=HR.out.at_ (by omega);obtain⟨Aj,cj,h1,h2,h3,h4⟩:=hc j hlt;have hcell:wr.cell? ⟨b,off+j,none⟩=some (.slice Aj (ls.getD j []).length cj):=(HB.out.cell (p:=⟨b,off+j,none⟩) hb).trans h1;have HY:=hid (h2.below HB.out);have h4':cj≤9223372036854775807:=h4;have HJ:Hid (j<ls.length):=hid (by rw[HKL.out];exact hlt);clear h1 h2 hc h4;by_cases hs:(ls.getD j []).length=64
   ·have HS:=hid (flat_step ls j HJ.out);have HSJ:Hid (∀x,x<j+1→(ls.getD x []).length=64):=hid (fun x hx=>by
     by_cases hxj:x=j
     ·rw[hxj];exact hs
     ·exact HA.out x (by omega))
    rw[hs] at hcell HY h3;generalize ls.getD j []=ys at *;clear hs;go_wp2_with (at_builtin;(refine wpList_app _ rfl (.tmp 34) (.tmp 38) rfl w.heap.size (.slice A' m' c') m' (ls.take j).flatten rfl HW.out w.heap.size Aj 64 cj ys rfl HY.out (by have:=HM.out;omega) HB.out.size ?_);intro A1 c1 w1 hown1 hg1;have HO1:=hid hown1;have HG1:=hid hg1;clear hown1 hg1);go_roundw
    case rel=>
     have h1:=HO1.out;rw[←HS.out] at h1;exact⟨j+1,by omega,by go_num,A1,m'+64,c1,rfl,HSJ.out,h1,HB.out.trans (HW.out.below_own HB.out.size HG1.out)⟩
    case measure=>simp[intOf];omega
   have HU:=hid (unpack_short (n:=(N:Int)) HJ.out hs);have HU2:=hid (unpack_no HU.out);generalize (ls.getD j []).length=m at *;have hs':((m:Int)!=64)=true:=by simp;omega
   clear hs;go_wp2_with fail;go_ret2;rw[HU.out];exact told_no w wr _ HU2.out HB.out
  obtain rfl:j=k:=by omega
  have hfl:=flat_len ls j (by rw[HKL.out];exact Nat.le_refl _) HA.out;rw[List.take_of_length_le (by rw[HKL.out];exact Nat.le_refl _)] at hfl HW;have hm:=HM.out;have hnk:=HNK.out;obtain⟨r,hr⟩:∃r,64 * j-N=r:=⟨_,rfl⟩
  have HNR:Hid (ls.flatten.length=N+r):=hid (by omega);have HMN:Hid (m'=N+r):=hid (by omega);have HU:=hid (unpack_some HO.out HKL.out HA.out r (by rw[List.length_drop];omega));obtain⟨A'',c'',e',hmc,hcm⟩:=HW.out.form;injection e' with e1 _ e3;subst e1 e3;have hs1:∀v:World,(Instr.slice 39 (.slice A' m' c') none (some (.int .i64 N)) none).run Tryz.prog v= .ok (.slice A' N c') v:=fun v=>run_to v A' m' c' N (by omega);have HBY:=hid HW.out.byts;have hm20:m'≤1048576:=by omega
  have hcm':c'≤9223372036854775807:=hcm;have hNm:N≤m':=by omega
  clear hfl hm hnk hr hcm hmc;go_wp2_with fail;go_loop [8] (fun i=>∃x:Nat,N≤x∧x≤m'∧i= .int .i64 x∧∀y,N≤y→y<x→ls.flatten.getD y 0=0) (fun i=>m'-(intOf i).toNat)
  case atStart=>exact⟨N,Nat.le_refl _,hNm,rfl,fun y h1 h2=>absurd h2 (by omega)⟩
  case round=>
   obtain⟨x,hx1,hx2,rfl,hz⟩:=hrel;have HZ:=hid hz;clear hz;by_cases hlx:x<m'
   ·obtain⟨b,off,rfl,_,hc⟩:=HBY.out.at_ (by omega);have hcx:=hc x hlx;unfold byt at hcx;clear hc;by_cases h0:ls.flatten.getD x 0=0
    ·rw[h0] at hcx;have HX0:=hid h0;clear h0;go_wp2_with fail;go_round
     case rel=>exact⟨x+1,by omega,by omega,by go_num,fun y h1 h2=>by
      by_cases hy:y=x
      ·rw[hy];exact HX0.out
      ·exact HZ.out y h1 (by omega)⟩
     case measure=>simp[intOf];omega
    have HV:Hid (unpackB ls (N:Int)=false):=hid (by rw[HU.out];exact nonzero_at HNR.out hx1 (by have:=HMN.out;omega) h0);have HV2:=hid (unpack_no HV.out);have hne:(((ls.flatten.getD x 0).toNat:Int)!=0)=true:=by
     rw[bne_iff_ne];intro e;exact h0 (UInt8.toNat_inj.1 (by simpa using e))
    generalize (ls.flatten.getD x 0).toNat=z at *;clear h0;go_wp2_with fail;go_ret2;rw[HV.out];exact told_no w wr _ HV2.out HB.out
   obtain rfl:x=m':=by omega
   have HV:Hid (unpackB ls (N:Int)=true):=hid (by rw[HU.out];exact zero_upto HNR.out (fun y h1 h2=>HZ.out y h1 (by have:=HMN.out;omega)));have HV2:=hid (unpack_yes HV.out);go_wp2_with fail;go_ret2;rw[HV2.out,HV.out];exact⟨A',N,c',rfl,HBY.out.take N hNm,HB.out⟩
theorem runpack_any(w:World)(k c:Nat)(A:Option Addr)(ls:List (List UInt8))(n:Int)(hn:in64 n)(hr:Rows w w.heap.size A k ls):Calls Tryz.prog 110 #[.slice A k c,.int .i64 n] w (Told w (unpack ls n) (unpackB ls n)):=by
 by_cases ho:outer ls n
 ·obtain⟨N,rfl⟩:∃N:Nat,n=N:=⟨n.toNat,by have:=ho.1;omega⟩
  exact runpack_right w k c A ls N hr ho
 exact runpack_wrong w k c A ls n hn hr.len ho
end Go.Proofs.YtdjhlhellkajfaaGreat.Frm
