/-
  Texts RCrash, RJ, RWrite, RRsm, in one file. What each proves, and its conditions, stand at its head below.
-/
import Derived.Test.YtdjhlhellkajfaaGreatY24
import Derived.Test.YtdjhlhellkajfaaGreatY27
import Derived.Test.YtdjhlhellkajfaaGreatY32
import Derived.Test.YtdjhlhellkajfaaGreatY40
import Derived.Deep.DeepCutAuto
set_option maxRecDepth 100000
set_option maxHeartbeats 4000000
open Go.Lib (hid)
namespace Go.Proofs.YtdjhlhellkajfaaGreat.Jou
open Go.RowKit Codec FrameM Cod JourM
open Disk (Turn Dk Dsk ptr Now upd Nums waitsOf crashS surv)
def cntW (d:Dsk) (i:Nat):Nat:=(waitsOf i d.waits).length
theorem waits_succ(f:Nat→Option (List UInt8))(i:Nat):waitsOf (i+1) f=waitsOf i f++(if (f i).isSome then [i] else []):=by
 unfold waitsOf;rw[List.range_succ,List.filter_append];congr 1;cases hfi:(f i).isSome<;>simp[hfi]
theorem cnt_none{d:Dsk}{i:Nat}(h:d.waits i=none):cntW d (i+1)=cntW d i:=by
 unfold cntW;rw[waits_succ,h];simp
theorem cnt_some{d:Dsk}{i:Nat}{s:List UInt8}(h:d.waits i=some s):cntW d (i+1)=cntW d i+1:=by
 unfold cntW;rw[waits_succ,h];simp
theorem waits_split(f:Nat→Option (List UInt8))(i m:Nat):∃l,waitsOf (i+m) f=waitsOf i f++l:=by
 induction m with
 |zero=>exact⟨[],by simp⟩
 |succ m ih=>
  obtain⟨l,hl⟩:=ih;exact⟨l++(if (f (i+m)).isSome then [i+m] else []),by rw[←Nat.add_assoc,waits_succ,hl,List.append_assoc]⟩
theorem waits_at{d:Dsk}{i:Nat}{s:List UInt8}(hi:i<d.n)(h:d.waits i=some s):(waitsOf d.n d.waits).getD (cntW d i) 0=i∧cntW d i<(waitsOf d.n d.waits).length:=by
 obtain⟨l,hl⟩:=waits_split d.waits (i+1) (d.n-(i+1));rw[show i+1+(d.n-(i+1))=d.n by omega,waits_succ,h] at hl;unfold cntW;rw[hl];constructor
 ·simp[List.getD_eq_getElem?_getD]
 simp
theorem surv_get(f:Int){a b:List UInt8}(ha:a.length=64)(hb:b.length=64)(p:Nat)(hp:p<64):(surv f a b).getD p 0=if f%4=1∨(f%4=2∧p<32)∨(f%4=3∧32≤p) then b.getD p 0 else a.getD p 0:=by
 unfold surv;split
 ·rename_i h;simp[h]
 rename_i h1;split
 ·rename_i h;by_cases h32:p<32
  ·rw[if_pos (.inr (.inl ⟨h,h32⟩)),getD_left _ _ _ _ (by simp;omega)];simp[List.getD_eq_getElem?_getD,h32]
  rw[if_neg (by omega),getD_right _ _ _ _ (by simp;omega)];simp[List.getD_eq_getElem?_getD,hb,show 32+(p-32)=p by omega]
 rename_i h2;split
 ·rename_i h;by_cases h32:p<32
  ·rw[if_neg (by omega),getD_left _ _ _ _ (by simp;omega)];simp[List.getD_eq_getElem?_getD,h32]
  rw[if_pos (.inr (.inr ⟨h,by omega⟩)),getD_right _ _ _ _ (by simp;omega)];simp[List.getD_eq_getElem?_getD,ha,show 32+(p-32)=p by omega]
 rename_i h3;rw[if_neg (by omega)]
def midC (d:Dsk) (fs:List Int) (i:Nat):Dsk:={d with safe:=crashS d fs (cntW d i),waits:=fun j=>if j<i then none else d.waits j}
theorem cnt_le{d:Dsk}{i:Nat}(hi:i≤d.n):cntW d i≤(waitsOf d.n d.waits).length:=by
 obtain⟨l,hl⟩:=waits_split d.waits i (d.n-i);rw[show i+(d.n-i)=d.n by omega] at hl;rw[hl];unfold cntW;simp
theorem midC_ok{d:Dsk}(h:d.ok)(fs:List Int){i:Nat}(hi:i≤d.n):(midC d fs i).ok:=by
 refine⟨h.1,h.2.1,fun j hj=>Disk.crashS_length h fs _ (cnt_le hi) j hj,fun j s hs=> ?_,h.2.2.2.2⟩;have hs':(if j<i then none else d.waits j)=some s:=hs;split at hs'
 ·cases hs'
 exact h.2.2.2.1 j s hs'
def Byt64 (w:World) (g:Nat) (F:Nat→UInt8):Prop:=∃C:Array Value,w.heap[g]? =some (.cells C 5 (0,0))∧∀p,p<64→C[p]? =some (byt (F p))
theorem Byt64.set{w:World}{g:Nat}{F:Nat→UInt8}(h:Byt64 w g F)(k:Nat)(b:UInt8):Byt64 (w.setCell ⟨g,k,none⟩ (byt b)) g (fun p=>if p=k then b else F p):=by
 obtain⟨C,h1,h2⟩:=h;refine⟨_,set_at h1 k (byt b),fun p hp=> ?_⟩;by_cases hk:p=k
 ·subst hk;obtain⟨hs,_⟩:=Array.getElem?_eq_some_iff.1 (h2 p hp);simp[hs]
 rw[Array.getElem?_setIfInBounds_ne (by omega),h2 p hp];simp[hk]
theorem Byt64.congr{w:World}{g:Nat}{F F':Nat→UInt8}(h:Byt64 w g F)(e:∀p,p<64→F' p=F p):Byt64 w g F':=by
 obtain⟨C,h1,h2⟩:=h;exact⟨C,h1,fun p hp=>by rw[e p hp];exact h2 p hp⟩
theorem Byt64.cell{w:World}{g:Nat}{F:Nat→UInt8}(h:Byt64 w g F){p:Nat}(hp:p<64):w.cell? ⟨g,p,none⟩=some (byt (F p))∧w.frozen? ⟨g,p,none⟩=false:=by
 obtain⟨C,h1,h2⟩:=h;exact⟨(cell_at h1 p).trans (h2 p hp),free_at h1 p⟩
theorem Byt64.sec{w:World}{g c:Nat}{F:Nat→UInt8}{s:List UInt8}{S:List Nat}(h:Byt64 w g F)(hs:s.length=64)(e:∀p,p<64→F p=s.getD p 0)(hg:∀k∈S,k<g)(h1:64≤c)(h2:c≤maxLen):Sec w S (.slice (some ⟨g,0,none⟩) 64 c) s:=by
 refine Sec.of _ _ ⟨hs,fun _=>⟨g,0,rfl,?_,fun hm=>by have:=hg g hm;omega,fun j hj=> ?_⟩⟩ h1 h2
 ·obtain⟨C,h1,_⟩:=h;exact lt_of_heap h1
 rw[Nat.zero_add,(h.cell hj).1,e j hj]
theorem byt64_own{w:World}{base c:Nat}{A:Option Addr}{s:List UInt8}(h:Owns w base (.slice A 64 c) 64 s):∃g,A=some ⟨g,0,none⟩∧base≤g∧Byt64 w g (fun p=>s.getD p 0)∧64≤c∧c≤maxLen:=by
 obtain⟨A',c',e,h1,h2⟩:=h.form;injection e with _ _ e3;subst e3;rcases h.2 with⟨e,_⟩|⟨g,cap,cur,e,hg,hh,_⟩
 ·cases e
 injection e with e1 _ _;refine⟨g,e1,hg,⟨cur,hh,fun p hp=> ?_⟩,h1,h2⟩;have hc:=World.ownsRow.cells h (g:=g) (by rw[e1];rfl) p (byt (s.getD p 0)) (cel_get s p (by rw[h.len];exact hp));rw[plain_add,cell_at hh] at hc;simpa using hc
def cnd (ψ:Int) (p:Nat):Bool:=decide (ψ=1∨(ψ=2∧p<32)∨(ψ=3∧32≤p))
def mixF (ψ:Int) (j:Nat) (s a:List UInt8) (p:Nat):UInt8:=if p<j∧cnd ψ p=true then s.getD p 0 else a.getD p 0
theorem Byt64.no{w:World}{g:Nat}{ψ:Int}{j:Nat}{s a:List UInt8}(h:Byt64 w g (mixF ψ j s a))(hc:cnd ψ j=false):Byt64 w g (mixF ψ (j+1) s a):=h.congr fun p _=>by
 unfold mixF;by_cases hp:p=j
 ·subst hp;rw[if_neg (fun h=>by rw[hc] at h;cases h.2),if_neg (fun h=>by rw[hc] at h;cases h.2)]
 have he:(p<j+1)↔(p<j):=by omega
 simp only[he]
theorem Byt64.yes{w:World}{g:Nat}{ψ:Int}{j:Nat}{s a:List UInt8}(h:Byt64 w g (mixF ψ j s a))(hc:cnd ψ j=true):Byt64 (w.setCell ⟨g,j,none⟩ (byt (s.getD j 0))) g (mixF ψ (j+1) s a):=(h.set j (s.getD j 0)).congr fun p _=>by
 unfold mixF;by_cases hp:p=j
 ·subst hp;rw[if_pos ⟨by omega,hc⟩,if_pos rfl]
 have he:(p<j+1)↔(p<j):=by omega
 simp only[he,if_neg hp]
theorem mix_surv(φ:Int){s a:List UInt8}(ha:a.length=64)(hs:s.length=64)(p:Nat)(hp:p<64):mixF (φ%4) 64 s a p=(surv φ a s).getD p 0:=by
 rw[surv_get φ ha hs p hp];unfold mixF cnd;simp only[hp,true_and,decide_eq_true_eq]
theorem rem4(z t:Int)(h:z.tmod 4=t): -3≤t∧t≤3∧(t+4).tmod 4=z%4:=by
 have h1:z=4 * z.tdiv 4+z.tmod 4:=(Int.mul_tdiv_add_tmod z 4).symm;rw[h] at h1;have h2: -3≤t∧t≤3:=by
  have:=Int.lt_tmod_of_pos z (b:=4) (by omega);have:=Int.tmod_lt_of_pos z (b:=4) (by omega);omega
 refine⟨h2.1,h2.2,?_⟩;rw[Int.tmod_eq_emod_of_nonneg (by omega)];omega
theorem rcrash_any(w:World)(S:List Nat)(r bs bw:Nat)(d:Dsk)(h:Rk w S r bs bw d)(hS:∀k∈S,k<w.heap.size)(Af:Option Addr)(nf cf:Nat)(fs:List Int)(hN:Nums w [r,bs,bw] Af nf fs)(hnf:nf≤maxLen):
  Calls Tryz.prog 22 #[ptr r,.slice Af nf cf] w (RNow (.tuple #[]) w S r bs bw (d.crash fs)):=by
 have hn:=h.ok.2.1;have HOK:=hid h.ok;have HR0:=hid h;have HLOW:Hid (∀q∈[r,bs,bw]++S,q<w.heap.size):=hid (fun q hq=>by
  rcases List.mem_append.1 hq with e|e
  ·exact h.lows q e
  ·exact hS q e)
 have HN:=hid hN;have HNF:Hid (nf≤maxLen):=hid hnf;have hnfi:(nf:Int)≤9223372036854775 * 1024:=by unfold maxLen at hnf;omega
 have HNI:=hid hnfi;clear h hS hN hnf hnfi;obtain⟨n,hnn⟩:∃n,d.n=n:=⟨_,rfl⟩
 rw[hnn] at hn;unfold ptr;go_enter Tryz.func22,Tryz.ntmps22;go_wp2_with fail;go_loopw [4,5,6,7,8] (fun kk i _ _ _ wr=>∃k q:Nat,k≤n∧q=min (cntW d k) nf∧i= .int .i64 k∧kk= .int .i64 q∧Rk wr S r bs bw (midC d fs k)∧Turn [r,bs,bw] w wr) (fun _ i _ _ _ _=>n-(Go.RowKit.intOf i).toNat)
 case atStart=>exact⟨0,0,by omega,by simp[cntW,waitsOf],rfl,rfl,HR0.out.congr (midC_ok HOK.out fs (Nat.zero_le _)) rfl (fun _ _=>rfl) (fun _ _=>rfl) rfl (fun _ h=>h),Turn.refl _ _⟩
 case round=>
  obtain⟨k,q,hk,hqm,rfl,rfl,hr,ht⟩:=hrel;have HQM:=hid hqm;clear hqm;have HRR:=hid hr;have HTT:=hid ht;clear HR0;obtain⟨cs,cw,left,z,h1,hcs,hcw,hll⟩:=hr.hd;have HH:=hid h1;obtain⟨_,c0,c1,c2,_,c4,f⟩:=hd5 h1;have c1':wr.cell? ⟨r,1,none⟩=some (.slice (some ⟨bw,0,none⟩) n cw):=by rw[←hnn];exact c1
  have c0':wr.cell? ⟨r,0,none⟩=some (.slice (some ⟨bs,0,none⟩) n cs):=by rw[←hnn];exact c0
  have f2:=f 2;have f4:=f 4;clear c0 c1 f;by_cases hlt:k<n
  ·have HK:Hid (k<(midC d fs k).n):=hid (by show k<d.n;omega);have HKD:Hid (k<d.n):=hid (by omega);have x1:=ridx bs n cs k hlt;have x2:=ridx bw n cw k hlt;obtain⟨u1,e1,f1,q1⟩:=RowOf.cell hr.safe HK.out;obtain⟨u2,e2,f2',q2⟩:=RowOf.cell hr.wait HK.out;have hwk:(midC d fs k).waits k=d.waits k:=by simp[midC]
   have hsk:(midC d fs k).safe k=crashS d fs (cntW d k) k:=rfl;rw[hwk] at q2;rw[hsk] at q1;clear hr ht h1 hcs hcw hwk hsk hll c2 c4 f2 f4;cases hw:d.waits k with
   |none=>
    have HW:=hid hw;have HCN:=hid (cnt_none hw);rw[hw] at q2;have q2':u2= .slice none 0 0:=q2;subst q2';clear q2 q1 hw;have hq:∀w,(binOp .eql 39 (.slice none 0 0) (.slice none 0 0)).run Tryz.prog w= .ok (.bool true) w:=fun w=>Lib.run_eql_slice_nil (P:=Tryz.prog) w 39 5 none 0 0 0 0 Tryz.underlying39;go_wp2_with fail;go_roundw
    case rel=>
     refine⟨k+1,q,by omega,by rw[HCN.out];exact HQM.out,by go_num,rfl,HRR.out.congr (midC_ok HOK.out fs (by have:=HKD.out;omega)) rfl (fun i _=> ?_) (fun i _=> ?_) rfl (fun _ h=>h),HTT.out⟩
     ·show crashS d fs (cntW d (k+1)) i=crashS d fs (cntW d k) i;rw[HCN.out]
     by_cases hik:i=k
     ·subst hik;simp[midC,HW.out]
     by_cases h2:i<k
     ·simp[midC,h2,show i<k+1 by omega]
     simp[midC,h2,show ¬i<k+1 by omega]
    case measure=>simp[Go.RowKit.intOf];omega
   |some s=>
    have HW:=hid hw;have HCN:=hid (cnt_some hw);have HAT:=hid (waits_at HKD.out hw);have HSL:Hid (s.length=64):=hid (HOK.out.2.2.2.1 k s hw).2;have HAL:Hid ((crashS d fs (cntW d k) k).length=64):=hid (Disk.crashS_length HOK.out fs _ (cnt_le (by have:=HKD.out;omega)) k HKD.out);rw[hw] at q2;have HQ1:=hid q1;have HQ2:=hid q2;obtain⟨b,o,c,rfl,hbt,_,_⟩:=q2;obtain⟨b1,o1,cc1,rfl,hbt1,_,_⟩:=q1;have HBT:=hid hbt;have HBT1:=hid hbt1;clear hw hbt hbt1;generalize hm:cntW d k=m at *;have HM:=hid hm;clear hm;obtain⟨φ,hφ⟩:∃q,fs.getD m 0=q:=⟨_,rfl⟩
    have HPH:=hid hφ;clear hφ;have hq:∀w,(binOp .eql 39 (.slice (some ⟨b,o,none⟩) 64 c) (.slice none 0 0)).run Tryz.prog w= .ok (.bool false) w:=fun w=>Lib.run_eql_slice_nil (P:=Tryz.prog) w 39 5 (some ⟨b,o,none⟩) 64 c 0 0 Tryz.underlying39;go_upto_if 29 with fail;clear hq;go_cut [4,6] (fun kk ff wx=>wr=wx∧(∃q':Nat,q'=min (m+1) nf∧kk= .int .i64 q')∧ff= .int .i64 (φ%4))
    case first=>
     by_cases hmn:m<nf
     ·obtain rfl:m=q:=by have:=HQM.out;omega
      obtain⟨fb,fo,rfl,hfb,hfl,hfc⟩:=HN.out.2 (by omega);have hcell:wr.cell? ⟨fb,fo+m,none⟩=some (.int .i64 φ):=by
       rw[←HPH.out];exact(World.cell?_of_block (w:=w) (HTT.out.block fb hfl hfb)).trans (hfc m hmn)
      have hidx:∀u:World,(Instr.indexAt 41 (.slice (some ⟨fb,fo,none⟩) nf cf) (.int .i64 m)).run Tryz.prog u= .ok (.pointer (some ⟨fb,fo+m,none⟩)) u:=fun u=>by
       simp[Instr.indexAt,asIntOf,run_underlying Tryz.underlying41,Result.andThen,Addr.add_mid];omega
      obtain⟨t,htt⟩:∃q,φ.tmod 4=q:=⟨_,rfl⟩
      obtain⟨t1,t2,t3⟩:=rem4 φ t htt;have hmn2:m+1≤9223372036854775807:=by have:=HNF.out;unfold maxLen at this;omega
      clear hfc hfb hfl e1 e2 f1 f2';go_wp2_with fail;go_meet
      exact⟨rfl,⟨m+1,by omega,by go_num⟩,by first|rfl|rw[t3]⟩
     obtain rfl:nf=q:=by have:=HQM.out;omega
     have hf0:φ=0:=by
      rw[←HPH.out,List.getD_eq_getElem?_getD,List.getElem?_eq_none (by rw[HN.out.1];omega)];rfl
     subst hf0;go_wp2_with fail;go_meet
     exact⟨rfl,⟨nf,by omega,rfl⟩,rfl⟩
    case rest=>
     obtain⟨hwx,⟨mk,hmk,rfl⟩,rfl⟩:=hcut;subst hwx;obtain⟨wo,rfl⟩:∃wo:World,wo=wr:=⟨_,rfl⟩
     have hf4:0≤φ%4∧φ%4≤3:=by omega
     obtain⟨ψ,hψ⟩:∃q,φ%4=q:=⟨_,rfl⟩
     rw[hψ] at hf4 ⊢;have HPS:=hid hψ;have HF4:=hid hf4;clear hψ hf4;have HMK:=hid hmk;clear hmk;have HB0:Hid (Below wo.heap.size wo (wo.alloc (.cells #[] 5))):=hid (Frm.alloc_below wo _);have HO:Hid (Owns (wo.alloc (.cells #[] 5)) wo.heap.size (.slice (some ⟨wo.heap.size,0,none⟩) 0 0) 0 []):=hid (World.ownsRow_made wo #[] 0 (Nat.le_refl _) (Nat.zero_le _) rfl);have hcl:∀(b k:Nat) (v:Value),b<wo.heap.size→wo.cell? ⟨b,k,none⟩=some v→(wo.alloc (.cells #[] 5)).cell? ⟨b,k,none⟩=some v:=fun b k v hb hv=>(World.cell?_of_block (w:=wo) (Below.heap_alloc wo _ b hb)).trans hv;have c0a:=hcl r 0 _ (HRR.out.lows r (by simp)) c0';have e1a:=hcl bs k _ (HRR.out.lows bs (by simp)) e1;clear hcl;go_wp2_with (at_builtin;(refine wpList_app _ rfl (.tmp 39) (.tmp 46) rfl wo.heap.size (.slice (some ⟨wo.heap.size,0,none⟩) 0 0) 0 [] rfl HO.out wo.heap.size (some ⟨b1,o1,none⟩) 64 cc1 (crashS d fs m k) rfl (HBT1.out.byts.below HB0.out) (by decide) HB0.out.size ?_);intro A5 c5 w5 ho5 hg5;have HO5:=hid ho5;have HB5:=hid (HB0.out.trans (own_below HO.out HB0.out.size hg5));clear ho5 hg5);obtain⟨g,rfl,hgl,hg64,hc5,hcm5⟩:=byt64_own (show Owns w5 wo.heap.size (.slice A5 64 c5) 64 (crashS d fs m k) from by have:=HO5.out;simpa using this);have HGL:=hid hgl;have HG64:=hid hg64;have HC5:=hid (And.intro hc5 hcm5);clear hgl hg64 HO5 HO HB0 c0a e1a hc5 hcm5;go_loopw [8] (fun jj wr=>∃j:Nat,j≤64∧jj= .int .i64 j∧Byt64 wr g (mixF ψ j s (crashS d fs m k))∧Below wo.heap.size wo wr) (fun jj _=>64-(Go.RowKit.intOf jj).toNat)
     case atStart=>exact⟨0,by omega,rfl,HG64.out.congr (fun p _=>by simp[mixF]),HB5.out⟩
     case round=>
      obtain⟨j,hj,rfl,hb64,hbi⟩:=hrel;have HBI:=hid hbi;have H64:=hid hb64;clear HG64 HB5;by_cases hj64:j<64
      ·obtain⟨y1,y2⟩:=hb64.cell hj64;have y3:wr.cell? ⟨r,1,none⟩=some (.slice (some ⟨bw,0,none⟩) n cw):=(World.cell?_of_block (w:=wo) (hbi.block r (HRR.out.lows r (by simp)))).trans c1';have y4:wr.cell? ⟨bw,k,none⟩=some (.slice (some ⟨b,o,none⟩) 64 c):=(World.cell?_of_block (w:=wo) (hbi.block bw (HRR.out.lows bw (by simp)))).trans e2;have y5:wr.cell? ⟨b,o+j,none⟩=some (byt (s.getD j 0)):=by
        obtain⟨b',o',e,hl,_,hc⟩:=HBT.out.at_ (by omega);injection e with e;injection e with e1 e2;subst e1 e2;exact(World.cell?_of_block (w:=wo) (hbi.block b hl)).trans (hc j hj64)
       have x3:∀u:World,(Instr.indexAt 39 (.slice (some ⟨b,o,none⟩) 64 c) (.int .i64 j)).run Tryz.prog u= .ok (.pointer (some ⟨b,o+j,none⟩)) u:=fun u=>by
        simp[Instr.indexAt,asIntOf,run_underlying Tryz.underlying39,Result.andThen,Addr.add_mid];omega
       have x4:∀u:World,(Instr.indexAt 39 (.slice (some ⟨g,0,none⟩) 64 c5) (.int .i64 j)).run Tryz.prog u= .ok (.pointer (some ⟨g,j,none⟩)) u:=fun u=>by
        simp[Instr.indexAt,asIntOf,run_underlying Tryz.underlying39,Result.andThen,Addr.add_mid];omega
       obtain⟨bj,hbj⟩:∃q,s.getD j 0=q:=⟨_,rfl⟩
       have hNo:Hid (cnd ψ j=false→Byt64 wr g (mixF ψ (j+1) s (crashS d fs m k))):=hid (fun hc=>H64.out.no hc);have hYes:Hid (cnd ψ j=true→Byt64 (wr.setCell ⟨g,j,none⟩ (.int .u8 bj.toNat)) g (mixF ψ (j+1) s (crashS d fs m k))):=hid (fun hc=>by rw[←hbj];exact H64.out.yes hc);have HBS:Hid (Below wo.heap.size wo (wr.setCell ⟨g,j,none⟩ (.int .u8 bj.toNat))):=hid (HBI.out.setCell HGL.out _);rw[hbj] at y5;clear hb64 hbi H64 hbj;have hcases:(ψ=0)∨(ψ=1)∨(ψ=2∧j<32)∨(ψ=2∧¬j<32)∨(ψ=3∧32≤j)∨(ψ=3∧¬32≤j):=by have:=HF4.out;omega
       have hj9:(j:Int)<64:=by omega
       unfold byt at y5;rcases hcases with rfl|rfl|⟨rfl,h32⟩|⟨rfl,h32⟩|⟨rfl,h32⟩|⟨rfl,h32⟩
       ·go_wp2_with fail;go_roundw
        case rel=>exact⟨j+1,by omega,by go_num,hNo.out (by simp[cnd];try omega),HBI.out⟩
        case measure=>simp[Go.RowKit.intOf];omega
       ·go_wp2_with fail;go_roundw
        case rel=>exact⟨j+1,by omega,by go_num,hYes.out (by simp[cnd];try omega),HBS.out⟩
        case measure=>simp[Go.RowKit.intOf];omega
       ·go_wp2_with fail;go_roundw
        case rel=>exact⟨j+1,by omega,by go_num,hYes.out (by simp[cnd];try omega),HBS.out⟩
        case measure=>simp[Go.RowKit.intOf];omega
       ·go_wp2_with fail;go_roundw
        case rel=>exact⟨j+1,by omega,by go_num,hNo.out (by simp[cnd];try omega),HBI.out⟩
        case measure=>simp[Go.RowKit.intOf];omega
       ·go_wp2_with fail;go_roundw
        case rel=>exact⟨j+1,by omega,by go_num,hYes.out (by simp[cnd];try omega),HBS.out⟩
        case measure=>simp[Go.RowKit.intOf];omega
       go_wp2_with fail;go_roundw
       case rel=>exact⟨j+1,by omega,by go_num,hNo.out (by simp[cnd];try omega),HBI.out⟩
       case measure=>simp[Go.RowKit.intOf];omega
      obtain rfl:j=64:=by omega
      have HSX:Hid (Sec wr ([r,bs,bw]++S) (.slice (some ⟨g,0,none⟩) 64 c5) (surv φ (crashS d fs m k) s)):=hid (hb64.sec (Disk.surv_length φ HAL.out HSL.out) (fun p hp=>by rw[←HPS.out];exact mix_surv φ HAL.out HSL.out p hp) (fun q hq=>by have:=HLOW.out q hq;have:=HTT.out.size;have:=HGL.out;omega) HC5.out.1 HC5.out.2);have HRI:=hid (HRR.out.below hbi);have HRS:=hid (HRI.out.puts k _ _ HSX.out (okA HRI.out.ok (Disk.surv_length φ HAL.out HSL.out)));have HRW:=hid (HRS.out.putw k (.slice none 0 0) none rfl (okB HRS.out.ok));have HTI:Hid (Turn [r,bs,bw] w ((wr.setCell ⟨bs,k,none⟩ (.slice (some ⟨g,0,none⟩) 64 c5)).setCell ⟨bw,k,none⟩ (.slice none 0 0))):=hid (((HTT.out.below hbi).setCell (.inl (by simp)) _).setCell (.inl (by simp)) _);have y0:wr.cell? ⟨r,0,none⟩=some (.slice (some ⟨bs,0,none⟩) n cs):=(World.cell?_of_block (w:=wo) (hbi.block r (HRR.out.lows r (by simp)))).trans c0';have y1:(wr.setCell ⟨bs,k,none⟩ (.slice (some ⟨g,0,none⟩) 64 c5)).cell? ⟨r,1,none⟩=some (.slice (some ⟨bw,0,none⟩) n cw):=(World.cell?_of_block (w:=wr) (Below.heap_setCell wr _ _ r (by simpa using HRI.out.apart.1))).trans ((World.cell?_of_block (w:=wo) (hbi.block r (HRR.out.lows r (by simp)))).trans c1');obtain⟨_,z1,z2,_⟩:=RowOf.cell HRI.out.safe HK.out;obtain⟨_,z3,z4,_⟩:=RowOf.cell HRS.out.wait HK.out;clear hb64 hbi HBI H64 HSX HRI;go_wp2_with fail;go_roundw
      case rel=>
       refine⟨k+1,mk,by omega,by rw[HCN.out];exact HMK.out,by go_num,rfl,HRW.out.congr (midC_ok HOK.out fs (by have:=HKD.out;omega)) rfl (fun i _=> ?_) (fun i _=> ?_) rfl (fun _ h=>h),HTI.out⟩
       ·show crashS d fs (cntW d (k+1)) i=upd (crashS d fs (cntW d k)) k _ i;rw[HCN.out,←Disk.crash_step HAT.out.1 HW.out,HM.out,HPH.out]
       show(if i<k+1 then none else d.waits i)=upd (fun q=>if q<k then none else d.waits q) k none i;unfold upd;by_cases hik:i=k
       ·subst hik;simp
       by_cases h2:i<k
       ·simp[h2,hik,show i<k+1 by omega]
       simp[h2,hik,show ¬i<k+1 by omega]
      case measure=>simp[Go.RowKit.intOf];omega
  obtain rfl:k=n:=by omega
  have HRE:=hid hr;have HCO:=hid (Disk.Dsk.crash_ok HOK.out fs);clear hr ht h1 hcs hcw hll c1' c0';have hcc:=HH.out;obtain⟨cs',cw',left',z',h1',hcs',hcw',_⟩:=HRE.out.hd;obtain⟨_,_,c1b,_,_,_,_⟩:=hd5 h1';have c1:wr.cell? ⟨r,1,none⟩=some (.slice (some ⟨bw,0,none⟩) k cw'):=by rw[←hnn];exact c1b
  have HH':=hid h1';have HC':=hid (And.intro hcs' hcw');clear hcc h1' hcs' hcw' c1b;go_wp2_with fail;go_end0;have hs1:=set_at HH'.out 4 (.bool false);have hs2:=set_at hs1 2 (.int .i64 (-1));have ht2:Turn [r] wr ((wr.setCell ⟨r,4,none⟩ (.bool false)).setCell ⟨r,2,none⟩ (.int .i64 (-1))):=((Turn.refl [r] wr).setCell (.inl (by simp)) _).setCell (.inl (by simp)) _;exact⟨rfl,HRE.out.head HCO.out rfl (fun i hi=>by show crashS d fs _ i=crashS d fs (cntW d k) i;rw[←hnn];rfl) (fun i hi=>by show none=(if i<k then none else d.waits i);have:i<d.n:=hi;rw[if_pos (by omega)]) ⟨cs',cw', -1,z',hs2,HC'.out.1,HC'.out.2,fun _=>rfl⟩ ht2,HTT.out.trans (ht2.more (by simp))⟩
end Go.Proofs.YtdjhlhellkajfaaGreat.Jou
namespace Go.Proofs.YtdjhlhellkajfaaGreat.Jou
open Go.RowKit Codec FrameM Cod JourM
open Disk (Turn Dk Dsk ptr Now upd)
theorem rtakes_any(w:World)(n c:Nat)(A:Option Addr)(ls:List (List UInt8))(hr:RowL w A n ls)(ht:takes ls≤1000000000000):Calls Tryz.prog 28 #[.slice A n c] w (Disk.Ends (.int .i64 (takes ls)) w):=by
 have HR:=hid hr;have HLEN:=hid hr.len;have HT:=hid ht;have hn12:(n:Int)≤1000000000000:=by have:=takes_length ls;have:=hr.len;omega
 have HND:=hid (fun (k:Nat) (hk:k≤1000000000000000)=>Frm.rneed_any (k:Int) w (by unfold in64;omega));clear hr ht;go_enter Tryz.func28,Tryz.ntmps28;go_wp2;go_loop [3,4] (fun s i=>∃k:Nat,k≤n∧i= .int .i64 k∧s= .int .i64 (takes (ls.take k))) (fun _ i=>n-(Go.RowKit.intOf i).toNat)
 case atStart=>exact⟨0,by omega,rfl,by simp[takes]⟩
 case round=>
  obtain⟨k,hk,rfl,rfl⟩:=hrel;by_cases hlt:k<n
  ·obtain⟨b,o,Aj,cj,hat,hcell⟩:=HR.out.at hlt;have hkl:k<ls.length:=by rw[HLEN.out];exact hlt
   have hs:=takes_snoc_take ls k hkl;have HTT:Hid (takes (ls.take (k+1))=takes (ls.take k)+takes1 (ls.getD k [])):=hid hs;have hle:=takes_take ls (k+1);have hb1:(takes (ls.take k):Int)+(1+need (ls.getD k []).length)≤1000000000000:=by have:=HT.out;unfold takes1 at hs;omega
   have hlx:(ls.getD k []).length≤1000000000000000:=by unfold need at hb1;omega
   have HC:=hid (HND.out _ hlx);rw[needI_nat] at HC;have HT1:Hid (takes1 (ls.getD k [])=1+need (ls.getD k []).length):=hid rfl;have hidx:=hat c;clear hat;have hn0:(0:Int)≤need (ls.getD k []).length:=by omega
   clear hs hle hkl hlx;generalize need (ls.getD k []).length=nd at *;generalize (ls.getD k []).length=lx at *;generalize takes (ls.take k)=tk at *;go_wp2_with fail;refine HC.out.mono ?_;rintro e w1 ⟨rfl,rfl⟩;go_wp2;go_round
   case rel=>exact⟨k+1,by omega,by go_num,by rw[HTT.out,HT1.out];push_cast;congr 1;omega⟩
   case measure=>simp[Go.RowKit.intOf];omega
  obtain rfl:k=n:=by omega
  go_wp2;go_ret;refine⟨?_,rfl⟩;rw[List.take_of_length_le (by rw[HLEN.out];exact Nat.le_refl _)];rfl
theorem rmark_any(w:World)(gen seq B n c:Nat)(A:Option Addr)(b:List UInt8)(h:Byts w B A n b)(hB:B≤w.heap.size)(hn:n≤1048576):Calls Tryz.prog 70 #[.int .i64 gen,.int .i64 seq,.slice A n c] w (EndsBelow (Frm.mkV (markM gen seq b)) w):=by
 have hl:=h.len;have HC:=hid (Frm.rcrc_byts (w.alloc (.cells #[.int .i64 0,.int .i64 0,.int .i64 0,.int .i64 0] 117)) B n c A b (h.alloc hB _) (by omega));have hc:=crcOf_lt b;have HO:=hid (i64_or32 n (crcOf b) (by omega) hc);have HM:Hid (Frm.mkV (markM gen seq b)= .agg #[.int .i64 2,.int .i64 gen,.int .i64 seq,.int .i64 ((n:Int) * 4294967296+(crcOf b:Nat))]):=hid (by unfold Frm.mkV markM;rw[hl]);rw[HM.out];clear h hl HM;generalize crcOf b=z at *;have hn1:(n:Int)≤1048576:=by omega
 have hc1:(z:Int)<4294967296:=by omega
 go_enter Tryz.func70,Tryz.ntmps70;go_wp2_with fail;refine HC.out.mono ?_;rintro e w1 ⟨rfl,rfl⟩;go_wp2_with fail;rw[HO.out];exact bodyPost_ret (v:= .agg #[.int .i64 2,.int .i64 gen,.int .i64 seq,.int .i64 ((n:Int) * 4294967296+(z:Int))]) (by simp[results,Tryz.results70,go_sem]) rfl ⟨rfl,Frm.alloc_below _ _⟩
def yobj (r gen:Nat) (A:Option Addr) (n c:Nat) (off:Bool):Obj:= .cells #[.pointer (some ⟨r,0,none⟩),.int .i64 gen,.slice A n c,.bool off] 53
section
variable {w w':World} {y r gen n c:Nat} {A:Option Addr} {off:Bool}
theorem yc0(h:w.heap[y]? =some (yobj r gen A n c off)):w.cell? ⟨y,0,none⟩=some (.pointer (some ⟨r,0,none⟩)):=cell_at h 0
theorem yc1(h:w.heap[y]? =some (yobj r gen A n c off)):w.cell? ⟨y,1,none⟩=some (.int .i64 gen):=cell_at h 1
theorem yc2(h:w.heap[y]? =some (yobj r gen A n c off)):w.cell? ⟨y,2,none⟩=some (.slice A n c):=cell_at h 2
theorem yc3(h:w.heap[y]? =some (yobj r gen A n c off)):w.cell? ⟨y,3,none⟩=some (.bool off):=cell_at h 3
end
structure RJ (w:World) (S:List Nat) (y r bs bw:Nat) (d:Dsk) (jr:Jr):Prop where
 disk:Rk w (y::S) r bs bw d
 hd:∃A c,w.heap[y]? =some (yobj r jr.gen A jr.gs.length c jr.down)∧RowsB w ([y,r,bs,bw]++S) A jr.gs.length jr.gs
 yout:y∉[r,bs,bw]++S
 n8:8≤d.n
 fit:takes jr.gs≤room d.n
section
variable {w w':World} {S S':List Nat} {y r bs bw:Nat} {d d':Dsk} {jr jr':Jr}
theorem RJ.ylt(h:RJ w S y r bs bw d jr):y<w.heap.size:=by
 obtain⟨A,c,h1,_⟩:=h.hd;exact lt_of_heap h1
theorem RJ.lows(h:RJ w S y r bs bw d jr):∀k∈[y,r,bs,bw],k<w.heap.size:=by
 intro k hk;rcases List.mem_cons.1 hk with rfl|hk
 ·exact h.ylt
 exact h.disk.lows k hk
theorem RJ.turn(h:RJ w S y r bs bw d jr)(ht:Turn S' w w')(hS:∀k∈S',k∈S∨w.heap.size≤k):RJ w' S y r bs bw d jr:=by
 obtain⟨A,c,h1,h2⟩:=h.hd;refine⟨h.disk.turn ht (fun k hk=>(hS k hk).imp (fun e=>List.mem_cons_of_mem _ e) id),⟨A,c,(ht.block y h.ylt fun hm=> ?_).trans h1,h2.turn ht fun k hk=>(hS k hk).imp (fun e=>List.mem_append_right _ e) id⟩,h.yout,h.n8,h.fit⟩;rcases hS y hm with e|e
 ·exact h.yout (List.mem_append_right _ e)
 have:=h.ylt;omega
theorem RJ.below(h:RJ w S y r bs bw d jr)(hb:Below w.heap.size w w'):RJ w' S y r bs bw d jr:=h.turn (Turn.ofBelow (S:=[]) hb) (by simp)
theorem RJ.others(h:RJ w S y r bs bw d jr)(hS:∀k∈S',k∈S∨w.heap.size≤k):RJ w S' y r bs bw d jr:=by
 obtain⟨A,c,h1,h2⟩:=h.hd;refine⟨h.disk.others (fun k hk=>by rcases List.mem_cons.1 hk with rfl|hk;exact .inl List.mem_cons_self;exact(hS k hk).imp (fun e=>List.mem_cons_of_mem _ e) id),⟨A,c,h1,h2.sub fun k hk=> ?_⟩,fun hm=> ?_,h.n8,h.fit⟩
 ·rcases List.mem_append.1 hk with e|e
  ·exact .inl (List.mem_append_left _ e)
  exact(hS k e).imp (fun e=>List.mem_append_right _ e) id
 rcases List.mem_append.1 hm with e|e
 ·exact h.yout (List.mem_append_left _ e)
 rcases hS y e with e|e
 ·exact h.yout (List.mem_append_right _ e)
 have:=h.ylt;omega
theorem RJ.disked(h:RJ w S y r bs bw d jr)(hd:Rk w' (y::S) r bs bw d')(ht:Turn [r,bs,bw] w w')(hn:d'.n=d.n):RJ w' S y r bs bw d' jr:=by
 obtain⟨A,c,h1,h2⟩:=h.hd;exact⟨hd,⟨A,c,(ht.block y h.ylt fun hm=>h.yout (List.mem_append_left _ hm)).trans h1,h2.turn ht fun k hk=> .inl (List.mem_append_left _ (List.mem_cons_of_mem _ hk))⟩,h.yout,by rw[hn];exact h.n8,by rw[hn];exact h.fit⟩
theorem RJ.fell(h:RJ w S y r bs bw d jr):RJ (w.setCell ⟨y,3,none⟩ (.bool true)) S y r bs bw d {jr with down:=true}∧Turn [y,r,bs,bw] w (w.setCell ⟨y,3,none⟩ (.bool true)):=by
 obtain⟨A,c,h1,h2⟩:=h.hd;have ht:Turn [y] w (w.setCell ⟨y,3,none⟩ (.bool true)):=(Turn.refl [y] w).setCell (.inl (by simp)) _;exact⟨⟨h.disk.turn ht (fun k hk=> .inl (by simp at hk;simp[hk])),⟨A,c,set_at h1 3 _,h2.turn ht (fun k hk=> .inl (by simp at hk;simp[hk]))⟩,h.yout,h.n8,h.fit⟩,ht.more (by simp)⟩
end
end Go.Proofs.YtdjhlhellkajfaaGreat.Jou
namespace Go.Proofs.YtdjhlhellkajfaaGreat.Jou
open Go.RowKit Codec FrameM Cod JourM
open Disk (Turn Dk Dsk ptr Now upd)
theorem err_eq(b:Bool):(err b==0)=b:=by cases b<;>rfl
theorem bts_zero(u:World){S:List Nat}(hS:∀k∈S,k<u.heap.size):Bts (u.alloc (.cells (cel (zeros 64)).toArray 5)) S (some ⟨u.heap.size,0,none⟩) 64 nul64:=
 ⟨nul64_length,fun _=>⟨u.heap.size,0,rfl,by rw[World.size_alloc];omega,fun hm=>by have:=hS _ hm;omega,fun j hj=>by
  rw[Nat.zero_add,cell_at (heap_alloc_new u _),List.getElem?_toArray];exact cel_get nul64 j hj⟩⟩
def wL (n pos:Nat) (b:List UInt8) (last:Bool):List (List UInt8):=pack b++(if last then endL n (pos+takes1 b) else [])
def wOk (d:Dsk) (gen pos seq:Nat) (b:List UInt8) (marked last:Bool):Bool:=
 if marked then JourM.go d&&wrsB (wr d (secAt d.n gen pos) (put (markM gen seq b))) (secAt d.n gen pos+1) (wL d.n pos b last) else wrsB d (secAt d.n gen pos+1) (wL d.n pos b last)
def wDk (d:Dsk) (gen pos seq:Nat) (b:List UInt8) (marked last:Bool):Dsk:=
 if marked then (if JourM.go d then wrsD (wr d (secAt d.n gen pos) (put (markM gen seq b))) (secAt d.n gen pos+1) (wL d.n pos b last) else wr d (secAt d.n gen pos) (put (markM gen seq b))) else wrsD d (secAt d.n gen pos+1) (wL d.n pos b last)
theorem wrs_step(ok0:Bool)(d0:Dsk)(q:Nat)(ls:List (List UInt8))(k:Nat)(hk:k<ls.length)(h:(ok0&&wrsB d0 q (ls.take k))=true):
  (ok0&&wrsB d0 q (ls.take (k+1)))=JourM.go (if ok0 then wrsD d0 q (ls.take k) else d0)∧(if ok0 then wrsD d0 q (ls.take (k+1)) else d0)=wr (if ok0 then wrsD d0 q (ls.take k) else d0) (q+k) (ls.getD k []):=by
 simp only[Bool.and_eq_true] at h;obtain⟨rfl,h⟩:=h;have e:ls.take (k+1)=ls.take k++[ls.getD k []]:=by rw[List.take_succ_eq_append_getElem hk];simp[List.getD_eq_getElem?_getD,hk]
 have hl:(ls.take k).length=k:=by rw[List.length_take];omega
 rw[e,wrsB_app,wrsD_app,h,hl];simp[wrsB,wrsD]
theorem wrs_end(ok0:Bool)(d0:Dsk)(q:Nat)(ls:List (List UInt8))(k:Nat)(h:(ok0&&wrsB d0 q (ls.take k))=false∨k=ls.length):
  (ok0&&wrsB d0 q (ls.take k))=(ok0&&wrsB d0 q ls)∧(if ok0 then wrsD d0 q (ls.take k) else d0)=(if ok0 then wrsD d0 q ls else d0):=by
 rcases h with h|h
 ·cases ok0
  ·simp
  have h':wrsB d0 q (ls.take k)=false:=by simpa using h
  have e:ls=ls.take k++ls.drop k:=(List.take_append_drop k ls).symm;have e1:wrsB d0 q ls=false:=by rw[e,wrsB_app,h'];rfl
  have e2:wrsD d0 q ls=wrsD d0 q (ls.take k):=by
   conv=>lhs;rw[e,wrsD_app,h']
   simp
  simp[h',e1,e2]
 subst h;rw[List.take_length];exact⟨rfl,rfl⟩
theorem rjwrite_any(w:World)(S:List Nat)(y r bs bw:Nat)(d:Dsk)(jr:Jr)(gen pos seq n c:Nat)(A:Option Addr)(b:List UInt8)(marked last:Bool)(h:RJ w S y r bs bw d jr)(hS:∀k∈S,k<w.heap.size)(hb:Bts w [r,bs,bw] A n b)(hn:n≤1048576)(hr:pos+takes1 b≤room d.n):
  Calls Tryz.prog 69 #[ptr y,.int .i64 gen,.int .i64 pos,.int .i64 seq,.slice A n c,.bool marked,.bool last] w (fun e w'=>e= .returned (.bool (wOk d gen pos seq b marked last))∧RJ w' S y r bs bw (wDk d gen pos seq b marked last) jr∧Turn [r,bs,bw] w w'):=by
 have HJ:=hid h;have HSS:Hid (∀k∈y::S,k<w.heap.size):=hid (fun k hk=>by
  rcases List.mem_cons.1 hk with rfl|hk
  ·exact h.ylt
  ·exact hS k hk)
 have HB:=hid hb;have HN:=hid hn;have HL:=hid hb.len;have h8:=h.n8;have h65:=h.disk.ok.2.1;have hpr:pos<room d.n:=by unfold takes1 at hr;omega
 have HF:=hid (first_any w (y::S) r bs bw d gen h.disk (by omega));have HML:Hid ((put (markM gen seq b)).length=64):=hid (by
  rw[put_right (markM_right gen seq b),List.length_append,half_length])
 have hse:secAt d.n gen pos+takes1 b≤d.n:=sec_end (by omega) hr;obtain⟨P,hP⟩:∃P,secAt d.n gen pos=P:=⟨_,rfl⟩
 have hPI:((secAt d.n gen 0:Nat):Int)+(pos:Int)=(P:Nat):=by rw[←hP,←Nat.zero_add pos,sec_add,Nat.zero_add];push_cast;rfl
 have hPb:P≤65536:=by rw[←hP];unfold takes1 at hse;omega
 rw[hP] at hse;have HP:Hid (P<d.n∧P+takes1 b≤d.n):=hid ⟨by unfold takes1 at hse;omega,hse⟩;have HPS:=hid hP;have HR:=hid hr;have hpos:pos≤65536:=by unfold room at hpr;omega
 have hs00:secAt d.n gen 0≤P:=by rw[←hP];unfold secAt;omega
 have hs0:secAt d.n gen 0≤65536:=by omega
 generalize secAt d.n gen 0=P0 at *;have hmk:∀v:World,(Instr.makeSlice 39 (.int .i64 64) (.int .i64 64)).run Tryz.prog v= .ok (.slice (some ⟨v.heap.size,0,none⟩) 64 64) (v.alloc (.cells (cel (zeros 64)).toArray 5)):=fun v=>Frm.run_make_bytes v 64 (by omega);have HMK:=hid hmk;have HFIN0:Hid (∀(ok0:Bool) (d0:Dsk),(marked=true→ok0=JourM.go d∧d0=wr d P (put (markM gen seq b)))→(marked=false→ok0=true∧d0=d)→
   wOk d gen pos seq b marked last=(ok0&&wrsB d0 (P+1) (wL d.n pos b last))∧wDk d gen pos seq b marked last=(if ok0 then wrsD d0 (P+1) (wL d.n pos b last) else d0)):=hid (fun ok0 d0 h1 h2=>by
  unfold wOk wDk;rw[hP];cases marked with
  |true=>
   obtain⟨e1,e2⟩:=h1 rfl;subst e1 e2;exact⟨rfl,rfl⟩
  |false=>
   obtain⟨e1,e2⟩:=h2 rfl;subst e1 e2;exact⟨rfl,rfl⟩)
 obtain⟨Ay,cy,hyo,_⟩:=h.hd;have c0:=yc0 hyo;clear h hS hb hn hr h65 hse hP hpr hyo hmk;unfold ptr at *;go_enter Tryz.func69,Tryz.ntmps69;go_wp2_with fail;refine HF.out.mono ?_;rintro e u ⟨rfl,rfl⟩;go_upto_if 27 with fail;go_cut [16] (fun okv wx=>∃(ok0:Bool) (d0:Dsk),okv= .bool ok0∧(marked=true→ok0=JourM.go d∧d0=wr d P (put (markM gen seq b)))∧(marked=false→ok0=true∧d0=d)∧RJ wx S y r bs bw d0 jr∧Turn [r,bs,bw] w wx)
 case first=>
  as_aux_lemma=>
   cases marked with
   |false=>
    go_wp2_with fail;go_meet
    exact⟨true,d,rfl,fun h=>(by cases h),fun _=>⟨rfl,rfl⟩,HJ.out,Turn.refl _ _⟩
   |true=>
    clear hPI;go_upto_region 4 with fail;obtain⟨Aj,cj,hyo,_⟩:=HJ.out.hd;have HJ0:=hid (HJ.out.below (Below.refl w.heap.size w).drew);have HB0:=hid (HB.out.below (Below.refl w.heap.size w).drew);have HS:Hid (w.drew.heap[y]? =some (yobj r jr.gen Aj jr.gs.length cj jr.down)):=hid hyo;have HT0:Hid (Turn [r,bs,bw] w w.drew):=hid (Turn.refl _ w).drew;clear hyo;refine Frm.wh_start (fun u=>u.heap[y]? =some (yobj r jr.gen Aj jr.gs.length cj jr.down)) (by kernel_rfl) ?_;generalize w.drew=u0 at *;refine Frm.wa 0 28 (.pointer (some ⟨y,0,none⟩)) HS.out ?_;go_frame;refine Frm.wb 1 29 (.pointer (some ⟨y,0,none⟩)) HS.out ?_;go_frame;refine Frm.wb 2 30 (.pointer (some ⟨y,0,none⟩)) HS.out ?_;go_frame;refine Frm.wd 3 31 (.pointer (some ⟨r,0,none⟩)) HS.out (fun w' hw'=> ?_) ?_
    ·have h0:=yc0 hw';go_simp
    go_frame;refine Frm.wa 4 32 (.int .i64 P) HS.out ?_;go_frame;refine Frm.wa 5 33 (.int .i64 gen) HS.out ?_;go_frame;refine Frm.wa 6 34 (.int .i64 seq) HS.out ?_;go_frame;refine Frm.wa 7 35 (.slice A n c) HS.out ?_;go_frame;refine Frm.wh_call 8 36 70 #[.int .i64 gen,.int .i64 seq,.slice A n c] rfl rfl (by kernel_rfl) rfl ?_ ?_
    ·go_simp
    refine(rmark_any u0 gen seq u0.heap.size n c A b HB0.out.byts (Nat.le_refl _) HN.out).mono ?_;rintro e w1 ⟨rfl,hb1⟩;have HS:=hid ((hb1.block y HJ0.out.ylt).trans HS.out);have HJ1:=hid (HJ0.out.below hb1);have HT1:=hid (HT0.out.below hb1);clear hb1;refine⟨_,rfl,HS.out,?_⟩;go_frame;refine Frm.wh_call 9 37 62 #[Frm.mkV (markM gen seq b)] rfl rfl (by kernel_rfl) rfl ?_ ?_
    ·go_simp
    refine(Frm.rput_any (markM gen seq b) w1).mono ?_;rintro e w2 ⟨A2,c2,rfl,hy2,hb2,hc2,hm2,ha2⟩;rw[HML.out] at hy2 hc2 ⊢;have HS:=hid ((hb2.block y HJ1.out.ylt).trans HS.out);have HJ2:=hid (HJ1.out.below hb2);have HT2:=hid (HT1.out.below hb2);have HX2:Hid (Bts w2 [r,bs,bw] A2 64 (put (markM gen seq b))):=hid (Bts.above hy2 ha2 (fun q hq=>HJ1.out.disk.lows q hq));have HWC:=hid (rwrite_any w2 (y::S) r bs bw d P c2 A2 (put (markM gen seq b)) HJ2.out.disk HP.out.1 HX2.out (fun q hq=>Nat.lt_of_lt_of_le (HSS.out q hq) HT2.out.size));unfold ptr at HWC;clear hy2 hb2 hc2 hm2 ha2;refine⟨_,rfl,HS.out,?_⟩;go_frame;refine Frm.wh_call 10 38 59 #[.pointer (some ⟨r,0,none⟩),.int .i64 P,.slice A2 64 c2] rfl rfl (by kernel_rfl) rfl ?_ ?_
    ·go_simp
    refine(HWC.out).mono ?_;rintro e w3 ⟨rfl,hr3,ht3⟩;have HJ3:=hid (HJ2.out.disked hr3 ht3 (wr_n d P _));have HT3:=hid (HT2.out.trans ht3);have HS:=hid ((ht3.block y HJ2.out.ylt (fun hm=>HJ2.out.yout (List.mem_append_left _ hm))).trans HS.out);clear hr3 ht3;refine⟨_,rfl,HS.out,?_⟩;go_frame;refine Frm.wb 11 39 (.bool (err (JourM.go d)==0)) HS.out ?_;go_frame;refine Frm.wa 12 16 (.bool (err (JourM.go d)==0)) HS.out ?_;go_frame;refine wpAnyH_done (by kernel_rfl) ?_ _;go_wp2_with fail;go_meet
    exact⟨JourM.go d,wr d P (put (markM gen seq b)),by rw[err_eq],fun _=>⟨rfl,rfl⟩,fun h=>(by cases h),HJ3.out,HT3.out⟩
 case rest=>
  obtain⟨ok0,d0,rfl,hm1,hm2,hj0,ht0⟩:=hcut;have HM:=hid (And.intro hm1 hm2);have HJ0:=hid hj0;have HT0:=hid ht0;have HB0:=hid (HB.out.turn ht0 (fun q hq=> .inl hq));have hdn:d0.n=d.n:=by
   cases marked with
   |true=>rw[(hm1 rfl).2];exact wr_n d P _
   |false=>rw[(hm2 rfl).2]
  have HDN:=hid hdn;have HPC:=hid (Frm.rpack_any wc n c A b HB0.out.byts HN.out);clear hm1 hm2 hj0 ht0 hdn HB HJ c0;go_wp2_with fail;refine HPC.out.mono ?_;rintro e w5 ⟨A5,K,c5,rfl,hpk,hb5⟩;have hKl:(pack b).length=K:=by obtain⟨vs,_,_,h3,_⟩:=hpk;exact h3
  have hKn:K=need b.length:=by rw[←hKl,pack_length]
  have HKL:=hid (And.intro hKl hKn);have HR5:Hid (RowsB w5 [r,bs,bw] A5 K (pack b)):=hid (RowsB.of_pk hpk (fun q hq=>HJ0.out.disk.lows q hq));have HJ5:=hid (HJ0.out.below hb5);have HT5:=hid (HT0.out.below hb5);have hK1:K≤16384:=by rw[hKn,HL.out];have:=HN.out;unfold need;omega
  have HPE:Hid (P+1+K≤d.n):=hid (by have:=HP.out.2;unfold takes1 at this;omega);clear hpk hb5 HPC HJ0 HT0 HB0 hKl hKn;go_wp2_with fail;go_loopw [16,18] (fun okv i wr=>∃(k:Nat) (dc:Dsk) (okc:Bool),k≤K∧i= .int .i64 k∧okv= .bool okc∧okc=(ok0&&wrsB d0 (P+1) ((pack b).take k))∧dc=(if ok0 then wrsD d0 (P+1) ((pack b).take k) else d0)∧RJ wr S y r bs bw dc jr∧Turn [r,bs,bw] w wr∧RowsB wr [r,bs,bw] A5 K (pack b)) (fun _ i _=>K-(Go.RowKit.intOf i).toNat)
  case atStart=>exact⟨0,d0,ok0,by omega,rfl,rfl,by simp[wrsB],by simp[wrsD],HJ5.out,HT5.out,HR5.out⟩
  case round=>
   obtain⟨k,dc,okc,hk,rfl,rfl,hok,hdc,hj,ht,hrw⟩:=hrel;have HJ:=hid hj;have HT:=hid ht;have HR:=hid hrw;have HOK:=hid (And.intro hok hdc);have HDC:Hid (dc.n=d.n):=hid (by rw[hdc,←HDN.out];split;exact wrsD_n _ _ _;rfl);clear hj ht hrw hok hdc HJ5 HT5 HR5;go_upto_region 7 with fail;go_cut [48] (fun v wx=>wr=wx∧∃v':Bool,v= .bool v'∧(v'=true→k<K∧okc=true)∧(v'=false→okc=false∨k=K))
   case first=>
    by_cases hlt:k<K
    ·cases okc with
     |true=>
      go_wp2_with fail;go_meet
      exact⟨rfl,true,rfl,fun _=>⟨hlt,(by first|rfl|trivial)⟩,fun h=>(by cases h)⟩
     |false=>
      go_wp2_with fail;go_meet
      exact⟨rfl,false,rfl,fun h=>(by cases h),fun _=> .inl (by first|rfl|trivial)⟩
    go_wp2_with fail;go_meet
    exact⟨rfl,false,rfl,fun h=>(by cases h),fun _=> .inr (by omega)⟩
   case rest=>
    obtain⟨hwx,v',rfl,hv1,hv2⟩:=hcut;subst hwx;cases v' with
    |true=>
     as_aux_lemma=>
      obtain⟨hlt,rfl⟩:=hv1 rfl;clear hv1 hv2;have HST:Hid ((ok0&&wrsB d0 (P+1) ((pack b).take (k+1)))=JourM.go dc∧(if ok0 then wrsD d0 (P+1) ((pack b).take (k+1)) else d0)=JourM.wr dc (P+1+k) ((pack b).getD k [])):=hid (by
       rw[HOK.out.2];exact wrs_step ok0 d0 (P+1) (pack b) k (by rw[HKL.out.1];exact hlt) HOK.out.1.symm)
      have HPK:Hid (P+1+k<dc.n):=hid (by have:=HPE.out;have:=HDC.out;omega);obtain⟨rb,ro,Ak,ck,hat⟩:=HR.out.at hlt;have hlen:((pack b).getD k []).length=64:=by rw[sec_get b k (by have:=HKL.out.2;omega)];exact sec_length b k
      have hidx:=hat.index c5;obtain⟨_,hrc,hbk,_,_,hrbn,hrbl⟩:=hat;rw[hlen] at hrc hbk;have hkb:(P:Int)+1+(k:Int)≤200000:=by omega
      have hw1:IntKind.i64.wrap ((P:Int)+1)=(P:Int)+1:=IntWalk.i64_in _ (by omega);have hw2:IntKind.i64.wrap ((P:Int)+1+(k:Int))=(P:Int)+1+(k:Int):=IntWalk.i64_in _ (by omega);clear hlen;go_upto_region 9 with fail;obtain⟨Aj,cj,hyo,_⟩:=HJ.out.hd;have HJ0:=hid (HJ.out.below (Below.refl wr.heap.size wr).drew);have HS:Hid (wr.drew.heap[y]? =some (yobj r jr.gen Aj jr.gs.length cj jr.down)):=hid hyo;have HSC:Hid (wr.drew.cell? ⟨rb,ro,none⟩=some (.slice Ak 64 ck)):=hid ((drew_cell wr _).trans hrc);have HBK:=hid (hbk.below (Below.refl wr.heap.size wr).drew);have HT0:Hid (Turn [r,bs,bw] w wr.drew):=hid HT.out.drew;have HRB:=hid (HR.out.below (Below.refl wr.heap.size wr).drew);have HRBN:Hid (rb∉[r,bs,bw]∧rb<wr.drew.heap.size):=hid ⟨hrbn,hrbl⟩;clear hyo hrc hbk hrbn hrbl;refine Frm.wh_start (fun u=>u.heap[y]? =some (yobj r jr.gen Aj jr.gs.length cj jr.down)∧u.cell? ⟨rb,ro,none⟩=some (.slice Ak 64 ck)) (by kernel_rfl) ?_;have HS:=hid (And.intro HS.out HSC.out);clear HSC;generalize wr.drew=u0 at *;have HWC:=hid (rwrite_any u0 (y::S) r bs bw dc (P+1+k) ck Ak ((pack b).getD k []) HJ0.out.disk HPK.out HBK.out (fun q hq=>Nat.lt_of_lt_of_le (HSS.out q hq) HT0.out.size));unfold ptr at HWC;refine Frm.wa 0 51 (.pointer (some ⟨y,0,none⟩)) HS.out ?_;go_frame;refine Frm.wb 1 52 (.pointer (some ⟨y,0,none⟩)) HS.out ?_;go_frame;refine Frm.wb 2 53 (.pointer (some ⟨y,0,none⟩)) HS.out ?_;go_frame;refine Frm.wd 3 54 (.pointer (some ⟨r,0,none⟩)) HS.out (fun w' hw'=> ?_) ?_
      ·have h0:=yc0 hw'.1;go_simp
      go_frame;refine Frm.wa 4 55 (.int .i64 P) HS.out ?_;go_frame;refine Frm.wb 5 56 (.int .i64 (P+1:Nat)) HS.out ?_;go_frame;refine Frm.wa 6 57 (.int .i64 k) HS.out ?_;go_frame;refine Frm.wb 7 58 (.int .i64 (P+1+k:Nat)) HS.out ?_;go_frame;refine Frm.wa 8 59 (.slice A5 K c5) HS.out ?_;go_frame;refine Frm.wa 9 60 (.int .i64 k) HS.out ?_;go_frame;refine Frm.wb 10 61 (.pointer (some ⟨rb,ro,none⟩)) HS.out ?_;go_frame;refine Frm.wd 11 62 (.slice Ak 64 ck) HS.out (fun w' hw'=> ?_) ?_
      ·have h1:=hw'.2;go_simp
      go_frame;refine Frm.wh_call 12 63 59 #[.pointer (some ⟨r,0,none⟩),.int .i64 (P+1+k:Nat),.slice Ak 64 ck] rfl rfl (by kernel_rfl) rfl ?_ ?_
      ·go_simp
      refine HWC.out.mono ?_;rintro e w3 ⟨rfl,hr3,ht3⟩;have HJ3:=hid (HJ0.out.disked hr3 ht3 (wr_n dc (P+1+k) _));have HT3:=hid (HT0.out.trans ht3);have HR3:=hid (HRB.out.turn ht3 (fun q hq=> .inl hq));have HS:=hid (And.intro ((ht3.block y HJ0.out.ylt (fun hm=>HJ0.out.yout (List.mem_append_left _ hm))).trans HS.out.1) ((World.cell?_of_block (w:=u0) (a:=⟨rb,ro,none⟩) (ht3.block rb HRBN.out.2 HRBN.out.1)).trans HS.out.2));clear hr3 ht3;refine⟨_,rfl,HS.out,?_⟩;go_frame;refine Frm.wb 13 64 (.bool (err (JourM.go dc)==0)) HS.out ?_;go_frame;refine Frm.wa 14 16 (.bool (err (JourM.go dc)==0)) HS.out ?_;go_frame;refine wpAnyH_done (by kernel_rfl) ?_ _;go_wp2_with fail;go_roundw
      case rel=>exact⟨k+1,_,_,by omega,by go_num,rfl,by rw[err_eq];exact HST.out.1.symm,HST.out.2.symm,HJ3.out,HT3.out,HR3.out⟩
      case measure=>simp[Go.RowKit.intOf];omega
    |false=>
     as_aux_lemma=>
      have hE:=wrs_end ok0 d0 (P+1) (pack b) k (by
       rcases hv2 rfl with e|e
       ·exact .inl (by rw[←HOK.out.1];exact e)
       ·exact .inr (by rw[HKL.out.1];exact e))
      rw[←HOK.out.1,←HOK.out.2] at hE;obtain⟨hE1,hE2⟩:=hE;have HE:=hid (And.intro hE1 hE2);have hW:=HFIN0.out ok0 d0 HM.out.1 HM.out.2;have HWW:=hid hW;have HRM:=hid (rroom_any wr (y::S) r bs bw dc HJ.out.disk (by rw[HDC.out];omega));unfold ptr at HRM;rw[HDC.out] at HRM;have hRb:room d.n≤65536:=by have:=HJ.out.disk.ok.2.1;rw[HDC.out] at this;unfold room;omega
      obtain⟨Aj,cj,hyo,_⟩:=HJ.out.hd;have c0:=yc0 hyo;have HT1:Hid (takes1 b=1+K):=hid (by unfold takes1;rw[HKL.out.2]);clear hv1 hv2 hE1 hE2 hW hyo;by_cases hgo:okc=true∧last=true∧pos+1+K<room d.n
      ·obtain⟨rfl,rfl,hlt⟩:=hgo;have HFIN:Hid (wOk d gen pos seq b marked true=JourM.go dc∧wDk d gen pos seq b marked true=JourM.wr dc (P+1+K) nul64):=hid (by
        obtain⟨e1,e2⟩:=HWW.out;have e3:wL d.n pos b true=pack b++[nul64]:=by unfold wL endL;rw[HT1.out,if_pos rfl,if_pos (by omega)]
        have h1:ok0=true∧wrsB d0 (P+1) (pack b)=true:=by have:=HE.out.1;simpa using this.symm
        have h2:dc=wrsD d0 (P+1) (pack b):=by rw[HE.out.2,h1.1];rfl
        rw[e1,e2,e3,wrsB_app,wrsD_app,h1.1,h1.2,HKL.out.1,h2];simp[wrsB,wrsD])
       have HPZ:Hid (P+1+K<dc.n):=hid (by
        rw[HDC.out];have h9:=sec_lt (n:=d.n) (gen:=gen) (pos:=pos+1+K) (by omega) hlt;rw[Nat.add_assoc,sec_add,HPS.out] at h9;omega)
       have hkb:(P:Int)+1+(K:Int)≤200000:=by omega
       have hw1:IntKind.i64.wrap ((P:Int)+1)=(P:Int)+1:=IntWalk.i64_in _ (by omega);have hw2:IntKind.i64.wrap ((P:Int)+1+(K:Int))=(P:Int)+1+(K:Int):=IntWalk.i64_in _ (by omega);have hmk:=HMK.out;go_upto_region 11 with (first
        |(go_at_call 30;refine HRM.out.mono ?_;rintro e u ⟨rfl,rfl⟩))
       clear c0;obtain⟨Aj,cj,hyo,_⟩:=HJ.out.hd;have HJ0:=hid (HJ.out.below (Below.refl wr.heap.size wr).drew);have HS:Hid (wr.drew.heap[y]? =some (yobj r jr.gen Aj jr.gs.length cj jr.down)):=hid hyo;have HT0:Hid (Turn [r,bs,bw] w wr.drew):=hid HT.out.drew;clear hyo;refine Frm.wh_start (fun u=>u.heap[y]? =some (yobj r jr.gen Aj jr.gs.length cj jr.down)) (by kernel_rfl) ?_;generalize wr.drew=u0 at *;refine Frm.wa 0 82 (.pointer (some ⟨y,0,none⟩)) HS.out ?_;go_frame;refine Frm.wb 1 83 (.pointer (some ⟨y,0,none⟩)) HS.out ?_;go_frame;refine Frm.wb 2 84 (.pointer (some ⟨y,0,none⟩)) HS.out ?_;go_frame;refine Frm.wd 3 85 (.pointer (some ⟨r,0,none⟩)) HS.out (fun w' hw'=> ?_) ?_
       ·have h0:=yc0 hw';go_simp
       go_frame;refine Frm.wa 4 86 (.int .i64 P) HS.out ?_;go_frame;refine Frm.wb 5 87 (.int .i64 (P+1:Nat)) HS.out ?_;go_frame;refine Frm.wa 6 88 (.slice A5 K c5) HS.out ?_;go_frame;refine Frm.wb 7 89 (.int .i64 K) HS.out ?_;go_frame;refine Frm.wb 8 90 (.int .i64 (P+1+K:Nat)) HS.out ?_;go_frame;refine Frm.wh_run 9 91 (.slice (some ⟨u0.heap.size,0,none⟩) 64 64) (u0.alloc (.cells (cel (zeros 64)).toArray 5)) rfl rfl (by kernel_rfl) rfl ?_ ?_ ?_
       ·have:=hmk u0;go_simp
       ·exact(Below.heap_alloc u0 _ y HJ0.out.ylt).trans HS.out
       go_frame;have HS:=hid ((Below.heap_alloc u0 (.cells (cel (zeros 64)).toArray 5) y HJ0.out.ylt).trans HS.out);have HJ1:=hid (HJ0.out.below (Frm.alloc_below u0 (.cells (cel (zeros 64)).toArray 5)));have HT1:=hid (HT0.out.below (Frm.alloc_below u0 (.cells (cel (zeros 64)).toArray 5)));have HX1:Hid (Bts (u0.alloc (.cells (cel (zeros 64)).toArray 5)) [r,bs,bw] (some ⟨u0.heap.size,0,none⟩) 64 nul64):=hid (bts_zero u0 (fun q hq=>HJ0.out.disk.lows q hq));generalize u0.alloc (.cells (cel (zeros 64)).toArray 5)=u1 at *;generalize u0.heap.size=bz at *;have HWC:=hid (rwrite_any u1 (y::S) r bs bw dc (P+1+K) 64 (some ⟨bz,0,none⟩) nul64 HJ1.out.disk HPZ.out HX1.out (fun q hq=>Nat.lt_of_lt_of_le (HSS.out q hq) HT1.out.size));unfold ptr at HWC;refine Frm.wh_call 10 92 59 #[.pointer (some ⟨r,0,none⟩),.int .i64 (P+1+K:Nat),.slice (some ⟨bz,0,none⟩) 64 64] rfl rfl (by kernel_rfl) rfl ?_ ?_
       ·go_simp
       refine(HWC.out).mono ?_;rintro e w3 ⟨rfl,hr3,ht3⟩;have HJ3:=hid (HJ1.out.disked hr3 ht3 (wr_n dc (P+1+K) _));have HT3:=hid (HT1.out.trans ht3);have HS:=hid ((ht3.block y HJ1.out.ylt (fun hm=>HJ1.out.yout (List.mem_append_left _ hm))).trans HS.out);clear hr3 ht3;refine⟨_,rfl,HS.out,?_⟩;go_frame;refine Frm.wb 11 93 (.bool (err (JourM.go dc)==0)) HS.out ?_;go_frame;refine Frm.wa 12 16 (.bool (err (JourM.go dc)==0)) HS.out ?_;go_frame;refine wpAnyH_done (by kernel_rfl) ?_ _;go_wp2_with fail;go_ret;exact⟨by rw[err_eq,HFIN.out.1];rfl,by rw[HFIN.out.2];exact HJ3.out,HT3.out⟩
      have HFIN:Hid (wOk d gen pos seq b marked last=okc∧wDk d gen pos seq b marked last=dc):=hid (by
       obtain⟨e1,e2⟩:=HWW.out;by_cases hx:okc=true
       ·have h1:ok0=true∧wrsB d0 (P+1) (pack b)=true:=by have:=HE.out.1;rw[hx] at this;simpa using this.symm
        have e3:wL d.n pos b last=pack b:=by
         unfold wL endL;rw[HT1.out];cases last with
         |false=>simp
         |true=>rw[if_pos rfl,if_neg (by intro h9;exact hgo ⟨hx,rfl,by omega⟩),List.append_nil]
        rw[e1,e2,e3,←HE.out.1,←HE.out.2];exact⟨rfl,rfl⟩
       ·have hx':okc=false:=by simpa using hx
        have h0:(ok0&&wrsB d0 (P+1) (pack b))=false:=by rw[←HE.out.1];exact hx'
        rw[e1,e2,HE.out.2,hx'];unfold wL;cases ok0 with
        |false=>simp
        |true=>
         have h1:wrsB d0 (P+1) (pack b)=false:=by simpa using h0
         rw[wrsB_app,wrsD_app,h1];simp)
      have HEND:Hid (∀e,e=Ending.returned (.bool okc)→e= .returned (.bool (wOk d gen pos seq b marked last))∧RJ wr S y r bs bw (wDk d gen pos seq b marked last) jr∧Turn [r,bs,bw] w wr):=hid (fun e he=>by rw[HFIN.out.1,HFIN.out.2];exact⟨he,HJ.out,HT.out⟩);cases okc with
      |false=>
       go_wp2_with fail;go_ret;exact HEND.out _ rfl
      |true=>
       cases last with
       |false=>
        go_wp2_with fail;go_ret;exact HEND.out _ rfl
       |true=>
        have hng:¬pos+1+K<room d.n:=fun h9=>hgo ⟨rfl,rfl,h9⟩;clear hgo;go_wp2_with (first
         |(go_at_call 30;refine HRM.out.mono ?_;rintro e u ⟨rfl,rfl⟩))
        go_ret;exact HEND.out _ rfl
end Go.Proofs.YtdjhlhellkajfaaGreat.Jou
namespace Go.Proofs.YtdjhlhellkajfaaGreat.Jou
open Go.RowKit Codec FrameM Cod JourM
open Disk (Dsk)
def rL (n gen:Nat) (ls:List (List UInt8)) (k:Nat):List (List UInt8):=laidAll gen 0 (ls.take k)++(if k=ls.length∧0<k then endL n (takes ls) else [])
theorem rL_zero(n gen:Nat)(ls:List (List UInt8)):rL n gen ls 0=[]:=by simp[rL,laidAll]
theorem rL_low{n gen k:Nat}{ls:List (List UInt8)}(hk:k<ls.length):rL n gen ls k=laidAll gen 0 (ls.take k):=by
 unfold rL;rw[if_neg (by omega),List.append_nil]
theorem rL_end{n gen:Nat}{ls:List (List UInt8)}(h:0<ls.length):rL n gen ls ls.length=beginL n gen ls:=by
 unfold rL beginL;rw[if_pos ⟨rfl,h⟩,List.take_length]
theorem rL_none(n gen:Nat)(h:0<room n):beginL n gen []=[nul64]:=by
 unfold beginL endL;simp[laidAll,takes,h]
theorem rL_step{n gen k:Nat}{ls:List (List UInt8)}(hk:k<ls.length):rL n gen ls (k+1)=rL n gen ls k++(put (markM gen k (ls.getD k []))::wL n (takes (ls.take k)) (ls.getD k []) (decide (k+1=ls.length))):=by
 rw[rL_low hk];unfold rL wL;rw[laidAll_snoc gen k ls hk];unfold laid;by_cases h:k+1=ls.length
 ·have ht:takes ls=takes (ls.take k)+takes1 (ls.getD k []):=by
   rw[←takes_snoc_take ls k hk,h,List.take_length]
  rw[if_pos ⟨h,by omega⟩,decide_eq_true h,←ht];simp
 rw[if_neg (fun e=>h e.1),decide_eq_false h];simp
theorem rL_pre{n gen k:Nat}{ls:List (List UInt8)}:∀m,k+m≤ls.length→∃R,rL n gen ls (k+m)=rL n gen ls k++R
 |0,_=>⟨[],by simp⟩
 |m+1,h=>by
  obtain⟨R,e⟩:=rL_pre (n:=n) (gen:=gen) (k:=k) (ls:=ls) m (by omega);exact⟨_,by rw[←Nat.add_assoc,rL_step (by omega),e,List.append_assoc]⟩
theorem rL_wrs{d:Dsk}{gen k:Nat}{ls:List (List UInt8)}(hk:k<ls.length)(h:wrsB d (secAt d.n gen 0) (rL d.n gen ls k)=true):
  wOk (wrsD d (secAt d.n gen 0) (rL d.n gen ls k)) gen (takes (ls.take k)) k (ls.getD k []) true (decide (k+1=ls.length))=wrsB d (secAt d.n gen 0) (rL d.n gen ls (k+1))∧
  wDk (wrsD d (secAt d.n gen 0) (rL d.n gen ls k)) gen (takes (ls.take k)) k (ls.getD k []) true (decide (k+1=ls.length))=wrsD d (secAt d.n gen 0) (rL d.n gen ls (k+1)):=by
 have hl:(rL d.n gen ls k).length=takes (ls.take k):=by rw[rL_low hk,laidAll_length]
 have hs:secAt d.n gen (takes (ls.take k))=secAt d.n gen 0+takes (ls.take k):=by rw[←sec_add,Nat.zero_add]
 rw[rL_step hk,wrsB_app,wrsD_app,h,hl,←hs];unfold wOk wDk;rw[wrsD_n,wrsB_cons,wrsD_cons];exact⟨by simp,by simp⟩
theorem rL_stop{d:Dsk}{gen k P:Nat}{ls:List (List UInt8)}(hk:k≤ls.length)(h:wrsB d P (rL d.n gen ls k)=false):
  wrsB d P (rL d.n gen ls k)=wrsB d P (rL d.n gen ls ls.length)∧wrsD d P (rL d.n gen ls k)=wrsD d P (rL d.n gen ls ls.length):=by
 obtain⟨R,e⟩:=rL_pre (n:=d.n) (gen:=gen) (k:=k) (ls:=ls) (ls.length-k) (by omega);rw[show k+(ls.length-k)=ls.length by omega] at e;rw[e,wrsB_app,wrsD_app,h];simp
end Go.Proofs.YtdjhlhellkajfaaGreat.Jou
