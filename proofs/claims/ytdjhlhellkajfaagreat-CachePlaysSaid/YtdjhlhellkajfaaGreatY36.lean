/-
  Texts KEnt, KKnm, KKnw, in one file. What each proves, and its conditions, stand at its head below.
-/
import Derived.Test.YtdjhlhellkajfaaGreatY28
import Derived.Test.YtdjhlhellkajfaaGreatY35
import Derived.Deep.DeepCutAuto
set_option maxRecDepth 100000
set_option maxHeartbeats 2000000
open Go.Lib (hid)
namespace Go.Proofs.YtdjhlhellkajfaaGreat.Cch
open Go.RowKit Codec Cod
open Disk (Turn Dk Dsk ptr)
open JourM (Jr)
open Jou (Jn It)
section
variable {w:World} {c lo b lj j g gs gm last:Nat} {d:Dsk} {jr:Jr} {v:Value} {N:List Nmb} {ev:Int}
theorem cents_any(h:Ch w c lo b lj j g gs gm d jr v N last ev)(hN:N.length≤1000000)(hs:∀x∈ents N,x.k.size≤281474976710656∧x.v.size≤281474976710656):
  Calls Tryz.prog 46 #[ptr c] w (fun e w'=>∃u,e= .returned u∧ERow w' w.heap.size u (ents N)∧Below w.heap.size w w'):=by
 have HM:=hid (made_any h);have HI:=hid (inorder_any sorts w c 1 lo b last N h.sh hN);have HS:=hid hs;have HLN:Hid ((ents N).length≤1000000):=hid (by unfold ents;rw[List.length_map];exact hN);clear h hs hN;unfold ptr at *;go_enter Tryz.func46,Tryz.ntmps46;go_wp2_with fail;refine HM.out.mono ?_;rintro e u ⟨rfl,rfl⟩;go_wp2_with fail;refine HI.out.mono ?_;rintro e w1 ⟨u1,rfl,⟨eb,C,rfl,heb,hh,hsz,hel⟩,hb1⟩;have HH1:=hid hh;have HE1:Hid (C.size=(ents N).length * 2∧∀p e,(ents N)[p]? =some e→El2 C p e):=hid ⟨hsz,hel⟩;have HB1:=hid hb1;have HEB:=hid heb;obtain⟨n,hn⟩:∃n,(ents N).length=n:=⟨_,rfl⟩
 have HN:=hid hn;have hn1:(n:Int)≤1000000:=by have:=HLN.out;omega
 clear hh hsz hel hb1 heb HI HM HLN;rw[hn] at HE1 ⊢;clear hn;go_wp2_with fail;go_loopw [15] (fun i wr=>∃(k:Nat) (C':Array Value),k≤n∧i= .int .i64 k∧wr.heap[eb]? =some (.cells C' 62 (0,0))∧C'.size=n * 2∧(∀p e,(ents N)[p]? =some e→El2 C' p e)∧Turn [eb] w1 wr) (fun i _=>n-(Go.RowKit.intOf i).toNat)
 case atStart=>exact⟨0,C,Nat.zero_le _,rfl,HH1.out,HE1.out.1,HE1.out.2,Turn.refl _ _⟩
 case round=>
  obtain⟨k,C',hk,rfl,hh,hsz,hel,ht⟩:=hrel;clear HH1 HE1;have HH:=hid hh;have HE:Hid (C'.size=n * 2∧∀p e,(ents N)[p]? =some e→El2 C' p e):=hid ⟨hsz,hel⟩;have HT:=hid ht;clear hh hsz hel ht;by_cases hlt:k<n
  ·have hkl:k<(ents N).length:=by rw[HN.out];exact hlt
   obtain⟨e0,e1⟩:=HE.out.2 k (ents N)[k] (List.getElem?_eq_getElem hkl);have HXK:Hid ((ents N)[k]? =some (ents N)[k]):=hid (List.getElem?_eq_getElem hkl);have HXS:=hid (HS.out (ents N)[k] (List.getElem_mem hkl));have c0:=(cell_at HH.out (k * 2)).trans e0;have c1:=(cell_at HH.out (k * 2+1)).trans e1;have hidx:∀u:World,(Instr.indexAt 84 (.slice (some ⟨eb,0,none⟩) n n) (.int .i64 k)).run Tryz.prog u= .ok (.pointer (some ⟨eb,k * 2,none⟩)) u:=fun u=>by
    have hs2:(Go.sizeOf 62).run Tryz.prog u= .ok 2 u:=by kernel_rfl
    simp[Instr.indexAt,asIntOf,run_underlying Tryz.underlying84,Result.andThen,Addr.add_mid,hs2];intro h1;omega
   clear e0 e1;generalize (ents N)[k]=x at *;clear hkl;obtain⟨xk,xv⟩:=x;dsimp only at *;have HXB:=hid (heap_alloc_new wr (.cells #[.string xk,.string xv] 62));have HBX:=Frm.alloc_below wr (.cells #[.string xk,.string xv] 62);have HBX:=hid HBX;go_upto_region 7 with fail;have HC:=hid (eclone_any (wr.alloc (.cells #[.string xk,.string xv] 62)) ⟨xk,xv⟩ HXS.out);unfold entV at HC;dsimp only at HC;have b0:=cell_at HXB.out 0;have b1:=cell_at HXB.out 1;clear c0 c1;go_wp2_with fail;refine HC.out.mono ?_;rintro e w2 ⟨rfl,hb2⟩;have HBA:Hid (Below wr.heap.size wr w2):=hid (HBX.out.trans (hb2.mono HBX.out.size));clear hb2 HBX HXB HC b0 b1;have hg2:=(HBA.out.block eb (lt_of_heap HH.out)).trans HH.out;have hi2:k * 2+1<C'.size:=by have:=HE.out.1;omega
   have d0:=cell_at hg2 (k * 2);have d1:=cell_at hg2 (k * 2+1);rw[Array.getElem?_eq_getElem (by omega)] at d0 d1;have f0:=free_at hg2 (k * 2);have f1:=free_at hg2 (k * 2+1);have HG2:=hid hg2;have HI2:=hid hi2;generalize C'[k * 2]'(by omega)=y0 at d0;generalize C'[k * 2+1]'(by omega)=y1 at d1;clear hg2 hi2;go_wp2_with fail;go_roundw
   case rel=>exact⟨k+1,_,by omega,by go_num,set_at (set_at HG2.out (k * 2) (.string xk)) (k * 2+1) (.string xv),by simp;exact HE.out.1,fun q x hx=>by
    by_cases e:q=k
    ·subst e;rw[HXK.out] at hx;injection hx with hx;subst hx;exact el2_same HI2.out ⟨xk,xv⟩
    ·exact el2_other e ⟨xk,xv⟩ x (HE.out.2 q x hx),((HT.out.below HBA.out).setCell (.inl (by simp)) _).setCell (.inl (by simp)) _⟩
   case measure=>simp[Go.RowKit.intOf];omega
  obtain rfl:k=n:=by omega
  have HF:Hid (ERow wr w.heap.size (.slice (some ⟨eb,0,none⟩) k k) (ents N)):=hid ⟨eb,C',by rw[HN.out],HEB.out,HH.out,by rw[HN.out];exact HE.out.1,HE.out.2⟩;have HBE:Hid (Below w.heap.size w wr):=hid (HB1.out.trans (HT.out.low (by intro q hq;have:=HEB.out;simp at hq;omega) HB1.out.size));go_wp2_with fail;go_ret;exact⟨_,rfl,HF.out,HBE.out⟩
end
end Go.Proofs.YtdjhlhellkajfaaGreat.Cch
namespace Go.Proofs.YtdjhlhellkajfaaGreat.Cch
open Go.RowKit Codec Cod
open Disk (Turn Dk Dsk ptr Nums fresh)
open JourM (Jr appE appD appJ appDo extD extB takes takes1 room Free kA kA_n kA_rest)
open Jou (Jn It)
def eA1:Ent:=⟨⟨#[97]⟩,⟨#[49]⟩⟩
def kP:List UInt8:=packE eA1
theorem kP_len:kP.length=10:=by unfold kP;rw[packE_length];rfl
theorem kP_takes:takes1 kP=2:=by unfold takes1;rw[kP_len];rfl
def kcB:Dsk:=appD kA ⟨1,[],false⟩ kP
theorem kcB_is:appE kA ⟨1,[],false⟩ kP=0∧kcB=extD kA 1 0 0 kP∧appJ kA ⟨1,[],false⟩ kP=⟨1,[kP],false⟩:=by
 have hb:=(kA_rest.2.ext 1 0 0 kP).1;have hl:=kP_len;have ht:=kP_takes;have hr:room 20=9:=rfl;have hdo:appDo kA ⟨1,[],false⟩ kP=true:=by
  unfold appDo;rw[kA_n];simp[hl,ht,hr,takes]
 have hb':extB kA 1 (takes []) ([]:List (List UInt8)).length kP=true:=hb;rcases Jou.app_parts kA ⟨1,[],false⟩ kP with⟨h,_⟩|⟨_,h,_⟩|⟨_,_,h,_⟩|⟨_,_,_,h,_⟩|⟨_,_,_,_,h1,h2,h3⟩
 ·cases h
 ·omega
 ·rw[kA_n,ht,hr] at h;simp[takes] at h
 ·rw[hb'] at h;cases h
 exact⟨h1,h2,h3⟩
theorem kcB_rest:JourM.Rest kcB ⟨1,[kP],false⟩:=by
 have hr:takes ([]:List (List UInt8))+takes1 kP≤room kA.n:=by rw[kA_n,kP_takes];decide
 have:=JourM.app_done kA_rest.1 (b:=kP) (by rw[kP_len];decide) hr (kA_rest.2.ext 1 0 0 kP).1;rw[kcB_is.2.1];exact this
theorem kP_un:unB kP=true∧unE kP=eA1:=⟨unB_pack eA1 (by decide),unE_pack eA1 (by decide)⟩
theorem kcC_rest:JourM.Rest (kcB.crash []) ⟨1,[kP],false⟩:=JourM.rest_crash kcB_rest []
theorem kcC_room:(room (kcB.crash []).n:Int)-takes [kP]=7:=by
 have h1:(kcB.crash []).n=20:=by rw[JourM.crash_n,kcB_is.2.1,JourM.extD_n,kA_n]
 rw[h1];simp[takes,kP_takes];rfl
theorem kcN:laysF ([kP].map unE) [kP].length=[⟨eA1,1⟩]:=by
 simp[laysF,lay,cut,kP_un.2]
theorem kcF:fndB [⟨eA1,1⟩] ⟨#[97]⟩=true∧fndE [⟨eA1,1⟩] ⟨#[97]⟩=eA1:=by
 have:findN [⟨eA1,1⟩] ⟨#[97]⟩=some ⟨eA1,1⟩:=by simp[findN,eA1]
 simp[fndB,fndE,this]
theorem open_rest(w:World)(g gs gm:Nat)(d:Dsk)(jr:Jr)(h:Dk w g gs gm d)(hr:JourM.Rest d jr)(hb:jr.gen<9223372036854775807):Calls Tryz.prog 13 #[ptr g] w (Jou.Opened w g gs gm d jr):=by
 obtain⟨h1,h2,h3⟩:=hr.opened;have hnw:=hr.good.newest;have h11:=hr.good.one;have:=Jou.open_old w g gs gm d h hr.n8 hr.off (by omega) (by omega);rwa [h2,h3] at this
theorem num7_any(w:World)(z:Int):Calls Tryz.prog 40 #[.int .i64 z] w (Disk.Ends (.int .i64 z) w):=by
 go_enter Tryz.func40,Tryz.ntmps40;go_wp2_with fail;go_ret;exact⟨rfl,rfl⟩
end Go.Proofs.YtdjhlhellkajfaaGreat.Cch
namespace Go.Proofs.YtdjhlhellkajfaaGreat.Cch
open Go.RowKit Codec Cod
open Disk (Turn Dk Dsk ptr Nums fresh)
open JourM (Jr appE appD appJ takes takes1 room kA)
open Jou (Jn It low_turn Jn.owns_low)
theorem copen0_any(w:World)(g gs gm:Nat)(h:Dk w g gs gm (fresh 20)):Calls Tryz.prog 38 #[ptr g] w (COpened w g gs gm kA ⟨1,[],false⟩):=
 copen_any w g gs gm kA ⟨1,[],false⟩ (Jou.Dk.lows h) (Jou.open_first w g gs gm h) (by simp)
theorem copen1_any(w:World)(g gs gm:Nat)(h:Dk w g gs gm (kcB.crash [])):Calls Tryz.prog 38 #[ptr g] w (COpened w g gs gm (kcB.crash []) ⟨1,[kP],false⟩):=
 copen_any w g gs gm _ _ (Jou.Dk.lows h) (open_rest w g gs gm _ _ h kcC_rest (by decide)) (by simp[kP_un.1])
theorem cput0_any{w:World}{c lo b lj j g gs gm:Nat}{v:Value}(h:Ch w c lo b lj j g gs gm kA ⟨1,[],false⟩ v [] 0 0):
  Calls Tryz.prog 41 #[ptr c,.string ⟨#[97]⟩,.string ⟨#[49]⟩] w (Putted w c lo b lj j g gs gm v 0 kcB ⟨1,[kP],false⟩ (putN 0 [] 0 eA1) (putL 0 0) 0):=by
 have:=cput_app h (by simp) (by omega) eA1 (by decide) (by decide) rfl (fun h=>by cases h) 0 kcB_is.1 (by decide);rw[show appD kA ⟨1,[],false⟩ (packE eA1)=kcB from rfl,show appJ kA ⟨1,[],false⟩ (packE eA1)=⟨1,[kP],false⟩ from kcB_is.2.2] at this;exact this
theorem Ch.lows_{w:World}{c lo b lj j g gs gm last:Nat}{d:Dsk}{jr:Jr}{v:Value}{N:List Nmb}{ev:Int}(h:Ch w c lo b lj j g gs gm d jr v N last ev){base:Nat}(hj:base≤j)(hg:base≤g∧base≤gs∧base≤gm):∀k∈JOwn j g gs gm v,base≤k:=h.jn.owns_low hj hg
theorem knows_any(w:World):Calls Tryz.prog 32 #[] w (EndsBelow (.bool true) w):=by
 have HN:=hid (Disk.new_disk w 20 (by omega) (by omega));go_enter Tryz.func32,Tryz.ntmps32;go_wp2_with fail;refine HN.out.mono ?_;rintro e w1 ⟨g,gs,gm,rfl,hdk,ht,g1,g2,g3⟩;have HG:=hid (And.intro g1 (And.intro g2 g3));have HB1:Hid (Below w.heap.size w w1):=hid (ht.low (by simp) (Nat.le_refl _));have HO:=hid (copen0_any w1 g gs gm hdk);clear hdk ht g1 g2 g3 HN;unfold ptr at *;go_wp2_with fail;refine HO.out.mono ?_;rintro e w2 ⟨c,lo,b,lj,j,v,rfl,hc,ht,hl1,hl2,hl3,hl4⟩;have HS3:Hid (∀k∈[g,gs,gm],w.heap.size≤k):=hid (by have:=HG.out;intro k hk;simp at hk;omega);have HB2:=hid (low_turn HB1.out ht HS3.out);have HL2:Hid (w.heap.size≤j∧w.heap.size≤lo∧w.heap.size≤c∧w.heap.size≤b):=hid (by have:=HB1.out.size;omega);have HC2:=hid hc;have HP:=hid (cput0_any hc);clear hc ht hl1 hl2 hl3 hl4 HO;unfold ptr at *;go_wp2_with fail;refine HP.out.mono ?_;rintro e w3 ⟨rfl,v3,hc3,hf3,hv3⟩;have HB3:=hid (HB2.out.trans (hf3.low HB2.out.size HL2.out.2 (HC2.out.lows_ HL2.out.1 HG.out)));have HCR:=hid (Disk.crash_disk w3 g gs gm _ hc3.jn.disk none 0 0 [] ⟨rfl,fun h=>absurd h (by omega)⟩);clear hc3 hf3 hv3 HP HC2;unfold ptr at HCR;go_wp2_with fail;refine HCR.out.mono ?_;rintro e w4 ⟨rfl,hd4,ht4⟩;have HB4:=hid (low_turn HB3.out ht4 HS3.out);have HO2:=hid (copen1_any w4 g gs gm hd4);clear hd4 ht4 HCR;unfold ptr at HO2;go_wp2_with fail;refine HO2.out.mono ?_;rintro e w5 ⟨c5,lo5,b5,lj5,j5,v5,rfl,hc,ht,hl1,hl2,hl3,hl4⟩;have HB5:=hid (low_turn HB4.out ht HS3.out);rw[kcN] at hc;have HC5:=hid hc;clear hc ht hl1 hl2 hl3 hl4 HO2;have HGT:=hid (cget_any HC5.out (by simp) ⟨#[97]⟩ (by decide) (by rw[kcF.2];decide));rw[kcF.1,kcF.2] at HGT;have e1:eA1.v=⟨#[49]⟩:=rfl;rw[e1] at HGT;unfold ptr at *;go_wp2_with fail;refine HGT.out.mono ?_;rintro e w6 ⟨rfl,hb6⟩;have HC6:=hid (HC5.out.below hb6);have HB6:=hid (HB5.out.trans (hb6.mono HB5.out.size));clear hb6 HGT HC5;have HE:=hid (cents_any HC6.out (by simp) (by simp[ents];decide));unfold ptr at HE;go_wp2_with (first
  |(go_at_call 40;refine(num7_any _ _).mono ?_;rintro e u ⟨rfl,rfl⟩))
 refine HE.out.mono ?_;rintro e w7 ⟨u,rfl,⟨eb,C,rfl,_,_,_,_⟩,hb7⟩;have HC7:=hid (HC6.out.below hb7);have HB7:=hid (HB6.out.trans (hb7.mono HB6.out.size));have hl:((ents [⟨eA1,1⟩]).length:Int)=1:=rfl;clear hb7 HE HC6;generalize (ents [⟨eA1,1⟩]).length=n1 at *;have HDN:=hid (cdown_any HC7.out);have HFR:=hid (cfree_any HC7.out);rw[show(⟨1,[kP],false⟩:Jr).down=false from rfl] at HDN;rw[show(⟨1,[kP],false⟩:Jr).gs=[kP] from rfl,kcC_room] at HFR;unfold ptr at HDN HFR;go_wp2_with fail;refine HDN.out.mono ?_;rintro e u ⟨rfl,rfl⟩;go_wp2_with fail;refine HFR.out.mono ?_;rintro e w8 ⟨rfl,hb8⟩;have HB8:=hid (HB7.out.trans (hb8.mono HB7.out.size));clear hb8;go_wp2_with fail;go_ret;exact⟨rfl,HB8.out⟩
end Go.Proofs.YtdjhlhellkajfaaGreat.Cch
