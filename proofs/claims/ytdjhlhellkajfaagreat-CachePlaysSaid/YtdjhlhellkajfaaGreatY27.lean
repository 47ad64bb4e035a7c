/-
  Texts DNums, DCrash, in one file. What each proves, and its conditions, stand at its head below.
-/
import Derived.Test.YtdjhlhellkajfaaGreatY21
import Derived.Test.YtdjhlhellkajfaaGreatY26
set_option maxRecDepth 100000
set_option maxHeartbeats 4000000
open Go.Lib (hid)
namespace Go.Proofs.YtdjhlhellkajfaaGreat.Disk
open Go.RowKit Go.Maps
def Nums (w:World) (S:List Nat) (A:Option Addr) (n:Nat) (zs:List Int):Prop:=
 zs.length=n∧(0<n→∃b off,A=some ⟨b,off,none⟩∧b∉S∧b<w.heap.size∧∀j,j<n→w.cell? ⟨b,off+j,none⟩=some (.int .i64 (zs.getD j 0)))
theorem Nums.turn{w w':World}{S S':List Nat}{A:Option Addr}{n:Nat}{zs:List Int}(h:Nums w S A n zs)(ht:Turn S' w w')(hS:∀k∈S',k∈S):Nums w' S A n zs:=
 ⟨h.1,fun hn=>by
  obtain⟨b,off,e,hb,hl,hc⟩:=h.2 hn;exact⟨b,off,e,hb,Nat.lt_of_lt_of_le hl ht.size,fun j hj=>(World.cell?_of_block (w:=w) (ht.block b hl (fun hm=>hb (hS b hm)))).trans (hc j hj)⟩⟩
theorem Nums.nil{w:World}{S:List Nat}{A:Option Addr}:Nums w S A 0 []:=⟨rfl,fun h=>absurd h (by omega)⟩
def Lies (w:World) (S:List Nat) (A:Option Addr) (n k:Nat) (z:Int) (b o:Nat):Prop:=
 b∉S∧b<w.heap.size∧(∀c w',(Instr.indexAt 41 (.slice A n c) (.int .i64 k)).run Tryz.prog w'= .ok (.pointer (some ⟨b,o,none⟩)) w')∧w.cell? ⟨b,o,none⟩=some (.int .i64 z)
theorem Nums.lies{w:World}{S:List Nat}{A:Option Addr}{n:Nat}{zs:List Int}(h:Nums w S A n zs){k:Nat}(hk:k<n):∃b o,Lies w S A n k (zs.getD k 0) b o:=by
 obtain⟨b,off,rfl,hb,hl,hc⟩:=h.2 (by omega);refine⟨b,off+k,hb,hl,fun c w'=> ?_,hc k hk⟩;simp[Instr.indexAt,asIntOf,run_underlying Tryz.underlying41,Result.andThen,Addr.add_mid];intro h1;omega
theorem Lies.turn{w w':World}{S:List Nat}{A:Option Addr}{n k:Nat}{z:Int}{b o:Nat}(h:Lies w S A n k z b o)(ht:Turn S w w'):w'.cell? ⟨b,o,none⟩=some (.int .i64 z):=
 (World.cell?_of_block (w:=w) (ht.block b h.2.1 h.1)).trans h.2.2.2
theorem listed_nums{w1:World}{base:Nat}{v:Value}{ks:List Nat}(h:w1.ownsRow base 3 1 v ks.length (ks.map fun k:Nat=>encZ (k:Int))){S:List Nat}(hS:∀k∈S,k<base):
  ∃A c,v= .slice A ks.length c∧Nums w1 S A ks.length (ks.map fun k:Nat=>(k:Int)):=by
 rcases h.2 with⟨rfl,h0⟩|⟨g,cap,cur,rfl,hg,hh,h1,h2,h3,h4⟩
 ·obtain rfl:ks=[]:=List.eq_nil_of_length_eq_zero h0;exact⟨none,0,rfl,Nums.nil⟩
 refine⟨some ⟨g,0,none⟩,cap,rfl,by simp,fun _=>⟨g,0,rfl,fun hm=>by have:=hS g hm;omega,lt_of_heap hh,fun j hj=> ?_⟩⟩;rw[cell_at hh,Nat.zero_add];have e:cur.toList[j]? =(ks.map fun k:Nat=>encZ (k:Int))[j]? :=by
  rw[←h4,List.getElem?_take_of_lt (by omega)]
 rw[←Array.getElem?_toList,e];simp[encZ,hj]
end Go.Proofs.YtdjhlhellkajfaaGreat.Disk
namespace Go.Proofs.YtdjhlhellkajfaaGreat.Disk
open Go.RowKit Go.Maps
theorem run_exec_load(w:World)(b off:Nat)(s:List UInt8)(o:Oper){ρ:Operand→Value}{x:Operand}(hs:s.length=64)(hr:w.rangeAt b off (cel s))(ho:o.op= .load 132 x)(hx:ρ x= .pointer (some ⟨b,off,none⟩)):
  (execOp ρ o).run Tryz.prog w= .ok (.value (.agg (cel s).toArray)) w:=by
 unfold execOp;simp only[ho,hx,Sem.run_bind,Sem.run_pure,Result.andThen_ok,run_load49 w b off s hs hr]
theorem run_exec_look(w:World)(v:Value)(gm i:Nat){o:Oper}{ρ:Operand→Value}{x y:Operand}(hr:(Instr.lookup 99 (.map (some gm)) (.int .i64 i) false).run Tryz.prog w= .ok v w)(ho:o.op=Op.lookup 99 x y false)(hx:ρ x= .map (some gm))(hy:ρ y= .int .i64 i):
  (execOp ρ o).run Tryz.prog w= .ok (.value v) w:=by
 unfold execOp;simp only[ho,hx,hy,Sem.run_bind,Sem.run_pure,Result.andThen_ok,hr]
theorem run_exec_store(w:World)(b off:Nat)(s:List UInt8){o:Oper}{ρ:Operand→Value}{x y:Operand}(ht:w.there b off 64)(hs:s.length=64)(ho:o.op= .store 132 x y)(hx:ρ x= .pointer (some ⟨b,off,none⟩))(hy:ρ y= .agg (cel s).toArray):
  (execOp ρ o).run Tryz.prog w= .ok .skip (w.setCells b off (cel s)):=by
 have hc:(cel s).toArray.size=64:=by rw[List.size_toArray,cel_length,hs]
 have e:=run_storeAt_mid (P:=Tryz.prog) w b off 132 (cel s).toArray (hc ▸ ht) (hc ▸ size49) (cel_all s);unfold execOp;simp only[ho,hx,hy,Sem.run_bind,Sem.run_pure,Result.andThen_ok,e]
theorem waiting_nums(w:World)(g gs gm:Nat)(d:Dsk)(h:Dk w g gs gm d):Calls Tryz.prog 72 #[ptr g] w fun e w'=>∃A c,e= .returned (.slice A (waitsOf d.n d.waits).length c)∧
  Nums w' [g,gs,gm] A (waitsOf d.n d.waits).length ((waitsOf d.n d.waits).map fun k:Nat=>(k:Int))∧Below w.heap.size w w':=by
 refine(waiting_disk w g gs gm d h).mono ?_;rintro e w' ⟨v,rfl,hrow,hb⟩;obtain⟨A,c,rfl,hN⟩:=listed_nums hrow (S:=[g,gs,gm]) (by
  have h1:=h.lt;have h2:=h.sf.1;have h3:=h.ltm;intro k hk;simp at hk;rcases hk with rfl|rfl|rfl<;>assumption)
 exact⟨A,c,rfl,hN,hb⟩
theorem crash_step{d:Dsk}{fs:List Int}{k i:Nat}{s:List UInt8}(hi:(waitsOf d.n d.waits).getD k 0=i)(hf:d.waits i=some s)(j:Nat):
  upd (crashS d fs k) i (surv (fs.getD k 0) (crashS d fs k i) s) j=crashS d fs (k+1) j:=by
 show _=upd (crashS d fs k) ((waitsOf d.n d.waits).getD k 0) _ j;simp only[hi,hf,Option.getD_some]
theorem crash_disk(w:World)(g gs gm:Nat)(d:Dsk)(h:Dk w g gs gm d)(A:Option Addr)(n c:Nat)(fs:List Int)(hN:Nums w [g,gs,gm] A n fs):
  Calls Tryz.prog 21 #[ptr g,.slice A n c] w (Now (.tuple #[]) w g gs gm (d.crash fs)):=by
 have HM:=hid (made_disk w g gs gm d h);have HWT:=hid (waiting_nums w g gs gm d h);have HD:=hid h;have HN:=hid hN;have hm65:(waitsOf d.n d.waits).length≤65536:=by have:=waitsOf_length d.n d.waits;have:=h.ok.2.1;omega
 have HLEN:Hid (∀k,k<(waitsOf d.n d.waits).length→∃i s,(waitsOf d.n d.waits).getD k 0=i∧((waitsOf d.n d.waits).map fun k:Nat=>(k:Int)).getD k 0=(i:Int)∧i<d.n∧d.waits i=some s):=hid fun k hk=>by
  have hmem:(waitsOf d.n d.waits).getD k 0∈waitsOf d.n d.waits:=by
   rw[List.getD_eq_getElem?_getD,List.getElem?_eq_getElem hk];exact List.getElem_mem _
  obtain⟨h1,h2⟩:=waitsOf_mem.1 hmem;obtain⟨s,hs⟩:=Option.isSome_iff_exists.1 h2;refine⟨_,s,rfl,?_,h1,hs⟩;simp[List.getD_eq_getElem?_getD,hk]
 clear h hN;unfold ptr at HM HWT ⊢;obtain⟨m,hm⟩:∃m,m=(waitsOf d.n d.waits).length:=⟨_,rfl⟩
 rw[←hm] at HWT hm65 HLEN;have HMM:=hid hm;clear hm;go_enter Tryz.func21,Tryz.ntmps21;go_wp2_with fail;refine HM.out.mono ?_;rintro e w0 ⟨rfl,rfl⟩;go_wp2_with fail;refine HWT.out.mono ?_;rintro e w1 ⟨A1,c1,rfl,hN1,hb⟩;have HN1:=hid hN1;have HT1:=hid (Turn.ofBelow (S:=[]) hb);clear hN1 hb;go_wp2_with fail;go_loopw [13] (fun p wr=>∃k:Nat,k≤m∧p= .int .i64 k∧Sf wr gs d.n (crashS d fs k)∧Turn [gs] w1 wr) (fun p _=>m-(Go.RowKit.intOf p).toNat)
 case atStart=>
  have hdk:=HD.out;exact⟨0,Nat.zero_le _,rfl,hdk.sf.keep (HT1.out.block gs hdk.sf.1 (by simp)) HT1.out.size,Turn.refl _ _⟩
 case round=>
  obtain⟨k,hk,rfl,hsf,htr⟩:=hrel;obtain⟨wo,rfl⟩:∃wo:World,wo=wr:=⟨_,rfl⟩
  have HSF:=hid hsf;have HTR:=hid htr;have eg:wo.heap[g]? =w.heap[g]? :=(htr.block g (Nat.lt_of_lt_of_le HD.out.lt HT1.out.size) (by simp;exact HD.out.ne)).trans (HT1.out.block g HD.out.lt (by simp));have em:wo.heap[gm]? =w.heap[gm]? :=(htr.block gm (Nat.lt_of_lt_of_le HD.out.ltm HT1.out.size) (by simp;exact fun e=>HD.out.nes e.symm)).trans (HT1.out.block gm HD.out.ltm (by simp));obtain⟨z0,hz0⟩:=HD.out.six;have hz:Six wo g gs gm d.n d.off d.stops d.left z0:=eg.trans hz0;have HZ:=hid hz;have HMP:=hid (HD.out.mp.keep em);clear hsf htr eg em hz0;by_cases hkm:k<m
  ·obtain⟨i,s,hgi,hgz,hi,hf⟩:=HLEN.out k hkm;obtain⟨b1,o1,hl1⟩:=HN1.out.lies hkm;rw[hgz] at hl1;have hidx1:=hl1.2.2.1;have cz:wo.cell? ⟨b1,o1,none⟩=some (.int .i64 i):=hl1.turn (HTR.out.more (S':=[g,gs,gm]) (by simp));have i0:(0:Int)≤i:=by omega
   have i1:(i:Int)<d.n:=by omega
   have k0:(k:Int)<m:=by omega
   have HI:=hid hi;have HF:=hid hf;have HGI:=hid hgi;have HA:=hid (crashS_length HD.out.ok fs k (by rw[←HMM.out];exact hk) i hi);have HSL:=hid (HD.out.ok.2.2.2.1 i s hf).2;have HKM:=hid hkm;have c0:=hz.c0;have c1':=hz.c1;clear hgi hgz hi hf hl1 hz hkm;by_cases hkn:k<n
   ·obtain⟨b2,o2,hl2⟩:=(HN.out.turn HT1.out (by simp)).lies hkn;have hidx2:=hl2.2.2.1;have cf:wo.cell? ⟨b2,o2,none⟩=some (.int .i64 (fs.getD k 0)):=hl2.turn (HTR.out.more (S':=[g,gs,gm]) (by simp));have k1:(k:Int)<n:=by omega
    have HFE:Hid (fs.getD k 0=fs.getD k 0):=hid rfl;generalize hfate:fs.getD k 0=fate at cf;have HFT:=hid hfate;clear hl2 hkn hfate HFE;go_upto_region 7 with fail;have HS:Hid (wo.drew.cell? ⟨g,0,none⟩=some (.slice (some ⟨gs,0,none⟩) d.n d.n)∧wo.drew.cell? ⟨g,1,none⟩=some (.map (some gm))∧wo.drew.rangeAt gs (i * 64) (cel (crashS d fs k i))∧Mp wo.drew gm d.n d.waits):=
     hid ⟨c0,c1',(World.rangeAt_drew _ _ _ _).2 (HSF.out.2.2 i HI.out),HMP.out.keep rfl⟩
    have H3:=hid HD.out.ok.2.1;generalize ha:crashS d fs k i=a at HS HA;have HAE:=hid ha;clear ha;refine AtS.head 19 21 3 (fun w'=>w'.cell? ⟨g,0,none⟩=some (.slice (some ⟨gs,0,none⟩) d.n d.n)∧w'.cell? ⟨g,1,none⟩=some (.map (some gm))∧w'.rangeAt gs (i * 64) (cel a)∧Mp w' gm d.n d.waits) (by kernel_rfl) (by kernel_rfl) (fun _ _ dd _ _ h=>by cases dd<;>exact h) HS.out (fun K hK=> ?_);have HK:=hid hK;clear hK;simp only[List.take_succ_cons,List.take_zero];refine heldL.step (.pointer (some ⟨g,0,none⟩)) rfl (fun w' hw'=> ?_) ?_
    ·skip
     exact rfl
    go_frame;refine heldL.step (.pointer (some ⟨g,0,none⟩)) rfl (fun w' hw'=> ?_) ?_
    ·skip
     obtain⟨h0,h1,h2,h3⟩:=hw';go_simp
    go_frame;refine heldL.step (.pointer (some ⟨g,0,none⟩)) rfl (fun w' hw'=> ?_) ?_
    ·skip
     obtain⟨h0,h1,h2,h3⟩:=hw';go_simp
    go_frame;refine heldL.step (.slice (some ⟨gs,0,none⟩) d.n d.n) rfl (fun w' hw'=> ?_) ?_
    ·skip
     obtain⟨h0,h1,h2,h3⟩:=hw';go_simp
    go_frame;refine heldL.step (.int .i64 i) rfl (fun w' hw'=> ?_) ?_
    ·skip
     exact rfl
    go_frame;refine heldL.step (.int .i64 fate) rfl (fun w' hw'=> ?_) ?_
    ·skip
     exact rfl
    go_frame;refine heldL.step (.pointer (some ⟨g,0,none⟩)) rfl (fun w' hw'=> ?_) ?_
    ·skip
     exact rfl
    go_frame;refine heldL.step (.pointer (some ⟨g,0,none⟩)) rfl (fun w' hw'=> ?_) ?_
    ·skip
     obtain⟨h0,h1,h2,h3⟩:=hw';go_simp
    go_frame;refine heldL.step (.pointer (some ⟨g,0,none⟩)) rfl (fun w' hw'=> ?_) ?_
    ·skip
     obtain⟨h0,h1,h2,h3⟩:=hw';go_simp
    go_frame;refine heldL.step (.slice (some ⟨gs,0,none⟩) d.n d.n) rfl (fun w' hw'=> ?_) ?_
    ·skip
     obtain⟨h0,h1,h2,h3⟩:=hw';go_simp
    go_frame;refine heldL.step (.int .i64 i) rfl (fun w' hw'=> ?_) ?_
    ·skip
     exact rfl
    go_frame;refine heldL.step (.pointer (some ⟨gs,i * 64,none⟩)) rfl (fun w' hw'=> ?_) ?_
    ·skip
     obtain⟨h0,h1,h2,h3⟩:=hw';go_simp
    go_frame;refine heldL.step (.agg (cel a).toArray) rfl (fun w' hw'=> ?_) ?_
    ·skip
     obtain⟨h0,h1,h2,h3⟩:=hw';exact run_exec_load _ _ _ _ _ HA.out h2 rfl rfl
    go_frame;refine heldL.step (.pointer (some ⟨g,0,none⟩)) rfl (fun w' hw'=> ?_) ?_
    ·skip
     exact rfl
    go_frame;refine heldL.step (.pointer (some ⟨g,0,none⟩)) rfl (fun w' hw'=> ?_) ?_
    ·skip
     obtain⟨h0,h1,h2,h3⟩:=hw';go_simp
    go_frame;refine heldL.step (.pointer (some ⟨g,1,none⟩)) rfl (fun w' hw'=> ?_) ?_
    ·skip
     obtain⟨h0,h1,h2,h3⟩:=hw';go_simp
    go_frame;refine heldL.step (.map (some gm)) rfl (fun w' hw'=> ?_) ?_
    ·skip
     obtain⟨h0,h1,h2,h3⟩:=hw';go_simp
    go_frame;refine heldL.step (.int .i64 i) rfl (fun w' hw'=> ?_) ?_
    ·skip
     exact rfl
    go_frame;refine heldL.step (.agg (cel s).toArray) rfl (fun w' hw'=> ?_) ?_
    ·skip
     obtain⟨h0,h1,h2,h3⟩:=hw';exact run_exec_look _ _ _ _ (look_sec w' gm d.n d.waits i s HI.out H3.out HF.out h3) rfl rfl rfl
    go_frame;refine HK.out _ ?_;clear HK;have hrl:=surv_length fate HA.out HSL.out;generalize hrr:surv fate a s=r at hrl;have HRL:=hid hrl;have HRR:=hid hrr;clear hrl hrr;have HG:=hid (lt_of_heap HZ.out);have HMLT:=hid HMP.out.lt;have HCA:=hid (survivor_any wo.drew fate a s HA.out HSL.out);rw[HRR.out] at HCA;refine AtS.call (i:=19) (f:=73) (args:= #[.int .i64 fate,.agg (cel a).toArray,.agg (cel s).toArray]) rfl (by kernel_rfl) (by decide) rfl ?_ ?_
    ·go_simp
    refine HCA.out.mono ?_;rintro e w5 ⟨rfl,hb5⟩;have e0:w5.heap[g]? =wo.heap[g]? :=hb5.block g HG.out;have es:w5.heap[gs]? =wo.heap[gs]? :=hb5.block gs HSF.out.1;have em:w5.heap[gm]? =wo.heap[gm]? :=hb5.block gm HMLT.out;have HS5:Hid (w5.cell? ⟨g,0,none⟩=some (.slice (some ⟨gs,0,none⟩) d.n d.n)∧w5.cell? ⟨g,1,none⟩=some (.map (some gm))∧w5.rangeAt gs (i * 64) (cel a)∧Mp w5 gm d.n d.waits):=
     hid ⟨(World.cell?_of_block (w:=wo) e0).trans c0,(World.cell?_of_block (w:=wo) e0).trans c1',rangeAt_keep HS.out.2.2.1 es,HMP.out.keep em⟩
    have HSF5:=hid (HSF.out.keep es hb5.size);have HB5:=hid hb5;clear hb5 e0 es em;refine⟨_,rfl,HS5.out,?_⟩;go_frame;refine AtS.take (i:=20) (v:= .pointer (some ⟨gs,i * 64,none⟩)) rfl (by kernel_rfl) (by kernel_rfl) (by kernel_rfl) (by decide) (by decide) (fun _ _ _ h=>h) rfl (fun w' hw'=> ?_) HS5.out ?_
    ·obtain⟨h0,h1,h2,h3⟩:=hw';go_simp
    go_frame;refine AtS.last (i:=21) rfl (by kernel_rfl) (by kernel_rfl) (by decide) rfl (run_exec_store w5 gs (i * 64) r (HSF5.out.at_ HI.out) HRL.out rfl rfl rfl) ?_;go_frame;have HNX:Hid (Sf (w5.setCells gs (i * 64) (cel r)) gs d.n (crashS d fs (k+1))∧Turn [gs] w1 (w5.setCells gs (i * 64) (cel r))):=hid ⟨(HSF5.out.set (fun j hj=>crashS_length HD.out.ok fs k (by rw[←HMM.out];exact hk) j hj) HI.out HRL.out).same fun j _=>by
      rw[←crash_step HGI.out HF.out,HFT.out,HAE.out,HRR.out],((HTR.out.drew.below HB5.out).setCells (by simp) _ _)⟩
    have HK1:=hid hk;generalize w5.setCells gs (i * 64) (cel r)=w6 at HNX;go_wp2_with fail;go_roundw
    case rel=>exact⟨k+1,by have:=HKM.out;omega,by go_num,HNX.out⟩
    case measure=>simp[Go.RowKit.intOf];omega
   have HFT:Hid (fs.getD k 0=0):=hid (by
    have:=HN.out.1;rw[List.getD_eq_getElem?_getD,List.getElem?_eq_none (by omega)];rfl)
   have k1:(n:Int)≤k:=by omega
   clear hkn;go_upto_region 7 with fail;have HS:Hid (wo.drew.cell? ⟨g,0,none⟩=some (.slice (some ⟨gs,0,none⟩) d.n d.n)∧wo.drew.cell? ⟨g,1,none⟩=some (.map (some gm))∧wo.drew.rangeAt gs (i * 64) (cel (crashS d fs k i))∧Mp wo.drew gm d.n d.waits):=
    hid ⟨c0,c1',(World.rangeAt_drew _ _ _ _).2 (HSF.out.2.2 i HI.out),HMP.out.keep rfl⟩
   have H3:=hid HD.out.ok.2.1;generalize ha:crashS d fs k i=a at HS HA;have HAE:=hid ha;clear ha;refine AtS.head 19 21 3 (fun w'=>w'.cell? ⟨g,0,none⟩=some (.slice (some ⟨gs,0,none⟩) d.n d.n)∧w'.cell? ⟨g,1,none⟩=some (.map (some gm))∧w'.rangeAt gs (i * 64) (cel a)∧Mp w' gm d.n d.waits) (by kernel_rfl) (by kernel_rfl) (fun _ _ dd _ _ h=>by cases dd<;>exact h) HS.out (fun K hK=> ?_);have HK:=hid hK;clear hK;simp only[List.take_succ_cons,List.take_zero];refine heldL.step (.pointer (some ⟨g,0,none⟩)) rfl (fun w' hw'=> ?_) ?_
   ·skip
    exact rfl
   go_frame;refine heldL.step (.pointer (some ⟨g,0,none⟩)) rfl (fun w' hw'=> ?_) ?_
   ·skip
    obtain⟨h0,h1,h2,h3⟩:=hw';go_simp
   go_frame;refine heldL.step (.pointer (some ⟨g,0,none⟩)) rfl (fun w' hw'=> ?_) ?_
   ·skip
    obtain⟨h0,h1,h2,h3⟩:=hw';go_simp
   go_frame;refine heldL.step (.slice (some ⟨gs,0,none⟩) d.n d.n) rfl (fun w' hw'=> ?_) ?_
   ·skip
    obtain⟨h0,h1,h2,h3⟩:=hw';go_simp
   go_frame;refine heldL.step (.int .i64 i) rfl (fun w' hw'=> ?_) ?_
   ·skip
    exact rfl
   go_frame;refine heldL.step (.int .i64 0) rfl (fun w' hw'=> ?_) ?_
   ·skip
    exact rfl
   go_frame;refine heldL.step (.pointer (some ⟨g,0,none⟩)) rfl (fun w' hw'=> ?_) ?_
   ·skip
    exact rfl
   go_frame;refine heldL.step (.pointer (some ⟨g,0,none⟩)) rfl (fun w' hw'=> ?_) ?_
   ·skip
    obtain⟨h0,h1,h2,h3⟩:=hw';go_simp
   go_frame;refine heldL.step (.pointer (some ⟨g,0,none⟩)) rfl (fun w' hw'=> ?_) ?_
   ·skip
    obtain⟨h0,h1,h2,h3⟩:=hw';go_simp
   go_frame;refine heldL.step (.slice (some ⟨gs,0,none⟩) d.n d.n) rfl (fun w' hw'=> ?_) ?_
   ·skip
    obtain⟨h0,h1,h2,h3⟩:=hw';go_simp
   go_frame;refine heldL.step (.int .i64 i) rfl (fun w' hw'=> ?_) ?_
   ·skip
    exact rfl
   go_frame;refine heldL.step (.pointer (some ⟨gs,i * 64,none⟩)) rfl (fun w' hw'=> ?_) ?_
   ·skip
    obtain⟨h0,h1,h2,h3⟩:=hw';go_simp
   go_frame;refine heldL.step (.agg (cel a).toArray) rfl (fun w' hw'=> ?_) ?_
   ·skip
    obtain⟨h0,h1,h2,h3⟩:=hw';exact run_exec_load _ _ _ _ _ HA.out h2 rfl rfl
   go_frame;refine heldL.step (.pointer (some ⟨g,0,none⟩)) rfl (fun w' hw'=> ?_) ?_
   ·skip
    exact rfl
   go_frame;refine heldL.step (.pointer (some ⟨g,0,none⟩)) rfl (fun w' hw'=> ?_) ?_
   ·skip
    obtain⟨h0,h1,h2,h3⟩:=hw';go_simp
   go_frame;refine heldL.step (.pointer (some ⟨g,1,none⟩)) rfl (fun w' hw'=> ?_) ?_
   ·skip
    obtain⟨h0,h1,h2,h3⟩:=hw';go_simp
   go_frame;refine heldL.step (.map (some gm)) rfl (fun w' hw'=> ?_) ?_
   ·skip
    obtain⟨h0,h1,h2,h3⟩:=hw';go_simp
   go_frame;refine heldL.step (.int .i64 i) rfl (fun w' hw'=> ?_) ?_
   ·skip
    exact rfl
   go_frame;refine heldL.step (.agg (cel s).toArray) rfl (fun w' hw'=> ?_) ?_
   ·skip
    obtain⟨h0,h1,h2,h3⟩:=hw';exact run_exec_look _ _ _ _ (look_sec w' gm d.n d.waits i s HI.out H3.out HF.out h3) rfl rfl rfl
   go_frame;refine HK.out _ ?_;clear HK;have hrl:=surv_length 0 HA.out HSL.out;generalize hrr:surv 0 a s=r at hrl;have HRL:=hid hrl;have HRR:=hid hrr;clear hrl hrr;have HG:=hid (lt_of_heap HZ.out);have HMLT:=hid HMP.out.lt;have HCA:=hid (survivor_any wo.drew 0 a s HA.out HSL.out);rw[HRR.out] at HCA;refine AtS.call (i:=19) (f:=73) (args:= #[.int .i64 0,.agg (cel a).toArray,.agg (cel s).toArray]) rfl (by kernel_rfl) (by decide) rfl ?_ ?_
   ·go_simp
   refine HCA.out.mono ?_;rintro e w5 ⟨rfl,hb5⟩;have e0:w5.heap[g]? =wo.heap[g]? :=hb5.block g HG.out;have es:w5.heap[gs]? =wo.heap[gs]? :=hb5.block gs HSF.out.1;have em:w5.heap[gm]? =wo.heap[gm]? :=hb5.block gm HMLT.out;have HS5:Hid (w5.cell? ⟨g,0,none⟩=some (.slice (some ⟨gs,0,none⟩) d.n d.n)∧w5.cell? ⟨g,1,none⟩=some (.map (some gm))∧w5.rangeAt gs (i * 64) (cel a)∧Mp w5 gm d.n d.waits):=
    hid ⟨(World.cell?_of_block (w:=wo) e0).trans c0,(World.cell?_of_block (w:=wo) e0).trans c1',rangeAt_keep HS.out.2.2.1 es,HMP.out.keep em⟩
   have HSF5:=hid (HSF.out.keep es hb5.size);have HB5:=hid hb5;clear hb5 e0 es em;refine⟨_,rfl,HS5.out,?_⟩;go_frame;refine AtS.take (i:=20) (v:= .pointer (some ⟨gs,i * 64,none⟩)) rfl (by kernel_rfl) (by kernel_rfl) (by kernel_rfl) (by decide) (by decide) (fun _ _ _ h=>h) rfl (fun w' hw'=> ?_) HS5.out ?_
   ·obtain⟨h0,h1,h2,h3⟩:=hw';go_simp
   go_frame;refine AtS.last (i:=21) rfl (by kernel_rfl) (by kernel_rfl) (by decide) rfl (run_exec_store w5 gs (i * 64) r (HSF5.out.at_ HI.out) HRL.out rfl rfl rfl) ?_;go_frame;have HNX:Hid (Sf (w5.setCells gs (i * 64) (cel r)) gs d.n (crashS d fs (k+1))∧Turn [gs] w1 (w5.setCells gs (i * 64) (cel r))):=hid ⟨(HSF5.out.set (fun j hj=>crashS_length HD.out.ok fs k (by rw[←HMM.out];exact hk) j hj) HI.out HRL.out).same fun j _=>by
     rw[←crash_step HGI.out HF.out,HFT.out,HAE.out,HRR.out],((HTR.out.drew.below HB5.out).setCells (by simp) _ _)⟩
   have HK1:=hid hk;generalize w5.setCells gs (i * 64) (cel r)=w6 at HNX;go_wp2_with fail;go_roundw
   case rel=>exact⟨k+1,by have:=HKM.out;omega,by go_num,HNX.out⟩
   case measure=>simp[Go.RowKit.intOf];omega
  obtain rfl:k=m:=by omega
  have c1':=hz.c1;have HMP2:=HMP;clear hz hkm hk;go_wp2_with (first
   |((with_reducible refine wpList_clear wo gm d.n d.waits HMP.out ?_ ?_);exact⟨rfl,_,rfl,rfl⟩;intro w4 hm4 hg4;have HQ:=hid (And.intro hm4 hg4);have hz4:Six w4 g gs gm d.n d.off d.stops d.left z0:=(hg4.block g (lt_of_heap HZ.out) (by simp;exact HD.out.nem)).trans HZ.out;have HZ4:=hid hz4;have d2:=hz4.c2;have d3:=hz4.c3;have d4:=hz4.c4;have f2:=hz4.f 2;have f3:=hz4.f 3;have f4:=hz4.f 4;clear hm4 hg4 hz4)
   |go_in)
  go_end0;have hdk:=HD.out;obtain⟨hm4,hg4⟩:=HQ.out;have htw:Turn [g] w4 (((w4.setCell ⟨g,2,none⟩ (.bool false)).setCell ⟨g,3,none⟩ (.bool false)).setCell ⟨g,4,none⟩ (.int .i64 0)):=(((Turn.refl _ _).setCell (by simp) _).setCell (by simp) _).setCell (by simp) _;have hsix:Six (((w4.setCell ⟨g,2,none⟩ (.bool false)).setCell ⟨g,3,none⟩ (.bool false)).setCell ⟨g,4,none⟩ (.int .i64 0)) g gs gm d.n false false 0 z0:=((HZ4.out.set2 false).set3 false).set4 0;have hsf4:Sf w4 gs d.n (crashS d fs k):=HSF.out.keep (hg4.block gs HSF.out.1 (by simp;exact hdk.nes)) hg4.size;generalize ((w4.setCell ⟨g,2,none⟩ (.bool false)).setCell ⟨g,3,none⟩ (.bool false)).setCell ⟨g,4,none⟩ (.int .i64 0)=w5 at htw hsix;refine⟨rfl,⟨Dsk.crash_ok hdk.ok fs,hdk.ne,⟨z0,hsix⟩,?_,hm4.keep (htw.block gm hm4.lt (by simp;exact fun e=>hdk.nem e.symm))⟩,?_⟩
  ·have:=hsf4.keep (htw.block gs hsf4.1 (by simp;exact fun e=>hdk.ne e.symm)) htw.size;rw[HMM.out] at this;exact this
  have t1:Turn [g,gs,gm] w w4:=(((HT1.out.more (S':=[g,gs,gm]) (by simp)).then_ HTR.out (by simp)).grown hg4 (fun k hk=> .inl (by cases hk;simp)))
  exact t1.then_ htw (by simp)
end Go.Proofs.YtdjhlhellkajfaaGreat.Disk
