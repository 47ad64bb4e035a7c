/-
  Texts KPi, KLOp, KLPt, KLPu, KPm, KTw, KTo, in one file. What each proves, and its conditions, stand at its head below.
-/
import Derived.Test.YtdjhlhellkajfaaGreatY23
import Derived.Test.YtdjhlhellkajfaaGreatY24
import Derived.Test.YtdjhlhellkajfaaGreatY36
import Derived.Test.YtdjhlhellkajfaaGreatY37
import Derived.Test.YtdjhlhellkajfaaGreatY38
import Derived.Test.YtdjhlhellkajfaaGreatY44
import Derived.Test.YtdjhlhellkajfaaGreatY46
import Derived.Test.YtdjhlhellkajfaaGreatY47
import Derived.Test.YtdjhlhellkajfaaGreatY53
import Derived.Test.YtdjhlhellkajfaaGreatY49
import Derived.Test.YtdjhlhellkajfaaGreatY50
import Derived.Deep.DeepCutAuto
set_option maxRecDepth 100000
set_option maxHeartbeats 8000000
open Go.Lib (hid)
namespace Go.Proofs.YtdjhlhellkajfaaGreat.Cch
open Go.RowKit Codec Cod
open Disk (Dsk fresh)
open JourM (Jr appE appD appJ rstE rstD rstJ takes takes1 room extD extD_n go wr sy keepB keepD keepB_cons keepD_cons keepD_nil extB beginB beginD beginD_n)
structure PI (d:Dsk) (jr:Jr) (G:Nat):Prop where
 ok:d.ok
 n8:8≤d.n
 on:d.off=false→JourM.Rest d jr
 torn:∀fs,∃j',JourM.Rest (d.crash fs) j'∧(∀x∈j'.gs,unB x=true)∧j'.gen≤G
 un:∀x∈jr.gs,unB x=true
 gen:jr.gen≤G
theorem off_keep{d:Dsk}(h:d.off=true)(i:Nat)(l:List (List UInt8)):keepB d i l=false∧keepD d i l=d:=by
 have hg:go d=false:=by unfold go;rw[h];rfl
 cases l with
 |nil=>exact⟨by unfold keepB JourM.wrsB JourM.wrsD;rw[hg];rfl,by rw[keepD_nil];unfold sy;rw[h];rfl⟩
 |cons s l=>exact⟨by rw[keepB_cons,hg];rfl,by rw[keepD_cons,hg];unfold wr;rw[h];rfl⟩
theorem off_ext{d:Dsk}(h:d.off=true)(gen pos seq:Nat)(b:List UInt8):extB d gen pos seq b=false∧extD d gen pos seq b=d:=by
 obtain⟨h1,h2⟩:=off_keep h (JourM.secAt d.n gen (pos+1)) (JourM.extL d.n pos b);exact⟨by unfold extB;rw[h1];rfl,by unfold extD;rw[h1,h2];rfl⟩
theorem off_begin{d:Dsk}(h:d.off=true)(gen:Nat)(l:List (List UInt8)):beginB d gen l=false∧beginD d gen l=d:=by
 obtain⟨h1,h2⟩:=off_keep h (JourM.secAt d.n gen 0) (JourM.beginL d.n gen l);exact⟨by unfold beginB;rw[h1];rfl,by unfold beginD;rw[h1,h2];rfl⟩
theorem PI.mono{d:Dsk}{jr:Jr}{G G':Nat}(h:PI d jr G)(hG:G≤G'):PI d jr G':=
 ⟨h.ok,h.n8,h.on,fun fs=>by obtain⟨j',h1,h2,h3⟩:=h.torn fs;exact⟨j',h1,h2,by omega⟩,h.un,Nat.le_trans h.gen hG⟩
theorem PI.of_rest{d:Dsk}{jr:Jr}{G:Nat}(h:JourM.Rest d jr)(hu:∀x∈jr.gs,unB x=true)(hg:jr.gen≤G):PI d jr G:=
 ⟨h.ok,h.n8,fun _=>h,fun fs=>⟨jr,JourM.rest_crash h fs,hu,hg⟩,hu,hg⟩
theorem un_snoc{gs:List (List UInt8)}{b:List UInt8}(h:∀x∈gs,unB x=true)(hb:unB b=true):∀x∈gs++[b],unB x=true:=fun x hx=>by
 rcases List.mem_append.1 hx with e|e
 ·exact h x e
 rw[List.mem_singleton.1 e];exact hb
theorem PI.app{d:Dsk}{jr:Jr}{G:Nat}(h:PI d jr G){b:List UInt8}(hb:unB b=true):PI (appD d jr b) (appJ d jr b) G:=by
 rcases Jou.app_parts d jr b with⟨_,_,hD,hJ⟩|⟨_,_,_,hD,hJ⟩|⟨_,_,_,_,hD,hJ⟩|⟨_,hl,hf,hx,_,hD,hJ⟩|⟨_,hl,hf,hx,_,hD,hJ⟩
 ·rw[hD,hJ];exact h
 ·rw[hD,hJ];exact h
 ·rw[hD,hJ];exact h
 ·have ht:takes jr.gs+takes1 b≤room d.n:=by omega
  cases hoff:d.off with
  |true=>
   rw[hD,hJ,(off_ext hoff _ _ _ _).2];exact⟨h.ok,h.n8,fun hh=>(by rw[hoff] at hh;cases hh),h.torn,h.un,h.gen⟩
  |false=>
   have hr:=h.on hoff;have hok:=(JourM.ext_ok (gen:=jr.gen) (seq:=jr.gs.length) hr.ok hr.n8 ht).2;have hnn:=extD_n d jr.gen (takes jr.gs) jr.gs.length b;rw[hD,hJ];have h8:8≤(extD d jr.gen (takes jr.gs) jr.gs.length b).n:=by rw[hnn];exact hr.n8
   refine⟨hok,h8,fun hh=> ?_,fun fs=> ?_,h.un,h.gen⟩
   ·rw[(JourM.app_torn hr hl ht hx []).1] at hh;cases hh
   rcases(JourM.app_torn hr hl ht hx fs).2 with hg|hg
   ·rw[←hnn] at hg;exact⟨_,JourM.rest_of_good hok h8 hg,h.un,h.gen⟩
   rw[←hnn] at hg;exact⟨_,JourM.rest_of_good hok h8 hg,un_snoc h.un hb,h.gen⟩
 have ht:takes jr.gs+takes1 b≤room d.n:=by omega
 cases hoff:d.off with
 |true=>rw[(off_ext hoff _ _ _ _).1] at hx;cases hx
 |false=>
  rw[hD,hJ];exact PI.of_rest (JourM.app_done (h.on hoff) hl ht hx) (un_snoc h.un hb) h.gen
theorem PI.rst{d:Dsk}{jr:Jr}{G:Nat}(h:PI d jr G)(hG:G+1<9223372036854775807){l:List (List UInt8)}(hb:∀x∈l,unB x=true):PI (rstD d jr l) (rstJ d jr l) (G+1):=by
 have hm:=h.mono (Nat.le_succ G);have hgen:jr.gen+1<9223372036854775808:=by have:=h.gen;omega
 rcases Jou.rst_parts d jr l with⟨_,_,hD,hJ⟩|⟨_,_,_,hD,hJ⟩|⟨_,_,_,_,hD,hJ⟩|⟨_,hl,hf,hx,_,hD,hJ⟩|⟨_,hl,hf,hx,_,hD,hJ⟩
 ·rw[hD,hJ];exact hm
 ·rw[hD,hJ];exact hm
 ·rw[hD,hJ];exact hm
 ·cases hoff:d.off with
  |true=>
   rw[hD,hJ,(off_begin hoff _ _).2];exact⟨hm.ok,hm.n8,fun hh=>(by rw[hoff] at hh;cases hh),hm.torn,hm.un,hm.gen⟩
  |false=>
   have hr:=h.on hoff;have hok:=(JourM.begin_ok (gen:=jr.gen+1) hr.ok hr.n8 hf).2;have hnn:=beginD_n d (jr.gen+1) l;rw[hD,hJ];have h8:8≤(beginD d (jr.gen+1) l).n:=by rw[hnn];exact hr.n8
   refine⟨hok,h8,fun hh=> ?_,fun fs=> ?_,hm.un,hm.gen⟩
   ·rw[(JourM.rst_torn hr hgen (Jou.anyLong_all hl) hf hx []).1] at hh;cases hh
   rcases(JourM.rst_torn hr hgen (Jou.anyLong_all hl) hf hx fs).2 with hg|hg
   ·rw[←hnn] at hg;exact⟨_,JourM.rest_of_good hok h8 hg,h.un,by have:=h.gen;show jr.gen≤_;omega⟩
   rw[←hnn] at hg;exact⟨_,JourM.rest_of_good hok h8 hg,hb,by have:=h.gen;show jr.gen+1≤_;omega⟩
 cases hoff:d.off with
 |true=>rw[(off_begin hoff _ _).1] at hx;cases hx
 |false=>
  rw[hD,hJ];exact PI.of_rest (JourM.rst_done (h.on hoff) hgen (Jou.anyLong_all hl) hf hx) hb (by have:=h.gen;show jr.gen+1≤_;omega)
theorem stop_crashS(d:Dsk)(k:Int)(fs:List Int):∀m,Disk.crashS (d.stop k) fs m=Disk.crashS d fs m
 |0=>rfl
 |m+1=>by
  have ih:=stop_crashS d k fs m;unfold Disk.crashS;rw[ih];rfl
theorem stop_crash(d:Dsk)(k:Int)(fs:List Int):(d.stop k).crash fs=d.crash fs:=by
 have h:=stop_crashS d k fs (Disk.waitsOf d.n d.waits).length;show(⟨d.n,Disk.crashS (d.stop k) fs (Disk.waitsOf d.n d.waits).length,fun _=>none,false,false,0⟩:Dsk)=_;rw[h];rfl
theorem PI.stop{d:Dsk}{jr:Jr}{G:Nat}(h:PI d jr G){k:Int}(h1: -9223372036854775808≤k)(h2:k≤9223372036854775807):PI (d.stop k) jr G:=
 ⟨Disk.Dsk.stop_ok h.ok h1 h2,h.n8,fun ho=>by
  have hoff:d.off=false:=by
   rw[JourM.stop_off] at ho;cases hd:d.off with
   |true=>rw[hd] at ho;cases ho
   |false=>rfl
  exact((h.on hoff).still.stop h1 h2).rest ho,fun fs=>by rw[stop_crash];exact h.torn fs,h.un,h.gen⟩
end Go.Proofs.YtdjhlhellkajfaaGreat.Cch
namespace Go.Proofs.YtdjhlhellkajfaaGreat.Cch
open Go.RowKit Codec Cod
open Disk (Turn Dk Dsk ptr)
open JourM (Jr takes)
open Jou (Rk RJ RowsB yobj)
def NsX (w:World) (S:List Nat) (A:Option Addr) (n:Nat) (L:List Ent):Prop:=
 L.length=n∧(0<n→∃g off,A=some ⟨g,off,none⟩∧g<w.heap.size∧g∉S∧∀j (h:j<L.length),w.cell? ⟨g,off+j * 2,none⟩=some (.string L[j].k)∧w.cell? ⟨g,off+j * 2+1,none⟩=some (.string L[j].v))
theorem NsX.ns{w:World}{S:List Nat}{A:Option Addr}{n:Nat}{L:List Ent}(h:NsX w S A n L):Els.Ns w A n L:=
 ⟨h.1,fun hn=>by obtain⟨g,off,e,hl,_,hc⟩:=h.2 hn;exact⟨g,off,e,hl,hc⟩⟩
theorem NsX.turn{w w':World}{S S':List Nat}{A:Option Addr}{n:Nat}{L:List Ent}(h:NsX w S A n L)(ht:Turn S' w w')(hS:∀k∈S',k∈S∨w.heap.size≤k):NsX w' S A n L:=
 ⟨h.1,fun hn=>by
  obtain⟨g,off,e,hl,ho,hc⟩:=h.2 hn;have hb:=ht.block g hl (fun hm=>(hS g hm).elim ho (by omega));exact⟨g,off,e,Nat.lt_of_lt_of_le hl ht.size,ho,fun j hj=>⟨(World.cell?_of_block (w:=w) hb).trans (hc j hj).1,(World.cell?_of_block (w:=w) hb).trans (hc j hj).2⟩⟩⟩
theorem NsX.sub{w:World}{S S':List Nat}{A:Option Addr}{n:Nat}{L:List Ent}(h:NsX w S A n L)(hS:∀k∈S',k∈S∨w.heap.size≤k):NsX w S' A n L:=
 ⟨h.1,fun hn=>by
  obtain⟨g,off,e,hl,ho,hc⟩:=h.2 hn;exact⟨g,off,e,hl,fun hm=>(hS g hm).elim ho (by omega),hc⟩⟩
theorem NsX.of_own{w:World}{base n c:Nat}{A:Option Addr}{L:List Ent}{S:List Nat}(h:OwnR w base (.slice A n c) n L)(hS:∀k∈S,k<base):NsX w S A n L:=by
 obtain⟨A',c',e,_,hn⟩:=h.form;injection e with e1 _ _;subst e1;refine⟨hn.1,fun h0=> ?_⟩;obtain⟨g,off,e,hl,hc⟩:=hn.2 h0;refine⟨g,off,e,hl,fun hm=> ?_,hc⟩;have h1:=hS g hm;have h2:=(World.ownsRow.lt h.2 g (by rw[e];rfl)).1;omega
structure RC (w:World) (S:List Nat) (cr y r bs bw:Nat) (d:Dsk) (jr:Jr) (L:List Ent) (ev:Int):Prop where
 rj:RJ w (cr::S) y r bs bw d jr
 hd:∃A c,w.heap[cr]? =some (r7obj y L.length c A ev)∧NsX w ([cr,y,r,bs,bw]++S) A L.length L∧L.length≤c
 out:cr∉[y,r,bs,bw]++S
theorem RC.crlt{w:World}{S:List Nat}{cr y r bs bw:Nat}{d:Dsk}{jr:Jr}{L:List Ent}{ev:Int}(h:RC w S cr y r bs bw d jr L ev):cr<w.heap.size:=by
 obtain⟨A,c,h1,_⟩:=h.hd;exact lt_of_heap h1
theorem RC.turn{w w':World}{S S':List Nat}{cr y r bs bw:Nat}{d:Dsk}{jr:Jr}{L:List Ent}{ev:Int}(h:RC w S cr y r bs bw d jr L ev)(ht:Turn S' w w')(hS:∀k∈S',k∈S∨w.heap.size≤k):RC w' S cr y r bs bw d jr L ev:=by
 have hlt:=h.crlt;obtain⟨A,c,h1,h2,h3⟩:=h.hd;refine⟨h.rj.turn ht (fun k hk=>(hS k hk).imp (fun e=>List.mem_cons_of_mem _ e) id),⟨A,c,(ht.block cr hlt fun hm=> ?_).trans h1,h2.turn ht (fun k hk=>(hS k hk).imp (fun e=>List.mem_append_right _ e) id),h3⟩,h.out⟩;rcases hS cr hm with e|e
 ·exact h.out (List.mem_append_right _ e)
 omega
theorem RC.below{w w':World}{S:List Nat}{cr y r bs bw:Nat}{d:Dsk}{jr:Jr}{L:List Ent}{ev:Int}(h:RC w S cr y r bs bw d jr L ev)(hb:Below w.heap.size w w'):RC w' S cr y r bs bw d jr L ev:=h.turn (Turn.ofBelow (S:=[]) hb) (by simp)
theorem RC.others{w:World}{S S':List Nat}{cr y r bs bw:Nat}{d:Dsk}{jr:Jr}{L:List Ent}{ev:Int}(h:RC w S cr y r bs bw d jr L ev)(hS:∀k∈S',k∈S∨w.heap.size≤k):RC w S' cr y r bs bw d jr L ev:=by
 have hlt:=h.crlt;obtain⟨A,c,h1,h2,h3⟩:=h.hd;refine⟨h.rj.others (fun k hk=>by rcases List.mem_cons.1 hk with e|e;exact .inl (by rw[e];exact List.mem_cons_self);exact(hS k e).imp (fun e=>List.mem_cons_of_mem _ e) id),⟨A,c,h1,h2.sub (fun k hk=>by rcases List.mem_append.1 hk with e|e;exact .inl (List.mem_append_left _ e);exact(hS k e).imp (fun e=>List.mem_append_right _ e) id),h3⟩,fun hm=> ?_⟩;rcases List.mem_append.1 hm with e|e
 ·exact h.out (List.mem_append_left _ e)
 rcases hS cr e with e2|e2
 ·exact h.out (List.mem_append_right _ e2)
 omega
theorem foldE_take{gs:List (List UInt8)}{k:Nat}(hk:k<gs.length):foldE (gs.take (k+1))=withE (foldE (gs.take k)) (unE (gs.getD k [])):=by
 rw[List.take_succ_eq_append_getElem hk,foldE_snoc,List.getD_eq_getElem?_getD,List.getElem?_eq_getElem hk];rfl
theorem foldE_len(gs:List (List UInt8)):(foldE gs).length≤gs.length:=by
 have h3:∀(es L0:List Ent),(es.foldl withE L0).length≤L0.length+es.length:=fun es=>by
  induction es with
  |nil=>intro L0;simp
  |cons e es ih=>
   intro L0;have:=ih (withE L0 e);have:=with_le L0 e;simp only[List.foldl_cons,List.length_cons];omega
 have:=h3 (gs.map unE) [];rw[List.length_map] at this;simp only[List.length_nil,Nat.zero_add] at this;exact this
def ROpened7 (w:World) (S:List Nat) (r bs bw:Nat) (d:Dsk) (jr:Jr) (e:Ending) (w':World):Prop:=
 ∃cr y,e= .returned (.tuple #[ptr cr,.int .i64 0])∧RC w' S cr y r bs bw d jr (foldE jr.gs) 0∧Turn [r,bs,bw] w w'∧w.heap.size≤cr∧w.heap.size≤y
theorem ropen7_off(w:World)(S:List Nat)(r bs bw:Nat)(d:Dsk)(h:Rk w S r bs bw d)(h8:8≤d.n)(ho:d.off=true):Calls Tryz.prog 39 #[ptr r] w (Disk.Ends (.tuple #[.pointer none,.int .i64 3]) w):=by
 have HJ:=hid (Jou.ropen_off w S r bs bw d h h8 ho);clear h h8 ho;unfold ptr at *;go_enter Tryz.func39,Tryz.ntmps39;go_wp2_with fail;refine HJ.out.mono ?_;rintro e u ⟨rfl,rfl⟩;go_wp2_with fail;go_ret2;exact⟨rfl,rfl⟩
theorem ropen7_gen(w:World)(S:List Nat)(r bs bw:Nat)(d0 d:Dsk)(jr:Jr)(h:Rk w S r bs bw d0)(hS:∀k∈S,k<w.heap.size)(h8:8≤d0.n)(hof:d0.off=false)(hnw:JourM.newest (JourM.rd d0)<9223372036854775807)(o1:JourM.openB d0=true)(o2:JourM.openD d0=d)(o3:JourM.openJ d0=jr)(hu:∀x∈jr.gs,unB x=true):Calls Tryz.prog 39 #[ptr r] w (ROpened7 w S r bs bw d jr):=by
 have HU:=hid hu;have HSL:=hid hS;have HRL:Hid (∀k∈[r,bs,bw],k<w.heap.size):=hid h.lows;have HOB:=hid o1;have HO:=hid (Jou.ropen_any w S r bs bw d0 h hS h8 hof hnw);unfold Jou.ROpened at HO;rw[o2,o3] at HO;clear h hS h8 hof hnw hu o1 o2 o3;unfold ptr at *;go_enter Tryz.func39,Tryz.ntmps39;go_wp2_with fail;refine HO.out.mono fun e w1 hx=> ?_;clear HO;replace hx:=hx.resolve_right fun hh=>by have:=HOB.out;rw[hh.1] at this;cases this
 obtain⟨_,y,rfl,hj1,ht1,hy1⟩:=hx;have HJ1:=hid hj1;have HT1:=hid ht1;have HY1:=hid hy1;clear hj1 ht1 hy1 HOB;go_upto_region 5 with fail;obtain⟨cr,hcr⟩:∃cr,w1.heap.size=cr:=⟨_,rfl⟩
 have HCE:=hid hcr;have hab:=Frm.alloc_below w1 (r7obj y 0 0 none 0);have HC2:Hid ((w1.alloc (r7obj y 0 0 none 0)).heap[cr]? =some (r7obj y 0 0 none 0)):=hid (by rw[←hcr];exact heap_alloc_new w1 _);have HJ2:Hid (RJ (w1.alloc (r7obj y 0 0 none 0)) (cr::S) y r bs bw d jr):=hid ((HJ1.out.others (fun k hk=>by
  rcases List.mem_cons.1 hk with e|e
  ·exact .inr (by omega)
  ·exact .inl e)).below hab)
 have HT2:=hid (HT1.out.below hab);have HCR:Hid (cr<(w1.alloc (r7obj y 0 0 none 0)).heap.size):=hid (lt_of_heap HC2.out);have HCX:Hid (cr∉[y,r,bs,bw]++S):=hid (fun hm=>by
  have h1:=HT1.out.size;have h2:=HCE.out;rcases List.mem_append.1 hm with e|e
  ·rcases List.mem_cons.1 e with e|e
   ·have:=HJ1.out.ylt;omega
   have:=HRL.out cr e;omega
  ·have:=HSL.out cr e;omega)
 have HCW:Hid (w.heap.size≤cr):=hid (by have:=HT1.out.size;omega);unfold r7obj at HC2 HJ2 HT2 HCR hab;have HSW:Hid (∀q∈S,q<(w1.alloc (.cells #[.pointer (some ⟨y,0,none⟩),.slice none 0 0,.int .i64 0] 88)).heap.size):=hid (fun q hq=>by have h1:=HSL.out q hq;have h2:=HT2.out.size;omega);clear hab HJ1 HT1 HSL HRL;generalize w1.alloc (.cells #[.pointer (some ⟨y,0,none⟩),.slice none 0 0,.int .i64 0] 88)=w2 at *;rw[HCE.out];clear hcr;have HC2':Hid (w2.heap[cr]? =some (r7obj y 0 0 none 0)):=hid HC2.out;clear HC2;have HNN:Hid (jr.gs.length≤65536):=hid (by have h1:=JourM.takes_length jr.gs;have h2:=HJ2.out.fit;have h3:=HJ2.out.disk.ok.2.1;unfold JourM.room at h2;omega);have HXL:Hid (∀x∈jr.gs,x.length≤5000000):=hid (fun x hx=>by have h1:=takes_mem hx;have h2:=HJ2.out.fit;have h3:=HJ2.out.disk.ok.2.1;unfold JourM.room at h2;unfold JourM.takes1 FrameM.need at h1;omega);obtain⟨n,hn⟩:∃n,jr.gs.length=n:=⟨_,rfl⟩
 have HNE:=hid hn;have hn1:(n:Int)≤65536:=by have:=HNN.out;omega
 clear hn;go_wp2_with fail;go_loopw [7] (fun i wr=>∃(k m c5:Nat) (A5:Option Addr),k≤n∧i= .int .i64 k∧m=(foldE (jr.gs.take k)).length∧wr.heap[cr]? =some (r7obj y m c5 A5 0)∧OwnR wr w2.heap.size (.slice A5 m c5) m (foldE (jr.gs.take k))∧Turn [cr] w2 wr) (fun i _=>n-(Go.RowKit.intOf i).toNat)
 case atStart=>exact⟨0,0,0,none,Nat.zero_le _,rfl,by simp[foldE],HC2'.out,by simpa [foldE] using OwnR.nil w2 w2.heap.size,Turn.refl _ _⟩
 case round=>
  obtain⟨k,m,c5,A5,hk,rfl,hm,hc,ho,ht⟩:=hrel;have HC:=hid hc;have HO5:=hid ho;have HT5:=hid ht;have HM:=hid hm;have HJ5:=hid (HJ2.out.turn ht (fun q hq=> .inl (by simp at hq;rw[hq];exact List.mem_cons_self)));clear hc ho ht hm HC2';obtain⟨Aj,cj,hyo,hrows⟩:=HJ5.out.hd;have y2:=Jou.yc2 hyo;rw[HNE.out] at y2 hrows;by_cases hlt:k<n
  ·have hkl:k<jr.gs.length:=by rw[HNE.out];exact hlt
   obtain⟨rb,ro,Ak,ck,hat⟩:=hrows.at hlt;have hidx:=hat.index cj;obtain⟨_,hrc,hbk,hc1,hc2,_,_⟩:=hat;have hmem:jr.gs.getD k []∈jr.gs:=by rw[List.getD_eq_getElem?_getD,List.getElem?_eq_getElem hkl];exact List.getElem_mem _
   have HXX:=hid (HXL.out _ hmem);have HUB:=hid (HU.out _ hmem);have HUP:=hid (runpack_any wr wr.heap.size (jr.gs.getD k []).length ck Ak (jr.gs.getD k []) hbk.byts (Nat.le_refl _) hc1 (by have:=HXX.out;omega) hc2);rw[HUB.out] at HUP;have HFT:=hid (foldE_take hkl);have HLM:Hid (m≤100000):=hid (by have h1:=foldE_len (jr.gs.take k);have h2:=HM.out;have h3:=List.length_take_le k jr.gs;omega);clear hbk hc1 hc2 hkl hmem HUB hyo hrows;generalize unE (jr.gs.getD k [])=en at *;obtain⟨ek,ev⟩:=en;unfold entV at HUP;dsimp only at *;generalize (jr.gs.getD k []).length=lx at *;generalize foldE (jr.gs.take k)=Lk at *;go_wp2_with fail;refine HUP.out.mono ?_;rintro e w5 ⟨rfl,hb5⟩;have HC5:=hid ((hb5.block _ (lt_of_heap HC.out)).trans HC.out);have HO55:=hid (HO5.out.below hb5);have HT55:=hid (HT5.out.below hb5);clear hb5 HC HO5 HT5 HUP hrc hidx y2 HJ5;go_upto_region 11 with fail;have hba:=Frm.alloc_below w5 (.cells #[.string ek,.string ev] 61);have HX6:=hid (heap_alloc_new w5 (.cells #[.string ek,.string ev] 61));have HC6:=hid ((hba.block _ (lt_of_heap HC5.out)).trans HC5.out);have HO6:=hid (HO55.out.below hba);have HT6:=hid (HT55.out.below hba);have HBC:Hid (w5.heap.size≠cr):=hid (by have:=lt_of_heap HC5.out;omega);clear hba HC5 HO55 HT55;generalize w5.alloc (.cells #[.string ek,.string ev] 61)=w6 at *;generalize w5.heap.size=bx at *;have HS:Hid (w6.drew.heap[cr]? =some (r7obj y m c5 A5 0)∧w6.drew.heap[bx]? =some (.cells #[.string ek,.string ev] 61 (0,0))):=hid ⟨HC6.out,HX6.out⟩;have HO0:=hid (HO6.out.below (Below.refl w6.heap.size w6).drew);have HT0:Hid (Turn [cr] w2 w6.drew):=hid HT6.out.drew;have HL0:Hid (w2.heap.size≤w6.drew.heap.size):=hid HT6.out.size;clear HC6 HX6 HO6 HT6;refine Disk.AtS.start (by kernel_rfl) 9 (fun u=>u.heap[cr]? =some (r7obj y m c5 A5 0)∧u.heap[bx]? =some (.cells #[.string ek,.string ev] 61 (0,0))) (by kernel_rfl) (by kernel_rfl) ?_;generalize w6.drew=u0 at *;obtain⟨A5',c5',hv5,_,hns5⟩:=HO0.out.form;injection hv5 with e1 e2 e3;subst e1;clear e2 e3;have HW:=hid (with_any u0 m c5 A5 Lk ⟨ek,ev⟩ hns5 HLM.out);unfold entV at HW;clear hns5;refine Jou.as_take 0 43 (.pointer (some ⟨cr,0,none⟩)) rfl rfl (by kernel_rfl) (fun _ _ _ h=>h) rfl (HS.out) (fun w' hw'=> ?_) ?_
   ·exact rfl
   go_frame;refine Jou.as_take 1 44 (.pointer (some ⟨cr,0,none⟩)) rfl rfl (by kernel_rfl) (fun _ _ _ h=>h) rfl (HS.out) (fun w' hw'=> ?_) ?_
   ·exact rfl
   go_frame;refine Jou.as_take 2 45 (.pointer (some ⟨cr,0,none⟩)) rfl rfl (by kernel_rfl) (fun _ _ _ h=>h) rfl (HS.out) (fun w' hw'=> ?_) ?_
   ·go_simp
   go_frame;refine Jou.as_take 3 46 (.pointer (some ⟨cr,1,none⟩)) rfl rfl (by kernel_rfl) (fun _ _ _ h=>h) rfl (HS.out) (fun w' hw'=> ?_) ?_
   ·go_simp
   go_frame;refine Jou.as_take 4 47 (.slice A5 m c5) rfl rfl (by kernel_rfl) (fun _ _ _ h=>h) rfl (HS.out) (fun w' hw'=> ?_) ?_
   ·have h1:=cell_at hw'.1 1;go_simp
   go_frame;refine Jou.as_take 5 48 (.agg #[.string ek,.string ev]) rfl rfl (by kernel_rfl) (fun _ _ _ h=>h) rfl (HS.out) (fun w' hw'=> ?_) ?_
   ·have h1:=cell_at hw'.2 0;have h2:=cell_at hw'.2 1;go_simp
   go_frame;refine Jou.as_call 6 49 86 #[.slice A5 m c5,.agg #[.string ek,.string ev]] rfl rfl ⟨by kernel_rfl,by decide⟩ rfl ?_ ?_
   ·go_simp
   refine HW.out.mono ?_;rintro e w7 ⟨A7,c7,rfl,ho7,hb7⟩;have HO7:=hid (ho7.lower HL0.out);have HT7:=hid (HT0.out.below hb7);have HSN:=hid (And.intro ((hb7.block _ (lt_of_heap HS.out.1)).trans HS.out.1) ((hb7.block _ (lt_of_heap HS.out.2)).trans HS.out.2));clear HS ho7 hb7 HW HO0 HT0 HL0;have HS:=HSN;clear HSN;obtain⟨m7,hm7⟩:∃m7,(withE Lk ⟨ek,ev⟩).length=m7:=⟨_,rfl⟩
   rw[hm7] at HO7 ⊢;have HM7:=hid hm7;clear hm7;refine⟨_,rfl,HS.out,?_⟩;go_frame;refine Jou.as_take 7 50 (.pointer (some ⟨cr,0,none⟩)) rfl rfl (by kernel_rfl) (fun _ _ _ h=>h) rfl (HS.out) (fun w' hw'=> ?_) ?_
   ·go_simp
   go_frame;refine Jou.as_take 8 51 (.pointer (some ⟨cr,1,none⟩)) rfl rfl (by kernel_rfl) (fun _ _ _ h=>h) rfl (HS.out) (fun w' hw'=> ?_) ?_
   ·go_simp
   go_frame;have hc1:=cell_at HS.out.1 1;have f1:=free_at HS.out.1 1;have HC8:Hid ((w7.setCell ⟨cr,1,none⟩ (.slice A7 m7 c7)).heap[cr]? =some (r7obj y m7 c7 A7 0)):=hid (set_at HS.out.1 1 _);have HT8:Hid (Turn [cr] w2 (w7.setCell ⟨cr,1,none⟩ (.slice A7 m7 c7))):=hid (HT7.out.setCell (.inl (by simp)) _);have HO8:Hid (OwnR (w7.setCell ⟨cr,1,none⟩ (.slice A7 m7 c7)) w2.heap.size (.slice A7 m7 c7) m7 (withE Lk ⟨ek,ev⟩)):=hid ⟨HO7.out.1,HO7.out.2.kept (grown_set w7 cr 1 _) (.inr fun e=>by have:=(World.ownsRow.lt HO7.out.2 cr e).1;have:=HCR.out;omega)⟩;refine Disk.AtS.last (i:=9) (w':=w7.setCell ⟨cr,1,none⟩ (.slice A7 m7 c7)) rfl (by kernel_rfl) (by kernel_rfl) (by decide) rfl ?_ ?_
   ·go_simp
   go_frame;clear hc1 f1 HS HO7 HT7;generalize w7.setCell ⟨cr,1,none⟩ (.slice A7 m7 c7)=w8 at *;go_wp2_with fail;go_roundw
   case rel=>exact⟨k+1,m7,c7,A7,by omega,by go_num,by rw[HFT.out];exact HM7.out.symm,HC8.out,by rw[HFT.out];exact HO8.out,HT8.out⟩
   case measure=>simp[Go.RowKit.intOf];omega
  obtain rfl:k=n:=by omega
  have htk:jr.gs.take k=jr.gs:=by rw[←HNE.out,List.take_length]
  have HRC:Hid (RC wr S cr y r bs bw d jr (foldE jr.gs) 0):=hid (by
   have h1:=HC.out;have h2:=HO5.out;have h3:=HM.out;rw[htk] at h2 h3;subst h3;obtain⟨_,_,e,hle,_⟩:=h2.form;injection e with _ _ e3;refine⟨HJ5.out,⟨A5,c5,h1,NsX.of_own h2 (fun q hq=> ?_),by omega⟩,HCX.out⟩;rcases List.mem_append.1 hq with e|e
   ·rcases List.mem_cons.1 e with e|e
    ·have:=HCR.out;omega
    exact HJ2.out.lows q (by simpa using e)
   ·exact HSW.out q e)
  have HTE:Hid (Turn [r,bs,bw] w wr):=hid (HT2.out.then_ HT5.out (fun q hq=> .inr (by have:=HCW.out;simp at hq;omega)));clear hyo hrows;go_wp2_with fail;go_ret2;exact⟨cr,y,rfl,HRC.out,HTE.out,HCW.out,HY1.out⟩
theorem ropen7_any(w:World)(S:List Nat)(r bs bw:Nat)(d:Dsk)(jr:Jr)(h:Rk w S r bs bw d)(hS:∀k∈S,k<w.heap.size)(hr:JourM.Rest d jr)(hg:jr.gen<9223372036854775807)(hu:∀x∈jr.gs,unB x=true):Calls Tryz.prog 39 #[ptr r] w (ROpened7 w S r bs bw d jr):=by
 obtain⟨o1,o2,o3⟩:=hr.opened;exact ropen7_gen w S r bs bw d d jr h hS hr.n8 hr.off (by rw[hr.good.newest];omega) o1 o2 o3 hu
end Go.Proofs.YtdjhlhellkajfaaGreat.Cch
namespace Go.Proofs.YtdjhlhellkajfaaGreat.Cch
open Go.RowKit Codec Cod
open Disk (Turn Dk Dsk ptr)
open JourM (Jr takes takes1 appE appD appJ rstE rstD rstJ)
open Jou (Rk RJ RowsB yobj)
section
variable {w w':World} {S:List Nat} {cr y r bs bw:Nat} {d d':Dsk} {jr jr':Jr} {L:List Ent} {ev0:Int}
theorem RC.lows(h:RC w S cr y r bs bw d jr L ev0)(hS:∀q∈S,q<w.heap.size):∀q∈[cr,y,r,bs,bw]++S,q<w.heap.size:=fun q hq=>by
 rcases List.mem_append.1 hq with e|e
 ·rcases List.mem_cons.1 e with e|e
  ·rw[e];exact h.crlt
  exact h.rj.lows q e
 exact hS q e
theorem RC.jour(h:RC w S cr y r bs bw d jr L ev0)(hj:RJ w' (cr::S) y r bs bw d' jr')(ht:Turn [y,r,bs,bw] w w'):RC w' S cr y r bs bw d' jr' L ev0:=by
 have hlt:=h.crlt;obtain⟨A,c,h1,h2,h3⟩:=h.hd;exact⟨hj,⟨A,c,(ht.block cr hlt fun hm=>h.out (List.mem_append_left _ hm)).trans h1,h2.turn ht (fun k hk=> .inl (List.mem_append_left _ (List.mem_cons_of_mem _ hk))),h3⟩,h.out⟩
theorem RC.store{L':List Ent}{A':Option Addr}{c' base:Nat}(h:RC w S cr y r bs bw d jr L ev0)(ho:OwnR w base (.slice A' L'.length c') L'.length L')(hb:∀q∈[cr,y,r,bs,bw]++S,q<base):
  RC (w.setCell ⟨cr,1,none⟩ (.slice A' L'.length c')) S cr y r bs bw d jr L' ev0:=by
 obtain⟨A,c,h1,_,_⟩:=h.hd;have ht:Turn [cr] w (w.setCell ⟨cr,1,none⟩ (.slice A' L'.length c')):=(Turn.refl [cr] w).setCell (.inl (by simp)) _;have ho':OwnR (w.setCell ⟨cr,1,none⟩ (.slice A' L'.length c')) base (.slice A' L'.length c') L'.length L':=⟨ho.1,ho.2.kept (grown_set w cr 1 _) (.inr fun e=>by have:=(World.ownsRow.lt ho.2 cr e).1;have:=hb cr (by simp);omega)⟩
 obtain⟨A2,c2,e,hle,_⟩:=ho.form;injection e with _ _ e3;exact⟨h.rj.turn ht (fun k hk=> .inl (by simp at hk;rw[hk];exact List.mem_cons_self)),⟨A',c',set_at h1 1 _,NsX.of_own ho' hb,by omega⟩,h.out⟩
def RPut (z:Int) (w:World) (S:List Nat) (cr y r bs bw:Nat) (d:Dsk) (jr:Jr) (L:List Ent) (ev:Int) (e:Ending) (w':World):Prop:=e= .returned (.int .i64 z)∧RC w' S cr y r bs bw d jr L ev∧Turn [cr,y,r,bs,bw] w w'
def appL (z:Int) (L:List Ent) (e:Ent):List Ent:=if z=0 then withE L e else L
theorem rput_down(h:RC w S cr y r bs bw d jr L ev0)(e:Ent)(hdn:jr.down=true):Calls Tryz.prog 42 #[ptr cr,.string e.k,.string e.v] w (EndsBelow (.int .i64 3) w):=by
 obtain⟨ek,evl⟩:=e;dsimp only;obtain⟨A,c,hcr,_,_⟩:=h.hd;obtain⟨Aj,cj,hyo,_⟩:=h.rj.hd;rw[hdn] at hyo;have HAB:=hid (Frm.alloc_below w (.cells #[.string ek,.string evl] 61));have hcr1:=(HAB.out.block _ h.crlt).trans hcr;have hyo1:=(HAB.out.block _ h.rj.ylt).trans hyo;have c0:=cell_at hcr1 0;have y3:=Jou.yc3 hyo1;clear h hcr hyo hcr1 hyo1;unfold ptr;go_enter Tryz.func42,Tryz.ntmps42;go_upto_region 2 with fail;generalize w.alloc (.cells #[.string ek,.string evl] 61)=w1 at *;go_wp2_with fail;go_ret;exact⟨rfl,HAB.out⟩
theorem rput_same(h:RC w S cr y r bs bw d jr L ev0)(hS:∀q∈S,q<w.heap.size)(hLn:L.length≤100000)(e:Ent)(hk:e.k.size≤65536)(hs:sizeE e≤1048576)(hdn:jr.down=false)(x:Ent)(hf:fnd L e.k=some x)(hx:x.v=e.v):
  Calls Tryz.prog 42 #[ptr cr,.string e.k,.string e.v] w (RPut 0 w S cr y r bs bw d jr L ev0):=by
 obtain⟨ek,evl⟩:=e;dsimp only at *;obtain⟨A,c,hcr,hns,hlc⟩:=h.hd;obtain⟨Aj,cj,hyo,_⟩:=h.rj.hd;rw[hdn] at hyo;have HAB:=hid (Frm.alloc_below w (.cells #[.string ek,.string evl] 61));have HX1:=hid (heap_alloc_new w (.cells #[.string ek,.string evl] 61));have HC1:=hid (h.below HAB.out);have hcr1:=(HAB.out.block _ h.crlt).trans hcr;have hyo1:=(HAB.out.block _ h.rj.ylt).trans hyo;have HNS:=hid (hns.turn (Turn.ofBelow (S:=[]) HAB.out) (by simp));have HT1:Hid (Turn [cr,y,r,bs,bw] w (w.alloc (.cells #[.string ek,.string evl] 61))):=hid (Turn.ofBelow HAB.out);have HL1:Hid (∀q∈[cr,y,r,bs,bw]++S,q<(w.alloc (.cells #[.string ek,.string evl] 61)).heap.size∧q≠w.heap.size):=hid (fun q hq=>by
  have h1:=h.lows hS q hq;have h2:=HAB.out.size;exact⟨by omega,by omega⟩)
 have HLN:Hid (L.length≤100000):=hid hLn;have HPK:=hid (fun u=>rpack_any u ⟨ek,evl⟩ (by unfold sizeE at hs;dsimp only at hs ⊢;omega));have HSZ:Hid ((ek.size:Int)≤65536∧(sizeE ⟨ek,evl⟩:Int)≤1048576):=hid (by omega);have HG:=hid (fun u (h1:u.heap[cr]? =some (r7obj y L.length c A ev0)) (h2:Els.Ns u A L.length L)=>rcget_any u cr y L.length c A ev0 L ek h1 h2 hLn);unfold entV at HPK;dsimp only at HPK;unfold ptr at *;clear h hdn hk hs hLn hcr hyo hns hlc hS;go_enter Tryz.func42,Tryz.ntmps42;go_upto_region 2 with fail;generalize w.alloc (.cells #[.string ek,.string evl] 61)=w1 at *;generalize w.heap.size=bx at *;clear HAB;have c0:=cell_at hcr1 0;have y3:=Jou.yc3 hyo1;have e0:=cell_at HX1.out 0;have e1:=cell_at HX1.out 1;obtain⟨hki,hsi⟩:=HSZ.out;generalize hsz:sizeE ⟨ek,evl⟩=sz at *;clear HSZ hsz;have HP1:=hid (HPK.out w1);go_wp2_with fail;refine HP1.out.mono ?_;rintro e w2 ⟨A2,c2,rfl,ho2,hb2⟩;have hcr2:=(hb2.block _ (lt_of_heap hcr1)).trans hcr1;have HG2:=hid (HG.out w2 hcr2 (HNS.out.turn (Turn.ofBelow (S:=[]) hb2) (by simp)).ns);have HC2:=hid (HC1.out.below hb2);have HT2:=hid (HT1.out.below hb2);have HX2:=hid ((hb2.block _ (lt_of_heap HX1.out)).trans HX1.out);have HL2:Hid (∀q∈[cr,y,r,bs,bw]++S,q<w2.heap.size∧q≠bx):=hid (fun q hq=>⟨Nat.lt_of_lt_of_le (HL1.out q hq).1 hb2.size,(HL1.out q hq).2⟩);clear ho2 hb2 HG HNS HC1 HT1 HX1 HL1 c0 y3 e0 e1 hcr1 hyo1 HP1;rw[hf] at HG2;rw[show fndV L ek=evl from by unfold fndV;rw[hf];exact hx] at HG2;clear hf hx;go_wp2_with fail;refine HG2.out.mono ?_;rintro e u ⟨rfl,rfl⟩;go_wp2_with fail;go_ret;exact⟨rfl,HC2.out,HT2.out⟩
theorem rput_app(h:RC w S cr y r bs bw d jr L ev0)(hS:∀q∈S,q<w.heap.size)(hLn:L.length≤100000)(e:Ent)(hk:e.k.size≤65536)(hs:sizeE e≤1048576)(hdn:jr.down=false)(hf:∀x,fnd L e.k=some x→x.v≠e.v)(z:Int)(hz:appE d jr (packE e)=z)(hz2:z≠2):
  Calls Tryz.prog 42 #[ptr cr,.string e.k,.string e.v] w (RPut z w S cr y r bs bw (appD d jr (packE e)) (appJ d jr (packE e)) (appL z L e) ev0):=by
 have HZ:=hid hz;have HZ4:Hid (z=0∨z=1∨z=3):=hid (by
  rcases Jou.app_parts d jr (packE e) with⟨_,q,_⟩|⟨_,_,q,_⟩|⟨_,_,_,q,_,_⟩|⟨_,_,_,_,q,_⟩|⟨_,_,_,_,q,_⟩<;>rw[hz] at q<;>omega)
 have HF:=hid hf;clear hz hz2 hf;obtain⟨ek,evl⟩:=e;dsimp only at *;obtain⟨A,c,hcr,hns,hlc⟩:=h.hd;obtain⟨Aj,cj,hyo,_⟩:=h.rj.hd;rw[hdn] at hyo;have HAB:=hid (Frm.alloc_below w (.cells #[.string ek,.string evl] 61));have HX1:=hid (heap_alloc_new w (.cells #[.string ek,.string evl] 61));have HC1:=hid (h.below HAB.out);have hcr1:=(HAB.out.block _ h.crlt).trans hcr;have hyo1:=(HAB.out.block _ h.rj.ylt).trans hyo;have HNS:=hid (hns.turn (Turn.ofBelow (S:=[]) HAB.out) (by simp));have HT1:Hid (Turn [cr,y,r,bs,bw] w (w.alloc (.cells #[.string ek,.string evl] 61))):=hid (Turn.ofBelow HAB.out);have HL1:Hid (∀q∈[cr,y,r,bs,bw]++S,q<(w.alloc (.cells #[.string ek,.string evl] 61)).heap.size∧q≠w.heap.size):=hid (fun q hq=>by
  have h1:=h.lows hS q hq;have h2:=HAB.out.size;exact⟨by omega,by omega⟩)
 have HLN:Hid (L.length≤100000):=hid hLn;have HPK:=hid (fun u=>rpack_any u ⟨ek,evl⟩ (by unfold sizeE at hs;dsimp only at hs ⊢;omega));have HSZ:Hid ((ek.size:Int)≤65536∧(sizeE ⟨ek,evl⟩:Int)≤1048576):=hid (by omega);have HG:=hid (fun u (h1:u.heap[cr]? =some (r7obj y L.length c A ev0)) (h2:Els.Ns u A L.length L)=>rcget_any u cr y L.length c A ev0 L ek h1 h2 hLn);unfold entV at HPK;dsimp only at HPK;unfold ptr at *;clear h hdn hk hs hLn hcr hyo hns hlc hS;go_enter Tryz.func42,Tryz.ntmps42;go_upto_region 2 with fail;generalize w.alloc (.cells #[.string ek,.string evl] 61)=w1 at *;generalize w.heap.size=bx at *;clear HAB;have c0:=cell_at hcr1 0;have y3:=Jou.yc3 hyo1;have e0:=cell_at HX1.out 0;have e1:=cell_at HX1.out 1;obtain⟨hki,hsi⟩:=HSZ.out;generalize hsz:sizeE ⟨ek,evl⟩=sz at *;clear HSZ hsz;have HP1:=hid (HPK.out w1);go_wp2_with fail;refine HP1.out.mono ?_;rintro e w2 ⟨A2,c2,rfl,ho2,hb2⟩;have hcr2:=(hb2.block _ (lt_of_heap hcr1)).trans hcr1;have HG2:=hid (HG.out w2 hcr2 (HNS.out.turn (Turn.ofBelow (S:=[]) hb2) (by simp)).ns);have HC2:=hid (HC1.out.below hb2);have HT2:=hid (HT1.out.below hb2);have HX2:=hid ((hb2.block _ (lt_of_heap HX1.out)).trans HX1.out);have HL2:Hid (∀q∈[cr,y,r,bs,bw]++S,q<w2.heap.size∧q≠bx):=hid (fun q hq=>⟨Nat.lt_of_lt_of_le (HL1.out q hq).1 hb2.size,(HL1.out q hq).2⟩);clear ho2 hb2 HG HNS HC1 HT1 HX1 HL1 c0 y3 e0 e1 hcr1 hyo1 HP1;go_wp2_with fail;refine HG2.out.mono ?_;rintro e u ⟨rfl,rfl⟩;clear HG2;have HV:Hid ((fnd L ek).isSome=true→fndV L ek≠evl):=hid (fun hh=>by
  unfold fndV;cases hq:fnd L ek with
  |none=>rw[hq] at hh;cases hh
  |some x=>exact HF.out x hq)
 clear HF;generalize (fnd L ek).isSome=fb at *;generalize fndV L ek=fv at *;go_upto_region 7 with fail;go_cut [43] (fun x wc=>x= .bool false∧wc=w2)
 case first=>
  cases fb with
  |false=>
   go_wp2_with fail;go_meet
   exact⟨rfl,rfl⟩
  |true=>
   have hvn:=ba_ne (HV.out rfl);go_wp2_with fail;go_meet
   exact⟨rfl,rfl⟩
 case rest=>
 obtain⟨rfl,rfl⟩:=hcut;obtain⟨w2,rfl⟩:∃u:World,u=wc:=⟨_,rfl⟩
 clear HV;go_upto_region 9 with fail;have HS:Hid (w2.drew.heap[cr]? =some (r7obj y L.length c A ev0)∧w2.drew.heap[bx]? =some (.cells #[.string ek,.string evl] 61 (0,0))):=hid ⟨hcr2,HX2.out⟩;have HC0:Hid (RC w2.drew S cr y r bs bw d jr L ev0):=hid (HC2.out.below (Below.refl w2.heap.size w2).drew);have HT0:Hid (Turn [cr,y,r,bs,bw] w w2.drew):=hid HT2.out.drew;have HL0:Hid (∀q∈[cr,y,r,bs,bw]++S,q<w2.drew.heap.size∧q≠bx):=hid HL2.out;clear HC2 HX2 HT2 hcr2 HL2;refine Frm.wh_start (fun u=>u.heap[cr]? =some (r7obj y L.length c A ev0)∧u.heap[bx]? =some (.cells #[.string ek,.string evl] 61 (0,0))) (by kernel_rfl) ?_;generalize w2.drew=u0 at *;have HP0:=hid (HPK.out u0);clear HPK;refine Frm.wa 0 44 (.pointer (some ⟨cr,0,none⟩)) HS.out ?_;go_frame;refine Frm.wb 1 45 (.pointer (some ⟨cr,0,none⟩)) HS.out ?_;go_frame;refine Frm.wb 2 46 (.pointer (some ⟨cr,0,none⟩)) HS.out ?_;go_frame;refine Frm.wd 3 47 (.pointer (some ⟨y,0,none⟩)) HS.out (fun w' hw'=> ?_) ?_
 ·have h1:=cell_at hw'.1 0;go_simp
 go_frame;refine Frm.wd 4 48 (.agg #[.string ek,.string evl]) HS.out (fun w' hw'=> ?_) ?_
 ·have h1:=cell_at hw'.2 0;have h2:=cell_at hw'.2 1;go_simp
 go_frame;refine Frm.wh_call 5 49 36 #[.agg #[.string ek,.string evl]] rfl rfl (by kernel_rfl) rfl ?_ ?_
 ·go_simp
 refine HP0.out.mono ?_;rintro e u1 ⟨A4,c4,rfl,ho4,hb4⟩;have HC1:Hid (RC u1 S cr y r bs bw d jr L ev0):=hid (HC0.out.below hb4);have HT1:Hid (Turn [cr,y,r,bs,bw] w u1):=hid (HT0.out.below hb4);have HB4:Hid (Jou.Bts u1 [y,r,bs,bw] A4 sz (packE ⟨ek,evl⟩)):=hid (Jou.bts_own ho4 (fun q hq=>(HL0.out q (List.mem_append_left _ (List.mem_cons_of_mem _ hq))).1));have HL1:Hid (∀q∈[cr,y,r,bs,bw]++S,q<u1.heap.size∧q≠bx):=hid (fun q hq=>⟨Nat.lt_of_lt_of_le (HL0.out q hq).1 hb4.size,(HL0.out q hq).2⟩);have HS1:=hid (And.intro ((hb4.block _ (lt_of_heap HS.out.1)).trans HS.out.1) ((hb4.block _ (lt_of_heap HS.out.2)).trans HS.out.2));clear HS HC0 HT0 HL0 ho4 hb4 HP0;have HS:=HS1;clear HS1;have HA:=hid (Jou.rjappend_any u1 (cr::S) y r bs bw d jr sz c4 A4 (packE ⟨ek,evl⟩) HC1.out.rj (fun q hq=>(HL1.out q ((List.mem_cons.1 hq).elim (fun e=>by rw[e];simp) (fun e=>List.mem_append_right _ e))).1) HB4.out);rw[HZ.out] at HA;unfold ptr at HA;refine⟨_,rfl,HS.out,?_⟩;go_frame;refine Frm.wh_call 6 50 16 #[.pointer (some ⟨y,0,none⟩),.slice A4 sz c4] rfl rfl (by kernel_rfl) rfl ?_ ?_
 ·go_simp
 refine HA.out.mono ?_;rintro e w3 ⟨rfl,hj3,ht3⟩;have HC3:Hid (RC w3 S cr y r bs bw (appD d jr (packE ⟨ek,evl⟩)) (appJ d jr (packE ⟨ek,evl⟩)) L ev0):=hid (HC1.out.jour hj3 ht3);have HT3:Hid (Turn [cr,y,r,bs,bw] w w3):=hid (HT1.out.then_ ht3 (fun q hq=> .inl (List.mem_cons_of_mem _ hq)));have HL3:Hid (∀q∈[cr,y,r,bs,bw]++S,q<w3.heap.size∧q≠bx):=hid (fun q hq=>⟨Nat.lt_of_lt_of_le (HL1.out q hq).1 ht3.size,(HL1.out q hq).2⟩);have HS3:=hid (And.intro ((ht3.block cr (lt_of_heap HS.out.1) (fun hm=>HC1.out.out (List.mem_append_left _ hm))).trans HS.out.1) ((ht3.block bx (lt_of_heap HS.out.2) (fun hm=>(HL1.out bx (List.mem_append_left _ (List.mem_cons_of_mem _ hm))).2 rfl)).trans HS.out.2));clear HS HC1 HT1 HL1 hj3 ht3 HA HB4;have HS:=HS3;clear HS3;refine⟨_,rfl,HS.out,?_⟩;go_frame;refine Frm.wa 7 10 (.int .i64 z) HS.out ?_;go_frame;refine wpAnyH_done (by kernel_rfl) ?_ _;rcases HZ4.out with rfl|rfl|rfl
 ·go_upto_region 11 with fail;have hc4:=HS.out.1;have HS4:Hid (w3.drew.heap[cr]? =some (r7obj y L.length c A ev0)∧w3.drew.heap[bx]? =some (.cells #[.string ek,.string evl] 61 (0,0))):=hid HS.out;have HC4:Hid (RC w3.drew S cr y r bs bw (appD d jr (packE ⟨ek,evl⟩)) (appJ d jr (packE ⟨ek,evl⟩)) L ev0):=hid (HC3.out.below (Below.refl w3.heap.size w3).drew);have HT4:Hid (Turn [cr,y,r,bs,bw] w w3.drew):=hid HT3.out.drew;have HL4:Hid (∀q∈[cr,y,r,bs,bw]++S,q<w3.drew.heap.size∧q≠bx):=hid HL3.out;clear HC3 HT3 HL3 HS hc4;refine Disk.AtS.start (by kernel_rfl) 9 (fun u=>u.heap[cr]? =some (r7obj y L.length c A ev0)∧u.heap[bx]? =some (.cells #[.string ek,.string evl] 61 (0,0))) (by kernel_rfl) (by kernel_rfl) ?_;generalize w3.drew=u0 at *;obtain⟨A',c',h4',hn4',_⟩:=HC4.out.hd;rw[HS4.out.1] at h4';injection h4' with h4';injection h4' with h4';injection h4' with h4';simp only[List.cons.injEq,Value.slice.injEq,true_and,and_true] at h4';obtain⟨rfl,rfl⟩:=h4';have HW:=hid (with_any u0 L.length c A L ⟨ek,evl⟩ hn4'.ns HLN.out);unfold entV at HW;clear hn4';have HS:=HS4;clear HS4;refine Jou.as_take 0 53 (.pointer (some ⟨cr,0,none⟩)) rfl rfl (by kernel_rfl) (fun _ _ _ h=>h) rfl (HS.out) (fun w' hw'=> ?_) ?_
  ·exact rfl
  go_frame;refine Jou.as_take 1 54 (.pointer (some ⟨cr,0,none⟩)) rfl rfl (by kernel_rfl) (fun _ _ _ h=>h) rfl (HS.out) (fun w' hw'=> ?_) ?_
  ·exact rfl
  go_frame;refine Jou.as_take 2 55 (.pointer (some ⟨cr,0,none⟩)) rfl rfl (by kernel_rfl) (fun _ _ _ h=>h) rfl (HS.out) (fun w' hw'=> ?_) ?_
  ·go_simp
  go_frame;refine Jou.as_take 3 56 (.pointer (some ⟨cr,1,none⟩)) rfl rfl (by kernel_rfl) (fun _ _ _ h=>h) rfl (HS.out) (fun w' hw'=> ?_) ?_
  ·go_simp
  go_frame;refine Jou.as_take 4 57 (.slice A L.length c) rfl rfl (by kernel_rfl) (fun _ _ _ h=>h) rfl (HS.out) (fun w' hw'=> ?_) ?_
  ·have h1:=cell_at hw'.1 1;go_simp
  go_frame;refine Jou.as_take 5 58 (.agg #[.string ek,.string evl]) rfl rfl (by kernel_rfl) (fun _ _ _ h=>h) rfl (HS.out) (fun w' hw'=> ?_) ?_
  ·have h1:=cell_at hw'.2 0;have h2:=cell_at hw'.2 1;go_simp
  go_frame;refine Jou.as_call 6 59 86 #[.slice A L.length c,.agg #[.string ek,.string evl]] rfl rfl ⟨by kernel_rfl,by decide⟩ rfl ?_ ?_
  ·go_simp
  refine HW.out.mono ?_;rintro e w7 ⟨A7,c7,rfl,ho7,hb7⟩;have HO7:=hid ho7;have HC7:=hid (HC4.out.below hb7);have HT7:=hid (HT4.out.below hb7);have HSN:=hid (And.intro ((hb7.block _ (lt_of_heap HS.out.1)).trans HS.out.1) ((hb7.block _ (lt_of_heap HS.out.2)).trans HS.out.2));clear HS ho7 hb7 HW HC4 HT4;have HS:=HSN;clear HSN;refine⟨_,rfl,HS.out,?_⟩;go_frame;refine Jou.as_take 7 60 (.pointer (some ⟨cr,0,none⟩)) rfl rfl (by kernel_rfl) (fun _ _ _ h=>h) rfl (HS.out) (fun w' hw'=> ?_) ?_
  ·go_simp
  go_frame;refine Jou.as_take 8 61 (.pointer (some ⟨cr,1,none⟩)) rfl rfl (by kernel_rfl) (fun _ _ _ h=>h) rfl (HS.out) (fun w' hw'=> ?_) ?_
  ·go_simp
  go_frame;have hc1:=cell_at HS.out.1 1;have f1:=free_at HS.out.1 1;have HF:Hid (RC (w7.setCell ⟨cr,1,none⟩ (.slice A7 (withE L ⟨ek,evl⟩).length c7)) S cr y r bs bw (appD d jr (packE ⟨ek,evl⟩)) (appJ d jr (packE ⟨ek,evl⟩)) (withE L ⟨ek,evl⟩) ev0):=hid (HC7.out.store HO7.out (fun q hq=>(HL4.out q hq).1));have HFT:Hid (Turn [cr,y,r,bs,bw] w (w7.setCell ⟨cr,1,none⟩ (.slice A7 (withE L ⟨ek,evl⟩).length c7))):=hid (HT7.out.setCell (.inl (by simp)) _);refine Disk.AtS.last (i:=9) (w':=w7.setCell ⟨cr,1,none⟩ (.slice A7 (withE L ⟨ek,evl⟩).length c7)) rfl (by kernel_rfl) (by kernel_rfl) (by decide) rfl ?_ ?_
  ·go_simp
  go_frame;clear hc1 f1 HS HO7 HT7 HC7 HL4;generalize w7.setCell ⟨cr,1,none⟩ (.slice A7 (withE L ⟨ek,evl⟩).length c7)=w8 at *;go_wp2_with fail;go_ret;exact⟨rfl,by unfold appL;rw[if_pos rfl];exact HF.out,HFT.out⟩
 ·go_wp2_with fail;go_ret;exact⟨rfl,HC3.out,HT3.out⟩
 go_wp2_with fail;go_ret;exact⟨rfl,HC3.out,HT3.out⟩
end
end Go.Proofs.YtdjhlhellkajfaaGreat.Cch
namespace Go.Proofs.YtdjhlhellkajfaaGreat.Cch
open Go.RowKit Codec Cod
open Disk (Turn Dk Dsk ptr)
open JourM (Jr takes takes1 appE appD appJ rstE rstD rstJ)
open Jou (Rk RJ RowsB yobj)
theorem sur_snoc(p:List UInt8)(room:Nat):∀pk:List (List UInt8),sur (pk++[p]) room=if takes1 p≤room then sur pk (room-takes1 p) else pk.length+1
 |[]=>by
  have e:takes [p]=takes1 p:=rfl;show sur [p] room=_;unfold sur;rw[e];split<;>rfl
 |x::pk=>by
  have ih:=sur_snoc p room pk;have e:takes (x::(pk++[p]))=takes (x::pk)+takes1 p:=JourM.takes_app (x::pk) [p];show sur (x::(pk++[p])) room=_;by_cases h:takes1 p≤room
  ·rw[if_pos h] at ih ⊢;conv=>lhs;unfold sur
   conv=>rhs;unfold sur
   rw[e,ih];by_cases h2:takes (x::pk)≤room-takes1 p
   ·rw[if_pos h2,if_pos (by omega)]
   rw[if_neg h2,if_neg (by omega)]
  rw[if_neg h] at ih ⊢;conv=>lhs;unfold sur
  rw[e,ih,if_neg (by omega)];rfl
theorem size7(w:World):(Go.sizeOf (Tryz.prog.elem 86)).run Tryz.prog w= .ok 2 w:=by kernel_rfl
theorem run_from7(w:World)(A:Option Addr)(n c k:Nat)(hk:k≤n):
  (Instr.slice 86 (.slice A n c) (some (.int .i64 k)) none none).run Tryz.prog w= .ok (.slice (if c=k then A else A.map (·.add (k * 2))) (n-k) (c-k)) w:=by
 rw[run_slice_l (P:=Tryz.prog) w 86 A n c Tryz.underlying86 .i64 k (by omega) (by omega),size7];simp[Result.andThen,sliced]
theorem NsX.drop{w:World}{S:List Nat}{A:Option Addr}{n c k:Nat}{L:List Ent}(h:NsX w S A n L)(hk:k≤n)(hc:n≤c):NsX w S (if c=k then A else A.map (·.add (k * 2))) (n-k) (L.drop k):=by
 refine⟨by rw[List.length_drop,h.1],fun hn=> ?_⟩;obtain⟨g,off,rfl,hl,ho,hcs⟩:=h.2 (by omega);rw[if_neg (by omega)];refine⟨g,off+k * 2,by simp[Addr.add_mid],hl,ho,fun j hj=> ?_⟩;have hjk:k+j<L.length:=by rw[List.length_drop] at hj;omega
 have:=hcs (k+j) hjk;rw[List.getElem_drop];rwa [show off+(k+j) * 2=off+k * 2+j * 2 by omega] at this
section
variable {w w':World} {S:List Nat} {cr y r bs bw:Nat} {d d':Dsk} {jr jr':Jr} {L:List Ent} {ev0:Int}
theorem RC.storeX{L':List Ent}{A':Option Addr}{c' m:Nat}(h:RC w S cr y r bs bw d jr L ev0)(hn:NsX w ([cr,y,r,bs,bw]++S) A' m L')(hc:m≤c'):
  RC (w.setCell ⟨cr,1,none⟩ (.slice A' m c')) S cr y r bs bw d jr L' ev0∧Turn [cr,y,r,bs,bw] w (w.setCell ⟨cr,1,none⟩ (.slice A' m c'))∧(w.setCell ⟨cr,1,none⟩ (.slice A' m c')).heap[cr]? =some (r7obj y m c' A' ev0):=by
 obtain⟨A,c,h1,_,_⟩:=h.hd;have ht:Turn [cr] w (w.setCell ⟨cr,1,none⟩ (.slice A' m c')):=(Turn.refl [cr] w).setCell (.inl (by simp)) _;have e:(w.setCell ⟨cr,1,none⟩ (.slice A' m c')).heap[cr]? =some (r7obj y m c' A' ev0):=set_at h1 1 _;refine⟨⟨h.rj.turn ht (fun k hk=> .inl (by simp at hk;rw[hk];exact List.mem_cons_self)),⟨A',c',by rw[hn.1];exact e,?_,by rw[hn.1];exact hc⟩,h.out⟩,(Turn.refl _ w).setCell (.inl (by simp)) _,e⟩;rw[hn.1];exact hn.turn ht (fun k hk=> .inl (by simp at hk;rw[hk];simp))
theorem RC.evict(h:RC w S cr y r bs bw d jr L ev0)(x:Int):RC (w.setCell ⟨cr,2,none⟩ (.int .i64 x)) S cr y r bs bw d jr L x∧Turn [cr,y,r,bs,bw] w (w.setCell ⟨cr,2,none⟩ (.int .i64 x)):=by
 obtain⟨A,c,h1,h2,h3⟩:=h.hd;have ht:Turn [cr] w (w.setCell ⟨cr,2,none⟩ (.int .i64 x)):=(Turn.refl [cr] w).setCell (.inl (by simp)) _;exact⟨⟨h.rj.turn ht (fun k hk=> .inl (by simp at hk;rw[hk];exact List.mem_cons_self)),⟨A,c,set_at h1 2 _,h2.turn ht (fun k hk=> .inl (by simp at hk;rw[hk];simp)),h3⟩,h.out⟩,(Turn.refl _ w).setCell (.inl (by simp)) _⟩
def fuE (d:Dsk) (jr:Jr) (Lw:List Ent) (nn:Nat):Int:=if nn=Lw.length then 2 else rstE d jr ((Lw.drop nn).map packE)
def fuD (d:Dsk) (jr:Jr) (Lw:List Ent) (nn:Nat):Dsk:=if nn=Lw.length then d else rstD d jr ((Lw.drop nn).map packE)
def fuJ (d:Dsk) (jr:Jr) (Lw:List Ent) (nn:Nat):Jr:=if nn=Lw.length then jr else rstJ d jr ((Lw.drop nn).map packE)
def fuL (d:Dsk) (jr:Jr) (L Lw:List Ent) (nn:Nat):List Ent:=if fuE d jr Lw nn=0 then Lw.drop nn else L
def fuV (d:Dsk) (jr:Jr) (Lw:List Ent) (nn:Nat) (ev:Int):Int:=if fuE d jr Lw nn=0 then ev+nn else ev
theorem rput_full(h:RC w S cr y r bs bw d jr L ev0)(hS:∀q∈S,q<w.heap.size)(hLq:L.length≤99999)(e:Ent)(hk:e.k.size≤65536)(hs:sizeE e≤1048576)(hdn:jr.down=false)(hf:∀x,fnd L e.k=some x→x.v≠e.v)(hz:appE d jr (packE e)=2)
  (hev:0≤ev0∧ev0≤1000000000) (hgn:jr.gen+1<9223372036854775807) (hzs:∀x∈withE L e,x.k.size+x.v.size≤900000000) (htt:takes ((withE L e).map packE)≤1000000) (nn:Nat) (hnn:sur ((withE L e).map packE) (JourM.room d.n)=nn):
  Calls Tryz.prog 42 #[ptr cr,.string e.k,.string e.v] w (RPut (fuE d jr (withE L e) nn) w S cr y r bs bw (fuD d jr (withE L e) nn) (fuJ d jr (withE L e) nn) (fuL d jr L (withE L e) nn) (fuV d jr (withE L e) nn ev0)):=by
 have HAD:Hid (appD d jr (packE e)=d∧appJ d jr (packE e)=jr):=hid (by
  rcases Jou.app_parts d jr (packE e) with⟨_,q,_⟩|⟨_,_,q,_⟩|⟨_,_,_,_,q1,q2⟩|⟨_,_,_,_,q,_⟩|⟨_,_,_,_,q,_⟩
  ·rw[hz] at q;cases q
  ·rw[hz] at q;cases q
  ·exact⟨q1,q2⟩
  ·rw[hz] at q;cases q
  ·rw[hz] at q;cases q)
 have HZ:=hid hz;have HF:=hid hf;have HEV:=hid hev;have HGN:=hid hgn;have HZS:=hid hzs;have HTL:=hid htt;have HNN:=hid hnn;have HLQ:=hid hLq;have hLn:L.length≤100000:=by omega
 clear hLq hz hf hev hgn hzs htt hnn;obtain⟨ek,evl⟩:=e;dsimp only at *;obtain⟨A,c,hcr,hns,hlc⟩:=h.hd;obtain⟨Aj,cj,hyo,_⟩:=h.rj.hd;rw[hdn] at hyo;have HAB:=hid (Frm.alloc_below w (.cells #[.string ek,.string evl] 61));have HX1:=hid (heap_alloc_new w (.cells #[.string ek,.string evl] 61));have HC1:=hid (h.below HAB.out);have hcr1:=(HAB.out.block _ h.crlt).trans hcr;have hyo1:=(HAB.out.block _ h.rj.ylt).trans hyo;have HNS:=hid (hns.turn (Turn.ofBelow (S:=[]) HAB.out) (by simp));have HT1:Hid (Turn [cr,y,r,bs,bw] w (w.alloc (.cells #[.string ek,.string evl] 61))):=hid (Turn.ofBelow HAB.out);have HL1:Hid (∀q∈[cr,y,r,bs,bw]++S,q<(w.alloc (.cells #[.string ek,.string evl] 61)).heap.size∧q≠w.heap.size):=hid (fun q hq=>by
  have h1:=h.lows hS q hq;have h2:=HAB.out.size;exact⟨by omega,by omega⟩)
 have HLN:Hid (L.length≤100000):=hid hLn;have HPK:=hid (fun u=>rpack_any u ⟨ek,evl⟩ (by unfold sizeE at hs;dsimp only at hs ⊢;omega));have HSZ:Hid ((ek.size:Int)≤65536∧(sizeE ⟨ek,evl⟩:Int)≤1048576):=hid (by omega);have HG:=hid (fun u (h1:u.heap[cr]? =some (r7obj y L.length c A ev0)) (h2:Els.Ns u A L.length L)=>rcget_any u cr y L.length c A ev0 L ek h1 h2 hLn);unfold entV at HPK;dsimp only at HPK;unfold ptr at *;clear h hdn hk hs hLn hcr hyo hns hlc hS;go_enter Tryz.func42,Tryz.ntmps42;go_upto_region 2 with fail;generalize w.alloc (.cells #[.string ek,.string evl] 61)=w1 at *;generalize w.heap.size=bx at *;clear HAB;have c0:=cell_at hcr1 0;have y3:=Jou.yc3 hyo1;have e0:=cell_at HX1.out 0;have e1:=cell_at HX1.out 1;obtain⟨hki,hsi⟩:=HSZ.out;generalize hsz:sizeE ⟨ek,evl⟩=sz at *;clear HSZ hsz;have HP1:=hid (HPK.out w1);go_wp2_with fail;refine HP1.out.mono ?_;rintro e w2 ⟨A2,c2,rfl,ho2,hb2⟩;have hcr2:=(hb2.block _ (lt_of_heap hcr1)).trans hcr1;have HG2:=hid (HG.out w2 hcr2 (HNS.out.turn (Turn.ofBelow (S:=[]) hb2) (by simp)).ns);have HC2:=hid (HC1.out.below hb2);have HT2:=hid (HT1.out.below hb2);have HX2:=hid ((hb2.block _ (lt_of_heap HX1.out)).trans HX1.out);have HL2:Hid (∀q∈[cr,y,r,bs,bw]++S,q<w2.heap.size∧q≠bx):=hid (fun q hq=>⟨Nat.lt_of_lt_of_le (HL1.out q hq).1 hb2.size,(HL1.out q hq).2⟩);clear ho2 hb2 HG HNS HC1 HT1 HX1 HL1 c0 y3 e0 e1 hcr1 hyo1 HP1;go_wp2_with fail;refine HG2.out.mono ?_;rintro e u ⟨rfl,rfl⟩;clear HG2;have HV:Hid ((fnd L ek).isSome=true→fndV L ek≠evl):=hid (fun hh=>by
  unfold fndV;cases hq:fnd L ek with
  |none=>rw[hq] at hh;cases hh
  |some x=>exact HF.out x hq)
 clear HF;generalize (fnd L ek).isSome=fb at *;generalize fndV L ek=fv at *;go_upto_region 7 with fail;go_cut [43] (fun x wc=>x= .bool false∧wc=w2)
 case first=>
  cases fb with
  |false=>
   go_wp2_with fail;go_meet
   exact⟨rfl,rfl⟩
  |true=>
   have hvn:=ba_ne (HV.out rfl);go_wp2_with fail;go_meet
   exact⟨rfl,rfl⟩
 case rest=>
 obtain⟨rfl,rfl⟩:=hcut;obtain⟨w2,rfl⟩:∃u:World,u=wc:=⟨_,rfl⟩
 clear HV;go_upto_region 9 with fail;have HS:Hid (w2.drew.heap[cr]? =some (r7obj y L.length c A ev0)∧w2.drew.heap[bx]? =some (.cells #[.string ek,.string evl] 61 (0,0))):=hid ⟨hcr2,HX2.out⟩;have HC0:Hid (RC w2.drew S cr y r bs bw d jr L ev0):=hid (HC2.out.below (Below.refl w2.heap.size w2).drew);have HT0:Hid (Turn [cr,y,r,bs,bw] w w2.drew):=hid HT2.out.drew;have HL0:Hid (∀q∈[cr,y,r,bs,bw]++S,q<w2.drew.heap.size∧q≠bx):=hid HL2.out;clear HC2 HX2 HT2 hcr2 HL2;refine Frm.wh_start (fun u=>u.heap[cr]? =some (r7obj y L.length c A ev0)∧u.heap[bx]? =some (.cells #[.string ek,.string evl] 61 (0,0))) (by kernel_rfl) ?_;generalize w2.drew=u0 at *;have HP0:=hid (HPK.out u0);clear HPK;refine Frm.wa 0 44 (.pointer (some ⟨cr,0,none⟩)) HS.out ?_;go_frame;refine Frm.wb 1 45 (.pointer (some ⟨cr,0,none⟩)) HS.out ?_;go_frame;refine Frm.wb 2 46 (.pointer (some ⟨cr,0,none⟩)) HS.out ?_;go_frame;refine Frm.wd 3 47 (.pointer (some ⟨y,0,none⟩)) HS.out (fun w' hw'=> ?_) ?_
 ·have h1:=cell_at hw'.1 0;go_simp
 go_frame;refine Frm.wd 4 48 (.agg #[.string ek,.string evl]) HS.out (fun w' hw'=> ?_) ?_
 ·have h1:=cell_at hw'.2 0;have h2:=cell_at hw'.2 1;go_simp
 go_frame;refine Frm.wh_call 5 49 36 #[.agg #[.string ek,.string evl]] rfl rfl (by kernel_rfl) rfl ?_ ?_
 ·go_simp
 refine HP0.out.mono ?_;rintro e u1 ⟨A4,c4,rfl,ho4,hb4⟩;have HC1:Hid (RC u1 S cr y r bs bw d jr L ev0):=hid (HC0.out.below hb4);have HT1:Hid (Turn [cr,y,r,bs,bw] w u1):=hid (HT0.out.below hb4);have HB4:Hid (Jou.Bts u1 [y,r,bs,bw] A4 sz (packE ⟨ek,evl⟩)):=hid (Jou.bts_own ho4 (fun q hq=>(HL0.out q (List.mem_append_left _ (List.mem_cons_of_mem _ hq))).1));have HL1:Hid (∀q∈[cr,y,r,bs,bw]++S,q<u1.heap.size∧q≠bx):=hid (fun q hq=>⟨Nat.lt_of_lt_of_le (HL0.out q hq).1 hb4.size,(HL0.out q hq).2⟩);have HS1:=hid (And.intro ((hb4.block _ (lt_of_heap HS.out.1)).trans HS.out.1) ((hb4.block _ (lt_of_heap HS.out.2)).trans HS.out.2));clear HS HC0 HT0 HL0 ho4 hb4 HP0;have HS:=HS1;clear HS1;have HA:=hid (Jou.rjappend_any u1 (cr::S) y r bs bw d jr sz c4 A4 (packE ⟨ek,evl⟩) HC1.out.rj (fun q hq=>(HL1.out q ((List.mem_cons.1 hq).elim (fun e=>by rw[e];simp) (fun e=>List.mem_append_right _ e))).1) HB4.out);rw[HZ.out] at HA;unfold ptr at HA;refine⟨_,rfl,HS.out,?_⟩;go_frame;refine Frm.wh_call 6 50 16 #[.pointer (some ⟨y,0,none⟩),.slice A4 sz c4] rfl rfl (by kernel_rfl) rfl ?_ ?_
 ·go_simp
 refine HA.out.mono ?_;rintro e w3 ⟨rfl,hj3,ht3⟩;have HC3:Hid (RC w3 S cr y r bs bw (appD d jr (packE ⟨ek,evl⟩)) (appJ d jr (packE ⟨ek,evl⟩)) L ev0):=hid (HC1.out.jour hj3 ht3);have HT3:Hid (Turn [cr,y,r,bs,bw] w w3):=hid (HT1.out.then_ ht3 (fun q hq=> .inl (List.mem_cons_of_mem _ hq)));have HL3:Hid (∀q∈[cr,y,r,bs,bw]++S,q<w3.heap.size∧q≠bx):=hid (fun q hq=>⟨Nat.lt_of_lt_of_le (HL1.out q hq).1 ht3.size,(HL1.out q hq).2⟩);have HS3:=hid (And.intro ((ht3.block cr (lt_of_heap HS.out.1) (fun hm=>HC1.out.out (List.mem_append_left _ hm))).trans HS.out.1) ((ht3.block bx (lt_of_heap HS.out.2) (fun hm=>(HL1.out bx (List.mem_append_left _ (List.mem_cons_of_mem _ hm))).2 rfl)).trans HS.out.2));clear HS HC1 HT1 HL1 hj3 ht3 HA HB4;have HS:=HS3;clear HS3;refine⟨_,rfl,HS.out,?_⟩;go_frame;refine Frm.wa 7 10 (.int .i64 2) HS.out ?_;go_frame;refine wpAnyH_done (by kernel_rfl) ?_ _;rw[HAD.out.1,HAD.out.2] at HC3;clear HAD HZ;go_upto_region 14 with fail;have HC4:Hid (RC w3.drew S cr y r bs bw d jr L ev0):=hid (HC3.out.below (Below.refl w3.heap.size w3).drew);have HT4:Hid (Turn [cr,y,r,bs,bw] w w3.drew):=hid HT3.out.drew;have HL4:Hid (∀q∈[cr,y,r,bs,bw]++S,q<w3.drew.heap.size∧q≠bx):=hid HL3.out;have HS4:Hid (w3.drew.heap[cr]? =some (r7obj y L.length c A ev0)∧w3.drew.heap[bx]? =some (.cells #[.string ek,.string evl] 61 (0,0))):=hid HS.out;clear HC3 HT3 HL3 HS;refine Frm.wh_start (fun u=>u.heap[cr]? =some (r7obj y L.length c A ev0)∧u.heap[bx]? =some (.cells #[.string ek,.string evl] 61 (0,0))) (by kernel_rfl) ?_;generalize w3.drew=u0 at *;have HS:=HS4;clear HS4;obtain⟨A',c',h4',hn4',_⟩:=HC4.out.hd;rw[HS.out.1] at h4';injection h4' with h4';injection h4' with h4';injection h4' with h4';simp only[List.cons.injEq,Value.slice.injEq,true_and,and_true] at h4';obtain⟨rfl,rfl⟩:=h4';have HW:=hid (with_any u0 L.length c A L ⟨ek,evl⟩ hn4'.ns HLN.out);unfold entV at HW;clear hn4';refine Frm.wa 0 65 (.pointer (some ⟨cr,0,none⟩)) HS.out ?_;go_frame;refine Frm.wb 1 66 (.pointer (some ⟨cr,0,none⟩)) HS.out ?_;go_frame;refine Frm.wb 2 67 (.pointer (some ⟨cr,1,none⟩)) HS.out ?_;go_frame;refine Frm.wd 3 68 (.slice A L.length c) HS.out (fun w' hw'=> ?_) ?_
 ·have h1:=cell_at hw'.1 1;go_simp
 go_frame;refine Frm.wd 4 69 (.agg #[.string ek,.string evl]) HS.out (fun w' hw'=> ?_) ?_
 ·have h1:=cell_at hw'.2 0;have h2:=cell_at hw'.2 1;go_simp
 go_frame;refine Frm.wh_call 5 70 86 #[.slice A L.length c,.agg #[.string ek,.string evl]] rfl rfl (by kernel_rfl) rfl ?_ ?_
 ·go_simp
 refine HW.out.mono ?_;rintro e w5 ⟨A7,c7,rfl,ho7,hb7⟩;have HN5:Hid (NsX w5 ([cr,y,r,bs,bw]++S) A7 (withE L ⟨ek,evl⟩).length (withE L ⟨ek,evl⟩)):=hid (NsX.of_own ho7 (fun q hq=>(HL4.out q hq).1));have HM7:Hid ((withE L ⟨ek,evl⟩).length≤c7):=hid (by
  obtain⟨_,_,e7,hle7,_⟩:=ho7.form;injection e7 with _ _ e7;omega)
 have HC5:=hid (HC4.out.below hb7);have HT5:=hid (HT4.out.below hb7);have HL5:Hid (∀q∈[cr,y,r,bs,bw]++S,q<w5.heap.size):=hid (fun q hq=>Nat.lt_of_lt_of_le (HL4.out q hq).1 hb7.size);have HSN:=hid (And.intro ((hb7.block _ (lt_of_heap HS.out.1)).trans HS.out.1) ((hb7.block _ (lt_of_heap HS.out.2)).trans HS.out.2));clear HS ho7 hb7 HW HC4 HT4 HL4;have HS:=HSN;clear HSN;refine⟨_,rfl,HS.out,?_⟩;go_frame;refine Frm.wa 6 11 (.slice A7 (withE L ⟨ek,evl⟩).length c7) HS.out ?_;go_frame;refine wpAnyH_done (by kernel_rfl) ?_ _;have HWL:=hid (with_le L ⟨ek,evl⟩);generalize withE L ⟨ek,evl⟩=Lw at *;have HLM:Hid (Lw.length=Lw.length):=hid rfl;obtain⟨m,hm⟩:∃m,Lw.length=m:=⟨_,rfl⟩
 have HMN:Hid (m≤100000):=hid (by have:=HWL.out;have:=HLQ.out;omega);rw[hm] at HN5 HM7;replace HLM:Hid (Lw.length=m):=hid hm;rw[hm];clear hm HWL;obtain⟨Aj,cj,hyo,_⟩:=HC5.out.rj.hd;have HS5:Hid (w5.heap[cr]? =some (r7obj y L.length c A ev0)∧w5.heap[y]? =some (yobj r jr.gen Aj jr.gs.length cj jr.down)):=hid ⟨HS.out.1,hyo⟩;have hmi:(m:Int)≤100001:=by have:=HMN.out;omega
 clear hyo HS HLN HLQ;go_wp2_with fail;go_loopw [12] (fun i wr=>∃k:Nat,k≤m∧i= .int .i64 k∧sur ((Lw.drop k).map packE) (JourM.room d.n)+k=nn∧Below w5.heap.size w5 wr) (fun i _=>m-(Go.RowKit.intOf i).toNat)
 case atStart=>exact⟨0,Nat.zero_le _,rfl,by simpa using HNN.out,Below.refl _ _⟩
 case round=>
  obtain⟨k,hk,rfl,hsur,hb⟩:=hrel;have HB:=hid hb;have HSU:=hid hsur;clear hb hsur;by_cases hlt:k<m
  ·obtain⟨T,hT⟩:∃T,takes ((Lw.drop k).map packE)=T:=⟨_,rfl⟩
   have HTT:=hid hT;have HTL':Hid (T≤1000000):=hid (by
    have h1:takes (Lw.map packE)=takes ((Lw.take k).map packE)+takes ((Lw.drop k).map packE):=by rw[←JourM.takes_app,←List.map_append,List.take_append_drop]
    have:=HTL.out;omega)
   clear HTL hT;have HTL:=HTL';clear HTL';have hTi:(T:Int)≤1000000:=by have:=HTL.out;omega
   by_cases hgt:JourM.room d.n<T
   ·go_upto_region 16 with fail;have HRC:Hid (RC wr.drew S cr y r bs bw d jr L ev0):=hid (HC5.out.below (HB.out.drew));have HN6:Hid (NsX wr.drew ([cr,y,r,bs,bw]++S) (if c7=k then A7 else A7.map (·.add (k * 2))) (m-k) (Lw.drop k)):=hid ((HN5.out.turn (Turn.ofBelow (S:=[]) HB.out.drew) (by simp)).drop hk HM7.out);have HS:Hid (wr.drew.heap[cr]? =some (r7obj y L.length c A ev0)∧wr.drew.heap[y]? =some (yobj r jr.gen Aj jr.gs.length cj jr.down)):=hid ⟨(HB.out.drew.block cr (lt_of_heap HS5.out.1)).trans HS5.out.1,(HB.out.drew.block y (lt_of_heap HS5.out.2)).trans HS5.out.2⟩;have HBD:Hid (Below w5.heap.size w5 wr.drew):=hid HB.out.drew;refine Frm.wh_start (fun u=>u.heap[cr]? =some (r7obj y L.length c A ev0)∧u.heap[y]? =some (yobj r jr.gen Aj jr.gs.length cj jr.down)) (by kernel_rfl) ?_;generalize wr.drew=u0 at *;have hslt:=fun u=>run_from7 u A7 m c7 k hk;refine Frm.wa 0 71 (.int .i64 k) HS.out ?_;go_frame;refine Frm.wa 1 72 (.slice A7 m c7) HS.out ?_;go_frame;refine Frm.wb 2 73 (.int .i64 m) HS.out ?_;go_frame;refine Frm.wb 3 74 (.bool true) HS.out ?_;go_frame;refine Frm.wa 4 75 (.bool true) HS.out ?_;go_frame;refine Frm.wa 5 76 (.slice A7 m c7) HS.out ?_;go_frame;refine Frm.wa 6 77 (.int .i64 k) HS.out ?_;go_frame;refine Frm.wb 7 78 (.slice (if c7=k then A7 else A7.map (·.add (k * 2))) (m-k) (c7-k)) HS.out ?_;go_frame;refine Frm.wa 10 81 (.pointer (some ⟨cr,0,none⟩)) HS.out ?_;go_frame;refine Frm.wb 11 82 (.pointer (some ⟨cr,0,none⟩)) HS.out ?_;go_frame;refine Frm.wb 12 83 (.pointer (some ⟨cr,0,none⟩)) HS.out ?_;go_frame;refine Frm.wd 13 84 (.pointer (some ⟨y,0,none⟩)) HS.out (fun w' hw'=> ?_) ?_
    ·have h1:=cell_at hw'.1 0;go_simp
    go_frame;refine Frm.wb 14 85 (.pointer (some ⟨y,0,none⟩)) HS.out ?_;go_frame;refine Frm.wb 15 86 (.pointer (some ⟨y,0,none⟩)) HS.out ?_;go_frame;refine Frm.wd 16 87 (.pointer (some ⟨r,0,none⟩)) HS.out (fun w' hw'=> ?_) ?_
    ·have h1:=Jou.yc0 hw'.2;go_simp
    go_frame;have HPD:=hid (packed_any u0 (m-k) (c7-k) (if c7=k then A7 else A7.map (·.add (k * 2))) (Lw.drop k) HN6.out.ns (by have:=HMN.out;omega) (fun q hq=>HZS.out q (List.mem_of_mem_drop hq)));refine Frm.wh_call 8 79 91 #[.slice (if c7=k then A7 else A7.map (·.add (k * 2))) (m-k) (c7-k)] rfl rfl (by kernel_rfl) rfl ?_ ?_
    ·go_simp
    refine HPD.out.mono ?_;rintro e u1 ⟨A9,c9,rfl,ho9,hb9⟩;obtain⟨m9,hm9⟩:∃m9,(Lw.drop k).length=m9:=⟨_,rfl⟩
    rw[hm9] at ho9 ⊢;have HM9:Hid (m9≤100001):=hid (by have:=HMN.out;have h2:=HLM.out;rw[List.length_drop,h2] at hm9;omega);clear hm9;have HR1:=hid (HRC.out.below hb9);have HS1:=hid (And.intro ((hb9.block _ (lt_of_heap HS.out.1)).trans HS.out.1) ((hb9.block _ (lt_of_heap HS.out.2)).trans HS.out.2));have HBD1:Hid (Below w5.heap.size w5 u1):=hid (HBD.out.trans (hb9.mono HBD.out.size));have HTK:=hid (Jou.rtakes_any u1 m9 c9 A9 ((Lw.drop k).map packE) (ho9.rows (S:=[]) (by simp)).rowl (by have:=HTT.out;have:=HTL.out;omega));rw[HTT.out] at HTK;have HRM:=hid (Jou.rroom_any u1 (y::cr::S) r bs bw d HR1.out.rj.disk (by have:=HR1.out.rj.n8;omega));unfold ptr at HRM;clear ho9 hb9 HPD HS HRC HBD HN6;have HS:=HS1;clear HS1;refine⟨_,rfl,HS.out,?_⟩;go_frame;refine Frm.wh_call 9 80 28 #[.slice A9 m9 c9] rfl rfl (by kernel_rfl) rfl ?_ ?_
    ·go_simp
    refine HTK.out.mono ?_;rintro e u2 ⟨rfl,rfl⟩;refine⟨_,rfl,HS.out,?_⟩;go_frame;clear HTK hslt;refine Frm.wh_call 17 88 30 #[.pointer (some ⟨r,0,none⟩)] rfl rfl (by kernel_rfl) rfl ?_ ?_
    ·go_simp
    refine HRM.out.mono ?_;rintro e u2 ⟨rfl,rfl⟩;refine⟨_,rfl,HS.out,?_⟩;go_frame;clear HRM;refine Frm.wb 18 89 (.bool true) HS.out ?_;go_frame;refine Frm.wb 19 90 (.bool true) HS.out ?_;go_frame;refine wpAnyH_done (by kernel_rfl) ?_ _;go_wp2_with fail;go_roundw
    case rel=>exact⟨k+1,by omega,by go_num,by
     have h1:=HSU.out;have h2:=HTT.out;rw[List.map_drop] at h1 h2;have h3:=(sur_step (l:=Lw.map packE) (r:=JourM.room d.n) (k:=k) (by rw[List.length_map,HLM.out];exact hlt) (by omega)).1;rw[List.map_drop];omega,HBD1.out⟩
    case measure=>simp[Go.RowKit.intOf];omega
   have HNK:Hid (k=nn):=hid (by
    have h1:=HSU.out;rw[sur_done (by have:=HTT.out;omega)] at h1;omega)
   go_upto_region 16 with fail;have HRC:Hid (RC wr.drew S cr y r bs bw d jr L ev0):=hid (HC5.out.below (HB.out.drew));have HN6:Hid (NsX wr.drew ([cr,y,r,bs,bw]++S) (if c7=k then A7 else A7.map (·.add (k * 2))) (m-k) (Lw.drop k)):=hid ((HN5.out.turn (Turn.ofBelow (S:=[]) HB.out.drew) (by simp)).drop hk HM7.out);have HS:Hid (wr.drew.heap[cr]? =some (r7obj y L.length c A ev0)∧wr.drew.heap[y]? =some (yobj r jr.gen Aj jr.gs.length cj jr.down)):=hid ⟨(HB.out.drew.block cr (lt_of_heap HS5.out.1)).trans HS5.out.1,(HB.out.drew.block y (lt_of_heap HS5.out.2)).trans HS5.out.2⟩;have HBD:Hid (Below w5.heap.size w5 wr.drew):=hid HB.out.drew;refine Frm.wh_start (fun u=>u.heap[cr]? =some (r7obj y L.length c A ev0)∧u.heap[y]? =some (yobj r jr.gen Aj jr.gs.length cj jr.down)) (by kernel_rfl) ?_;generalize wr.drew=u0 at *;have hslt:=fun u=>run_from7 u A7 m c7 k hk;refine Frm.wa 0 71 (.int .i64 k) HS.out ?_;go_frame;refine Frm.wa 1 72 (.slice A7 m c7) HS.out ?_;go_frame;refine Frm.wb 2 73 (.int .i64 m) HS.out ?_;go_frame;refine Frm.wb 3 74 (.bool true) HS.out ?_;go_frame;refine Frm.wa 4 75 (.bool true) HS.out ?_;go_frame;refine Frm.wa 5 76 (.slice A7 m c7) HS.out ?_;go_frame;refine Frm.wa 6 77 (.int .i64 k) HS.out ?_;go_frame;refine Frm.wb 7 78 (.slice (if c7=k then A7 else A7.map (·.add (k * 2))) (m-k) (c7-k)) HS.out ?_;go_frame;refine Frm.wa 10 81 (.pointer (some ⟨cr,0,none⟩)) HS.out ?_;go_frame;refine Frm.wb 11 82 (.pointer (some ⟨cr,0,none⟩)) HS.out ?_;go_frame;refine Frm.wb 12 83 (.pointer (some ⟨cr,0,none⟩)) HS.out ?_;go_frame;refine Frm.wd 13 84 (.pointer (some ⟨y,0,none⟩)) HS.out (fun w' hw'=> ?_) ?_
   ·have h1:=cell_at hw'.1 0;go_simp
   go_frame;refine Frm.wb 14 85 (.pointer (some ⟨y,0,none⟩)) HS.out ?_;go_frame;refine Frm.wb 15 86 (.pointer (some ⟨y,0,none⟩)) HS.out ?_;go_frame;refine Frm.wd 16 87 (.pointer (some ⟨r,0,none⟩)) HS.out (fun w' hw'=> ?_) ?_
   ·have h1:=Jou.yc0 hw'.2;go_simp
   go_frame;have HPD:=hid (packed_any u0 (m-k) (c7-k) (if c7=k then A7 else A7.map (·.add (k * 2))) (Lw.drop k) HN6.out.ns (by have:=HMN.out;omega) (fun q hq=>HZS.out q (List.mem_of_mem_drop hq)));refine Frm.wh_call 8 79 91 #[.slice (if c7=k then A7 else A7.map (·.add (k * 2))) (m-k) (c7-k)] rfl rfl (by kernel_rfl) rfl ?_ ?_
   ·go_simp
   refine HPD.out.mono ?_;rintro e u1 ⟨A9,c9,rfl,ho9,hb9⟩;obtain⟨m9,hm9⟩:∃m9,(Lw.drop k).length=m9:=⟨_,rfl⟩
   rw[hm9] at ho9 ⊢;have HM9:Hid (m9≤100001):=hid (by have:=HMN.out;have h2:=HLM.out;rw[List.length_drop,h2] at hm9;omega);clear hm9;have HR1:=hid (HRC.out.below hb9);have HS1:=hid (And.intro ((hb9.block _ (lt_of_heap HS.out.1)).trans HS.out.1) ((hb9.block _ (lt_of_heap HS.out.2)).trans HS.out.2));have HBD1:Hid (Below w5.heap.size w5 u1):=hid (HBD.out.trans (hb9.mono HBD.out.size));have HTK:=hid (Jou.rtakes_any u1 m9 c9 A9 ((Lw.drop k).map packE) (ho9.rows (S:=[]) (by simp)).rowl (by have:=HTT.out;have:=HTL.out;omega));rw[HTT.out] at HTK;have HRM:=hid (Jou.rroom_any u1 (y::cr::S) r bs bw d HR1.out.rj.disk (by have:=HR1.out.rj.n8;omega));unfold ptr at HRM;clear ho9 hb9 HPD HS HRC HBD HN6;have HS:=HS1;clear HS1;refine⟨_,rfl,HS.out,?_⟩;go_frame;refine Frm.wh_call 9 80 28 #[.slice A9 m9 c9] rfl rfl (by kernel_rfl) rfl ?_ ?_
   ·go_simp
   refine HTK.out.mono ?_;rintro e u2 ⟨rfl,rfl⟩;refine⟨_,rfl,HS.out,?_⟩;go_frame;clear HTK hslt;refine Frm.wh_call 17 88 30 #[.pointer (some ⟨r,0,none⟩)] rfl rfl (by kernel_rfl) rfl ?_ ?_
   ·go_simp
   refine HRM.out.mono ?_;rintro e u2 ⟨rfl,rfl⟩;refine⟨_,rfl,HS.out,?_⟩;go_frame;clear HRM;refine Frm.wb 18 89 (.bool false) HS.out ?_;go_frame;refine Frm.wb 19 90 (.bool false) HS.out ?_;go_frame;refine wpAnyH_done (by kernel_rfl) ?_ _;obtain⟨z,hz⟩:∃z,rstE d jr ((Lw.drop k).map packE)=z:=⟨_,rfl⟩
   have HZE:=hid hz;have hne:¬k=m:=by omega
   have hfe:fuE d jr Lw k=z:=by unfold fuE;rw[if_neg (by rw[HLM.out];exact hne)];exact hz
   have HFP:Hid (fuE d jr Lw nn=z∧fuD d jr Lw nn=rstD d jr ((Lw.drop k).map packE)∧fuJ d jr Lw nn=rstJ d jr ((Lw.drop k).map packE)∧fuL d jr L Lw nn=(if z=0 then Lw.drop k else L)∧fuV d jr Lw nn ev0=(if z=0 then ev0+k else ev0)):=hid (by
    rw[←HNK.out];exact⟨hfe,by unfold fuD;rw[if_neg (by rw[HLM.out];exact hne)],by unfold fuJ;rw[if_neg (by rw[HLM.out];exact hne)],by unfold fuL;rw[hfe],by unfold fuV;rw[hfe]⟩)
   have HZ4:Hid (z=0∨z=1∨z=2∨z=3):=hid (by
    rcases Jou.rst_parts d jr ((Lw.drop k).map packE) with⟨_,q,_⟩|⟨_,_,q,_⟩|⟨_,_,_,q,_⟩|⟨_,_,_,_,q,_⟩|⟨_,_,_,_,q,_⟩<;>rw[hz] at q<;>omega)
   clear hz hfe HSU HTT HTL hTi HNN HNK hgt HS5 HB;go_upto_region 20 with fail;have HS5:=HS;have hk':=hk;have HBX:Hid (Below w5.heap.size w5 u1):=HBD1;have HRC:Hid (RC u1.drew S cr y r bs bw d jr L ev0):=hid (HR1.out.below (Below.refl u1.heap.size u1).drew);have HN6:Hid (NsX u1.drew ([cr,y,r,bs,bw]++S) (if c7=k then A7 else A7.map (·.add (k * 2))) (m-k) (Lw.drop k)):=hid ((HN5.out.turn (Turn.ofBelow (S:=[]) HBD1.out.drew) (by simp)).drop hk HM7.out);have HBD:Hid (Below w5.heap.size w5 u1.drew):=hid HBD1.out.drew;have HSD:Hid (u1.drew.heap[cr]? =some (r7obj y L.length c A ev0)∧u1.drew.heap[y]? =some (yobj r jr.gen Aj jr.gs.length cj jr.down)):=hid HS.out;clear HS HS5 hk' HBX HR1 HBD1;have HS:=HSD;clear HSD;refine Frm.wh_start (fun u=>u.heap[cr]? =some (r7obj y L.length c A ev0)) (by kernel_rfl) ?_;generalize u1.drew=u0 at *;have hslt:=fun u=>run_from7 u A7 m c7 k hk;have HN6':=HN6;have HSQ:Hid (u0.heap[cr]? =some (r7obj y L.length c A ev0)):=hid HS.out.1;have HS2:=HS;clear HS;have HS:=HSQ;clear HSQ HS2 HN6';refine Frm.wa 0 97 (.pointer (some ⟨cr,0,none⟩)) HS.out ?_;go_frame;refine Frm.wb 1 98 (.pointer (some ⟨cr,0,none⟩)) HS.out ?_;go_frame;refine Frm.wb 2 99 (.pointer (some ⟨cr,0,none⟩)) HS.out ?_;go_frame;refine Frm.wd 3 100 (.pointer (some ⟨y,0,none⟩)) HS.out (fun w' hw'=> ?_) ?_
   ·have h1:=cell_at hw' 0;go_simp
   go_frame;refine Frm.wa 4 101 (.slice A7 m c7) HS.out ?_;go_frame;refine Frm.wa 5 102 (.int .i64 k) HS.out ?_;go_frame;refine Frm.wb 6 103 (.slice (if c7=k then A7 else A7.map (·.add (k * 2))) (m-k) (c7-k)) HS.out ?_;go_frame;have HPD:=hid (packed_any u0 (m-k) (c7-k) (if c7=k then A7 else A7.map (·.add (k * 2))) (Lw.drop k) HN6.out.ns (by have:=HMN.out;omega) (fun q hq=>HZS.out q (List.mem_of_mem_drop hq)));refine Frm.wh_call 7 104 91 #[.slice (if c7=k then A7 else A7.map (·.add (k * 2))) (m-k) (c7-k)] rfl rfl (by kernel_rfl) rfl ?_ ?_
   ·go_simp
   refine HPD.out.mono ?_;rintro e u1 ⟨A9,c9,rfl,ho9,hb9⟩;obtain⟨m9,hm9⟩:∃m9,(Lw.drop k).length=m9:=⟨_,rfl⟩
   rw[hm9] at ho9 ⊢;have HM9:Hid (m9≤100001):=hid (by have:=HMN.out;have h2:=HLM.out;rw[List.length_drop,h2] at hm9;omega);clear hm9;have HR1:=hid (HRC.out.below hb9);have HS1:Hid (u1.heap[cr]? =some (r7obj y L.length c A ev0)):=hid ((hb9.block _ (lt_of_heap HS.out)).trans HS.out);have HBD1:Hid (Below w5.heap.size w5 u1):=hid (HBD.out.trans (hb9.mono HBD.out.size));have HRS:=hid (Jou.rreset_any u1 (cr::S) y r bs bw d jr m9 c9 A9 ((Lw.drop k).map packE) HR1.out.rj (fun q hq=>(Nat.lt_of_lt_of_le (HL5.out q ((List.mem_cons.1 hq).elim (fun e=>by rw[e];simp) (fun e=>List.mem_append_right _ e))) HBD1.out.size)) (ho9.rows (fun q hq=>Nat.lt_of_lt_of_le (HL5.out q (List.mem_append_left _ (List.mem_cons_of_mem _ hq))) HBD.out.size)) (by have:=HM9.out;omega) HGN.out);rw[HZE.out] at HRS;unfold ptr at HRS;have HNW:Hid (NsX u1 ([cr,y,r,bs,bw]++S) (if c7=k then A7 else A7.map (·.add (k * 2))) (m-k) (Lw.drop k)):=hid (HN6.out.turn (Turn.ofBelow (S:=[]) hb9) (by simp));have HTU:Hid (Turn [cr,y,r,bs,bw] w u1):=hid (HT5.out.below HBD1.out);clear ho9 hb9 HPD HS HRC HBD HN6;have HS:=HS1;clear HS1;refine⟨_,rfl,HS.out,?_⟩;go_frame;refine Frm.wh_call 8 105 18 #[.pointer (some ⟨y,0,none⟩),.slice A9 m9 c9] rfl rfl (by kernel_rfl) rfl ?_ ?_
   ·go_simp
   refine HRS.out.mono ?_;rintro e u6 ⟨rfl,hj6,ht6⟩;have HC6:Hid (RC u6 S cr y r bs bw (rstD d jr ((Lw.drop k).map packE)) (rstJ d jr ((Lw.drop k).map packE)) L ev0):=hid (HR1.out.jour hj6 ht6);have HT6:Hid (Turn [cr,y,r,bs,bw] w u6):=hid (HTU.out.then_ ht6 (fun q hq=> .inl (List.mem_cons_of_mem _ hq)));have HN7:Hid (NsX u6 ([cr,y,r,bs,bw]++S) (if c7=k then A7 else A7.map (·.add (k * 2))) (m-k) (Lw.drop k)):=hid (HNW.out.turn ht6 (fun q hq=> .inl (List.mem_append_left _ (List.mem_cons_of_mem _ hq))));have HS6:Hid (u6.heap[cr]? =some (r7obj y L.length c A ev0)):=hid ((ht6.block cr (lt_of_heap HS.out) (fun hm=>HR1.out.out (List.mem_append_left _ hm))).trans HS.out);clear HS HR1 HNW HTU HRS ht6 hj6 HBD1 HM9;have HS:=HS6;clear HS6;refine⟨_,rfl,HS.out,?_⟩;go_frame;refine Frm.wa 9 10 (.int .i64 z) HS.out ?_;go_frame;refine wpAnyH_done (by kernel_rfl) ?_ _;rcases HZ4.out with rfl|rfl|rfl|rfl
   ·go_upto_region 22 with fail;obtain⟨hc7,ht7,hh7⟩:=HC6.out.storeX HN7.out (c':=c7-k) (by have:=HM7.out;omega);have HC7:=hid hc7;have HT7:=hid (HT6.out.then_ ht7 (fun q hq=> .inl hq));have HH7:=hid hh7;have f1:=free_at HS.out 1;have k1:=cell_at HS.out 1;have hslt:=fun u=>run_from7 u A7 m c7 k hk;clear hc7 ht7 hh7 HN7 HC6 HT6;go_upto_region 23 with fail;clear f1 k1 hslt HS;generalize u6.setCell ⟨cr,1,none⟩ (.slice (if c7=k then A7 else A7.map (·.add (k * 2))) (m-k) (c7-k))=w7 at *;obtain⟨hc8,ht8⟩:=HC7.out.evict (ev0+k);have HC8:=hid hc8;have HT8:=hid (HT7.out.then_ ht8 (fun q hq=> .inl hq));have f2:=free_at HH7.out 2;have k2:=cell_at HH7.out 2;have hev:=HEV.out;clear hc8 ht8 HC7 HT7 HH7;go_wp2_with fail;all_goals (go_ret;show RPut (fuE d jr Lw nn) w S cr y r bs bw (fuD d jr Lw nn) (fuJ d jr Lw nn) (fuL d jr L Lw nn) (fuV d jr Lw nn ev0) _ _;rw[HFP.out.1,HFP.out.2.1,HFP.out.2.2.1,HFP.out.2.2.2.1,HFP.out.2.2.2.2];exact⟨rfl,by rw[if_pos trivial,if_pos trivial];exact HC8.out,HT8.out⟩)
   ·go_wp2_with fail;all_goals (go_ret;show RPut (fuE d jr Lw nn) w S cr y r bs bw (fuD d jr Lw nn) (fuJ d jr Lw nn) (fuL d jr L Lw nn) (fuV d jr Lw nn ev0) _ _;rw[HFP.out.1,HFP.out.2.1,HFP.out.2.2.1,HFP.out.2.2.2.1,HFP.out.2.2.2.2];exact⟨rfl,HC6.out,HT6.out⟩)
   ·go_wp2_with fail;all_goals (go_ret;show RPut (fuE d jr Lw nn) w S cr y r bs bw (fuD d jr Lw nn) (fuJ d jr Lw nn) (fuL d jr L Lw nn) (fuV d jr Lw nn ev0) _ _;rw[HFP.out.1,HFP.out.2.1,HFP.out.2.2.1,HFP.out.2.2.2.1,HFP.out.2.2.2.2];exact⟨rfl,HC6.out,HT6.out⟩)
   go_wp2_with fail;all_goals (go_ret;show RPut (fuE d jr Lw nn) w S cr y r bs bw (fuD d jr Lw nn) (fuJ d jr Lw nn) (fuL d jr L Lw nn) (fuV d jr Lw nn ev0) _ _;rw[HFP.out.1,HFP.out.2.1,HFP.out.2.2.1,HFP.out.2.2.2.1,HFP.out.2.2.2.2];exact⟨rfl,HC6.out,HT6.out⟩)
  obtain rfl:k=m:=by omega
  have HNK:Hid (k=nn):=hid (by
   have h1:=HSU.out;rw[List.drop_of_length_le (by rw[HLM.out];exact Nat.le_refl _)] at h1;simpa [sur] using h1)
  have hfe:fuE d jr Lw k=2:=by unfold fuE;rw[if_pos HLM.out.symm]
  have HFP:Hid (fuE d jr Lw nn=2∧fuD d jr Lw nn=d∧fuJ d jr Lw nn=jr∧fuL d jr L Lw nn=L∧fuV d jr Lw nn ev0=ev0):=hid (by
   rw[←HNK.out];exact⟨hfe,by unfold fuD;rw[if_pos HLM.out.symm],by unfold fuJ;rw[if_pos HLM.out.symm],by unfold fuL;rw[hfe];rfl,by unfold fuV;rw[hfe];rfl⟩)
  clear hfe;clear HSU HNK;go_upto_region 16 with fail;have HRC:Hid (RC wr.drew S cr y r bs bw d jr L ev0):=hid (HC5.out.below (HB.out.drew));have HN6:Hid (NsX wr.drew ([cr,y,r,bs,bw]++S) (if c7=k then A7 else A7.map (·.add (k * 2))) (k-k) (Lw.drop k)):=hid ((HN5.out.turn (Turn.ofBelow (S:=[]) HB.out.drew) (by simp)).drop hk HM7.out);have HS:Hid (wr.drew.heap[cr]? =some (r7obj y L.length c A ev0)∧wr.drew.heap[y]? =some (yobj r jr.gen Aj jr.gs.length cj jr.down)):=hid ⟨(HB.out.drew.block cr (lt_of_heap HS5.out.1)).trans HS5.out.1,(HB.out.drew.block y (lt_of_heap HS5.out.2)).trans HS5.out.2⟩;have HBD:Hid (Below w5.heap.size w5 wr.drew):=hid HB.out.drew;refine Frm.wh_start (fun u=>u.heap[cr]? =some (r7obj y L.length c A ev0)∧u.heap[y]? =some (yobj r jr.gen Aj jr.gs.length cj jr.down)) (by kernel_rfl) ?_;generalize wr.drew=u0 at *;clear HN6;refine Frm.wa 0 71 (.int .i64 k) HS.out ?_;go_frame;refine Frm.wa 1 72 (.slice A7 k c7) HS.out ?_;go_frame;refine Frm.wb 2 73 (.int .i64 k) HS.out ?_;go_frame;refine Frm.wb 3 74 (.bool false) HS.out ?_;go_frame;refine Frm.wa 4 75 (.bool false) HS.out ?_;go_frame;refine Frm.wq 5 76 HS.out ?_;go_frame;refine Frm.wq 6 77 HS.out ?_;go_frame;refine Frm.wq 7 78 HS.out ?_;go_frame;refine Frm.wq 8 79 HS.out ?_;go_frame;refine Frm.wq 9 80 HS.out ?_;go_frame;refine Frm.wq 10 81 HS.out ?_;go_frame;refine Frm.wq 11 82 HS.out ?_;go_frame;refine Frm.wq 12 83 HS.out ?_;go_frame;refine Frm.wq 13 84 HS.out ?_;go_frame;refine Frm.wq 14 85 HS.out ?_;go_frame;refine Frm.wq 15 86 HS.out ?_;go_frame;refine Frm.wq 16 87 HS.out ?_;go_frame;refine Frm.wq 17 88 HS.out ?_;go_frame;refine Frm.wq 18 89 HS.out ?_;go_frame;refine Frm.wb 19 90 (.bool false) HS.out ?_;go_frame;refine wpAnyH_done (by kernel_rfl) ?_ _;have HTF:=hid (HT5.out.below HBD.out);go_wp2_with fail;go_ret;show RPut (fuE d jr Lw nn) w S cr y r bs bw (fuD d jr Lw nn) (fuJ d jr Lw nn) (fuL d jr L Lw nn) (fuV d jr Lw nn ev0) _ _;rw[HFP.out.1,HFP.out.2.1,HFP.out.2.2.1,HFP.out.2.2.2.1,HFP.out.2.2.2.2];exact⟨rfl,HRC.out,HTF.out⟩
end
end Go.Proofs.YtdjhlhellkajfaaGreat.Cch
namespace Go.Proofs.YtdjhlhellkajfaaGreat.Cch
open Go.RowKit Codec Cod
open Disk (Turn Dk Dsk ptr)
open JourM (Jr takes takes1 room appE appD appJ rstE rstD rstJ)
theorem takes_filter(p:Ent→Bool):∀L:List Ent,takes ((L.filter p).map packE)≤takes (L.map packE)
 |[]=>Nat.le_refl _
 |x::L=>by
  have ih:=takes_filter p L;rw[List.filter_cons];split
  ·show takes1 _+_≤takes1 _+_;omega
  show _≤takes1 _+_;omega
theorem un_size{x:List UInt8}(h:unB x=true):sizeE (unE x)=x.length:=by
 unfold unE;rw[if_pos h];unfold unB at h;simp only[Bool.and_eq_true,decide_eq_true_eq] at h;obtain⟨h1,h2,h3⟩:=h;unfold sizeE baOf ByteArray.size;simp only[List.size_toArray,List.length_take,List.length_drop];omega
theorem un_takes{x:List UInt8}(h:unB x=true):takes1 (packE (unE x))=takes1 x:=by
 unfold takes1;rw[packE_length,un_size h]
theorem pk_le0:∀(gs:List (List UInt8)) (L0:List Ent),(∀x∈gs,unB x=true)→takes (((gs.map unE).foldl withE L0).map packE)≤takes (L0.map packE)+takes gs
 |[],L0,_=>Nat.le_add_right _ _
 |b::gs,L0,h=>by
  have ih:=pk_le0 gs (withE L0 (unE b)) (fun x hx=>h x (List.mem_cons_of_mem _ hx));have e:takes ((withE L0 (unE b)).map packE)=takes ((L0.filter fun x=>decide (x.k≠(unE b).k)).map packE)+takes1 (packE (unE b)):=by
   unfold withE;rw[List.map_append];exact takes_snoc _ _
  have h2:=takes_filter (fun x=>decide (x.k≠(unE b).k)) L0;have h3:=un_takes (h b (by simp));have h4:takes (b::gs)=takes1 b+takes gs:=rfl;show takes (((gs.map unE).foldl withE (withE L0 (unE b))).map packE)≤_;omega
theorem pk_le(gs:List (List UInt8))(h:∀x∈gs,unB x=true):takes ((foldE gs).map packE)≤takes gs:=by
 have:=pk_le0 gs [] h;have e:takes (([]:List Ent).map packE)=0:=rfl;rw[e,Nat.zero_add] at this;exact this
theorem foldl_with:∀(l L0:List Ent),(L0++l).Pairwise (fun a b=>a.k≠b.k)→l.foldl withE L0=L0++l
 |[],L0,_=>by simp
 |e::l,L0,h=>by
  have e1:withE L0 e=L0++[e]:=by
   unfold withE;rw[List.filter_eq_self.2];intro x hx;have:=(List.pairwise_append.1 h).2.2 x hx e (by simp);simpa using this
  rw[List.foldl_cons,e1,foldl_with l (L0++[e]) (by simpa using h)];simp
theorem un_packs:∀(L:List Ent),(∀x∈L,x.k.size<9223372036854775808)→(L.map packE).map unE=L
 |[],_=>rfl
 |x::L,hk=>by
  have ih:=un_packs L (fun y hy=>hk y (List.mem_cons_of_mem _ hy));have e:=unE_pack x (hk x (by simp));rw[List.map_cons,List.map_cons,ih,e]
theorem foldE_pack{L:List Ent}(h:L.Pairwise fun a b=>a.k≠b.k)(hk:∀x∈L,x.k.size<9223372036854775808):foldE (L.map packE)=L:=by
 unfold foldE;rw[un_packs L hk,foldl_with L [] (by rw[List.nil_append];exact h),List.nil_append]
theorem ents_cut(N:List Nmb)(key:ByteArray):ents (cut N key)=Els.cut (ents N) key:=by
 unfold ents cut Els.cut;rw[List.filter_map];rfl
def cutAllE (l:List Ent) (X:List Ent):List Ent:=X.foldl (fun l y=>Els.cut l y.k) l
theorem ents_cutAll:∀(X:List Ent) (N:List Nmb),ents (cutAll N X)=cutAllE (ents N) X
 |[],_=>rfl
 |x::X,N=>by
  show ents (cutAll (cut N x.k) X)=cutAllE (Els.cut (ents N) x.k) X;rw[ents_cutAll X,ents_cut]
theorem cut_comm(l:List Ent)(a b:ByteArray):Els.cut (Els.cut l a) b=Els.cut (Els.cut l b) a:=by
 unfold Els.cut;rw[List.filter_filter,List.filter_filter];congr 1;funext x;rw[Bool.and_comm]
theorem cut_cutAll(key:ByteArray):∀(X l:List Ent),Els.cut (cutAllE l X) key=cutAllE (Els.cut l key) X
 |[],_=>rfl
 |x::X,l=>by
  show Els.cut (cutAllE (Els.cut l x.k) X) key=cutAllE (Els.cut (Els.cut l key) x.k) X;rw[cut_cutAll key X,cut_comm]
theorem cutAll_drop:∀(go:Nat) (l:List Ent),l.Pairwise (fun a b=>a.k≠b.k)→cutAllE l (l.take go)=l.drop go
 |0,_,_=>rfl
 |go+1,[],_=>rfl
 |go+1,x::l,h=>by
  obtain⟨h1,h2⟩:=List.pairwise_cons.1 h;have e:Els.cut (x::l) x.k=l:=by
   unfold Els.cut;rw[List.filter_cons_of_neg (by simp),List.filter_eq_self.2];intro y hy;simpa using fun e=>h1 y hy e.symm
  show cutAllE (Els.cut (x::l) x.k) (l.take go)=l.drop go;rw[e,cutAll_drop go l h2]
theorem evicted{N:List Nmb}{last go:Nat}(e:Ent)(h:Nice N last)(hgo:go≤(Els.cut (ents N) e.k).length):ents (lay (cutAll N ((Els.cut (ents N) e.k).take go)) last e)=(withE (ents N) e).drop go:=by
 have hp:(Els.cut (ents N) e.k).Pairwise (fun a b=>a.k≠b.k):=(nice_ents h).filter _;rw[ents_lay];show Els.cut (ents (cutAll N _)) e.k++[e]=(Els.cut (ents N) e.k++[e]).drop go;rw[ents_cutAll,cut_cutAll,cutAll_drop go _ hp,List.drop_append_of_le_length hgo]
theorem nice_cutAll{last:Nat}:∀(X:List Ent) (N:List Nmb),Nice N last→Nice (cutAll N X) last
 |[],_,h=>h
 |x::X,N,h=>nice_cutAll X (cut N x.k) (nice_cut h x.k)
structure Inv (nS:Nat) (d:Dsk) (jr:Jr) (N:List Nmb) (last:Nat) (ev:Int) (K:Nat):Prop where
 pi:PI d jr (1+K)
 n:d.n=nS
 is:ents N=foldE jr.gs
 nice:Nice N last
 fit:takes jr.gs≤room d.n
 lst:last≤100+K
 ev0:0≤ev
 ev1:ev≤100 * K
section
variable {nS K last:Nat} {d:Dsk} {jr:Jr} {N:List Nmb} {ev:Int}
theorem Inv.mono(I:Inv nS d jr N last ev K):Inv nS d jr N last ev (K+1):=
 ⟨I.pi.mono (by omega),I.n,I.is,I.nice,I.fit,by have:=I.lst;omega,I.ev0,by have:=I.ev1;omega⟩
theorem Inv.len(I:Inv nS d jr N last ev K)(hn:nS≤200):N.length≤99∧jr.gs.length≤99∧takes ((ents N).map packE)≤99∧room d.n≤99:=by
 have h1:=JourM.takes_length jr.gs;have h2:=I.fit;have h3:room d.n≤99:=by rw[I.n];unfold room;omega
 have h4:=pk_le jr.gs I.pi.un;rw[←I.is] at h4;have h5:=JourM.takes_length ((ents N).map packE);unfold ents at h5;simp only[List.length_map] at h5;unfold ents at h4 ⊢;exact⟨by omega,by omega,by omega,h3⟩
theorem Inv.small(I:Inv nS d jr N last ev K)(hn:nS≤200):∀x∈ents N,x.k.size≤6400∧x.v.size≤6400:=fun x hx=>by
 have h1:=takes_mem (List.mem_map_of_mem (f:=packE) hx);have h2:=(I.len hn).2.2.1;unfold takes1 at h1;rw[packE_length] at h1;unfold FrameM.need sizeE at h1;omega
theorem put_both(I:Inv nS d jr N last ev K)(hn:nS≤200)(hK:K≤60)(e:Ent)(he:e.k.size≤500∧e.v.size≤1000):
  ∃(z:Int) (d':Dsk) (jr':Jr) (N':List Nmb) (last':Nat) (ev':Int),Inv nS d' jr' N' last' ev' (K+1)∧
   (∀{w:World} {c lo b lj j g gs gm:Nat} {v:Value},Ch w c lo b lj j g gs gm d jr v N last ev→Calls Tryz.prog 41 #[ptr c,.string e.k,.string e.v] w (Putted w c lo b lj j g gs gm v z d' jr' N' last' ev'))∧
   (∀{w:World} {S:List Nat} {cr y r bs bw:Nat},RC w S cr y r bs bw d jr (ents N) ev→(∀q∈S,q<w.heap.size)→Calls Tryz.prog 42 #[ptr cr,.string e.k,.string e.v] w (RPut z w S cr y r bs bw d' jr' (ents N') ev')):=by
 obtain⟨l1,l2,l3,l4⟩:=I.len hn;have hsm:=I.small hn;have hsz:sizeE e≤1048576:=by unfold sizeE;omega
 have hlen:(ents N).length≤99:=by unfold ents;rw[List.length_map];exact l1
 have hL:=I.lst;have hun:=unB_pack e (by omega);have hgn:jr.gen+1<9223372036854775807:=by have:=I.pi.gen;omega
 cases hdn:jr.down with
 |true=>
  refine⟨3,d,jr,N,last,ev,I.mono,fun h=> ?_,fun h hS=> ?_⟩
  ·exact(cput_down h e hdn).mono fun x w' ⟨h1,hb⟩=>⟨h1,_,h.below hb,FrC.of_below hb,fun r hr=> .inl hr⟩
  exact(rput_down h e hdn).mono fun x w' ⟨h1,hb⟩=>⟨h1,h.below hb,Turn.ofBelow hb⟩
 |false=>
  by_cases hsame:fndB N e.k=true∧fndE N e.k=e
  ·have hf:fnd (ents N) e.k=some e:=by
    have h1:=hsame.1;rw[fndB_of] at h1;obtain⟨f,hf⟩:=Option.isSome_iff_exists.1 h1;rw[hf,←fndE_of hf,hsame.2]
   refine⟨0,d,jr,N,last,ev,I.mono,fun h=> ?_,fun h hS=> ?_⟩
   ·exact(cput_same h (by omega) e (by omega) hsz hdn hsame.1 hsame.2).mono fun x w' ⟨h1,hb⟩=>⟨h1,_,h.below hb,FrC.of_below hb,fun r hr=> .inl hr⟩
   exact rput_same h hS (by omega) e (by omega) hsz hdn e hf rfl
  have hfne:fndB N e.k=true→(fndE N e.k).k=e.k∧(fndE N e.k).v≠e.v:=fun hb=>⟨fndE_key hb,fun hv=>hsame ⟨hb,by
   have:=fndE_key hb;cases hfe:fndE N e.k with
   |mk fk fv=>rw[hfe] at this hv;cases e;simp only at *;rw[this,hv]⟩⟩
  have hfd:∀x,fnd (ents N) e.k=some x→x.v≠e.v:=fun x hx=>by
   have h1:fndB N e.k=true:=by rw[fndB_of,hx];rfl
   have h2:=(hfne h1).2;rw[fndE_of hx] at h2;exact h2
  by_cases hz2:appE d jr (packE e)=2
  ·by_cases hr:takes1 (packE e)≤room d.n
   ·have hr:takes1 (packE e)≤room d.n:=hr;obtain⟨os,hos⟩:∃os,Els.cut (ents N) e.k=os:=⟨_,rfl⟩
    obtain⟨pk,hpk⟩:∃pk,os.map packE=pk:=⟨_,rfl⟩
    obtain⟨go,hgo⟩:∃go,sur pk (room d.n-takes1 (packE e))=go:=⟨_,rfl⟩
    obtain⟨z,hz⟩:∃z,rstE d jr (pk.drop go++[packE e])=z:=⟨_,rfl⟩
    have hpl:pk.length=os.length:=by rw[←hpk,List.length_map]
    have hol:os.length≤99:=by
     have:=List.length_filter_le (fun x=>decide (x.k≠e.k)) (ents N);rw[←hos];unfold Els.cut;omega
    have hgl:go≤pk.length:=by rw[←hgo];exact sur_le _ _
    have htk:takes pk≤99:=by
     have:=takes_filter (fun x=>decide (x.k≠e.k)) (ents N);rw[←hpk,←hos];unfold Els.cut;omega
    have hW:withE (ents N) e=os++[e]:=by rw[←hos];rfl
    have hWp:(withE (ents N) e).map packE=pk++[packE e]:=by rw[hW,List.map_append,hpk];rfl
    have hWl:(withE (ents N) e).length=os.length+1:=by rw[hW,List.length_append];rfl
    have hWd:((withE (ents N) e).drop go).map packE=pk.drop go++[packE e]:=by
     rw[List.map_drop,hWp,List.drop_append_of_le_length hgl]
    have hne:¬go=(withE (ents N) e).length:=by omega
    have hp1:takes1 (packE e)≤25:=takes_pack he;refine⟨z,rstD d jr (pk.drop go++[packE e]),rstJ d jr (pk.drop go++[packE e]),putN z (renN z N (os.take go)) last e,putL z last,renV z ev go,?_,fun h=> ?_,fun h hS=> ?_⟩
    ·have hub:∀x∈pk.drop go++[packE e],unB x=true:=fun x hx=>by
      rcases List.mem_append.1 hx with h1|h1
      ·have h2:=List.mem_of_mem_drop h1;rw[←hpk] at h2;obtain⟨y,hy,rfl⟩:=List.mem_map.1 h2;rw[←hos] at hy;have:=hsm y (List.mem_filter.1 hy).1;exact unB_pack y (by omega)
      rw[List.mem_singleton.1 h1];exact hun
     have hpi:=(I.pi.rst (by omega) hub).mono (show 1+K+1≤1+(K+1) by omega);have hdd:=JourM.rstD_n d jr (pk.drop go++[packE e]);have h0:=I.ev0;have h1:=I.ev1;have hst:∀(jr1:Jr),jr1.gs=jr.gs→rstJ d jr (pk.drop go++[packE e])=jr1→z≠0→Inv nS (rstD d jr (pk.drop go++[packE e])) (rstJ d jr (pk.drop go++[packE e])) (putN z (renN z N (os.take go)) last e) (putL z last) (renV z ev go) (K+1):=fun jr1 hg hJ hzz=>by
      have e1:putN z (renN z N (os.take go)) last e=N:=by unfold putN renN;rw[if_neg hzz,if_neg hzz]
      have e2:putL z last=last:=by unfold putL;rw[if_neg hzz]
      have e3:renV z ev go=ev:=by unfold renV;rw[if_neg hzz]
      rw[e1,e2,e3];refine⟨hpi,by rw[hdd,I.n],by rw[hJ,hg];exact I.is,I.nice,by rw[hdd,hJ,hg];exact I.fit,by omega,h0,by omega⟩
     rcases Jou.rst_parts d jr (pk.drop go++[packE e]) with⟨_,q,hD,hJ⟩|⟨_,_,q,hD,hJ⟩|⟨_,_,_,q,hD,hJ⟩|⟨_,_,hf,_,q,hD,hJ⟩|⟨_,_,hf,_,q,hD,hJ⟩
     ·exact hst _ rfl hJ (by rw[←hz,q];decide)
     ·exact hst _ rfl hJ (by rw[←hz,q];decide)
     ·exact hst _ rfl hJ (by rw[←hz,q];decide)
     ·exact hst {jr with down:=true} rfl hJ (by rw[←hz,q];decide)
     have hz0:z=0:=by rw[←hz,q]
     subst hz0;have hev:=evicted (go:=go) (last:=last) e I.nice (by rw[hos];omega);rw[hos] at hev;refine⟨hpi,by rw[hdd,I.n],?_,nice_lay (nice_cutAll _ _ I.nice) e,by rw[hdd,hJ];exact hf,by show last+1≤_;omega,by show 0≤ev+go;omega,by show ev+go≤_;omega⟩;rw[hJ];show ents (lay (cutAll N (os.take go)) last e)=foldE (pk.drop go++[packE e]);rw[hev,←hWd,foldE_pack]
     ·have hp:=nice_ents (nice_lay I.nice e);rw[ents_lay] at hp;exact hp.sublist (List.drop_sublist _ _)
     intro x hx;have h2:=List.mem_of_mem_drop hx;rw[hW] at h2;rcases List.mem_append.1 h2 with h3|h3
     ·rw[←hos] at h3;have:=hsm x (List.mem_filter.1 h3).1;omega
     rw[List.mem_singleton.1 h3];omega
    ·refine cput_ren h (by omega) (by omega) e (by omega) hsz hdn hfne hz2 z _ _ _ _ ?_ fun u v' hu=>renew_any hu (by omega) e ⟨by omega,by omega⟩ (fun x hx=>by have:=hsm x hx;exact⟨by omega,by omega⟩) hr os hos pk hpk (by omega) go hgo hgn ⟨I.ev0,by have:=I.ev1;omega⟩ z hz;unfold renN;split
     ·have:=cutAll_le (os.take go) N;omega
     omega
    have hf:=rput_full h hS (by omega) e (by omega) hsz hdn hfd hz2 ⟨I.ev0,by have:=I.ev1;omega⟩ hgn (fun x hx=>by
     rw[hW] at hx;rcases List.mem_append.1 hx with h3|h3
     ·rw[←hos] at h3;have:=hsm x (List.mem_filter.1 h3).1;omega
     ·rw[List.mem_singleton.1 h3];omega) (by rw[hWp,takes_snoc];omega) go (by rw[hWp,sur_snoc,if_pos hr];exact hgo)
    have f1:fuE d jr (withE (ents N) e) go=z:=by unfold fuE;rw[if_neg hne,hWd];exact hz
    have f2:fuD d jr (withE (ents N) e) go=rstD d jr (pk.drop go++[packE e]):=by unfold fuD;rw[if_neg hne,hWd]
    have f3:fuJ d jr (withE (ents N) e) go=rstJ d jr (pk.drop go++[packE e]):=by unfold fuJ;rw[if_neg hne,hWd]
    have f4:fuL d jr (ents N) (withE (ents N) e) go=ents (putN z (renN z N (os.take go)) last e):=by
     unfold fuL putN renN;rw[f1];split
     ·have hev:=evicted (go:=go) (last:=last) e I.nice (by rw[hos];omega);rw[hos] at hev;exact hev.symm
     rfl
    have f5:fuV d jr (withE (ents N) e) go ev=renV z ev go:=by unfold fuV renV;rw[f1]
    rw[f1,f2,f3,f4,f5] at hf;exact hf
   have hW:(withE (ents N) e).map packE=(Els.cut (ents N) e.k).map packE++[packE e]:=by
    show(Els.cut (ents N) e.k++[e]).map packE=_;rw[List.map_append];rfl
   have hWl:(withE (ents N) e).length=(Els.cut (ents N) e.k).length+1:=by
    show(Els.cut (ents N) e.k++[e]).length=_;rw[List.length_append];rfl
   have hp1:takes1 (packE e)≤25:=takes_pack he;have htk:takes ((Els.cut (ents N) e.k).map packE)≤99:=by
    have:=takes_filter (fun x=>decide (x.k≠e.k)) (ents N);unfold Els.cut;omega
   refine⟨2,d,jr,N,last,ev,I.mono,fun h=> ?_,fun h hS=> ?_⟩
   ·exact cput_ren h (by omega) (by omega) e (by omega) hsz hdn hfne hz2 2 d jr N ev (by omega) fun u v' hu=>(renew_no hu e (by omega) (by omega)).mono fun x w' ⟨h1,hb⟩=>⟨h1,_,hu.below hb,FrC.of_below hb,fun r hr=> .inl hr⟩
   have hf:=rput_full h hS (by omega) e (by omega) hsz hdn hfd hz2 ⟨I.ev0,by have:=I.ev1;omega⟩ hgn (fun x hx=>by
    rcases List.mem_append.1 hx with h3|h3
    ·have:=hsm x (List.mem_filter.1 h3).1;omega
    ·rw[List.mem_singleton.1 h3];omega) (by rw[hW,takes_snoc];omega) (withE (ents N) e).length (by rw[hW,sur_snoc,if_neg hr,hWl,List.length_map])
   have f1:fuE d jr (withE (ents N) e) (withE (ents N) e).length=2:=by unfold fuE;rw[if_pos rfl]
   have f2:fuD d jr (withE (ents N) e) (withE (ents N) e).length=d:=by unfold fuD;rw[if_pos rfl]
   have f3:fuJ d jr (withE (ents N) e) (withE (ents N) e).length=jr:=by unfold fuJ;rw[if_pos rfl]
   have f4:fuL d jr (ents N) (withE (ents N) e) (withE (ents N) e).length=ents N:=by unfold fuL;rw[f1];rfl
   have f5:fuV d jr (withE (ents N) e) (withE (ents N) e).length ev=ev:=by unfold fuV;rw[f1];rfl
   rw[f1,f2,f3,f4,f5] at hf;exact hf
  refine⟨appE d jr (packE e),appD d jr (packE e),appJ d jr (packE e),putN (appE d jr (packE e)) N last e,putL (appE d jr (packE e)) last,ev,?_,fun h=>cput_app h (by omega) (by omega) e (by omega) hsz hdn hfne _ rfl hz2,fun h hS=> ?_⟩
  ·have hpi:=I.mono.pi.app (b:=packE e) hun;rcases Jou.app_parts d jr (packE e) with⟨q,_⟩|⟨_,_,hz,hD,hJ⟩|⟨_,_,_,q,_⟩|⟨_,_,_,_,hz,hD,hJ⟩|⟨_,_,hf,_,hz,hD,hJ⟩
   ·rw[hdn] at q;cases q
   ·rw[hz,hD,hJ];exact I.mono
   ·exact absurd q hz2
   ·rw[hz];have hdd:=JourM.appD_n d jr (packE e);refine⟨hpi,by rw[hdd,I.n],by rw[hJ];exact I.is,I.nice,by rw[hdd,hJ];exact I.fit,by show last≤_;omega,I.ev0,by have:=I.ev1;omega⟩
   rw[hz];have hdd:=JourM.appD_n d jr (packE e);refine⟨hpi,by rw[hdd,I.n],?_,nice_lay I.nice e,?_,by show last+1≤_;omega,I.ev0,by have:=I.ev1;omega⟩
   ·rw[hJ];show ents (lay N last e)=foldE (jr.gs++[packE e]);rw[ents_lay,foldE_snoc,unE_pack e (by omega),I.is]
   rw[hdd,hJ];show takes (jr.gs++[packE e])≤_;rw[takes_snoc];omega
  have:=rput_app h hS (by omega) e (by omega) hsz hdn hfd _ rfl hz2;have e1:appL (appE d jr (packE e)) (ents N) e=ents (putN (appE d jr (packE e)) N last e):=by
   unfold appL putN;split
   ·rw[ents_lay]
   rfl
  rw[e1] at this;exact this
end
end Go.Proofs.YtdjhlhellkajfaaGreat.Cch
namespace Go.Proofs.YtdjhlhellkajfaaGreat.Cch
open Go.RowKit Codec Cod
open Disk (Turn Dk Dsk ptr)
open JourM (Jr takes takes1 room)
open Jou (Jn Rk RJ)
def Mine (w:World) (c b j g gs gm:Nat) (v:Value) (k:Nat):Prop:=k=c∨k=b∨RowIn w b k∨k∈JOwn j g gs gm v
def DocS (w:World) (c b j g gs gm:Nat) (v:Value) (cr y r bs bw:Nat) (d:Dsk) (jr:Jr) (L:List Ent) (ev:Int):Prop:=
 ∃S,RC w S cr y r bs bw d jr L ev∧(∀q∈S,q<w.heap.size)∧∀k,k<w.heap.size→Mine w c b j g gs gm v k→k∈S
section
variable {w w':World} {c lo b lj j g gs gm last cr y r bs bw nS K:Nat} {d d':Dsk} {jr jr':Jr} {v v':Value} {N:List Nmb} {L L':List Ent} {ev ev':Int}
theorem Bk.row_lo(h:Bk w lo b N){k:Nat}(hr:RowIn w b k):lo≤k∧k<w.heap.size∧IsRow w k:=by
 obtain⟨D,F,h1,h2,h3,h4,h5⟩:=h;obtain⟨nn,D',kl,u,g1,g2,g3⟩:=hr;obtain rfl:D'=D:=own_one g1 h1;cases hh:Maps.has D' kl with
 |false=>
  have e1:=(Maps.atKey_of_not_has hh .nil).symm.trans (g2 .nil);cases e1
 |true=>
  obtain⟨s,hs,rfl,hbt⟩:=h2 kl hh;have e1:=((h4 s hs hbt).1 .nil).symm.trans (g2 .nil);injection e1 with e1;obtain⟨q,e,q1,q2,C,q3⟩:=(h4 s hs hbt).2.lt;rw[e1,g3] at e;injection e with e;subst e;exact⟨q1,q2,C,q3⟩
theorem Mine.keep{k:Nat}(h:Mine w' c b j g gs gm v k)(hb:w'.heap[b]? =w.heap[b]?):Mine w c b j g gs gm v k:=h.imp id (Or.imp id (Or.imp (fun e=>e.back hb) id))
theorem DocS.prog(h:DocS w c b j g gs gm v cr y r bs bw d jr L ev)(hb:b<w.heap.size)(ht:FrC lo c b j g gs gm v w w')(hv:∀q,v'.ownBlock=some q→v.ownBlock=some q∨w.heap.size≤q):DocS w' c b j g gs gm v' cr y r bs bw d jr L ev:=by
 obtain⟨S,h1,h2,h3⟩:=h;obtain⟨⟨S1,ht1,hS1⟩,hR⟩:=ht;have hnew:∀k,k∈(List.range w'.heap.size).filter (fun k=>decide (w.heap.size≤k))↔k<w'.heap.size∧w.heap.size≤k:=fun k=>by simp
 refine⟨S++(List.range w'.heap.size).filter (fun k=>decide (w.heap.size≤k)),?_,fun q hq=> ?_,fun k hk hm=> ?_⟩
 ·have h4:RC w (S++(List.range w'.heap.size).filter (fun k=>decide (w.heap.size≤k))) cr y r bs bw d jr L ev:=h1.others fun k hk=>(List.mem_append.1 hk).imp id fun e=>((hnew k).1 e).2;refine h4.turn ht1 fun k hk=> ?_;by_cases hl:k<w.heap.size
  ·exact .inl (List.mem_append_left _ (h3 k hl ((hS1 k hk).imp id (Or.imp id (Or.imp (fun e=>e.2.2) id)))))
  exact .inr (by omega)
 ·rcases List.mem_append.1 hq with e|e
  ·exact Nat.lt_of_lt_of_le (h2 q e) ht1.size
  exact((hnew q).1 e).1
 by_cases hl:k<w.heap.size
 ·refine List.mem_append_left _ (h3 k hl ?_);rcases hm with e|e|e|e
  ·exact .inl e
  ·exact .inr (.inl e)
  ·exact .inr (.inr (.inl ((hR hb k e).resolve_right (by omega))))
  refine .inr (.inr (.inr ?_));unfold JOwn at e ⊢;rcases List.mem_append.1 e with e|e
  ·exact List.mem_append_left _ e
  refine List.mem_append_right _ ?_;rcases hv k (by simpa using e) with e2|e2
  ·simpa using e2
  omega
 exact List.mem_append_right _ ((hnew k).2 ⟨hk,by omega⟩)
theorem RC.types{S:List Nat}(h:RC w S cr y r bs bw d jr L ev):∀k∈[cr,y,r,bs,bw],(∃(cs:Array Value) (Ty:TypeId),w.heap[k]? =some (.cells cs Ty (0,0))∧Ty≠5∧Ty≠188)∧k∉S:=by
 obtain⟨A,c,h1,_⟩:=h.hd;obtain⟨A2,c2,h2,_⟩:=h.rj.hd;obtain⟨cs,cw,left,z,h3,_⟩:=h.rj.disk.hd;obtain⟨C,h4,_⟩:=h.rj.disk.safe;obtain⟨C',h5,_⟩:=h.rj.disk.wait;have ho:∀k∈[r,bs,bw],k∉S:=fun k hk hm=>h.rj.disk.out k hk (List.mem_cons_of_mem _ (List.mem_cons_of_mem _ hm));intro k hk;simp only[List.mem_cons,List.not_mem_nil,or_false] at hk;rcases hk with rfl|rfl|rfl|rfl|rfl
 ·exact⟨⟨_,_,h1,by decide,by decide⟩,fun hm=>h.out (List.mem_append_right _ hm)⟩
 ·exact⟨⟨_,_,h2,by decide,by decide⟩,fun hm=>h.rj.yout (List.mem_append_right _ (List.mem_cons_of_mem _ hm))⟩
 ·exact⟨⟨_,_,h3,by decide,by decide⟩,ho _ (by simp)⟩
 ·exact⟨⟨_,_,h4,by decide,by decide⟩,ho _ (by simp)⟩
 exact⟨⟨_,_,h5,by decide,by decide⟩,ho _ (by simp)⟩
theorem Ch.docs(h:Ch w c lo b lj j g gs gm d jr v N last ev){T:List Nat}(ht:Turn T w w')(hT:∀k∈T,(∃(cs:Array Value) (Ty:TypeId),w.heap[k]? =some (.cells cs Ty (0,0))∧Ty≠5∧Ty≠188)∧¬Mine w c b j g gs gm v k):Ch w' c lo b lj j g gs gm d jr v N last ev:=by
 have hc:w'.heap[c]? =w.heap[c]? :=ht.block c h.sh.lt fun hm=>(hT c hm).2 (.inl rfl);have hbk:Bk w' lo b N:=h.sh.bk.turn2 ht fun k hk=>⟨fun e=>(hT k hk).2 (.inr (.inl e)),fun e=>by
  obtain⟨⟨cs,Ty,h1,_,h2⟩,_⟩:=hT k hk;obtain⟨_,C,h3⟩:=e;rw[h1] at h3;injection h3 with h3;injection h3 with _ h3;exact h2 h3⟩
 have hj:Jn w' lj j g gs gm d jr v:=jn_turn h.jn ht (fun k hk hm=>(hT k hk).2 (.inr (.inr (.inr hm)))) fun k hk cs fr h3=>by
  obtain⟨⟨cs,Ty,h1,h2,_⟩,_⟩:=hT k hk;rw[h1] at h3;injection h3 with h3;injection h3 with _ h3;exact h2 h3
 exact⟨hc.trans h.hd,hj,⟨(World.cell?_of_block (w:=w) hc).trans h.sh.c0,(World.cell?_of_block (w:=w) hc).trans h.sh.c1,(Disk.frozen_keep (w:=w) hc).trans h.sh.fr,hbk,h.sh.nice,h.sh.pb,h.sh.pl,h.sh.bl⟩,h.cl,Nat.le_trans h.low ht.size⟩
structure Two (w:World) (nS g gs gm r bs bw K c lo b lj j cr y:Nat) (d:Dsk) (jr:Jr) (v:Value) (N:List Nmb) (last:Nat) (ev:Int):Prop where
 prog:Ch w c lo b lj j g gs gm d jr v N last ev
 doc:DocS w c b j g gs gm v cr y r bs bw d jr (ents N) ev
 inv:Inv nS d jr N last ev K
theorem Ch.clt(h:Ch w c lo b lj j g gs gm d jr v N last ev):c<w.heap.size:=lt_of_heap h.hd
theorem DocS.below(h:DocS w c b j g gs gm v cr y r bs bw d jr L ev)(hc:Ch w c lo b lj j g gs gm d jr v N last ev)(hb:Below w.heap.size w w'):DocS w' c b j g gs gm v cr y r bs bw d jr L ev:=
 h.prog (lo:=lo) hc.sh.bk.lt (FrC.of_below hb) (fun _ hq=> .inl hq)
theorem Two.below(h:Two w nS g gs gm r bs bw K c lo b lj j cr y d jr v N last ev)(hb:Below w.heap.size w w'):Two w' nS g gs gm r bs bw K c lo b lj j cr y d jr v N last ev:=
 ⟨h.prog.below hb,h.doc.below h.prog hb,h.inv⟩
theorem Two.mono(h:Two w nS g gs gm r bs bw K c lo b lj j cr y d jr v N last ev):Two w nS g gs gm r bs bw (K+1) c lo b lj j cr y d jr v N last ev:=⟨h.prog,h.doc,h.inv.mono⟩
theorem docs_turned{S:List Nat}{d0:Dsk}{jr0:Jr}{L0:List Ent}{ev0:Int}{T:List Nat}(h:Ch w c lo b lj j g gs gm d jr v N last ev)(h0:RC w S cr y r bs bw d0 jr0 L0 ev0)(h2:∀q∈S,q<w.heap.size)(h3:∀k,k<w.heap.size→Mine w c b j g gs gm v k→k∈S)(hT:∀k∈T,k∈[cr,y,r,bs,bw])
  (h1:RC w' S cr y r bs bw d' jr' L' ev') (ht:Turn T w w'):Ch w' c lo b lj j g gs gm d jr v N last ev∧DocS w' c b j g gs gm v cr y r bs bw d' jr' L' ev':=by
 have hty:=h0.types;have hTT:∀k∈T,(∃(cs:Array Value) (Ty:TypeId),w.heap[k]? =some (.cells cs Ty (0,0))∧Ty≠5∧Ty≠188)∧¬Mine w c b j g gs gm v k:=fun k hk=>⟨(hty k (hT k hk)).1,fun hm=>by
  obtain⟨⟨cs,Ty,e,_⟩,hn⟩:=hty k (hT k hk);exact hn (h3 k (lt_of_heap e) hm)⟩
 have hb:w'.heap[b]? =w.heap[b]? :=ht.block b h.sh.bk.lt fun hm=>(hTT b hm).2 (.inr (.inl rfl));refine⟨h.docs ht hTT,S,h1,fun q hq=>Nat.lt_of_lt_of_le (h2 q hq) ht.size,fun k hk hm=> ?_⟩;have hm':=hm.keep hb;refine h3 k ?_ hm';rcases hm' with e|e|e|e
 ·rw[e];exact h.clt
 ·rw[e];exact h.sh.bk.lt
 ·exact(h.sh.bk.row_lo e).2.1
 exact h.own_lt k e
end
end Go.Proofs.YtdjhlhellkajfaaGreat.Cch
namespace Go.Proofs.YtdjhlhellkajfaaGreat.Cch
open Go.RowKit Codec Cod
open Disk (Turn Dk Dsk ptr)
open JourM (Jr takes takes1 room)
open Jou (Jn Rk RJ)
section
variable {w w' w1 w2:World} {c lo b lj j g gs gm last cr y r bs bw nS K:Nat} {d d':Dsk} {jr jr':Jr} {v v':Value} {N:List Nmb} {L L':List Ent} {ev ev':Int}
theorem RC.disked{S:List Nat}(h:RC w S cr y r bs bw d jr L ev)(hd:Rk w' (y::cr::S) r bs bw d')(ht:Turn [r,bs,bw] w w')(hn:d'.n=d.n):RC w' S cr y r bs bw d' jr L ev:=by
 have hlt:=h.crlt;obtain⟨A,c,h1,h2,h3⟩:=h.hd;exact⟨h.rj.disked hd ht hn,⟨A,c,(ht.block cr hlt fun hm=>h.out (List.mem_append_left _ (List.mem_cons_of_mem _ hm))).trans h1,h2.turn ht (fun k hk=> .inl (List.mem_append_left _ (List.mem_cons_of_mem _ (List.mem_cons_of_mem _ hk)))),h3⟩,h.out⟩
theorem own_disk{k:Nat}(hk:k∈[g,gs,gm]):k∈JOwn j g gs gm v:=List.mem_append_left _ (List.mem_cons_of_mem _ hk)
theorem disk1(h:Ch w c lo b lj j g gs gm d jr v N last ev)(hs:DocS w c b j g gs gm v cr y r bs bw d jr L ev)(hd:Dk w1 g gs gm d')(ht:Turn [g,gs,gm] w w1)(hn:d'.n=d.n):Ch w1 c lo b lj j g gs gm d' jr v N last ev∧DocS w1 c b j g gs gm v cr y r bs bw d jr L ev:=by
 have ht2:Turn (JOwn j g gs gm v) w w1:=ht.more fun _ hk=>own_disk hk;exact⟨h.journaled ht2 (h.jn.disked hd ht hn),hs.prog (lo:=lo) h.sh.bk.lt (FrC.own ht2 (h.apart (.inr (.inl rfl))).1) (fun _ hq=> .inl hq)⟩
theorem disk2{S:List Nat}(h:Ch w1 c lo b lj j g gs gm d' jr v N last ev)(h0:RC w1 S cr y r bs bw d jr L ev)(h2:∀q∈S,q<w1.heap.size)(h3:∀k,k<w1.heap.size→Mine w1 c b j g gs gm v k→k∈S)
  (hd:Rk w2 (y::cr::S) r bs bw d') (ht:Turn [r,bs,bw] w1 w2) (hn:d'.n=d.n):Ch w2 c lo b lj j g gs gm d' jr v N last ev∧DocS w2 c b j g gs gm v cr y r bs bw d' jr L ev:=
 docs_turned h h0 h2 h3 (fun _ hk=>List.mem_cons_of_mem _ (List.mem_cons_of_mem _ hk)) (h0.disked hd ht hn) ht
theorem rlows{S:List Nat}(h0:RC w1 S cr y r bs bw d jr L ev)(h2:∀q∈S,q<w1.heap.size):∀q∈y::cr::S,q<w1.heap.size:=fun q hq=>by
 rcases List.mem_cons.1 hq with e|e
 ·rw[e];exact h0.rj.ylt
 rcases List.mem_cons.1 e with e|e
 ·rw[e];exact h0.crlt
 exact h2 q e
theorem open1{S:List Nat}(hk:Rk w S r bs bw d)(hS:∀q∈S,q<w.heap.size)(hg:∀q∈[g,gs,gm],q∈S)(h:Ch w1 c lo b lj j g gs gm d' jr v N last ev)(ht:Turn [g,gs,gm] w w1)(h1:w.heap.size≤c∧w.heap.size≤j∧w.heap.size≤b∧w.heap.size≤lo):
  ∃S1,Rk w1 S1 r bs bw d∧(∀q∈S1,q<w1.heap.size)∧∀k,k<w1.heap.size→Mine w1 c b j g gs gm v k→k∈S1:=by
 have hnew:∀k,k∈(List.range w1.heap.size).filter (fun k=>decide (w.heap.size≤k))↔k<w1.heap.size∧w.heap.size≤k:=fun k=>by simp
 refine⟨S++(List.range w1.heap.size).filter (fun k=>decide (w.heap.size≤k)),?_,fun q hq=> ?_,fun k hk hm=> ?_⟩
 ·have h4:Rk w (S++(List.range w1.heap.size).filter (fun k=>decide (w.heap.size≤k))) r bs bw d:=hk.others fun k hk=>(List.mem_append.1 hk).imp id fun e=>((hnew k).1 e).2;exact h4.turn ht fun k hk=> .inl (List.mem_append_left _ (hg k hk))
 ·rcases List.mem_append.1 hq with e|e
  ·exact Nat.lt_of_lt_of_le (hS q e) ht.size
  exact((hnew q).1 e).1
 rcases hm with e|e|e|e
 ·exact List.mem_append_right _ ((hnew k).2 ⟨hk,by omega⟩)
 ·exact List.mem_append_right _ ((hnew k).2 ⟨hk,by omega⟩)
 ·exact List.mem_append_right _ ((hnew k).2 ⟨hk,by have:=(h.sh.bk.row_lo e).1;omega⟩)
 rcases h.jn.new_own (w:=w) h1.2.1 (S:=S) hg k e with e2|e2
 ·exact List.mem_append_left _ e2
 exact List.mem_append_right _ ((hnew k).2 ⟨hk,e2⟩)
theorem Rk.types2{S:List Nat}(h:Rk w S r bs bw d):∀k∈[r,bs,bw],∃(cs:Array Value) (Ty:TypeId),w.heap[k]? =some (.cells cs Ty (0,0))∧Ty≠5∧Ty≠188:=by
 obtain⟨cs,cw,left,z,h3,_⟩:=h.hd;obtain⟨C,h4,_⟩:=h.safe;obtain⟨C',h5,_⟩:=h.wait;intro k hk;simp only[List.mem_cons,List.not_mem_nil,or_false] at hk;rcases hk with rfl|rfl|rfl
 ·exact⟨_,_,h3,by decide,by decide⟩
 ·exact⟨_,_,h4,by decide,by decide⟩
 exact⟨_,_,h5,by decide,by decide⟩
theorem open2{S:List Nat}(h:Ch w1 c lo b lj j g gs gm d jr v N last ev)(hk:Rk w1 S r bs bw d')(hS:∀q∈S,q<w1.heap.size)(hm:∀k,k<w1.heap.size→Mine w1 c b j g gs gm v k→k∈S)(hr:RC w2 S cr y r bs bw d jr (ents N) ev)(ht:Turn [r,bs,bw] w1 w2):
  Ch w2 c lo b lj j g gs gm d jr v N last ev∧DocS w2 c b j g gs gm v cr y r bs bw d jr (ents N) ev:=by
 have hty:=Rk.types2 hk;have hTT:∀k∈[r,bs,bw],(∃(cs:Array Value) (Ty:TypeId),w1.heap[k]? =some (.cells cs Ty (0,0))∧Ty≠5∧Ty≠188)∧¬Mine w1 c b j g gs gm v k:=fun k hkm=>⟨hty k hkm,fun hmm=>by
  obtain⟨cs,Ty,e,_⟩:=hty k hkm;exact hk.out k hkm (hm k (lt_of_heap e) hmm)⟩
 have hb:w2.heap[b]? =w1.heap[b]? :=ht.block b h.sh.bk.lt fun hmm=>(hTT b hmm).2 (.inr (.inl rfl));refine⟨h.docs ht hTT,S,hr,fun q hq=>Nat.lt_of_lt_of_le (hS q hq) ht.size,fun k _ hmm=> ?_⟩;have hm':=hmm.keep hb;refine hm k ?_ hm';rcases hm' with e|e|e|e
 ·rw[e];exact h.clt
 ·rw[e];exact h.sh.bk.lt
 ·exact(h.sh.bk.row_lo e).2.1
 exact h.own_lt k e
theorem inv_opened(hpi:PI d jr (1+K))(hn:d.n=nS)(h8:nS≤200)(hni:Nice (laysF (jr.gs.map unE) jr.gs.length) jr.gs.length)(hf:takes jr.gs≤room d.n):Inv nS d jr (laysF (jr.gs.map unE) jr.gs.length) jr.gs.length 0 K:=by
 have h1:=JourM.takes_length jr.gs;have h3:room d.n≤99:=by rw[hn];unfold room;omega
 exact⟨hpi,hn,ents_opened jr.gs,hni,hf,by omega,by omega,by omega⟩
theorem own_base{base:Nat}(h:Ch w c lo b lj j g gs gm d jr v N last ev)(hj:base≤j)(hg:∀q∈[g,gs,gm],base≤q):∀k∈JOwn j g gs gm v,base≤k:=fun k hk=>by
 unfold JOwn at hk;rcases List.mem_append.1 hk with e|e
 ·rcases List.mem_cons.1 e with e|e
  ·rw[e];exact hj
  exact hg k e
 have h1:=(h.own_type (by simpa using e)).1;have h2:=h.jn.lows j (by simp);omega
theorem fnd_eq(N:List Nmb)(key:ByteArray):(fndE N key).v=fndV (ents N) key∧fndB N key=(fnd (ents N) key).isSome:=by
 refine⟨?_,fndB_of N key⟩;unfold fndV;cases hf:fnd (ents N) key with
 |some e=>rw[fndE_of hf]
 |none=>
  rw[fnd_ents] at hf;unfold fndE;cases hq:findN N key with
  |none=>rfl
  |some x=>rw[hq] at hf;cases hf
def Lows (w:World) (c lo b j cr y:Nat):Prop:=w.heap.size≤c∧w.heap.size≤lo∧w.heap.size≤b∧w.heap.size≤j∧w.heap.size≤cr∧w.heap.size≤y
def PL (w wr:World) (nS g gs gm r bs bw K:Nat) (px py:Value):Prop:=
 ∃c lo b lj j cr y d jr v N last ev,px= .pointer (some ⟨c,0,none⟩)∧py= .pointer (some ⟨cr,0,none⟩)∧Two wr nS g gs gm r bs bw K c lo b lj j cr y d jr v N last ev∧Lows w c lo b j cr y∧Below w.heap.size w wr
theorem fresh_c(w:World)(g gs gm n:Nat)(h8:8≤n)(hn:n≤65536)(h:Dk w g gs gm (Disk.fresh n)):Calls Tryz.prog 38 #[ptr g] w (COpened w g gs gm (JourM.openD (Disk.fresh n)) ⟨1,[],false⟩):=by
 obtain⟨o1,o2,_,_⟩:=JourM.fresh_open n h8 hn;refine copen_any w g gs gm _ _ (Jou.Dk.lows h) ?_ (by simp);have:=Jou.open_new w g gs gm _ h h8 rfl (JourM.fresh_newest n h8);exact this.mono fun e u hx=>by
  rcases hx with⟨_,hx⟩|⟨hh,_⟩
  ·rw[o2] at hx;exact hx
  rw[o1] at hh;cases hh
end
end Go.Proofs.YtdjhlhellkajfaaGreat.Cch
