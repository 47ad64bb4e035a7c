/-
  Texts JSmall, JRows, JHalf, JExt, JBegin, JLook, JGroup, JGrp, JTold, JItems, JAdd, JSeq, JOpen, KPack, KLPk, in one file. What each proves, and its conditions, stand at its head below.
-/
import Derived.Test.YtdjhlhellkajfaaGreatY5
import Derived.Test.YtdjhlhellkajfaaGreatY8
import Derived.Test.YtdjhlhellkajfaaGreatY14
import Derived.Test.YtdjhlhellkajfaaGreatY22
import Derived.Deep.QuietTactic
import Derived.BigQuiet
import Derived.IntWalk
import Derived.RangeFuncNested
import Derived.RangeFuncBound
import Derived.RangeFuncCalls
import Derived.RangeFuncLeaves
import Derived.Shelf.Abstract
import Derived.Shelf.RegionOpen
import Derived.OwnWalkIn
import Derived.TacticsInMore
import Derived.LoopNIn
import Derived.LoopIn
import Derived.Deep.DeepCutAuto
set_option maxRecDepth 100000
set_option maxHeartbeats 8000000
open Go.Lib (hid)
namespace Go.Proofs.YtdjhlhellkajfaaGreat.Jou
open Go.RowKit Codec FrameM Cod JourM
open Disk (Turn Dk Dsk ptr Now)
theorem read_bad(w:World)(g gs gm:Nat)(d:Dsk)(h:Dk w g gs gm d)(ho:d.off=false)(i:Nat)(hi:d.n≤i):Calls Tryz.prog 76 #[ptr g,.int .i64 i] w (Disk.Ends (.tuple #[.slice none 0 0,.int .i64 1]) w):=by
 have HR:=hid (Disk.refuses_disk w g gs gm d i h);have hw:d.why i=1:=by simp[Dsk.why,ho];omega
 rw[hw] at HR;clear h ho hw hi;unfold ptr at HR ⊢;go_enter Tryz.func76,Tryz.ntmps76;go_wp2_with fail;refine HR.out.mono ?_;rintro e w1 ⟨rfl,rfl⟩;go_wp2;go_ret2;exact⟨rfl,rfl⟩
theorem read_any(w:World)(g gs gm:Nat)(d:Dsk)(h:Dk w g gs gm d)(ho:d.off=false)(i:Nat):Calls Tryz.prog 76 #[ptr g,.int .i64 i] w (Got w (rd d i)):=by
 by_cases hi:i<d.n
 ·have hr:rd d i=d.read i:=by unfold rd;rw[if_pos hi]
  have hl:=Disk.Dsk.read_length h.ok hi;rw[hr];refine(Disk.read_disk w g gs gm d h ho i hi).mono ?_;rintro e w' ⟨k,rfl,h1,h2,h3⟩;have hb:=byts_block h1;exact⟨some ⟨k,0,none⟩,64,0,by rw[hl],hb,below_of_turn h3,by omega,by unfold maxLen;omega,Frm.Above.one h2⟩
 rw[rd_out (by omega)];refine(read_bad w g gs gm d h ho i (by omega)).mono ?_;rintro e w' ⟨rfl,rfl⟩;exact⟨none,0,1,rfl,Byts.none_,Below.refl _ _,Nat.le_refl _,Nat.zero_le _,Frm.Above.none_⟩
theorem place_any(w:World)(gen:Nat)(hg:gen<9223372036854775808):Calls Tryz.prog 100 #[.int .i64 gen] w (Disk.Ends (.int .i64 ((gen%2:Nat):Int)) w):=by
 have h1:(0:Int)≤gen:=by omega
 have h2:(gen:Int)≤9223372036854775807:=by omega
 have HM:Hid (((gen%2:Nat):Int)=(gen:Int)%2):=hid (by omega);rw[HM.out];go_enter Tryz.func100,Tryz.ntmps100;go_wp2;go_ret;exact⟨rfl,rfl⟩
theorem room_any(w:World)(g gs gm:Nat)(d:Dsk)(gen:Nat)(h:Dk w g gs gm d)(h8:2≤d.n):Calls Tryz.prog 75 #[hv g gen] w (EndsBelow (.int .i64 (room d.n)) w):=by
 have h1:=h.ok.2.1;have HS:=hid (Disk.sectors_disk (w.alloc (hbox g gen)) g gs gm d (h.alloc _));have HM:Hid ((room d.n:Int)=((d.n:Int)-2)/2):=hid (by unfold room;omega);rw[HM.out];clear h HM;unfold hv;unfold hbox at HS;unfold ptr at HS ⊢;generalize d.n=n at *;have h2:(2:Int)≤n:=by omega
 have h3:(n:Int)≤65536:=by omega
 go_enter Tryz.func75,Tryz.ntmps75;go_wp2_with fail;refine HS.out.mono ?_;rintro e w1 ⟨rfl,rfl⟩;go_wp2;go_ret;exact⟨rfl,Frm.alloc_below _ _⟩
theorem head_any(w:World)(gen:Nat):Calls Tryz.prog 102 #[.int .i64 gen] w (EndsBelow (Frm.mkV (headM gen)) w):=by
 go_enter Tryz.func102,Tryz.ntmps102;go_wp2;exact bodyPost_ret (v:= .agg #[.int .i64 1,.int .i64 gen,.int .i64 0,.int .i64 0]) (by simp[results,Tryz.results102,go_sem]) rfl ⟨rfl,Frm.alloc_below _ _⟩
structure HB (w0 w:World) (k g gs gm gen:Nat) (d:Dsk):Prop where
 bx:w.heap[k]? =some (hbox g gen)
 dk:Dk w g gs gm d
 low:Below w0.heap.size w0 w
 lo:w0.heap.size≤k
theorem HB.c0{w0 w:World}{k g gs gm gen:Nat}{d:Dsk}(h:HB w0 w k g gs gm gen d):w.cell? ⟨k,0,none⟩=some (.pointer (some ⟨g,0,none⟩)):=cell_at h.bx 0
theorem HB.c1{w0 w:World}{k g gs gm gen:Nat}{d:Dsk}(h:HB w0 w k g gs gm gen d):w.cell? ⟨k,1,none⟩=some (.int .i64 gen):=cell_at h.bx 1
theorem HB.start{w:World}{g gs gm:Nat}(gen:Nat){d:Dsk}(h:Dk w g gs gm d):HB w (w.alloc (hbox g gen)) w.heap.size g gs gm gen d:=
 ⟨heap_alloc_new w _,h.alloc _,Frm.alloc_below _ _,Nat.le_refl _⟩
theorem HB.call{w0 w w':World}{k g gs gm gen:Nat}{d:Dsk}(h:HB w0 w k g gs gm gen d)(hb:Below w.heap.size w w'):HB w0 w' k g gs gm gen d:=
 ⟨(hb.block k (lt_of_heap h.bx)).trans h.bx,Dk.below h.dk hb,h.low.trans (hb.mono h.low.size),h.lo⟩
theorem HB.drew{w0 w:World}{k g gs gm gen:Nat}{d:Dsk}(h:HB w0 w k g gs gm gen d):HB w0 w.drew k g gs gm gen d:=
 ⟨h.bx,h.dk.drewN 1,h.low.drew,h.lo⟩
theorem HB.alloc{w0 w:World}{k g gs gm gen:Nat}{d:Dsk}(h:HB w0 w k g gs gm gen d)(o:Obj):HB w0 (w.alloc o) k g gs gm gen d:=h.call (Frm.alloc_below w o)
theorem apart_disk{w:World}{g gs gm k:Nat}{d:Dsk}(h:Dk w g gs gm d){cs:Array Value}{T:TypeId}{fr:Nat×Nat}(hk:w.heap[k]? =some (.cells cs T fr))(hT:T≠101)(h0:∀x,cs[0]? ≠some (.int .u8 x)):k∉[g,gs,gm]:=by
 intro hm;simp only[List.mem_cons,List.not_mem_nil,or_false] at hm;rcases hm with rfl|rfl|rfl
 ·obtain⟨z,hz⟩:=h.hd;rw[hz] at hk;injection hk with hk;injection hk with _ ht;exact hT ht.symm
 ·have h1:=h.ok.1;have hl:=h.ok.2.2.1 0 h1;have hc:=h.sf.2.2 0 h1 0 (Disk.byt ((d.safe 0).getD 0 0)) (Disk.cel_get _ 0 (by omega));simp only[World.cell?,hk,Nat.zero_mul,Nat.add_zero] at hc;exact h0 _ hc
 exact h.mp.isMap hk rfl
theorem HB.disk{w0 w w':World}{k g gs gm gen:Nat}{d:Dsk}(h:HB w0 w k g gs gm gen d)(ht:Turn [g,gs,gm] w w'):w'.heap[k]? =some (hbox g gen):=
 (ht.block k (lt_of_heap h.bx) (apart_disk h.dk h.bx (by decide) (by simp[ptr]))).trans h.bx
theorem sector_any(w:World)(g gs gm:Nat)(d:Dsk)(gen pos:Nat)(h:Dk w g gs gm d)(h2:2≤d.n)(hg:gen<9223372036854775808)(hp:pos≤100000):
  Calls Tryz.prog 99 #[hv g gen,.int .i64 pos] w (EndsBelow (.int .i64 (secAt d.n gen pos)) w):=by
 have hn:=h.ok.2.1;have HB0:=hid (HB.start gen h);have HPL:=hid (fun u=>place_any u gen hg);have HRM:=hid (fun u hu=>room_any u g gs gm d gen hu h2);have HE:Hid ((secAt d.n gen pos:Int)=(2+((gen%2:Nat):Int) * (room d.n:Int))+(pos:Int)):=hid (by unfold secAt;push_cast;rfl);have hr1:room d.n≤65536:=by unfold room;omega
 have hq:=Nat.mod_two_eq_zero_or_one gen;generalize room d.n=R at *;generalize gen%2=q at *;rw[HE.out];unfold hv at HRM ⊢;unfold hbox at HB0;unfold ptr at HRM HB0 ⊢;clear h h2 hg HE hn;go_enter Tryz.func99,Tryz.ntmps99;go_wp2_with fail;generalize w.alloc (.cells #[.pointer (some ⟨g,0,none⟩),.int .i64 gen] 105)=W at *;have HS:=hid HB0.out.drew;refine Frm.wh_start (fun w'=>HB w w' w.heap.size g gs gm gen d) (by kernel_rfl) ?_;refine Frm.wb 0 5 (.pointer (some ⟨w.heap.size,1,none⟩)) HS.out ?_;go_frame;refine Frm.wd 1 6 (.int .i64 gen) HS.out (fun w' hw'=> ?_) ?_
 ·have h1:=hw'.c1;go_simp
 go_frame;refine Frm.wd 3 8 (.agg #[.pointer (some ⟨g,0,none⟩),.int .i64 gen]) HS.out (fun w' hw'=> ?_) ?_
 ·have h0:=hw'.c0;have h1:=hw'.c1;go_simp
 go_frame;refine Frm.wa 7 12 (.int .i64 pos) HS.out ?_;go_frame;refine Frm.wh_call 2 7 100 #[.int .i64 gen] rfl rfl (by kernel_rfl) rfl ?_ ?_
 ·go_simp
 refine(HPL.out _).mono ?_;rintro e w2 ⟨rfl,rfl⟩;refine⟨_,rfl,HS.out,?_⟩;go_frame;refine Frm.wh_call 4 9 75 #[.agg #[.pointer (some ⟨g,0,none⟩),.int .i64 gen]] rfl rfl (by kernel_rfl) rfl ?_ ?_
 ·go_simp
 refine(HRM.out _ HS.out.dk).mono ?_;rintro e w3 ⟨rfl,hb⟩;have HS:=hid (HS.out.call hb);clear hb;refine⟨_,rfl,HS.out,?_⟩;go_frame;have hw1:IntKind.i64.wrap ((q:Int) * (R:Int))=(q:Int) * (R:Int):=IntWalk.i64_in _ (by rcases hq with rfl|rfl<;>omega);have hw2:IntKind.i64.wrap (2+(q:Int) * (R:Int))=2+(q:Int) * (R:Int):=IntWalk.i64_in _ (by rcases hq with rfl|rfl<;>omega);have hw3:IntKind.i64.wrap (2+(q:Int) * (R:Int)+(pos:Int))=2+(q:Int) * (R:Int)+(pos:Int):=IntWalk.i64_in _ (by rcases hq with rfl|rfl<;>omega);refine Frm.wb 5 10 (.int .i64 ((q:Int) * (R:Int))) HS.out ?_;go_frame;refine Frm.wb 6 11 (.int .i64 (2+(q:Int) * (R:Int))) HS.out ?_;go_frame;refine Frm.wb 8 13 (.int .i64 (2+(q:Int) * (R:Int)+(pos:Int))) HS.out ?_;go_frame;refine Frm.wa 9 4 (.int .i64 (2+(q:Int) * (R:Int)+(pos:Int))) HS.out ?_;go_frame;refine wpAnyH_done (by kernel_rfl) ?_ _;go_wp2_with fail;go_ret;exact⟨rfl,HS.out.low⟩
theorem i64_or32(a b:Nat)(ha:a<2147483648)(hb:b<4294967296):bits .or .i64 ((a:Int) * 4294967296) (b:Int)=(a:Int) * 4294967296+(b:Int):=by
 have ea:(BitVec.ofInt 64 ((a:Int) * 4294967296)).toNat=2^32 * a:=by rw[BitVec.toNat_ofInt];omega
 have eb:(BitVec.ofInt 64 (b:Int)).toNat=b:=by rw[BitVec.toNat_ofInt];omega
 have key:(BitVec.ofInt 64 ((a:Int) * 4294967296)|||BitVec.ofInt 64 (b:Int)).toNat=2^32 * a+b:=by
  rw[BitVec.toNat_or,ea,eb,Nat.two_pow_add_eq_or_of_lt (by omega)]
 show IntKind.i64.wrap ((BitVec.ofInt 64 ((a:Int) * 4294967296)|||BitVec.ofInt 64 (b:Int)).toNat:Nat)=_;rw[key,IntKind.wrap_i64];omega
theorem mark_any(w:World)(g gen seq B n c:Nat)(A:Option Addr)(b:List UInt8)(h:Byts w B A n b)(hB:B≤w.heap.size)(hn:n≤1048576):Calls Tryz.prog 128 #[hv g gen,.int .i64 seq,.slice A n c] w (EndsBelow (Frm.mkV (markM gen seq b)) w):=by
 have hl:=h.len;have HC:=hid (Frm.crc_byts ((w.alloc (hbox g gen)).alloc (.cells #[.int .i64 0,.int .i64 0,.int .i64 0,.int .i64 0] 158)) B n c A b ((h.alloc hB _).alloc (by simp;omega) _) (by omega));have hc:=crcOf_lt b;have HO:=hid (i64_or32 n (crcOf b) (by omega) hc);have HM:Hid (Frm.mkV (markM gen seq b)= .agg #[.int .i64 2,.int .i64 gen,.int .i64 seq,.int .i64 ((n:Int) * 4294967296+(crcOf b:Nat))]):=hid (by unfold Frm.mkV markM;rw[hl]);rw[HM.out];unfold hv;unfold hbox ptr at HC;unfold ptr;clear h hl HM;generalize crcOf b=z at *;have hn1:(n:Int)≤1048576:=by omega
 have hc1:(z:Int)<4294967296:=by omega
 go_enter Tryz.func128,Tryz.ntmps128;go_wp2_with fail;refine HC.out.mono ?_;rintro e w1 ⟨rfl,rfl⟩;go_wp2_with fail;rw[HO.out];exact bodyPost_ret (v:= .agg #[.int .i64 2,.int .i64 gen,.int .i64 seq,.int .i64 ((n:Int) * 4294967296+(z:Int))]) (by simp[results,Tryz.results128,go_sem]) rfl ⟨rfl,(Frm.alloc_below _ _).alloc (by simp) _⟩
end Go.Proofs.YtdjhlhellkajfaaGreat.Jou
namespace Go.Proofs.YtdjhlhellkajfaaGreat.Jou
open Go.RowKit Codec FrameM Cod JourM
open Disk (Turn Dk Dsk ptr Now)
open Frm (Sct Pk)
structure Secs (w:World) (lo:Nat) (A:Option Addr) (n:Nat) (ls:List (List UInt8)):Prop where
 len:ls.length=n
 at_:0<n→∃b off,A=some ⟨b,off,none⟩∧b<w.heap.size∧lo≤b∧∀j,j<n→∃u,w.cell? ⟨b,off+j,none⟩=some u∧Sct w lo u (ls.getD j [])
theorem Secs.none_{w:World}{lo:Nat}{A:Option Addr}:Secs w lo A 0 []:=⟨rfl,fun h=>absurd h (by omega)⟩
theorem Secs.of_pk{w:World}{lo n c:Nat}{A:Option Addr}{ls:List (List UInt8)}(h:Pk w lo (.slice A n c) n ls):Secs w lo A n ls:=by
 obtain⟨vs,ho,h1,h2,h3⟩:=h;refine⟨h2,fun hn=> ?_⟩;obtain⟨g,cap,hv,hlo,hlt⟩:=World.ownsRow.form ho hn;have hA:A=some ⟨g,0,none⟩:=by injection hv
 subst hA;refine⟨g,0,rfl,hlt,hlo,fun j hj=>⟨_,?_,h3 j hj⟩⟩;have hc:=ho.cells (g:=g) rfl j (vs.getD j undef) (by simp[List.getD_eq_getElem?_getD,h1,hj]);rwa [plain_add] at hc
theorem Secs.rowsB{w:World}{lo n:Nat}{A:Option Addr}{ls:List (List UInt8)}{S:List Nat}(h:Secs w lo A n ls)(hS:∀k∈S,k<lo):RowsB w S A n ls:=
 ⟨h.len,fun hn=>by
  obtain⟨b,off,e,hl,hlo,hc⟩:=h.at_ hn;refine⟨b,off,e,hl,fun hm=>by have:=hS b hm;omega,fun j hj=> ?_⟩;obtain⟨u,h1,gj,rfl,hg,hlj,hs⟩:=hc j hj;refine⟨some ⟨gj,0,none⟩,64,by rw[hs];exact h1,⟨by rw[hs],fun _=>⟨gj,0,rfl,lt_of_heap hg,fun hm=>by have:=hS gj hm;omega,fun x hx=> ?_⟩⟩,by omega,by unfold maxLen;omega⟩;rw[cell_at hg,Nat.zero_add,←cel_get _ x hx];simp⟩
theorem sct_kept{w w':World}{lo lo0 n:Nat}{v u:Value}{vs:List Value}{s:List UInt8}(ho:w.ownsRow lo0 39 1 v n vs)(hg:w.grownBy w' v.ownBlock)(h:Sct w lo u s):Sct w' lo u s:=by
 refine h.keep fun k cs hkc=>(hg.block k (lt_of_heap hkc) ?_).trans hkc;rcases ho.2 with⟨rfl,_⟩|⟨b,cap,cur,rfl,_,hgb,_⟩
 ·simp[Value.ownBlock]
 intro e;have:b=k:=by simpa [Value.ownBlock] using e.symm
 subst this;rw[hkc] at hgb;injection hgb with hgb;injection hgb with _ ht;exact absurd ht (by decide)
theorem getD_app_left{α:Type}(a b:List α)(k:Nat)(d:α)(h:k<a.length):(a++b).getD k d=a.getD k d:=JourM.getD_left a b k d h
theorem getD_app_right{α:Type}(a b:List α)(k:Nat)(d:α)(h:a.length≤k):(a++b).getD k d=b.getD (k-a.length) d:=JourM.getD_right a b k d h
theorem run_app_pk(w:World)(ty:TypeId)(lo:Nat)(v:Value)(n:Nat)(ls:List (List UInt8))(h:Pk w lo v n ls)(A:Option Addr)(m c:Nat)(ls2:List (List UInt8))(h2:Secs w lo A m ls2)(hn:n+m≤1000000)(hlo:lo≤w.heap.size):
  ∃A' c' w',(Builtin.append_ #[40,40] ty #[v,.slice A m c]).run Tryz.prog w= .ok (.slice A' (n+m) c') w'∧Pk w' lo (.slice A' (n+m) c') (n+m) (ls++ls2)∧Below lo w w'∧w.grownBy w' v.ownBlock:=by
 obtain⟨i0,hi0,hz0,hz1,hz2⟩:=info_parts Frm.info24;obtain⟨vs,ho,h1,hl1,h3⟩:=h;have key:∃v' w' vs',(Builtin.append_ #[40,40] ty #[v,.slice A m c]).run Tryz.prog w= .ok v' w'∧w'.ownsRow lo 39 1 v' (n+m) (vs++vs')∧w.grownBy w' v.ownBlock∧vs'.length=m∧∀j,j<m→Sct w lo (vs'.getD j undef) (ls2.getD j []):=by
  by_cases hm:m=0
  ·subst hm;refine⟨v,w,[],?_,by simpa using ho,⟨rfl,rfl,rfl,Nat.le_refl _,fun _ _ _=>rfl⟩,rfl,fun j hj=>absurd hj (by omega)⟩;rcases ho.2 with⟨rfl,rfl⟩|⟨g,cap,cur,rfl,_,_,hnc,_⟩
   ·cases A<;>simp[Builtin.append_,run_underlying Tryz.underlying40,sizeOf,typeInfo,hi0,Builtin.lenOf,Builtin.firstCells,loadCells,loadCellsFrom]
   cases A<;>simp[Builtin.append_,run_underlying Tryz.underlying40,sizeOf,typeInfo,hi0,Builtin.lenOf,Builtin.firstCells,loadCells,loadCellsFrom,hnc,storeCells]
  obtain⟨b,off,rfl,hl,hb,hc⟩:=h2.at_ (by omega);have hex:∃vs':List Value,vs'.length=m∧∀j,j<m→w.cell? ⟨b,off+j,none⟩=some (vs'.getD j undef)∧Sct w lo (vs'.getD j undef) (ls2.getD j []):=by
   refine⟨(List.range m).map fun j=>(w.cell? ⟨b,off+j,none⟩).getD undef,by simp,fun j hj=> ?_⟩;obtain⟨u,hu1,hu2⟩:=hc j hj;have e:((List.range m).map fun j=>(w.cell? ⟨b,off+j,none⟩).getD undef).getD j undef=u:=by simp[List.getD_eq_getElem?_getD,hj,hu1]
   rw[e];exact⟨hu1,hu2⟩
  obtain⟨vs',hv1,hv2⟩:=hex;obtain⟨v',w',hrun,r1,r2,_,_⟩:=run_append_own_at (P:=Tryz.prog) w lo 40 ty 39 i0 (.slice none 0 0) 1 24 Tryz.underlying40 hi0 hz0 hz1 hz2 rfl (by decide) v n vs ho ⟨b,off,none⟩ m c vs' (by omega) (fun j u hu=>by
   have hj:j<m:=by rw[←hv1];exact(List.getElem?_eq_some_iff.1 hu).1
   have e:=(hv2 j hj).1;rw[plain_add,e,List.getD_eq_getElem?_getD,hu];rfl) (fun u hu=>by
   obtain⟨j,hj,rfl⟩:=List.getElem_of_mem hu;obtain⟨g,hg,_⟩:=(hv2 j (by omega)).2;have e:vs'.getD j undef=vs'[j]:=by simp[List.getD_eq_getElem?_getD,hj]
   rw[e] at hg;rw[hg];rfl) (by unfold maxLen;omega) (by omega) hlo
  exact⟨v',w',vs',hrun,r1,r2,hv1,fun j hj=>(hv2 j hj).2⟩
 obtain⟨v',w',vs',hrun,r1,r2,r3,r4⟩:=key;have hpk:Pk w' lo v' (n+m) (ls++ls2):=by
  refine⟨vs++vs',r1,by simp[h1,r3],by simp[hl1,h2.len],fun j hj=> ?_⟩;by_cases hjn:j<n
  ·rw[getD_app_left _ _ _ _ (by omega),getD_app_left _ _ _ _ (by omega)];exact sct_kept ho r2 (h3 j hjn)
  rw[getD_app_right _ _ _ _ (by omega),getD_app_right _ _ _ _ (by omega),h1,hl1];exact sct_kept ho r2 (r4 (j-n) (by omega))
 have hb:Below lo w w':=(Below.refl lo w).grown r2 hlo (fun k hk=>(World.ownsRow.lt ho k hk).1);obtain⟨A',c',rfl,_,_⟩:=hpk.form;exact⟨A',c',w',hrun,hpk,hb,r2⟩
theorem wpList_app_pk(w:World){ops:Array Oper}{rest:List Oper}{o:Oper}{a:Act}{Q:Exit→Act→World→Prop}(hgd:o.guard=none)(s x:Operand)
  (ho:o.op= .call {callee:= .builtin .append,args:= #[s,x],argTypes:= #[40,40]})
  (lo:Nat) (v:Value) (n:Nat) (ls:List (List UInt8)) (hs:a.eval s=v) (h:Pk w lo v n ls) (A:Option Addr) (m c:Nat) (ls2:List (List UInt8)) (hx:a.eval x= .slice A m c) (h2:Secs w lo A m ls2) (hn:n+m≤1000000) (hlo:lo≤w.heap.size)
  (hK:∀A' c' w',Pk w' lo (.slice A' (n+m) c') (n+m) (ls++ls2)→Below lo w w'→w.grownBy w' v.ownBlock→wpList Tryz.prog ops Q rest (a.put o.dst (.slice A' (n+m) c')) w'):wpList Tryz.prog ops Q (o::rest) a w:=by
 obtain⟨A',c',w',hrun,k2,k3,k4⟩:=run_app_pk w o.type lo v n ls h A m c ls2 h2 hn hlo;refine wpList_plain hgd fun _ hK'=> ?_;unfold Oper.wp execOp;simp only[ho,resolve,invoke,builtin,Sem.run_bind,Sem.run_pure,Result.andThen_ok,List.map_toArray,List.map_cons,List.map_nil,hs,hx,hrun];exact hK' _ _ (hK A' c' w' k2 k3 k4)
theorem pk_one(w:World)(lo g:Nat)(s:List UInt8)(hs:Sct w lo (.slice (some ⟨g,0,none⟩) 64 64) s)(hlo:lo≤w.heap.size):Pk (w.alloc (.cells #[.slice (some ⟨g,0,none⟩) 64 64] 39)) lo (.slice (some ⟨w.heap.size,0,none⟩) 1 1) 1 [s]:=by
 refine⟨[.slice (some ⟨g,0,none⟩) 64 64],⟨by simp,.inr ⟨w.heap.size,1,_,rfl,hlo,heap_alloc_new w _,Nat.le_refl _,by unfold maxLen;omega,by simp,by simp⟩⟩,rfl,rfl,fun j hj=> ?_⟩;obtain rfl:j=0:=by omega
 exact hs.keep fun k cs hk=>(Below.heap_alloc w _ k (lt_of_heap hk)).trans hk
theorem size24(w:World):(sizeOf (Tryz.prog.elem 40)).run Tryz.prog w= .ok 1 w:=by kernel_rfl
theorem cut_one(A:Option Addr)(n c:Nat)(hn:1≤n)(v:World):(Instr.slice 40 (.slice A n c) (some (.int .i64 1)) none none).run Tryz.prog v= .ok (.slice (Frm.cutAt A 1 c) (n-1) (c-1)) v:=by
 have h:=run_slice_l (P:=Tryz.prog) v 40 A n c Tryz.underlying40 .i64 ((1:Nat):Int) (by omega) (by omega);rw[size24 v] at h;simpa [Result.andThen,sliced,Frm.cutAt] using h
theorem Secs.tail{w:World}{lo n c:Nat}{A:Option Addr}{ls:List (List UInt8)}(h:Secs w lo A n ls)(hn:n≤c):Secs w lo (Frm.cutAt A 1 c) (n-1) (ls.drop 1):=
 ⟨by rw[List.length_drop,h.len],fun h0=>by
  obtain⟨b,off,rfl,hl,hlo,hc⟩:=h.at_ (by omega);unfold Frm.cutAt;rw[if_neg (by omega)];refine⟨b,off+1,by rw[Option.map_some,plain_add],hl,hlo,fun j hj=> ?_⟩;obtain⟨u,h1,h2⟩:=hc (1+j) (by omega);refine⟨u,by rw[Nat.add_assoc];exact h1,?_⟩;have e:(ls.drop 1).getD j []=ls.getD (1+j) []:=by simp[List.getD_eq_getElem?_getD,Nat.add_comm]
  rw[e];exact h2⟩
theorem run_app_tail(w:World)(ty:TypeId)(lo n c:Nat)(A:Option Addr)(ls:List (List UInt8))(h:Pk w lo (.slice A n c) n ls)(hn:1≤n)(u:Value)(s:List UInt8)(hs:Sct w lo u s)(ad:Addr)(cu:Nat)(hc:w.cell? ad=some u)(hm:n≤1000000)(hlo:lo≤w.heap.size):
  ∃A' c' w',(Builtin.append_ #[40,40] ty #[.slice (Frm.cutAt A 1 c) (n-1) (c-1),.slice (some ad) 1 cu]).run Tryz.prog w= .ok (.slice A' n c') w'∧Pk w' lo (.slice A n c) n ls∧Secs w' lo A' n (ls.drop 1++[s])∧Below lo w w':=by
 obtain⟨i0,hi0,hz0,hz1,hz2⟩:=info_parts Frm.info24;have hadd:ad.add 0=ad:=by unfold Addr.add;split<;>simp_all
 have hl:=h.rows.len;obtain⟨vs,ho,h1,h2,h3⟩:=h;have hnews:∀j x,([u]:List Value)[j]? =some x→w.cell? (ad.add j)=some x:=fun j x hx=>by
  match j,hx with
  |0,hx=>
   simp at hx;subst hx;rw[hadd];exact hc
 obtain⟨gu,hu,hgu,hlu,hsl⟩:=hs;have hone:∀x∈([u]:List Value),x.oneCell'=true:=by rw[hu];simp[Value.oneCell']
 have hn1:n-1+1=n:=by omega
 rcases ho.2 with⟨e,_⟩|⟨g,cap,cur,e,hg,hh,k1,k2,k3,k4⟩
 ·injection e with _ e _;omega
 injection e with e1 _ e3;subst e1 e3;rw[Nat.mul_one] at k3 k4;have hcl:∀j,j<n→cur.toList[j]? =some (vs.getD j undef):=fun j hj=>by
  have:(cur.toList.take n)[j]? =vs[j]? :=by rw[k4]
  rw[List.getElem?_take,if_pos hj] at this;rw[this];simp[List.getD_eq_getElem?_getD,h1,hj]
 by_cases hlt:n<c
 ·have hcut:Frm.cutAt (some (⟨g,0,none⟩:Addr)) 1 c=some ⟨g,1,none⟩:=by unfold Frm.cutAt;rw[if_neg (by omega),Option.map_some,plain_add]
  have hf:=run_firstCells_some (P:=Tryz.prog) w i0.size 1 ad 1 cu [u] (by simp[hz1]) hnews;have hst:=run_storeCells_at Tryz.prog g (1+(n-1)) 39 [u] 0 cur w hh (by simp;omega) hone;have hroom:n-1+1≤c-1:=by omega
  have hrun:(Builtin.append_ #[40,40] ty #[.slice (some ⟨g,1,none⟩) (n-1) (c-1),.slice (some ad) 1 cu]).run Tryz.prog w=
    .ok (.slice (some ⟨g,1,none⟩) n (c-1)) (w.setRow g (cur.toList.take (1+(n-1)+0)++[u]++cur.toList.drop (1+(n-1)+0+[u].length)).toArray):=by
   rw[hz1] at hf;simp[Builtin.append_,run_underlying Tryz.underlying40,sizeOf,typeInfo,hi0,hz1,Builtin.lenOf,hf,plain_add,hn1];have hr2:n≤c-1:=by omega
   simp[hr2];simp at hst;rw[hst];rfl
  rw[show 1+(n-1)+0=n by omega] at hrun;have hrow:=setRow_heap w g cur (cur.toList.take n++[u]++cur.toList.drop (n+[u].length)).toArray 39 (0,0) hh;have hoth:∀k,k≠g→(w.setRow g (cur.toList.take n++[u]++cur.toList.drop (n+[u].length)).toArray).heap[k]? =w.heap[k]? :=fun k hk=>setRow_other w g k _ hk;have hszs:(w.setRow g (cur.toList.take n++[u]++cur.toList.drop (n+[u].length)).toArray).heap.size=w.heap.size:=by simp
  have hB:Below lo w (w.setRow g (cur.toList.take n++[u]++cur.toList.drop (n+[u].length)).toArray):=
   (Below.refl lo w).grown (row:=some g) ⟨rfl,rfl,rfl,by rw[hszs];exact Nat.le_refl _,fun k _ hk=>hoth k (fun e=>hk (by rw[e]))⟩ hlo (fun k hk=>by injection hk with hk;omega)
  have hsct:∀{x:Value} {t:List UInt8},Sct w lo x t→Sct (w.setRow g (cur.toList.take n++[u]++cur.toList.drop (n+[u].length)).toArray) lo x t:=fun hx=>hx.keep fun k cs hkc=>(hoth k (by
   rintro rfl;rw[hkc] at hh;injection hh with hh;injection hh with _ ht;exact absurd ht (by decide))).trans hkc
  refine⟨_,_,_,by rw[hcut];exact hrun,⟨vs,⟨by omega,.inr ⟨g,c,_,rfl,hg,hrow,k1,k2,?_,?_⟩⟩,h1,h2,fun j hj=>hsct (h3 j hj)⟩,⟨by rw[List.length_append,List.length_drop,h2];simp;omega,fun _=>⟨g,1,rfl,by rw[hszs];exact lt_of_heap hh,hg,fun j hj=> ?_⟩⟩,hB⟩
  ·simp only[List.size_toArray,List.length_append,List.length_take,List.length_drop,Array.length_toList,List.length_cons,List.length_nil];omega
  ·rw[Nat.mul_one,List.append_assoc,List.take_left' (by simp;omega)];exact k4
  have hc1:(w.setRow g (cur.toList.take n++[u]++cur.toList.drop (n+[u].length)).toArray).cell? ⟨g,1+j,none⟩=(cur.toList.take n++[u]++cur.toList.drop (n+[u].length))[1+j]? :=by
   rw[cell_at hrow];simp
  by_cases hj1:j<n-1
  ·refine⟨vs.getD (1+j) undef,?_,?_⟩
   ·rw[hc1,List.append_assoc,List.getElem?_append_left (by simp;omega),List.getElem?_take,if_pos (by omega)];exact hcl _ (by omega)
   have e:(ls.drop 1++[s]).getD j []=ls.getD (1+j) []:=by
    rw[getD_app_left _ _ _ _ (by simp;omega)];simp[List.getD_eq_getElem?_getD,Nat.add_comm]
   rw[e];exact hsct (h3 _ (by omega))
  obtain rfl:j=n-1:=by omega
  refine⟨u,?_,?_⟩
  ·rw[hc1,List.append_assoc,List.getElem?_append_right (by simp;omega)];have:1+(n-1)-(cur.toList.take n).length=0:=by simp;omega
   rw[this];rfl
  have e:(ls.drop 1++[s]).getD (n-1) []=s:=by
   rw[getD_app_right _ _ _ _ (by simp;omega),show n-1-(ls.drop 1).length=0 by simp;omega];rfl
  rw[e];exact hsct ⟨gu,hu,hgu,hlu,hsl⟩
 obtain rfl:n=c:=by omega
 have holds:∀(b:Addr),Frm.cutAt (some (⟨g,0,none⟩:Addr)) 1 n=some b→∀j v,(vs.drop 1)[j]? =some v→w.cell? (b.add j)=some v:=fun b hb j v hv=>by
  have hj:j<n-1:=by
   have:=(List.getElem?_eq_some_iff.1 hv).1;simp at this;omega
  unfold Frm.cutAt at hb;rw[if_neg (by omega),Option.map_some,plain_add] at hb;injection hb with hb;subst hb;rw[plain_add,cell_at hh];have:=hcl (0+1+j) (by omega);rw[Array.getElem?_toList] at this;rw[this];rw[List.getElem?_drop] at hv;simp[List.getD_eq_getElem?_getD,hv]
 obtain⟨b,hb⟩:∃b,Frm.cutAt (some (⟨g,0,none⟩:Addr)) 1 n=some b:=by unfold Frm.cutAt;split<;>exact⟨_,rfl⟩
 have hrun:=run_append_grow (P:=Tryz.prog) w 40 ty 39 i0 (.slice none 0 0) Tryz.underlying40 hi0 hz0 b (n-1) (n-1) (vs.drop 1) (by rw[hz1,List.length_drop,h1];omega) (holds b hb) ad 1 cu [u] (by simp[hz1]) hnews (by omega) (by omega)
  (growslice_fits (by omega) (by rw[hz2];omega))
 rw[hn1] at hrun;have hge:=grownCap_ge w n (n-1) 39;have hB:Below lo w (w.drew.alloc (.cells ((vs.drop 1).toArray++[u].toArray++Builtin.zeroCells (Value.slice none 0 0).cells (grownCap w n (n-1) 39-n)) 39)):=((Below.refl lo w).drew).alloc hlo _;have hBw:Below w.heap.size w (w.drew.alloc (.cells ((vs.drop 1).toArray++[u].toArray++Builtin.zeroCells (Value.slice none 0 0).cells (grownCap w n (n-1) 39-n)) 39)):=((Below.refl _ w).drew).alloc (Nat.le_refl _) _;have hnew:=heap_alloc_new w.drew (.cells ((vs.drop 1).toArray++[u].toArray++Builtin.zeroCells (Value.slice none 0 0).cells (grownCap w n (n-1) 39-n)) 39);have hsct:∀{x:Value} {t:List UInt8},Sct w lo x t→Sct (w.drew.alloc (.cells ((vs.drop 1).toArray++[u].toArray++Builtin.zeroCells (Value.slice none 0 0).cells (grownCap w n (n-1) 39-n)) 39)) lo x t:=fun hx=>hx.keep fun k cs hkc=>(hBw.block k (lt_of_heap hkc)).trans hkc;refine⟨_,_,_,by rw[hb];exact hrun,Pk.below ⟨vs,ho,h1,h2,h3⟩ hBw,⟨by rw[List.length_append,List.length_drop,h2];simp;omega,fun _=>⟨w.heap.size,0,rfl,by simp,hlo,fun j hj=> ?_⟩⟩,hB⟩;have hc1:=cell_at (g:=w.heap.size) hnew (0+j);by_cases hj1:j<n-1
 ·refine⟨vs.getD (1+j) undef,?_,?_⟩
  ·rw[hc1,←Array.getElem?_toList,Nat.zero_add];simp only[Array.toList_append,List.append_assoc];rw[List.getElem?_append_left (by simp;omega),List.getElem?_drop];simp[List.getD_eq_getElem?_getD,h1,show 1+j<n by omega]
  have e:(ls.drop 1++[s]).getD j []=ls.getD (1+j) []:=by
   rw[getD_app_left _ _ _ _ (by simp;omega)];simp[List.getD_eq_getElem?_getD,Nat.add_comm]
  rw[e];exact hsct (h3 _ (by omega))
 obtain rfl:j=n-1:=by omega
 refine⟨u,?_,?_⟩
 ·rw[hc1,←Array.getElem?_toList,Nat.zero_add];simp only[Array.toList_append,List.append_assoc];rw[List.getElem?_append_right (by simp;omega)];simp[h1]
 have e:(ls.drop 1++[s]).getD (n-1) []=s:=by
  rw[getD_app_right _ _ _ _ (by simp;omega),show n-1-(ls.drop 1).length=0 by simp;omega];rfl
 rw[e];exact hsct ⟨gu,hu,hgu,hlu,hsl⟩
end Go.Proofs.YtdjhlhellkajfaaGreat.Jou
namespace Go.Proofs.YtdjhlhellkajfaaGreat.Jou
open Go.RowKit Codec FrameM Cod JourM
open Disk (Turn Dk Dsk ptr Now)
open Frm (Sct Pk)
def Gave (w:World) (ls:List (List UInt8)) (e:Ending) (w':World):Prop:=
 ∃A c,e= .returned (.slice A ls.length c)∧Secs w' w.heap.size A ls.length ls∧Below w.heap.size w w'∧ls.length≤c∧c≤maxLen
theorem end_any(w:World)(g gs gm:Nat)(d:Dsk)(gen pos:Nat)(h:Dk w g gs gm d)(h2:2≤d.n)(hp:pos≤1000000):Calls Tryz.prog 97 #[hv g gen,.int .i64 pos] w (Gave w (endL d.n pos)):=by
 have HB0:=hid (HB.start gen h);have HRM:=hid (fun u hu=>room_any u g gs gm d gen hu h2);have hn:=h.ok.2.1;have hr1:room d.n≤65536:=by unfold room;omega
 have hmk:∀v:World,(Instr.makeSlice 39 (.int .i64 64) (.int .i64 64)).run Tryz.prog v= .ok (.slice (some ⟨v.heap.size,0,none⟩) 64 64) (v.alloc (.cells (cel (FrameM.zeros 64)).toArray 5)):=fun v=>Frm.run_make_bytes v 64 (by omega);have hi1:(pos:Int)≤1000000:=by omega
 have hi2:(room d.n:Int)≤65536:=by omega
 unfold hv at HRM ⊢;unfold hbox at HB0;unfold ptr at HRM HB0 ⊢;clear h h2 hn;by_cases hlt:pos<room d.n
 ·have HE:Hid (endL d.n pos=[nul64]):=hid (by unfold endL;rw[if_pos hlt]);rw[HE.out];generalize room d.n=R at *;have hi3:(pos:Int)<R:=by omega
  have hc0:=HB0.out.c0;have hc1:=HB0.out.c1;go_enter Tryz.func97,Tryz.ntmps97;go_wp2_with fail;refine(HRM.out _ HB0.out.dk).mono ?_;rintro e w1 ⟨rfl,hb⟩;have HS:=hid (HB0.out.call hb);clear hb hc0 hc1;go_wp2_with fail;go_ret;have hlow:=HS.out.low;have hsz:=hlow.size;have hnew:=heap_alloc_new w1 (.cells (cel (FrameM.zeros 64)).toArray 5);have hs:Sct (w1.alloc (.cells (cel (FrameM.zeros 64)).toArray 5)) w.heap.size (.slice (some ⟨w1.heap.size,0,none⟩) 64 64) nul64:=⟨w1.heap.size,rfl,hnew,hsz,rfl⟩
  have hp1:=pk_one (w1.alloc (.cells (cel (FrameM.zeros 64)).toArray 5)) w.heap.size w1.heap.size nul64 hs (by simp;omega);rw[World.size_alloc] at hp1;exact⟨_,1,rfl,Secs.of_pk hp1,(hlow.alloc hsz _).alloc (by simp;omega) _,Nat.le_refl _,by unfold maxLen;omega⟩
 have HE:Hid (endL d.n pos=[]):=hid (by unfold endL;rw[if_neg hlt]);rw[HE.out];generalize room d.n=R at *;have hi3:(R:Int)≤pos:=by omega
 have hc0:=HB0.out.c0;have hc1:=HB0.out.c1;go_enter Tryz.func97,Tryz.ntmps97;go_wp2_with fail;refine(HRM.out _ HB0.out.dk).mono ?_;rintro e w1 ⟨rfl,hb⟩;have HS:=hid (HB0.out.call hb);clear hb hc0 hc1;go_wp2_with fail;go_ret;exact⟨none,0,rfl,Secs.none_,HS.out.low,Nat.le_refl _,Nat.zero_le _⟩
structure KR (w0 w1:World) (g gs gm i:Nat) (d:Dsk) (ls:List (List UInt8)) (k:Nat) (dk:Dsk):Prop where
 disk:Dk w1 g gs gm dk
 turn:Turn [g,gs,gm] w0 w1
 num:dk.n=d.n
 yes:keepB dk (i+k) (ls.drop k)=keepB d i ls
 left:keepD dk (i+k) (ls.drop k)=keepD d i ls
theorem drop_cons(ls:List (List UInt8))(k:Nat)(h:k<ls.length):ls.drop k=ls.getD k []::ls.drop (k+1):=by
 rw[List.drop_eq_getElem_cons h];simp[List.getD_eq_getElem?_getD,h]
theorem keep_any(w:World)(g gs gm:Nat)(d:Dsk)(gen i n c:Nat)(A:Option Addr)(ls:List (List UInt8))(h:Dk w g gs gm d)(hr:RowsB w [g,gs,gm] A n ls)(hl:∀s∈ls,s.length=64)(hi:i+n≤d.n):
  Calls Tryz.prog 98 #[hv g gen,.int .i64 i,.slice A n c] w (Now (.int .i64 (err (keepB d i ls))) w g gs gm (keepD d i ls)):=by
 have HB0:=hid (HB.start gen h);have HR0:=hid (hr.below (Frm.alloc_below w (hbox g gen)));have hlen:=hr.len;have hnn:=h.ok.2.1;have HL:=hid hl;have hi1:(i:Int)+n≤65536:=by omega
 have HI:=hid hi;have HLEN:=hid hlen;unfold hv;unfold hbox at HB0 HR0;unfold ptr at HB0 HR0 ⊢;clear h hr hl hi hlen hnn;go_enter Tryz.func98,Tryz.ntmps98;go_wp2_with fail;obtain⟨W,hW⟩:∃W,w.alloc (.cells #[.pointer (some ⟨g,0,none⟩),.int .i64 gen] 105)=W:=⟨_,rfl⟩
 rw[hW] at HB0 HR0 ⊢;have HWT:Hid (Turn [] w W):=hid (by rw[←hW];exact(Turn.refl [] w).alloc _);clear hW;go_loopw [12] (fun i' wr=>∃k:Nat,k≤n∧i'= .int .i64 k∧∃dk,KR W wr g gs gm i d ls k dk) (fun i' _=>n-(Go.RowKit.intOf i').toNat)
 case atStart=>exact⟨0,by omega,rfl,d,⟨HB0.out.dk,Turn.refl _ _,rfl,rfl,rfl⟩⟩
 case round=>
  obtain⟨k,hk,rfl,dk,hkr⟩:=hrel;have HK:=hid hkr;have hbx:=HB0.out.disk hkr.turn;have hc0:wr.cell? ⟨w.heap.size,0,none⟩=some (.pointer (some ⟨g,0,none⟩)):=cell_at hbx 0;clear hkr hbx;by_cases hlt:k<n
  ·obtain⟨b,o,Aj,cj,hat⟩:=(HR0.out.turn HK.out.turn (fun k hk=> .inl hk)).at hlt;have h64:(ls.getD k []).length=64:=HL.out _ (by
    have:=HLEN.out;rw[Frm.getD_of (by omega)];exact List.getElem_mem _)
   have HX:=hid (drop_cons ls k (by rw[HLEN.out];exact hlt));have hidx:=hat.index c;obtain⟨_,hcell,hbt,_⟩:=hat;rw[h64] at hcell hbt;obtain⟨bj,oj,rfl,_⟩:=hbt.at_ (by omega);have H64:=hid h64;have HBT:=hid hbt;clear h64 hbt;have hw1:(i:Int)+k≤65536:=by omega
   have HIK:Hid (i+k<dk.n):=hid (by have:=HI.out;rw[HK.out.num];omega);generalize ls.getD k []=x at *;rcases Bool.eq_false_or_eq_true (go dk) with hg|hg
   ·have HC:=hid (write_go wr g gs gm dk HK.out.disk hg (i+k) HIK.out bj oj cj x H64.out HBT.out);have HG:=hid hg;clear hg;unfold ptr at HC;push_cast at HC;go_wp2_with fail;refine HC.out.mono ?_;rintro e w2 ⟨rfl,hdk,ht⟩;have HK2:Hid (KR W w2 g gs gm i d ls (k+1) (JourM.wr dk (i+k) x)):=hid ⟨hdk,HK.out.turn.trans ht,by rw[wr_n];exact HK.out.num,
     by rw[←HK.out.yes,HX.out,keepB_cons,HG.out];rfl,by rw[←HK.out.left,HX.out,keepD_cons,HG.out];rfl⟩
    clear hdk ht HC;go_wp2_with fail;go_roundw
    case rel=>exact⟨k+1,by omega,by go_num,_,HK2.out⟩
    case measure=>simp[Go.RowKit.intOf];omega
   have HC:=hid (write_no wr g gs gm dk HK.out.disk hg (i+k) HIK.out (some ⟨bj,oj,none⟩) cj x);have HE:Hid (err (keepB d i ls)=3):=hid (by rw[←HK.out.yes,HX.out,keepB_cons,hg];rfl);have HD:Hid (keepD d i ls=JourM.wr dk (i+k) x):=hid (by rw[←HK.out.left,HX.out,keepD_cons,hg];rfl);rw[HE.out,HD.out];clear hg;unfold ptr at HC;push_cast at HC;go_wp2_with fail;refine HC.out.mono ?_;rintro e w2 ⟨rfl,hdk,ht⟩;have HF:=hid (And.intro hdk ht);clear hdk ht HC;go_wp2_with fail;go_ret;exact⟨rfl,HF.out.1,(HWT.out.more (by simp)).trans (HK.out.turn.trans HF.out.2)⟩
  obtain rfl:k=n:=by omega
  have HC:=hid (sync_any wr g gs gm dk HK.out.disk);have hdr:ls.drop k=[]:=by rw[←HLEN.out];exact List.drop_length
  have HE:Hid (err (keepB d i ls)=err (go dk)):=hid (by rw[←HK.out.yes,hdr,keepB_nil]);have HD:Hid (keepD d i ls=sy dk):=hid (by rw[←HK.out.left,hdr,keepD_nil]);clear hdr;unfold ptr at HC;generalize err (go dk)=er at *;go_wp2_with fail;refine HC.out.mono ?_;rintro e w2 ⟨rfl,hdk,ht⟩;have HF:=hid (And.intro hdk ht);clear hdk ht HC;go_wp2_with fail;go_ret;rw[HE.out,HD.out];exact⟨rfl,HF.out.1,(HWT.out.more (by simp)).trans (HK.out.turn.trans HF.out.2)⟩
theorem Secs.mono{w:World}{lo lo' n:Nat}{A:Option Addr}{ls:List (List UInt8)}(h:Secs w lo A n ls)(hl:lo'≤lo):Secs w lo' A n ls:=
 ⟨h.len,fun hn=>by
  obtain⟨b,off,e,h1,h2,hc⟩:=h.at_ hn;refine⟨b,off,e,h1,by omega,fun j hj=> ?_⟩;obtain⟨u,k1,g,k2,k3,k4,k5⟩:=hc j hj;exact⟨u,k1,g,k2,k3,by omega,k5⟩⟩
def LaidP (w:World) (ls:List (List UInt8)) (e:Ending) (w':World):Prop:=
 ∃A c,e= .returned (.slice A ls.length c)∧Pk w' w.heap.size (.slice A ls.length c) ls.length ls∧Below w.heap.size w w'
theorem laid_any(w:World)(g gen seq n c:Nat)(A:Option Addr)(b:List UInt8)(h:Byts w w.heap.size A n b)(hn:n≤1048576)(hc:n≤c):Calls Tryz.prog 96 #[hv g gen,.int .i64 seq,.slice A n c] w (LaidP w (laid gen seq b)):=by
 have hl:=h.len;have HX:=hid h;have HMK:=hid (fun u hu hB=>mark_any u g gen seq w.heap.size n c A b hu hB hn);have HPT:=hid (fun u=>Frm.put_new (markM gen seq b) u (markM_right gen seq b));have HML:=hid (put_length (markM_right gen seq b));have HPK:=hid (fun u hu=>Frm.pack_any u n c A b hu hn hc);have HLD:Hid (laid gen seq b=[put (markM gen seq b)]++pack b):=hid rfl;have hnd:need b.length≤16384:=by unfold need;omega
 have HND:=hid (pack_length b);have hcc:∀v:World,v.heap[w.heap.size]? =some (hbox g gen)→v.cell? ⟨w.heap.size,0,none⟩=some (.pointer (some ⟨g,0,none⟩))∧v.cell? ⟨w.heap.size,1,none⟩=some (.int .i64 gen):=fun v hv=>⟨cell_at hv 0,cell_at hv 1⟩
 have HCC:=hid hcc;have HB0:=hid (And.intro (heap_alloc_new w (hbox g gen)) (Frm.alloc_below w (hbox g gen)));unfold hv at HMK ⊢;unfold hbox at HB0;unfold ptr at HMK HB0 ⊢;rw[HLD.out];clear h hn hl hcc HLD;generalize markM gen seq b=M at *;generalize put M=pm at *;generalize hpk:pack b=pb at *;clear hpk;go_enter Tryz.func96,Tryz.ntmps96;go_wp2_with fail;have HW:Hid (Below w.heap.size w (w.alloc (.cells #[.pointer (some ⟨g,0,none⟩),.int .i64 gen] 105))):=hid HB0.out.2;refine(HMK.out _ (HX.out.below HW.out) HW.out.size).mono ?_;rintro e w1 ⟨rfl,hb1⟩;have HW1:=hid (HW.out.trans (hb1.mono HW.out.size));clear hb1 HMK;unfold Frm.mkV at *;go_wp2_with fail;refine(HPT.out w1).mono ?_;rintro e w2 ⟨g2,rfl,hg2,hlo2,hb2⟩;have hz1:=HW1.out.size;have HW2:=hid (HW1.out.trans (hb2.mono hz1));have HP1:=hid (pk_one w2 w.heap.size g2 pm ⟨g2,rfl,hg2,by omega,HML.out⟩ (by have:=HW2.out.size;omega));clear hg2 hlo2 hb2 HPT hz1;have HW3:=hid (HW2.out.alloc HW2.out.size (.cells #[.slice (some ⟨g2,0,none⟩) 64 64] 39));go_wp2_with fail;refine(HPK.out _ ((HX.out.below HW3.out).more HW3.out.size)).mono ?_;rintro e w4 ⟨A4,k4,c4,rfl,hpk,hb4⟩;have hk4:k4=pb.length:=by have:=hpk.rows.len;omega
 subst hk4;have HW4:=hid (HW3.out.trans (hb4.mono HW3.out.size));have HP4:=hid (HP1.out.below hb4);have HS4:=hid ((Secs.of_pk hpk).mono HW3.out.size);have hpl:pb.length≤16384:=by rw[HND.out];exact hnd
 clear hpk hb4 HPK HP1;go_wp2_with (at_builtin;(refine wpList_app_pk w4 rfl (.tmp 12) (.tmp 14) rfl w.heap.size (.slice (some ⟨w2.heap.size,0,none⟩) 1 1) 1 [pm] rfl HP4.out A4 pb.length c4 pb rfl HS4.out (by omega) HW4.out.size ?_);intro A5 c5 w5 hp5 hb5 _;have HP5:=hid hp5;have HB5:=hid hb5;clear hp5 hb5);go_ret;have e:(pm::pb).length=1+pb.length:=by simp;omega
 refine⟨A5,c5,?_,?_,HW4.out.trans HB5.out⟩
 ·rw[e];rfl
 rw[e];exact HP5.out
end Go.Proofs.YtdjhlhellkajfaaGreat.Jou
namespace Go.Proofs.YtdjhlhellkajfaaGreat.Jou
open Go.RowKit Codec FrameM Cod JourM
open Disk (Turn Dk Dsk ptr Now)
open Frm (Sct Pk)
theorem box0{v:World}{k g gen:Nat}(h:v.heap[k]? =some (.cells #[.pointer (some ⟨g,0,none⟩),.int .i64 gen] 105 (0,0))):v.cell? ⟨k,0,none⟩=some (.pointer (some ⟨g,0,none⟩)):=cell_at h 0
theorem box1{v:World}{k g gen:Nat}(h:v.heap[k]? =some (.cells #[.pointer (some ⟨g,0,none⟩),.int .i64 gen] 105 (0,0))):v.cell? ⟨k,1,none⟩=some (.int .i64 gen):=cell_at h 1
theorem pk_drew{w:World}{lo n:Nat}{v:Value}{ls:List (List UInt8)}(h:Pk w lo v n ls):Pk w.drew lo v n ls:=h.kept (row:=none) ⟨rfl,rfl,rfl,Nat.le_refl _,fun _ _ _=>rfl⟩ (fun r e=>by cases e)
theorem HB.over{w0 w w':World}{k g gs gm gen lo:Nat}{d:Dsk}(h:HB w0 w k g gs gm gen d)(hb:Below lo w w')(hk:k<lo)(hd:∀x∈[g,gs,gm],x<lo)(hl:w0.heap.size≤lo):HB w0 w' k g gs gm gen d:=
 ⟨(hb.block k hk).trans h.bx,h.dk.keep (hb.block g (hd g (by simp))) (hb.block gs (hd gs (by simp))) (hb.block gm (hd gm (by simp))) hb.size,h.low.trans (hb.mono hl),h.lo⟩
structure Fst (w:World) (lo b g:Nat) (s:List UInt8):Prop where
 cell:w.cell? ⟨b,0,none⟩=some (.slice (some ⟨g,0,none⟩) 64 64)
 sec:w.heap[g]? =some (.cells (cel s).toArray 5 (0,0))
 lob:lo≤b
 log:lo≤g
 lt:b<w.heap.size
 len:s.length=64
theorem Fst.turn{w w':World}{lo b g:Nat}{s:List UInt8}{S:List Nat}(h:Fst w lo b g s)(ht:Turn S w w')(hS:∀k∈S,k<lo):Fst w' lo b g s:=
 ⟨(World.cell?_of_block (w:=w) (ht.block b h.lt (fun hm=>by have:=hS b hm;have:=h.lob;omega))).trans h.cell,(ht.block g (lt_of_heap h.sec) (fun hm=>by have:=hS g hm;have:=h.log;omega)).trans h.sec,h.lob,h.log,Nat.lt_of_lt_of_le h.lt ht.size,h.len⟩
theorem Fst.below{w w':World}{lo b g:Nat}{s:List UInt8}(h:Fst w lo b g s)(hb:Below w.heap.size w w'):Fst w' lo b g s:=h.turn (S:=[]) (Turn.ofBelow hb) (by simp)
theorem fst_of{w:World}{lo n c:Nat}{A:Option Addr}{s:List UInt8}{ls:List (List UInt8)}(h:Pk w lo (.slice A n c) n (s::ls)):∃b g,A=some ⟨b,0,none⟩∧Fst w lo b g s∧1≤n∧n≤c:=by
 have hl:(s::ls).length=n:=h.rows.len;have hn:1≤n:=by simp at hl;omega
 obtain⟨A',c',e,k1,k2⟩:=h.form;injection e with _ _ e3;subst e3;obtain⟨vs,ho,h1,h2,h3⟩:=h;obtain⟨b,cap,hv,hlo,hlt⟩:=World.ownsRow.form ho (by omega);have hA:A=some ⟨b,0,none⟩:=by injection hv
 subst hA;obtain⟨g,hg,q1,q2,q3⟩:=h3 0 (by omega);have hc:=ho.cells (g:=b) rfl 0 (vs.getD 0 undef) (by simp[List.getD_eq_getElem?_getD,show 0<vs.length by omega]);rw[plain_add,Nat.zero_add,hg] at hc;exact⟨b,g,rfl,⟨hc,q1,hlo,q2,hlt,q3⟩,hn,k1⟩
theorem Fst.rows{w:World}{lo b g:Nat}{s:List UInt8}{S:List Nat}(h:Fst w lo b g s)(hS:∀k∈S,k<lo)(hlo:lo≤w.heap.size):RowsB (w.alloc (.cells #[.slice (some ⟨g,0,none⟩) 64 64] 39)) S (some ⟨w.heap.size,0,none⟩) 1 [s]:=
 RowsB.of_pk (pk_one w lo g s ⟨g,rfl,h.sec,h.log,h.len⟩ hlo) hS
theorem run_app_end(w:World)(ty:TypeId)(lo n c:Nat)(A:Option Addr)(ls:List (List UInt8))(h:Pk w lo (.slice A n c) n ls)(hn:1≤n)(hnc:n≤c)(A2:Option Addr)(m c2:Nat)(ls2:List (List UInt8))(h2:Secs w lo A2 m ls2)(hm:m≤1)(hsz:n≤1000000)(hlo:lo≤w.heap.size):
  ∃A' c' w',(Builtin.append_ #[40,40] ty #[.slice (Frm.cutAt A 1 c) (n-1) (c-1),.slice A2 m c2]).run Tryz.prog w= .ok (.slice A' (n-1+m) c') w'∧Pk w' lo (.slice A n c) n ls∧Secs w' lo A' (n-1+m) (ls.drop 1++ls2)∧Below lo w w':=by
 by_cases h0:m=0
 ·subst h0;have e:ls2=[]:=List.eq_nil_of_length_eq_zero h2.len;subst e;obtain⟨i0,hi0,hz0,hz1,hz2⟩:=info_parts Frm.info24;have hnc2:n-1≤c-1:=by omega
  refine⟨Frm.cutAt A 1 c,c-1,w,?_,h,by rw[List.append_nil];exact(Secs.of_pk h).tail hnc,Below.refl _ _⟩;generalize Frm.cutAt A 1 c=X;cases A2<;>cases X<;>simp[Builtin.append_,run_underlying Tryz.underlying40,sizeOf,typeInfo,hi0,Builtin.lenOf,Builtin.firstCells,loadCells,loadCellsFrom,hnc2,storeCells]
 obtain rfl:m=1:=by omega
 obtain⟨b,off,rfl,_,_,hc⟩:=h2.at_ (by omega);obtain⟨u,hu,hs⟩:=hc 0 (by omega);obtain⟨A',c',w',r1,r2,r3,r4⟩:=run_app_tail w ty lo n c A ls h hn u (ls2.getD 0 []) hs ⟨b,off,none⟩ c2 hu hsz hlo;have e:ls2=[ls2.getD 0 []]:=by
  have:=h2.len;match ls2,this with
  |[x],_=>rfl
 rw[←e] at r3;rw[show n-1+1=n by omega];exact⟨A',c',w',r1,r2,r3,r4⟩
theorem cell_drew(w:World)(a:Addr):w.drew.cell? a=w.cell? a:=rfl
theorem wh_app_run{ops:Array Oper}{Q:Exit→Act→World→Prop}{md:Region.Mode}{S:World→Prop}{fuel:Nat}{listed:Array Bool}{a:Act}{w:World}(i d:Nat){oi:Oper}(hi:ops[i]? =some oi)(hd:oi.dst=some d)(hr:Region.ready md ops listed=[i])(hw:Region.wanted oi (yielded ops a.tmps)=true)
  (s x:Operand) (ho:oi.op= .call {callee:= .builtin .append,args:= #[s,x],argTypes:= #[40,40]}) (v y u:Value) (w':World) (hs:a.eval s=v) (hx:a.eval x=y) (hrun:(Builtin.append_ #[40,40] oi.type #[v,y]).run Tryz.prog w= .ok u w') (hS:S w')
  (h:wpAnyH Tryz.prog md ops Q S fuel (listed.setIfInBounds i true) (a.put (some d) u) w'):wpAnyH Tryz.prog md ops Q S (fuel+1) listed a w:=by
 refine Frm.wh_run i d u w' hi hd hr hw ?_ hS h;unfold execOp;simp only[ho,resolve,invoke,builtin,Sem.run_bind,Sem.run_pure,Result.andThen_ok,List.map_toArray,List.map_cons,List.map_nil,hs,hx,hrun]
theorem endL_length(n pos:Nat):(endL n pos).length≤1:=by unfold endL;split<;>simp
theorem extend_any(w:World)(g gs gm:Nat)(d:Dsk)(gen pos seq n c:Nat)(A:Option Addr)(b:List UInt8)(h:Dk w g gs gm d)(h2:2≤d.n)(hg:gen<9223372036854775808)(hb:Byts w w.heap.size A n b)(hn:n≤1048576)(hc:n≤c)(hr:pos+takes1 b≤room d.n):
  Calls Tryz.prog 65 #[hv g gen,.int .i64 pos,.int .i64 seq,.slice A n c] w (Now (.int .i64 (err (extB d gen pos seq b))) w g gs gm (extD d gen pos seq b)):=by
 have hn2:=h.ok.2.1;have hlo:=Dk.lows h;have HLO:=hid hlo;have HB0:=hid (HB.start gen h);have HX:=hid (hb.below (Frm.alloc_below w (hbox g gen)));have HLD:=hid (fun u hu=>laid_any u g gen seq n c A b hu hn hc);have HEN:=hid (fun u hu=>end_any u g gs gm d gen (pos+takes1 b) hu h2 (by unfold room at hr;omega));have HSE:=hid (fun u d' hd' hn'=>sector_any u g gs gm d' gen (pos+1) hd' hn' hg (by unfold room at hr;omega));have HSE2:=hid (fun u d' hd' hn'=>sector_any u g gs gm d' gen pos hd' hn' hg (by unfold room at hr;omega));have HKP:=hid (fun u A' c' hu hR=>keep_any u g gs gm d gen (secAt d.n gen (pos+1)) (extL d.n pos b).length c' A' (extL d.n pos b) hu hR (all64_ext d.n pos b) (by have:=sec_end (gen:=gen) h2 (extL_length hr);omega));have HKP2:=hid (fun u d' A' c' (hd':d'.n=d.n) hu hR=>keep_any u g gs gm d' gen (secAt d.n gen pos) 1 c' A' [put (markM gen seq b)] hu hR (fun s hs=>by rw[List.mem_singleton.1 hs];exact put_length (markM_right _ _ _)) (by have:=sec_lt (n:=d.n) (gen:=gen) (pos:=pos) h2 (by unfold takes1 at hr;omega);omega));have HLL:Hid (laid gen seq b=put (markM gen seq b)::pack b):=hid rfl;have HLN:=hid (laid_length gen seq b);have HT1:Hid (1≤takes1 b):=hid (by unfold takes1;omega);have HXL:Hid ((laid gen seq b).drop 1++endL d.n (pos+takes1 b)=extL d.n pos b):=hid rfl;have HEL:=hid (endL_length d.n (pos+takes1 b));have HNN:=hid (keepD_n d (secAt d.n gen (pos+1)) (extL d.n pos b));have H2:=hid h2;have HXB:Hid (∀kb,kb=keepB d (secAt d.n gen (pos+1)) (extL d.n pos b)→(kb=false→err (extB d gen pos seq b)=3∧extD d gen pos seq b=keepD d (secAt d.n gen (pos+1)) (extL d.n pos b))∧(kb=true→extB d gen pos seq b=keepB (keepD d (secAt d.n gen (pos+1)) (extL d.n pos b)) (secAt d.n gen pos) [put (markM gen seq b)]∧extD d gen pos seq b=keepD (keepD d (secAt d.n gen (pos+1)) (extL d.n pos b)) (secAt d.n gen pos) [put (markM gen seq b)])):=hid (fun kb hk=>by subst hk;exact⟨fun hf=>by unfold extB extD;rw[hf];exact⟨rfl,rfl⟩,fun hf=>by unfold extB extD;rw[hf];exact⟨rfl,rfl⟩⟩);have hp1:(pos:Int)≤100000:=by unfold room at hr;omega
 have ht1:(takes1 b:Int)≤100000:=by unfold room at hr;omega
 generalize hi1:secAt d.n gen (pos+1)=i1 at *;have HI1:=hid hi1;clear hi1;generalize hi2:secAt d.n gen pos=i2 at *;have HI2:=hid hi2;clear hi2;generalize extL d.n pos b=xl at *;generalize endL d.n (pos+takes1 b)=el at *;generalize extB d gen pos seq b=XB at *;generalize extD d gen pos seq b=XD at *;generalize laid gen seq b=LL at *;generalize put (markM gen seq b)=pm at *;generalize pack b=pb at *;generalize takes1 b=N at *;generalize keepB d i1 xl=kb at *;generalize keepD d i1 xl=d1 at *;unfold hv at *;unfold hbox at *;unfold ptr at *;clear h hb hg hr hn hc h2 hn2 hlo;go_enter Tryz.func65,Tryz.ntmps65;go_wp2_with fail;obtain⟨W,hW⟩:∃W,w.alloc (.cells #[.pointer (some ⟨g,0,none⟩),.int .i64 gen] 105)=W:=⟨_,rfl⟩
 have hWs:W.heap.size=w.heap.size+1:=by rw[←hW];simp
 rw[hW] at HB0 HX ⊢;have HWT:Hid (Turn [] w W):=hid (by rw[←hW];exact(Turn.refl [] w).alloc _);have HWS:=hid hWs;clear hW hWs;refine(HLD.out W (HX.out.more (by have:=HWS.out;omega))).mono ?_;rintro e w1 ⟨A9,c9,rfl,hpk,hb1⟩;rw[HLN.out] at hpk ⊢;have HS:=hid (HB0.out.call hb1);have HP:=hid hpk;have HZ:=hid hb1.size;have HT:Hid (Turn [] w w1):=hid (HWT.out.trans (Turn.ofBelow hb1));clear hpk hb1 HLD HX;obtain⟨b9,g9,hA9,_,hN1,hN9⟩:=fst_of (by rw[HLL.out] at HP;exact HP.out);subst hA9;have hcut:=fun v=>cut_one (some ⟨b9,0,none⟩) N c9 hN1 v;go_wp2_with fail;have HS:=hid HS.out.drew;have HP:=hid (pk_drew HP.out);have HT:Hid (Turn [] w w1.drew):=hid HT.out.drew;refine Frm.wh_start (fun w'=>w'.heap[w.heap.size]? =some (.cells #[.pointer (some ⟨g,0,none⟩),.int .i64 gen] 105 (0,0))) (by kernel_rfl) ?_;refine Frm.wa 0 16 (.slice (some ⟨b9,0,none⟩) N c9) HS.out.bx ?_;go_frame;refine Frm.wb 1 17 (.slice (Frm.cutAt (some ⟨b9,0,none⟩) 1 c9) (N-1) (c9-1)) HS.out.bx ?_;go_frame;refine Frm.wd 2 18 (.agg #[.pointer (some ⟨g,0,none⟩),.int .i64 gen]) HS.out.bx (fun w' hw'=> ?_) ?_
 ·have h0:=box0 hw';have h1:=box1 hw';go_simp
 go_frame;refine Frm.wa 3 19 (.int .i64 pos) HS.out.bx ?_;go_frame;refine Frm.wa 4 20 (.slice (some ⟨b9,0,none⟩) N c9) HS.out.bx ?_;go_frame;refine Frm.wb 5 21 (.int .i64 N) HS.out.bx ?_;go_frame;have hw1:IntKind.i64.wrap ((pos:Int)+(N:Int))=(pos:Int)+(N:Int):=IntWalk.i64_in _ (by omega);refine Frm.wb 6 22 (.int .i64 ((pos:Int)+(N:Int))) HS.out.bx ?_;go_frame;have HC:=hid (HEN.out w1.drew HS.out.dk);push_cast at HC;refine Frm.wh_call 7 23 97 #[.agg #[.pointer (some ⟨g,0,none⟩),.int .i64 gen],.int .i64 ((pos:Int)+(N:Int))] rfl rfl (by kernel_rfl) rfl ?_ ?_
 ·go_simp
 refine(HC.out).mono ?_;rintro e w2 ⟨A8,c8,rfl,hse,hb2,_,_⟩;have HS:=hid (HS.out.call hb2);have HP:=hid (HP.out.below hb2);have HSE3:=hid (hse.mono (lo':=W.heap.size) HZ.out);have HT:Hid (Turn [] w w2):=hid (HT.out.trans (Turn.ofBelow hb2));have HZ2:Hid (W.heap.size≤w2.heap.size):=hid (Nat.le_trans HZ.out hb2.size);clear hse hb2 HC HEN;refine⟨_,rfl,HS.out.bx,?_⟩;go_frame;obtain⟨A',c',w3,hrun,hpk,hse,hb3⟩:=run_app_end w2 40 W.heap.size N c9 _ LL HP.out hN1 hN9 A8 el.length c8 el HSE3.out HEL.out (by omega) HZ2.out;rw[HXL.out] at hse;have hM:N-1+el.length=xl.length:=by have:=hse.len;omega
 rw[hM] at hrun hse;have hlow:∀x∈[g,gs,gm],x<W.heap.size:=fun x hx=>by have:=HLO.out x hx;have:=HWS.out;omega
 have HS:=hid (HS.out.over hb3 (by have:=HWS.out;omega) hlow (by have:=HWS.out;omega));have HP:=hid hpk;have HXR:=hid (hse.rowsB (S:=[g,gs,gm]) hlow);have HT:Hid (Below w.heap.size w w3):=hid ((HT.out.low (by simp) (Nat.le_refl _)).trans (hb3.mono (by have:=HWS.out;omega)));have HZ3:Hid (W.heap.size≤w3.heap.size):=hid (Nat.le_trans HZ2.out hb3.size);clear hpk hse hb3 hM HSE3 HZ2 HEL HXL;refine wh_app_run 8 24 rfl rfl (by kernel_rfl) rfl (.tmp 17) (.tmp 23) rfl _ _ (.slice A' xl.length c') w3 rfl rfl hrun HS.out.bx ?_;go_frame;clear hrun;refine Frm.wa 9 10 (.slice A' xl.length c') HS.out.bx ?_;go_frame;refine wpAnyH_done (by kernel_rfl) ?_ _;clear hcut hw1;go_wp2_with fail;have HS:=hid HS.out.drew;have HP:=hid (pk_drew HP.out);have HXR:=hid (HXR.out.turn (Turn.drew (Turn.refl [] w3)) (by simp));have HT:Hid (Below w.heap.size w w3.drew):=hid HT.out.drew;refine Frm.wh_start (fun w'=>w'.heap[w.heap.size]? =some (.cells #[.pointer (some ⟨g,0,none⟩),.int .i64 gen] 105 (0,0))) (by kernel_rfl) ?_;refine Frm.wd 0 25 (.agg #[.pointer (some ⟨g,0,none⟩),.int .i64 gen]) HS.out.bx (fun w' hw'=> ?_) ?_
 ·have h0:=box0 hw';have h1:=box1 hw';go_simp
 go_frame;refine Frm.wd 1 26 (.agg #[.pointer (some ⟨g,0,none⟩),.int .i64 gen]) HS.out.bx (fun w' hw'=> ?_) ?_
 ·have h0:=box0 hw';have h1:=box1 hw';go_simp
 go_frame;refine Frm.wa 2 27 (.int .i64 pos) HS.out.bx ?_;go_frame;have hw1:IntKind.i64.wrap ((pos:Int)+1)=(pos:Int)+1:=IntWalk.i64_in _ (by omega);refine Frm.wb 3 28 (.int .i64 ((pos:Int)+1)) HS.out.bx ?_;go_frame;refine Frm.wa 5 30 (.slice A' xl.length c') HS.out.bx ?_;go_frame;have hsq:=HSE.out w3.drew d HS.out.dk H2.out;rw[HI1.out] at hsq;push_cast at hsq;have HC:=hid hsq;clear hsq;refine Frm.wh_call 4 29 99 #[.agg #[.pointer (some ⟨g,0,none⟩),.int .i64 gen],.int .i64 ((pos:Int)+1)] rfl rfl (by kernel_rfl) rfl ?_ ?_
 ·go_simp
 refine(HC.out).mono ?_;rintro e w4 ⟨rfl,hb4⟩;have HS:=hid (HS.out.call hb4);have HP:=hid (HP.out.below hb4);have HXR:=hid (HXR.out.below hb4);have HT:Hid (Below w.heap.size w w4):=hid (HT.out.trans (hb4.mono HT.out.size));have HZ4:Hid (W.heap.size≤w4.heap.size):=hid (Nat.le_trans HZ3.out hb4.size);clear hb4 HC;refine⟨_,rfl,HS.out.bx,?_⟩;go_frame;refine Frm.wh_call 6 31 98 #[.agg #[.pointer (some ⟨g,0,none⟩),.int .i64 gen],.int .i64 i1,.slice A' xl.length c'] rfl rfl (by kernel_rfl) rfl ?_ ?_
 ·go_simp
 refine(HKP.out w4 A' c' HS.out.dk HXR.out).mono ?_;rintro e w5 ⟨rfl,hdk,ht⟩;have HBX:=hid (HS.out.disk ht);have HD1:=hid hdk;have HTT:=hid ht;obtain⟨b9',g9',hA9,hfst,_,_⟩:=fst_of (by rw[HLL.out] at HP;exact HP.out);obtain rfl:b9=b9':=by injection hA9 with e1;injection e1
 have HF:=hid (hfst.turn ht hlow);have HZ5:Hid (W.heap.size≤w5.heap.size):=hid (Nat.le_trans HZ4.out ht.size);clear hdk ht hfst hA9 HP HXR;refine⟨_,rfl,HBX.out,?_⟩;go_frame;refine Frm.wa 7 11 (.int .i64 (err kb)) HBX.out ?_;go_frame;refine wpAnyH_done (by kernel_rfl) ?_ _;clear hw1;rcases Bool.eq_false_or_eq_true kb with hk|hk
 ·have HX2:=hid ((HXB.out kb rfl).2 hk);rw[hk];clear hk HXB;have he:err true=0:=rfl;rw[he];clear he;go_wp2_with fail;have hidx:∀v:World,(Instr.indexAt 40 (.slice (some ⟨b9,0,none⟩) N c9) (.int .i64 0)).run Tryz.prog v= .ok (.pointer (some ⟨b9,0,none⟩)) v:=fun v=>by
   have h0:0<N:=by omega
   simp[Instr.indexAt,asIntOf,run_underlying Tryz.underlying40,Result.andThen,plain_add];intro h1;omega
  have HBX:=hid (And.intro HBX.out HF.out.cell);refine Frm.wh_start (fun w'=>(w'.heap[w.heap.size]? =some (.cells #[.pointer (some ⟨g,0,none⟩),.int .i64 gen] 105 (0,0)))∧w'.cell? ⟨b9,0,none⟩=some (.slice (some ⟨g9',0,none⟩) 64 64)) (by kernel_rfl) ?_;have HBD:Hid ((w5.drew.heap[w.heap.size]? =some (.cells #[.pointer (some ⟨g,0,none⟩),.int .i64 gen] 105 (0,0)))∧w5.drew.cell? ⟨b9,0,none⟩=some (.slice (some ⟨g9',0,none⟩) 64 64)):=hid ⟨HBX.out.1,(cell_drew _ _).trans HBX.out.2⟩;refine Frm.wd 0 35 (.agg #[.pointer (some ⟨g,0,none⟩),.int .i64 gen]) HBD.out (fun w' hw'=> ?_) ?_
  ·have h0:=box0 hw'.1;have h1:=box1 hw'.1;go_simp
  go_frame;refine Frm.wd 1 36 (.agg #[.pointer (some ⟨g,0,none⟩),.int .i64 gen]) HBD.out (fun w' hw'=> ?_) ?_
  ·have h0:=box0 hw'.1;have h1:=box1 hw'.1;go_simp
  go_frame;refine Frm.wa 2 37 (.int .i64 pos) HBD.out ?_;go_frame;refine Frm.wa 4 39 (.slice (some ⟨b9,0,none⟩) N c9) HBD.out ?_;go_frame;refine Frm.wb 5 40 (.pointer (some ⟨b9,0,none⟩)) HBD.out ?_;go_frame;refine Frm.wd 6 41 (.slice (some ⟨g9',0,none⟩) 64 64) HBD.out (fun w' hw'=> ?_) ?_
  ·have h2:=hw'.2;go_simp
  go_frame;have HDD:Hid (Dk w5.drew g gs gm d1):=hid (HD1.out.drewN 1);have HF:=hid (HF.out.turn (Turn.drew (Turn.refl [] w5)) (by simp));have HTT:Hid (Turn [g,gs,gm] w4 w5.drew):=hid HTT.out.drew;have HZ5:Hid (W.heap.size≤w5.drew.heap.size):=hid HZ5.out;have HC:=hid (fun u hu=>HSE2.out u d1 hu (by rw[HNN.out];exact H2.out));have HSQ:Hid (∀u,Dk u g gs gm d1→Calls Tryz.prog 99 #[.agg #[.pointer (some ⟨g,0,none⟩),.int .i64 gen],.int .i64 pos] u (EndsBelow (.int .i64 i2) u)):=hid (fun u hu=>by have:=HSE2.out u d1 hu (by rw[HNN.out];exact H2.out);rwa [HNN.out,HI2.out] at this);skip
  generalize w5.drew=w6 at *;refine Frm.wh_all2 3 7 (by kernel_rfl) ?_ ?_
  ·refine Frm.wo_call 38 99 #[.agg #[.pointer (some ⟨g,0,none⟩),.int .i64 gen],.int .i64 pos] rfl rfl rfl ?_ ?_
   ·go_simp
   refine(HSQ.out w6 HDD.out).mono ?_;rintro e w7 ⟨rfl,hb7⟩;have HDD:=hid (Dk.below HDD.out hb7);have HF:=hid (HF.out.below hb7);have HTT:Hid (Turn [g,gs,gm] w4 w7):=hid (HTT.out.below hb7);have HZ5:Hid (W.heap.size≤w7.heap.size):=hid (Nat.le_trans HZ5.out hb7.size);have HBD:Hid ((w7.heap[w.heap.size]? =some (.cells #[.pointer (some ⟨g,0,none⟩),.int .i64 gen] 105 (0,0)))∧w7.cell? ⟨b9,0,none⟩=some (.slice (some ⟨g9',0,none⟩) 64 64)):=hid ⟨(hb7.block _ (lt_of_heap HBD.out.1)).trans HBD.out.1,HF.out.cell⟩;clear hb7;refine⟨_,rfl,HBD.out,?_⟩;go_frame;refine Frm.wh_run 7 42 (.slice (some ⟨w7.heap.size,0,none⟩) 1 1) (w7.alloc (.cells #[.slice (some ⟨g9',0,none⟩) 64 64] 39)) rfl rfl (by kernel_rfl) rfl ?_ (by have hba:=Frm.alloc_below w7 (.cells #[.slice (some ⟨g9',0,none⟩) 64 64] 39);exact⟨(hba.block _ (lt_of_heap HBD.out.1)).trans HBD.out.1,(HF.out.below hba).cell⟩) ?_
   ·go_simp
   go_frame;have HRW:=hid (HF.out.rows (S:=[g,gs,gm]) hlow HZ5.out);have HDD:=hid (HDD.out.alloc (.cells #[.slice (some ⟨g9',0,none⟩) 64 64] 39));have hba:=Frm.alloc_below w7 (.cells #[.slice (some ⟨g9',0,none⟩) 64 64] 39);have HF:=hid (HF.out.below hba);have HTT:=hid (HTT.out.below hba);have HZ5:=hid (Nat.le_trans HZ5.out hba.size);have HBD:=hid (And.intro ((hba.block _ (lt_of_heap HBD.out.1)).trans HBD.out.1) HF.out.cell);obtain⟨kb2,hkb2⟩:∃kb2,w7.heap.size=kb2:=⟨_,rfl⟩
   rw[hkb2] at HRW ⊢;generalize w7.alloc (.cells #[.slice (some ⟨g9',0,none⟩) 64 64] 39)=w8 at *;clear hba hkb2;refine Frm.wh_call 8 43 98 #[.agg #[.pointer (some ⟨g,0,none⟩),.int .i64 gen],.int .i64 i2,.slice (some ⟨kb2,0,none⟩) 1 1] rfl rfl (by kernel_rfl) rfl ?_ ?_
   ·go_simp
   refine(HKP2.out _ d1 _ 1 HNN.out HDD.out HRW.out).mono ?_;rintro e w11 ⟨rfl,hdk,ht⟩;have HFF:=hid (And.intro hdk (HTT.out.trans ht));have HBD:Hid ((w11.heap[w.heap.size]? =some (.cells #[.pointer (some ⟨g,0,none⟩),.int .i64 gen] 105 (0,0)))∧w11.cell? ⟨b9,0,none⟩=some (.slice (some ⟨g9',0,none⟩) 64 64)):=hid ⟨(ht.block _ (lt_of_heap HBD.out.1) (apart_disk HDD.out HBD.out.1 (by decide) (by simp))).trans HBD.out.1,(HF.out.turn ht hlow).cell⟩;clear hdk ht;refine⟨_,rfl,HBD.out,?_⟩;go_frame;refine Frm.wa 9 8 (.int .i64 (err (keepB d1 i2 [pm]))) HBD.out ?_;go_frame;refine wpAnyH_done (by kernel_rfl) ?_ _;go_wp2_with fail;go_ret;rw[HX2.out.1,HX2.out.2];exact⟨rfl,HFF.out.1,(Turn.ofBelow (S:=[g,gs,gm]) HT.out).trans HFF.out.2⟩
  refine Frm.wo_run 42 (.slice (some ⟨w6.heap.size,0,none⟩) 1 1) (w6.alloc (.cells #[.slice (some ⟨g9',0,none⟩) 64 64] 39)) rfl rfl rfl ?_ ?_
  ·go_simp
  refine⟨(by have hba:=Frm.alloc_below w6 (.cells #[.slice (some ⟨g9',0,none⟩) 64 64] 39);exact⟨(hba.block _ (lt_of_heap HBD.out.1)).trans HBD.out.1,(HF.out.below hba).cell⟩),?_⟩;go_frame;have HRW:=hid (HF.out.rows (S:=[g,gs,gm]) hlow HZ5.out);have HDD:=hid (HDD.out.alloc (.cells #[.slice (some ⟨g9',0,none⟩) 64 64] 39));have hba:=Frm.alloc_below w6 (.cells #[.slice (some ⟨g9',0,none⟩) 64 64] 39);have HF:=hid (HF.out.below hba);have HTT:=hid (HTT.out.below hba);have HZ5:=hid (Nat.le_trans HZ5.out hba.size);have HBD:=hid (And.intro ((hba.block _ (lt_of_heap HBD.out.1)).trans HBD.out.1) HF.out.cell);obtain⟨kb2,hkb2⟩:∃kb2,w6.heap.size=kb2:=⟨_,rfl⟩
  rw[hkb2] at HRW ⊢;generalize w6.alloc (.cells #[.slice (some ⟨g9',0,none⟩) 64 64] 39)=w8 at *;clear hba hkb2;refine Frm.wh_call 3 38 99 #[.agg #[.pointer (some ⟨g,0,none⟩),.int .i64 gen],.int .i64 pos] rfl rfl (by kernel_rfl) rfl ?_ ?_
  ·go_simp
  refine(HSQ.out w8 HDD.out).mono ?_;rintro e w9 ⟨rfl,hb7⟩;have HDD:=hid (Dk.below HDD.out hb7);have HF:=hid (HF.out.below hb7);have HRW:=hid (HRW.out.below hb7);have HTT:Hid (Turn [g,gs,gm] w4 w9):=hid (HTT.out.below hb7);have HZ5:Hid (W.heap.size≤w9.heap.size):=hid (Nat.le_trans HZ5.out hb7.size);have HBD:Hid ((w9.heap[w.heap.size]? =some (.cells #[.pointer (some ⟨g,0,none⟩),.int .i64 gen] 105 (0,0)))∧w9.cell? ⟨b9,0,none⟩=some (.slice (some ⟨g9',0,none⟩) 64 64)):=hid ⟨(hb7.block _ (lt_of_heap HBD.out.1)).trans HBD.out.1,HF.out.cell⟩;clear hb7;refine⟨_,rfl,HBD.out,?_⟩;go_frame;refine Frm.wh_call 8 43 98 #[.agg #[.pointer (some ⟨g,0,none⟩),.int .i64 gen],.int .i64 i2,.slice (some ⟨kb2,0,none⟩) 1 1] rfl rfl (by kernel_rfl) rfl ?_ ?_
  ·go_simp
  refine(HKP2.out _ d1 _ 1 HNN.out HDD.out HRW.out).mono ?_;rintro e w11 ⟨rfl,hdk,ht⟩;have HFF:=hid (And.intro hdk (HTT.out.trans ht));have HBD:Hid ((w11.heap[w.heap.size]? =some (.cells #[.pointer (some ⟨g,0,none⟩),.int .i64 gen] 105 (0,0)))∧w11.cell? ⟨b9,0,none⟩=some (.slice (some ⟨g9',0,none⟩) 64 64)):=hid ⟨(ht.block _ (lt_of_heap HBD.out.1) (apart_disk HDD.out HBD.out.1 (by decide) (by simp))).trans HBD.out.1,(HF.out.turn ht hlow).cell⟩;clear hdk ht;refine⟨_,rfl,HBD.out,?_⟩;go_frame;refine Frm.wa 9 8 (.int .i64 (err (keepB d1 i2 [pm]))) HBD.out ?_;go_frame;refine wpAnyH_done (by kernel_rfl) ?_ _;go_wp2_with fail;go_ret;rw[HX2.out.1,HX2.out.2];exact⟨rfl,HFF.out.1,(Turn.ofBelow (S:=[g,gs,gm]) HT.out).trans HFF.out.2⟩
 have HX2:=hid ((HXB.out kb rfl).1 hk);rw[hk];clear hk HXB;have he:err false=3:=rfl;rw[he];clear he;go_wp2_with fail;go_ret;rw[HX2.out.1,HX2.out.2];exact⟨rfl,HD1.out,(Turn.ofBelow (S:=[g,gs,gm]) HT.out).trans HTT.out⟩
end Go.Proofs.YtdjhlhellkajfaaGreat.Jou
namespace Go.Proofs.YtdjhlhellkajfaaGreat.Jou
open Go.RowKit Codec FrameM Cod JourM
open Disk (Turn Dk Dsk ptr Now)
open Frm (Sct Pk)
theorem laidAll_snoc(gen k:Nat)(ls:List (List UInt8))(h:k<ls.length):laidAll gen 0 (ls.take (k+1))=laidAll gen 0 (ls.take k)++laid gen k (ls.getD k []):=by
 rw[List.take_succ_eq_append_getElem h,laidAll_app,Nat.zero_add,List.length_take,Nat.min_eq_left (by omega)];simp[laidAll,List.getD_eq_getElem?_getD,h]
theorem takes_take(ls:List (List UInt8))(k:Nat):takes (ls.take k)≤takes ls:=by
 have:takes ls=takes (ls.take k)+takes (ls.drop k):=by rw[←takes_app,List.take_append_drop]
 omega
theorem takes_snoc_take(ls:List (List UInt8))(k:Nat)(h:k<ls.length):takes (ls.take (k+1))=takes (ls.take k)+takes1 (ls.getD k []):=by
 rw[List.take_succ_eq_append_getElem h,takes_snoc];simp[List.getD_eq_getElem?_getD,h]
structure BRel (w0 W u:World) (k0 g gs gm gen:Nat) (d:Dsk) (A:Option Addr) (n:Nat) (ls:List (List UInt8)) (k:Nat) (v:Value):Prop where
 hb:HB w0 u k0 g gs gm gen d
 low:Below W.heap.size W u
 pk:Pk u W.heap.size v (takes (ls.take k)) (laidAll gen 0 (ls.take k))
theorem begin_any(w:World)(g gs gm:Nat)(d:Dsk)(gen n c:Nat)(A:Option Addr)(ls:List (List UInt8))(h:Dk w g gs gm d)(h2:2≤d.n)(hg:gen<9223372036854775808)(hr:Frm.Rows w w.heap.size A n ls)(hb:∀b∈ls,b.length≤1048576)(ht:takes ls≤room d.n):
  Calls Tryz.prog 54 #[hv g gen,.slice A n c] w (Now (.int .i64 (err (beginB d gen ls))) w g gs gm (beginD d gen ls)):=by
 have hn2:=h.ok.2.1;have hlo:=Dk.lows h;have HLO:=hid hlo;have HB0:=hid (HB.start gen h);have HX:=hid ((RowsB.of_rows (S:=[]) hr (Nat.le_refl _) (by simp)).below (Frm.alloc_below w (hbox g gen)));have hlen:=hr.len;have HLEN:=hid hlen;have HBB:=hid hb;have HTK:=hid ht;have HRM:Hid (room d.n≤65536):=hid (by unfold room;omega);have HEN:=hid (fun u hu=>end_any u g gs gm d gen (takes ls) hu h2 (by unfold room at ht;omega));have HSQ:=hid (fun u hu=>sector_any u g gs gm d gen 0 hu h2 hg (by omega));have HPL:=hid (fun u=>place_any u gen hg);have HHD:=hid (fun u=>head_any u gen);have HPT:=hid (fun u=>Frm.put_new (headM gen) u (headM_right gen));have HKP:=hid (fun u A' c' hu hR=>keep_any u g gs gm d gen (secAt d.n gen 0) (beginL d.n gen ls).length c' A' (beginL d.n gen ls) hu hR (all64_begin d.n gen ls) (by have:=sec_end (gen:=gen) (p:=0) (k:=(beginL d.n gen ls).length) h2 (by rw[Nat.zero_add];exact(beginL_length ht).1);omega));have HKP2:=hid (fun u d' A' c' (hd':d'.n=d.n) hu hR=>keep_any u g gs gm d' gen (gen%2) 1 c' A' [put (headM gen)] hu hR (fun s hs=>by rw[List.mem_singleton.1 hs];exact put_length (headM_right _)) (by omega));have HPM:=hid (put_length (headM_right gen));have HXL:Hid (laidAll gen 0 ls++endL d.n (takes ls)=beginL d.n gen ls):=hid rfl;have HEL:=hid (endL_length d.n (takes ls));have HNN:=hid (keepD_n d (secAt d.n gen 0) (beginL d.n gen ls));have HXB:Hid (∀kb,kb=keepB d (secAt d.n gen 0) (beginL d.n gen ls)→(kb=false→err (beginB d gen ls)=3∧beginD d gen ls=keepD d (secAt d.n gen 0) (beginL d.n gen ls))∧(kb=true→beginB d gen ls=keepB (keepD d (secAt d.n gen 0) (beginL d.n gen ls)) (gen%2) [put (headM gen)]∧beginD d gen ls=keepD (keepD d (secAt d.n gen 0) (beginL d.n gen ls)) (gen%2) [put (headM gen)])):=hid (fun kb hk=>by subst hk;exact⟨fun hf=>by unfold beginB beginD;rw[hf];exact⟨rfl,rfl⟩,fun hf=>by unfold beginB beginD;rw[hf];exact⟨rfl,rfl⟩⟩);generalize secAt d.n gen 0=i1 at *;generalize beginL d.n gen ls=xl at *;generalize endL d.n (takes ls)=el at *;generalize beginB d gen ls=XB at *;generalize beginD d gen ls=XD at *;generalize put (headM gen)=pm at *;generalize gen%2=i2 at *;generalize keepB d i1 xl=kb at *;generalize keepD d i1 xl=d1 at *;unfold hv at *;unfold hbox at *;unfold ptr at *;clear h hb hg hr h2 hn2 hlo hlen ht;go_enter Tryz.func54,Tryz.ntmps54;go_wp2_with fail;obtain⟨W,hW⟩:∃W,w.alloc (.cells #[.pointer (some ⟨g,0,none⟩),.int .i64 gen] 105)=W:=⟨_,rfl⟩
 have hWs:W.heap.size=w.heap.size+1:=by rw[←hW];simp
 rw[hW] at HB0 HX ⊢;have HWT:Hid (Below w.heap.size w W):=hid (by rw[←hW];exact Frm.alloc_below _ _);have HWS:=hid hWs;clear hW hWs;go_loopw [5,11] (fun v i' wr=>∃k:Nat,k≤n∧i'= .int .i64 k∧BRel w W wr w.heap.size g gs gm gen d A n ls k v) (fun _ i' _=>n-(Go.RowKit.intOf i').toNat)
 case atStart=>exact⟨0,by omega,rfl,HB0.out,Below.refl _ _,by simpa [laidAll,takes] using Frm.Pk.nil⟩
 case round=>
  obtain⟨k,hk,rfl,hrl⟩:=hrel;have HK:=hid hrl;clear hrl;have hlow:∀x∈[g,gs,gm],x<W.heap.size:=fun x hx=>by have:=HLO.out x hx;have:=HWS.out;omega
  have hwk:w.heap.size<W.heap.size:=by have:=HWS.out;omega
  have HLW:=hid (And.intro hlow hwk);clear hlow hwk;have hc0:=box0 HK.out.hb.bx;have hc1:=box1 HK.out.hb.bx;by_cases hlt:k<n
  ·obtain⟨b,o,Aj,cj,hat⟩:=(HX.out.below HK.out.low).at hlt;have hkl:k<ls.length:=by rw[HLEN.out];exact hlt
   have hle:(ls.getD k []).length≤1048576:=HBB.out _ (by rw[Frm.getD_of hkl];exact List.getElem_mem _);have HLS:=hid (laidAll_snoc gen k ls hkl);have HTS:=hid (takes_snoc_take ls k hkl);have htt:takes (ls.take (k+1))≤65536:=by have:=takes_take ls (k+1);have:=HTK.out;have:=HRM.out;omega
   have HTT:=hid htt;have hidx:=hat.index c;obtain⟨_,hcell,hbt,hlc,hcm,_⟩:=hat;have HLD:=hid (laid_any wr g gen k _ cj Aj (ls.getD k []) hbt.byts hle hlc);have HLN:=hid (laid_length gen k (ls.getD k []));have hi64:(k:Int)≤1000000:=by have:=takes_length ls;have:=HTK.out;have:=HRM.out;have:=HLEN.out;omega
   unfold hv ptr at HLD;clear hbt hkl htt hle hlc hcm;generalize laid gen k (ls.getD k [])=ll at *;generalize (ls.getD k []).length=lx at *;go_wp2_with fail;refine HLD.out.mono ?_;rintro e w2 ⟨A2,c2,rfl,hpk,hb2⟩;rw[HLN.out] at hpk ⊢;have HP:=hid (HK.out.pk.below hb2);have HSS:=hid ((Secs.of_pk hpk).mono HK.out.low.size);have HBH:=hid (HK.out.hb.call hb2);have HLL:=hid (HK.out.low.trans (hb2.mono HK.out.low.size));clear hpk hb2 HLD hidx hcell;obtain⟨A1,c1,hv1,_,_⟩:=HP.out.form;subst hv1;have hsum:takes (ls.take k)+takes1 (ls.getD k [])≤1000000:=by have:=HTT.out;have:=HTS.out;omega
   go_wp2_with (at_builtin;(refine wpList_app_pk w2 rfl (.tmp 16) (.tmp 20) rfl W.heap.size (.slice A1 (takes (ls.take k)) c1) _ _ rfl HP.out A2 _ c2 ll rfl HSS.out hsum HLL.out.size ?_);intro A3 c3 w3 hp3 hb3 _;have HP3:=hid hp3;have HB3:=hid hb3;clear hp3 hb3);go_roundw
   case rel=>
    refine⟨k+1,by omega,by go_num,HBH.out.over HB3.out HLW.out.2 HLW.out.1 (Nat.le_of_lt HLW.out.2),HLL.out.trans HB3.out,?_⟩;rw[HLS.out,HTS.out];exact HP3.out
   case measure=>simp[Go.RowKit.intOf];omega
  obtain rfl:k=n:=by omega
  have htk:ls.take k=ls:=List.take_of_length_le (by rw[HLEN.out];exact Nat.le_refl _);have hpk:=HK.out.pk;rw[htk] at hpk;have HP:=hid hpk;obtain⟨A1,c1,hv1,_,_⟩:=hpk.form;subst hv1;clear hpk htk;have HS:=hid HK.out.hb;have HT:=hid HK.out.low;have HPN:Hid ((laidAll gen 0 ls).length=takes ls):=hid (laidAll_length gen 0 ls);have hm1:(takes ls:Int)≤65536:=by have:=HTK.out;have:=HRM.out;omega
  have HM1:Hid (takes ls≤65536):=hid (by have:=HTK.out;have:=HRM.out;omega);clear HK HTK;generalize laidAll gen 0 ls=la at *;generalize takes ls=m at *;have HC:=hid (HEN.out wr HS.out.dk);go_wp2_with fail;refine HC.out.mono ?_;rintro e w2 ⟨A8,c8,rfl,hse,hb2,_,_⟩;have HP:=hid (HP.out.below hb2);have HSS:=hid (hse.mono HT.out.size);have HS:=hid (HS.out.call hb2);have HT:=hid (HT.out.trans (hb2.mono HT.out.size));clear hse hb2 HC HEN hc0 hc1;have hsum:m+el.length≤1000000:=by have:=HEL.out;have:=HM1.out;omega
  go_wp2_with (at_builtin;(refine wpList_app_pk w2 rfl (.tmp 23) (.tmp 27) rfl W.heap.size (.slice A1 m c1) m la rfl HP.out A8 _ c8 el rfl HSS.out hsum HT.out.size ?_);intro A3 c3 w3 hp3 hb3 _;have HP3:=hid hp3;have HB3:=hid hb3;clear hp3 hb3);have hp3:=HP3.out;rw[HXL.out] at hp3;have hM:m+el.length=xl.length:=by have:=hp3.rows.len;omega
  rw[hM] at hp3;have HS:=hid (HS.out.over HB3.out HLW.out.2 HLW.out.1 (Nat.le_of_lt HLW.out.2));have HT:=hid (HT.out.trans HB3.out);have HXR:=hid ((Secs.of_pk hp3).rowsB (S:=[g,gs,gm]) HLW.out.1);rw[hM];clear hp3 hM hsum HP3 HB3 HP HSS HXL HEL;have HS:=hid HS.out.drew;have HXR:=hid (HXR.out.turn (Turn.drew (Turn.refl [] w3)) (by simp));have HT:Hid (Below w.heap.size w w3.drew):=hid ((HWT.out.trans (HT.out.mono (by have:=HLW.out.2;omega))).drew);refine Frm.wh_start (fun w'=>w'.heap[w.heap.size]? =some (.cells #[.pointer (some ⟨g,0,none⟩),.int .i64 gen] 105 (0,0))) (by kernel_rfl) ?_;refine Frm.wd 0 29 (.agg #[.pointer (some ⟨g,0,none⟩),.int .i64 gen]) HS.out.bx (fun w' hw'=> ?_) ?_
  ·have h0:=box0 hw';have h1:=box1 hw';go_simp
  go_frame;refine Frm.wd 1 30 (.agg #[.pointer (some ⟨g,0,none⟩),.int .i64 gen]) HS.out.bx (fun w' hw'=> ?_) ?_
  ·have h0:=box0 hw';have h1:=box1 hw';go_simp
  go_frame;refine Frm.wa 3 32 (.slice A3 xl.length c3) HS.out.bx ?_;go_frame;have hsq:=HSQ.out w3.drew HS.out.dk;have HC:=hid hsq;clear hsq;refine Frm.wh_call 2 31 99 #[.agg #[.pointer (some ⟨g,0,none⟩),.int .i64 gen],.int .i64 0] rfl rfl (by kernel_rfl) rfl ?_ ?_
  ·go_simp
  refine(HC.out).mono ?_;rintro e w4 ⟨rfl,hb4⟩;have HS:=hid (HS.out.call hb4);have HXR:=hid (HXR.out.below hb4);have HT:Hid (Below w.heap.size w w4):=hid (HT.out.trans (hb4.mono HT.out.size));clear hb4 HC;refine⟨_,rfl,HS.out.bx,?_⟩;go_frame;refine Frm.wh_call 4 33 98 #[.agg #[.pointer (some ⟨g,0,none⟩),.int .i64 gen],.int .i64 i1,.slice A3 xl.length c3] rfl rfl (by kernel_rfl) rfl ?_ ?_
  ·go_simp
  refine(HKP.out w4 A3 c3 HS.out.dk HXR.out).mono ?_;rintro e w5 ⟨rfl,hdk,ht⟩;have HBX:=hid (HS.out.disk ht);have HD1:=hid hdk;have HTT:=hid ht;clear hdk ht HXR;refine⟨_,rfl,HBX.out,?_⟩;go_frame;refine Frm.wa 5 8 (.int .i64 (err kb)) HBX.out ?_;go_frame;refine wpAnyH_done (by kernel_rfl) ?_ _;rcases Bool.eq_false_or_eq_true kb with hk|hk
  ·have HX2:=hid ((HXB.out kb rfl).2 hk);rw[hk];clear hk HXB;have he:err true=0:=rfl;rw[he];clear he;go_wp2_with fail;have HBD:Hid (w5.drew.heap[w.heap.size]? =some (.cells #[.pointer (some ⟨g,0,none⟩),.int .i64 gen] 105 (0,0))):=hid HBX.out;refine Frm.wh_start (fun w'=>w'.heap[w.heap.size]? =some (.cells #[.pointer (some ⟨g,0,none⟩),.int .i64 gen] 105 (0,0))) (by kernel_rfl) ?_;refine Frm.wd 0 37 (.agg #[.pointer (some ⟨g,0,none⟩),.int .i64 gen]) HBD.out (fun w' hw'=> ?_) ?_
   ·have h0:=box0 hw';have h1:=box1 hw';go_simp
   go_frame;refine Frm.wb 1 38 (.pointer (some ⟨w.heap.size,1,none⟩)) HBD.out ?_;go_frame;refine Frm.wd 2 39 (.int .i64 gen) HBD.out (fun w' hw'=> ?_) ?_
   ·have h0:=box0 hw';have h1:=box1 hw';go_simp
   go_frame;refine Frm.wb 4 41 (.pointer (some ⟨w.heap.size,1,none⟩)) HBD.out ?_;go_frame;refine Frm.wd 5 42 (.int .i64 gen) HBD.out (fun w' hw'=> ?_) ?_
   ·have h0:=box0 hw';have h1:=box1 hw';go_simp
   go_frame;have HDD:Hid (Dk w5.drew g gs gm d1):=hid (HD1.out.drewN 1);have HTT:Hid (Turn [g,gs,gm] w4 w5.drew):=hid HTT.out.drew;generalize w5.drew=w6 at *;refine Frm.wh_call 3 40 100 #[.int .i64 gen] rfl rfl (by kernel_rfl) rfl ?_ ?_
   ·go_simp
   refine(HPL.out w6).mono ?_;rintro e w7 ⟨rfl,rfl⟩;refine⟨_,rfl,HBD.out,?_⟩;go_frame;refine Frm.wh_call 6 43 102 #[.int .i64 gen] rfl rfl (by kernel_rfl) rfl ?_ ?_
   ·go_simp
   refine(HHD.out w6).mono ?_;rintro e w7 ⟨rfl,hb7⟩;have HDD:=hid (Dk.below HDD.out hb7);have HTT:=hid (HTT.out.below hb7);have HBD:Hid (w7.heap[w.heap.size]? =some (.cells #[.pointer (some ⟨g,0,none⟩),.int .i64 gen] 105 (0,0))):=hid ((hb7.block _ (lt_of_heap HBD.out)).trans HBD.out);clear hb7;refine⟨_,rfl,HBD.out,?_⟩;go_frame;unfold Frm.mkV headM at *;dsimp only at *;refine Frm.wh_call 7 44 101 #[.agg #[.int .i64 1,.int .i64 gen,.int .i64 0,.int .i64 0]] rfl rfl (by kernel_rfl) rfl ?_ ?_
   ·go_simp
   refine(HPT.out w7).mono ?_;rintro e w8 ⟨g8,rfl,hg8,hlo8,hb8⟩;have HRW:=hid (RowsB.of_pk (S:=[g,gs,gm]) (pk_one w8 w7.heap.size g8 pm ⟨g8,rfl,hg8,hlo8,HPM.out⟩ hb8.size) (Dk.lows HDD.out));have HDD:=hid (Dk.below HDD.out hb8);have HTT:=hid (HTT.out.below hb8);have HBD:Hid (w8.heap[w.heap.size]? =some (.cells #[.pointer (some ⟨g,0,none⟩),.int .i64 gen] 105 (0,0))):=hid ((hb8.block _ (lt_of_heap HBD.out)).trans HBD.out);clear hg8 hlo8 hb8;refine⟨_,rfl,HBD.out,?_⟩;go_frame;refine Frm.wh_run 8 45 (.slice (some ⟨w8.heap.size,0,none⟩) 1 1) (w8.alloc (.cells #[.slice (some ⟨g8,0,none⟩) 64 64] 39)) rfl rfl (by kernel_rfl) rfl ?_ ((Below.heap_alloc w8 _ _ (lt_of_heap HBD.out)).trans HBD.out) ?_
   ·go_simp
   go_frame;have hba:=Frm.alloc_below w8 (.cells #[.slice (some ⟨g8,0,none⟩) 64 64] 39);have HDD:=hid (Dk.below HDD.out hba);have HTT:=hid (HTT.out.below hba);have HBD:=hid ((hba.block _ (lt_of_heap HBD.out)).trans HBD.out);clear hba;refine Frm.wh_call 9 46 98 #[.agg #[.pointer (some ⟨g,0,none⟩),.int .i64 gen],.int .i64 i2,.slice (some ⟨w8.heap.size,0,none⟩) 1 1] rfl rfl (by kernel_rfl) rfl ?_ ?_
   ·go_simp
   refine(HKP2.out _ d1 _ 1 HNN.out HDD.out HRW.out).mono ?_;rintro e w11 ⟨rfl,hdk,ht⟩;have HFF:=hid (And.intro hdk (HTT.out.trans ht));have HBD:Hid (w11.heap[w.heap.size]? =some (.cells #[.pointer (some ⟨g,0,none⟩),.int .i64 gen] 105 (0,0))):=hid ((ht.block _ (lt_of_heap HBD.out) (apart_disk HDD.out HBD.out (by decide) (by simp))).trans HBD.out);clear hdk ht;refine⟨_,rfl,HBD.out,?_⟩;go_frame;refine Frm.wa 10 4 (.int .i64 (err (keepB d1 i2 [pm]))) HBD.out ?_;go_frame;refine wpAnyH_done (by kernel_rfl) ?_ _;go_wp2_with fail;go_ret;rw[HX2.out.1,HX2.out.2];exact⟨rfl,HFF.out.1,(Turn.ofBelow (S:=[g,gs,gm]) HT.out).trans HFF.out.2⟩
  have HX2:=hid ((HXB.out kb rfl).1 hk);rw[hk];clear hk HXB;have he:err false=3:=rfl;rw[he];clear he;go_wp2_with fail;go_ret;rw[HX2.out.1,HX2.out.2];exact⟨rfl,HD1.out,(Turn.ofBelow (S:=[g,gs,gm]) HT.out).trans HTT.out⟩
end Go.Proofs.YtdjhlhellkajfaaGreat.Jou
namespace Go.Proofs.YtdjhlhellkajfaaGreat.Jou
open Go.RowKit Codec FrameM Cod JourM
open Disk (Turn Dk Dsk ptr Now)
open Frm (Sct Pk)
theorem getM_pos(xs:List UInt8):0≤(getM xs).gen∧(getM xs).gen≤9223372036854775807∧0≤(getM xs).n∧(getM xs).n≤9223372036854775807:=by
 cases h:getB xs with
 |false=>rw[getM_no h];simp[zeroM]
 |true=>
  obtain⟨m,hr,_,hm⟩:=getB_halves h;have hf:=readM_fits xs;rw[←getM_yes h] at hf;obtain⟨_,_,h3,_,h5⟩:=right_iff.1 hr;rw[←hm] at h3 h5;exact⟨h3,hf.gen.2,h5,hf.n.2⟩
def mbox (k s q n:Int):Obj:= .cells #[.int .i64 k,.int .i64 s,.int .i64 q,.int .i64 n] 158
structure Two (w':World) (k0 kb g gen:Nat) (a b c e:Int):Prop where
 bx:w'.heap[k0]? =some (.cells #[.pointer (some ⟨g,0,none⟩),.int .i64 gen] 105 (0,0))
 mb:w'.heap[kb]? =some (mbox a b c e)
theorem Two.c{w':World}{k0 kb g gen:Nat}{a b c e:Int}(h:Two w' k0 kb g gen a b c e):w'.cell? ⟨kb,0,none⟩=some (.int .i64 a)∧w'.cell? ⟨kb,1,none⟩=some (.int .i64 b)∧w'.cell? ⟨kb,2,none⟩=some (.int .i64 c)∧w'.cell? ⟨kb,3,none⟩=some (.int .i64 e):=
 ⟨cell_at h.mb 0,cell_at h.mb 1,cell_at h.mb 2,cell_at h.mb 3⟩
theorem Two.below{w0 w':World}{k0 kb g gen:Nat}{a b c e:Int}(h:Two w0 k0 kb g gen a b c e)(hb:Below w0.heap.size w0 w'):Two w' k0 kb g gen a b c e:=⟨(hb.block _ (lt_of_heap h.bx)).trans h.bx,(hb.block _ (lt_of_heap h.mb)).trans h.mb⟩
theorem eq_cases(m o:Mk):(m.eq o=true∧(m.kind==o.kind)=true∧(m.gen==o.gen)=true∧(m.seq==o.seq)=true∧(m.n==o.n)=true)∨(m.eq o=false∧((m.kind==o.kind)=false∨((m.kind==o.kind)=true∧(m.gen==o.gen)=false)∨((m.kind==o.kind)=true∧(m.gen==o.gen)=true∧(m.seq==o.seq)=false)∨
  ((m.kind==o.kind)=true∧(m.gen==o.gen)=true∧(m.seq==o.seq)=true∧(m.n==o.n)=false))):=by
 unfold Mk.eq;cases h1:(m.kind==o.kind)<;>cases h2:(m.gen==o.gen)<;>cases h3:(m.seq==o.seq)<;>cases h4:(m.n==o.n)<;>simp_all
theorem headIn_any(w:World)(g gs gm:Nat)(d:Dsk)(gen i:Nat)(h:Dk w g gs gm d)(ho:d.off=false):Calls Tryz.prog 95 #[hv g gen,.int .i64 i] w (EndsBelow (.int .i64 (headIn (rd d) i)) w):=by
 have hn2:=h.ok.2.1;have HB0:=hid (HB.start gen h);have HRD:=hid (fun u hu=>read_any u g gs gm d hu ho i);have HGT:=hid (fun u B m c A hx hB hc hm=>Frm.fget_any u B m c A (rd d i) hx hB hc hm);have hmp:=getM_pos (rd d i);obtain⟨M,hM⟩:∃M,getM (rd d i)=M:=⟨_,rfl⟩
 obtain⟨G,hG⟩:∃G:Nat,(getM (rd d i)).gen=G:=⟨(getM (rd d i)).gen.toNat,by omega⟩
 have HH:Hid (headIn (rd d) i=if M.eq (headM G)&&decide (G%2=i) then G else 0):=hid (by unfold headIn headB;rw[hG,hM];rfl);rw[hM] at HGT hmp hG;have HHD:=hid (fun u=>head_any u G);have HPL:=hid (fun u=>place_any u G (by omega));have hec:=eq_cases M (headM G);generalize getB (rd d i)=ok at *;generalize rd d i=xs at *;obtain⟨m0,m1,m2,m3⟩:=M;dsimp only at hG hmp;subst hG;unfold Frm.tupV Frm.mkV headM at *;dsimp only at *;unfold hv at *;unfold hbox at *;unfold ptr at *;clear h ho hn2 hM;rcases hec with⟨he,e0,e1,e2,e3⟩|⟨he,hne⟩
 ·by_cases hp:G%2=i
  ·have HV:Hid (headIn (rd d) i=G):=hid (by rw[HH.out,he,hp];simp);have HPP:Hid (G%2=i):=hid hp;rw[HV.out];clear HH HV he hp;generalize G%2=r at *;go_enter Tryz.func95,Tryz.ntmps95;have hc0:=HB0.out.c0;go_wp2_with fail;refine(HRD.out _ HB0.out.dk).mono ?_;rintro e w1 ⟨A1,c1,z1,rfl,hy1,hb1,hc1,hm1,_⟩;have HS:=hid (HB0.out.call hb1);have HY:=hid hy1;clear hy1 hb1 hc0;go_wp2_with fail;refine(HGT.out w1 w1.heap.size xs.length c1 A1 HY.out (Nat.le_refl _) hc1 hm1).mono ?_;rintro e w2 ⟨rfl,hb2⟩;have HS:=hid (HS.out.call hb2);clear hb2 HY hc1 hm1;go_upto_region 3 with fail;have HT:Hid (Two (w2.alloc (.cells #[.int .i64 m0,.int .i64 G,.int .i64 m2,.int .i64 m3] 158)) w.heap.size w2.heap.size g gen m0 G m2 m3):=hid ⟨(Below.heap_alloc w2 _ _ (lt_of_heap HS.out.bx)).trans HS.out.bx,heap_alloc_new w2 _⟩;have HLW:=hid (HS.out.low.alloc HS.out.low.size (.cells #[.int .i64 m0,.int .i64 G,.int .i64 m2,.int .i64 m3] 158));generalize w2.alloc (.cells #[.int .i64 m0,.int .i64 G,.int .i64 m2,.int .i64 m3] 158)=w3 at *;generalize w2.heap.size=kb at *;have HT:Hid (Two w3.drew w.heap.size kb g gen m0 G m2 m3):=hid ⟨HT.out.bx,HT.out.mb⟩;have HLW:=hid HLW.out.drew;refine Frm.wh_start (fun w'=>Two w' w.heap.size kb g gen m0 G m2 m3) (by kernel_rfl) ?_;refine Frm.wd 0 21 (.agg #[.int .i64 m0,.int .i64 G,.int .i64 m2,.int .i64 m3]) HT.out (fun w' hw'=> ?_) ?_
   ·obtain⟨q0,q1,q2,q3⟩:=hw'.c;go_simp
   go_frame;refine Frm.wb 1 22 (.pointer (some ⟨kb,1,none⟩)) HT.out ?_;go_frame;refine Frm.wd 2 23 (.int .i64 G) HT.out (fun w' hw'=> ?_) ?_
   ·obtain⟨q0,q1,q2,q3⟩:=hw'.c;go_simp
   go_frame;generalize w3.drew=w4 at *;refine Frm.wh_call 3 24 102 #[.int .i64 G] rfl rfl (by kernel_rfl) rfl ?_ ?_
   ·go_simp
   refine(HHD.out w4).mono ?_;rintro e w5 ⟨rfl,hb5⟩;have HT:=hid (HT.out.below hb5);have HLW:=hid (HLW.out.trans (hb5.mono HLW.out.size));clear hb5;refine⟨_,rfl,HT.out,?_⟩;go_frame;refine Frm.wb 4 25 (.bool false) HT.out ?_;go_frame;refine Frm.wa 5 26 (.bool false) HT.out ?_;go_frame;refine Frm.wb 6 27 (.pointer (some ⟨kb,1,none⟩)) HT.out ?_;go_frame;refine Frm.wd 7 28 (.int .i64 G) HT.out (fun w' hw'=> ?_) ?_
   ·obtain⟨q0,q1,q2,q3⟩:=hw'.c;go_simp
   go_frame;refine Frm.wa 9 30 (.int .i64 i) HT.out ?_;go_frame;refine Frm.wh_call 8 29 100 #[.int .i64 G] rfl rfl (by kernel_rfl) rfl ?_ ?_
   ·go_simp
   refine(HPL.out w5).mono ?_;rintro e w6 ⟨rfl,rfl⟩;refine⟨_,rfl,HT.out,?_⟩;go_frame;refine Frm.wd 10 31 (.bool false) HT.out (fun w' hw'=> ?_) ?_
   ·go_simp;have hpp:=HPP.out;omega
   go_frame;refine Frm.wb 11 32 (.bool false) HT.out ?_;go_frame;refine wpAnyH_done (by kernel_rfl) ?_ _;obtain⟨q0,q1,q2,q3⟩:=HT.out.c;go_wp2_with fail;go_ret;exact⟨rfl,HLW.out⟩
  have HV:Hid (headIn (rd d) i=0):=hid (by rw[HH.out];simp[hp]);have HPP:Hid (¬G%2=i):=hid hp;rw[HV.out];clear HH HV he hp;generalize G%2=r at *;go_enter Tryz.func95,Tryz.ntmps95;have hc0:=HB0.out.c0;go_wp2_with fail;refine(HRD.out _ HB0.out.dk).mono ?_;rintro e w1 ⟨A1,c1,z1,rfl,hy1,hb1,hc1,hm1,_⟩;have HS:=hid (HB0.out.call hb1);have HY:=hid hy1;clear hy1 hb1 hc0;go_wp2_with fail;refine(HGT.out w1 w1.heap.size xs.length c1 A1 HY.out (Nat.le_refl _) hc1 hm1).mono ?_;rintro e w2 ⟨rfl,hb2⟩;have HS:=hid (HS.out.call hb2);clear hb2 HY hc1 hm1;go_upto_region 3 with fail;have HT:Hid (Two (w2.alloc (.cells #[.int .i64 m0,.int .i64 G,.int .i64 m2,.int .i64 m3] 158)) w.heap.size w2.heap.size g gen m0 G m2 m3):=hid ⟨(Below.heap_alloc w2 _ _ (lt_of_heap HS.out.bx)).trans HS.out.bx,heap_alloc_new w2 _⟩;have HLW:=hid (HS.out.low.alloc HS.out.low.size (.cells #[.int .i64 m0,.int .i64 G,.int .i64 m2,.int .i64 m3] 158));generalize w2.alloc (.cells #[.int .i64 m0,.int .i64 G,.int .i64 m2,.int .i64 m3] 158)=w3 at *;generalize w2.heap.size=kb at *;have HT:Hid (Two w3.drew w.heap.size kb g gen m0 G m2 m3):=hid ⟨HT.out.bx,HT.out.mb⟩;have HLW:=hid HLW.out.drew;refine Frm.wh_start (fun w'=>Two w' w.heap.size kb g gen m0 G m2 m3) (by kernel_rfl) ?_;refine Frm.wd 0 21 (.agg #[.int .i64 m0,.int .i64 G,.int .i64 m2,.int .i64 m3]) HT.out (fun w' hw'=> ?_) ?_
  ·obtain⟨q0,q1,q2,q3⟩:=hw'.c;go_simp
  go_frame;refine Frm.wb 1 22 (.pointer (some ⟨kb,1,none⟩)) HT.out ?_;go_frame;refine Frm.wd 2 23 (.int .i64 G) HT.out (fun w' hw'=> ?_) ?_
  ·obtain⟨q0,q1,q2,q3⟩:=hw'.c;go_simp
  go_frame;generalize w3.drew=w4 at *;refine Frm.wh_call 3 24 102 #[.int .i64 G] rfl rfl (by kernel_rfl) rfl ?_ ?_
  ·go_simp
  refine(HHD.out w4).mono ?_;rintro e w5 ⟨rfl,hb5⟩;have HT:=hid (HT.out.below hb5);have HLW:=hid (HLW.out.trans (hb5.mono HLW.out.size));clear hb5;refine⟨_,rfl,HT.out,?_⟩;go_frame;refine Frm.wb 4 25 (.bool false) HT.out ?_;go_frame;refine Frm.wa 5 26 (.bool false) HT.out ?_;go_frame;refine Frm.wb 6 27 (.pointer (some ⟨kb,1,none⟩)) HT.out ?_;go_frame;refine Frm.wd 7 28 (.int .i64 G) HT.out (fun w' hw'=> ?_) ?_
  ·obtain⟨q0,q1,q2,q3⟩:=hw'.c;go_simp
  go_frame;refine Frm.wa 9 30 (.int .i64 i) HT.out ?_;go_frame;refine Frm.wh_call 8 29 100 #[.int .i64 G] rfl rfl (by kernel_rfl) rfl ?_ ?_
  ·go_simp
  refine(HPL.out w5).mono ?_;rintro e w6 ⟨rfl,rfl⟩;refine⟨_,rfl,HT.out,?_⟩;go_frame;refine Frm.wd 10 31 (.bool true) HT.out (fun w' hw'=> ?_) ?_
  ·go_simp;have hpp:=HPP.out;omega
  go_frame;refine Frm.wb 11 32 (.bool true) HT.out ?_;go_frame;refine wpAnyH_done (by kernel_rfl) ?_ _;go_wp2_with fail;go_ret;exact⟨rfl,HLW.out⟩
 have HV:Hid (headIn (rd d) i=0):=hid (by rw[HH.out,he];rfl);rw[HV.out];clear HH HV he;have HNE:Hid (¬(m0=1∧m2=0∧m3=0)):=hid (fun hh=>by obtain⟨rfl,rfl,rfl⟩:=hh;simp at hne);clear hne;go_enter Tryz.func95,Tryz.ntmps95;have hc0:=HB0.out.c0;go_wp2_with fail;refine(HRD.out _ HB0.out.dk).mono ?_;rintro e w1 ⟨A1,c1,z1,rfl,hy1,hb1,hc1,hm1,_⟩;have HS:=hid (HB0.out.call hb1);have HY:=hid hy1;clear hy1 hb1 hc0;go_wp2_with fail;refine(HGT.out w1 w1.heap.size xs.length c1 A1 HY.out (Nat.le_refl _) hc1 hm1).mono ?_;rintro e w2 ⟨rfl,hb2⟩;have HS:=hid (HS.out.call hb2);clear hb2 HY hc1 hm1;go_upto_region 3 with fail;have HT:Hid (Two (w2.alloc (.cells #[.int .i64 m0,.int .i64 G,.int .i64 m2,.int .i64 m3] 158)) w.heap.size w2.heap.size g gen m0 G m2 m3):=hid ⟨(Below.heap_alloc w2 _ _ (lt_of_heap HS.out.bx)).trans HS.out.bx,heap_alloc_new w2 _⟩;have HLW:=hid (HS.out.low.alloc HS.out.low.size (.cells #[.int .i64 m0,.int .i64 G,.int .i64 m2,.int .i64 m3] 158));generalize w2.alloc (.cells #[.int .i64 m0,.int .i64 G,.int .i64 m2,.int .i64 m3] 158)=w3 at *;generalize w2.heap.size=kb at *;have HT:Hid (Two w3.drew w.heap.size kb g gen m0 G m2 m3):=hid ⟨HT.out.bx,HT.out.mb⟩;have HLW:=hid HLW.out.drew;refine Frm.wh_start (fun w'=>Two w' w.heap.size kb g gen m0 G m2 m3) (by kernel_rfl) ?_;refine Frm.wd 0 21 (.agg #[.int .i64 m0,.int .i64 G,.int .i64 m2,.int .i64 m3]) HT.out (fun w' hw'=> ?_) ?_
 ·obtain⟨q0,q1,q2,q3⟩:=hw'.c;go_simp
 go_frame;refine Frm.wb 1 22 (.pointer (some ⟨kb,1,none⟩)) HT.out ?_;go_frame;refine Frm.wd 2 23 (.int .i64 G) HT.out (fun w' hw'=> ?_) ?_
 ·obtain⟨q0,q1,q2,q3⟩:=hw'.c;go_simp
 go_frame;generalize w3.drew=w4 at *;refine Frm.wh_call 3 24 102 #[.int .i64 G] rfl rfl (by kernel_rfl) rfl ?_ ?_
 ·go_simp
 refine(HHD.out w4).mono ?_;rintro e w5 ⟨rfl,hb5⟩;have HT:=hid (HT.out.below hb5);have HLW:=hid (HLW.out.trans (hb5.mono HLW.out.size));clear hb5;refine⟨_,rfl,HT.out,?_⟩;go_frame;refine Frm.wd 4 25 (.bool true) HT.out (fun w' hw'=> ?_) ?_
 ·have hne:=HNE.out;go_simp;intros
  omega
 go_frame;refine Frm.wa 5 26 (.bool true) HT.out ?_;go_frame;refine Frm.wq 6 27 HT.out ?_;go_frame;refine Frm.wq 7 28 HT.out ?_;go_frame;refine Frm.wq 8 29 HT.out ?_;go_frame;refine Frm.wq 9 30 HT.out ?_;go_frame;refine Frm.wq 10 31 HT.out ?_;go_frame;refine Frm.wb 11 32 (.bool true) HT.out ?_;go_frame;refine wpAnyH_done (by kernel_rfl) ?_ _;go_wp2_with fail;go_ret;exact⟨rfl,HLW.out⟩
def newB (f:Nat→List UInt8):Bool:=decide (0<newest f)
def mx (f:Nat→List UInt8) (k:Nat):Nat:=if k=0 then 0 else if k=1 then headIn f 0 else newest f
theorem mx_step(f:Nat→List UInt8)(k:Nat)(h:k<2):(mx f k<headIn f k→mx f (k+1)=headIn f k)∧(headIn f k≤mx f k→mx f (k+1)=mx f k):=by
 have hk:k=0∨k=1:=by omega
 rcases hk with rfl|rfl
 ·simp[mx]
 simp only[mx,newest];simp;omega
structure NR (w0 w':World) (b2 b4 g gs gm:Nat) (d:Dsk) (G:Nat):Prop where
 zb:w'.heap[b2]? =some (.cells #[.pointer none,.int .i64 0] 105 (0,0))
 nb:w'.heap[b4]? =some (.cells #[.pointer (some ⟨g,0,none⟩),.int .i64 G] 105 (0,0))
 dk:Dk w' g gs gm d
 low:Below w0.heap.size w0 w'
theorem NR.call{w0 w1 w':World}{b2 b4 g gs gm:Nat}{d:Dsk}{G:Nat}(h:NR w0 w1 b2 b4 g gs gm d G)(hb:Below w1.heap.size w1 w'):NR w0 w' b2 b4 g gs gm d G:=
 ⟨(hb.block _ (lt_of_heap h.zb)).trans h.zb,(hb.block _ (lt_of_heap h.nb)).trans h.nb,Dk.below h.dk hb,h.low.trans (hb.mono h.low.size)⟩
theorem NR.set{w0 w1:World}{b2 b4 g gs gm:Nat}{d:Dsk}{G G':Nat}(h:NR w0 w1 b2 b4 g gs gm d G)(hne:b2≠b4)(h4:w0.heap.size≤b4)(hn:b4∉[g,gs,gm]):NR w0 ((w1.setCell ⟨b4,0,none⟩ (.pointer (some ⟨g,0,none⟩))).setCell ⟨b4,1,none⟩ (.int .i64 G')) b2 b4 g gs gm d G':=by
 have ht:Turn [b4] w1 ((w1.setCell ⟨b4,0,none⟩ (.pointer (some ⟨g,0,none⟩))).setCell ⟨b4,1,none⟩ (.int .i64 G')):=((Turn.refl [b4] w1).setCell (.inl (by simp)) _).setCell (.inl (by simp)) _;simp only[List.mem_cons,List.not_mem_nil,or_false,not_or] at hn;exact⟨(ht.block b2 (lt_of_heap h.zb) (by simpa using hne)).trans h.zb,by rw[set_at (set_at h.nb 0 _) 1 _];rfl,h.dk.turn ht (by simp;omega) (by simp;omega) (by simp;omega),(h.low.setCell (p:=⟨b4,0,none⟩) h4 _).setCell (p:=⟨b4,1,none⟩) h4 _⟩
theorem newest_any(w:World)(g gs gm:Nat)(d:Dsk)(h:Dk w g gs gm d)(ho:d.off=false):Calls Tryz.prog 53 #[ptr g] w (EndsBelow (.tuple #[.agg #[ptr g,.int .i64 (newest (rd d))],.bool (newB (rd d))]) w):=by
 have hlo:=Dk.lows h;have hgl:=h.lt;have h1:Dk ((w.alloc (.cells #[.pointer none,.int .i64 0] 105)).alloc (.cells #[.pointer (some ⟨g,0,none⟩),.int .i64 0] 105)) g gs gm d:=(h.alloc _).alloc _;have HN0:Hid (NR w ((w.alloc (.cells #[.pointer none,.int .i64 0] 105)).alloc (.cells #[.pointer (some ⟨g,0,none⟩),.int .i64 0] 105)) w.heap.size (w.heap.size+1) g gs gm d 0):=hid ⟨(Below.heap_alloc _ _ _ (by simp)).trans (heap_alloc_new w _),by have:=heap_alloc_new (w.alloc (.cells #[.pointer none,.int .i64 0] 105)) (.cells #[.pointer (some ⟨g,0,none⟩),.int .i64 0] 105);rwa [World.size_alloc] at this,h1,(Frm.alloc_below w _).alloc (by simp) _⟩;have HH:=hid (fun u hu G k=>headIn_any u g gs gm d G k hu ho);have HMX:=hid (fun k hk=>mx_step (rd d) k hk);have HM0:Hid (mx (rd d) 0=0):=hid rfl;have HM2:Hid (mx (rd d) 2=newest (rd d)):=hid rfl;have HNB:Hid (newB (rd d)=decide (0<newest (rd d))):=hid rfl;have HNI:Hid (w.heap.size+1∉[g,gs,gm]):=hid (fun hm=>by have:=hlo _ hm;omega);generalize newB (rd d)=NB at *;generalize newest (rd d)=NW at *;generalize rd d=f at *;unfold hv at HH;unfold ptr at *;clear h ho hlo h1 hgl;go_enter Tryz.func53,Tryz.ntmps53;go_wp2_with fail;generalize (w.alloc (.cells #[.pointer none,.int .i64 0] 105)).alloc (.cells #[.pointer (some ⟨g,0,none⟩),.int .i64 0] 105)=W at *;go_loopw [9] (fun i' wr=>∃k:Nat,k≤2∧i'= .int .i64 k∧NR w wr w.heap.size (w.heap.size+1) g gs gm d (mx f k)) (fun i' _=>2-(Go.RowKit.intOf i').toNat)
 case atStart=>exact⟨0,by omega,rfl,by rw[HM0.out];exact HN0.out⟩
 case round=>
  obtain⟨k,hk,rfl,hnr⟩:=hrel;have HN:=hid hnr;clear hnr;have hk2:(k:Int)≤2:=by omega
  by_cases hlt:k<2
  ·have hlt2:(k:Int)<2:=by omega
   have hcs:mx f k<headIn f k∨headIn f k≤mx f k:=by omega
   have HS:=hid (HMX.out k hlt);have HC:=hid (HH.out wr HN.out.dk (mx f k) k);have hn0:wr.cell? ⟨w.heap.size+1,0,none⟩=some (.pointer (some ⟨g,0,none⟩)):=cell_at HN.out.nb 0;have hn1:wr.cell? ⟨w.heap.size+1,1,none⟩=some (.int .i64 (mx f k)):=cell_at HN.out.nb 1;generalize headIn f k=X at *;obtain⟨Y,hY⟩:∃Y,mx f k=Y:=⟨_,rfl⟩
   rw[hY] at HN HS HC hn1 hcs;clear hY;go_wp2_with fail;refine HC.out.mono ?_;rintro e w2 ⟨rfl,hb2⟩;have HN:=hid (HN.out.call hb2);clear hn0 hn1 hb2 HC;have HN:=hid (HN.out.call (Frm.alloc_below w2 (.cells #[.pointer (some ⟨g,0,none⟩),.int .i64 X] 105)));have hX:=heap_alloc_new w2 (.cells #[.pointer (some ⟨g,0,none⟩),.int .i64 X] 105);go_upto_region 6 with fail;generalize w2.alloc (.cells #[.pointer (some ⟨g,0,none⟩),.int .i64 X] 105)=w3 at *;have hx0:w3.cell? ⟨w2.heap.size,0,none⟩=some (.pointer (some ⟨g,0,none⟩)):=cell_at hX 0;have hx1:w3.cell? ⟨w2.heap.size,1,none⟩=some (.int .i64 X):=cell_at hX 1;have hn0:w3.cell? ⟨w.heap.size+1,0,none⟩=some (.pointer (some ⟨g,0,none⟩)):=cell_at HN.out.nb 0;have hn1:w3.cell? ⟨w.heap.size+1,1,none⟩=some (.int .i64 Y):=cell_at HN.out.nb 1;have hf0:w3.frozen? ⟨w.heap.size+1,0,none⟩=false:=free_at HN.out.nb 0;have hf1:w3.frozen? ⟨w.heap.size+1,1,none⟩=false:=free_at HN.out.nb 1;clear hX;rcases hcs with hc|hc
   ·have hc':(Y:Int)<X:=by omega
    go_wp2_with fail;go_roundw
    case rel=>
     refine⟨k+1,by omega,by go_num,?_⟩;rw[HS.out.1 hc];exact HN.out.set (by omega) (by omega) HNI.out
    case measure=>simp[Go.RowKit.intOf];omega
   have hc':(X:Int)≤Y:=by omega
   go_wp2_with fail;go_roundw
   case rel=>
    refine⟨k+1,by omega,by go_num,?_⟩;rw[HS.out.2 hc];exact HN.out
   case measure=>simp[Go.RowKit.intOf];omega
  obtain rfl:k=2:=by omega
  rw[HM2.out] at HN;clear hk2 HMX HM0 HM2 HH HN0;go_wp2_with fail;have HN:=hid (⟨HN.out.zb,HN.out.nb,HN.out.dk.drewN 1,HN.out.low.drew⟩:NR w wr.drew w.heap.size (w.heap.size+1) g gs gm d NW);refine Frm.wh_start (fun w'=>w'.heap[w.heap.size+1]? =some (.cells #[.pointer (some ⟨g,0,none⟩),.int .i64 NW] 105 (0,0))) (by kernel_rfl) ?_;generalize wr.drew=u at *;refine Frm.wd 0 24 (.agg #[.pointer (some ⟨g,0,none⟩),.int .i64 NW]) HN.out.nb (fun w' hw'=> ?_) ?_
  ·have h0:=box0 hw';have h1:=box1 hw';go_simp
  go_frame;refine Frm.wb 1 25 (.pointer (some ⟨w.heap.size+1,1,none⟩)) HN.out.nb ?_;go_frame;refine Frm.wd 2 26 (.int .i64 NW) HN.out.nb (fun w' hw'=> ?_) ?_
  ·have h0:=box0 hw';have h1:=box1 hw';go_simp
  go_frame;refine Frm.wd 3 27 (.bool NB) HN.out.nb (fun w' hw'=> ?_) ?_
  ·have hq:=HNB.out;rw[hq];go_simp
  go_frame;have z0:u.cell? ⟨w.heap.size,0,none⟩=some (.pointer none):=cell_at HN.out.zb 0;have z1:u.cell? ⟨w.heap.size,1,none⟩=some (.int .i64 0):=cell_at HN.out.zb 1;have f0:u.frozen? ⟨w.heap.size,0,none⟩=false:=free_at HN.out.zb 0;have f1:u.frozen? ⟨w.heap.size,1,none⟩=false:=free_at HN.out.zb 1;refine Frm.wh_store 4 ((u.setCell ⟨w.heap.size,0,none⟩ (.pointer (some ⟨g,0,none⟩))).setCell ⟨w.heap.size,1,none⟩ (.int .i64 NW)) rfl rfl (by kernel_rfl) rfl ?_ ?_ ?_
  ·go_simp
  ·exact(((Turn.refl [w.heap.size] u).setCell (p:=⟨w.heap.size,0,none⟩) (.inl (by simp)) _).setCell (p:=⟨w.heap.size,1,none⟩) (.inl (by simp)) _).block _ (lt_of_heap HN.out.nb) (by simp)|>.trans HN.out.nb
  have HNB4:=hid ((((Turn.refl [w.heap.size] u).setCell (p:=⟨w.heap.size,0,none⟩) (.inl (by simp)) (.pointer (some ⟨g,0,none⟩))).setCell (p:=⟨w.heap.size,1,none⟩) (.inl (by simp)) (.int .i64 NW)).block _ (lt_of_heap HN.out.nb) (by simp)|>.trans HN.out.nb);refine Frm.wa 5 3 (.bool NB) HNB4.out ?_;go_frame;refine wpAnyH_done (by kernel_rfl) ?_ _;have HW:=hid (set_at (set_at HN.out.zb 0 (.pointer (some ⟨g,0,none⟩))) 1 (.int .i64 NW));have HL:=hid ((HN.out.low.setCell (p:=⟨w.heap.size,0,none⟩) (Nat.le_refl _) (.pointer (some ⟨g,0,none⟩))).setCell (p:=⟨w.heap.size,1,none⟩) (Nat.le_refl _) (.int .i64 NW));clear z0 z1 f0 f1;go_wp2_with fail;have hw:=HW.out;generalize (u.setCell ⟨w.heap.size,0,none⟩ (.pointer (some ⟨g,0,none⟩))).setCell ⟨w.heap.size,1,none⟩ (.int .i64 NW)=u2 at *;have z0:=cell_at hw 0;have z1:=cell_at hw 1;exact bodyPost_ret (v:= .tuple #[.agg #[.pointer (some ⟨g,0,none⟩),.int .i64 NW],.bool NB]) (by simp[results,Tryz.results53,go_sem,z0,z1]) rfl ⟨rfl,HL.out⟩
end Go.Proofs.YtdjhlhellkajfaaGreat.Jou
namespace Go.Proofs.YtdjhlhellkajfaaGreat.Jou
open Go.RowKit Codec FrameM Cod JourM
open Disk (Turn Dk Dsk ptr Now)
open Frm (Sct Pk)
def ReadRows (w:World) (ls:List (List UInt8)) (e:Ending) (w':World):Prop:=
 ∃A c,e= .returned (.slice A ls.length c)∧Frm.Rows w' w'.heap.size A ls.length ls∧Below w.heap.size w w'
theorem run_make34K(w:World)(K:Nat)(hK:K≤1000000):(Instr.makeSlice 40 (.int .i64 K) (.int .i64 K)).run Tryz.prog w= .ok (.slice (some ⟨w.heap.size,0,none⟩) K K) (w.alloc (.cells (Frm.room K) 39)):=by
 obtain⟨i0,hi,hz0,hz1,hz2⟩:=info_parts Frm.info24;have:=run_make (P:=Tryz.prog) w 40 39 i0 _ Tryz.underlying40 hi hz0 .i64 .i64 K K (by omega) (by omega) (by rw[hz2];omega) (by omega);rw[hz1] at this;simpa [Frm.room] using this
theorem room_size(K:Nat):(Frm.room K).size=K:=by simp[Frm.room,madeCells,Value.cells]
structure RR (w':World) (b K k:Nat) (x:Nat→List UInt8) (C:Array Value):Prop where
 row:w'.heap[b]? =some (.cells C 39 (0,0))
 size:C.size=K
 at_:∀j,j<k→∃Aj cj,C[j]? =some (.slice Aj (x j).length cj)∧Bts w' [b] Aj (x j).length (x j)∧(x j).length≤cj∧cj≤maxLen
theorem RR.below{w1 w':World}{b K k:Nat}{x:Nat→List UInt8}{C:Array Value}(h:RR w1 b K k x C)(hb:Below w1.heap.size w1 w'):RR w' b K k x C:=
 ⟨(hb.block _ (lt_of_heap h.row)).trans h.row,h.size,fun j hj=>by
  obtain⟨Aj,cj,h1,h2,h3⟩:=h.at_ j hj;exact⟨Aj,cj,h1,h2.below hb,h3⟩⟩
theorem RR.drew{w1:World}{b K k:Nat}{x:Nat→List UInt8}{C:Array Value}(h:RR w1 b K k x C):RR w1.drew b K k x C:=
 ⟨h.row,h.size,fun j hj=>by
  obtain⟨Aj,cj,h1,h2,h3⟩:=h.at_ j hj;exact⟨Aj,cj,h1,h2.turn (Turn.drew (Turn.refl [] w1)) (by simp),h3⟩⟩
theorem RR.set{w1:World}{b K k:Nat}{x:Nat→List UInt8}{C:Array Value}(h:RR w1 b K k x C)(hk:k<K){A:Option Addr}{c:Nat}(hb:Bts w1 [b] A (x k).length (x k))(hc:(x k).length≤c)(hm:c≤maxLen):
  RR (w1.setCell ⟨b,k,none⟩ (.slice A (x k).length c)) b K (k+1) x (C.setIfInBounds k (.slice A (x k).length c)):=by
 have ht:Turn [b] w1 (w1.setCell ⟨b,k,none⟩ (.slice A (x k).length c)):=(Turn.refl [b] w1).setCell (.inl (by simp)) _;refine⟨set_at h.row k _,by simp[h.size],fun j hj=> ?_⟩;by_cases he:j=k
 ·subst he;exact⟨A,c,by simp[h.size,hk],hb.turn ht (by simp),hc,hm⟩
 obtain⟨Aj,cj,h1,h2,h3⟩:=h.at_ j (by omega);exact⟨Aj,cj,by rw[Array.getElem?_setIfInBounds_ne (by omega)];exact h1,h2.turn ht (by simp),h3⟩
theorem RR.rows{w1:World}{b K:Nat}{x:Nat→List UInt8}{C:Array Value}(h:RR w1 b K K x C):Frm.Rows w1 w1.heap.size (some ⟨b,0,none⟩) K ((List.range K).map x):=by
 refine⟨by simp,fun hK=>⟨b,0,rfl,lt_of_heap h.row,fun j hj=> ?_⟩⟩;obtain⟨Aj,cj,h1,h2,h3,h4⟩:=h.at_ j hj;have e:((List.range K).map x).getD j []=x j:=by simp[List.getD_eq_getElem?_getD,hj]
 rw[e];exact⟨Aj,cj,by rw[cell_at h.row,Nat.zero_add];exact h1,h2.byts,h3,h4⟩
theorem readh_any(w:World)(g gs gm:Nat)(d:Dsk)(gen pos K:Nat)(h:Dk w g gs gm d)(ho:d.off=false)(h2:2≤d.n)(hg:gen<9223372036854775808)(hp:pos+K≤100000)(hK:K≤65536):
  Calls Tryz.prog 136 #[hv g gen,.int .i64 pos,.int .i64 K] w (ReadRows w ((List.range K).map fun i=>rd d (secAt d.n gen (pos+i)))):=by
 have HLO:=hid (Dk.lows h);have HB0:=hid (HB.start gen h);have HRD:=hid (fun u hu i=>read_any u g gs gm d hu ho i);have HSE:=hid (fun u hu k (hk:k<K)=>sector_any u g gs gm d gen (pos+k) hu h2 hg (by omega));have hmk:∀v:World,(Instr.makeSlice 40 (.int .i64 K) (.int .i64 K)).run Tryz.prog v= .ok (.slice (some ⟨v.heap.size,0,none⟩) K K) (v.alloc (.cells (Frm.room K) 39)):=fun v=>run_make34K v K (by omega);have hK1:(K:Int)≤65536:=by omega
 have hP1:(pos:Int)+K≤100000:=by omega
 obtain⟨x,hx⟩:∃x:Nat→List UInt8,(fun i=>rd d (secAt d.n gen (pos+i)))=x:=⟨_,rfl⟩
 have HX:Hid (∀i,rd d (secAt d.n gen (pos+i))=x i):=hid (fun i=>by rw[←hx]);have HXX:Hid (((List.range K).map fun i=>rd d (secAt d.n gen (pos+i)))=(List.range K).map x):=hid (by rw[←hx]);rw[HXX.out];unfold hv at *;unfold hbox at *;unfold ptr at *;clear h ho h2 hg hx HXX;go_enter Tryz.func136,Tryz.ntmps136;go_wp2_with fail;have HB1:=hid (HB0.out.alloc (.cells (Frm.room K) 39));have HR1:Hid (RR ((w.alloc (.cells #[.pointer (some ⟨g,0,none⟩),.int .i64 gen] 105)).alloc (.cells (Frm.room K) 39)) (w.heap.size+1) K 0 x (Frm.room K)):=hid ⟨by have:=heap_alloc_new (w.alloc (.cells #[.pointer (some ⟨g,0,none⟩),.int .i64 gen] 105)) (.cells (Frm.room K) 39);rwa [World.size_alloc] at this,room_size K,fun j hj=>absurd hj (by omega)⟩;clear hmk HB0;generalize (w.alloc (.cells #[.pointer (some ⟨g,0,none⟩),.int .i64 gen] 105)).alloc (.cells (Frm.room K) 39)=W at *;go_loopw [13] (fun i' wr=>∃k:Nat,k≤K∧i'= .int .i64 k∧HB w wr w.heap.size g gs gm gen d∧∃C,RR wr (w.heap.size+1) K k x C) (fun i' _=>K-(Go.RowKit.intOf i').toNat)
 case atStart=>exact⟨0,by omega,rfl,HB1.out,_,HR1.out⟩
 case round=>
  obtain⟨k,hk,rfl,hb,C,hr⟩:=hrel;have HS:=hid hb;have HR:=hid hr;clear hb hr;have hk2:(k:Int)≤K:=by omega
  by_cases hlt:k<K
  ·have hlt2:(k:Int)<K:=by omega
   have hidx:∀v:World,(Instr.indexAt 40 (.slice (some ⟨w.heap.size+1,0,none⟩) K K) (.int .i64 k)).run Tryz.prog v= .ok (.pointer (some ⟨w.heap.size+1,k,none⟩)) v:=fun v=>by
    simp[Instr.indexAt,asIntOf,run_underlying Tryz.underlying40,Result.andThen,plain_add];intro h1;omega
   have HSQ:=hid (fun u hu=>HSE.out u hu k hlt);have HXK:=hid (HX.out k);generalize secAt d.n gen (pos+k)=sk at *;go_wp2_with fail;have HS:=hid HS.out.drew;have HR:=hid HR.out.drew;refine Frm.wh_start (fun w'=>w'.heap[w.heap.size]? =some (.cells #[.pointer (some ⟨g,0,none⟩),.int .i64 gen] 105 (0,0))) (by kernel_rfl) ?_;generalize wr.drew=u at *;refine Frm.wa 0 17 (.slice (some ⟨w.heap.size+1,0,none⟩) K K) HS.out.bx ?_;go_frame;refine Frm.wa 1 18 (.int .i64 k) HS.out.bx ?_;go_frame;refine Frm.wb 2 19 (.pointer (some ⟨w.heap.size,0,none⟩)) HS.out.bx ?_;go_frame;refine Frm.wd 3 20 (.pointer (some ⟨g,0,none⟩)) HS.out.bx (fun w' hw'=> ?_) ?_
   ·have h0:=box0 hw';have h1:=box1 hw';go_simp
   go_frame;refine Frm.wd 4 21 (.agg #[.pointer (some ⟨g,0,none⟩),.int .i64 gen]) HS.out.bx (fun w' hw'=> ?_) ?_
   ·have h0:=box0 hw';have h1:=box1 hw';go_simp
   go_frame;refine Frm.wa 5 22 (.int .i64 pos) HS.out.bx ?_;go_frame;refine Frm.wa 6 23 (.int .i64 k) HS.out.bx ?_;go_frame;have hw1:IntKind.i64.wrap ((pos:Int)+(k:Int))=(pos:Int)+(k:Int):=IntWalk.i64_in _ (by omega);refine Frm.wb 7 24 (.int .i64 ((pos:Int)+(k:Int))) HS.out.bx ?_;go_frame;have hsq:=HSQ.out u HS.out.dk;push_cast at hsq;have HC:=hid hsq;clear hsq hw1;refine Frm.wh_call 8 25 99 #[.agg #[.pointer (some ⟨g,0,none⟩),.int .i64 gen],.int .i64 ((pos:Int)+(k:Int))] rfl rfl (by kernel_rfl) rfl ?_ ?_
   ·go_simp
   refine(HC.out).mono ?_;rintro e w2 ⟨rfl,hb2⟩;have HS:=hid (HS.out.call hb2);have HR:=hid (HR.out.below hb2);clear hb2 HC;refine⟨_,rfl,HS.out.bx,?_⟩;go_frame;have hrd:=HRD.out w2 HS.out.dk sk;rw[HXK.out] at hrd;have HC:=hid hrd;clear hrd;refine Frm.wh_call 9 26 76 #[.pointer (some ⟨g,0,none⟩),.int .i64 sk] rfl rfl (by kernel_rfl) rfl ?_ ?_
   ·go_simp
   refine(HC.out).mono ?_;rintro e w3 ⟨A3,c3,z3,rfl,hy3,hb3,hc3,hm3,ha3⟩;have hlt3:=lt_of_heap HR.out.row;have HBT:=hid (Bts.above (S:=[w.heap.size+1]) hy3 ha3 (by simpa using hlt3));have HS:=hid (HS.out.call hb3);have HR:=hid (HR.out.below hb3);have HCC:=hid (And.intro hc3 hm3);clear hb3 HC hlt3 hy3 ha3 hc3 hm3;refine⟨_,rfl,HS.out.bx,?_⟩;go_frame;refine Frm.wa 10 16 (.tuple #[.slice A3 (x k).length c3,.int .i64 z3]) HS.out.bx ?_;go_frame;refine Frm.wb 11 27 (.slice A3 (x k).length c3) HS.out.bx ?_;go_frame;refine Frm.wb 12 28 (.int .i64 z3) HS.out.bx ?_;go_frame;refine Frm.wb 13 29 (.pointer (some ⟨w.heap.size+1,k,none⟩)) HS.out.bx ?_;go_frame;clear hidx;have hcell:∃v,w3.cell? ⟨w.heap.size+1,k,none⟩=some v:=by
    rw[cell_at HR.out.row];exact⟨C[k]'(by rw[HR.out.size];exact hlt),by simp[HR.out.size,hlt]⟩
   obtain⟨v0,hv0⟩:=hcell;have hf0:w3.frozen? ⟨w.heap.size+1,k,none⟩=false:=free_at HR.out.row k;have HBX:Hid ((w3.setCell ⟨w.heap.size+1,k,none⟩ (.slice A3 (x k).length c3)).heap[w.heap.size]? =some (.cells #[.pointer (some ⟨g,0,none⟩),.int .i64 gen] 105 (0,0))):=hid ((Below.heap_setCell w3 ⟨w.heap.size+1,k,none⟩ (.slice A3 (x k).length c3) w.heap.size (by simp)).trans HS.out.bx);have HR4:=hid (HR.out.set hlt HBT.out HCC.out.1 HCC.out.2);have HT4:Hid (Turn [w.heap.size+1] w3 (w3.setCell ⟨w.heap.size+1,k,none⟩ (.slice A3 (x k).length c3))):=hid ((Turn.refl [w.heap.size+1] w3).setCell (.inl (by simp)) _);have HDK:Hid (Dk (w3.setCell ⟨w.heap.size+1,k,none⟩ (.slice A3 (x k).length c3)) g gs gm d):=hid (by
    have e1:=HLO.out g (by simp);have e2:=HLO.out gs (by simp);have e3:=HLO.out gm (by simp);exact HS.out.dk.turn HT4.out (by simp;omega) (by simp;omega) (by simp;omega))
   have HLW:Hid (Below w.heap.size w (w3.setCell ⟨w.heap.size+1,k,none⟩ (.slice A3 (x k).length c3))):=hid (HS.out.low.setCell (p:=⟨w.heap.size+1,k,none⟩) (by simp) _);refine Frm.wh_store 14 (w3.setCell ⟨w.heap.size+1,k,none⟩ (.slice A3 (x k).length c3)) rfl rfl (by kernel_rfl) rfl ?_ HBX.out ?_
   ·go_simp
   refine wpAnyH_done (by kernel_rfl) ?_ _;clear hv0 hf0;go_wp2_with fail;go_roundw
   case rel=>exact⟨k+1,by omega,by go_num,⟨HBX.out,HDK.out,HLW.out,HS.out.lo⟩,_,HR4.out⟩
   case measure=>simp[Go.RowKit.intOf];omega
  obtain rfl:k=K:=by omega
  go_wp2_with fail;go_ret;have e:((List.range k).map x).length=k:=by simp
  exact⟨some ⟨w.heap.size+1,0,none⟩,k,by rw[e];rfl,by rw[e];exact HR.out.rows,HS.out.low⟩
end Go.Proofs.YtdjhlhellkajfaaGreat.Jou
namespace Go.Proofs.YtdjhlhellkajfaaGreat.Jou
open Go.RowKit Codec FrameM Cod JourM
open Disk (Turn Dk Dsk ptr Now)
open Frm (Sct Pk)
def GroupP (w:World) (xs:List UInt8) (b:Bool) (e:Ending) (w':World):Prop:=
 ∃A m c,e= .returned (.tuple #[.slice A m c,.bool b])∧Below w.heap.size w w'∧(b=true→Byts w' w'.heap.size A m xs∧m≤c∧c≤maxLen∧Frm.Above w.heap.size A∧Frm.U8 w' A)
theorem group_no{w w':World}{xs:List UInt8}(h:Below w.heap.size w w'):GroupP w xs false (.returned (.tuple #[.slice none 0 0,.bool false])) w':=⟨none,0,0,rfl,h,fun e=>by cases e⟩
theorem unpack_len{ls:List (List UInt8)}{n:Nat}(h:unpackB ls n=true):n≤1048576∧(unpack ls n).length=n:=by
 have h0:=h;simp only[unpackB,Bool.and_eq_true,decide_eq_true_eq,List.all_eq_true] at h;obtain⟨⟨h1,h2,h3⟩,h4,h5⟩:=h;refine⟨by omega,?_⟩;rw[unpack_yes h0];have hl:=flatten_length _ h4;rw[needI_nat] at h3;rw[List.length_take,Int.toNat_natCast,hl];unfold need at h3;omega
theorem group_any(w:World)(g gs gm:Nat)(d:Dsk)(gen pos seq:Nat)(h:Dk w g gs gm d)(ho:d.off=false)(h2:2≤d.n)(hg:gen<9223372036854775808)(hp:pos≤room d.n):
  Calls Tryz.prog 104 #[hv g gen,.int .i64 pos,.int .i64 seq] w (GroupP w (gX (rd d) d.n gen pos) (gB (rd d) d.n gen pos seq)):=by
 have hn2:=h.ok.2.1;have HB0:=hid (HB.start gen h);have HRD:=hid (fun u hu=>read_any u g gs gm d hu ho (secAt d.n gen pos));have HSE:=hid (fun u hu=>sector_any u g gs gm d gen pos hu h2 hg (by unfold room at hp;omega));have HRM:=hid (fun u hu=>room_any u g gs gm d gen hu h2);have HRR:Hid (room d.n≤65536):=hid (by unfold room;omega);have HGT:=hid (fun u B m c A hx hB hc hm=>Frm.fget_any u B m c A (rd d (secAt d.n gen pos)) hx hB hc hm);have hmp:=getM_pos (rd d (secAt d.n gen pos));have HGB:Hid (gB (rd d) d.n gen pos seq=(gFit (rd d) d.n gen pos&&(gUn (rd d) d.n gen pos&&gMk (rd d) d.n gen pos seq))):=hid rfl;have HGF:Hid (gFit (rd d) d.n gen pos=(getB (rd d (secAt d.n gen pos))&&decide (need (gLen (rd d) d.n gen pos)+pos<room d.n))):=hid rfl;have HGU:Hid (gUn (rd d) d.n gen pos=unpackB (gSecs (rd d) d.n gen pos) (gLen (rd d) d.n gen pos)):=hid rfl;have HGX:Hid (gX (rd d) d.n gen pos=unpack (gSecs (rd d) d.n gen pos) (gLen (rd d) d.n gen pos)):=hid rfl;have HGM:Hid (gMk (rd d) d.n gen pos seq=(getM (rd d (secAt d.n gen pos))).eq (markM gen seq (gX (rd d) d.n gen pos))):=hid rfl;have HRH:=hid (fun u hu (hL:need (gLen (rd d) d.n gen pos)+pos<room d.n)=>readh_any u g gs gm d gen (pos+1) (need (gLen (rd d) d.n gen pos)) hu ho h2 hg (by unfold room at hL;omega) (by unfold room at hL;omega));have HRS:Hid (((List.range (need (gLen (rd d) d.n gen pos))).map fun i=>rd d (secAt d.n gen (pos+1+i)))=gSecs (rd d) d.n gen pos):=hid rfl;have HRL:Hid ((gSecs (rd d) d.n gen pos).length=need (gLen (rd d) d.n gen pos)):=hid (by simp[gSecs,gRows]);have hL:(getM (rd d (secAt d.n gen pos))).n/4294967296=((gLen (rd d) d.n gen pos:Nat):Int):=by unfold gLen;omega
 have hLb:(gLen (rd d) d.n gen pos:Int)≤2147483648:=by omega
 rw[HRS.out] at HRH;generalize gB (rd d) d.n gen pos seq=RB at *;generalize gFit (rd d) d.n gen pos=RF at *;generalize gUn (rd d) d.n gen pos=RU at *;generalize gMk (rd d) d.n gen pos seq=RM at *;generalize gX (rd d) d.n gen pos=RX at *;generalize gSecs (rd d) d.n gen pos=LS at *;generalize gLen (rd d) d.n gen pos=L at *;generalize getB (rd d (secAt d.n gen pos))=ok at *;generalize getM (rd d (secAt d.n gen pos))=M at *;generalize rd d (secAt d.n gen pos)=xs at *;generalize secAt d.n gen pos=s0 at *;generalize room d.n=R at *;have HND:=hid (fun u=>Frm.need_any (L:Int) u (by unfold in64;omega));rw[needI_nat] at HND;have HUN:=hid (fun u c A hR=>Frm.unpack_any u (need L) c A LS (L:Int) (by unfold in64;omega) hR);have HMK:=hid (fun u B n c A hb hB hn=>mark_any u g gen seq B n c A RX hb hB hn);have hec:=eq_cases M (markM gen seq RX);have HMM:Hid (Frm.mkV (markM gen seq RX)= .agg #[.int .i64 2,.int .i64 gen,.int .i64 seq,.int .i64 (markM gen seq RX).n]):=hid rfl;rw[HMM.out] at HMK;have HME:Hid ((markM gen seq RX).kind=2∧(markM gen seq RX).gen=gen∧(markM gen seq RX).seq=seq):=hid ⟨rfl,rfl,rfl⟩;rw[HME.out.1,HME.out.2.1,HME.out.2.2] at hec;generalize hmm:markM gen seq RX=MM at *;generalize MM.n=mn at *;obtain⟨m0,m1,m2,m3⟩:=M;dsimp only at hL hmp hec;unfold Frm.tupV Frm.mkV at HGT;dsimp only at HGT;have hnd:(need L:Int)≤33554433:=by unfold need;omega
 have HHL:=hid hL;have HNE:Hid ((Mk.eq ⟨m0,m1,m2,m3⟩ MM=true∧m0=2∧m1=gen∧m2=seq∧m3=mn)∨(Mk.eq ⟨m0,m1,m2,m3⟩ MM=false∧¬(m0=2∧m1=gen∧m2=seq∧m3=mn))):=hid (by
  rcases hec with⟨e,e0,e1,e2,e3⟩|⟨e,hne⟩
  ·exact .inl ⟨e,by simpa using e0,by simpa using e1,by simpa using e2,by simpa using e3⟩
  ·refine .inr ⟨e,?_⟩;rintro⟨rfl,rfl,rfl,rfl⟩;simp at hne)
 have h30:=hmp.2.2.1;have h31:=hmp.2.2.2;unfold hv at *;unfold hbox at *;unfold ptr at *;clear h ho h2 hn2 hg hec hmm HMM HME HRS hL hmp;go_enter Tryz.func104,Tryz.ntmps104;go_wp2_with fail;generalize w.alloc (.cells #[.pointer (some ⟨g,0,none⟩),.int .i64 gen] 105)=W at *;have HS:=hid HB0.out.drew;refine Frm.wh_start (fun w'=>w'.heap[w.heap.size]? =some (.cells #[.pointer (some ⟨g,0,none⟩),.int .i64 gen] 105 (0,0))) (by kernel_rfl) ?_;generalize W.drew=u at *;refine Frm.wb 0 15 (.pointer (some ⟨w.heap.size,0,none⟩)) HS.out.bx ?_;go_frame;refine Frm.wd 1 16 (.pointer (some ⟨g,0,none⟩)) HS.out.bx (fun w' hw'=> ?_) ?_
 ·have h0:=box0 hw';have h1:=box1 hw';go_simp
 go_frame;refine Frm.wd 2 17 (.agg #[.pointer (some ⟨g,0,none⟩),.int .i64 gen]) HS.out.bx (fun w' hw'=> ?_) ?_
 ·have h0:=box0 hw';have h1:=box1 hw';go_simp
 go_frame;refine Frm.wa 3 18 (.int .i64 pos) HS.out.bx ?_;go_frame;refine Frm.wh_call 4 19 99 #[.agg #[.pointer (some ⟨g,0,none⟩),.int .i64 gen],.int .i64 pos] rfl rfl (by kernel_rfl) rfl ?_ ?_
 ·go_simp
 refine(HSE.out u HS.out.dk).mono ?_;rintro e w1 ⟨rfl,hb1⟩;have HS:=hid (HS.out.call hb1);clear hb1;refine⟨_,rfl,HS.out.bx,?_⟩;go_frame;refine Frm.wh_call 5 20 76 #[.pointer (some ⟨g,0,none⟩),.int .i64 s0] rfl rfl (by kernel_rfl) rfl ?_ ?_
 ·go_simp
 refine(HRD.out w1 HS.out.dk).mono ?_;rintro e w2 ⟨A2,c2,z2,rfl,hy2,hb2,hc2,hm2,_⟩;have HS:=hid (HS.out.call hb2);have HY:=hid hy2;clear hb2 hy2;refine⟨_,rfl,HS.out.bx,?_⟩;go_frame;refine Frm.wa 6 14 (.tuple #[.slice A2 xs.length c2,.int .i64 z2]) HS.out.bx ?_;go_frame;refine Frm.wb 7 21 (.slice A2 xs.length c2) HS.out.bx ?_;go_frame;refine Frm.wb 8 22 (.int .i64 z2) HS.out.bx ?_;go_frame;refine Frm.wa 9 8 (.slice A2 xs.length c2) HS.out.bx ?_;go_frame;refine Frm.wa 10 9 (.int .i64 z2) HS.out.bx ?_;go_frame;refine wpAnyH_done (by kernel_rfl) ?_ _;go_wp2_with fail;refine(HGT.out w2 w2.heap.size xs.length c2 A2 HY.out (Nat.le_refl _) hc2 hm2).mono ?_;rintro e w3 ⟨rfl,hb3⟩;have HS:=hid (HS.out.call hb3);clear hb3 HY hc2 hm2 HGT HRD HSE;go_upto_region 4 with fail;have HT:Hid (Two (w3.alloc (.cells #[.int .i64 m0,.int .i64 m1,.int .i64 m2,.int .i64 m3] 158)) w.heap.size w3.heap.size g gen m0 m1 m2 m3):=hid ⟨(Below.heap_alloc w3 _ _ (lt_of_heap HS.out.bx)).trans HS.out.bx,heap_alloc_new w3 _⟩;have HS:=hid (HS.out.alloc (.cells #[.int .i64 m0,.int .i64 m1,.int .i64 m2,.int .i64 m3] 158));generalize w3.alloc (.cells #[.int .i64 m0,.int .i64 m1,.int .i64 m2,.int .i64 m3] 158)=w4 at *;generalize w3.heap.size=kb at *;try rw[HHL.out]
 have HT:Hid (Two w4.drew w.heap.size kb g gen m0 m1 m2 m3):=hid ⟨HT.out.bx,HT.out.mb⟩;have HS:=hid HS.out.drew;refine Frm.wh_start (fun w'=>Two w' w.heap.size kb g gen m0 m1 m2 m3) (by kernel_rfl) ?_;generalize w4.drew=w5 at *;rcases Bool.eq_false_or_eq_true ok with hok|hok
 ·have HOK:=hid hok;rw[hok];clear hok;refine Frm.wa 0 31 (.bool true) HT.out ?_;go_frame;refine Frm.wb 1 32 (.bool false) HT.out ?_;go_frame;refine Frm.wa 2 33 (.bool false) HT.out ?_;go_frame;refine Frm.wa 3 34 (.int .i64 L) HT.out ?_;go_frame;refine Frm.wd 5 36 (.agg #[.pointer (some ⟨g,0,none⟩),.int .i64 gen]) HT.out (fun w' hw'=> ?_) ?_
  ·have h0:=box0 hw'.bx;have h1:=box1 hw'.bx;go_simp
  go_frame;refine Frm.wa 7 38 (.int .i64 pos) HT.out ?_;go_frame;refine Frm.wh_call 4 35 94 #[.int .i64 L] rfl rfl (by kernel_rfl) rfl ?_ ?_
  ·go_simp
  refine(HND.out w5).mono ?_;rintro e w6 ⟨rfl,rfl⟩;refine⟨_,rfl,HT.out,?_⟩;go_frame;refine Frm.wh_call 6 37 75 #[.agg #[.pointer (some ⟨g,0,none⟩),.int .i64 gen]] rfl rfl (by kernel_rfl) rfl ?_ ?_
  ·go_simp
  refine(HRM.out w5 HS.out.dk).mono ?_;rintro e w6 ⟨rfl,hb6⟩;have HS:=hid (HS.out.call hb6);have HT:=hid (HT.out.below hb6);clear hb6;refine⟨_,rfl,HT.out,?_⟩;go_frame;have hrr:(R:Int)≤65536:=by have:=HRR.out;omega
  have hpp:(pos:Int)≤R:=by omega
  have hw1:IntKind.i64.wrap ((R:Int)-(pos:Int))=(R:Int)-(pos:Int):=IntWalk.i64_in _ (by omega);refine Frm.wb 8 39 (.int .i64 ((R:Int)-(pos:Int))) HT.out ?_;go_frame;by_cases hf:need L+pos<R
  ·have HFY:=hid hf;have HFF:Hid ((need L:Int)<(R:Int)-pos):=hid (by omega);clear hf;refine Frm.wd 9 40 (.bool false) HT.out (fun w' hw'=> ?_) ?_
   ·have hff:=HFF.out;go_simp;all_goals omega
   go_frame;refine Frm.wb 10 41 (.bool false) HT.out ?_;go_frame;refine wpAnyH_done (by kernel_rfl) ?_ _;clear hw1;go_wp2_with fail;have HT:Hid (Two w6.drew w.heap.size kb g gen m0 m1 m2 m3):=hid ⟨HT.out.bx,HT.out.mb⟩;have HS:=hid HS.out.drew;refine Frm.wh_start (fun w'=>Two w' w.heap.size kb g gen m0 m1 m2 m3) (by kernel_rfl) ?_;generalize w6.drew=w7 at *;refine Frm.wd 0 43 (.agg #[.pointer (some ⟨g,0,none⟩),.int .i64 gen]) HT.out (fun w' hw'=> ?_) ?_
   ·have h0:=box0 hw'.bx;have h1:=box1 hw'.bx;go_simp
   go_frame;refine Frm.wa 1 44 (.int .i64 pos) HT.out ?_;go_frame;have hw1:IntKind.i64.wrap ((pos:Int)+1)=(pos:Int)+1:=IntWalk.i64_in _ (by omega);refine Frm.wb 2 45 (.int .i64 ((pos:Int)+1)) HT.out ?_;go_frame;refine Frm.wa 3 46 (.int .i64 L) HT.out ?_;go_frame;refine Frm.wa 6 49 (.int .i64 L) HT.out ?_;go_frame;refine Frm.wh_call 4 47 94 #[.int .i64 L] rfl rfl (by kernel_rfl) rfl ?_ ?_
   ·go_simp
   refine(HND.out w7).mono ?_;rintro e w8 ⟨rfl,rfl⟩;refine⟨_,rfl,HT.out,?_⟩;go_frame;have hrh:=HRH.out w7 HS.out.dk HFY.out;push_cast at hrh;have HC:=hid hrh;clear hrh hw1;refine Frm.wh_call 5 48 136 #[.agg #[.pointer (some ⟨g,0,none⟩),.int .i64 gen],.int .i64 ((pos:Int)+1),.int .i64 (need L)] rfl rfl (by kernel_rfl) rfl ?_ ?_
   ·go_simp
   refine(HC.out).mono ?_;rintro e w8 ⟨A8,c8,rfl,hr8,hb8⟩;rw[HRL.out] at hr8 ⊢;have HS:=hid (HS.out.call hb8);have HT:=hid (HT.out.below hb8);have HR8:=hid hr8;clear hb8 hr8 HC;refine⟨_,rfl,HT.out,?_⟩;go_frame;refine Frm.wh_call 7 50 135 #[.slice A8 (need L) c8,.int .i64 L] rfl rfl (by kernel_rfl) rfl ?_ ?_
   ·go_simp
   refine(HUN.out w8 c8 A8 HR8.out).mono ?_;rintro e w9 ⟨A9,m9,c9,rfl,hy9,hb9,hc9,hm9,ha9,hu9⟩;rw[←HGX.out] at hy9;rw[←HGU.out];have ha9:=ha9.mono HS.out.low.size;have HS:=hid (HS.out.call hb9);have HT:=hid (HT.out.below hb9);have HY:=hid (And.intro hy9 (And.intro hc9 (And.intro hm9 (And.intro ha9 hu9))));clear hb9 hy9 hc9 hm9 ha9 hu9;refine⟨_,rfl,HT.out,?_⟩;go_frame;refine Frm.wa 8 42 (.tuple #[.slice A9 m9 c9,.bool RU]) HT.out ?_;go_frame;refine Frm.wb 9 51 (.slice A9 m9 c9) HT.out ?_;go_frame;refine Frm.wb 10 52 (.bool RU) HT.out ?_;go_frame;refine Frm.wa 11 13 (.slice A9 m9 c9) HT.out ?_;go_frame;refine Frm.wa 12 11 (.bool RU) HT.out ?_;go_frame;refine wpAnyH_done (by kernel_rfl) ?_ _;go_wp2_with fail;have HT:Hid (Two w9.drew w.heap.size kb g gen m0 m1 m2 m3):=hid ⟨HT.out.bx,HT.out.mb⟩;have HS:=hid HS.out.drew;have HY:Hid (Byts w9.drew w9.drew.heap.size A9 m9 RX∧m9≤c9∧c9≤maxLen∧Frm.Above w.heap.size A9∧Frm.U8 w9.drew A9):=hid ⟨HY.out.1.drewN 1,HY.out.2⟩;refine Frm.wh_start (fun w'=>Two w' w.heap.size kb g gen m0 m1 m2 m3) (by kernel_rfl) ?_;generalize w9.drew=w10 at *;rcases Bool.eq_false_or_eq_true RU with hu|hu
   ·have HUU:=hid hu;have HUL:Hid (m9≤1048576):=hid (by have h1:=HGU.out;rw[hu] at h1;have h2:=unpack_len h1.symm;have h3:=HY.out.1.len;rw[HGX.out] at h3;omega);rw[hu];clear hu;refine Frm.wa 0 53 (.bool true) HT.out ?_;go_frame;refine Frm.wb 1 54 (.bool false) HT.out ?_;go_frame;refine Frm.wa 2 55 (.bool false) HT.out ?_;go_frame;refine Frm.wd 3 56 (.agg #[.int .i64 m0,.int .i64 m1,.int .i64 m2,.int .i64 m3]) HT.out (fun w' hw'=> ?_) ?_
    ·obtain⟨q0,q1,q2,q3⟩:=hw'.c;go_simp
    go_frame;refine Frm.wd 4 57 (.agg #[.pointer (some ⟨g,0,none⟩),.int .i64 gen]) HT.out (fun w' hw'=> ?_) ?_
    ·have h0:=box0 hw'.bx;have h1:=box1 hw'.bx;go_simp
    go_frame;refine Frm.wa 5 58 (.int .i64 seq) HT.out ?_;go_frame;refine Frm.wa 6 59 (.slice A9 m9 c9) HT.out ?_;go_frame;refine Frm.wh_call 7 60 128 #[.agg #[.pointer (some ⟨g,0,none⟩),.int .i64 gen],.int .i64 seq,.slice A9 m9 c9] rfl rfl (by kernel_rfl) rfl ?_ ?_
    ·go_simp
    refine(HMK.out w10 w10.heap.size m9 c9 A9 HY.out.1 (Nat.le_refl _) HUL.out).mono ?_;rintro e w11 ⟨rfl,hb11⟩;have HS:=hid (HS.out.call hb11);have HT:=hid (HT.out.below hb11);have HY:=hid (And.intro ((HY.out.1.below hb11).more hb11.size) (And.intro HY.out.2.1 (And.intro HY.out.2.2.1 (And.intro HY.out.2.2.2.1 (HY.out.2.2.2.2.below hb11)))));clear hb11;refine⟨_,rfl,HT.out,?_⟩;go_frame;rcases HNE.out with⟨he,hq⟩|⟨he,hq⟩
    ·have HGR:Hid (RB=true):=hid (by rw[HGB.out,HGF.out,HOK.out,HUU.out,HGM.out,he];simp[HFY.out]);have HQ:Hid ((m0==2)=true∧(m1==(gen:Int))=true∧(m2==(seq:Int))=true∧(m3==mn)=true):=hid (by obtain⟨rfl,rfl,rfl,rfl⟩:=hq;simp);clear he hq;refine Frm.wd 8 61 (.bool false) HT.out (fun w' hw'=> ?_) ?_
     ·obtain⟨e0,e1,e2,e3⟩:=HQ.out;go_simp
     go_frame;refine Frm.wb 9 62 (.bool false) HT.out ?_;go_frame;refine wpAnyH_done (by kernel_rfl) ?_ _;go_wp2_with fail;go_ret2;rw[HGR.out];exact⟨A9,m9,c9,rfl,HS.out.low,fun _=>HY.out⟩
    have HGR:Hid (RB=false):=hid (by rw[HGB.out,HGM.out,he];simp);have HQ:=hid hq;clear he hq;refine Frm.wd 8 61 (.bool true) HT.out (fun w' hw'=> ?_) ?_
    ·have hq:=HQ.out;go_simp;all_goals (intros;omega)
    go_frame;refine Frm.wb 9 62 (.bool true) HT.out ?_;go_frame;refine wpAnyH_done (by kernel_rfl) ?_ _;go_wp2_with fail;go_ret2;rw[HGR.out];exact group_no HS.out.low
   have HGR:Hid (RB=false):=hid (by rw[HGB.out,hu];simp);rw[hu];clear hu;refine Frm.wa 0 53 (.bool false) HT.out ?_;go_frame;refine Frm.wb 1 54 (.bool true) HT.out ?_;go_frame;refine Frm.wa 2 55 (.bool true) HT.out ?_;go_frame;refine Frm.wq 3 56 HT.out ?_;go_frame;refine Frm.wq 4 57 HT.out ?_;go_frame;refine Frm.wq 5 58 HT.out ?_;go_frame;refine Frm.wq 6 59 HT.out ?_;go_frame;refine Frm.wq 7 60 HT.out ?_;go_frame;refine Frm.wq 8 61 HT.out ?_;go_frame;refine Frm.wb 9 62 (.bool true) HT.out ?_;go_frame;refine wpAnyH_done (by kernel_rfl) ?_ _;go_wp2_with fail;go_ret2;rw[HGR.out];exact group_no HS.out.low
  have HGR:Hid (RB=false):=hid (by rw[HGB.out,HGF.out];simp[hf]);have HFF:Hid ((R:Int)-pos≤need L):=hid (by omega);refine Frm.wd 9 40 (.bool true) HT.out (fun w' hw'=> ?_) ?_
  ·have hff:=HFF.out;go_simp
  go_frame;refine Frm.wb 10 41 (.bool true) HT.out ?_;go_frame;refine wpAnyH_done (by kernel_rfl) ?_ _;go_wp2_with fail;go_ret2;rw[HGR.out];exact group_no HS.out.low
 have HGR:Hid (RB=false):=hid (by rw[HGB.out,HGF.out,hok];rfl);rw[hok];clear hok;refine Frm.wa 0 31 (.bool false) HT.out ?_;go_frame;refine Frm.wb 1 32 (.bool true) HT.out ?_;go_frame;refine Frm.wa 2 33 (.bool true) HT.out ?_;go_frame;refine Frm.wq 3 34 HT.out ?_;go_frame;refine Frm.wq 4 35 HT.out ?_;go_frame;refine Frm.wq 5 36 HT.out ?_;go_frame;refine Frm.wq 6 37 HT.out ?_;go_frame;refine Frm.wq 7 38 HT.out ?_;go_frame;refine Frm.wq 8 39 HT.out ?_;go_frame;refine Frm.wq 9 40 HT.out ?_;go_frame;refine Frm.wb 10 41 (.bool true) HT.out ?_;go_frame;refine wpAnyH_done (by kernel_rfl) ?_ _;go_wp2_with fail;go_ret2;rw[HGR.out];exact group_no HS.out.low
end Go.Proofs.YtdjhlhellkajfaaGreat.Jou
namespace Go.Proofs.YtdjhlhellkajfaaGreat.Jou
open Go.RowKit Go.Shelf
section
variable {α:Type} {P:Program}
def Tells (n:Nat) (P:Program) (gf:Nat) (lb:Array Value) (encs:α→Array Value) (F:List α→α→World→Prop) (Kp:World→World→Prop) (S:List α→Prop) (w:World):Prop:=
 ∀(l:Nat) (J:List α→World→Prop) (W:World),Below w.heap.size w W→(∀s A B,J s A→A.grownBy B none→J s B)→
  (∀pre x U,J pre U→F pre x U→YieldAt Fence.wide (n-1) P l (encs x) U fun e U'=>e= .returned (.bool true)∧J (pre++[x]) U'∧Kp U U')→
  J [] W→CallsIn Fence.wide n P gf (#[.func (.yield l) #[] #[]]++lb) W fun e U=>(∃v,e= .returned v)∧∃xs,S xs∧J xs U
def toldPost (B:Nat) (Kp:World→World→Prop) (I:List α→World→Prop) (xs:List α) (W:World):Exit→Act→World→Prop
 | .normal,_,U=>KeepsFrom B W U∧Kp W U∧I xs U
 |_,_,_=>False
theorem wpIn_range_told{g:Operand}{ps:Array Tmp}{assign body:Code}{Q:Exit→Act→World→Prop}{a:Act}{w:World}{n gf:Nat}{lb:Array Value}(hg:a.eval g= .func (.func gf) #[] lb)(eg:∀args w,(callFunc gf args).run P w= .ok (.enter gf args) w)
  (encs:α→Array Value) (F:List α→α→World→Prop) (Kp:World→World→Prop) (S:List α→Prop) (hseq:Tells (n-1) P gf lb encs F Kp S w) (hps:∀x,(encs x).size=ps.size)
  (hKt:∀{A B C:World},Kp A B→Kp B C→Kp A C) (hKb:∀(W:World) (l:Nat) (o o':Obj),w.heap.size≤l→W.heap[l]? =some o→o.isCells=false→Kp W (W.putObj l o'))
  (hF:∀pre x W l o o',F pre x W→W.heap[l]? =some o→o.isCells=false→F pre x (W.putObj l o'))
  (I:List α→World→Prop) (hI:OwnFrom w.heap.size I) (h0:I [] w) (a₁:α→Act)
  (hassign:∀(l:Nat) (x:α) (W:World) (K:Act→World→Prop),K (a₁ x) W→
   assign.wpIn (Fence.wide.inRound l) (n-1-1) P (Exit.then K (fun _ _ _=>False)) {tmps:=(ps.zip (encs x)).foldl (fun t (p,v)=>t.setIfInBounds p v) a.tmps,defers:=[]} W)
  (hbody:∀(l:Nat) (pre:List α) (x:α) (W:World),I pre W→F pre x W→body.wpIn (Fence.wide.inRound l) (n-1-1) P (toldPost w.heap.size Kp I (pre++[x]) W) (a₁ x) W)
  (hdone:∀(D:Nat) (xs:List α) (W:World),w.heap.size≤D→S xs→I xs W→W.heap[D]? =some (.deferred (some []))→Q .normal {a with defers:={target:= .collected D,args:= #[]}::a.defers} W):
  (Code.rangeFunc g ps assign body).wpIn Fence.wide n P Q a w:=by
 refine wpIn_rangeFunc fun fn hfn=> ?_;let rc:LoopState→Loop:=fun st=>{state:=st,pending:=none,fn,tmps:=a.tmps,params:=ps,assign,body,defers:=w.heap.size}
 obtain⟨V,hV⟩:∃V,(w.alloc (.deferred (some []))).alloc (.loop (rc .ready))=V:=⟨_,rfl⟩
 have hl0:V.heap[w.heap.size+1]? =some (.loop (rc .ready)):=by
  rw[←hV];have:=World.alloc_heap_new (w.alloc (.deferred (some []))) (.loop (rc .ready));rwa [World.size_alloc] at this
 have hd0:V.heap[w.heap.size]? =some (.deferred (some [])):=by
  rw[←hV];exact(Below.heap_alloc _ _ _ (by simp)).trans (World.alloc_heap_new w _)
 have hb0:Below w.heap.size w V:=by
  rw[←hV];exact((Below.refl _ w).alloc (Nat.le_refl _) _).alloc (by simp) _
 have hi0:I [] V:=by
  rw[←hV];exact hI.alloc _ (hI.alloc _ h0)
 refine⟨w.heap.size+1,[{target:= .collected w.heap.size,args:= #[]}],V,{target:= .fn (.func gf) lb,args:= #[.func (.yield (w.heap.size+1)) #[] #[]]},V,gf,
  #[.func (.yield (w.heap.size+1)) #[] #[]]++lb,V,?_,?_,fun _ _=>trivial,?_,(fun h=>by cases h),?_⟩
 ·rw[←hV];exact run_enterLoop_outer _ _ _ _ _
 ·simp only[resolve,hg];simp[go_sem]
 ·simp[invoke,go_sem,eg]
 have same:∀{A B:World} {k:Nat} {o:Obj},A.grownBy B none→A.heap[k]? =some o→B.heap[k]? =some o:=fun hgr hk=>(hgr.block _ (Array.getElem?_eq_some_iff.1 hk).1 (by simp)).trans hk;refine(hseq (w.heap.size+1) (fun pre W=>I pre W∧W.heap[w.heap.size+1]? =some (.loop (rc .ready))∧W.heap[w.heap.size]? =some (.deferred (some []))) V hb0
  (fun s A B ⟨k1,k2,k3⟩ hgr=>⟨hI s A B none k1 hgr (fun r e=>by cases e),same hgr k2,same hgr k3⟩) ?_ ⟨hi0,hl0,hd0⟩).mono ?_
 ·rintro pre x W ⟨hi,hl,hd⟩ hx;have hlt:w.heap.size+1<W.heap.size:=(Array.getElem?_eq_some_iff.1 hl).1;refine⟨fn,_,assign,body,run_yield (P:=P) (args:=encs x) hl (hps x),roundIn_of_wpIn hfn (hassign _ x W _ ⟨_,run_beginRound hl rfl,?_⟩)⟩;have hl2:(W.putObj (w.heap.size+1) (.loop (rc .busy))).heap[w.heap.size+1]? =some (.loop (rc .busy)):=World.putObj_heap_same hlt;have hd2:(W.putObj (w.heap.size+1) (.loop (rc .busy))).heap[w.heap.size]? =some (.deferred (some [])):=(World.putObj_heap_other (by omega)).trans hd;refine wpIn_mono (hbody _ pre x _ (hI.putObj _ hi (by omega) hl rfl) (hF pre x _ _ _ _ hx hl rfl)) ?_;rintro e a3 U hp;cases e with
  |normal=>
   obtain⟨p1,p2,p3⟩:=hp;have hl3:U.heap[w.heap.size+1]? =some (.loop (rc .busy)):=p1.same _ _ (by omega) hl2 rfl;have hd3:=p1.same _ _ (Nat.le_refl _) hd2 rfl;refine⟨_,_,run_endRound (P:=P) none hl3,rfl,⟨hI.putObj _ p3 (by omega) hl3 rfl,World.putObj_heap_same (Array.getElem?_eq_some_iff.1 hl3).1,(World.putObj_heap_other (by omega)).trans hd3⟩,?_⟩;exact hKt (hKt (hKb _ _ _ _ (by omega) hl rfl) p2) (hKb _ _ _ _ (by omega) hl3 rfl)
  |_=>exact hp.elim
 rintro e W2 ⟨⟨v,rfl⟩,xs,hS,hi,hl,hd⟩;exact⟨none,_,run_endLoop (P:=P) hl (by simp[rc]),hdone _ xs _ (Nat.le_refl _) hS (hI.putObj _ hi (by omega) hl rfl) ((World.putObj_heap_other (by omega)).trans hd)⟩
end
end Go.Proofs.YtdjhlhellkajfaaGreat.Jou
namespace Go.Proofs.YtdjhlhellkajfaaGreat.Jou
open Go.RowKit Codec FrameM Cod JourM
open Disk (Turn Dk Dsk ptr Now)
open Frm (Above U8)
structure It where
 A:Option Addr
 m:Nat
 c:Nat
 xs:List UInt8
def It.val (x:It):Value:= .slice x.A x.m x.c
structure It.ok (w:World) (lo:Nat) (x:It):Prop where
 byts:Byts w w.heap.size x.A x.m x.xs
 mc:x.m≤x.c
 cm:x.c≤maxLen
 ab:Above lo x.A
 u8:U8 w x.A
def Fine (w:World) (lo:Nat) (S:List Nat):Prop:=∀k∈S,k<lo∨w.heap.size≤k∨∃(cs:Array Value) (T:TypeId),w.heap[k]? =some (.cells cs T (0,0))∧T≠5
theorem It.ok.turn{w w':World}{lo:Nat}{S:List Nat}{x:It}(h:x.ok w lo)(ht:Turn S w w')(hS:Fine w lo S):x.ok w' lo:=by
 have hb:∀p:Addr,x.A=some p→w'.heap[p.block]? =w.heap[p.block]? :=fun p hp=>by
  obtain⟨cs,hc⟩:=h.u8 p hp;refine ht.block _ (lt_of_heap hc) fun hm=> ?_;rcases hS _ hm with k|k|⟨cs',T,k,hT⟩
  ·have:=h.ab p hp;omega
  ·have:=lt_of_heap hc;omega
  rw[hc] at k;injection k with k;injection k with _ e;exact hT e.symm
 refine⟨⟨h.byts.len,fun hn=> ?_⟩,h.mc,h.cm,h.ab,fun p hp=> ?_⟩
 ·obtain⟨b,off,e,hl,hc⟩:=h.byts.at_ hn;have hbb:=hb _ e;exact⟨b,off,e,Nat.lt_of_lt_of_le hl ht.size,fun j hj=>(World.cell?_of_block (w:=w) (a:=⟨b,off+j,none⟩) hbb).trans (hc j hj)⟩
 obtain⟨cs,hc⟩:=h.u8 p hp;exact⟨cs,(hb p hp).trans hc⟩
theorem It.ok.below{w w':World}{lo:Nat}{x:It}(h:x.ok w lo)(hb:Below w.heap.size w w'):x.ok w' lo:=h.turn (S:=[]) (Turn.ofBelow hb) (by simp[Fine])
theorem own_same{w w':World}{base size n:Nat}{e:TypeId}{v:Value}{xs:List Value}(h:w.ownsRow base e size v n xs)(hk:∀g,v.ownBlock=some g→w'.heap[g]? =w.heap[g]?):w'.ownsRow base e size v n xs:=by
 refine⟨h.1,?_⟩;rcases h.2 with h0|⟨g,cap,cur,hv,hg,hh,r⟩
 ·exact .inl h0
 exact .inr ⟨g,cap,cur,hv,hg,by rw[hk g (by rw[hv];rfl)];exact hh,r⟩
theorem own_type{w:World}{base size n r:Nat}{e:TypeId}{v:Value}{xs:List Value}(h:w.ownsRow base e size v n xs)(hr:v.ownBlock=some r):base≤r∧∃cur,w.heap[r]? =some (.cells cur e (0,0)):=by
 rcases h.2 with⟨rfl,_⟩|⟨g,cap,cur,rfl,hg,hh,_⟩
 ·simp[Value.ownBlock] at hr
 have:g=r:=by simpa [Value.ownBlock] using hr
 subst this;exact⟨hg,cur,hh⟩
def jobj (g gen:Nat) (v:Value) (u:Nat) (dn:Bool):Obj:= .cells #[ptr g,.int .i64 gen,v,.int .i64 u,.bool dn] 109
structure Jn (w:World) (lo j g gs gm:Nat) (d:Dsk) (jr:Jr) (v:Value):Prop where
 disk:Dk w g gs gm d
 hd:w.heap[j]? =some (jobj g jr.gen v (takes jr.gs) jr.down)
 own:∃its:List It,w.ownsRow lo 39 1 v its.length (its.map It.val)∧its.map It.xs=jr.gs∧∀x∈its,x.ok w lo
 lows:∀x∈[j,g,gs,gm],x<lo
 le:lo≤w.heap.size
 n8:8≤d.n
 one:1≤jr.gen
 big:jr.gen<9223372036854775807
 fit:takes jr.gs≤room d.n
section
variable {w w':World} {lo j g gs gm:Nat} {d d':Dsk} {jr:Jr} {v:Value}
theorem Jn.apart(h:Jn w lo j g gs gm d jr v):j∉[g,gs,gm]:=apart_disk h.disk h.hd (by decide) (by simp[ptr])
theorem Jn.room16(h:Jn w lo j g gs gm d jr v):room d.n≤65536∧takes jr.gs≤65536:=by
 have:=h.disk.ok.2.1;have:=h.fit;unfold room at *;omega
theorem Jn.disked(h:Jn w lo j g gs gm d jr v)(hd:Dk w' g gs gm d')(ht:Turn [g,gs,gm] w w')(hn:d'.n=d.n):Jn w' lo j g gs gm d' jr v:=by
 have hlow:∀k∈[g,gs,gm],k<lo:=fun k hk=>h.lows k (List.mem_cons_of_mem _ hk);obtain⟨its,o1,o2,o3⟩:=h.own;refine⟨hd,(ht.block j (lt_of_heap h.hd) h.apart).trans h.hd,⟨its,own_same o1 fun r hr=> ?_,o2,fun x hx=>(o3 x hx).turn ht fun k hk=> .inl (hlow k hk)⟩,h.lows,Nat.le_trans h.le ht.size,by rw[hn];exact h.n8,h.one,h.big,by rw[hn];exact h.fit⟩;obtain⟨hlo,cur,hc⟩:=own_type o1 hr;exact ht.block r (lt_of_heap hc) fun hm=>by have:=hlow r hm;omega
theorem Jn.below(h:Jn w lo j g gs gm d jr v)(hb:Below w.heap.size w w'):Jn w' lo j g gs gm d jr v:=by
 obtain⟨its,o1,o2,o3⟩:=h.own;refine⟨Dk.below h.disk hb,(hb.block j (lt_of_heap h.hd)).trans h.hd,⟨its,own_same o1 fun r hr=> ?_,o2,fun x hx=>(o3 x hx).below hb⟩,h.lows,Nat.le_trans h.le hb.size,h.n8,h.one,h.big,h.fit⟩;obtain⟨_,cur,hc⟩:=own_type o1 hr;exact hb.block r (lt_of_heap hc)
theorem Jn.drew(h:Jn w lo j g gs gm d jr v):Jn w.drew lo j g gs gm d jr v:=h.below ⟨rfl,rfl,rfl,Nat.le_refl _,fun _ _=>rfl⟩
theorem Jn.c(h:Jn w lo j g gs gm d jr v):w.cell? ⟨j,0,none⟩=some (.pointer (some ⟨g,0,none⟩))∧w.cell? ⟨j,1,none⟩=some (.int .i64 jr.gen)∧w.cell? ⟨j,2,none⟩=some v∧w.cell? ⟨j,3,none⟩=some (.int .i64 (takes jr.gs))∧w.cell? ⟨j,4,none⟩=some (.bool jr.down):=
 ⟨cell_at h.hd 0,cell_at h.hd 1,cell_at h.hd 2,cell_at h.hd 3,cell_at h.hd 4⟩
theorem Jn.len(h:Jn w lo j g gs gm d jr v):∃A c,v= .slice A jr.gs.length c∧jr.gs.length≤c:=by
 obtain⟨its,o1,o2,_⟩:=h.own;have hl:its.length=jr.gs.length:=by rw[←o2,List.length_map]
 rw[hl] at o1;rcases o1.2 with⟨rfl,h0⟩|⟨r,cap,cur,rfl,_,_,h1,_⟩
 ·exact⟨none,0,by rw[h0],by omega⟩
 exact⟨_,cap,rfl,h1⟩
end
structure RowL (w:World) (A:Option Addr) (n:Nat) (ls:List (List UInt8)):Prop where
 len:ls.length=n
 at_:0<n→∃b off,A=some ⟨b,off,none⟩∧∀j,j<n→∃Aj cj,w.cell? ⟨b,off+j,none⟩=some (.slice Aj (ls.getD j []).length cj)
theorem RowsB.rowl{w:World}{S:List Nat}{A:Option Addr}{n:Nat}{ls:List (List UInt8)}(h:RowsB w S A n ls):RowL w A n ls:=
 ⟨h.len,fun hn=>by
  obtain⟨b,off,e,_,_,hc⟩:=h.at_ hn;exact⟨b,off,e,fun j hj=>by obtain⟨Aj,cj,h1,_⟩:=hc j hj;exact⟨Aj,cj,h1⟩⟩⟩
theorem RowL.at{w:World}{A:Option Addr}{n:Nat}{ls:List (List UInt8)}(h:RowL w A n ls){k:Nat}(hk:k<n):∃b o Aj cj,(∀c (w':World),(Instr.indexAt 40 (.slice A n c) (.int .i64 k)).run Tryz.prog w'= .ok (.pointer (some ⟨b,o,none⟩)) w')∧w.cell? ⟨b,o,none⟩=some (.slice Aj (ls.getD k []).length cj):=by
 obtain⟨b,off,rfl,hc⟩:=h.at_ (by omega);obtain⟨Aj,cj,h1⟩:=hc k hk;refine⟨b,off+k,Aj,cj,fun c w'=> ?_,h1⟩;simp[Instr.indexAt,asIntOf,run_underlying Tryz.underlying40,Result.andThen,Addr.add_mid];intro h1;omega
theorem rowl_one(w:World)(A:Option Addr)(c:Nat)(xs:List UInt8)(m:Nat)(hm:xs.length=m):RowL (w.alloc (.cells #[.slice A m c] 39)) (some ⟨w.heap.size,0,none⟩) 1 [xs]:=
 ⟨rfl,fun _=>⟨w.heap.size,0,rfl,fun k hk=>by
  obtain rfl:k=0:=by omega
  exact⟨A,c,by rw[cell_at (heap_alloc_new w _)];simp[hm]⟩⟩⟩
theorem takes_any(w:World)(n c:Nat)(A:Option Addr)(ls:List (List UInt8))(hr:RowL w A n ls)(ht:takes ls≤1000000000000):Calls Tryz.prog 51 #[.slice A n c] w (Disk.Ends (.int .i64 (takes ls)) w):=by
 have HR:=hid hr;have HLEN:=hid hr.len;have HT:=hid ht;have hn12:(n:Int)≤1000000000000:=by have:=takes_length ls;have:=hr.len;omega
 have HND:=hid (fun (k:Nat) (hk:k≤1000000000000000)=>Frm.need_any (k:Int) w (by unfold in64;omega));clear hr ht;go_enter Tryz.func51,Tryz.ntmps51;go_wp2;go_loop [3,8] (fun s i=>∃k:Nat,k≤n∧i= .int .i64 k∧s= .int .i64 (takes (ls.take k))) (fun _ i=>n-(Go.RowKit.intOf i).toNat)
 case atStart=>exact⟨0,by omega,rfl,by simp[takes]⟩
 case round=>
  obtain⟨k,hk,rfl,rfl⟩:=hrel;by_cases hlt:k<n
  ·obtain⟨b,o,Aj,cj,hat,hcell⟩:=HR.out.at hlt;have hkl:k<ls.length:=by rw[HLEN.out];exact hlt
   have hs:=takes_snoc_take ls k hkl;have HTT:Hid (takes (ls.take (k+1))=takes (ls.take k)+takes1 (ls.getD k [])):=hid hs;have hle:=takes_take ls (k+1);have hb1:(takes (ls.take k):Int)+(1+need (ls.getD k []).length)≤1000000000000:=by have:=HT.out;unfold takes1 at hs;omega
   have hlx:(ls.getD k []).length≤1000000000000000:=by unfold need at hb1;omega
   have HC:=hid (HND.out _ hlx);rw[needI_nat] at HC;have HT1:Hid (takes1 (ls.getD k [])=1+need (ls.getD k []).length):=hid rfl;have hidx:=hat c;clear hat;have hn0:(0:Int)≤need (ls.getD k []).length:=by omega
   clear hs hle hkl hlx;generalize need (ls.getD k []).length=nd at *;generalize (ls.getD k []).length=lx at *;generalize takes (ls.take k)=tk at *;go_wp2_with fail;refine HC.out.mono ?_;rintro e w1 ⟨rfl,rfl⟩;go_wp2;go_round
   case rel=>exact⟨k+1,by omega,by go_num,by rw[HTT.out,HT1.out];push_cast;rfl⟩
   case measure=>simp[Go.RowKit.intOf];omega
  obtain rfl:k=n:=by omega
  go_wp2;go_ret;refine⟨?_,rfl⟩;rw[List.take_of_length_le (by rw[HLEN.out];exact Nat.le_refl _)];rfl
section
variable {w:World} {lo j g gs gm:Nat} {d:Dsk} {jr:Jr} {v:Value}
theorem jmade_any(h:Jn w lo j g gs gm d jr v):Calls Tryz.prog 74 #[ptr j] w (Disk.Ends (.bool true) w):=by
 have h0:=h.c.1;clear h;unfold ptr;go_enter Tryz.func74,Tryz.ntmps74;go_wp2;go_ret;exact⟨rfl,rfl⟩
theorem jdown_any(h:Jn w lo j g gs gm d jr v):Calls Tryz.prog 26 #[ptr j] w (Disk.Ends (.bool jr.down) w):=by
 have HM:=hid (jmade_any h);have h4:=h.c.2.2.2.2;clear h;unfold ptr at HM ⊢;generalize jr.down=dn at *;go_enter Tryz.func26,Tryz.ntmps26;go_wp2_with fail;refine HM.out.mono ?_;rintro e w1 ⟨rfl,rfl⟩;go_wp2;go_ret;exact⟨rfl,rfl⟩
theorem jroom_any(h:Jn w lo j g gs gm d jr v):Calls Tryz.prog 29 #[ptr j] w (EndsBelow (.int .i64 (room d.n)) w):=by
 have HM:=hid (jmade_any h);have HR:=hid (room_any w g gs gm d jr.gen h.disk (by have:=h.n8;omega));obtain⟨h0,h1,_⟩:=h.c;clear h;unfold hv at HR;unfold ptr at HM HR ⊢;go_enter Tryz.func29,Tryz.ntmps29;go_wp2_with fail;refine HM.out.mono ?_;rintro e w1 ⟨rfl,rfl⟩;go_wp2_with fail;refine HR.out.mono ?_;rintro e w2 ⟨rfl,hb⟩;have HB:=hid hb;clear hb;go_wp2_with fail;go_ret;exact⟨rfl,HB.out⟩
end
end Go.Proofs.YtdjhlhellkajfaaGreat.Jou
namespace Go.Proofs.YtdjhlhellkajfaaGreat.Jou
open Go.RowKit Codec FrameM Cod JourM
open Disk (Turn Dk Dsk ptr Now)
open Frm (Above U8)
theorem run_app_it(w:World)(ty:TypeId)(lo:Nat)(v:Value)(its:List It)(h:w.ownsRow lo 39 1 v its.length (its.map It.val))(x:It)(ad:Addr)(c:Nat)(hc:w.cell? ad=some x.val)(hn:its.length≤1000000)(hlo:lo≤w.heap.size):
  ∃A' c' w',(Builtin.append_ #[40,40] ty #[v,.slice (some ad) 1 c]).run Tryz.prog w= .ok (.slice A' (its.length+1) c') w'∧w'.ownsRow lo 39 1 (.slice A' (its.length+1) c') (its++[x]).length ((its++[x]).map It.val)∧w.grownBy w' v.ownBlock∧
   ((Value.slice A' (its.length+1) c').ownBlock=v.ownBlock∨(Value.slice A' (its.length+1) c').ownBlock=some w.heap.size):=by
 obtain⟨i0,hi0,hz0,hz1,hz2⟩:=info_parts Frm.info24;have hadd:ad.add 0=ad:=by unfold Addr.add;split<;>simp_all
 obtain⟨v',w',hrun,r1,r2,_,r5⟩:=run_append_own_at (P:=Tryz.prog) w lo 40 ty 39 i0 (.slice none 0 0) 1 24 Tryz.underlying40 hi0 hz0 hz1 hz2 rfl (by decide) v its.length (its.map It.val) h ad 1 c [x.val] rfl (fun j y hy=>by
  match j,hy with
  |0,hy=>
   simp at hy;subst hy;rw[hadd];exact hc) (by simp[Value.oneCell',It.val]) (by unfold maxLen;omega) (by omega) hlo
 have hform:∃A' c',v'= .slice A' (its.length+1) c':=by
  rcases r1.2 with⟨_,h0⟩|⟨g,cap,cur,rfl,_⟩
  ·omega
  exact⟨_,_,rfl⟩
 obtain⟨A',c',rfl⟩:=hform;exact⟨A',c',w',hrun,by simpa using r1,r2,r5⟩
theorem wpList_app_it(w:World){ops:Array Oper}{rest:List Oper}{o:Oper}{a:Act}{Q:Exit→Act→World→Prop}(hgd:o.guard=none)(s y:Operand)
  (ho:o.op= .call {callee:= .builtin .append,args:= #[s,y],argTypes:= #[40,40]})
  (lo:Nat) (v:Value) (its:List It) (hs:a.eval s=v) (h:w.ownsRow lo 39 1 v its.length (its.map It.val)) (x:It) (ad:Addr) (c:Nat) (hy:a.eval y= .slice (some ad) 1 c) (hc:w.cell? ad=some x.val) (hn:its.length≤1000000) (hlo:lo≤w.heap.size)
  (hK:∀A' c' w',w'.ownsRow lo 39 1 (.slice A' (its.length+1) c') (its++[x]).length ((its++[x]).map It.val)→w.grownBy w' v.ownBlock→
   ((Value.slice A' (its.length+1) c').ownBlock=v.ownBlock∨(Value.slice A' (its.length+1) c').ownBlock=some w.heap.size)→wpList Tryz.prog ops Q rest (a.put o.dst (.slice A' (its.length+1) c')) w'):wpList Tryz.prog ops Q (o::rest) a w:=by
 obtain⟨A',c',w',hrun,k2,k3,k4⟩:=run_app_it w o.type lo v its h x ad c hc hn hlo;refine wpList_plain hgd fun _ hK'=> ?_;unfold Oper.wp execOp;simp only[ho,resolve,invoke,builtin,Sem.run_bind,Sem.run_pure,Result.andThen_ok,List.map_toArray,List.map_cons,List.map_nil,hs,hy,hrun];exact hK' _ _ (hK A' c' w' k2 k3 k4)
section
variable {P:Program} {ops:Array Oper} {Q:Exit→Act→World→Prop} {md:Region.Mode} {S:World→Prop} {n fuel:Nat} {listed:Array Bool} {a:Act} {w:World}
theorem as_take(i d:Nat)(v:Value){oi:Oper}(hi:ops[i]? =some oi)(hd:oi.dst=some d)(hB:(Region.noSelect ops&&Region.free md ops listed i&&(Region.ready md ops listed).contains i&&decide (i<n)&&decide (n<ops.size))=true)
  (hQ:∀c a w,Q (.panic c) (a.put oi.dst v) w→Q (.panic c) a w) (hw:Region.wanted oi (yielded ops a.tmps)=true) (hS:S w) (hy:∀w,S w→(execOp a.eval oi).run P w= .ok (.value v) w)
  (h:Disk.AtS P md ops Q S n fuel (listed.setIfInBounds i true) (a.put (some d) v) w):Disk.AtS P md ops Q S n (fuel+1) listed a w:=by
 simp only[Bool.and_eq_true,decide_eq_true_eq] at hB;obtain⟨⟨⟨⟨b1,b2⟩,b3⟩,b4⟩,b5⟩:=hB;exact Disk.AtS.take hi b1 b2 b3 b4 b5 hQ hw hy hS (by rw[hd];exact h)
theorem as_call(i d f:Nat)(args:Array Value){oi:Oper}(hi:ops[i]? =some oi)(hd:oi.dst=some d)(hr:Region.ready md ops listed=[i]∧i<n)(hw:Region.wanted oi (yielded ops a.tmps)=true)
  (hrun:(execOp a.eval oi).run P w= .ok (.enter f args) w) (hc:Calls P f args w fun e w'=>∃v,e= .returned v∧S w'∧Disk.AtS P md ops Q S n fuel (listed.setIfInBounds i true) (a.put (some d) v) w'):
  Disk.AtS P md ops Q S n (fuel+1) listed a w:=
 Disk.AtS.call hi hr.1 hr.2 hw hrun (hc.mono fun e w' ⟨v,e1,e2,e3⟩=>⟨v,e1,e2,by rw[hd];exact e3⟩)
theorem as_run(i d:Nat)(v:Value)(w':World){oi:Oper}(hi:ops[i]? =some oi)(hd:oi.dst=some d)(hr:Region.ready md ops listed=[i]∧i<n)(hw:Region.wanted oi (yielded ops a.tmps)=true)
  (hrun:(execOp a.eval oi).run P w= .ok (.value v) w') (hS:S w') (h:Disk.AtS P md ops Q S n fuel (listed.setIfInBounds i true) (a.put (some d) v) w'):Disk.AtS P md ops Q S n (fuel+1) listed a w:=fun hs hcb inv=>by
 obtain⟨hr,hin⟩:=hr;refine⟨fun h0=>(by rw[h0] at hr;cases hr),fun k hk=> ?_⟩;rw[hr] at hk;obtain rfl:k=i:=by simpa using hk
 unfold wpOp;simp only[hi,hw,if_true];refine .inl ?_;unfold Oper.wp;rw[hrun];simp only[Oper.upon];rw[hd];exact⟨fun _=>hS,h hs hcb (inv.set (by rw[hr];simp) hin)⟩
end
theorem turn_grown{w w':World}{v:Value}(h:w.grownBy w' v.ownBlock):Turn v.ownBlock.toList w w':=⟨h.os,h.tape,h.output,h.size,fun k hk hn=>h.block k hk (fun e=>hn (by rw[←e];simp))⟩
def Added (w:World) (lo j g gs gm:Nat) (d:Dsk) (jr:Jr) (v:Value) (b:List UInt8) (e:Ending) (w':World):Prop:=
 e= .returned (.tuple #[])∧∃v',Jn w' lo j g gs gm d {jr with gs:=jr.gs++[b]} v'∧Turn (j::v.ownBlock.toList) w w'∧(v'.ownBlock=v.ownBlock∨∃r,v'.ownBlock=some r∧w.heap.size≤r)
theorem fine_row{w:World}{lo:Nat}{v:Value}{n:Nat}{xs:List Value}(h:w.ownsRow lo 39 1 v n xs):Fine w lo v.ownBlock.toList:=by
 intro k hk;cases hv:v.ownBlock with
 |none=>rw[hv] at hk;simp at hk
 |some r=>
  rw[hv] at hk;simp at hk;subst hk;obtain⟨_,cur,hc⟩:=own_type h hv;exact .inr (.inr ⟨cur,_,hc,by decide⟩)
theorem add_any(w:World)(lo j g gs gm:Nat)(d:Dsk)(jr:Jr)(v:Value)(x:It)(h:Jn w lo j g gs gm d jr v)(hx:x.ok w lo)(hft:takes jr.gs+takes1 x.xs≤room d.n):
  Calls Tryz.prog 56 #[ptr j,x.val] w (Added w lo j g gs gm d jr v x.xs):=by
 obtain⟨gen,gl,dn⟩:=jr;dsimp only at *;have HJ:=hid h;obtain⟨its,ho,hi,hok⟩:=h.own;dsimp only at hi;have hli:its.length≤65536:=by have h1:=h.room16.2;have h2:=takes_length gl;rw[←hi,List.length_map] at h2;dsimp only at h1;rw[←hi] at h1;omega
 have HO:=hid ho;have HI:=hid hi;have HOK:=hid hok;have HX:=hid hx;have hc:=h.c;dsimp only at hc;obtain⟨c0,c1,c2,c3,c4⟩:=hc;have HD:Hid (w.heap[j]? =some (.cells #[.pointer (some ⟨g,0,none⟩),.int .i64 gen,v,.int .i64 (takes gl),.bool dn] 109 (0,0))):=hid h.hd;have f2:w.frozen? ⟨j,2,none⟩=false:=free_at h.hd 2;have hjl:j<lo:=h.lows j (by simp);have HJL:=hid (And.intro hjl h.le);have HFT:=hid hft;have hu:=h.room16.2;dsimp only at hu;have HTK:Hid (takes (gl++[x.xs])=takes gl+takes1 x.xs):=hid (takes_snoc gl x.xs);have HTO:=hid (takes_one x.xs);have hu2:(takes gl:Int)≤65536:=by omega
 have hr16:room d.n≤65536:=h.room16.1;have ht2:(takes1 x.xs:Int)≤65536:=by omega
 have HT2:Hid (takes1 x.xs≤65536):=hid (by omega);obtain⟨Av,cv,hv,_⟩:=h.len;dsimp only at hv;have hgl:gl.length=its.length:=by rw[←hi,List.length_map]
 rw[hgl] at hv;subst hv;generalize htg:takes gl=u0 at *;generalize htx:takes1 x.xs=u1 at *;have HTG:=hid htg;have HTX:=hid htx;clear h ho hi hok hx hft hu htg htx hgl hr16 c1 c4;have HXV:Hid (x.val= .slice x.A x.m x.c):=hid rfl;unfold ptr at *;rw[HXV.out];go_enter Tryz.func56,Tryz.ntmps56;have HW1:=hid (Frm.alloc_below w (.cells #[.slice x.A x.m x.c] 39));have HO1:=hid (HO.out.alloc (.cells #[.slice x.A x.m x.c] 39));have HC1:Hid ((w.alloc (.cells #[.slice x.A x.m x.c] 39)).cell? ⟨w.heap.size,0,none⟩=some x.val):=hid (cell_at (heap_alloc_new w _) 0);have HD1:=hid ((HW1.out.block j (lt_of_heap HD.out)).trans HD.out);go_wp2_with (at_builtin;go_loud (refine wpList_app_it _ rfl (.tmp 8) (.tmp 10) rfl lo (.slice Av its.length cv) its rfl HO1.out x ⟨w.heap.size,0,none⟩ 1 rfl HC1.out (by omega) (by have:=HJL.out.2;simp;omega) ?_);intro A' c' w2 ho2 hg2 hb2;have HO2:=hid ho2;have HG2:=hid hg2;have HB2:=hid hb2;have HD2:=hid ((hg2.block j (by have:=lt_of_heap HD1.out;exact this) (fun e=>by have h9:=own_type HO1.out e.symm;have:=HJL.out.1;omega)).trans HD1.out);have k2:w2.cell? ⟨j,2,none⟩=some (.slice Av its.length cv):=cell_at HD2.out 2;have k2f:w2.frozen? ⟨j,2,none⟩=false:=free_at HD2.out 2;clear ho2 hg2 hb2);have HD3:Hid ((w2.setCell ⟨j,2,none⟩ (.slice A' (its.length+1) c')).heap[j]? =some (.cells #[.pointer (some ⟨g,0,none⟩),.int .i64 gen,.slice A' (its.length+1) c',.int .i64 u0,.bool dn] 109 (0,0))):=hid (set_at HD2.out 2 _);have HT3:Hid (Turn [j] w2 (w2.setCell ⟨j,2,none⟩ (.slice A' (its.length+1) c'))):=hid ((Turn.refl [j] w2).setCell (.inl (by simp)) _);generalize w2.setCell ⟨j,2,none⟩ (.slice A' (its.length+1) c')=w3 at *;clear k2 k2f c0 c2 c3 f2;have HD3:Hid (w3.drew.heap[j]? =some (.cells #[.pointer (some ⟨g,0,none⟩),.int .i64 gen,.slice A' (its.length+1) c',.int .i64 u0,.bool dn] 109 (0,0))):=hid HD3.out;have HT3:Hid (Turn [j] w2 w3.drew):=hid HT3.out.drew;refine Disk.AtS.start (by kernel_rfl) 10 (fun w'=>w'.heap[j]? =some (.cells #[.pointer (some ⟨g,0,none⟩),.int .i64 gen,.slice A' (its.length+1) c',.int .i64 u0,.bool dn] 109 (0,0))) (by kernel_rfl) (by kernel_rfl) ?_;generalize w3.drew=w4 at *;refine as_take 0 14 (.pointer (some ⟨j,0,none⟩)) rfl rfl (by kernel_rfl) (fun _ _ _ h=>h) rfl (HD3.out) (fun w' hw'=> ?_) ?_
 ·exact rfl
 go_frame;refine as_take 1 15 (.pointer (some ⟨j,0,none⟩)) rfl rfl (by kernel_rfl) (fun _ _ _ h=>h) rfl (HD3.out) (fun w' hw'=> ?_) ?_
 ·go_simp
 go_frame;refine as_take 2 16 (.pointer (some ⟨j,3,none⟩)) rfl rfl (by kernel_rfl) (fun _ _ _ h=>h) rfl (HD3.out) (fun w' hw'=> ?_) ?_
 ·go_simp
 go_frame;refine as_take 3 17 (.int .i64 u0) rfl rfl (by kernel_rfl) (fun _ _ _ h=>h) rfl (HD3.out) (fun w' hw'=> ?_) ?_
 ·have q3:w'.cell? ⟨j,3,none⟩=some (.int .i64 u0):=cell_at hw' 3;go_simp
 go_frame;refine as_take 4 18 (.slice x.A x.m x.c) rfl rfl (by kernel_rfl) (fun _ _ _ h=>h) rfl (HD3.out) (fun w' hw'=> ?_) ?_
 ·exact rfl
 go_frame;have HW5:=hid (Frm.alloc_below w4 (.cells #[.slice x.A x.m x.c] 39));have HD5:=hid ((HW5.out.block j (lt_of_heap HD3.out)).trans HD3.out);have HRW:=hid (rowl_one w4 x.A x.c x.xs x.m HX.out.byts.len);have HCT:=hid (takes_any _ 1 1 _ [x.xs] HRW.out (by rw[HTO.out];have:=HT2.out;omega));rw[HTO.out] at HCT;refine as_run 5 19 (.slice (some ⟨w4.heap.size,0,none⟩) 1 1) (w4.alloc (.cells #[.slice x.A x.m x.c] 39)) rfl rfl ⟨by kernel_rfl,by decide⟩ rfl ?_ HD5.out ?_
 ·go_simp
 go_frame;have HT5:Hid (Turn [j] w2 (w4.alloc (.cells #[.slice x.A x.m x.c] 39))):=hid (HT3.out.alloc _);generalize w4.alloc (.cells #[.slice x.A x.m x.c] 39)=w5 at *;refine as_call 6 20 51 #[.slice (some ⟨w4.heap.size,0,none⟩) 1 1] rfl rfl ⟨by kernel_rfl,by decide⟩ rfl ?_ ?_
 ·go_simp
 refine(HCT.out).mono ?_;rintro e w6 ⟨rfl,rfl⟩;refine⟨_,rfl,HD5.out,?_⟩;go_frame;have hw1:IntKind.i64.wrap ((u0:Int)+(u1:Int))=(u0:Int)+(u1:Int):=IntWalk.i64_in _ (by omega);refine as_take 7 21 (.int .i64 ((u0:Int)+(u1:Int))) rfl rfl (by kernel_rfl) (fun _ _ _ h=>h) rfl (HD5.out) (fun w' hw'=> ?_) ?_
 ·go_simp
 go_frame;refine as_take 8 22 (.pointer (some ⟨j,0,none⟩)) rfl rfl (by kernel_rfl) (fun _ _ _ h=>h) rfl (HD5.out) (fun w' hw'=> ?_) ?_
 ·go_simp
 go_frame;refine as_take 9 23 (.pointer (some ⟨j,3,none⟩)) rfl rfl (by kernel_rfl) (fun _ _ _ h=>h) rfl (HD5.out) (fun w' hw'=> ?_) ?_
 ·go_simp
 go_frame;have q3:w5.cell? ⟨j,3,none⟩=some (.int .i64 u0):=cell_at HD5.out 3;have q3f:w5.frozen? ⟨j,3,none⟩=false:=free_at HD5.out 3;have HD6:=hid (set_at HD5.out 3 (.int .i64 ((u0:Int)+(u1:Int))));have HT6:Hid (Turn [j] w2 (w5.setCell ⟨j,3,none⟩ (.int .i64 ((u0:Int)+(u1:Int))))):=hid (HT5.out.setCell (.inl (by simp)) _);refine Disk.AtS.last (i:=10) (w':=w5.setCell ⟨j,3,none⟩ (.int .i64 ((u0:Int)+(u1:Int)))) rfl (by kernel_rfl) (by kernel_rfl) (by decide) rfl ?_ ?_
 ·go_simp
 simp only[Act.put];generalize w5.setCell ⟨j,3,none⟩ (.int .i64 ((u0:Int)+(u1:Int)))=w7 at *;clear q3 q3f hw1;go_wp2_with fail;go_end0;have hT:Turn (j::(Value.slice Av its.length cv).ownBlock.toList) w w7:=((Turn.ofBelow (S:=j::(Value.slice Av its.length cv).ownBlock.toList) HW1.out).trans ((turn_grown HG2.out).more (fun k hk=>List.mem_cons_of_mem _ hk))).trans (HT6.out.more (fun k hk=>by simp at hk;simp[hk]));have hF:Fine w lo (j::(Value.slice Av its.length cv).ownBlock.toList):=fun k hk=>by
  rcases List.mem_cons.1 hk with rfl|hk
  ·exact .inl HJL.out.1
  exact fine_row HO.out k hk
 have hjd:=HJ.out.apart;refine⟨rfl,.slice A' (its.length+1) c',⟨?_,?_,⟨its++[x],?_,?_,?_⟩,HJ.out.lows,Nat.le_trans HJ.out.le hT.size,HJ.out.n8,HJ.out.one,HJ.out.big,?_⟩,hT,?_⟩
 ·refine HJ.out.disk.turn hT ?_ ?_ ?_<;>
   ·intro hm;rcases List.mem_cons.1 hm with e|hm
    ·exact hjd (by simp[←e])
    obtain⟨h1,_⟩:=own_type HO.out (by simpa using hm);have h3:=HJ.out.lows g (by simp);have h4:=HJ.out.lows gs (by simp);have h5:=HJ.out.lows gm (by simp);omega
 ·show w7.heap[j]? =some (jobj g gen (.slice A' (its.length+1) c') (takes (gl++[x.xs])) dn);rw[HTK.out];have:=HD6.out;unfold jobj ptr;rw[this];simp
 ·refine own_same HO2.out fun r hr=> ?_;obtain⟨h1,cur,h2⟩:=own_type HO2.out hr;exact HT6.out.block r (lt_of_heap h2) (by simp;have:=HJL.out.1;omega)
 ·simp[HI.out]
 ·intro y hy;rcases List.mem_append.1 hy with hy|hy
  ·exact(HOK.out y hy).turn hT hF
  rw[List.mem_singleton.1 hy];exact HX.out.turn hT hF
 ·show takes (gl++[x.xs])≤room d.n;rw[HTK.out];exact HFT.out
 rcases HB2.out with e|e
 ·exact .inl e
 exact .inr ⟨_,e,by have:=HW1.out.size;omega⟩
end Go.Proofs.YtdjhlhellkajfaaGreat.Jou
namespace Go.Proofs.YtdjhlhellkajfaaGreat.Jou
open Go.RowKit Codec FrameM Cod JourM Go.Shelf
open Disk (Turn Dk Dsk ptr Now)
open Frm (Above U8)
attribute [local go_sem] Oper.semAt_some
theorem groups_fn(w:World)(g gen:Nat):Calls Tryz.prog 55 #[hv g gen] w fun e w'=>e= .returned (.func (.func 103) #[] #[.pointer (some ⟨w.heap.size,0,none⟩)])∧w'=w.alloc (hbox g gen):=by
 unfold hv hbox ptr;go_enter Tryz.func55,Tryz.ntmps55;go_wp2;go_ret;exact⟨rfl,rfl⟩
def Fg (lo R:Nat) (pre:List It) (x:It) (U:World):Prop:=x.ok U lo∧takes (pre.map It.xs)+takes1 x.xs≤R
def Kg (kb g gs gm:Nat) (U U':World):Prop:=(∀k∈[kb,g,gs,gm],U'.heap[k]? =U.heap[k]?)∧U.heap.size≤U'.heap.size
theorem groupsF_step(f:Nat→List UInt8)(n gen pos seq:Nat):groupsF f n gen (room n+1) pos seq=if gB f n gen pos seq then gX f n gen pos::groupsF f n gen (room n+1) (pos+takes1 (gX f n gen pos)) (seq+1) else []:=by
 have e:groupsF f n gen (room n+1) pos seq=if gB f n gen pos seq then gX f n gen pos::groupsF f n gen (room n) (pos+takes1 (gX f n gen pos)) (seq+1) else []:=rfl
 rw[e];cases hb:gB f n gen pos seq with
 |false=>rfl
 |true=>
  have h1:=gB_room hb;have h2:1≤takes1 (gX f n gen pos):=by unfold takes1;omega
  rw[if_pos rfl,if_pos rfl,groupsF_fuel f n gen (room n) (room n+1) _ _ (by omega) (by omega) h1]
theorem groups_tells(m kb g gs gm gen:Nat)(d:Dsk)(w:World)(hbx:w.heap[kb]? =some (hbox g gen))(hd:Dk w g gs gm d)(ho:d.off=false)(h2:2≤d.n)(hg:gen<9223372036854775808)(lo:Nat)(hlo:lo≤w.heap.size):
  Tells m Tryz.prog 103 #[.pointer (some ⟨kb,0,none⟩)] (fun x:It=> #[x.val]) (Fg lo (room d.n)) (Kg kb g gs gm) (fun xs=>xs.map It.xs=groups (rd d) d.n gen) w:=by
 intro l J W hW hJ hY h0;have hr16:(room d.n:Int)≤65536:=by have:=hd.ok.2.1;unfold room;omega
 have HGR:=hid (fun u hu pos seq hp=>group_any u g gs gm d gen pos seq hu ho h2 hg hp);have HST:=hid (groupsF_step (rd d) d.n gen);have HGB:=hid (fun pos seq hh=>gB_room (f:=rd d) (n:=d.n) (gen:=gen) (pos:=pos) (seq:=seq) hh);have HGS:Hid (groups (rd d) d.n gen=groupsF (rd d) d.n gen (room d.n+1) 0 0):=hid rfl;have HJ:=hid hJ;have HY:=hid hY;have hbW:W.heap[kb]? =some (hbox g gen):=(hW.block kb (lt_of_heap hbx)).trans hbx;have hdW:Dk W g gs gm d:=Dk.below hd hW;have hsz:lo≤W.heap.size:=Nat.le_trans hlo hW.size;have HX:Hid (∀pos seq,gB (rd d) d.n gen pos seq=true→(gX (rd d) d.n gen pos).length≤1048576):=hid (fun pos seq hh=>by
  simp only[gB,gUn,Bool.and_eq_true] at hh;have:=unpack_len hh.2.1;unfold gX;omega)
 generalize groups (rd d) d.n gen=GG at *;generalize rd d=f at *;unfold hv at HGR;unfold hbox ptr at *;clear hbx hd hW hJ hY h2 hg ho hlo;refine callsIn_of_wp Tryz.func103 rfl trivial ?_ rfl;simp only[Tryz.ntmps103,List.size_toArray,List.length_cons,List.length_nil,Nat.reduceAdd,Nat.reduceSub,Array.replicate_succ,Array.replicate_zero,List.push_toArray,List.append_toArray,List.nil_append,List.cons_append];gi_wp2
 gi_loopw [3,4] (fun p q wr=>∃(pos:Nat) (pre:List It),p= .int .i64 pos∧q= .int .i64 pre.length∧pos≤room d.n∧takes (pre.map It.xs)=pos∧pre.map It.xs++groupsF f d.n gen (room d.n+1) pos pre.length=GG∧J pre wr∧
   wr.heap[kb]? =some (.cells #[.pointer (some ⟨g,0,none⟩),.int .i64 gen] 105)∧Dk wr g gs gm d∧lo≤wr.heap.size) (fun p _ _=>room d.n+1-(Go.RowKit.intOf p).toNat)
 case atStart=>exact⟨0,[],rfl,rfl,by omega,rfl,by rw[HGS.out];rfl,h0,hbW,hdW,hsz⟩
 case round=>
  obtain⟨pos,pre,rfl,rfl,hp,ht,hgg,hJ0,hb0,hd0,hl0⟩:=hrel;have HC:=hid (HGR.out wr hd0 pos pre.length hp);have HS:=hid (And.intro hb0 (And.intro hd0 hl0));have HJ0:=hid hJ0;have HT:=hid ht;have hs:=HST.out pos pre.length;have hp2:(pos:Int)≤65536:=by omega
  have hpl:(pre.length:Int)≤65536:=by have:=takes_length (pre.map It.xs);rw[List.length_map] at this;omega
  have hc0:=box0 hb0;have hc1:=box1 hb0;clear hb0 hd0 hl0 hJ0 ht;rcases Bool.eq_false_or_eq_true (gB f d.n gen pos pre.length) with hb|hb
  ·rw[hb,if_pos rfl] at hs;rw[hs] at hgg;have HGG:=hid hgg;have hrm:=HGB.out pos pre.length hb;have hlen:=HX.out pos pre.length hb;have HRM:=hid hrm;have hrm2:(pos:Int)+takes1 (gX f d.n gen pos)≤65536:=by omega
   rw[hb] at HC;clear hb hs hgg;have HT1:Hid (1≤takes1 (gX f d.n gen pos)):=hid (by unfold takes1;omega);have HTO:=hid (takes_one (gX f d.n gen pos));generalize gX f d.n gen pos=xs at *;gi_wp2
   refine⟨trivial,(fun h=>by cases h),(callsIn_wide.2 HC.out).mono ?_⟩;rintro e w1 ⟨A1,m1,c1,rfl,hb1,hh⟩;obtain⟨hy1,hmc,hcm,hab,hu8⟩:=hh rfl;have hJ1:J pre w1:=HJ.out pre wr w1 HJ0.out ⟨hb1.os,hb1.tape,hb1.output,hb1.size,fun k hk _=>hb1.block k hk⟩;have hF:Fg lo (room d.n) pre ⟨A1,m1,c1,xs⟩ w1:=⟨⟨hy1,hmc,hcm,hab.mono HS.out.2.2,hu8⟩,by have:=HT.out;have:=HRM.out;show takes (pre.map It.xs)+takes1 xs≤_;omega⟩
   have HM1:Hid (xs.length=m1):=hid hy1.len;obtain⟨fn,tmps,assign,body,hy,hR⟩:=HY.out pre ⟨A1,m1,c1,xs⟩ w1 hJ1 hF;have HB1:=hid hb1;dsimp only[It.val] at hy;clear hc0 hc1 hb1 hh hy1 hmc hcm hab hu8 hJ1 hF;gi_wp2
   refine⟨(fun h=>by cases h),?_⟩;refine hR.mono ?_;rintro e W3 ⟨rfl,hJ3,hk3⟩;have HJ3:=hid hJ3;have HK3:=hid hk3;clear hJ3 hk3;have HTK:=hid (takes_any _ 1 1 _ [xs] (rowl_one W3 A1 c1 xs m1 HM1.out) (by rw[HTO.out];omega));rw[HTO.out] at HTK;generalize takes1 xs=tx at *;gi_wp2
   refine⟨trivial,(fun h=>by cases h),(callsIn_wide.2 HTK.out).mono ?_⟩;rintro e w4 ⟨rfl,rfl⟩;gi_wp2
   go_roundw
   case rel=>
    have hba:=Frm.alloc_below W3 (.cells #[.slice A1 m1 c1] 39);have hbb:=HB1.out;have e1:=lt_of_heap HS.out.1;have e2:=Dk.lows HS.out.2.1;have k0:=HK3.out.1;have z1:=hbb.size;have z3:=HK3.out.2;have hb3:W3.heap[kb]? =some (.cells #[.pointer (some ⟨g,0,none⟩),.int .i64 gen] 105):=(k0 kb (by simp)).trans ((hbb.block kb e1).trans HS.out.1);have hd3:Dk W3 g gs gm d:=(Dk.below HS.out.2.1 hbb).keep (k0 g (by simp)) (k0 gs (by simp)) (k0 gm (by simp)) z3;refine⟨pos+tx,pre++[⟨A1,m1,c1,xs⟩],by go_num,by rw[List.length_append];go_num,by have:=HRM.out;omega,?_,?_,?_,?_,?_,?_⟩
    ·rw[List.map_append,List.map_cons,List.map_nil,takes_app,HT.out,HTO.out]
    ·rw[List.map_append,List.length_append,List.append_assoc];exact HGG.out
    ·exact HJ.out _ W3 _ HJ3.out (World.grownBy_alloc W3 _ none)
    ·exact(hba.block kb (by omega)).trans hb3
    ·exact Dk.below hd3 hba
    have:=HS.out.2.2;have:=hba.size;omega
   case measure=>
    have:=HT1.out;have:=HRM.out;simp[Go.RowKit.intOf];omega
  rw[hb] at hs;rw[hs] at hgg;have HGG:=hid hgg;rw[hb] at HC;clear hb hs hgg;gi_wp2
  refine⟨trivial,(fun h=>by cases h),(callsIn_wide.2 HC.out).mono ?_⟩;rintro e w1 ⟨A1,m1,c1,rfl,hb1,hh⟩;have HB1:=hid hb1;clear hc0 hc1 hb1 hh;gi_wp2
  refine⟨fun _ h=>(by cases h),?_⟩;gi_wp2
  refine bodyPost_ret (results_none rfl _ _ _) rfl ?_;refine⟨⟨_,rfl⟩,pre,?_,HJ.out pre wr w1 HJ0.out ⟨HB1.out.os,HB1.out.tape,HB1.out.output,HB1.out.size,fun k hk _=>HB1.out.block k hk⟩⟩;have:=HGG.out;simpa using this
end Go.Proofs.YtdjhlhellkajfaaGreat.Jou
namespace Go.Proofs.YtdjhlhellkajfaaGreat.Jou
open Go.RowKit Codec FrameM Cod JourM Go.Shelf
open Disk (Turn Dk Dsk ptr Now)
open Frm (Above U8)
attribute [local go_sem] Oper.semAt_some
theorem keepB_on{d:Dsk}{i:Nat}{l:List (List UInt8)}(h:keepB d i l=true):(keepD d i l).off=false:=by
 simp only[keepB,Bool.and_eq_true] at h;unfold keepD;rw[h.1,if_pos rfl,sy_go h.2];exact deed_go h.2
theorem beginB_on{d:Dsk}{gen:Nat}{l:List (List UInt8)}(h:beginB d gen l=true):(beginD d gen l).off=false:=by
 simp only[beginB,Bool.and_eq_true] at h;unfold beginD;rw[if_pos h.1];exact keepB_on h.2
theorem openB_on{d:Dsk}(h:openB d=true)(ho:d.off=false):(openD d).off=false:=by
 unfold openB at h;unfold openD;split at h
 ·rename_i h0;rw[if_pos h0];exact beginB_on h
 rename_i h0;rw[if_neg h0];exact ho
section
variable {w w':World} {lo j g gs gm:Nat} {d:Dsk} {jr:Jr} {v:Value}
theorem Jn.quiet{row:Option Nat}(h:Jn w lo j g gs gm d jr v)(hg:w.grownBy w' row)(hr:∀r,row=some r→lo≤r∧∃o:Obj,w.heap[r]? =some o∧o.isCells=false):Jn w' lo j g gs gm d jr v:=by
 have ne:∀{k:Nat} {cs:Array Value} {T:TypeId} {fr:Nat×Nat},w.heap[k]? =some (.cells cs T fr)→some k≠row:=fun hk e=>by
  obtain⟨_,o,ho,hc⟩:=hr _ e.symm;rw[hk] at ho;cases ho
  cases hc
 have low:∀{k:Nat},k<lo→some k≠row:=fun hk e=>by
  have:=(hr _ e.symm).1;omega
 obtain⟨its,o1,o2,o3⟩:=h.own;refine⟨h.disk.keep (hg.block g h.disk.lt (low (h.lows g (by simp)))) (hg.block gs h.disk.sf.1 (low (h.lows gs (by simp)))) (hg.block gm h.disk.ltm (low (h.lows gm (by simp)))) hg.size,(hg.block j (lt_of_heap h.hd) (ne h.hd)).trans h.hd,
  ⟨its,own_same o1 fun r hr=> ?_,o2,fun x hx=> ?_⟩,h.lows,Nat.le_trans h.le hg.size,h.n8,h.one,h.big,h.fit⟩
 ·obtain⟨_,cur,hc⟩:=own_type o1 hr;exact hg.block r (lt_of_heap hc) (ne hc)
 have hx:=o3 x hx;have hb:∀p:Addr,x.A=some p→w'.heap[p.block]? =w.heap[p.block]? :=fun p hp=>by
  obtain⟨cs,hc⟩:=hx.u8 p hp;exact hg.block _ (lt_of_heap hc) (ne hc)
 refine⟨⟨hx.byts.len,fun hn=> ?_⟩,hx.mc,hx.cm,hx.ab,fun p hp=> ?_⟩
 ·obtain⟨b,off,e,hl,hc⟩:=hx.byts.at_ hn;have hbb:=hb _ e;exact⟨b,off,e,Nat.lt_of_lt_of_le hl hg.size,fun i hi=>(World.cell?_of_block (w:=w) (a:=⟨b,off+i,none⟩) hbb).trans (hc i hi)⟩
 obtain⟨cs,hc⟩:=hx.u8 p hp;exact⟨cs,(hb p hp).trans hc⟩
end
theorem open_off(w:World)(g gs gm:Nat)(d:Dsk)(h:Dk w g gs gm d)(h8:8≤d.n)(ho:d.off=true):Calls Tryz.prog 13 #[ptr g] w (Disk.Ends (.tuple #[.pointer none,.int .i64 3]) w):=by
 have HS:=hid (Disk.sectors_disk w g gs gm d h);have HD:=hid (Disk.down_disk w g gs gm d h);rw[ho] at HD;have h8i:8≤(d.n:Int):=by omega
 clear h ho;unfold ptr at *;refine(callsIn_wide (n:=5)).1 ?_;refine callsIn_of_wp_marks Tryz.func13 rfl trivial ?_ rfl;simp only[Tryz.ntmps13,List.size_toArray,List.length_cons,List.length_nil,Nat.reduceAdd,Nat.reduceSub,Array.replicate_succ,Array.replicate_zero,List.push_toArray,List.append_toArray,List.nil_append,List.cons_append];gi_wp2
 refine⟨trivial,(callsIn_wide.2 HS.out).mono ?_⟩;rintro e w1 ⟨rfl,rfl⟩;gi_wp2
 refine⟨trivial,(callsIn_wide.2 HD.out).mono ?_⟩;rintro e w1 ⟨rfl,rfl⟩;gi_wp2
 exact⟨_,results_tmp2 rfl _ _ _,rfl,rfl⟩
structure OI (w V U:World) (lo j k6 g gs gm G:Nat) (d:Dsk) (pre:List It) (v:Value):Prop where
 jn:Jn U lo j g gs gm d ⟨G,pre.map It.xs,false⟩ v
 b6:U.heap[k6]? =some (.cells #[.pointer (some ⟨j,0,none⟩)] 33)
 fr:Turn [g,gs,gm] w U
theorem OI.c6{w V U:World}{lo j k6 g gs gm G:Nat}{d:Dsk}{pre:List It}{v:Value}(h:OI w V U lo j k6 g gs gm G d pre v):U.cell? ⟨k6,0,none⟩=some (.pointer (some ⟨j,0,none⟩)):=cell_at h.b6 0
theorem OI.own{w V:World}{lo j k6 g gs gm G:Nat}{d:Dsk}(hw:w.heap.size≤lo):OwnFrom lo (fun (pre:List It) U=>∃v,OI w V U lo j k6 g gs gm G d pre v):=by
 rintro pre U U' row ⟨v,h⟩ hg hr;refine⟨v,h.jn.quiet hg hr,?_,?_⟩
 ·refine(hg.block k6 (lt_of_heap h.b6) fun e=> ?_).trans h.b6;obtain⟨_,o,ho,hc⟩:=hr _ e.symm;rw[h.b6] at ho;cases ho
  cases hc
 exact h.fr.grown hg fun k hk=> .inr (by have:=(hr k hk).1;omega)
def Opened (w:World) (g gs gm:Nat) (d:Dsk) (jr:Jr) (e:Ending) (w':World):Prop:=
 ∃lo j v,e= .returned (.tuple #[ptr j,.int .i64 0])∧Jn w' lo j g gs gm d jr v∧Turn [g,gs,gm] w w'∧w.heap.size≤j
theorem It.ok.put{w:World}{lo l:Nat}{x:It}{o o':Obj}(h:x.ok w lo)(ho:w.heap[l]? =some o)(hc:o.isCells=false):x.ok (w.putObj l o') lo:=by
 have hb:∀p:Addr,x.A=some p→(w.putObj l o').heap[p.block]? =w.heap[p.block]? :=fun p hp=>by
  obtain⟨cs,hcs⟩:=h.u8 p hp;refine World.putObj_heap_other fun e=> ?_;rw[e,ho] at hcs;cases hcs
  cases hc
 refine⟨⟨h.byts.len,fun hn=> ?_⟩,h.mc,h.cm,h.ab,fun p hp=> ?_⟩
 ·obtain⟨b,off,e,hl,hcc⟩:=h.byts.at_ hn;have hbb:=hb _ e;exact⟨b,off,e,by simp[World.putObj];exact hl,fun i hi=>(World.cell?_of_block (w:=w) (a:=⟨b,off+i,none⟩) hbb).trans (hcc i hi)⟩
 obtain⟨cs,hcs⟩:=h.u8 p hp;exact⟨cs,(hb p hp).trans hcs⟩
theorem own_row{w:World}{lo j g gs gm:Nat}{d:Dsk}{jr:Jr}{v:Value}(h:Jn w lo j g gs gm d jr v){k:Nat}(hk:k∈j::v.ownBlock.toList):(k=j∨lo≤k)∧∃(cs:Array Value) (T:TypeId),w.heap[k]? =some (.cells cs T (0,0)):=by
 obtain⟨its,o1,_⟩:=h.own;rcases List.mem_cons.1 hk with rfl|hk
 ·exact⟨.inl rfl,_,_,h.hd⟩
 obtain⟨h1,cur,h2⟩:=own_type o1 (by simpa using hk);exact⟨.inr h1,cur,_,h2⟩
theorem round_open{w V U W3:World}{lo j k6 kb g gs gm G:Nat}{d:Dsk}{pre:List It}{x:It}{v v':Value}(h:OI w V U lo j k6 g gs gm G d pre v)(hjn:Jn W3 lo j g gs gm d {(⟨G,pre.map It.xs,false⟩:Jr) with gs:=pre.map It.xs++[x.xs]} v')(ht:Turn (j::v.ownBlock.toList) U W3)
  (hkb:kb<lo∧kb≠j) (hk6:k6<lo∧k6≠j) (hw:w.heap.size≤j∧w.heap.size≤lo):KeepsFrom lo U W3∧Kg kb g gs gm U W3∧∃v,OI w V W3 lo j k6 g gs gm G d (pre++[x]) v:=by
 have hap:=h.jn.apart;simp only[List.mem_cons,List.not_mem_nil,or_false,not_or] at hap;have out:∀{k:Nat},k<lo→k≠j→k∉j::v.ownBlock.toList:=fun h1 h2 hm=>by
  rcases(own_row h.jn hm).1 with e|e<;>omega
 refine⟨⟨ht.size,fun k o hB hk ho=>(ht.block k (Array.getElem?_eq_some_iff.1 hk).1 fun hm=> ?_).trans hk⟩,⟨fun k hk=> ?_,ht.size⟩,v',⟨?_,(ht.block k6 (lt_of_heap h.b6) (out hk6.1 hk6.2)).trans h.b6,h.fr.then_ ht fun k hk=> .inr ?_⟩⟩
 ·obtain⟨_,cs,T,hc⟩:=own_row h.jn hm;rw[hk] at hc;cases hc
  cases ho
 ·simp only[List.mem_cons,List.not_mem_nil,or_false] at hk;have l1:=h.jn.lows g (by simp);have l2:=h.jn.lows gs (by simp);have l3:=h.jn.lows gm (by simp);have:=h.jn.le;rcases hk with rfl|rfl|rfl|rfl
  ·exact ht.block _ (by omega) (out hkb.1 hkb.2)
  ·exact ht.block _ (by omega) (out l1 (by omega))
  ·exact ht.block _ (by omega) (out l2 (by omega))
  exact ht.block _ (by omega) (out l3 (by omega))
 ·have e:(pre++[x]).map It.xs=pre.map It.xs++[x.xs]:=by simp
  rw[e];exact hjn
 rcases(own_row h.jn hk).1 with e|e<;>omega
theorem OI.fin{w V U:World}{lo j k6 g gs gm G D:Nat}{d:Dsk}{pre:List It}{v:Value}(h:OI w V U lo j k6 g gs gm G d pre v)(hD:lo≤D)(hK:U.heap[D]? =some (.deferred (some [])))(hw:w.heap.size≤lo):
  Jn (U.putObj D (.deferred none)) lo j g gs gm d ⟨G,pre.map It.xs,false⟩ v∧Turn [g,gs,gm] w (U.putObj D (.deferred none)):=by
 refine⟨h.jn.quiet (grownBy_putObj' U D _) (fun r e=>by cases e;exact⟨hD,_,hK,rfl⟩),h.fr.grown (grownBy_putObj' U D _) fun k e=> .inr (by cases e;omega)⟩
theorem jn_new{V:World}{j g gs gm G:Nat}{d:Dsk}(hd:Dk V g gs gm d)(hj:V.heap[j]? =some (.cells #[.pointer (some ⟨g,0,none⟩),.int .i64 G,.slice none 0 0,.int .i64 0,.bool false] 109))(h8:8≤d.n)(h1:1≤G)(hb:G<9223372036854775807):Jn V V.heap.size j g gs gm d ⟨G,[],false⟩ (.slice none 0 0):=by
 refine⟨hd,hj,⟨[],World.ownsRow_nil V V.heap.size 39 1,rfl,by simp⟩,fun x hx=> ?_,Nat.le_refl _,h8,h1,hb,Nat.zero_le _⟩;have:=Dk.lows hd;rcases List.mem_cons.1 hx with rfl|hx
 ·exact lt_of_heap hj
 exact this x hx
theorem four_new(w:World)(a b c e:Obj):Below w.heap.size w ((((w.alloc a).alloc b).alloc c).alloc e)∧((((w.alloc a).alloc b).alloc c).alloc e).heap[w.heap.size]? =some a∧((((w.alloc a).alloc b).alloc c).alloc e).heap[w.heap.size+1]? =some b∧
  ((((w.alloc a).alloc b).alloc c).alloc e).heap[w.heap.size+1+1]? =some c∧((((w.alloc a).alloc b).alloc c).alloc e).heap[w.heap.size+1+1+1]? =some e:=by
 have h1:=heap_alloc_new w a;have h2:=heap_alloc_new (w.alloc a) b;have h3:=heap_alloc_new ((w.alloc a).alloc b) c;have h4:=heap_alloc_new (((w.alloc a).alloc b).alloc c) e;simp only[World.size_alloc] at h2 h3 h4;have k:∀(u:World) (o:Obj) (i:Nat),i<u.heap.size→(u.alloc o).heap[i]? =u.heap[i]? :=fun u o i hi=>Below.heap_alloc u o i hi;refine⟨(((Below.refl _ w).alloc (Nat.le_refl _) _).alloc (by simp) _|>.alloc (by simp<;>omega) _).alloc (by simp<;>omega) _,?_,?_,?_,h4⟩
 ·rw[k _ _ _ (by simp<;>omega),k _ _ _ (by simp<;>omega),k _ _ _ (by simp)];exact h1
 ·rw[k _ _ _ (by simp<;>omega),k _ _ _ (by simp)];exact h2
 rw[k _ _ _ (by simp)];exact h3
theorem open_old(w:World)(g gs gm:Nat)(d:Dsk)(h:Dk w g gs gm d)(h8:8≤d.n)(ho:d.off=false)(hn:newest (rd d)≠0)(hb:newest (rd d)<9223372036854775807):Calls Tryz.prog 13 #[ptr g] w (Opened w g gs gm (openD d) (openJ d)):=by
 have hmp0:=getM_pos (rd d 0);have HS:=hid (Disk.sectors_disk w g gs gm d h);have HD:=hid (Disk.down_disk w g gs gm d h);have HN:=hid (newest_any w g gs gm d h ho);have HGF:=hid (fun u G=>groups_fn u g G);have h8i:8≤(d.n:Int):=by omega
 have hnb:newB (rd d)=true:=by unfold newB;simp;omega
 have HDK:Hid (openD d=d):=hid (by unfold openD;rw[if_neg hn]);have HGG:Hid ((⟨newest (rd d),groups (rd d) d.n (newest (rd d)),false⟩:Jr)=openJ d):=hid (by unfold openJ;rw[HDK.out];unfold openG;rw[if_neg hn]);have HDW:=hid h;have HOF:=hid ho;have hG1:1≤newest (rd d):=by omega
 rw[hnb] at HN;rw[ho] at HD;generalize newest (rd d)=G at *;have HG1:=hid (And.intro hG1 hb);unfold hv at HGF;unfold hbox ptr at *;refine(callsIn_wide (n:=5)).1 ?_;refine callsIn_of_wp_marks Tryz.func13 rfl trivial ?_ rfl;simp only[Tryz.ntmps13,List.size_toArray,List.length_cons,List.length_nil,Nat.reduceAdd,Nat.reduceSub,Array.replicate_succ,Array.replicate_zero,List.push_toArray,List.append_toArray,List.nil_append,List.cons_append];clear h hn hnb ho hG1 hb hmp0;gi_wp2
 refine⟨trivial,(callsIn_wide.2 HS.out).mono ?_⟩;rintro e w1 ⟨rfl,rfl⟩;gi_wp2
 refine⟨trivial,(callsIn_wide.2 HD.out).mono ?_⟩;rintro e w1 ⟨rfl,rfl⟩;gi_wp2
 refine⟨trivial,(callsIn_wide.2 HN.out).mono ?_⟩;rintro e w1 ⟨rfl,hb1⟩;have HB1:=hid hb1;clear hb1;gi_wp2
 refine⟨trivial,(callsIn_wide.2 (HGF.out _ G)).mono ?_⟩;rintro e w2 ⟨rfl,rfl⟩;gi_wp2
 have HV:=hid (four_new w1 (.cells #[.pointer (some ⟨g,0,none⟩),.int .i64 G] 105) (.cells #[.pointer (some ⟨g,0,none⟩),.int .i64 G,.slice none 0 0,.int .i64 0,.bool false] 109) (.cells #[.pointer (some ⟨w1.heap.size+1,0,none⟩)] 33) (.cells #[.pointer (some ⟨g,0,none⟩),.int .i64 G] 105));generalize hV:(((w1.alloc (.cells #[.pointer (some ⟨g,0,none⟩),.int .i64 G] 105)).alloc (.cells #[.pointer (some ⟨g,0,none⟩),.int .i64 G,.slice none 0 0,.int .i64 0,.bool false] 109)).alloc (.cells #[.pointer (some ⟨w1.heap.size+1,0,none⟩)] 33)).alloc (.cells #[.pointer (some ⟨g,0,none⟩),.int .i64 G] 105)=V at *;clear hV;obtain⟨v0,v1,v2,v3,v4⟩:=HV.out;have HJW:Hid (w.heap.size≤w1.heap.size+1):=hid (by have:=HB1.out.size;omega);have HVW:Hid (w.heap.size≤V.heap.size):=hid (by have:=HB1.out.size;have:=v0.size;omega);have HOI:Hid (OI w V V V.heap.size (w1.heap.size+1) (w1.heap.size+1+1) g gs gm G d [] (.slice none 0 0)):=hid ⟨jn_new (Dk.below (Dk.below HDW.out HB1.out) v0) v2 (by omega) HG1.out.1 HG1.out.2,v3,(Turn.ofBelow HB1.out).trans (Turn.ofBelow v0)⟩;have HBK:=hid v4;have HLS:Hid (∀x∈[w1.heap.size+1+1+1,g,gs,gm],x<V.heap.size):=hid (fun x hx=>by
  rcases List.mem_cons.1 hx with rfl|hx
  ·exact lt_of_heap HBK.out
  ·exact Dk.lows HOI.out.jn.disk x hx)
 have HKK:Hid (w1.heap.size+1+1<V.heap.size):=hid (lt_of_heap v3);clear v0 v1 v2 v3 v4;refine wpIn_range_told (gf:=103) (lb:= #[.pointer (some ⟨w1.heap.size+1+1+1,0,none⟩)]) rfl (enters_of Tryz.func103 (by kernel_rfl) rfl) (fun x:It=> #[x.val]) (Fg V.heap.size (room d.n)) (Kg (w1.heap.size+1+1+1) g gs gm) (fun xs=>xs.map It.xs=groups (rd d) d.n G)
  (groups_tells 4 _ g gs gm _ _ V HBK.out HOI.out.jn.disk HOF.out (by have:=HOI.out.jn.n8;omega) (by have:=HG1.out.2;omega) V.heap.size (Nat.le_refl _)) (fun _=>rfl)
  (fun h k=>⟨fun x hx=>(k.1 x hx).trans (h.1 x hx),Nat.le_trans h.2 k.2⟩)
  (fun U l o o' hl ho _=>⟨fun x hx=>World.putObj_heap_other (by have:=HLS.out x hx;omega),by simp[World.putObj]⟩)
  (fun pre x U l o o' hx ho hc=>⟨hx.1.put ho hc,hx.2⟩)
  (fun pre U=>∃v,OI w V U V.heap.size (w1.heap.size+1) (w1.heap.size+1+1) g gs gm G d pre v) (OI.own HVW.out) ⟨_,HOI.out⟩
  (fun x=>{tmps:= #[.pointer (some ⟨g,0,none⟩),undef,.pointer none,.int .i64 0,.pointer (some ⟨w1.heap.size,0,none⟩),.bool true,.pointer (some ⟨w1.heap.size+1+1,0,none⟩),x.val,.pointer (some ⟨g,0,none⟩),.int .i64 d.n,.bool (decide ((d.n:Int)<8)),.pointer (some ⟨g,0,none⟩),.bool false,.tuple #[.agg #[.pointer (some ⟨g,0,none⟩),.int .i64 G],.bool true],.pointer (some ⟨g,0,none⟩),.tuple #[.agg #[.pointer (some ⟨g,0,none⟩),.int .i64 G],.bool true],.agg #[.pointer (some ⟨g,0,none⟩),.int .i64 G],.bool true,.bool true,.bool false,undef,undef,undef,undef,undef,.agg #[.pointer (some ⟨g,0,none⟩),.int .i64 G],.agg #[.pointer (some ⟨g,0,none⟩),.int .i64 G,.slice none 0 0,.int .i64 0,.bool false],.pointer (some ⟨w1.heap.size+1,0,none⟩),.agg #[.pointer (some ⟨g,0,none⟩),.int .i64 G],.func (.func 103) #[] #[.pointer (some ⟨w1.heap.size+1+1+1,0,none⟩)],x.val,undef,undef,undef,undef],defers:=[]}) ?assign ?body ?done
 case assign=>
  intro l x U K hK';gi_wp2
  exact hK'
 case body=>
  rintro l pre x U ⟨v,hoi⟩ hx;have h6:=hoi.c6;have HO:=hid hoi;have HX:=hid hx;have HA:=hid (add_any U V.heap.size (w1.heap.size+1) g gs gm d ⟨G,pre.map It.xs,false⟩ v x hoi.jn hx.1 hx.2);unfold ptr at HA;clear hoi hx;generalize x.val=xv at *;gi_wp2
  refine⟨trivial,(CallsIn.inRound l (callsIn_wide.2 HA.out)).mono ?_⟩;rintro e W3 ⟨rfl,v',hjn,ht,hv⟩;have HR:=hid (And.intro hjn (And.intro ht hv));clear hjn ht hv h6;gi_wp2
  exact round_open HO.out HR.out.1 HR.out.2.1 ⟨HLS.out _ (by simp),by omega⟩ ⟨HKK.out,by omega⟩ ⟨HJW.out,HVW.out⟩
 case done=>
  rintro D ys U hD hS ⟨v,hoi⟩ hK';have h6:=hoi.c6;have HO:=hid hoi;have HS9:=hid hS;clear hoi hS;gi_wp2
  refine⟨by simp,.inl ⟨_,_,rfl,run_takeDeferred hK',?_⟩⟩;refine⟨_,results_tmp2 rfl _ _ _,?_⟩;have hfin:=HO.out.fin hD hK' HVW.out;rw[HS9.out,HGG.out] at hfin;rw[HDK.out];exact⟨_,_,v,rfl,hfin.1,hfin.2,HJW.out⟩
theorem three_new(w:World)(a b c:Obj):Below w.heap.size w (((w.alloc a).alloc b).alloc c)∧(((w.alloc a).alloc b).alloc c).heap[w.heap.size]? =some a∧(((w.alloc a).alloc b).alloc c).heap[w.heap.size+1]? =some b∧(((w.alloc a).alloc b).alloc c).heap[w.heap.size+1+1]? =some c:=by
 have h1:=heap_alloc_new w a;have h2:=heap_alloc_new (w.alloc a) b;have h3:=heap_alloc_new ((w.alloc a).alloc b) c;simp only[World.size_alloc] at h2 h3;have k:∀(u:World) (o:Obj) (i:Nat),i<u.heap.size→(u.alloc o).heap[i]? =u.heap[i]? :=fun u o i hi=>Below.heap_alloc u o i hi;refine⟨((Below.refl _ w).alloc (Nat.le_refl _) _).alloc (by simp) _|>.alloc (by simp<;>omega) _,?_,?_,h3⟩
 ·rw[k _ _ _ (by simp<;>omega),k _ _ _ (by simp)];exact h1
 rw[k _ _ _ (by simp)];exact h2
def Unopened (w:World) (g gs gm:Nat) (d:Dsk) (e:Ending) (w':World):Prop:=e= .returned (.tuple #[.pointer none,.int .i64 3])∧Dk w' g gs gm d∧Turn [g,gs,gm] w w'
theorem open_new(w:World)(g gs gm:Nat)(d:Dsk)(h:Dk w g gs gm d)(h8:8≤d.n)(ho:d.off=false)(hn:newest (rd d)=0):
  Calls Tryz.prog 13 #[ptr g] w (fun e w'=>(openB d=true∧Opened w g gs gm (openD d) (openJ d) e w')∨(openB d=false∧Unopened w g gs gm (openD d) e w')):=by
 have HS:=hid (Disk.sectors_disk w g gs gm d h);have HD:=hid (Disk.down_disk w g gs gm d h);have HN:=hid (newest_any w g gs gm d h ho);have HGF:=hid (fun u G=>groups_fn u g G);have HBG:=hid (fun u hu=>begin_any u g gs gm d 1 0 0 none [] hu (by omega) (by omega) Frm.Rows.none_ (by simp) (by simp[takes]));have h8i:8≤(d.n:Int):=by omega
 have hnb:newB (rd d)=false:=by unfold newB;simp;omega
 have HDN:Hid (openD d=beginD d 1 []):=hid (by unfold openD;rw[if_pos hn]);have HBB:Hid (openB d=beginB d 1 []):=hid (by unfold openB;rw[if_pos hn]);have HGG:Hid ((⟨1,groups (rd (beginD d 1 [])) (beginD d 1 []).n 1,false⟩:Jr)=openJ d):=hid (by unfold openJ;rw[HDN.out,beginD_n];unfold openG;rw[if_pos hn]);have HOF:Hid (beginB d 1 []=true→(beginD d 1 []).off=false):=hid (fun hb=>beginB_on hb);have HDL:Hid ((beginD d 1 []).n=d.n):=hid (beginD_n d 1 []);have HDW:=hid h;have hz:((0:Nat):Int)=0:=rfl;have hz1:((1:Nat):Int)=1:=rfl;have hL:=Dk.lows h;have HLW:=hid hL;rw[hn,hz,hnb] at HN;rw[ho] at HD;generalize beginB d 1 []=kb at *;generalize beginD d 1 []=d1 at *;unfold hv at HGF HBG;rw[hz1] at HBG;unfold hbox ptr at *;refine(callsIn_wide (n:=5)).1 ?_;refine callsIn_of_wp_marks Tryz.func13 rfl trivial ?_ rfl;simp only[Tryz.ntmps13,List.size_toArray,List.length_cons,List.length_nil,Nat.reduceAdd,Nat.reduceSub,Array.replicate_succ,Array.replicate_zero,List.push_toArray,List.append_toArray,List.nil_append,List.cons_append];clear h hn hnb ho hz hz1 hL;gi_wp2
 refine⟨trivial,(callsIn_wide.2 HS.out).mono ?_⟩;rintro e w1 ⟨rfl,rfl⟩;gi_wp2
 refine⟨trivial,(callsIn_wide.2 HD.out).mono ?_⟩;rintro e w1 ⟨rfl,rfl⟩;gi_wp2
 refine⟨trivial,(callsIn_wide.2 HN.out).mono ?_⟩;rintro e w1 ⟨rfl,hb1⟩;have HB1:=hid hb1;clear hb1;gi_wp2
 have hk4:=heap_alloc_new w1 (.cells #[.pointer (some ⟨g,0,none⟩),.int .i64 1] 105);have hba:=Frm.alloc_below w1 (.cells #[.pointer (some ⟨g,0,none⟩),.int .i64 1] 105);have HW2:=hid (HB1.out.trans (hba.mono HB1.out.size));have hdw:=Dk.below (Dk.below HDW.out HB1.out) hba;have HAP:=hid (apart_disk hdw hk4 (by decide) (by simp));have HK4:=hid hk4;have HDD:=hid hdw;clear hk4 hba hdw;refine⟨trivial,(callsIn_wide.2 (HBG.out _ HDD.out)).mono ?_⟩;rintro e w2 ⟨rfl,hdk,ht⟩;have HDK:=hid hdk;have HTT:=hid ht;have HB4:=hid ((ht.block _ (lt_of_heap HK4.out) HAP.out).trans HK4.out);clear hdk ht HBG;generalize w1.alloc (.cells #[.pointer (some ⟨g,0,none⟩),.int .i64 1] 105)=W1 at *;rcases Bool.eq_false_or_eq_true kb with hkb|hkb
 ·have HKB:=hid hkb;rw[hkb];clear hkb;have he:err true=0:=rfl;rw[he];clear he;have hlt4:w1.heap.size<w2.heap.size:=lt_of_heap HB4.out;have b0:=box0 HB4.out;have b1:w2.cell? ⟨w1.heap.size,1,none⟩=some (.int .i64 1):=cell_at HB4.out 1;have HGF1:Hid (∀u,Calls Tryz.prog 55 #[.agg #[.pointer (some ⟨g,0,none⟩),.int .i64 1]] u fun e w'=>e= .returned (.func (.func 103) #[] #[.pointer (some ⟨u.heap.size,0,none⟩)])∧w'=u.alloc (.cells #[.pointer (some ⟨g,0,none⟩),.int .i64 1] 105)):=hid (fun u=>HGF.out u 1);gi_wp2
  refine⟨trivial,(callsIn_wide.2 (HGF1.out _)).mono ?_⟩;rintro e w3 ⟨rfl,rfl⟩;gi_wp2
  have HV:=hid (three_new w2 (.cells #[.pointer (some ⟨g,0,none⟩),.int .i64 1,.slice none 0 0,.int .i64 0,.bool false] 109) (.cells #[.pointer (some ⟨w2.heap.size,0,none⟩)] 33) (.cells #[.pointer (some ⟨g,0,none⟩),.int .i64 1] 105));generalize hV:((w2.alloc (.cells #[.pointer (some ⟨g,0,none⟩),.int .i64 1,.slice none 0 0,.int .i64 0,.bool false] 109)).alloc (.cells #[.pointer (some ⟨w2.heap.size,0,none⟩)] 33)).alloc (.cells #[.pointer (some ⟨g,0,none⟩),.int .i64 1] 105)=V at *;clear hV;obtain⟨v0,v2,v3,v4⟩:=HV.out;have HJW:Hid (w.heap.size≤w2.heap.size):=hid (by have:=HW2.out.size;have:=HTT.out.size;omega);have HVW:Hid (w.heap.size≤V.heap.size):=hid (by have:=HJW.out;have:=v0.size;omega);have HOI:Hid (OI w V V V.heap.size (w2.heap.size) (w2.heap.size+1) g gs gm 1 d1 [] (.slice none 0 0)):=hid ⟨jn_new (Dk.below HDK.out v0) v2 (by rw[HDL.out];exact h8) (by omega) (by omega),v3,((Turn.ofBelow (S:=[g,gs,gm]) HW2.out).trans HTT.out).trans (Turn.ofBelow v0)⟩;have HBK:Hid (V.heap[w2.heap.size+1+1]? =some (hbox g 1)):=hid v4;have HOFF:=hid (HOF.out HKB.out);have HLS:Hid (∀x∈[w2.heap.size+1+1,g,gs,gm],x<V.heap.size):=hid (fun x hx=>by
   rcases List.mem_cons.1 hx with rfl|hx
   ·exact lt_of_heap HBK.out
   ·exact Dk.lows HOI.out.jn.disk x hx)
  have HKK:Hid (w2.heap.size+1<V.heap.size):=hid (lt_of_heap v3);clear v0 v2 v3 v4;refine wpIn_range_told (gf:=103) (lb:= #[.pointer (some ⟨w2.heap.size+1+1,0,none⟩)]) rfl (enters_of Tryz.func103 (by kernel_rfl) rfl) (fun x:It=> #[x.val]) (Fg V.heap.size (room d1.n)) (Kg (w2.heap.size+1+1) g gs gm) (fun xs=>xs.map It.xs=groups (rd d1) d1.n 1)
   (groups_tells 4 _ g gs gm _ _ V HBK.out HOI.out.jn.disk HOFF.out (by have:=HOI.out.jn.n8;omega) (by omega) V.heap.size (Nat.le_refl _)) (fun _=>rfl)
   (fun h k=>⟨fun x hx=>(k.1 x hx).trans (h.1 x hx),Nat.le_trans h.2 k.2⟩)
   (fun U l o o' hl ho _=>⟨fun x hx=>World.putObj_heap_other (by have:=HLS.out x hx;omega),by simp[World.putObj]⟩)
   (fun pre x U l o o' hx ho hc=>⟨hx.1.put ho hc,hx.2⟩)
   (fun pre U=>∃v,OI w V U V.heap.size (w2.heap.size) (w2.heap.size+1) g gs gm 1 d1 pre v) (OI.own HVW.out) ⟨_,HOI.out⟩
   (fun x=>{tmps:= #[.pointer (some ⟨g,0,none⟩),undef,.pointer none,.int .i64 0,.pointer (some ⟨w1.heap.size,0,none⟩),.bool false,.pointer (some ⟨w2.heap.size+1,0,none⟩),x.val,.pointer (some ⟨g,0,none⟩),.int .i64 d.n,.bool (decide ((d.n:Int)<8)),.pointer (some ⟨g,0,none⟩),.bool false,.tuple #[.agg #[.pointer (some ⟨g,0,none⟩),.int .i64 0],.bool false],.pointer (some ⟨g,0,none⟩),.tuple #[.agg #[.pointer (some ⟨g,0,none⟩),.int .i64 0],.bool false],.agg #[.pointer (some ⟨g,0,none⟩),.int .i64 0],.bool false,.bool false,.bool true,.pointer (some ⟨g,0,none⟩),.agg #[.pointer (some ⟨g,0,none⟩),.int .i64 1],.agg #[.pointer (some ⟨g,0,none⟩),.int .i64 1],.int .i64 0,.bool false,.agg #[.pointer (some ⟨g,0,none⟩),.int .i64 1],.agg #[.pointer (some ⟨g,0,none⟩),.int .i64 1,.slice none 0 0,.int .i64 0,.bool false],.pointer (some ⟨w2.heap.size,0,none⟩),.agg #[.pointer (some ⟨g,0,none⟩),.int .i64 1],.func (.func 103) #[] #[.pointer (some ⟨w2.heap.size+1+1,0,none⟩)],x.val,undef,undef,undef,undef],defers:=[]}) ?assign ?body ?done
  case assign=>
   intro l x U K hK';gi_wp2
   exact hK'
  case body=>
   rintro l pre x U ⟨v,hoi⟩ hx;have h6:=hoi.c6;have HO:=hid hoi;have HX:=hid hx;have HA:=hid (add_any U V.heap.size (w2.heap.size) g gs gm d1 ⟨1,pre.map It.xs,false⟩ v x hoi.jn hx.1 hx.2);unfold ptr at HA;clear hoi hx;generalize x.val=xv at *;gi_wp2
   refine⟨trivial,(CallsIn.inRound l (callsIn_wide.2 HA.out)).mono ?_⟩;rintro e W3 ⟨rfl,v',hjn,ht,hv⟩;have HR:=hid (And.intro hjn (And.intro ht hv));clear hjn ht hv h6;gi_wp2
   exact round_open HO.out HR.out.1 HR.out.2.1 ⟨HLS.out _ (by simp),by omega⟩ ⟨HKK.out,by omega⟩ ⟨HJW.out,HVW.out⟩
  case done=>
   rintro D ys U hD hS ⟨v,hoi⟩ hK';have h6:=hoi.c6;have HO:=hid hoi;have HS9:=hid hS;clear hoi hS;gi_wp2
   refine⟨by simp,.inl ⟨_,_,rfl,run_takeDeferred hK',?_⟩⟩;refine⟨_,results_tmp2 rfl _ _ _,?_⟩;have hfin:=HO.out.fin hD hK' HVW.out;rw[HS9.out,HGG.out] at hfin;rw[HDN.out,HBB.out];exact .inl ⟨HKB.out,_,_,v,rfl,hfin.1,hfin.2,HJW.out⟩
 have HKB:=hid hkb;rw[hkb];clear hkb;have he:err false=3:=rfl;rw[he];clear he;gi_wp2
 refine⟨_,results_tmp2 rfl _ _ _,?_⟩;rw[HDN.out,HBB.out];exact .inr ⟨HKB.out,rfl,HDK.out,(Turn.ofBelow (S:=[g,gs,gm]) HW2.out).trans HTT.out⟩
end Go.Proofs.YtdjhlhellkajfaaGreat.Jou
namespace Go.Proofs.YtdjhlhellkajfaaGreat.Cch
open Go.RowKit Codec Cod
def entV (e:Ent):Value:= .agg #[.string e.k,.string e.v]
theorem size_any(w:World)(e:Ent)(h:e.k.size+e.v.size≤900000000):Calls Tryz.prog 81 #[entV e] w (EndsBelow (.int .i64 (sizeE e)) w):=by
 obtain⟨k,v⟩:=e;dsimp only at h;have hw1:IntKind.i64.wrap (8+(k.size:Int))=8+(k.size:Int):=IntWalk.i64_in _ (by omega);have hw2:IntKind.i64.wrap (8+(k.size:Int)+(v.size:Int))=8+(k.size:Int)+(v.size:Int):=IntWalk.i64_in _ (by omega);have hs:((sizeE ⟨k,v⟩:Nat):Int)=8+(k.size:Int)+(v.size:Int):=by unfold sizeE;push_cast;rfl
 rw[hs];unfold entV;clear hs h;go_enter Tryz.func81,Tryz.ntmps81;go_wp2_with fail;go_ret;exact⟨rfl,Frm.alloc_below _ _⟩
theorem run_make_cap(w:World)(K:Nat)(hK:K≤1000000000):(Instr.makeSlice 39 (.int .i64 0) (.int .i64 K)).run Tryz.prog w= .ok (.slice (some ⟨w.heap.size,0,none⟩) 0 K) (w.alloc (.cells (cel (FrameM.zeros K)).toArray 5)):=by
 obtain⟨i0,hi,hz0,hz1,hz2⟩:=info_parts info5;have:=run_make (P:=Tryz.prog) w 39 5 i0 _ Tryz.underlying39 hi hz0 .i64 .i64 0 K (by omega) (by omega) (by rw[hz2];omega) (by omega);rw[hz1] at this;simpa [Frm.made] using this
theorem app_k(w:World){ops:Array Oper}{rest:List Oper}{o:Oper}{a:Act}{Q:Exit→Act→World→Prop}(hgd:o.guard=none)(s x:Operand)
  (ho:o.op= .call {callee:= .builtin .append,args:= #[s,x],argTypes:= #[39,39]})
  (base:Nat) (v:Value) (n:Nat) (xs:List UInt8) (hs:a.eval s=v) (hown:Owns w base v n xs) (B:Nat) (A:Option Addr) (m c:Nat) (ys:List UInt8) (hx:a.eval x= .slice A m c) (hr:Byts w B A m ys)
  (k:Nat) (hk:n+m=k) (hn:k≤1000000000) (hbase:base≤w.heap.size)
  (h:∀A' c' w',Owns w' base (.slice A' k c') k (xs++ys)→w.grownBy w' v.ownBlock→wpList Tryz.prog ops Q rest (a.put o.dst (.slice A' k c')) w'):wpList Tryz.prog ops Q (o::rest) a w:=by
 subst hk;exact wpList_app w hgd s x ho base v n xs hs hown B A m c ys hx hr hn hbase h
theorem app_str_k(w:World){ops:Array Oper}{rest:List Oper}{o:Oper}{a:Act}{Q:Exit→Act→World→Prop}(hgd:o.guard=none)(sl x:Operand)
  (ho:o.op= .call {callee:= .builtin .append,args:= #[sl,x],argTypes:= #[39,9]})
  (base:Nat) (v:Value) (n:Nat) (xs:List UInt8) (hs:a.eval sl=v) (hown:Owns w base v n xs) (s:ByteArray) (hx:a.eval x= .string s)
  (k:Nat) (hk:n+s.size=k) (hn:k≤1000000000) (hbase:base≤w.heap.size)
  (h:∀A' c' w',Owns w' base (.slice A' k c') k (xs++bytesOf s)→w.grownBy w' v.ownBlock→wpList Tryz.prog ops Q rest (a.put o.dst (.slice A' k c')) w'):wpList Tryz.prog ops Q (o::rest) a w:=by
 subst hk;exact wpList_app_str w hgd sl x ho base v n xs hs hown s hx hn hbase h
theorem own_side{w w1:World}{g:Nat}{o:Obj}{v:Value}(hg:w.grownBy w1 v.ownBlock)(h:w.heap[g]? =some o)(hne:∀q,v.ownBlock=some q→g<q):w1.heap[g]? =some o:=
 (hg.block g (lt_of_heap h) (fun e=>by have:=hne g e.symm;omega)).trans h
theorem pack_any(w:World)(e:Ent)(h:e.k.size+e.v.size≤900000000):Calls Tryz.prog 35 #[entV e] w (Cloned w (sizeE e) (packE e)):=by
 have HSZ:=hid (fun u=>size_any u e h);have HPE:Hid (packE e=encNum (e.k.size:Int)++bytesOf e.k++bytesOf e.v):=hid (by unfold packE;rw[List.append_assoc]);have HSE:Hid (sizeE e=8+e.k.size+e.v.size∧e.k.size+e.v.size≤900000000):=hid ⟨rfl,h⟩;have HK:Hid (sizeE e≤1000000000):=hid (by unfold sizeE;omega);have HMK:=hid (fun u=>run_make_cap u (sizeE e) HK.out);rw[HPE.out];obtain⟨k,v⟩:=e;unfold entV at *;dsimp only at *;generalize sizeE ⟨k,v⟩=N at *;have HNW:=hid (Jou.three_new w (.cells #[.string k,.string v] 62) (.cells #[.slice none 0 0] 140) (.cells #[.int .i64 (k.size:Int)] 2));clear h HPE;go_enter Tryz.func35,Tryz.ntmps35;go_wp2_with fail;refine(num_some _ (w.heap.size+1) (w.heap.size+1) (w.heap.size+1+1) (k.size:Int) [] ⟨none,0,0,HNW.out.2.2.1,Owns.nil,Nat.le_refl _⟩ (by simp) (by simp) (cell_at HNW.out.2.2.2 0)).mono ?_;rintro e w1 ⟨rfl,hw1,hb1⟩;rw[List.nil_append] at hw1;have HB1:Hid (Below w.heap.size w w1):=hid (HNW.out.1.trans (hb1.mono (by omega)));have HX1:Hid (w1.heap[w.heap.size]? =some (.cells #[.string k,.string v] 62)):=hid ((hb1.block _ (by omega)).trans HNW.out.2.1);have HW1:=hid hw1;have c0:=cell_at HX1.out 0;have c1:=cell_at HX1.out 1;clear hw1 hb1 HNW;go_wp2_with fail;refine(HSZ.out w1).mono ?_;rintro e w2 ⟨rfl,hb2⟩;have hmk:=HMK.out w2;have HB2:=hid (HB1.out.trans (hb2.mono HB1.out.size));have HX2:=hid ((hb2.block _ (lt_of_heap HX1.out)).trans HX1.out);have HW2:Hid (Wr w2 (w.heap.size+1) (w.heap.size+1) (encNum (k.size:Int))):=hid (by
  obtain⟨A,n,c,h1,h2,h3⟩:=HW1.out;exact⟨A,n,c,(hb2.block _ (lt_of_heap h1)).trans h1,h2.below hb2,h3⟩)
 clear hb2 c0 c1 HX1 HW1 HSZ HMK;go_upto_region 4 with fail;have HO3:Hid (Owns (w2.alloc (.cells (cel (FrameM.zeros N)).toArray 5)) (w.heap.size+1) (.slice (some ⟨w2.heap.size,0,none⟩) 0 N) 0 []):=hid (World.ownsRow_made w2 (cel (FrameM.zeros N)).toArray N (by have:=lt_of_heap HX2.out;omega) (by unfold maxLen;have:=HK.out;omega) (by simp[cel,FrameM.zeros]));have HX3:Hid ((w2.alloc (.cells (cel (FrameM.zeros N)).toArray 5)).heap[w.heap.size]? =some (.cells #[.string k,.string v] 62)):=hid ((Below.heap_alloc w2 _ _ (lt_of_heap HX2.out)).trans HX2.out);have HB3:Hid (Below w.heap.size w (w2.alloc (.cells (cel (FrameM.zeros N)).toArray 5))):=hid (HB2.out.alloc HB2.out.size _);have HBY:=hid (bytes_some (w2.alloc (.cells (cel (FrameM.zeros N)).toArray 5)) (w.heap.size+1) (w.heap.size+1) (encNum (k.size:Int)) (by
  obtain⟨A,n,c,h1,h2,h3⟩:=HW2.out;exact⟨A,n,c,(Below.heap_alloc w2 _ _ (lt_of_heap h1)).trans h1,h2.alloc _,h3⟩) (by rw[encNum_length];omega))
 rw[encNum_length] at HBY;clear hmk HX2 HB2 HW2;generalize w2.alloc (.cells (cel (FrameM.zeros N)).toArray 5)=w3 at *;generalize w2.heap.size=g3 at *;go_wp2_with fail;refine HBY.out.mono ?_;rintro e w4 ⟨A4,c4,rfl,ho4,hb4⟩;have HB4:=hid (HB3.out.trans (hb4.mono HB3.out.size));have HX4:=hid ((hb4.block _ (lt_of_heap HX3.out)).trans HX3.out);have HO4:=hid (HO3.out.below hb4);have HY4:=hid ho4.byts;have HL4:Hid (w.heap.size+1≤w4.heap.size):=hid (lt_of_heap HX4.out);clear ho4 hb4 HBY HX3 HB3 HO3;go_upto_region 5 with (at_builtin;refine app_k _ rfl (.tmp 13) (.tmp 14) rfl (w.heap.size+1) (.slice (some ⟨g3,0,none⟩) 0 N) 0 [] rfl HO4.out w4.heap.size A4 8 c4 (encNum (k.size:Int)) rfl HY4.out 8 rfl (by omega) HL4.out ?_;intro A5 c5 w5 ho5 hg5);have HB5:=hid (HB4.out.trans ((HO4.out.lower (by omega)).below_own HB4.out.size hg5));have HX5:=hid (own_side hg5 HX4.out (fun q hq=>by have:=(World.ownsRow.lt HO4.out q hq).1;omega));have HO5:=hid ho5;have HL5:Hid (w.heap.size+1≤w5.heap.size):=hid (lt_of_heap HX5.out);have c0:=cell_at HX5.out 0;clear ho5 hg5 HB4 HX4 HO4 HY4 HL4;go_upto_region 6 with (at_builtin;refine app_str_k _ rfl (.tmp 16) (.tmp 18) rfl (w.heap.size+1) (.slice A5 8 c5) 8 ([]++encNum (k.size:Int)) rfl HO5.out k rfl (8+k.size) rfl (by have:=HSE.out;omega) HL5.out ?_;intro A6 c6 w6 ho6 hg6);have HB6:=hid (HB5.out.trans ((HO5.out.lower (by omega)).below_own HB5.out.size hg6));have HX6:=hid (own_side hg6 HX5.out (fun q hq=>by have:=(World.ownsRow.lt HO5.out q hq).1;omega));have HO6:=hid ho6;have HL6:Hid (w.heap.size+1≤w6.heap.size):=hid (lt_of_heap HX6.out);have c1:=cell_at HX6.out 1;clear ho6 hg6 HB5 HX5 HO5 HL5 c0;go_wp2_with (at_builtin;refine app_str_k _ rfl (.tmp 20) (.tmp 22) rfl (w.heap.size+1) (.slice A6 (8+k.size) c6) (8+k.size) ([]++encNum (k.size:Int)++bytesOf k) rfl HO6.out v rfl N (by have:=HSE.out;omega) HK.out HL6.out ?_;intro A7 c7 w7 ho7 hg7);have HB7:=hid (HB6.out.trans ((HO6.out.lower (by omega)).below_own HB6.out.size hg7));have HO7:=hid ho7;clear ho7 hg7 HB6 HX6 HO6 HL6 c1;go_ret;exact⟨A7,c7,rfl,by simpa using HO7.out.lower (by omega),HB7.out⟩
end Go.Proofs.YtdjhlhellkajfaaGreat.Cch
namespace Go.Proofs.YtdjhlhellkajfaaGreat.Cch
open Go.RowKit Codec Cod
section
variable {ops:Array Oper} {Q:Exit→Act→World→Prop} {md:Region.Mode} {S:World→Prop} {fuel:Nat} {listed:Array Bool} {a:Act} {w:World}
theorem wh_appstr(i d:Nat){oi:Oper}(hi:ops[i]? =some oi)(hd:oi.dst=some d)(hr:Region.ready md ops listed=[i])(hw:Region.wanted oi (yielded ops a.tmps)=true)
  (sl x:Operand) (ho:oi.op= .call {callee:= .builtin .append,args:= #[sl,x],argTypes:= #[39,9]})
  (base:Nat) (v:Value) (n:Nat) (xs:List UInt8) (hs:a.eval sl=v) (hown:Owns w base v n xs) (s:ByteArray) (hx:a.eval x= .string s) (hn:n+s.size≤1000000000) (hbase:base≤w.heap.size)
  (h:∀A' c' w',Owns w' base (.slice A' (n+s.size) c') (n+s.size) (xs++bytesOf s)→w.grownBy w' v.ownBlock→S w'∧wpAnyH Tryz.prog md ops Q S fuel (listed.setIfInBounds i true) (a.put (some d) (.slice A' (n+s.size) c')) w'):
  wpAnyH Tryz.prog md ops Q S (fuel+1) listed a w:=by
 obtain⟨A',c',w',hrun,h2,h3⟩:=run_app_str w oi.type base v n xs hown s hn hbase;obtain⟨k1,k2⟩:=h A' c' w' h2 h3;refine Frm.wh_run i d _ w' hi hd hr hw ?_ k1 k2;unfold execOp;simp only[ho,resolve,invoke,builtin,Sem.run_bind,Sem.run_pure,Result.andThen_ok,List.map_toArray,List.map_cons,List.map_nil,hs,hx,hrun]
end
theorem rpack_any(w:World)(e:Ent)(h:e.k.size+e.v.size≤900000000):Calls Tryz.prog 36 #[entV e] w (Cloned w (sizeE e) (packE e)):=by
 have HPE:Hid (packE e=encNum (e.k.size:Int)++bytesOf e.k++bytesOf e.v):=hid (by unfold packE;rw[List.append_assoc]);have HSE:Hid (sizeE e=8+e.k.size+e.v.size):=hid rfl;have HK:=hid h;rw[HPE.out,HSE.out];clear HPE HSE h;obtain⟨k,v⟩:=e;unfold entV;dsimp only at *;go_enter Tryz.func36,Tryz.ntmps36;go_upto_region 1 with fail;have HS:Hid ((w.alloc (.cells #[.string k,.string v] 61 (0,0))).drew.heap[w.heap.size]? =some (.cells #[.string k,.string v] 61 (0,0))):=hid (heap_alloc_new w _);have HB0:Hid (Below w.heap.size w (w.alloc (.cells #[.string k,.string v] 61 (0,0))).drew):=hid (Frm.alloc_below w _).drew;have HL0:Hid (w.heap.size+1≤(w.alloc (.cells #[.string k,.string v] 61 (0,0))).drew.heap.size):=hid (by show w.heap.size+1≤(w.alloc (.cells #[.string k,.string v] 61 (0,0))).heap.size;rw[World.size_alloc];exact Nat.le_refl _);refine Frm.wh_start (fun u=>u.heap[w.heap.size]? =some (.cells #[.string k,.string v] 61 (0,0))) (by kernel_rfl) ?_;generalize (w.alloc (.cells #[.string k,.string v] 61 (0,0))).drew=u0 at *;refine Frm.wb 0 3 (.pointer (some ⟨w.heap.size,0,none⟩)) HS.out ?_;go_frame;refine Frm.wd 1 4 (.string k) HS.out (fun w' hw'=> ?_) ?_
 ·have h1:=cell_at hw' 0;go_simp
 go_frame;refine Frm.wb 2 5 (.int .i64 k.size) HS.out ?_;go_frame;refine Frm.wb 4 7 (.pointer (some ⟨w.heap.size,0,none⟩)) HS.out ?_;go_frame;refine Frm.wd 5 8 (.string k) HS.out (fun w' hw'=> ?_) ?_
 ·have h1:=cell_at hw' 0;go_simp
 go_frame;refine Frm.wb 7 10 (.pointer (some ⟨w.heap.size,1,none⟩)) HS.out ?_;go_frame;refine Frm.wd 8 11 (.string v) HS.out (fun w' hw'=> ?_) ?_
 ·have h1:=cell_at hw' 1;go_simp
 go_frame;refine Frm.wh_call 3 6 83 #[.slice none 0 0,.int .i64 k.size] rfl rfl (by kernel_rfl) rfl ?_ ?_
 ·go_simp
 refine(ref_num u0 (w.heap.size+1) 0 0 none (k.size:Int) [] Owns.nil (by omega) HL0.out).mono ?_;rintro e w1 ⟨A1,m1,c1,rfl,ho1,hb1⟩;rw[List.nil_append] at ho1;have hm1:m1=8:=by have:=ho1.len;rw[encNum_length] at this;omega
 subst hm1;have HO1:=hid ho1;have HB1:=hid (HB0.out.trans (hb1.mono (by have:=HL0.out;omega)));have HS1:=hid ((hb1.block _ (by omega)).trans HS.out);have HL1:Hid (w.heap.size+1≤w1.heap.size):=hid (Nat.le_trans HL0.out hb1.size);clear ho1 hb1 HS HB0 HL0;have HS:=HS1;clear HS1;refine⟨_,rfl,HS.out,?_⟩;go_frame;refine wh_appstr 6 9 rfl rfl (by kernel_rfl) rfl (.tmp 6) (.tmp 8) rfl (w.heap.size+1) (.slice A1 8 c1) 8 (encNum (k.size:Int)) rfl HO1.out k rfl (by have:=HK.out;omega) HL1.out ?_;intro A2 c2 w2 ho2 hg2;have HB2:=hid (HB1.out.trans ((HO1.out.lower (by omega)).below_own HB1.out.size hg2));have HS2:=hid (own_side hg2 HS.out (fun q hq=>by have:=(World.ownsRow.lt HO1.out q hq).1;omega));have HO2:=hid ho2;have HL2:Hid (w.heap.size+1≤w2.heap.size):=hid (lt_of_heap HS2.out);clear ho2 hg2 HB1 HL1 HO1 HS;have HS:=HS2;clear HS2;refine⟨HS.out,?_⟩;go_frame;refine wh_appstr 9 12 rfl rfl (by kernel_rfl) rfl (.tmp 9) (.tmp 11) rfl (w.heap.size+1) (.slice A2 (8+k.size) c2) (8+k.size) (encNum (k.size:Int)++bytesOf k) rfl HO2.out v rfl (by have:=HK.out;omega) HL2.out ?_;intro A3 c3 w3 ho3 hg3;have HB3:=hid (HB2.out.trans ((HO2.out.lower (by omega)).below_own HB2.out.size hg3));have HS3:=hid (own_side hg3 HS.out (fun q hq=>by have:=(World.ownsRow.lt HO2.out q hq).1;omega));have HO3:=hid ho3;have HL3:Hid (w.heap.size+1≤w3.heap.size):=hid (lt_of_heap HS3.out);clear ho3 hg3 HB2 HL2 HO2 HS;have HS:=HS3;clear HS3;refine⟨HS.out,?_⟩;go_frame;refine Frm.wa 10 2 (.slice A3 ((8+k.size)+v.size) c3) HS.out ?_;go_frame;refine wpAnyH_done (by kernel_rfl) ?_ _;have HBF:=HB3;go_wp2_with fail;go_ret;exact⟨A3,c3,rfl,HO3.out.lower (by omega),HBF.out⟩
end Go.Proofs.YtdjhlhellkajfaaGreat.Cch
