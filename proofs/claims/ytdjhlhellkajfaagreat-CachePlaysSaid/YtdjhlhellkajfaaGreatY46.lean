/-
  Texts RApp, in one file. What each proves, and its conditions, stand at its head below.
-/
import Derived.Test.YtdjhlhellkajfaaGreatY24
import Derived.Test.YtdjhlhellkajfaaGreatY43
import Derived.Deep.DeepCutAuto
set_option maxRecDepth 100000
set_option maxHeartbeats 8000000
open Go.Lib (hid)
namespace Go.Proofs.YtdjhlhellkajfaaGreat.Jou
open Go.RowKit Codec FrameM Cod JourM
open Disk (Turn Dk Dsk ptr Now upd)
theorem app_sum{w w6 w7 w8:World}{A6 A7 A8:Option Addr}{k n c6 c7 c8:Nat}{us:List Value}{b:List UInt8}{gs:List (List UInt8)}{S:List Nat}(hb6:Below w.heap.size w w6)(hk:gs.length=k)(hn:b.length=n)(hus:us.length=k)
  (h3:∀j,j<k→∃Aj cj,us.getD j undef= .slice Aj (gs.getD j []).length cj∧Bts w S Aj (gs.getD j []).length (gs.getD j [])∧(gs.getD j []).length≤cj∧cj≤maxLen) (hS:∀q∈S,q<w.heap.size)
  (ho6:w6.ownsRow w.heap.size 39 1 (.slice A6 k c6) k ([]++us)) (ho7:Owns w7 w6.heap.size (.slice A7 n c7) n ([]++b)) (hg7:(w6.alloc (.cells #[] 5)).grownBy w7 (some w6.heap.size))
  (ho8:w8.ownsRow w.heap.size 39 1 (.slice A8 (k+1) c8) (k+1) ([]++us++[.slice A7 n c7])) (hg8:(w7.alloc (.cells #[.slice A7 n c7] 39)).grownBy w8 (Value.ownBlock (.slice A6 k c6))):
  RowsB w8 S A8 (k+1) (gs++[b])∧Below w.heap.size w w8:=by
 simp only[List.nil_append] at *;have hown6:∀q,(Value.slice A6 k c6).ownBlock=some q→w.heap.size≤q∧q<w6.heap.size:=fun q hq=>by
  obtain⟨h1,cur,h2⟩:=own_type ho6 hq;exact⟨h1,lt_of_heap h2⟩
 have hsz6:=hb6.size;have hb7:Below w.heap.size w w7:=(hb6.alloc hsz6 _).grown hg7 (by rw[World.size_alloc];omega) (fun q hq=>by cases hq;exact hsz6);have hsz7:w6.heap.size+1≤w7.heap.size:=by have:=hg7.size;rwa [World.size_alloc] at this
 have hb8:Below w.heap.size w w8:=(hb7.alloc hb7.size _).grown hg8 (by rw[World.size_alloc];omega) (fun q hq=>(hown6 q hq).1);refine⟨rows_of_vals ho8 (by simp[hus]) (by simp[hk]) (fun j hj=> ?_) hS,hb8⟩;by_cases hjk:j<k
 ·rw[getD_app_left _ _ _ _ (by omega),getD_app_left _ _ _ _ (by omega)];obtain⟨Aj,cj,e,h1,h2⟩:=h3 j hjk;exact⟨Aj,cj,e,h1.below hb8,h2⟩
 obtain rfl:j=k:=by omega
 rw[getD_app_right _ _ _ _ (by omega),getD_app_right _ _ _ _ (by omega),hus,hk,Nat.sub_self];obtain⟨A',c',e,q1,q2⟩:=ho7.form;injection e with _ _ e3;subst e3;have hx:Bts w7 (S++(Value.slice A6 j c6).ownBlock.toList) A7 n b:=bts_own ho7 (fun q hq=>by
  rcases List.mem_append.1 hq with h|h
  ·have:=hS q h;omega
  ·exact(hown6 q (by simpa using h)).2)
 have ht:Turn (Value.slice A6 j c6).ownBlock.toList w7 w8:=((Turn.refl _ w7).alloc _).grown hg8 (fun q hq=> .inl (by rw[hq];simp));refine⟨A7,c7,by show Value.slice A7 n c7=_;rw[←hn];rfl,?_,by show b.length≤_;omega,q2⟩;show Bts w8 S A7 b.length b;rw[hn];exact(hx.turn ht (fun q hq=> .inl (List.mem_append_right _ hq))).sub (fun q hq=> .inl (List.mem_append_left _ hq))
theorem RJ.listed{w w8:World}{S:List Nat}{y r bs bw k c:Nat}{A:Option Addr}{d:Dsk}{jr:Jr}{gs:List (List UInt8)}(h:RJ w S y r bs bw d jr)(hb:Below w.heap.size w w8)(hr:RowsB w8 ([y,r,bs,bw]++S) A k gs)(hf:takes gs≤room d.n):
  RJ (w8.setCell ⟨y,2,none⟩ (.slice A k c)) S y r bs bw d {jr with gs:=gs}∧Turn [y,r,bs,bw] w (w8.setCell ⟨y,2,none⟩ (.slice A k c)):=by
 obtain⟨A0,c0,h1,_⟩:=h.hd;have ht:Turn [y] w8 (w8.setCell ⟨y,2,none⟩ (.slice A k c)):=(Turn.refl [y] w8).setCell (.inl (by simp)) _;have hk:=hr.len;subst hk;exact⟨⟨(h.disk.below hb).turn ht (fun k hk=> .inl (by simp at hk;simp[hk])),⟨A,c,set_at ((hb.block y h.ylt).trans h1) 2 _,hr.turn ht (fun k hk=> .inl (by simp at hk;simp[hk]))⟩,h.yout,h.n8,hf⟩,(Turn.ofBelow hb).trans (ht.more (by simp))⟩
theorem app_keep{w6 w7:World}{base n:Nat}{A6:Option Addr}{c6:Nat}{vs:List Value}{o:Obj}(h:w6.ownsRow base 39 1 (.slice A6 n c6) n vs)(hg:(w6.alloc (.cells #[] 5)).grownBy w7 (some w6.heap.size))(_k:Nat):(w7.alloc o).ownsRow base 39 1 (.slice A6 n c6) n vs:=by
 refine World.ownsRow.alloc (World.ownsRow.kept (World.ownsRow.alloc h _) hg (.inr fun e=> ?_)) _;obtain⟨_,cur,hc⟩:=own_type h e;have:=lt_of_heap hc;omega
theorem rjappend_any(w:World)(S:List Nat)(y r bs bw:Nat)(d:Dsk)(jr:Jr)(n c:Nat)(A:Option Addr)(b:List UInt8)(h:RJ w S y r bs bw d jr)(hS:∀k∈S,k<w.heap.size)(hb:Bts w [y,r,bs,bw] A n b):
  Calls Tryz.prog 16 #[ptr y,.slice A n c] w (RJNow (appE d jr b) w S y r bs bw (appD d jr b) (appJ d jr b)):=by
 have HJ00:=hid h;have hbl:=hb.len;obtain⟨Aj,cj,hyo,hrows⟩:=h.hd;have h65:=h.disk.ok.2.1;rcases app_parts d jr b with⟨hdn,hz,hD,hJ⟩|⟨hdn,hl,hz,hD,hJ⟩|⟨hdn,hl,hfit,hz,hD,hJ⟩|hlast
 ·rw[hz,hD,hJ];have c3:=yc3 hyo;rw[hdn] at c3;clear h hb hyo hrows hz hD hJ;unfold ptr;go_enter Tryz.func16,Tryz.ntmps16;go_wp2_with fail;go_ret;exact⟨rfl,HJ00.out,Turn.refl _ _⟩
 ·rw[hz,hD,hJ];have c3:=yc3 hyo;rw[hdn] at c3;have hn9:(1048576:Int)<(n:Int):=by omega
  clear h hb hyo hrows hz hD hJ;unfold ptr;go_enter Tryz.func16,Tryz.ntmps16;go_wp2_with fail;go_ret;exact⟨rfl,HJ00.out,Turn.refl _ _⟩
 all_goals
  have c3:=yc3 hyo;have c2:=yc2 hyo;have hT64:takes jr.gs≤65536:=by have:=h.fit;unfold room at this;omega
  have HTK:=hid (rtakes_any w jr.gs.length cj Aj jr.gs hrows.rowl (by omega));have HYO0:=hid hyo;have HBB:=hid hb;have HFIT0:=hid h.fit;have HROWS:=hid hrows;have HN8:Hid (8≤d.n∧d.n≤65536):=hid ⟨h.n8,h65⟩;have HSS:Hid (∀k∈y::S,k<w.heap.size):=hid (fun k hk=>by
   rcases List.mem_cons.1 hk with rfl|hk
   ·exact h.ylt
   ·exact hS k hk)
 ·rw[hz,hD,hJ];rw[hdn] at c3;unfold takes1 at hfit;rw[hbl] at hfit hl;have hfi:(room d.n:Int)<((takes jr.gs:Nat):Int)+1+(need n:Int):=by omega
  have hnd:need n≤16384:=by unfold need;omega
  have hw1:IntKind.i64.wrap (((takes jr.gs:Nat):Int)+1)=((takes jr.gs:Nat):Int)+1:=IntWalk.i64_in _ (by omega);have hw2:IntKind.i64.wrap (((takes jr.gs:Nat):Int)+1+(need n:Int))=((takes jr.gs:Nat):Int)+1+(need n:Int):=IntWalk.i64_in _ (by omega);have hn9:¬(1048576:Int)<(n:Int):=by omega
  have HJ:=HJ00;have HYO:=HYO0;have HT:Hid (Turn [y,r,bs,bw] w w):=hid (Turn.refl _ w);clear h hb hyo hrows hz hD hJ;unfold ptr;go_enter Tryz.func16,Tryz.ntmps16;go_wp2_with fail;refine HTK.out.mono ?_;rintro e u ⟨rfl,rfl⟩;go_upto_region 6 with fail;clear c2 c3;have HS:Hid (w.drew.heap[y]? =some (yobj r jr.gen Aj jr.gs.length cj jr.down)):=hid HYO.out;have HJ0:=hid (HJ.out.below (Below.refl w.heap.size w).drew);have HT0:Hid (Turn [y,r,bs,bw] w w.drew):=hid HT.out.drew;refine Frm.wh_start (fun u=>u.heap[y]? =some (yobj r jr.gen Aj jr.gs.length cj jr.down)) (by kernel_rfl) ?_;generalize w.drew=u0 at *;have HND:=hid (Frm.rneed_any (n:Int) u0 (by unfold in64;omega));rw[needI_nat] at HND;have HRM:=hid (rroom_any u0 (y::S) r bs bw d HJ0.out.disk (by have:=HJ0.out.n8;omega));unfold ptr at HRM;refine Frm.wa 0 18 (.int .i64 (takes jr.gs)) HS.out ?_;go_frame;refine Frm.wb 1 19 (.int .i64 (takes jr.gs+1:Nat)) HS.out ?_;go_frame;refine Frm.wa 2 20 (.slice A n c) HS.out ?_;go_frame;refine Frm.wb 3 21 (.int .i64 n) HS.out ?_;go_frame;refine Frm.wa 6 24 (.pointer (some ⟨y,0,none⟩)) HS.out ?_;go_frame;refine Frm.wb 7 25 (.pointer (some ⟨y,0,none⟩)) HS.out ?_;go_frame;refine Frm.wb 8 26 (.pointer (some ⟨y,0,none⟩)) HS.out ?_;go_frame;refine Frm.wd 9 27 (.pointer (some ⟨r,0,none⟩)) HS.out (fun w' hw'=> ?_) ?_
  ·have h0:=yc0 hw';go_simp
  go_frame;refine Frm.wh_call 4 22 68 #[.int .i64 n] rfl rfl (by kernel_rfl) rfl ?_ ?_
  ·go_simp
  refine(HND.out).mono ?_;rintro e u ⟨rfl,rfl⟩;refine⟨_,rfl,HS.out,?_⟩;go_frame;refine Frm.wb 5 23 (.int .i64 (takes jr.gs+1+need n:Nat)) HS.out ?_;go_frame;refine Frm.wh_call 10 28 30 #[.pointer (some ⟨r,0,none⟩)] rfl rfl (by kernel_rfl) rfl ?_ ?_
  ·go_simp
  refine(HRM.out).mono ?_;rintro e u ⟨rfl,rfl⟩;refine⟨_,rfl,HS.out,?_⟩;go_frame;refine Frm.wb 11 29 (.bool true) HS.out ?_;go_frame;refine wpAnyH_done (by kernel_rfl) ?_ _;go_wp2_with fail;go_ret;exact⟨rfl,HJ0.out,HT0.out⟩
 have hlf:jr.down=false∧n≤1048576∧1+need n+takes jr.gs≤room d.n:=by
  rcases hlast with⟨h1,h2,h3,_⟩|⟨h1,h2,h3,_⟩<;>(unfold takes1 at h3;rw[hbl] at h2 h3;exact⟨h1,h2,h3⟩)
 obtain⟨hdn,hl,hfit⟩:=hlf;have HLAST:=hid hlast;rw[hdn] at c3;have hfi:¬(room d.n:Int)<(takes jr.gs:Int)+1+(need n:Int):=by omega
 have hnd:need n≤16384:=by unfold need;omega
 obtain⟨P,hP⟩:∃P,secAt d.n jr.gen (takes jr.gs)=P:=⟨_,rfl⟩
 obtain⟨P0,hP0⟩:∃P0,secAt d.n jr.gen 0=P0:=⟨_,rfl⟩
 have hPl:P<d.n:=by rw[←hP];exact sec_lt (by have:=h.n8;omega) (by omega)
 have hPP:(P0:Int)+(takes jr.gs:Int)=(P:Int):=by rw[←hP,←hP0,←Nat.zero_add (takes jr.gs),sec_add,Nat.zero_add];push_cast;rfl
 have hP1:secAt d.n jr.gen (takes jr.gs+1)=P+1:=by rw[sec_add,hP]
 have HP:Hid (P<d.n):=hid hPl;have HNM:Hid (n≤1048576):=hid hl;have HBL:=hid hbl;have HFT:Hid (takes jr.gs+takes1 b≤room d.n):=hid (by unfold takes1;rw[hbl];omega);have HW1:Hid (wOk d jr.gen (takes jr.gs) jr.gs.length b false true=wrsB d (P+1) (extL d.n (takes jr.gs) b)):=hid (by unfold wOk wL extL;rw[hP];rfl);have HW2:Hid (wDk d jr.gen (takes jr.gs) jr.gs.length b false true=wrsD d (P+1) (extL d.n (takes jr.gs) b)):=hid (by unfold wDk wL extL;rw[hP];rfl);have HX1:Hid (extB d jr.gen (takes jr.gs) jr.gs.length b=(wrsB d (P+1) (extL d.n (takes jr.gs) b)&&JourM.go (wrsD d (P+1) (extL d.n (takes jr.gs) b))&&(JourM.go (sy (wrsD d (P+1) (extL d.n (takes jr.gs) b)))&&JourM.go (JourM.wr (sy (wrsD d (P+1) (extL d.n (takes jr.gs) b))) P (put (markM jr.gen jr.gs.length b)))))):=hid (by
  unfold extB keepB keepD;rw[hP1,hP];cases hB:wrsB d (P+1) (extL d.n (takes jr.gs) b)
  ·simp
  ·simp only[wrsB,wrsD,if_true,Bool.and_true];cases hg:JourM.go (sy (wrsD d (P+1) (extL d.n (takes jr.gs) b)))<;>simp)
 have HX2:Hid (extD d jr.gen (takes jr.gs) jr.gs.length b=if wrsB d (P+1) (extL d.n (takes jr.gs) b) then (if JourM.go (wrsD d (P+1) (extL d.n (takes jr.gs) b)) then (if JourM.go (sy (wrsD d (P+1) (extL d.n (takes jr.gs) b))) then sy (JourM.wr (sy (wrsD d (P+1) (extL d.n (takes jr.gs) b))) P (put (markM jr.gen jr.gs.length b))) else JourM.wr (sy (wrsD d (P+1) (extL d.n (takes jr.gs) b))) P (put (markM jr.gen jr.gs.length b))) else sy (wrsD d (P+1) (extL d.n (takes jr.gs) b))) else wrsD d (P+1) (extL d.n (takes jr.gs) b)):=hid (by
  unfold extD keepB keepD;rw[hP1,hP];cases hB:wrsB d (P+1) (extL d.n (takes jr.gs) b)
  ·simp
  ·cases hg0:JourM.go (wrsD d (P+1) (extL d.n (takes jr.gs) b))
   ·simp
   ·simp only[wrsB,wrsD,if_true,Bool.and_true];cases hg:JourM.go (sy (wrsD d (P+1) (extL d.n (takes jr.gs) b)))<;>simp)
 have HML:Hid ((put (markM jr.gen jr.gs.length b)).length=64):=hid (by rw[put_right (markM_right _ _ _),List.length_append,half_length]);have HN2:Hid (secAt (sy (wrsD d (P+1) (extL d.n (takes jr.gs) b))).n jr.gen 0=P0):=hid (by rw[sy_n,wrsD_n,hP0]);have HPY:Hid (P<(sy (wrsD d (P+1) (extL d.n (takes jr.gs) b))).n):=hid (by rw[sy_n,wrsD_n];exact hPl);have HAX:Hid (P≤65536):=hid (by omega);have hw1:IntKind.i64.wrap (((takes jr.gs:Nat):Int)+1)=((takes jr.gs:Nat):Int)+1:=IntWalk.i64_in _ (by omega);have hw2:IntKind.i64.wrap (((takes jr.gs:Nat):Int)+1+(need n:Int))=((takes jr.gs:Nat):Int)+1+(need n:Int):=IntWalk.i64_in _ (by omega);have hw3:IntKind.i64.wrap ((P0:Int)+((takes jr.gs:Nat):Int))=(P:Int):=by rw[hPP];exact IntWalk.i64_in _ (by omega)
 have hn9:¬(1048576:Int)<(n:Int):=by omega
 have HJ:=HJ00;have HYO:=HYO0;have HT:Hid (Turn [y,r,bs,bw] w w):=hid (Turn.refl _ w);clear h hb hyo hrows hlast hP hP0 hPl hP1 hPP;unfold ptr;go_enter Tryz.func16,Tryz.ntmps16;go_wp2_with fail;refine HTK.out.mono ?_;rintro e u ⟨rfl,rfl⟩;go_upto_region 6 with fail;clear c2 c3;have HS:Hid (w.drew.heap[y]? =some (yobj r jr.gen Aj jr.gs.length cj jr.down)):=hid HYO.out;have HJ0:=hid (HJ.out.below (Below.refl w.heap.size w).drew);have HT0:Hid (Turn [y,r,bs,bw] w w.drew):=hid HT.out.drew;refine Frm.wh_start (fun u=>u.heap[y]? =some (yobj r jr.gen Aj jr.gs.length cj jr.down)) (by kernel_rfl) ?_;generalize w.drew=u0 at *;have HND:=hid (Frm.rneed_any (n:Int) u0 (by unfold in64;omega));rw[needI_nat] at HND;have HRM:=hid (rroom_any u0 (y::S) r bs bw d HJ0.out.disk (by have:=HJ0.out.n8;omega));unfold ptr at HRM;refine Frm.wa 0 18 (.int .i64 (takes jr.gs)) HS.out ?_;go_frame;refine Frm.wb 1 19 (.int .i64 (takes jr.gs+1:Nat)) HS.out ?_;go_frame;refine Frm.wa 2 20 (.slice A n c) HS.out ?_;go_frame;refine Frm.wb 3 21 (.int .i64 n) HS.out ?_;go_frame;refine Frm.wa 6 24 (.pointer (some ⟨y,0,none⟩)) HS.out ?_;go_frame;refine Frm.wb 7 25 (.pointer (some ⟨y,0,none⟩)) HS.out ?_;go_frame;refine Frm.wb 8 26 (.pointer (some ⟨y,0,none⟩)) HS.out ?_;go_frame;refine Frm.wd 9 27 (.pointer (some ⟨r,0,none⟩)) HS.out (fun w' hw'=> ?_) ?_
 ·have h0:=yc0 hw';go_simp
 go_frame;refine Frm.wh_call 4 22 68 #[.int .i64 n] rfl rfl (by kernel_rfl) rfl ?_ ?_
 ·go_simp
 refine(HND.out).mono ?_;rintro e u ⟨rfl,rfl⟩;refine⟨_,rfl,HS.out,?_⟩;go_frame;refine Frm.wb 5 23 (.int .i64 (takes jr.gs+1+need n:Nat)) HS.out ?_;go_frame;refine Frm.wh_call 10 28 30 #[.pointer (some ⟨r,0,none⟩)] rfl rfl (by kernel_rfl) rfl ?_ ?_
 ·go_simp
 refine(HRM.out).mono ?_;rintro e u ⟨rfl,rfl⟩;refine⟨_,rfl,HS.out,?_⟩;go_frame;refine Frm.wb 11 29 (.bool false) HS.out ?_;go_frame;refine wpAnyH_done (by kernel_rfl) ?_ _;clear HJ HYO HT;have HJ:=HJ0;have HYO:=HS;have HT:=HT0;clear HJ0 HS HT0 hfi hw1 hw2 HND HRM;go_upto_region 8 with fail;go_cut [90] (fun v wx=>∃v':Bool,v= .bool v'∧v'= !(extB d jr.gen (takes jr.gs) jr.gs.length b)∧RJ wx S y r bs bw (extD d jr.gen (takes jr.gs) jr.gs.length b) jr∧Turn [y,r,bs,bw] w wx)
 case first=>
  have HS:Hid (u0.drew.heap[y]? =some (yobj r jr.gen Aj jr.gs.length cj jr.down)):=hid HYO.out;have HJ0:=hid (HJ.out.below (Below.refl u0.heap.size u0).drew);have HT0:Hid (Turn [y,r,bs,bw] w u0.drew):=hid HT.out.drew;have HB0:=hid (HBB.out.turn HT0.out (fun q hq=> .inl hq));have HWR:=hid (rjwrite_any u0.drew S y r bs bw d jr jr.gen (takes jr.gs) jr.gs.length n c A b false true HJ0.out (fun q hq=>Nat.lt_of_lt_of_le (HSS.out q (List.mem_cons_of_mem _ hq)) HT0.out.size) (HB0.out.sub (fun q hq=> .inl (List.mem_cons_of_mem _ hq))) HNM.out HFT.out);rw[HW1.out,HW2.out] at HWR;unfold ptr at HWR;refine Frm.wh_start (fun u=>u.heap[y]? =some (yobj r jr.gen Aj jr.gs.length cj jr.down)) (by kernel_rfl) ?_;generalize u0.drew=v0 at *;generalize hd1:wrsD d (P+1) (extL d.n (takes jr.gs) b)=d1 at *;cases hB1:wrsB d (P+1) (extL d.n (takes jr.gs) b) with
  |false=>
   as_aux_lemma=>
    rw[hB1] at HWR;refine Frm.wa 0 30 (.pointer (some ⟨y,0,none⟩)) HS.out ?_;go_frame;refine Frm.wa 1 31 (.pointer (some ⟨y,0,none⟩)) HS.out ?_;go_frame;refine Frm.wb 2 32 (.pointer (some ⟨y,0,none⟩)) HS.out ?_;go_frame;refine Frm.wb 3 33 (.pointer (some ⟨y,1,none⟩)) HS.out ?_;go_frame;refine Frm.wd 4 34 (.int .i64 jr.gen) HS.out (fun w' hw'=> ?_) ?_
    ·have h1:=yc1 hw';go_simp
    go_frame;refine Frm.wa 5 35 (.int .i64 (takes jr.gs)) HS.out ?_;go_frame;refine Frm.wa 6 36 (.pointer (some ⟨y,0,none⟩)) HS.out ?_;go_frame;refine Frm.wb 7 37 (.pointer (some ⟨y,0,none⟩)) HS.out ?_;go_frame;refine Frm.wb 8 38 (.pointer (some ⟨y,2,none⟩)) HS.out ?_;go_frame;refine Frm.wd 9 39 (.slice Aj jr.gs.length cj) HS.out (fun w' hw'=> ?_) ?_
    ·have h2:=yc2 hw';go_simp
    go_frame;refine Frm.wb 10 40 (.int .i64 jr.gs.length) HS.out ?_;go_frame;refine Frm.wa 11 41 (.slice A n c) HS.out ?_;go_frame;refine Frm.wh_call 12 42 69 #[.pointer (some ⟨y,0,none⟩),.int .i64 jr.gen,.int .i64 (takes jr.gs),.int .i64 jr.gs.length,.slice A n c,.bool false,.bool true] rfl rfl (by kernel_rfl) rfl ?_ ?_
    ·go_simp
    refine(HWR.out).mono ?_;rintro e w1 ⟨rfl,hj1,ht1⟩;have HJ1:=hid hj1;have HT1:=hid (HT0.out.trans (ht1.more (by simp)));have HS:=hid ((ht1.block y HJ0.out.ylt (fun hm=>HJ0.out.yout (List.mem_append_left _ hm))).trans HS.out);clear hj1 ht1;refine⟨_,rfl,HS.out,?_⟩;go_frame;refine Frm.wb 13 43 (.bool true) HS.out ?_;go_frame;refine Frm.wa 14 44 (.bool true) HS.out ?_;go_frame;refine Frm.wq 15 45 HS.out ?_;go_frame;refine Frm.wq 16 46 HS.out ?_;go_frame;refine Frm.wq 17 47 HS.out ?_;go_frame;refine Frm.wq 18 48 HS.out ?_;go_frame;refine Frm.wq 19 49 HS.out ?_;go_frame;refine Frm.wq 20 50 HS.out ?_;go_frame;refine Frm.wb 21 51 (.bool true) HS.out ?_;go_frame;refine Frm.wa 22 52 (.bool true) HS.out ?_;go_frame;refine Frm.wq 23 53 HS.out ?_;go_frame;refine Frm.wq 24 54 HS.out ?_;go_frame;refine Frm.wq 25 55 HS.out ?_;go_frame;refine Frm.wq 26 56 HS.out ?_;go_frame;refine Frm.wq 27 57 HS.out ?_;go_frame;refine Frm.wq 28 58 HS.out ?_;go_frame;refine Frm.wq 29 59 HS.out ?_;go_frame;refine Frm.wq 30 60 HS.out ?_;go_frame;refine Frm.wq 31 61 HS.out ?_;go_frame;refine Frm.wq 32 62 HS.out ?_;go_frame;refine Frm.wq 33 63 HS.out ?_;go_frame;refine Frm.wq 34 64 HS.out ?_;go_frame;refine Frm.wq 35 65 HS.out ?_;go_frame;refine Frm.wq 36 66 HS.out ?_;go_frame;refine Frm.wq 37 67 HS.out ?_;go_frame;refine Frm.wq 38 68 HS.out ?_;go_frame;refine Frm.wq 39 69 HS.out ?_;go_frame;refine Frm.wq 40 70 HS.out ?_;go_frame;refine Frm.wq 41 71 HS.out ?_;go_frame;refine Frm.wq 42 72 HS.out ?_;go_frame;refine Frm.wq 43 73 HS.out ?_;go_frame;refine Frm.wq 44 74 HS.out ?_;go_frame;refine Frm.wq 45 75 HS.out ?_;go_frame;refine Frm.wq 46 76 HS.out ?_;go_frame;refine Frm.wq 47 77 HS.out ?_;go_frame;refine Frm.wq 48 78 HS.out ?_;go_frame;refine Frm.wq 49 79 HS.out ?_;go_frame;refine Frm.wq 50 80 HS.out ?_;go_frame;refine Frm.wq 51 81 HS.out ?_;go_frame;refine Frm.wb 52 82 (.bool true) HS.out ?_;go_frame;refine Frm.wa 53 83 (.bool true) HS.out ?_;go_frame;refine Frm.wq 54 84 HS.out ?_;go_frame;refine Frm.wq 55 85 HS.out ?_;go_frame;refine Frm.wq 56 86 HS.out ?_;go_frame;refine Frm.wq 57 87 HS.out ?_;go_frame;refine Frm.wq 58 88 HS.out ?_;go_frame;refine Frm.wq 59 89 HS.out ?_;go_frame;refine Frm.wb 60 90 (.bool true) HS.out ?_;go_frame;refine wpAnyH_done (by kernel_rfl) ?_ _;go_wp2_with fail;go_meet
    exact⟨true,rfl,by rw[HX1.out];simp[hB1],by rw[HX2.out];simpa [hB1] using HJ1.out,HT1.out⟩
  |true=>
   rw[hB1] at HWR;cases hG1:JourM.go d1 with
   |false=>
    as_aux_lemma=>
     refine Frm.wa 0 30 (.pointer (some ⟨y,0,none⟩)) HS.out ?_;go_frame;refine Frm.wa 1 31 (.pointer (some ⟨y,0,none⟩)) HS.out ?_;go_frame;refine Frm.wb 2 32 (.pointer (some ⟨y,0,none⟩)) HS.out ?_;go_frame;refine Frm.wb 3 33 (.pointer (some ⟨y,1,none⟩)) HS.out ?_;go_frame;refine Frm.wd 4 34 (.int .i64 jr.gen) HS.out (fun w' hw'=> ?_) ?_
     ·have h1:=yc1 hw';go_simp
     go_frame;refine Frm.wa 5 35 (.int .i64 (takes jr.gs)) HS.out ?_;go_frame;refine Frm.wa 6 36 (.pointer (some ⟨y,0,none⟩)) HS.out ?_;go_frame;refine Frm.wb 7 37 (.pointer (some ⟨y,0,none⟩)) HS.out ?_;go_frame;refine Frm.wb 8 38 (.pointer (some ⟨y,2,none⟩)) HS.out ?_;go_frame;refine Frm.wd 9 39 (.slice Aj jr.gs.length cj) HS.out (fun w' hw'=> ?_) ?_
     ·have h2:=yc2 hw';go_simp
     go_frame;refine Frm.wb 10 40 (.int .i64 jr.gs.length) HS.out ?_;go_frame;refine Frm.wa 11 41 (.slice A n c) HS.out ?_;go_frame;refine Frm.wh_call 12 42 69 #[.pointer (some ⟨y,0,none⟩),.int .i64 jr.gen,.int .i64 (takes jr.gs),.int .i64 jr.gs.length,.slice A n c,.bool false,.bool true] rfl rfl (by kernel_rfl) rfl ?_ ?_
     ·go_simp
     refine(HWR.out).mono ?_;rintro e w1 ⟨rfl,hj1,ht1⟩;have HJ1:=hid hj1;have HT1:=hid (HT0.out.trans (ht1.more (by simp)));have HS:=hid ((ht1.block y HJ0.out.ylt (fun hm=>HJ0.out.yout (List.mem_append_left _ hm))).trans HS.out);clear hj1 ht1;have HSY:=hid (rsync_any w1 (y::S) r bs bw d1 HJ1.out.disk);rw[hG1] at HSY;unfold ptr at HSY;refine⟨_,rfl,HS.out,?_⟩;go_frame;refine Frm.wb 13 43 (.bool false) HS.out ?_;go_frame;refine Frm.wa 14 44 (.bool false) HS.out ?_;go_frame;refine Frm.wa 15 45 (.pointer (some ⟨y,0,none⟩)) HS.out ?_;go_frame;refine Frm.wb 16 46 (.pointer (some ⟨y,0,none⟩)) HS.out ?_;go_frame;refine Frm.wb 17 47 (.pointer (some ⟨y,0,none⟩)) HS.out ?_;go_frame;refine Frm.wd 18 48 (.pointer (some ⟨r,0,none⟩)) HS.out (fun w' hw'=> ?_) ?_
     ·have h0:=yc0 hw';go_simp
     go_frame;refine Frm.wh_call 19 49 61 #[.pointer (some ⟨r,0,none⟩)] rfl rfl (by kernel_rfl) rfl ?_ ?_
     ·go_simp
     refine(HSY.out).mono ?_;rintro e w2 ⟨rfl,hr2,ht2⟩;have HJ2:=hid (HJ1.out.disked hr2 ht2 (sy_n d1));have HT2:=hid (HT1.out.trans (ht2.more (by simp)));have HS:=hid ((ht2.block y HJ1.out.ylt (fun hm=>HJ1.out.yout (List.mem_append_left _ hm))).trans HS.out);clear hr2 ht2;refine⟨_,rfl,HS.out,?_⟩;go_frame;refine Frm.wd 20 50 (.bool true) HS.out (fun w' hw'=> ?_) ?_
     ·have hz1:=err_true;have hz2:=err_false;go_simp
     go_frame;refine Frm.wb 21 51 (.bool true) HS.out ?_;go_frame;refine Frm.wa 22 52 (.bool true) HS.out ?_;go_frame;refine Frm.wq 23 53 HS.out ?_;go_frame;refine Frm.wq 24 54 HS.out ?_;go_frame;refine Frm.wq 25 55 HS.out ?_;go_frame;refine Frm.wq 26 56 HS.out ?_;go_frame;refine Frm.wq 27 57 HS.out ?_;go_frame;refine Frm.wq 28 58 HS.out ?_;go_frame;refine Frm.wq 29 59 HS.out ?_;go_frame;refine Frm.wq 30 60 HS.out ?_;go_frame;refine Frm.wq 31 61 HS.out ?_;go_frame;refine Frm.wq 32 62 HS.out ?_;go_frame;refine Frm.wq 33 63 HS.out ?_;go_frame;refine Frm.wq 34 64 HS.out ?_;go_frame;refine Frm.wq 35 65 HS.out ?_;go_frame;refine Frm.wq 36 66 HS.out ?_;go_frame;refine Frm.wq 37 67 HS.out ?_;go_frame;refine Frm.wq 38 68 HS.out ?_;go_frame;refine Frm.wq 39 69 HS.out ?_;go_frame;refine Frm.wq 40 70 HS.out ?_;go_frame;refine Frm.wq 41 71 HS.out ?_;go_frame;refine Frm.wq 42 72 HS.out ?_;go_frame;refine Frm.wq 43 73 HS.out ?_;go_frame;refine Frm.wq 44 74 HS.out ?_;go_frame;refine Frm.wq 45 75 HS.out ?_;go_frame;refine Frm.wq 46 76 HS.out ?_;go_frame;refine Frm.wq 47 77 HS.out ?_;go_frame;refine Frm.wq 48 78 HS.out ?_;go_frame;refine Frm.wq 49 79 HS.out ?_;go_frame;refine Frm.wq 50 80 HS.out ?_;go_frame;refine Frm.wq 51 81 HS.out ?_;go_frame;refine Frm.wb 52 82 (.bool true) HS.out ?_;go_frame;refine Frm.wa 53 83 (.bool true) HS.out ?_;go_frame;refine Frm.wq 54 84 HS.out ?_;go_frame;refine Frm.wq 55 85 HS.out ?_;go_frame;refine Frm.wq 56 86 HS.out ?_;go_frame;refine Frm.wq 57 87 HS.out ?_;go_frame;refine Frm.wq 58 88 HS.out ?_;go_frame;refine Frm.wq 59 89 HS.out ?_;go_frame;refine Frm.wb 60 90 (.bool true) HS.out ?_;go_frame;refine wpAnyH_done (by kernel_rfl) ?_ _;go_wp2_with fail;go_meet
     exact⟨true,rfl,by rw[HX1.out];simp[hB1,hG1],by rw[HX2.out];simpa [hB1,hG1] using HJ2.out,HT2.out⟩
   |true=>
    cases hG2:JourM.go (sy d1) with
    |false=>
     as_aux_lemma=>
      refine Frm.wa 0 30 (.pointer (some ⟨y,0,none⟩)) HS.out ?_;go_frame;refine Frm.wa 1 31 (.pointer (some ⟨y,0,none⟩)) HS.out ?_;go_frame;refine Frm.wb 2 32 (.pointer (some ⟨y,0,none⟩)) HS.out ?_;go_frame;refine Frm.wb 3 33 (.pointer (some ⟨y,1,none⟩)) HS.out ?_;go_frame;refine Frm.wd 4 34 (.int .i64 jr.gen) HS.out (fun w' hw'=> ?_) ?_
      ·have h1:=yc1 hw';go_simp
      go_frame;refine Frm.wa 5 35 (.int .i64 (takes jr.gs)) HS.out ?_;go_frame;refine Frm.wa 6 36 (.pointer (some ⟨y,0,none⟩)) HS.out ?_;go_frame;refine Frm.wb 7 37 (.pointer (some ⟨y,0,none⟩)) HS.out ?_;go_frame;refine Frm.wb 8 38 (.pointer (some ⟨y,2,none⟩)) HS.out ?_;go_frame;refine Frm.wd 9 39 (.slice Aj jr.gs.length cj) HS.out (fun w' hw'=> ?_) ?_
      ·have h2:=yc2 hw';go_simp
      go_frame;refine Frm.wb 10 40 (.int .i64 jr.gs.length) HS.out ?_;go_frame;refine Frm.wa 11 41 (.slice A n c) HS.out ?_;go_frame;refine Frm.wh_call 12 42 69 #[.pointer (some ⟨y,0,none⟩),.int .i64 jr.gen,.int .i64 (takes jr.gs),.int .i64 jr.gs.length,.slice A n c,.bool false,.bool true] rfl rfl (by kernel_rfl) rfl ?_ ?_
      ·go_simp
      refine(HWR.out).mono ?_;rintro e w1 ⟨rfl,hj1,ht1⟩;have HJ1:=hid hj1;have HT1:=hid (HT0.out.trans (ht1.more (by simp)));have HS:=hid ((ht1.block y HJ0.out.ylt (fun hm=>HJ0.out.yout (List.mem_append_left _ hm))).trans HS.out);clear hj1 ht1;have HSY:=hid (rsync_any w1 (y::S) r bs bw d1 HJ1.out.disk);rw[hG1] at HSY;unfold ptr at HSY;refine⟨_,rfl,HS.out,?_⟩;go_frame;refine Frm.wb 13 43 (.bool false) HS.out ?_;go_frame;refine Frm.wa 14 44 (.bool false) HS.out ?_;go_frame;refine Frm.wa 15 45 (.pointer (some ⟨y,0,none⟩)) HS.out ?_;go_frame;refine Frm.wb 16 46 (.pointer (some ⟨y,0,none⟩)) HS.out ?_;go_frame;refine Frm.wb 17 47 (.pointer (some ⟨y,0,none⟩)) HS.out ?_;go_frame;refine Frm.wd 18 48 (.pointer (some ⟨r,0,none⟩)) HS.out (fun w' hw'=> ?_) ?_
      ·have h0:=yc0 hw';go_simp
      go_frame;refine Frm.wh_call 19 49 61 #[.pointer (some ⟨r,0,none⟩)] rfl rfl (by kernel_rfl) rfl ?_ ?_
      ·go_simp
      refine(HSY.out).mono ?_;rintro e w2 ⟨rfl,hr2,ht2⟩;have HJ2:=hid (HJ1.out.disked hr2 ht2 (sy_n d1));have HT2:=hid (HT1.out.trans (ht2.more (by simp)));have HS:=hid ((ht2.block y HJ1.out.ylt (fun hm=>HJ1.out.yout (List.mem_append_left _ hm))).trans HS.out);clear hr2 ht2;have HF:=hid (first_any w2 (y::S) r bs bw (sy d1) jr.gen HJ2.out.disk (by have:=HJ2.out.n8;omega));rw[HN2.out] at HF;unfold ptr at HF;have HB2:=hid (HBB.out.turn HT2.out (fun q hq=> .inl hq));have HMC:=hid (rmark_any w2 jr.gen jr.gs.length w2.heap.size n c A b HB2.out.byts (Nat.le_refl _) HNM.out);refine⟨_,rfl,HS.out,?_⟩;go_frame;refine Frm.wd 20 50 (.bool false) HS.out (fun w' hw'=> ?_) ?_
      ·have hz1:=err_true;have hz2:=err_false;go_simp
      go_frame;refine Frm.wb 21 51 (.bool false) HS.out ?_;go_frame;refine Frm.wa 22 52 (.bool false) HS.out ?_;go_frame;refine Frm.wa 23 53 (.pointer (some ⟨y,0,none⟩)) HS.out ?_;go_frame;refine Frm.wb 24 54 (.pointer (some ⟨y,0,none⟩)) HS.out ?_;go_frame;refine Frm.wb 25 55 (.pointer (some ⟨y,0,none⟩)) HS.out ?_;go_frame;refine Frm.wd 26 56 (.pointer (some ⟨r,0,none⟩)) HS.out (fun w' hw'=> ?_) ?_
      ·have h0:=yc0 hw';go_simp
      go_frame;refine Frm.wa 27 57 (.pointer (some ⟨y,0,none⟩)) HS.out ?_;go_frame;refine Frm.wb 28 58 (.pointer (some ⟨y,0,none⟩)) HS.out ?_;go_frame;refine Frm.wb 29 59 (.pointer (some ⟨y,0,none⟩)) HS.out ?_;go_frame;refine Frm.wd 30 60 (.pointer (some ⟨r,0,none⟩)) HS.out (fun w' hw'=> ?_) ?_
      ·have h0:=yc0 hw';go_simp
      go_frame;refine Frm.wa 31 61 (.pointer (some ⟨y,0,none⟩)) HS.out ?_;go_frame;refine Frm.wb 32 62 (.pointer (some ⟨y,0,none⟩)) HS.out ?_;go_frame;refine Frm.wb 33 63 (.pointer (some ⟨y,1,none⟩)) HS.out ?_;go_frame;refine Frm.wd 34 64 (.int .i64 jr.gen) HS.out (fun w' hw'=> ?_) ?_
      ·have h1:=yc1 hw';go_simp
      go_frame;refine Frm.wa 36 66 (.int .i64 (takes jr.gs)) HS.out ?_;go_frame;refine Frm.wa 38 68 (.pointer (some ⟨y,0,none⟩)) HS.out ?_;go_frame;refine Frm.wb 39 69 (.pointer (some ⟨y,0,none⟩)) HS.out ?_;go_frame;refine Frm.wb 40 70 (.pointer (some ⟨y,1,none⟩)) HS.out ?_;go_frame;refine Frm.wd 41 71 (.int .i64 jr.gen) HS.out (fun w' hw'=> ?_) ?_
      ·have h1:=yc1 hw';go_simp
      go_frame;refine Frm.wa 42 72 (.pointer (some ⟨y,0,none⟩)) HS.out ?_;go_frame;refine Frm.wb 43 73 (.pointer (some ⟨y,0,none⟩)) HS.out ?_;go_frame;refine Frm.wb 44 74 (.pointer (some ⟨y,2,none⟩)) HS.out ?_;go_frame;refine Frm.wd 45 75 (.slice Aj jr.gs.length cj) HS.out (fun w' hw'=> ?_) ?_
      ·have h2:=yc2 hw';go_simp
      go_frame;refine Frm.wb 46 76 (.int .i64 jr.gs.length) HS.out ?_;go_frame;refine Frm.wa 47 77 (.slice A n c) HS.out ?_;go_frame;refine Frm.wh_call 35 65 60 #[.pointer (some ⟨r,0,none⟩),.int .i64 jr.gen] rfl rfl (by kernel_rfl) rfl ?_ ?_
      ·go_simp
      refine(HF.out).mono ?_;rintro e u ⟨rfl,rfl⟩;refine⟨_,rfl,HS.out,?_⟩;go_frame;refine Frm.wb 37 67 (.int .i64 P) HS.out ?_;go_frame;refine Frm.wh_call 48 78 70 #[.int .i64 jr.gen,.int .i64 jr.gs.length,.slice A n c] rfl rfl (by kernel_rfl) rfl ?_ ?_
      ·go_simp
      refine(HMC.out).mono ?_;rintro e w3 ⟨rfl,hb3⟩;have HS:=hid ((hb3.block y HJ2.out.ylt).trans HS.out);have HJ3:=hid (HJ2.out.below hb3);have HT3:=hid (HT2.out.below hb3);clear hb3;refine⟨_,rfl,HS.out,?_⟩;go_frame;refine Frm.wh_call 49 79 62 #[Frm.mkV (markM jr.gen jr.gs.length b)] rfl rfl (by kernel_rfl) rfl ?_ ?_
      ·go_simp
      refine(Frm.rput_any (markM jr.gen jr.gs.length b) w3).mono ?_;rintro e w4 ⟨A4,c4,rfl,hy4,hb4,hc4,hm4,ha4⟩;rw[HML.out] at hy4 hc4 ⊢;have HS:=hid ((hb4.block y HJ3.out.ylt).trans HS.out);have HJ4:=hid (HJ3.out.below hb4);have HT4:=hid (HT3.out.below hb4);have HX4:Hid (Bts w4 [r,bs,bw] A4 64 (put (markM jr.gen jr.gs.length b))):=hid (Bts.above hy4 ha4 (fun q hq=>HJ3.out.disk.lows q hq));have HWC:=hid (rwrite_any w4 (y::S) r bs bw (sy d1) P c4 A4 (put (markM jr.gen jr.gs.length b)) HJ4.out.disk HPY.out HX4.out (fun q hq=>Nat.lt_of_lt_of_le (HSS.out q hq) HT4.out.size));rw[hG2] at HWC;unfold ptr at HWC;clear hy4 hb4 hc4 hm4 ha4;refine⟨_,rfl,HS.out,?_⟩;go_frame;refine Frm.wh_call 50 80 59 #[.pointer (some ⟨r,0,none⟩),.int .i64 P,.slice A4 64 c4] rfl rfl (by kernel_rfl) rfl ?_ ?_
      ·go_simp
      refine(HWC.out).mono ?_;rintro e w5 ⟨rfl,hr5,ht5⟩;have HJ5:=hid (HJ4.out.disked hr5 ht5 (wr_n (sy d1) P _));have HT5:=hid (HT4.out.trans (ht5.more (by simp)));have HS:=hid ((ht5.block y HJ4.out.ylt (fun hm=>HJ4.out.yout (List.mem_append_left _ hm))).trans HS.out);clear hr5 ht5;refine⟨_,rfl,HS.out,?_⟩;go_frame;refine Frm.wd 51 81 (.bool true) HS.out (fun w' hw'=> ?_) ?_
      ·have hz1:=err_true;have hz2:=err_false;go_simp
      go_frame;refine Frm.wb 52 82 (.bool true) HS.out ?_;go_frame;refine Frm.wa 53 83 (.bool true) HS.out ?_;go_frame;refine Frm.wq 54 84 HS.out ?_;go_frame;refine Frm.wq 55 85 HS.out ?_;go_frame;refine Frm.wq 56 86 HS.out ?_;go_frame;refine Frm.wq 57 87 HS.out ?_;go_frame;refine Frm.wq 58 88 HS.out ?_;go_frame;refine Frm.wq 59 89 HS.out ?_;go_frame;refine Frm.wb 60 90 (.bool true) HS.out ?_;go_frame;refine wpAnyH_done (by kernel_rfl) ?_ _;go_wp2_with fail;go_meet
      exact⟨true,rfl,by rw[HX1.out];simp[hB1,hG1,hG2],by rw[HX2.out];simpa [hB1,hG1,hG2] using HJ5.out,HT5.out⟩
    |true=>
     cases hG3:JourM.go (JourM.wr (sy d1) P (put (markM jr.gen jr.gs.length b))) with
     |false=>
      as_aux_lemma=>
       refine Frm.wa 0 30 (.pointer (some ⟨y,0,none⟩)) HS.out ?_;go_frame;refine Frm.wa 1 31 (.pointer (some ⟨y,0,none⟩)) HS.out ?_;go_frame;refine Frm.wb 2 32 (.pointer (some ⟨y,0,none⟩)) HS.out ?_;go_frame;refine Frm.wb 3 33 (.pointer (some ⟨y,1,none⟩)) HS.out ?_;go_frame;refine Frm.wd 4 34 (.int .i64 jr.gen) HS.out (fun w' hw'=> ?_) ?_
       ·have h1:=yc1 hw';go_simp
       go_frame;refine Frm.wa 5 35 (.int .i64 (takes jr.gs)) HS.out ?_;go_frame;refine Frm.wa 6 36 (.pointer (some ⟨y,0,none⟩)) HS.out ?_;go_frame;refine Frm.wb 7 37 (.pointer (some ⟨y,0,none⟩)) HS.out ?_;go_frame;refine Frm.wb 8 38 (.pointer (some ⟨y,2,none⟩)) HS.out ?_;go_frame;refine Frm.wd 9 39 (.slice Aj jr.gs.length cj) HS.out (fun w' hw'=> ?_) ?_
       ·have h2:=yc2 hw';go_simp
       go_frame;refine Frm.wb 10 40 (.int .i64 jr.gs.length) HS.out ?_;go_frame;refine Frm.wa 11 41 (.slice A n c) HS.out ?_;go_frame;refine Frm.wh_call 12 42 69 #[.pointer (some ⟨y,0,none⟩),.int .i64 jr.gen,.int .i64 (takes jr.gs),.int .i64 jr.gs.length,.slice A n c,.bool false,.bool true] rfl rfl (by kernel_rfl) rfl ?_ ?_
       ·go_simp
       refine(HWR.out).mono ?_;rintro e w1 ⟨rfl,hj1,ht1⟩;have HJ1:=hid hj1;have HT1:=hid (HT0.out.trans (ht1.more (by simp)));have HS:=hid ((ht1.block y HJ0.out.ylt (fun hm=>HJ0.out.yout (List.mem_append_left _ hm))).trans HS.out);clear hj1 ht1;have HSY:=hid (rsync_any w1 (y::S) r bs bw d1 HJ1.out.disk);rw[hG1] at HSY;unfold ptr at HSY;refine⟨_,rfl,HS.out,?_⟩;go_frame;refine Frm.wb 13 43 (.bool false) HS.out ?_;go_frame;refine Frm.wa 14 44 (.bool false) HS.out ?_;go_frame;refine Frm.wa 15 45 (.pointer (some ⟨y,0,none⟩)) HS.out ?_;go_frame;refine Frm.wb 16 46 (.pointer (some ⟨y,0,none⟩)) HS.out ?_;go_frame;refine Frm.wb 17 47 (.pointer (some ⟨y,0,none⟩)) HS.out ?_;go_frame;refine Frm.wd 18 48 (.pointer (some ⟨r,0,none⟩)) HS.out (fun w' hw'=> ?_) ?_
       ·have h0:=yc0 hw';go_simp
       go_frame;refine Frm.wh_call 19 49 61 #[.pointer (some ⟨r,0,none⟩)] rfl rfl (by kernel_rfl) rfl ?_ ?_
       ·go_simp
       refine(HSY.out).mono ?_;rintro e w2 ⟨rfl,hr2,ht2⟩;have HJ2:=hid (HJ1.out.disked hr2 ht2 (sy_n d1));have HT2:=hid (HT1.out.trans (ht2.more (by simp)));have HS:=hid ((ht2.block y HJ1.out.ylt (fun hm=>HJ1.out.yout (List.mem_append_left _ hm))).trans HS.out);clear hr2 ht2;have HF:=hid (first_any w2 (y::S) r bs bw (sy d1) jr.gen HJ2.out.disk (by have:=HJ2.out.n8;omega));rw[HN2.out] at HF;unfold ptr at HF;have HB2:=hid (HBB.out.turn HT2.out (fun q hq=> .inl hq));have HMC:=hid (rmark_any w2 jr.gen jr.gs.length w2.heap.size n c A b HB2.out.byts (Nat.le_refl _) HNM.out);refine⟨_,rfl,HS.out,?_⟩;go_frame;refine Frm.wd 20 50 (.bool false) HS.out (fun w' hw'=> ?_) ?_
       ·have hz1:=err_true;have hz2:=err_false;go_simp
       go_frame;refine Frm.wb 21 51 (.bool false) HS.out ?_;go_frame;refine Frm.wa 22 52 (.bool false) HS.out ?_;go_frame;refine Frm.wa 23 53 (.pointer (some ⟨y,0,none⟩)) HS.out ?_;go_frame;refine Frm.wb 24 54 (.pointer (some ⟨y,0,none⟩)) HS.out ?_;go_frame;refine Frm.wb 25 55 (.pointer (some ⟨y,0,none⟩)) HS.out ?_;go_frame;refine Frm.wd 26 56 (.pointer (some ⟨r,0,none⟩)) HS.out (fun w' hw'=> ?_) ?_
       ·have h0:=yc0 hw';go_simp
       go_frame;refine Frm.wa 27 57 (.pointer (some ⟨y,0,none⟩)) HS.out ?_;go_frame;refine Frm.wb 28 58 (.pointer (some ⟨y,0,none⟩)) HS.out ?_;go_frame;refine Frm.wb 29 59 (.pointer (some ⟨y,0,none⟩)) HS.out ?_;go_frame;refine Frm.wd 30 60 (.pointer (some ⟨r,0,none⟩)) HS.out (fun w' hw'=> ?_) ?_
       ·have h0:=yc0 hw';go_simp
       go_frame;refine Frm.wa 31 61 (.pointer (some ⟨y,0,none⟩)) HS.out ?_;go_frame;refine Frm.wb 32 62 (.pointer (some ⟨y,0,none⟩)) HS.out ?_;go_frame;refine Frm.wb 33 63 (.pointer (some ⟨y,1,none⟩)) HS.out ?_;go_frame;refine Frm.wd 34 64 (.int .i64 jr.gen) HS.out (fun w' hw'=> ?_) ?_
       ·have h1:=yc1 hw';go_simp
       go_frame;refine Frm.wa 36 66 (.int .i64 (takes jr.gs)) HS.out ?_;go_frame;refine Frm.wa 38 68 (.pointer (some ⟨y,0,none⟩)) HS.out ?_;go_frame;refine Frm.wb 39 69 (.pointer (some ⟨y,0,none⟩)) HS.out ?_;go_frame;refine Frm.wb 40 70 (.pointer (some ⟨y,1,none⟩)) HS.out ?_;go_frame;refine Frm.wd 41 71 (.int .i64 jr.gen) HS.out (fun w' hw'=> ?_) ?_
       ·have h1:=yc1 hw';go_simp
       go_frame;refine Frm.wa 42 72 (.pointer (some ⟨y,0,none⟩)) HS.out ?_;go_frame;refine Frm.wb 43 73 (.pointer (some ⟨y,0,none⟩)) HS.out ?_;go_frame;refine Frm.wb 44 74 (.pointer (some ⟨y,2,none⟩)) HS.out ?_;go_frame;refine Frm.wd 45 75 (.slice Aj jr.gs.length cj) HS.out (fun w' hw'=> ?_) ?_
       ·have h2:=yc2 hw';go_simp
       go_frame;refine Frm.wb 46 76 (.int .i64 jr.gs.length) HS.out ?_;go_frame;refine Frm.wa 47 77 (.slice A n c) HS.out ?_;go_frame;refine Frm.wh_call 35 65 60 #[.pointer (some ⟨r,0,none⟩),.int .i64 jr.gen] rfl rfl (by kernel_rfl) rfl ?_ ?_
       ·go_simp
       refine(HF.out).mono ?_;rintro e u ⟨rfl,rfl⟩;refine⟨_,rfl,HS.out,?_⟩;go_frame;refine Frm.wb 37 67 (.int .i64 P) HS.out ?_;go_frame;refine Frm.wh_call 48 78 70 #[.int .i64 jr.gen,.int .i64 jr.gs.length,.slice A n c] rfl rfl (by kernel_rfl) rfl ?_ ?_
       ·go_simp
       refine(HMC.out).mono ?_;rintro e w3 ⟨rfl,hb3⟩;have HS:=hid ((hb3.block y HJ2.out.ylt).trans HS.out);have HJ3:=hid (HJ2.out.below hb3);have HT3:=hid (HT2.out.below hb3);clear hb3;refine⟨_,rfl,HS.out,?_⟩;go_frame;refine Frm.wh_call 49 79 62 #[Frm.mkV (markM jr.gen jr.gs.length b)] rfl rfl (by kernel_rfl) rfl ?_ ?_
       ·go_simp
       refine(Frm.rput_any (markM jr.gen jr.gs.length b) w3).mono ?_;rintro e w4 ⟨A4,c4,rfl,hy4,hb4,hc4,hm4,ha4⟩;rw[HML.out] at hy4 hc4 ⊢;have HS:=hid ((hb4.block y HJ3.out.ylt).trans HS.out);have HJ4:=hid (HJ3.out.below hb4);have HT4:=hid (HT3.out.below hb4);have HX4:Hid (Bts w4 [r,bs,bw] A4 64 (put (markM jr.gen jr.gs.length b))):=hid (Bts.above hy4 ha4 (fun q hq=>HJ3.out.disk.lows q hq));have HWC:=hid (rwrite_any w4 (y::S) r bs bw (sy d1) P c4 A4 (put (markM jr.gen jr.gs.length b)) HJ4.out.disk HPY.out HX4.out (fun q hq=>Nat.lt_of_lt_of_le (HSS.out q hq) HT4.out.size));rw[hG2] at HWC;unfold ptr at HWC;clear hy4 hb4 hc4 hm4 ha4;refine⟨_,rfl,HS.out,?_⟩;go_frame;refine Frm.wh_call 50 80 59 #[.pointer (some ⟨r,0,none⟩),.int .i64 P,.slice A4 64 c4] rfl rfl (by kernel_rfl) rfl ?_ ?_
       ·go_simp
       refine(HWC.out).mono ?_;rintro e w5 ⟨rfl,hr5,ht5⟩;have HJ5:=hid (HJ4.out.disked hr5 ht5 (wr_n (sy d1) P _));have HT5:=hid (HT4.out.trans (ht5.more (by simp)));have HS:=hid ((ht5.block y HJ4.out.ylt (fun hm=>HJ4.out.yout (List.mem_append_left _ hm))).trans HS.out);clear hr5 ht5;have HSZ:=hid (rsync_any w5 (y::S) r bs bw (JourM.wr (sy d1) P (put (markM jr.gen jr.gs.length b))) HJ5.out.disk);rw[hG3] at HSZ;unfold ptr at HSZ;refine⟨_,rfl,HS.out,?_⟩;go_frame;refine Frm.wd 51 81 (.bool false) HS.out (fun w' hw'=> ?_) ?_
       ·have hz1:=err_true;have hz2:=err_false;go_simp
       go_frame;refine Frm.wb 52 82 (.bool false) HS.out ?_;go_frame;refine Frm.wa 53 83 (.bool false) HS.out ?_;go_frame;refine Frm.wa 54 84 (.pointer (some ⟨y,0,none⟩)) HS.out ?_;go_frame;refine Frm.wb 55 85 (.pointer (some ⟨y,0,none⟩)) HS.out ?_;go_frame;refine Frm.wb 56 86 (.pointer (some ⟨y,0,none⟩)) HS.out ?_;go_frame;refine Frm.wd 57 87 (.pointer (some ⟨r,0,none⟩)) HS.out (fun w' hw'=> ?_) ?_
       ·have h0:=yc0 hw';go_simp
       go_frame;refine Frm.wh_call 58 88 61 #[.pointer (some ⟨r,0,none⟩)] rfl rfl (by kernel_rfl) rfl ?_ ?_
       ·go_simp
       refine(HSZ.out).mono ?_;rintro e w6 ⟨rfl,hr6,ht6⟩;have HJ6:=hid (HJ5.out.disked hr6 ht6 (sy_n _));have HT6:=hid (HT5.out.trans (ht6.more (by simp)));have HS:=hid ((ht6.block y HJ5.out.ylt (fun hm=>HJ5.out.yout (List.mem_append_left _ hm))).trans HS.out);clear hr6 ht6;refine⟨_,rfl,HS.out,?_⟩;go_frame;refine Frm.wd 59 89 (.bool true) HS.out (fun w' hw'=> ?_) ?_
       ·have hz1:=err_true;have hz2:=err_false;go_simp
       go_frame;refine Frm.wb 60 90 (.bool true) HS.out ?_;go_frame;refine wpAnyH_done (by kernel_rfl) ?_ _;go_wp2_with fail;go_meet
       exact⟨true,rfl,by rw[HX1.out];simp[hB1,hG1,hG2,hG3],by rw[HX2.out];simpa [hB1,hG1,hG2] using HJ6.out,HT6.out⟩
     |true=>
      as_aux_lemma=>
       refine Frm.wa 0 30 (.pointer (some ⟨y,0,none⟩)) HS.out ?_;go_frame;refine Frm.wa 1 31 (.pointer (some ⟨y,0,none⟩)) HS.out ?_;go_frame;refine Frm.wb 2 32 (.pointer (some ⟨y,0,none⟩)) HS.out ?_;go_frame;refine Frm.wb 3 33 (.pointer (some ⟨y,1,none⟩)) HS.out ?_;go_frame;refine Frm.wd 4 34 (.int .i64 jr.gen) HS.out (fun w' hw'=> ?_) ?_
       ·have h1:=yc1 hw';go_simp
       go_frame;refine Frm.wa 5 35 (.int .i64 (takes jr.gs)) HS.out ?_;go_frame;refine Frm.wa 6 36 (.pointer (some ⟨y,0,none⟩)) HS.out ?_;go_frame;refine Frm.wb 7 37 (.pointer (some ⟨y,0,none⟩)) HS.out ?_;go_frame;refine Frm.wb 8 38 (.pointer (some ⟨y,2,none⟩)) HS.out ?_;go_frame;refine Frm.wd 9 39 (.slice Aj jr.gs.length cj) HS.out (fun w' hw'=> ?_) ?_
       ·have h2:=yc2 hw';go_simp
       go_frame;refine Frm.wb 10 40 (.int .i64 jr.gs.length) HS.out ?_;go_frame;refine Frm.wa 11 41 (.slice A n c) HS.out ?_;go_frame;refine Frm.wh_call 12 42 69 #[.pointer (some ⟨y,0,none⟩),.int .i64 jr.gen,.int .i64 (takes jr.gs),.int .i64 jr.gs.length,.slice A n c,.bool false,.bool true] rfl rfl (by kernel_rfl) rfl ?_ ?_
       ·go_simp
       refine(HWR.out).mono ?_;rintro e w1 ⟨rfl,hj1,ht1⟩;have HJ1:=hid hj1;have HT1:=hid (HT0.out.trans (ht1.more (by simp)));have HS:=hid ((ht1.block y HJ0.out.ylt (fun hm=>HJ0.out.yout (List.mem_append_left _ hm))).trans HS.out);clear hj1 ht1;have HSY:=hid (rsync_any w1 (y::S) r bs bw d1 HJ1.out.disk);rw[hG1] at HSY;unfold ptr at HSY;refine⟨_,rfl,HS.out,?_⟩;go_frame;refine Frm.wb 13 43 (.bool false) HS.out ?_;go_frame;refine Frm.wa 14 44 (.bool false) HS.out ?_;go_frame;refine Frm.wa 15 45 (.pointer (some ⟨y,0,none⟩)) HS.out ?_;go_frame;refine Frm.wb 16 46 (.pointer (some ⟨y,0,none⟩)) HS.out ?_;go_frame;refine Frm.wb 17 47 (.pointer (some ⟨y,0,none⟩)) HS.out ?_;go_frame;refine Frm.wd 18 48 (.pointer (some ⟨r,0,none⟩)) HS.out (fun w' hw'=> ?_) ?_
       ·have h0:=yc0 hw';go_simp
       go_frame;refine Frm.wh_call 19 49 61 #[.pointer (some ⟨r,0,none⟩)] rfl rfl (by kernel_rfl) rfl ?_ ?_
       ·go_simp
       refine(HSY.out).mono ?_;rintro e w2 ⟨rfl,hr2,ht2⟩;have HJ2:=hid (HJ1.out.disked hr2 ht2 (sy_n d1));have HT2:=hid (HT1.out.trans (ht2.more (by simp)));have HS:=hid ((ht2.block y HJ1.out.ylt (fun hm=>HJ1.out.yout (List.mem_append_left _ hm))).trans HS.out);clear hr2 ht2;have HF:=hid (first_any w2 (y::S) r bs bw (sy d1) jr.gen HJ2.out.disk (by have:=HJ2.out.n8;omega));rw[HN2.out] at HF;unfold ptr at HF;have HB2:=hid (HBB.out.turn HT2.out (fun q hq=> .inl hq));have HMC:=hid (rmark_any w2 jr.gen jr.gs.length w2.heap.size n c A b HB2.out.byts (Nat.le_refl _) HNM.out);refine⟨_,rfl,HS.out,?_⟩;go_frame;refine Frm.wd 20 50 (.bool false) HS.out (fun w' hw'=> ?_) ?_
       ·have hz1:=err_true;have hz2:=err_false;go_simp
       go_frame;refine Frm.wb 21 51 (.bool false) HS.out ?_;go_frame;refine Frm.wa 22 52 (.bool false) HS.out ?_;go_frame;refine Frm.wa 23 53 (.pointer (some ⟨y,0,none⟩)) HS.out ?_;go_frame;refine Frm.wb 24 54 (.pointer (some ⟨y,0,none⟩)) HS.out ?_;go_frame;refine Frm.wb 25 55 (.pointer (some ⟨y,0,none⟩)) HS.out ?_;go_frame;refine Frm.wd 26 56 (.pointer (some ⟨r,0,none⟩)) HS.out (fun w' hw'=> ?_) ?_
       ·have h0:=yc0 hw';go_simp
       go_frame;refine Frm.wa 27 57 (.pointer (some ⟨y,0,none⟩)) HS.out ?_;go_frame;refine Frm.wb 28 58 (.pointer (some ⟨y,0,none⟩)) HS.out ?_;go_frame;refine Frm.wb 29 59 (.pointer (some ⟨y,0,none⟩)) HS.out ?_;go_frame;refine Frm.wd 30 60 (.pointer (some ⟨r,0,none⟩)) HS.out (fun w' hw'=> ?_) ?_
       ·have h0:=yc0 hw';go_simp
       go_frame;refine Frm.wa 31 61 (.pointer (some ⟨y,0,none⟩)) HS.out ?_;go_frame;refine Frm.wb 32 62 (.pointer (some ⟨y,0,none⟩)) HS.out ?_;go_frame;refine Frm.wb 33 63 (.pointer (some ⟨y,1,none⟩)) HS.out ?_;go_frame;refine Frm.wd 34 64 (.int .i64 jr.gen) HS.out (fun w' hw'=> ?_) ?_
       ·have h1:=yc1 hw';go_simp
       go_frame;refine Frm.wa 36 66 (.int .i64 (takes jr.gs)) HS.out ?_;go_frame;refine Frm.wa 38 68 (.pointer (some ⟨y,0,none⟩)) HS.out ?_;go_frame;refine Frm.wb 39 69 (.pointer (some ⟨y,0,none⟩)) HS.out ?_;go_frame;refine Frm.wb 40 70 (.pointer (some ⟨y,1,none⟩)) HS.out ?_;go_frame;refine Frm.wd 41 71 (.int .i64 jr.gen) HS.out (fun w' hw'=> ?_) ?_
       ·have h1:=yc1 hw';go_simp
       go_frame;refine Frm.wa 42 72 (.pointer (some ⟨y,0,none⟩)) HS.out ?_;go_frame;refine Frm.wb 43 73 (.pointer (some ⟨y,0,none⟩)) HS.out ?_;go_frame;refine Frm.wb 44 74 (.pointer (some ⟨y,2,none⟩)) HS.out ?_;go_frame;refine Frm.wd 45 75 (.slice Aj jr.gs.length cj) HS.out (fun w' hw'=> ?_) ?_
       ·have h2:=yc2 hw';go_simp
       go_frame;refine Frm.wb 46 76 (.int .i64 jr.gs.length) HS.out ?_;go_frame;refine Frm.wa 47 77 (.slice A n c) HS.out ?_;go_frame;refine Frm.wh_call 35 65 60 #[.pointer (some ⟨r,0,none⟩),.int .i64 jr.gen] rfl rfl (by kernel_rfl) rfl ?_ ?_
       ·go_simp
       refine(HF.out).mono ?_;rintro e u ⟨rfl,rfl⟩;refine⟨_,rfl,HS.out,?_⟩;go_frame;refine Frm.wb 37 67 (.int .i64 P) HS.out ?_;go_frame;refine Frm.wh_call 48 78 70 #[.int .i64 jr.gen,.int .i64 jr.gs.length,.slice A n c] rfl rfl (by kernel_rfl) rfl ?_ ?_
       ·go_simp
       refine(HMC.out).mono ?_;rintro e w3 ⟨rfl,hb3⟩;have HS:=hid ((hb3.block y HJ2.out.ylt).trans HS.out);have HJ3:=hid (HJ2.out.below hb3);have HT3:=hid (HT2.out.below hb3);clear hb3;refine⟨_,rfl,HS.out,?_⟩;go_frame;refine Frm.wh_call 49 79 62 #[Frm.mkV (markM jr.gen jr.gs.length b)] rfl rfl (by kernel_rfl) rfl ?_ ?_
       ·go_simp
       refine(Frm.rput_any (markM jr.gen jr.gs.length b) w3).mono ?_;rintro e w4 ⟨A4,c4,rfl,hy4,hb4,hc4,hm4,ha4⟩;rw[HML.out] at hy4 hc4 ⊢;have HS:=hid ((hb4.block y HJ3.out.ylt).trans HS.out);have HJ4:=hid (HJ3.out.below hb4);have HT4:=hid (HT3.out.below hb4);have HX4:Hid (Bts w4 [r,bs,bw] A4 64 (put (markM jr.gen jr.gs.length b))):=hid (Bts.above hy4 ha4 (fun q hq=>HJ3.out.disk.lows q hq));have HWC:=hid (rwrite_any w4 (y::S) r bs bw (sy d1) P c4 A4 (put (markM jr.gen jr.gs.length b)) HJ4.out.disk HPY.out HX4.out (fun q hq=>Nat.lt_of_lt_of_le (HSS.out q hq) HT4.out.size));rw[hG2] at HWC;unfold ptr at HWC;clear hy4 hb4 hc4 hm4 ha4;refine⟨_,rfl,HS.out,?_⟩;go_frame;refine Frm.wh_call 50 80 59 #[.pointer (some ⟨r,0,none⟩),.int .i64 P,.slice A4 64 c4] rfl rfl (by kernel_rfl) rfl ?_ ?_
       ·go_simp
       refine(HWC.out).mono ?_;rintro e w5 ⟨rfl,hr5,ht5⟩;have HJ5:=hid (HJ4.out.disked hr5 ht5 (wr_n (sy d1) P _));have HT5:=hid (HT4.out.trans (ht5.more (by simp)));have HS:=hid ((ht5.block y HJ4.out.ylt (fun hm=>HJ4.out.yout (List.mem_append_left _ hm))).trans HS.out);clear hr5 ht5;have HSZ:=hid (rsync_any w5 (y::S) r bs bw (JourM.wr (sy d1) P (put (markM jr.gen jr.gs.length b))) HJ5.out.disk);rw[hG3] at HSZ;unfold ptr at HSZ;refine⟨_,rfl,HS.out,?_⟩;go_frame;refine Frm.wd 51 81 (.bool false) HS.out (fun w' hw'=> ?_) ?_
       ·have hz1:=err_true;have hz2:=err_false;go_simp
       go_frame;refine Frm.wb 52 82 (.bool false) HS.out ?_;go_frame;refine Frm.wa 53 83 (.bool false) HS.out ?_;go_frame;refine Frm.wa 54 84 (.pointer (some ⟨y,0,none⟩)) HS.out ?_;go_frame;refine Frm.wb 55 85 (.pointer (some ⟨y,0,none⟩)) HS.out ?_;go_frame;refine Frm.wb 56 86 (.pointer (some ⟨y,0,none⟩)) HS.out ?_;go_frame;refine Frm.wd 57 87 (.pointer (some ⟨r,0,none⟩)) HS.out (fun w' hw'=> ?_) ?_
       ·have h0:=yc0 hw';go_simp
       go_frame;refine Frm.wh_call 58 88 61 #[.pointer (some ⟨r,0,none⟩)] rfl rfl (by kernel_rfl) rfl ?_ ?_
       ·go_simp
       refine(HSZ.out).mono ?_;rintro e w6 ⟨rfl,hr6,ht6⟩;have HJ6:=hid (HJ5.out.disked hr6 ht6 (sy_n _));have HT6:=hid (HT5.out.trans (ht6.more (by simp)));have HS:=hid ((ht6.block y HJ5.out.ylt (fun hm=>HJ5.out.yout (List.mem_append_left _ hm))).trans HS.out);clear hr6 ht6;refine⟨_,rfl,HS.out,?_⟩;go_frame;refine Frm.wd 59 89 (.bool false) HS.out (fun w' hw'=> ?_) ?_
       ·have hz1:=err_true;have hz2:=err_false;go_simp
       go_frame;refine Frm.wb 60 90 (.bool false) HS.out ?_;go_frame;refine wpAnyH_done (by kernel_rfl) ?_ _;go_wp2_with fail;go_meet
       exact⟨false,rfl,by rw[HX1.out];simp[hB1,hG1,hG2,hG3],by rw[HX2.out];simpa [hB1,hG1,hG2] using HJ6.out,HT6.out⟩
 case rest=>
  obtain⟨v',rfl,hv,hj,ht⟩:=hcut;clear HX1 HX2 HW1 HW2 hw3 HJ HYO HT;rcases HLAST.out with⟨_,_,_,hx,hz,hD,hJ⟩|⟨_,_,_,hx,hz,hD,hJ⟩
  ·as_aux_lemma=>
    rw[hx] at hv;subst hv;have HZ:=hid (And.intro hz (And.intro hD hJ));obtain⟨Aj2,cj2,hyo2,_⟩:=hj.hd;have c3:=yc3 hyo2;have f3:wc.frozen? ⟨y,3,none⟩=false:=free_at hyo2 3;have HF:=hid hj.fell;have HTT:=hid ht;clear hj ht hyo2 hz hD hJ;go_wp2_with fail;go_ret;exact⟨by rw[HZ.out.1];rfl,by rw[HZ.out.2.1,HZ.out.2.2];exact HF.out.1,HTT.out.trans HF.out.2⟩
  as_aux_lemma=>
   rw[hx] at hv;subst hv;have HZ:=hid (And.intro hz (And.intro hD hJ));obtain⟨Aj,cj,hyo2,hrw2⟩:=hj.hd;have HJc:=hid hj;have HTT:=hid ht;have HSc:Hid (∀q∈[y,r,bs,bw]++S,q<wc.heap.size):=hid (fun q hq=>by
    rcases List.mem_append.1 hq with e|e
    ·exact hj.lows q e
    ·exact Nat.lt_of_lt_of_le (HSS.out q (List.mem_cons_of_mem _ e)) ht.size)
   have HBC:=hid (HBB.out.turn ht (fun q hq=> .inl hq)).byts;obtain⟨us,hus,huc,hu3⟩:=hrw2.vals;have HU3:=hid hu3;have HUC:Hid (0<jr.gs.length→∃b' off,Aj=some ⟨b',off,none⟩∧∀j,j<jr.gs.length→(wc.alloc (.cells #[] 39)).cell? ⟨b',off+j,none⟩=some (us.getD j undef)∧∃Aj nj cj,us.getD j undef= .slice Aj nj cj):=hid (fun h0=>by
    obtain⟨b',off,e,hl,_,hc⟩:=huc h0;exact⟨b',off,e,fun j hj=>⟨(World.cell?_of_block (w:=wc) (Below.heap_alloc wc _ b' hl)).trans (hc j hj),by obtain⟨Aj,cj,h1,_⟩:=hu3 j hj;exact⟨Aj,_,cj,h1⟩⟩⟩)
   have HUS:=hid hus;have HBa:=hid (Frm.alloc_below wc (.cells #[] 39));have HO0:Hid ((wc.alloc (.cells #[] 39)).ownsRow wc.heap.size 39 1 (.slice (some ⟨wc.heap.size,0,none⟩) 0 0) 0 []):=hid (World.ownsRow_made wc #[] 0 (Nat.le_refl _) (Nat.zero_le _) rfl);have HYc:=hid hyo2;have c2a:(wc.alloc (.cells #[] 39)).cell? ⟨y,2,none⟩=some (.slice Aj jr.gs.length cj):=yc2 ((HBa.out.block y HJc.out.ylt).trans hyo2);have hgl:jr.gs.length≤65536:=by have h1:=takes_length jr.gs;have h2:=HJc.out.fit;have h3:=HJc.out.disk.ok.2.1;unfold room at h2;omega
   clear hj ht hyo2 hrw2 hu3 huc hz hD hJ;go_wp2_with (at_builtin;first
    |(refine wpList_app_vals _ rfl (.tmp 95) (.tmp 99) rfl wc.heap.size (.slice (some ⟨wc.heap.size,0,none⟩) 0 0) 0 [] rfl HO0.out Aj jr.gs.length cj us rfl hus HUC.out jr.gs.length (by omega) (by omega) HBa.out.size ?_;intro A6 c6 w6 ho6 hg6;have HO6:=hid ho6;have HB6:=hid (HBa.out.trans (own_below_v HO0.out HBa.out.size hg6));clear ho6 hg6)
    |(refine wpList_app_k _ rfl (.tmp 101) (.tmp 102) rfl w6.heap.size (.slice (some ⟨w6.heap.size,0,none⟩) 0 0) 0 [] rfl (World.ownsRow_made w6 #[] 0 (Nat.le_refl _) (Nat.zero_le _) rfl) wc.heap.size A n c b rfl (HBC.out.below (HB6.out.alloc HB6.out.size _)) n (by omega) (by omega) (by rw[World.size_alloc];omega) ?_;intro A7 c7 w7 ho7 hg7;have HO7:=hid ho7;have HG7:=hid hg7;clear ho7 hg7)
    |(refine wpList_app_vals _ rfl (.tmp 100) (.tmp 104) rfl wc.heap.size (.slice A6 jr.gs.length c6) jr.gs.length ([]++us) rfl (app_keep HO6.out HG7.out w7.heap.size) (some ⟨w7.heap.size,0,none⟩) 1 1 [.slice A7 n c7] rfl rfl (vals_one (heap_alloc_new w7 _)) (jr.gs.length+1) rfl (by omega) (by rw[World.size_alloc];have:=HB6.out.size;have:=HG7.out.size;rw[World.size_alloc] at this;omega) ?_;intro A8 c8 w8 ho8 hg8;have HSUM:=hid (app_sum HB6.out rfl HBL.out hus HU3.out HSc.out HO6.out HO7.out HG7.out ho8 hg8);have k8:=yc2 ((HSUM.out.2.block y HJc.out.ylt).trans HYc.out);have k8f:w8.frozen? ⟨y,2,none⟩=false:=free_at ((HSUM.out.2.block y HJc.out.ylt).trans HYc.out) 2;clear ho8 hg8))
   have HL:=hid (HJc.out.listed (c:=c8) HSUM.out.2 HSUM.out.1 (by rw[takes_snoc,extD_n];exact HFT.out));go_ret;exact⟨by rw[HZ.out.1];rfl,by rw[HZ.out.2.1,HZ.out.2.2];exact HL.out.1,HTT.out.trans HL.out.2⟩
end Go.Proofs.YtdjhlhellkajfaaGreat.Jou
