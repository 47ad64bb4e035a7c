/-
  Texts RRst, RRs2, RRs3, in one file. What each proves, and its conditions, stand at its head below.
-/
import Derived.Test.YtdjhlhellkajfaaGreatY24
import Derived.Test.YtdjhlhellkajfaaGreatY39
import Derived.Test.YtdjhlhellkajfaaGreatY43
import Derived.Test.YtdjhlhellkajfaaGreatY48
import Derived.Deep.DeepCutAuto
set_option maxRecDepth 100000
set_option maxHeartbeats 4000000
open Go.Lib (hid)
namespace Go.Proofs.YtdjhlhellkajfaaGreat.Jou
open Go.RowKit Codec FrameM Cod JourM
open Disk (Turn Dk Dsk ptr Now upd)
theorem rreset_no(w:World)(S:List Nat)(y r bs bw:Nat)(d:Dsk)(jr:Jr)(n c:Nat)(A:Option Addr)(ls:List (List UInt8))(h:RJ w S y r bs bw d jr)(hr:RowsB w [y,r,bs,bw] A n ls)(hn:n≤1000000)(hno:rstDo d jr ls=false):
  Calls Tryz.prog 18 #[ptr y,.slice A n c] w (RJNow (rstE d jr ls) w S y r bs bw (rstD d jr ls) (rstJ d jr ls)):=by
 have HJ:=hid h;have HR:=hid hr;have hlen:=hr.len;have HLEN:=hid hlen;obtain⟨Aj,cj,hyo,hrows⟩:=h.hd;have HYO:=hid hyo;have h65:=h.disk.ok.2.1;have hn1:(n:Int)≤1000000:=by omega
 have hnot:¬(jr.down=false∧anyLong ls=false∧takes ls≤room d.n):=by
  rintro⟨e1,e2,e3⟩;unfold rstDo at hno;rw[e1,e2] at hno;simp[e3] at hno
 rcases rst_parts d jr ls with⟨hdn,hz,hD,hJ⟩|⟨hdn,hl,hz,hD,hJ⟩|⟨hdn,hl,hfit,hz,hD,hJ⟩|⟨hdn,hl,hfit,_⟩|⟨hdn,hl,hfit,_⟩
 ·rw[hz,hD,hJ];have c3:=yc3 hyo;rw[hdn] at c3;clear h hr hyo hrows hz hD hJ hnot hno;unfold ptr;go_enter Tryz.func18,Tryz.ntmps18;go_wp2_with fail;go_ret;exact⟨rfl,HJ.out,Turn.refl _ _⟩
 ·rw[hz,hD,hJ];have c3:=yc3 hyo;rw[hdn] at c3;have HLG:=hid hl;clear h hr hyo hrows hz hD hJ hnot hno hl hlen;unfold ptr;go_enter Tryz.func18,Tryz.ntmps18;go_wp2_with fail;go_loop [5] (fun i=>∃k:Nat,k≤n∧i= .int .i64 k∧∀q,q<k→(ls.getD q []).length≤1048576) (fun i=>n-(Go.RowKit.intOf i).toNat)
  case atStart=>exact⟨0,by omega,rfl,fun q hq=>absurd hq (by omega)⟩
  case round=>
   obtain⟨k,hk,rfl,hq⟩:=hrel;have HQ:=hid hq;clear hq;by_cases hlt:k<n
   ·obtain⟨b,o,Aj1,cj1,hat,hcell⟩:=HR.out.rowl.at hlt;have hidx:=hat c;clear hat;by_cases hl2:(ls.getD k []).length≤1048576
    ·have HL:=hid hl2;have hl3:((ls.getD k []).length:Int)≤1048576:=by omega
     clear hl2;obtain⟨lx,hlx⟩:∃lx,(ls.getD k []).length=lx:=⟨_,rfl⟩
     rw[hlx] at hcell hl3;clear hlx;go_wp2;go_round
     case rel=>
      refine⟨k+1,by omega,by go_num,fun q hq=> ?_⟩;by_cases he:q=k
      ·subst he;exact HL.out
      exact HQ.out q (by omega)
     case measure=>simp[Go.RowKit.intOf];omega
    have hl3:(1048576:Int)<((ls.getD k []).length:Int):=by omega
    clear hl2;generalize (ls.getD k []).length=lx at *;go_wp2;go_ret;exact⟨rfl,HJ.out,Turn.refl _ _⟩
   obtain rfl:k=n:=by omega
   have hno:=anyLong_no (fun q hq=>HQ.out q (by rw[←HLEN.out];exact hq));rw[HLG.out] at hno;cases hno
 ·rw[hz,hD,hJ];have c3:=yc3 hyo;rw[hdn] at c3;have HAL:=hid (anyLong_all hl);have HTB:Hid (takes ls≤1000000000000):=hid (by have:=takes_le ls HAL.out;rw[hlen] at this;omega);have hfi:(room d.n:Int)<(takes ls:Int):=by omega
  have HT:Hid (Turn [y,r,bs,bw] w w):=hid (Turn.refl _ w);clear h hr hyo hrows hz hD hJ hnot hno hl hlen hfit;unfold ptr;go_enter Tryz.func18,Tryz.ntmps18;go_wp2_with fail;go_loop [5] (fun i=>∃k:Nat,k≤n∧i= .int .i64 k) (fun i=>n-(Go.RowKit.intOf i).toNat)
  case atStart=>exact⟨0,by omega,rfl⟩
  case round=>
   obtain⟨k,hk,rfl⟩:=hrel;by_cases hlt:k<n
   ·obtain⟨b,o,Aj1,cj1,hat,hcell⟩:=HR.out.rowl.at hlt;have hidx:=hat c;have hl2:((ls.getD k []).length:Int)≤1048576:=by have:=HAL.out (ls.getD k []) (by rw[List.getD_eq_getElem?_getD,List.getElem?_eq_getElem (by rw[HLEN.out];exact hlt)];exact List.getElem_mem _);omega
    clear hat;generalize (ls.getD k []).length=lx at *;go_wp2;go_round
    case rel=>exact⟨k+1,by omega,by go_num⟩
    case measure=>simp[Go.RowKit.intOf];omega
   obtain rfl:n=k:=by omega
   go_upto_region 8 with fail;have HS:Hid (w.drew.heap[y]? =some (yobj r jr.gen Aj jr.gs.length cj jr.down)):=hid HYO.out;have HJ0:=hid (HJ.out.below (Below.refl w.heap.size w).drew);have HT0:Hid (Turn [y,r,bs,bw] w w.drew):=hid HT.out.drew;have HR0:=hid (HR.out.below (Below.refl w.heap.size w).drew);refine Frm.wh_start (fun u=>u.heap[y]? =some (yobj r jr.gen Aj jr.gs.length cj jr.down)) (by kernel_rfl) ?_;generalize w.drew=u0 at *;have HTK:=hid (rtakes_any u0 n c A ls HR0.out.rowl HTB.out);have HRM:=hid (rroom_any u0 (y::S) r bs bw d HJ0.out.disk (by have:=HJ0.out.n8;omega));unfold ptr at HRM;refine Frm.wa 0 27 (.slice A n c) HS.out ?_;go_frame;refine Frm.wa 2 29 (.pointer (some ⟨y,0,none⟩)) HS.out ?_;go_frame;refine Frm.wb 3 30 (.pointer (some ⟨y,0,none⟩)) HS.out ?_;go_frame;refine Frm.wb 4 31 (.pointer (some ⟨y,0,none⟩)) HS.out ?_;go_frame;refine Frm.wd 5 32 (.pointer (some ⟨r,0,none⟩)) HS.out (fun w' hw'=> ?_) ?_
   ·have h0:=yc0 hw';go_simp
   go_frame;refine Frm.wh_call 1 28 28 #[.slice A n c] rfl rfl (by kernel_rfl) rfl ?_ ?_
   ·go_simp
   refine(HTK.out).mono ?_;rintro e u ⟨rfl,rfl⟩;refine⟨_,rfl,HS.out,?_⟩;go_frame;refine Frm.wh_call 6 33 30 #[.pointer (some ⟨r,0,none⟩)] rfl rfl (by kernel_rfl) rfl ?_ ?_
   ·go_simp
   refine(HRM.out).mono ?_;rintro e u ⟨rfl,rfl⟩;refine⟨_,rfl,HS.out,?_⟩;go_frame;refine Frm.wb 7 34 (.bool true) HS.out ?_;go_frame;refine wpAnyH_done (by kernel_rfl) ?_ _;go_wp2_with fail;go_ret;exact⟨rfl,HJ0.out,HT0.out⟩
 ·exact absurd ⟨hdn,hl,hfit⟩ hnot
 exact absurd ⟨hdn,hl,hfit⟩ hnot
end Go.Proofs.YtdjhlhellkajfaaGreat.Jou
namespace Go.Proofs.YtdjhlhellkajfaaGreat.Jou
open Go.RowKit Codec FrameM Cod JourM
open Disk (Turn Dk Dsk ptr Now upd)
section
variable {ops:Array Oper} {Q:Exit→Act→World→Prop} {md:Region.Mode} {S:World→Prop} {nn fuel:Nat} {listed:Array Bool} {a:Act} {w:World} {oi:Oper}
theorem at_take(i d:Nat)(v:Value)(hi:ops[i]? =some oi)(hd:oi.dst=some d)(hB:(Region.noSelect ops&&Region.free md ops listed i&&(Region.ready md ops listed).contains i)=true)(hin:i<nn)(hn:nn<ops.size)
  (hQ:∀c a w,Q (.panic c) (a.put oi.dst v) w→Q (.panic c) a w) (hw:Region.wanted oi (yielded ops a.tmps)=true) (hS:S w) (hy:∀w,S w→(execOp a.eval oi).run Tryz.prog w= .ok (.value v) w)
  (h:Disk.AtS Tryz.prog md ops Q S nn fuel (listed.setIfInBounds i true) (a.put (some d) v) w):Disk.AtS Tryz.prog md ops Q S nn (fuel+1) listed a w:=by
 simp only[Bool.and_eq_true] at hB;exact Disk.AtS.take hi hB.1.1 hB.1.2 hB.2 hin hn hQ hw hy hS (by rw[hd];exact h)
theorem at_run(i d:Nat)(v:Value)(w':World)(hi:ops[i]? =some oi)(hd:oi.dst=some d)(hr:Region.ready md ops listed=[i])(hin:i<nn)(hw:Region.wanted oi (yielded ops a.tmps)=true)
  (hrun:(execOp a.eval oi).run Tryz.prog w= .ok (.value v) w') (hS:S w') (h:Disk.AtS Tryz.prog md ops Q S nn fuel (listed.setIfInBounds i true) (a.put (some d) v) w'):Disk.AtS Tryz.prog md ops Q S nn (fuel+1) listed a w:=
 AtS.run hi hr hin hw hrun hS (by rw[hd];exact h)
theorem at_appd(i d:Nat)(hi:ops[i]? =some oi)(hd:oi.dst=some d)(hr:Region.ready md ops listed=[i])(hin:i<nn)(hw:Region.wanted oi (yielded ops a.tmps)=true)(s x:Operand)
  (ho:oi.op= .call {callee:= .builtin .append,args:= #[s,x],argTypes:= #[39,39]})
  (base:Nat) (v:Value) (n:Nat) (xs:List UInt8) (hs:a.eval s=v) (hown:Owns w base v n xs) (B:Nat) (A:Option Addr) (m c:Nat) (ys:List UInt8) (hx:a.eval x= .slice A m c) (hy:Byts w B A m ys)
  (k:Nat) (hk:n+m=k) (hn:k≤1000000000) (hbase:base≤w.heap.size)
  (hK:∀A' c' w',Owns w' base (.slice A' k c') k (xs++ys)→w.grownBy w' v.ownBlock→S w'∧Disk.AtS Tryz.prog md ops Q S nn fuel (listed.setIfInBounds i true) (a.put (some d) (.slice A' k c')) w'):Disk.AtS Tryz.prog md ops Q S nn (fuel+1) listed a w:=by
 subst hk;exact at_app hi hr hin hw s x ho base v n xs hs hown B A m c ys hx hy hn hbase (by rw[hd];exact hK)
theorem at_app_ord(i d:Nat)(hi:ops[i]? =some oi)(hd:oi.dst=some d)(hr:Region.ready md ops listed=[i])(hin:i<nn)(hw:Region.wanted oi (yielded ops a.tmps)=true)(s x:Operand)
  (ho:oi.op= .call {callee:= .builtin .append,args:= #[s,x],argTypes:= #[40,40]})
  (base:Nat) (v:Value) (n:Nat) (ls:List (List UInt8)) (hs:a.eval s=v) (h:OR w base v n ls) (bx:Nat) (A1:Option Addr) (k1 c1:Nat) (b:List UInt8) (hx:a.eval x= .slice (some ⟨bx,0,none⟩) 1 1)
  (hbx:w.heap[bx]? =some (.cells #[.slice A1 k1 c1] 39 (0,0))) (hi1:Itm w base (.slice A1 k1 c1) b) (hn:n+1≤1000000) (hlo:base≤w.heap.size)
  (hK:∀A' c' w',OR w' base (.slice A' (n+1) c') (n+1) (ls++[b])→Below base w w'→w.grownBy w' v.ownBlock→S w'∧Disk.AtS Tryz.prog md ops Q S nn fuel (listed.setIfInBounds i true) (a.put (some d) (.slice A' (n+1) c')) w'):Disk.AtS Tryz.prog md ops Q S nn (fuel+1) listed a w:=
 at_app_or hi hr hin hw s x ho base v n ls hs h bx A1 k1 c1 b hx hbx hi1 hn hlo (by rw[hd];exact hK)
end
theorem rreset_do(w:World)(S:List Nat)(y r bs bw:Nat)(d:Dsk)(jr:Jr)(n c:Nat)(A:Option Addr)(ls:List (List UInt8))(h:RJ w S y r bs bw d jr)(hS:∀k∈S,k<w.heap.size)(hr:RowsB w [y,r,bs,bw] A n ls)(hn:n≤1000000)(hg1:jr.gen+1<9223372036854775807)(hdn:jr.down=false)(hl:anyLong ls=false)(hfit:takes ls≤room d.n):
  Calls Tryz.prog 18 #[ptr y,.slice A n c] w (RJNow (if beginB d (jr.gen+1) ls then 0 else 3) w S y r bs bw (beginD d (jr.gen+1) ls) (if beginB d (jr.gen+1) ls then ⟨jr.gen+1,ls,false⟩ else {jr with down:=true})):=by
 have HJ:=hid h;have HR:=hid hr;have hlen:=hr.len;have HLEN:=hid hlen;obtain⟨Aj,cj,hyo,hrows⟩:=h.hd;have HYO:=hid hyo;have h65:=h.disk.ok.2.1;have HN8:=hid h.n8;have hn1:(n:Int)≤1000000:=by omega
 have HSS:Hid (∀k∈y::S,k<w.heap.size):=hid (fun k hk=>by
  rcases List.mem_cons.1 hk with rfl|hk
  ·exact h.ylt
  ·exact hS k hk)
 obtain⟨G,hG⟩:∃G,jr.gen+1=G:=⟨_,rfl⟩
 obtain⟨P,hP⟩:∃P,secAt d.n G 0=P:=⟨_,rfl⟩
 have hr0:0<room d.n:=by have:=h.n8;unfold room;omega
 have HPP:=hid hP;have HP:Hid (P<d.n):=hid (by rw[←hP];exact sec_lt (by have:=h.n8;omega) (by omega));have hwg:IntKind.i64.wrap ((jr.gen:Int)+1)=(G:Int):=by rw[←hG];push_cast;exact IntWalk.i64_in _ (by omega)
 have HGG:Hid (jr.gen+1=G∧G<9223372036854775807):=hid ⟨hG,by omega⟩;rw[hG];have c3:=yc3 hyo;rw[hdn] at c3;have HAL:=hid (anyLong_all hl);have HTB:Hid (takes ls≤1000000000000):=hid (by have:=takes_le ls HAL.out;rw[hlen] at this;omega);have HFIT:=hid hfit;have HR0':Hid (0<room d.n∧room d.n≤65536):=hid ⟨hr0,by unfold room;omega⟩;have hfi:¬(room d.n:Int)<(takes ls:Int):=by omega
 have HT:Hid (Turn [y,r,bs,bw] w w):=hid (Turn.refl _ w);have HMK:Hid (∀v:World,(Instr.makeSlice 39 (.int .i64 64) (.int .i64 64)).run Tryz.prog v= .ok (.slice (some ⟨v.heap.size,0,none⟩) 64 64) (v.alloc (.cells (cel (zeros 64)).toArray 5))):=hid (fun v=>Frm.run_make_bytes v 64 (by omega));obtain⟨rz,hrz⟩:∃rz:Int,(if beginB d G ls then 0 else 3)=rz:=⟨_,rfl⟩
 obtain⟨rj,hrj⟩:∃rj:Jr,(if beginB d G ls then (⟨G,ls,false⟩:Jr) else {jr with down:=true})=rj:=⟨_,rfl⟩
 rw[hrz,hrj];have HZJ:=hid (And.intro hrz hrj);clear h hr hyo hrows hl hlen hfit hg1 hS hG hP hr0 h65 hrz hrj;unfold ptr;go_enter Tryz.func18,Tryz.ntmps18;go_wp2_with fail;go_loop [5] (fun i=>∃k:Nat,k≤n∧i= .int .i64 k) (fun i=>n-(Go.RowKit.intOf i).toNat)
 case atStart=>exact⟨0,by omega,rfl⟩
 case round=>
  obtain⟨k,hk,rfl⟩:=hrel;by_cases hlt:k<n
  ·obtain⟨b,o,Aj1,cj1,hat,hcell⟩:=HR.out.rowl.at hlt;have hidx:=hat c;have hl2:((ls.getD k []).length:Int)≤1048576:=by have:=HAL.out (ls.getD k []) (by rw[List.getD_eq_getElem?_getD,List.getElem?_eq_getElem (by rw[HLEN.out];exact hlt)];exact List.getElem_mem _);omega
   clear hat;generalize (ls.getD k []).length=lx at *;go_wp2;go_round
   case rel=>exact⟨k+1,by omega,by go_num⟩
   case measure=>simp[Go.RowKit.intOf];omega
  obtain rfl:n=k:=by omega
  go_upto_region 8 with fail;have HS:Hid (w.drew.heap[y]? =some (yobj r jr.gen Aj jr.gs.length cj jr.down)):=hid HYO.out;have HJ0:=hid (HJ.out.below (Below.refl w.heap.size w).drew);have HT0:Hid (Turn [y,r,bs,bw] w w.drew):=hid HT.out.drew;have HR0:=hid (HR.out.below (Below.refl w.heap.size w).drew);refine Frm.wh_start (fun u=>u.heap[y]? =some (yobj r jr.gen Aj jr.gs.length cj jr.down)) (by kernel_rfl) ?_;generalize w.drew=u0 at *;have HTK:=hid (rtakes_any u0 n c A ls HR0.out.rowl HTB.out);have HRM:=hid (rroom_any u0 (y::S) r bs bw d HJ0.out.disk (by have:=HJ0.out.n8;omega));unfold ptr at HRM;refine Frm.wa 0 27 (.slice A n c) HS.out ?_;go_frame;refine Frm.wa 2 29 (.pointer (some ⟨y,0,none⟩)) HS.out ?_;go_frame;refine Frm.wb 3 30 (.pointer (some ⟨y,0,none⟩)) HS.out ?_;go_frame;refine Frm.wb 4 31 (.pointer (some ⟨y,0,none⟩)) HS.out ?_;go_frame;refine Frm.wd 5 32 (.pointer (some ⟨r,0,none⟩)) HS.out (fun w' hw'=> ?_) ?_
  ·have h0:=yc0 hw';go_simp
  go_frame;refine Frm.wh_call 1 28 28 #[.slice A n c] rfl rfl (by kernel_rfl) rfl ?_ ?_
  ·go_simp
  refine(HTK.out).mono ?_;rintro e u ⟨rfl,rfl⟩;refine⟨_,rfl,HS.out,?_⟩;go_frame;refine Frm.wh_call 6 33 30 #[.pointer (some ⟨r,0,none⟩)] rfl rfl (by kernel_rfl) rfl ?_ ?_
  ·go_simp
  refine(HRM.out).mono ?_;rintro e u ⟨rfl,rfl⟩;refine⟨_,rfl,HS.out,?_⟩;go_frame;refine Frm.wd 7 34 (.bool false) HS.out (fun w' hw'=> ?_) ?_
  ·have hfi2:=HFIT.out;go_simp
  go_frame;refine wpAnyH_done (by kernel_rfl) ?_ _;have c1:=yc1 HS.out;clear HJ HYO HT HRM HTK;go_wp2_with fail;clear c1 c3 hfi;go_loopw [7,8,9] (fun okv ps i wr=>∃(k:Nat) (dc:Dsk) (okc:Bool),k≤n∧i= .int .i64 k∧ps= .int .i64 (takes (ls.take k))∧okv= .bool okc∧okc=wrsB d P (rL d.n G ls k)∧dc=wrsD d P (rL d.n G ls k)∧RJ wr S y r bs bw dc jr∧Turn [y,r,bs,bw] w wr) (fun _ _ i _=>n-(Go.RowKit.intOf i).toNat)
  case atStart=>exact⟨0,d,true,by omega,rfl,by simp[takes],rfl,by rw[rL_zero];rfl,by rw[rL_zero];rfl,HJ0.out,HT0.out⟩
  case round=>
   obtain⟨k,dc,okc,hk,rfl,rfl,rfl,hok,hdc,hj,ht⟩:=hrel;have HJ:=hid hj;have HT:=hid ht;have HOK:=hid (And.intro hok hdc);have HDC:Hid (dc.n=d.n):=hid (by rw[hdc];exact wrsD_n _ _ _);clear hj ht hok hdc HJ0 HT0 HS HR0;go_upto_region 14 with fail;go_cut [46] (fun v wx=>wr=wx∧∃v':Bool,v= .bool v'∧(v'=true→k<n∧okc=true)∧(v'=false→okc=false∨k=n))
   case first=>
    by_cases hlt:k<n
    ·cases okc with
     |true=>
      go_wp2_with fail;go_meet
      exact⟨rfl,true,rfl,fun _=>⟨hlt,(by first|rfl|trivial)⟩,fun h=>(by cases h)⟩
     |false=>
      go_wp2_with fail;go_meet
      exact⟨rfl,false,rfl,fun h=>(by cases h),fun _=> .inl (by first|rfl|trivial)⟩
    go_wp2_with fail;go_meet
    exact⟨rfl,false,rfl,fun h=>(by cases h),fun _=> .inr (by omega)⟩
   case rest=>
    obtain⟨hwx,v',rfl,hv1,hv2⟩:=hcut;subst hwx;cases v' with
    |true=>
     as_aux_lemma=>
      obtain⟨hlt,rfl⟩:=hv1 rfl;clear hv1 hv2;have hkl:k<ls.length:=by rw[HLEN.out];exact hlt
      have HST:Hid (wOk dc G (takes (ls.take k)) k (ls.getD k []) true (decide (k+1=ls.length))=wrsB d P (rL d.n G ls (k+1))∧wDk dc G (takes (ls.take k)) k (ls.getD k []) true (decide (k+1=ls.length))=wrsD d P (rL d.n G ls (k+1))):=hid (by
       rw[HOK.out.2,←HPP.out];exact rL_wrs hkl (by rw[HPP.out];exact HOK.out.1.symm))
      have hts:=takes_snoc_take ls k hkl;have htk:=takes_take ls (k+1);have HFT:Hid (takes (ls.take k)+takes1 (ls.getD k [])≤room dc.n):=hid (by rw[HDC.out,←hts];exact Nat.le_trans htk HFIT.out);have HLB:Hid ((ls.getD k []).length≤1048576):=hid (HAL.out (ls.getD k []) (by rw[List.getD_eq_getElem?_getD,List.getElem?_eq_getElem hkl];exact List.getElem_mem _));obtain⟨rb,ro,Ak,ck,hat⟩:=(HR.out.turn HT.out (fun q hq=> .inl hq)).at hlt;have hidx:=hat.index c;obtain⟨_,hrc,hbk,_,_,hrbn,hrbl⟩:=hat;have HRB:=hid (And.intro hrbn hrbl);have HWR:=hid (rjwrite_any wr S y r bs bw dc jr G (takes (ls.take k)) k (ls.getD k []).length ck Ak (ls.getD k []) true (decide (k+1=ls.length)) HJ.out (fun q hq=>Nat.lt_of_lt_of_le (HSS.out q (List.mem_cons_of_mem _ hq)) HT.out.size) (hbk.sub (fun q hq=> .inl (List.mem_cons_of_mem _ hq))) HLB.out HFT.out);rw[HST.out.1,HST.out.2] at HWR;obtain⟨la,hla⟩:∃la,decide (k+1=ls.length)=la:=⟨_,rfl⟩
      rw[hla] at HWR;have hlq:((k:Int)==(n:Int)-1)=la:=by
       rw[←hla,HLEN.out];by_cases e:k+1=n
       ·rw[decide_eq_true e];simp;omega
       rw[decide_eq_false e];simp;omega
      have hnd:need (ls.getD k []).length≤16384:=by have:=HLB.out;unfold need;omega
      have HTS:Hid (takes (ls.take (k+1))=takes (ls.take k)+1+need (ls.getD k []).length):=hid (by rw[hts];unfold takes1;omega);have htl:takes (ls.take k)≤65536:=by have:=takes_take ls k;have:=HFIT.out;have:=HR0'.out;omega
      have hw1:IntKind.i64.wrap (((takes (ls.take k):Nat):Int)+1)=((takes (ls.take k):Nat):Int)+1:=IntWalk.i64_in _ (by omega);have hw2:IntKind.i64.wrap (((takes (ls.take k):Nat):Int)+1+(need (ls.getD k []).length:Int))=((takes (ls.take k):Nat):Int)+1+(need (ls.getD k []).length:Int):=IntWalk.i64_in _ (by omega);have hn2:(1:Int)≤n:=by omega
      have HND:=hid (fun u=>Frm.rneed_any ((ls.getD k []).length:Int) u (by have:=HLB.out;unfold in64;omega));rw[needI_nat] at HND;have hrc2:=hid hrc;unfold ptr at HWR;clear hla hts htk hbk hrbn hrbl hnd htl HST HFT HLB hkl;generalize need (ls.getD k []).length=nd at *;generalize (ls.getD k []).length=lx at *;generalize takes (ls.take k)=ps at *;go_wp2_with fail;refine HWR.out.mono ?_;rintro e w1 ⟨rfl,hj1,ht1⟩;have hrc1:w1.cell? ⟨rb,ro,none⟩=some (.slice Ak lx ck):=(World.cell?_of_block (w:=wr) (ht1.block rb HRB.out.2 (fun hm=>HRB.out.1 (List.mem_cons_of_mem _ hm)))).trans hrc2.out;have HJ1:=hid hj1;have HT1:=hid (HT.out.trans (ht1.more (S':=[y,r,bs,bw]) (by simp)));clear hj1 ht1;go_wp2_with fail;refine(HND.out w1).mono ?_;rintro e w2 ⟨rfl,rfl⟩;go_wp2_with fail;go_roundw
      case rel=>exact⟨k+1,_,_,by omega,by go_num,by rw[HTS.out];push_cast;rfl,rfl,rfl,rfl,HJ1.out,HT1.out⟩
      case measure=>simp[Go.RowKit.intOf];omega
    |false=>
     as_aux_lemma=>
      have HX:Hid (0<n→okc=wrsB d P (beginL d.n G ls)∧dc=wrsD d P (beginL d.n G ls)):=hid (fun h0=>by
       rw[←rL_end (by rw[HLEN.out];exact h0),HOK.out.1,HOK.out.2];rcases hv2 rfl with e|e
       ·exact rL_stop (by rw[HLEN.out];exact hk) (by rw[←HOK.out.1];exact e)
       ·rw[e,HLEN.out];exact⟨rfl,rfl⟩)
      obtain⟨Aj,cj,hyo,_⟩:=HJ.out.hd;have HYO:=hid hyo;clear hv1 hv2 hyo;go_upto_if 74 with fail;go_cut [7] (fun v wx=>v= .bool (wrsB d P (beginL d.n G ls))∧RJ wx S y r bs bw (wrsD d P (beginL d.n G ls)) jr∧Turn [y,r,bs,bw] w wx)
      case first=>
       by_cases h0:n=0
       ·as_aux_lemma=>
        have hk0:k=0:=by omega
        subst h0;have hls:ls=[]:=List.eq_nil_of_length_eq_zero HLEN.out;obtain rfl:dc=d:=by rw[HOK.out.2,hk0,rL_zero];rfl
        obtain⟨gb,hgb⟩:∃gb,JourM.go dc=gb:=⟨_,rfl⟩
        have HGB:=hid hgb;have HB19:Hid (wrsB dc P (beginL dc.n G ls)=gb∧wrsD dc P (beginL dc.n G ls)=JourM.wr dc P nul64):=hid (by
         rw[hls,rL_none dc.n G HR0'.out.1];simp[wrsB,wrsD,hgb])
        clear hk0 hls hgb;have hmk:=HMK.out;go_upto_region 19 with fail;have HS:Hid (wr.drew.heap[y]? =some (yobj r jr.gen Aj jr.gs.length cj jr.down)):=hid HYO.out;have HJ0:=hid (HJ.out.below (Below.refl wr.heap.size wr).drew);have HT0:Hid (Turn [y,r,bs,bw] w wr.drew):=hid HT.out.drew;refine Frm.wh_start (fun u=>u.heap[y]? =some (yobj r jr.gen Aj jr.gs.length cj jr.down)) (by kernel_rfl) ?_;generalize wr.drew=u0 at *;refine Frm.wa 0 75 (.pointer (some ⟨y,0,none⟩)) HS.out ?_;go_frame;refine Frm.wb 1 76 (.pointer (some ⟨y,0,none⟩)) HS.out ?_;go_frame;refine Frm.wb 2 77 (.pointer (some ⟨y,0,none⟩)) HS.out ?_;go_frame;refine Frm.wd 3 78 (.pointer (some ⟨r,0,none⟩)) HS.out (fun w' hw'=> ?_) ?_
        ·have h0:=yc0 hw';go_simp
        go_frame;refine Frm.wa 4 79 (.pointer (some ⟨y,0,none⟩)) HS.out ?_;go_frame;refine Frm.wb 5 80 (.pointer (some ⟨y,0,none⟩)) HS.out ?_;go_frame;refine Frm.wb 6 81 (.pointer (some ⟨y,0,none⟩)) HS.out ?_;go_frame;refine Frm.wd 7 82 (.pointer (some ⟨r,0,none⟩)) HS.out (fun w' hw'=> ?_) ?_
        ·have h0:=yc0 hw';go_simp
        go_frame;refine Frm.wa 8 83 (.int .i64 G) HS.out ?_;go_frame;refine Frm.wh_all2 9 10 (by kernel_rfl) ?_ ?_
        ·have HF:=hid (first_any u0 (y::S) r bs bw dc G HJ0.out.disk (by have:=HN8.out;omega));rw[HPP.out] at HF;unfold ptr at HF;refine Frm.wo_call 84 60 #[.pointer (some ⟨r,0,none⟩),.int .i64 G] rfl rfl rfl ?_ ?_
         ·go_simp
         refine HF.out.mono ?_;rintro e u ⟨rfl,rfl⟩;refine⟨_,rfl,HS.out,?_⟩;go_frame;have HS1:Hid ((u0.alloc (.cells (cel (zeros 64)).toArray 5)).heap[y]? =some (yobj r jr.gen Aj jr.gs.length cj jr.down)):=hid ((Below.heap_alloc u0 _ y HJ0.out.ylt).trans HS.out);refine Frm.wh_run 10 85 (.slice (some ⟨u0.heap.size,0,none⟩) 64 64) (u0.alloc (.cells (cel (zeros 64)).toArray 5)) rfl rfl (by kernel_rfl) rfl ?_ HS1.out ?_
         ·have:=hmk u0;go_simp
         go_frame;have HJ1:=hid (HJ0.out.below (Frm.alloc_below u0 (.cells (cel (zeros 64)).toArray 5)));have HT1:=hid (HT0.out.below (Frm.alloc_below u0 (.cells (cel (zeros 64)).toArray 5)));have HX1:Hid (Bts (u0.alloc (.cells (cel (zeros 64)).toArray 5)) [r,bs,bw] (some ⟨u0.heap.size,0,none⟩) 64 nul64):=hid (bts_zero u0 (fun q hq=>HJ0.out.disk.lows q hq));clear HS;have HS:=HS1;clear HS1;generalize u0.alloc (.cells (cel (zeros 64)).toArray 5)=u1 at *;generalize u0.heap.size=bz at *;have HWC:=hid (rwrite_any u1 (y::S) r bs bw dc P 64 (some ⟨bz,0,none⟩) nul64 HJ1.out.disk HP.out HX1.out (fun q hq=>Nat.lt_of_lt_of_le (HSS.out q hq) HT1.out.size));rw[HGB.out] at HWC;unfold ptr at HWC;refine Frm.wh_call 11 86 59 #[.pointer (some ⟨r,0,none⟩),.int .i64 P,.slice (some ⟨bz,0,none⟩) 64 64] rfl rfl (by kernel_rfl) rfl ?_ ?_
         ·go_simp
         refine(HWC.out).mono ?_;rintro e w2 ⟨rfl,hr2,ht2⟩;have HJ2:=hid (HJ1.out.disked hr2 ht2 (wr_n dc P nul64));have HT2:=hid (HT1.out.trans (ht2.more (by simp)));have HS2:=hid ((ht2.block y HJ1.out.ylt (fun hm=>HJ1.out.yout (List.mem_append_left _ hm))).trans HS.out);clear hr2 ht2 HS;have HS:=HS2;clear HS2;refine⟨_,rfl,HS.out,?_⟩;go_frame;refine Frm.wd 12 87 (.bool gb) HS.out (fun w' hw'=> ?_) ?_
         ·have hz:=err_eq gb;go_simp
         go_frame;refine Frm.wa 13 7 (.bool gb) HS.out ?_;go_frame;refine wpAnyH_done (by kernel_rfl) ?_ _;go_wp2_with fail;go_meet
         exact⟨by rw[HB19.out.1],by rw[HB19.out.2];exact HJ2.out,HT2.out⟩
        have HS1:Hid ((u0.alloc (.cells (cel (zeros 64)).toArray 5)).heap[y]? =some (yobj r jr.gen Aj jr.gs.length cj jr.down)):=hid ((Below.heap_alloc u0 _ y HJ0.out.ylt).trans HS.out);refine Frm.wo_run 85 (.slice (some ⟨u0.heap.size,0,none⟩) 64 64) (u0.alloc (.cells (cel (zeros 64)).toArray 5)) rfl rfl rfl ?_ ⟨HS1.out,?_⟩
        ·have:=hmk u0;go_simp
        go_frame;have HJ1:=hid (HJ0.out.below (Frm.alloc_below u0 (.cells (cel (zeros 64)).toArray 5)));have HT1:=hid (HT0.out.below (Frm.alloc_below u0 (.cells (cel (zeros 64)).toArray 5)));have HX1:Hid (Bts (u0.alloc (.cells (cel (zeros 64)).toArray 5)) [r,bs,bw] (some ⟨u0.heap.size,0,none⟩) 64 nul64):=hid (bts_zero u0 (fun q hq=>HJ0.out.disk.lows q hq));clear HS;have HS:=HS1;clear HS1;generalize u0.alloc (.cells (cel (zeros 64)).toArray 5)=u1 at *;generalize u0.heap.size=bz at *;have HWC:=hid (rwrite_any u1 (y::S) r bs bw dc P 64 (some ⟨bz,0,none⟩) nul64 HJ1.out.disk HP.out HX1.out (fun q hq=>Nat.lt_of_lt_of_le (HSS.out q hq) HT1.out.size));rw[HGB.out] at HWC;unfold ptr at HWC;have HF:=hid (first_any u1 (y::S) r bs bw dc G HJ1.out.disk (by have:=HN8.out;omega));rw[HPP.out] at HF;unfold ptr at HF;refine Frm.wh_call 9 84 60 #[.pointer (some ⟨r,0,none⟩),.int .i64 G] rfl rfl (by kernel_rfl) rfl ?_ ?_
        ·go_simp
        refine HF.out.mono ?_;rintro e u ⟨rfl,rfl⟩;refine⟨_,rfl,HS.out,?_⟩;go_frame;refine Frm.wh_call 11 86 59 #[.pointer (some ⟨r,0,none⟩),.int .i64 P,.slice (some ⟨bz,0,none⟩) 64 64] rfl rfl (by kernel_rfl) rfl ?_ ?_
        ·go_simp
        refine(HWC.out).mono ?_;rintro e w2 ⟨rfl,hr2,ht2⟩;have HJ2:=hid (HJ1.out.disked hr2 ht2 (wr_n dc P nul64));have HT2:=hid (HT1.out.trans (ht2.more (by simp)));have HS2:=hid ((ht2.block y HJ1.out.ylt (fun hm=>HJ1.out.yout (List.mem_append_left _ hm))).trans HS.out);clear hr2 ht2 HS;have HS:=HS2;clear HS2;refine⟨_,rfl,HS.out,?_⟩;go_frame;refine Frm.wd 12 87 (.bool gb) HS.out (fun w' hw'=> ?_) ?_
        ·have hz:=err_eq gb;go_simp
        go_frame;refine Frm.wa 13 7 (.bool gb) HS.out ?_;go_frame;refine wpAnyH_done (by kernel_rfl) ?_ _;go_wp2_with fail;go_meet
        exact⟨by rw[HB19.out.1],by rw[HB19.out.2];exact HJ2.out,HT2.out⟩
       have HXX:=hid (HX.out (by omega));have hn3:((n:Int)==0)=false:=by simp;omega
       go_wp2_with fail;go_meet
       exact⟨by rw[HXX.out.1],by rw[←HXX.out.2];exact HJ.out,HT.out⟩
      case rest=>
       obtain⟨rfl,hj1,ht1⟩:=hcut;have HX1:Hid (beginB d G ls=(wrsB d P (beginL d.n G ls)&&JourM.go (wrsD d P (beginL d.n G ls))&&(JourM.go (sy (wrsD d P (beginL d.n G ls)))&&JourM.go (JourM.wr (sy (wrsD d P (beginL d.n G ls))) (G%2) (put (headM G)))))):=hid (by
        unfold beginB keepB keepD;rw[HPP.out];cases hB:wrsB d P (beginL d.n G ls)
        ·simp
        ·simp only[wrsB,wrsD,if_true,Bool.and_true];cases hg:JourM.go (sy (wrsD d P (beginL d.n G ls)))<;>simp)
       have HX2:Hid (beginD d G ls=if wrsB d P (beginL d.n G ls) then (if JourM.go (wrsD d P (beginL d.n G ls)) then (if JourM.go (sy (wrsD d P (beginL d.n G ls))) then sy (JourM.wr (sy (wrsD d P (beginL d.n G ls))) (G%2) (put (headM G))) else JourM.wr (sy (wrsD d P (beginL d.n G ls))) (G%2) (put (headM G))) else sy (wrsD d P (beginL d.n G ls))) else wrsD d P (beginL d.n G ls)):=hid (by
        unfold beginD keepB keepD;rw[HPP.out];cases hB:wrsB d P (beginL d.n G ls)
        ·simp
        ·cases hg0:JourM.go (wrsD d P (beginL d.n G ls))
         ·simp
         ·simp only[wrsB,wrsD,if_true,Bool.and_true];cases hg:JourM.go (sy (wrsD d P (beginL d.n G ls)))<;>simp)
       have HML:Hid ((put (headM G)).length=64):=hid (put_length (headM_right G));have HQB:Hid (bits .and .i64 (G:Int) 1=((G%2:Nat):Int)):=hid (by rw[i64_and1];omega);have HQL:Hid (G%2<(sy (wrsD d P (beginL d.n G ls))).n):=hid (by rw[sy_n,wrsD_n];have:=HN8.out;omega);clear HJ HT HYO HX HOK HDC;obtain⟨Aj,cj,hyo,_⟩:=hj1.hd;have HJ:=hid hj1;have HT:=hid ht1;have HYO:=hid hyo;clear hj1 ht1 hyo;generalize wrsD d P (beginL d.n G ls)=d1 at *;generalize wrsB d P (beginL d.n G ls)=b0 at *;generalize G%2=qq at *;go_upto_region 20 with fail;go_cut [7,118] (fun _ v wx=>∃v':Bool,v= .bool v'∧v'= !(beginB d G ls)∧RJ wx S y r bs bw (beginD d G ls) jr∧Turn [y,r,bs,bw] w wx)
       case first=>
        have HS:Hid (wc.drew.heap[y]? =some (yobj r jr.gen Aj jr.gs.length cj jr.down)):=hid HYO.out;have HJ0:=hid (HJ.out.below (Below.refl wc.heap.size wc).drew);have HT0:Hid (Turn [y,r,bs,bw] w wc.drew):=hid HT.out.drew;refine Frm.wh_start (fun u=>u.heap[y]? =some (yobj r jr.gen Aj jr.gs.length cj jr.down)) (by kernel_rfl) ?_;generalize wc.drew=u0 at *;have HSY:=hid (rsync_any u0 (y::S) r bs bw d1 HJ0.out.disk);unfold ptr at HSY;cases hB0:b0 with
        |false=>
         as_aux_lemma=>
          clear HSY;refine Frm.wa 0 88 (.bool false) HS.out ?_;go_frame;refine Frm.wb 1 89 (.bool true) HS.out ?_;go_frame;refine Frm.wa 2 90 (.bool true) HS.out ?_;go_frame;refine Frm.wq 3 91 HS.out ?_;go_frame;refine Frm.wq 4 92 HS.out ?_;go_frame;refine Frm.wq 5 93 HS.out ?_;go_frame;refine Frm.wq 6 94 HS.out ?_;go_frame;refine Frm.wq 7 95 HS.out ?_;go_frame;refine Frm.wq 8 96 HS.out ?_;go_frame;refine Frm.wb 9 97 (.bool true) HS.out ?_;go_frame;refine Frm.wa 10 98 (.bool true) HS.out ?_;go_frame;refine Frm.wq 11 99 HS.out ?_;go_frame;refine Frm.wq 12 100 HS.out ?_;go_frame;refine Frm.wq 13 101 HS.out ?_;go_frame;refine Frm.wq 14 102 HS.out ?_;go_frame;refine Frm.wq 15 103 HS.out ?_;go_frame;refine Frm.wq 16 104 HS.out ?_;go_frame;refine Frm.wq 17 105 HS.out ?_;go_frame;refine Frm.wq 18 106 HS.out ?_;go_frame;refine Frm.wq 19 107 HS.out ?_;go_frame;refine Frm.wq 20 108 HS.out ?_;go_frame;refine Frm.wq 21 109 HS.out ?_;go_frame;refine Frm.wb 22 110 (.bool true) HS.out ?_;go_frame;refine Frm.wa 23 111 (.bool true) HS.out ?_;go_frame;refine Frm.wq 24 112 HS.out ?_;go_frame;refine Frm.wq 25 113 HS.out ?_;go_frame;refine Frm.wq 26 114 HS.out ?_;go_frame;refine Frm.wq 27 115 HS.out ?_;go_frame;refine Frm.wq 28 116 HS.out ?_;go_frame;refine Frm.wq 29 117 HS.out ?_;go_frame;refine Frm.wb 30 118 (.bool true) HS.out ?_;go_frame;refine wpAnyH_done (by kernel_rfl) ?_ _;go_wp2_with fail;go_meet
          exact⟨true,rfl,by rw[HX1.out];simp[hB0],by rw[HX2.out];simpa [hB0] using HJ0.out,HT0.out⟩
        |true=>
         cases hG1:JourM.go d1 with
         |false=>
          as_aux_lemma=>
           rw[hG1] at HSY;refine Frm.wa 0 88 (.bool true) HS.out ?_;go_frame;refine Frm.wb 1 89 (.bool false) HS.out ?_;go_frame;refine Frm.wa 2 90 (.bool false) HS.out ?_;go_frame;refine Frm.wa 3 91 (.pointer (some ⟨y,0,none⟩)) HS.out ?_;go_frame;refine Frm.wb 4 92 (.pointer (some ⟨y,0,none⟩)) HS.out ?_;go_frame;refine Frm.wb 5 93 (.pointer (some ⟨y,0,none⟩)) HS.out ?_;go_frame;refine Frm.wd 6 94 (.pointer (some ⟨r,0,none⟩)) HS.out (fun w' hw'=> ?_) ?_
           ·have h0:=yc0 hw';go_simp
           go_frame;refine Frm.wh_call 7 95 61 #[.pointer (some ⟨r,0,none⟩)] rfl rfl (by kernel_rfl) rfl ?_ ?_
           ·go_simp
           refine(HSY.out).mono ?_;rintro e w2 ⟨rfl,hr2,ht2⟩;have HJ2:=hid (HJ0.out.disked hr2 ht2 (sy_n d1));have HT2:=hid (HT0.out.trans (ht2.more (by simp)));have HS2:=hid ((ht2.block y HJ0.out.ylt (fun hm=>HJ0.out.yout (List.mem_append_left _ hm))).trans HS.out);clear hr2 ht2 HS;have HS:=HS2;clear HS2;refine⟨_,rfl,HS.out,?_⟩;go_frame;refine Frm.wd 8 96 (.bool true) HS.out (fun w' hw'=> ?_) ?_
           ·have hz1:=err_true;have hz2:=err_false;go_simp
           go_frame;refine Frm.wb 9 97 (.bool true) HS.out ?_;go_frame;refine Frm.wa 10 98 (.bool true) HS.out ?_;go_frame;refine Frm.wq 11 99 HS.out ?_;go_frame;refine Frm.wq 12 100 HS.out ?_;go_frame;refine Frm.wq 13 101 HS.out ?_;go_frame;refine Frm.wq 14 102 HS.out ?_;go_frame;refine Frm.wq 15 103 HS.out ?_;go_frame;refine Frm.wq 16 104 HS.out ?_;go_frame;refine Frm.wq 17 105 HS.out ?_;go_frame;refine Frm.wq 18 106 HS.out ?_;go_frame;refine Frm.wq 19 107 HS.out ?_;go_frame;refine Frm.wq 20 108 HS.out ?_;go_frame;refine Frm.wq 21 109 HS.out ?_;go_frame;refine Frm.wb 22 110 (.bool true) HS.out ?_;go_frame;refine Frm.wa 23 111 (.bool true) HS.out ?_;go_frame;refine Frm.wq 24 112 HS.out ?_;go_frame;refine Frm.wq 25 113 HS.out ?_;go_frame;refine Frm.wq 26 114 HS.out ?_;go_frame;refine Frm.wq 27 115 HS.out ?_;go_frame;refine Frm.wq 28 116 HS.out ?_;go_frame;refine Frm.wq 29 117 HS.out ?_;go_frame;refine Frm.wb 30 118 (.bool true) HS.out ?_;go_frame;refine wpAnyH_done (by kernel_rfl) ?_ _;go_wp2_with fail;go_meet
           exact⟨true,rfl,by rw[HX1.out];simp[hB0,hG1],by rw[HX2.out];simpa [hB0,hG1] using HJ2.out,HT2.out⟩
         |true=>
          rw[hG1] at HSY;cases hG2:JourM.go (sy d1) with
          |false=>
           as_aux_lemma=>
            refine Frm.wa 0 88 (.bool true) HS.out ?_;go_frame;refine Frm.wb 1 89 (.bool false) HS.out ?_;go_frame;refine Frm.wa 2 90 (.bool false) HS.out ?_;go_frame;refine Frm.wa 3 91 (.pointer (some ⟨y,0,none⟩)) HS.out ?_;go_frame;refine Frm.wb 4 92 (.pointer (some ⟨y,0,none⟩)) HS.out ?_;go_frame;refine Frm.wb 5 93 (.pointer (some ⟨y,0,none⟩)) HS.out ?_;go_frame;refine Frm.wd 6 94 (.pointer (some ⟨r,0,none⟩)) HS.out (fun w' hw'=> ?_) ?_
            ·have h0:=yc0 hw';go_simp
            go_frame;refine Frm.wh_call 7 95 61 #[.pointer (some ⟨r,0,none⟩)] rfl rfl (by kernel_rfl) rfl ?_ ?_
            ·go_simp
            refine(HSY.out).mono ?_;rintro e w2 ⟨rfl,hr2,ht2⟩;have HJ2:=hid (HJ0.out.disked hr2 ht2 (sy_n d1));have HT2:=hid (HT0.out.trans (ht2.more (by simp)));have HS2:=hid ((ht2.block y HJ0.out.ylt (fun hm=>HJ0.out.yout (List.mem_append_left _ hm))).trans HS.out);clear hr2 ht2 HS;have HS:=HS2;clear HS2;refine⟨_,rfl,HS.out,?_⟩;go_frame;refine Frm.wd 8 96 (.bool false) HS.out (fun w' hw'=> ?_) ?_
            ·have hz1:=err_true;have hz2:=err_false;go_simp
            go_frame;refine Frm.wb 9 97 (.bool false) HS.out ?_;go_frame;refine Frm.wa 10 98 (.bool false) HS.out ?_;go_frame;refine Frm.wa 11 99 (.pointer (some ⟨y,0,none⟩)) HS.out ?_;go_frame;refine Frm.wb 12 100 (.pointer (some ⟨y,0,none⟩)) HS.out ?_;go_frame;refine Frm.wb 13 101 (.pointer (some ⟨y,0,none⟩)) HS.out ?_;go_frame;refine Frm.wd 14 102 (.pointer (some ⟨r,0,none⟩)) HS.out (fun w' hw'=> ?_) ?_
            ·have h0:=yc0 hw';go_simp
            go_frame;refine Frm.wa 15 103 (.int .i64 G) HS.out ?_;go_frame;refine Frm.wd 16 104 (.int .i64 qq) HS.out (fun w' hw'=> ?_) ?_
            ·have hz:=HQB.out;go_simp
            go_frame;refine Frm.wa 17 105 (.int .i64 G) HS.out ?_;go_frame;refine Frm.wb 18 106 (.agg #[.int .i64 1,.int .i64 G,.int .i64 0,.int .i64 0]) HS.out ?_;go_frame;refine Frm.wh_call 19 107 62 #[.agg #[.int .i64 1,.int .i64 G,.int .i64 0,.int .i64 0]] rfl rfl (by kernel_rfl) rfl ?_ ?_
            ·go_simp
            refine(Frm.rput_any (headM G) w2).mono ?_;rintro e w4 ⟨A4,c4,rfl,hy4,hb4,hc4,hm4,ha4⟩;rw[HML.out] at hy4 hc4 ⊢;have HS4:=hid ((hb4.block y HJ2.out.ylt).trans HS.out);clear HS;have HS:=HS4;clear HS4;have HJ4:=hid (HJ2.out.below hb4);have HT4:=hid (HT2.out.below hb4);have HX4:Hid (Bts w4 [r,bs,bw] A4 64 (put (headM G))):=hid (Bts.above hy4 ha4 (fun q hq=>HJ2.out.disk.lows q hq));have HWC:=hid (rwrite_any w4 (y::S) r bs bw (sy d1) qq c4 A4 (put (headM G)) HJ4.out.disk HQL.out HX4.out (fun q hq=>Nat.lt_of_lt_of_le (HSS.out q hq) HT4.out.size));rw[hG2] at HWC;unfold ptr at HWC;clear hy4 hb4 hc4 hm4 ha4;refine⟨_,rfl,HS.out,?_⟩;go_frame;refine Frm.wh_call 20 108 59 #[.pointer (some ⟨r,0,none⟩),.int .i64 qq,.slice A4 64 c4] rfl rfl (by kernel_rfl) rfl ?_ ?_
            ·go_simp
            refine(HWC.out).mono ?_;rintro e w5 ⟨rfl,hr5,ht5⟩;have HJ5:=hid (HJ4.out.disked hr5 ht5 (wr_n (sy d1) qq _));have HT5:=hid (HT4.out.trans (ht5.more (by simp)));have HS5:=hid ((ht5.block y HJ4.out.ylt (fun hm=>HJ4.out.yout (List.mem_append_left _ hm))).trans HS.out);clear hr5 ht5 HS;have HS:=HS5;clear HS5;refine⟨_,rfl,HS.out,?_⟩;go_frame;refine Frm.wd 21 109 (.bool true) HS.out (fun w' hw'=> ?_) ?_
            ·have hz1:=err_true;have hz2:=err_false;go_simp
            go_frame;refine Frm.wb 22 110 (.bool true) HS.out ?_;go_frame;refine Frm.wa 23 111 (.bool true) HS.out ?_;go_frame;refine Frm.wq 24 112 HS.out ?_;go_frame;refine Frm.wq 25 113 HS.out ?_;go_frame;refine Frm.wq 26 114 HS.out ?_;go_frame;refine Frm.wq 27 115 HS.out ?_;go_frame;refine Frm.wq 28 116 HS.out ?_;go_frame;refine Frm.wq 29 117 HS.out ?_;go_frame;refine Frm.wb 30 118 (.bool true) HS.out ?_;go_frame;refine wpAnyH_done (by kernel_rfl) ?_ _;go_wp2_with fail;go_meet
            exact⟨true,rfl,by rw[HX1.out];simp[hB0,hG1,hG2],by rw[HX2.out];simpa [hB0,hG1,hG2] using HJ5.out,HT5.out⟩
          |true=>
           cases hG3:JourM.go (JourM.wr (sy d1) qq (put (headM G))) with
           |false=>
            as_aux_lemma=>
             refine Frm.wa 0 88 (.bool true) HS.out ?_;go_frame;refine Frm.wb 1 89 (.bool false) HS.out ?_;go_frame;refine Frm.wa 2 90 (.bool false) HS.out ?_;go_frame;refine Frm.wa 3 91 (.pointer (some ⟨y,0,none⟩)) HS.out ?_;go_frame;refine Frm.wb 4 92 (.pointer (some ⟨y,0,none⟩)) HS.out ?_;go_frame;refine Frm.wb 5 93 (.pointer (some ⟨y,0,none⟩)) HS.out ?_;go_frame;refine Frm.wd 6 94 (.pointer (some ⟨r,0,none⟩)) HS.out (fun w' hw'=> ?_) ?_
             ·have h0:=yc0 hw';go_simp
             go_frame;refine Frm.wh_call 7 95 61 #[.pointer (some ⟨r,0,none⟩)] rfl rfl (by kernel_rfl) rfl ?_ ?_
             ·go_simp
             refine(HSY.out).mono ?_;rintro e w2 ⟨rfl,hr2,ht2⟩;have HJ2:=hid (HJ0.out.disked hr2 ht2 (sy_n d1));have HT2:=hid (HT0.out.trans (ht2.more (by simp)));have HS2:=hid ((ht2.block y HJ0.out.ylt (fun hm=>HJ0.out.yout (List.mem_append_left _ hm))).trans HS.out);clear hr2 ht2 HS;have HS:=HS2;clear HS2;refine⟨_,rfl,HS.out,?_⟩;go_frame;refine Frm.wd 8 96 (.bool false) HS.out (fun w' hw'=> ?_) ?_
             ·have hz1:=err_true;have hz2:=err_false;go_simp
             go_frame;refine Frm.wb 9 97 (.bool false) HS.out ?_;go_frame;refine Frm.wa 10 98 (.bool false) HS.out ?_;go_frame;refine Frm.wa 11 99 (.pointer (some ⟨y,0,none⟩)) HS.out ?_;go_frame;refine Frm.wb 12 100 (.pointer (some ⟨y,0,none⟩)) HS.out ?_;go_frame;refine Frm.wb 13 101 (.pointer (some ⟨y,0,none⟩)) HS.out ?_;go_frame;refine Frm.wd 14 102 (.pointer (some ⟨r,0,none⟩)) HS.out (fun w' hw'=> ?_) ?_
             ·have h0:=yc0 hw';go_simp
             go_frame;refine Frm.wa 15 103 (.int .i64 G) HS.out ?_;go_frame;refine Frm.wd 16 104 (.int .i64 qq) HS.out (fun w' hw'=> ?_) ?_
             ·have hz:=HQB.out;go_simp
             go_frame;refine Frm.wa 17 105 (.int .i64 G) HS.out ?_;go_frame;refine Frm.wb 18 106 (.agg #[.int .i64 1,.int .i64 G,.int .i64 0,.int .i64 0]) HS.out ?_;go_frame;refine Frm.wh_call 19 107 62 #[.agg #[.int .i64 1,.int .i64 G,.int .i64 0,.int .i64 0]] rfl rfl (by kernel_rfl) rfl ?_ ?_
             ·go_simp
             refine(Frm.rput_any (headM G) w2).mono ?_;rintro e w4 ⟨A4,c4,rfl,hy4,hb4,hc4,hm4,ha4⟩;rw[HML.out] at hy4 hc4 ⊢;have HS4:=hid ((hb4.block y HJ2.out.ylt).trans HS.out);clear HS;have HS:=HS4;clear HS4;have HJ4:=hid (HJ2.out.below hb4);have HT4:=hid (HT2.out.below hb4);have HX4:Hid (Bts w4 [r,bs,bw] A4 64 (put (headM G))):=hid (Bts.above hy4 ha4 (fun q hq=>HJ2.out.disk.lows q hq));have HWC:=hid (rwrite_any w4 (y::S) r bs bw (sy d1) qq c4 A4 (put (headM G)) HJ4.out.disk HQL.out HX4.out (fun q hq=>Nat.lt_of_lt_of_le (HSS.out q hq) HT4.out.size));rw[hG2] at HWC;unfold ptr at HWC;clear hy4 hb4 hc4 hm4 ha4;refine⟨_,rfl,HS.out,?_⟩;go_frame;refine Frm.wh_call 20 108 59 #[.pointer (some ⟨r,0,none⟩),.int .i64 qq,.slice A4 64 c4] rfl rfl (by kernel_rfl) rfl ?_ ?_
             ·go_simp
             refine(HWC.out).mono ?_;rintro e w5 ⟨rfl,hr5,ht5⟩;have HJ5:=hid (HJ4.out.disked hr5 ht5 (wr_n (sy d1) qq _));have HT5:=hid (HT4.out.trans (ht5.more (by simp)));have HS5:=hid ((ht5.block y HJ4.out.ylt (fun hm=>HJ4.out.yout (List.mem_append_left _ hm))).trans HS.out);clear hr5 ht5 HS;have HS:=HS5;clear HS5;have HSZ:=hid (rsync_any w5 (y::S) r bs bw (JourM.wr (sy d1) qq (put (headM G))) HJ5.out.disk);rw[hG3] at HSZ;unfold ptr at HSZ;refine⟨_,rfl,HS.out,?_⟩;go_frame;refine Frm.wd 21 109 (.bool false) HS.out (fun w' hw'=> ?_) ?_
             ·have hz1:=err_true;have hz2:=err_false;go_simp
             go_frame;refine Frm.wb 22 110 (.bool false) HS.out ?_;go_frame;refine Frm.wa 23 111 (.bool false) HS.out ?_;go_frame;refine Frm.wa 24 112 (.pointer (some ⟨y,0,none⟩)) HS.out ?_;go_frame;refine Frm.wb 25 113 (.pointer (some ⟨y,0,none⟩)) HS.out ?_;go_frame;refine Frm.wb 26 114 (.pointer (some ⟨y,0,none⟩)) HS.out ?_;go_frame;refine Frm.wd 27 115 (.pointer (some ⟨r,0,none⟩)) HS.out (fun w' hw'=> ?_) ?_
             ·have h0:=yc0 hw';go_simp
             go_frame;refine Frm.wh_call 28 116 61 #[.pointer (some ⟨r,0,none⟩)] rfl rfl (by kernel_rfl) rfl ?_ ?_
             ·go_simp
             refine(HSZ.out).mono ?_;rintro e w6 ⟨rfl,hr6,ht6⟩;have HJ6:=hid (HJ5.out.disked hr6 ht6 (sy_n _));have HT6:=hid (HT5.out.trans (ht6.more (by simp)));have HS6:=hid ((ht6.block y HJ5.out.ylt (fun hm=>HJ5.out.yout (List.mem_append_left _ hm))).trans HS.out);clear hr6 ht6 HS;have HS:=HS6;clear HS6;refine⟨_,rfl,HS.out,?_⟩;go_frame;refine Frm.wd 29 117 (.bool true) HS.out (fun w' hw'=> ?_) ?_
             ·have hz1:=err_true;have hz2:=err_false;go_simp
             go_frame;refine Frm.wb 30 118 (.bool true) HS.out ?_;go_frame;refine wpAnyH_done (by kernel_rfl) ?_ _;go_wp2_with fail;go_meet
             exact⟨true,rfl,by rw[HX1.out];simp[hB0,hG1,hG2,hG3],by rw[HX2.out];simpa [hB0,hG1,hG2] using HJ6.out,HT6.out⟩
           |true=>
            as_aux_lemma=>
             refine Frm.wa 0 88 (.bool true) HS.out ?_;go_frame;refine Frm.wb 1 89 (.bool false) HS.out ?_;go_frame;refine Frm.wa 2 90 (.bool false) HS.out ?_;go_frame;refine Frm.wa 3 91 (.pointer (some ⟨y,0,none⟩)) HS.out ?_;go_frame;refine Frm.wb 4 92 (.pointer (some ⟨y,0,none⟩)) HS.out ?_;go_frame;refine Frm.wb 5 93 (.pointer (some ⟨y,0,none⟩)) HS.out ?_;go_frame;refine Frm.wd 6 94 (.pointer (some ⟨r,0,none⟩)) HS.out (fun w' hw'=> ?_) ?_
             ·have h0:=yc0 hw';go_simp
             go_frame;refine Frm.wh_call 7 95 61 #[.pointer (some ⟨r,0,none⟩)] rfl rfl (by kernel_rfl) rfl ?_ ?_
             ·go_simp
             refine(HSY.out).mono ?_;rintro e w2 ⟨rfl,hr2,ht2⟩;have HJ2:=hid (HJ0.out.disked hr2 ht2 (sy_n d1));have HT2:=hid (HT0.out.trans (ht2.more (by simp)));have HS2:=hid ((ht2.block y HJ0.out.ylt (fun hm=>HJ0.out.yout (List.mem_append_left _ hm))).trans HS.out);clear hr2 ht2 HS;have HS:=HS2;clear HS2;refine⟨_,rfl,HS.out,?_⟩;go_frame;refine Frm.wd 8 96 (.bool false) HS.out (fun w' hw'=> ?_) ?_
             ·have hz1:=err_true;have hz2:=err_false;go_simp
             go_frame;refine Frm.wb 9 97 (.bool false) HS.out ?_;go_frame;refine Frm.wa 10 98 (.bool false) HS.out ?_;go_frame;refine Frm.wa 11 99 (.pointer (some ⟨y,0,none⟩)) HS.out ?_;go_frame;refine Frm.wb 12 100 (.pointer (some ⟨y,0,none⟩)) HS.out ?_;go_frame;refine Frm.wb 13 101 (.pointer (some ⟨y,0,none⟩)) HS.out ?_;go_frame;refine Frm.wd 14 102 (.pointer (some ⟨r,0,none⟩)) HS.out (fun w' hw'=> ?_) ?_
             ·have h0:=yc0 hw';go_simp
             go_frame;refine Frm.wa 15 103 (.int .i64 G) HS.out ?_;go_frame;refine Frm.wd 16 104 (.int .i64 qq) HS.out (fun w' hw'=> ?_) ?_
             ·have hz:=HQB.out;go_simp
             go_frame;refine Frm.wa 17 105 (.int .i64 G) HS.out ?_;go_frame;refine Frm.wb 18 106 (.agg #[.int .i64 1,.int .i64 G,.int .i64 0,.int .i64 0]) HS.out ?_;go_frame;refine Frm.wh_call 19 107 62 #[.agg #[.int .i64 1,.int .i64 G,.int .i64 0,.int .i64 0]] rfl rfl (by kernel_rfl) rfl ?_ ?_
             ·go_simp
             refine(Frm.rput_any (headM G) w2).mono ?_;rintro e w4 ⟨A4,c4,rfl,hy4,hb4,hc4,hm4,ha4⟩;rw[HML.out] at hy4 hc4 ⊢;have HS4:=hid ((hb4.block y HJ2.out.ylt).trans HS.out);clear HS;have HS:=HS4;clear HS4;have HJ4:=hid (HJ2.out.below hb4);have HT4:=hid (HT2.out.below hb4);have HX4:Hid (Bts w4 [r,bs,bw] A4 64 (put (headM G))):=hid (Bts.above hy4 ha4 (fun q hq=>HJ2.out.disk.lows q hq));have HWC:=hid (rwrite_any w4 (y::S) r bs bw (sy d1) qq c4 A4 (put (headM G)) HJ4.out.disk HQL.out HX4.out (fun q hq=>Nat.lt_of_lt_of_le (HSS.out q hq) HT4.out.size));rw[hG2] at HWC;unfold ptr at HWC;clear hy4 hb4 hc4 hm4 ha4;refine⟨_,rfl,HS.out,?_⟩;go_frame;refine Frm.wh_call 20 108 59 #[.pointer (some ⟨r,0,none⟩),.int .i64 qq,.slice A4 64 c4] rfl rfl (by kernel_rfl) rfl ?_ ?_
             ·go_simp
             refine(HWC.out).mono ?_;rintro e w5 ⟨rfl,hr5,ht5⟩;have HJ5:=hid (HJ4.out.disked hr5 ht5 (wr_n (sy d1) qq _));have HT5:=hid (HT4.out.trans (ht5.more (by simp)));have HS5:=hid ((ht5.block y HJ4.out.ylt (fun hm=>HJ4.out.yout (List.mem_append_left _ hm))).trans HS.out);clear hr5 ht5 HS;have HS:=HS5;clear HS5;have HSZ:=hid (rsync_any w5 (y::S) r bs bw (JourM.wr (sy d1) qq (put (headM G))) HJ5.out.disk);rw[hG3] at HSZ;unfold ptr at HSZ;refine⟨_,rfl,HS.out,?_⟩;go_frame;refine Frm.wd 21 109 (.bool false) HS.out (fun w' hw'=> ?_) ?_
             ·have hz1:=err_true;have hz2:=err_false;go_simp
             go_frame;refine Frm.wb 22 110 (.bool false) HS.out ?_;go_frame;refine Frm.wa 23 111 (.bool false) HS.out ?_;go_frame;refine Frm.wa 24 112 (.pointer (some ⟨y,0,none⟩)) HS.out ?_;go_frame;refine Frm.wb 25 113 (.pointer (some ⟨y,0,none⟩)) HS.out ?_;go_frame;refine Frm.wb 26 114 (.pointer (some ⟨y,0,none⟩)) HS.out ?_;go_frame;refine Frm.wd 27 115 (.pointer (some ⟨r,0,none⟩)) HS.out (fun w' hw'=> ?_) ?_
             ·have h0:=yc0 hw';go_simp
             go_frame;refine Frm.wh_call 28 116 61 #[.pointer (some ⟨r,0,none⟩)] rfl rfl (by kernel_rfl) rfl ?_ ?_
             ·go_simp
             refine(HSZ.out).mono ?_;rintro e w6 ⟨rfl,hr6,ht6⟩;have HJ6:=hid (HJ5.out.disked hr6 ht6 (sy_n _));have HT6:=hid (HT5.out.trans (ht6.more (by simp)));have HS6:=hid ((ht6.block y HJ5.out.ylt (fun hm=>HJ5.out.yout (List.mem_append_left _ hm))).trans HS.out);clear hr6 ht6 HS;have HS:=HS6;clear HS6;refine⟨_,rfl,HS.out,?_⟩;go_frame;refine Frm.wd 29 117 (.bool false) HS.out (fun w' hw'=> ?_) ?_
             ·have hz1:=err_true;have hz2:=err_false;go_simp
             go_frame;refine Frm.wb 30 118 (.bool false) HS.out ?_;go_frame;refine wpAnyH_done (by kernel_rfl) ?_ _;go_wp2_with fail;go_meet
             exact⟨false,rfl,by rw[HX1.out];simp[hB0,hG1,hG2,hG3],by rw[HX2.out];simpa [hB0,hG1,hG2] using HJ6.out,HT6.out⟩
       case rest=>
        obtain⟨v',rfl,hv,hj,ht⟩:=hcut;clear HX1 HX2 HJ HYO HT;cases hbb:beginB d G ls with
        |false=>
         as_aux_lemma=>
          rw[hbb] at hv HZJ;subst hv;obtain⟨Aj2,cj2,hyo2,_⟩:=hj.hd;have c3:=yc3 hyo2;have f3:wc.frozen? ⟨y,3,none⟩=false:=free_at hyo2 3;have HF:=hid hj.fell;have HTT:=hid ht;clear hj ht hyo2 hbb;go_wp2_with fail;go_ret;exact⟨by rw[←HZJ.out.1];rfl,by rw[←HZJ.out.2];exact HF.out.1,HTT.out.trans HF.out.2⟩
        |true=>
         as_aux_lemma=>
          rw[hbb] at hv HZJ;subst hv;obtain⟨Aj2,cj2,hyo2,_⟩:=hj.hd;rw[hdn] at hyo2;have f1:wc.frozen? ⟨y,1,none⟩=false:=free_at hyo2 1;have k1:=yc1 hyo2;have k2:(wc.setCell ⟨y,1,none⟩ (.int .i64 G)).cell? ⟨y,2,none⟩=some (.slice Aj2 jr.gs.length cj2):=cell_at (set_at hyo2 1 (.int .i64 G)) 2;have f2:(wc.setCell ⟨y,1,none⟩ (.int .i64 G)).frozen? ⟨y,2,none⟩=false:=free_at (set_at hyo2 1 (.int .i64 G)) 2;have HY3:Hid (((wc.setCell ⟨y,1,none⟩ (.int .i64 G)).setCell ⟨y,2,none⟩ (.slice none 0 0)).heap[y]? =some (yobj r G none 0 0 false)):=hid (set_at (set_at hyo2 1 (.int .i64 G)) 2 (.slice none 0 0));have HT3:Hid (Turn [y] wc ((wc.setCell ⟨y,1,none⟩ (.int .i64 G)).setCell ⟨y,2,none⟩ (.slice none 0 0))):=hid (((Turn.refl [y] wc).setCell (.inl (by simp)) _).setCell (.inl (by simp)) _);have HRK:Hid (Rk ((wc.setCell ⟨y,1,none⟩ (.int .i64 G)).setCell ⟨y,2,none⟩ (.slice none 0 0)) (y::S) r bs bw (beginD d G ls)):=hid (hj.disk.turn HT3.out (fun q hq=> .inl (by simp at hq;simp[hq])));have HTT:Hid (Turn [y,r,bs,bw] w ((wc.setCell ⟨y,1,none⟩ (.int .i64 G)).setCell ⟨y,2,none⟩ (.slice none 0 0))):=hid (ht.trans (HT3.out.more (by simp)));have HYO:Hid (y∉[r,bs,bw]++S):=hid hj.yout;have HYW:Hid (y<((wc.setCell ⟨y,1,none⟩ (.int .i64 G)).setCell ⟨y,2,none⟩ (.slice none 0 0)).heap.size):=hid (Nat.lt_of_lt_of_le (HSS.out y (by simp)) HTT.out.size);have HR3:Hid (RowsB ((wc.setCell ⟨y,1,none⟩ (.int .i64 G)).setCell ⟨y,2,none⟩ (.slice none 0 0)) [y,r,bs,bw] A n ls):=hid (HR.out.turn HTT.out (fun q hq=> .inl hq));have HLO3:Hid (∀q∈[y,r,bs,bw]++S,q<((wc.setCell ⟨y,1,none⟩ (.int .i64 G)).setCell ⟨y,2,none⟩ (.slice none 0 0)).heap.size):=hid (fun q hq=>by
           rcases List.mem_append.1 hq with e|e
           ·exact Nat.lt_of_lt_of_le (hj.lows q e) HT3.out.size
           ·exact Nat.lt_of_lt_of_le (HSS.out q (List.mem_cons_of_mem _ e)) HTT.out.size)
          clear hj ht hyo2 hbb;go_wp2_with fail;clear f1 f2 k1 k2 HT3;generalize ((wc.setCell ⟨y,1,none⟩ (.int .i64 G)).setCell ⟨y,2,none⟩ (.slice none 0 0))=w3 at *;go_loopw [10] (fun i wr=>∃(k:Nat) (A8:Option Addr) (c8:Nat),k≤n∧i= .int .i64 k∧LSt w3 wr y r G ls k A8 c8) (fun i _=>n-(Go.RowKit.intOf i).toNat)
          case atStart=>exact⟨0,none,0,by omega,rfl,HY3.out,OR.nil,Turn.refl _ _⟩
          case round=>
           clear HY3;obtain⟨k,A8,c8,hk,rfl,hl1,hl2,hl3⟩:=hrel;have HL1:=hid hl1;have HL2:=hid hl2;have HL3:=hid hl3;clear hl1 hl2 hl3;by_cases hlt:k<n
           ·have HKL:Hid (k<ls.length):=hid (by rw[HLEN.out];exact hlt);have HLX:Hid ((ls.getD k []).length≤1048576):=hid (HAL.out (ls.getD k []) (by rw[List.getD_eq_getElem?_getD,List.getElem?_eq_getElem HKL.out];exact List.getElem_mem _));obtain⟨rb,ro,Ak,ck,hat⟩:=HR3.out.at hlt;have hidx:=hat.index c;obtain⟨_,hrc,hbk,_,_,hrbn,hrbl⟩:=hat;generalize (ls.getD k []).length=lx at *;go_upto_region 28 with fail;have HYL:Hid (y<w3.heap.size∧rb<w3.heap.size):=hid ⟨HYW.out,hrbl⟩;have HBY:=hid hbk;have HSZ:Hid (w3.heap.size≤wr.drew.heap.size):=hid HL3.out.size;have HT0:Hid (Turn [y] w3 wr.drew):=hid HL3.out.drew;have HO0:Hid (OR wr.drew w3.heap.size (.slice A8 k c8) k (ls.take k)):=hid (HL2.out.below (Below.refl wr.heap.size wr).drew);have HS:Hid (wr.drew.heap[y]? =some (yobj r G A8 k c8 false)∧wr.drew.cell? ⟨rb,ro,none⟩=some (.slice Ak lx ck)):=hid ⟨HL1.out,(World.cell?_of_block (w:=w3) (HL3.out.block rb hrbl (fun hm=>hrbn (by simp at hm;simp[hm])))).trans hrc⟩;clear hrc hbk hrbn hrbl HL1 HL2 HL3;clear HZJ HR3 HLO3 HRK HTT HYO HAL HR HSS HN8 HFIT HGG HPP HP;refine Disk.AtS.start (by kernel_rfl) 15 (fun u=>u.heap[y]? =some (yobj r G A8 k c8 false)∧u.cell? ⟨rb,ro,none⟩=some (.slice Ak lx ck)) (by kernel_rfl) (by kernel_rfl) ?_;generalize wr.drew=u0 at *;have hyu:y<u0.heap.size:=by have:=HYL.out.1;have:=HSZ.out;omega
            have hru:rb<u0.heap.size:=by have:=HYL.out.2;have:=HSZ.out;omega
            have HU:=hid (And.intro hyu hru);clear hyu hru;refine at_take 0 135 (.pointer (some ⟨y,0,none⟩)) rfl rfl (by kernel_rfl) (by decide) (by decide) (fun _ _ _ h=>h) rfl (HS.out) (fun w' hw'=> ?_) ?_
            ·exact rfl
            go_frame;refine at_take 1 136 (.pointer (some ⟨y,0,none⟩)) rfl rfl (by kernel_rfl) (by decide) (by decide) (fun _ _ _ h=>h) rfl (HS.out) (fun w' hw'=> ?_) ?_
            ·exact rfl
            go_frame;refine at_take 2 137 (.pointer (some ⟨y,0,none⟩)) rfl rfl (by kernel_rfl) (by decide) (by decide) (fun _ _ _ h=>h) rfl (HS.out) (fun w' hw'=> ?_) ?_
            ·go_simp
            go_frame;refine at_take 3 138 (.pointer (some ⟨y,2,none⟩)) rfl rfl (by kernel_rfl) (by decide) (by decide) (fun _ _ _ h=>h) rfl (HS.out) (fun w' hw'=> ?_) ?_
            ·go_simp
            go_frame;refine at_take 4 139 (.slice A8 k c8) rfl rfl (by kernel_rfl) (by decide) (by decide) (fun _ _ _ h=>h) rfl (HS.out) (fun w' hw'=> ?_) ?_
            ·have h2:=yc2 hw'.1;go_simp
            go_frame;refine at_take 6 141 (.slice A n c) rfl rfl (by kernel_rfl) (by decide) (by decide) (fun _ _ _ h=>h) rfl (HS.out) (fun w' hw'=> ?_) ?_
            ·go_simp
            go_frame;refine at_take 7 142 (.int .i64 k) rfl rfl (by kernel_rfl) (by decide) (by decide) (fun _ _ _ h=>h) rfl (HS.out) (fun w' hw'=> ?_) ?_
            ·go_simp
            go_frame;refine at_take 8 143 (.pointer (some ⟨rb,ro,none⟩)) rfl rfl (by kernel_rfl) (by decide) (by decide) (fun _ _ _ h=>h) rfl (HS.out) (fun w' hw'=> ?_) ?_
            ·go_simp
            go_frame;refine at_take 9 144 (.slice Ak lx ck) rfl rfl (by kernel_rfl) (by decide) (by decide) (fun _ _ _ h=>h) rfl (HS.out) (fun w' hw'=> ?_) ?_
            ·have h2:=hw'.2;go_simp
            go_frame;have HB1:Hid (Below u0.heap.size u0 (u0.alloc (.cells #[] 5))):=hid (Frm.alloc_below u0 _);have HS1:Hid ((u0.alloc (.cells #[] 5)).heap[y]? =some (yobj r G A8 k c8 false)∧(u0.alloc (.cells #[] 5)).cell? ⟨rb,ro,none⟩=some (.slice Ak lx ck)):=hid ⟨(HB1.out.block y HU.out.1).trans HS.out.1,(World.cell?_of_block (w:=u0) (HB1.out.block rb HU.out.2)).trans HS.out.2⟩;refine at_run 5 140 (.slice (some ⟨u0.heap.size,0,none⟩) 0 0) (u0.alloc (.cells #[] 5)) rfl rfl (by kernel_rfl) (by decide) rfl ?_ ?_ ?_
            ·go_simp
            ·exact HS1.out
            go_frame;have HO1:Hid (Owns (u0.alloc (.cells #[] 5)) u0.heap.size (.slice (some ⟨u0.heap.size,0,none⟩) 0 0) 0 []):=hid (World.ownsRow_made u0 #[] 0 (Nat.le_refl _) (Nat.zero_le _) rfl);have HBK1:Hid (Byts (u0.alloc (.cells #[] 5)) (u0.alloc (.cells #[] 5)).heap.size Ak lx (ls.getD k [])):=hid (HBY.out.turn (HT0.out.below HB1.out) (fun q hq=> .inl (by simp at hq;simp[hq]))).byts;generalize (u0.alloc (.cells #[] 5))=u1 at *;refine at_appd 10 145 rfl rfl (by kernel_rfl) (by decide) rfl (.tmp 140) (.tmp 144) rfl u0.heap.size (.slice (some ⟨u0.heap.size,0,none⟩) 0 0) 0 [] rfl HO1.out u1.heap.size Ak lx ck (ls.getD k []) rfl HBK1.out lx (Nat.zero_add _) (by have:=HLX.out;omega) HB1.out.size ?_;intro A7 c7 w7 ho7 hg7;rw[List.nil_append] at ho7;have HB7:Hid (Below u0.heap.size u0 w7):=hid (HB1.out.trans (own_below HO1.out HB1.out.size hg7));have HS7:Hid (w7.heap[y]? =some (yobj r G A8 k c8 false)∧w7.cell? ⟨rb,ro,none⟩=some (.slice Ak lx ck)):=hid ⟨(HB7.out.block y HU.out.1).trans HS.out.1,(World.cell?_of_block (w:=u0) (HB7.out.block rb HU.out.2)).trans HS.out.2⟩;have HI7:Hid (Itm w7 w3.heap.size (.slice A7 lx c7) (ls.getD k [])):=hid (by
             obtain⟨A',c',e,g1,g2⟩:=ho7.form;injection e with _ _ e3;subst e3;exact itm_of (bts_own (S:=[]) ho7 (by simp)).byts g1 g2 (fun p hp=>Nat.le_trans HSZ.out (own_above ho7 p hp)) (Frm.own_u8 ho7))
            clear ho7 hg7 HO1 HBK1 HS1;refine⟨HS7.out,?_⟩;go_frame;have HB8:Hid (Below u0.heap.size u0 (w7.alloc (.cells #[.slice A7 lx c7] 39))):=hid (HB7.out.alloc HB7.out.size _);have HS8:Hid ((w7.alloc (.cells #[.slice A7 lx c7] 39)).heap[y]? =some (yobj r G A8 k c8 false)∧(w7.alloc (.cells #[.slice A7 lx c7] 39)).cell? ⟨rb,ro,none⟩=some (.slice Ak lx ck)):=hid ⟨(HB8.out.block y HU.out.1).trans HS.out.1,(World.cell?_of_block (w:=u0) (HB8.out.block rb HU.out.2)).trans HS.out.2⟩;refine at_run 11 146 (.slice (some ⟨w7.heap.size,0,none⟩) 1 1) (w7.alloc (.cells #[.slice A7 lx c7] 39)) rfl rfl (by kernel_rfl) (by decide) rfl ?_ ?_ ?_
            ·go_simp
            ·exact HS8.out
            go_frame;have HX8:Hid ((w7.alloc (.cells #[.slice A7 lx c7] 39)).heap[w7.heap.size]? =some (.cells #[.slice A7 lx c7] 39 (0,0))):=hid (heap_alloc_new w7 _);have HI8:Hid (Itm (w7.alloc (.cells #[.slice A7 lx c7] 39)) w3.heap.size (.slice A7 lx c7) (ls.getD k [])):=hid (HI7.out.below (Frm.alloc_below w7 _));have HO8:Hid (OR (w7.alloc (.cells #[.slice A7 lx c7] 39)) w3.heap.size (.slice A8 k c8) k (ls.take k)):=hid (HO0.out.below HB8.out);have HT8:Hid (Turn [y] w3 (w7.alloc (.cells #[.slice A7 lx c7] 39))):=hid (HT0.out.below HB8.out);clear HS7 HI7 HB7 HB8 HB1;generalize (w7.alloc (.cells #[.slice A7 lx c7] 39))=w8 at *;generalize w7.heap.size=bx at *;refine at_app_ord 12 147 rfl rfl (by kernel_rfl) (by decide) rfl (.tmp 139) (.tmp 146) rfl w3.heap.size (.slice A8 k c8) k (ls.take k) rfl HO8.out bx A7 lx c7 (ls.getD k []) rfl HX8.out HI8.out (by omega) HT8.out.size ?_;intro A9 c9 w9 ho9 hb9 hg9;have HS9:Hid (w9.heap[y]? =some (yobj r G A8 k c8 false)∧w9.cell? ⟨rb,ro,none⟩=some (.slice Ak lx ck)):=hid ⟨(hb9.block y HYL.out.1).trans HS8.out.1,(World.cell?_of_block (w:=w8) (hb9.block rb HYL.out.2)).trans HS8.out.2⟩;have HT9:Hid (Turn [y] w3 w9):=hid (HT8.out.grown hg9 (fun q hq=> .inr (by
             obtain⟨vs,h0,_⟩:=HO8.out;exact(own_type h0 hq).1)))
            have HL9:=hid (LSt.step HS9.out.1 ho9 HT9.out HKL.out HYL.out.1);clear ho9 hb9 hg9 HS8 HO8 HI8 HX8 HT8 HT9;refine⟨HS9.out,?_⟩;go_frame;refine at_take 13 148 (.pointer (some ⟨y,0,none⟩)) rfl rfl (by kernel_rfl) (by decide) (by decide) (fun _ _ _ h=>h) rfl (HS9.out) (fun w' hw'=> ?_) ?_
            ·go_simp
            go_frame;refine at_take 14 149 (.pointer (some ⟨y,2,none⟩)) rfl rfl (by kernel_rfl) (by decide) (by decide) (fun _ _ _ h=>h) rfl (HS9.out) (fun w' hw'=> ?_) ?_
            ·go_simp
            go_frame;have c9':=yc2 HS9.out.1;have f9:w9.frozen? ⟨y,2,none⟩=false:=free_at HS9.out.1 2;refine Disk.AtS.last (i:=15) (w':=w9.setCell ⟨y,2,none⟩ (.slice A9 (k+1) c9)) rfl (by kernel_rfl) (by kernel_rfl) (by decide) rfl ?_ ?_
            ·go_simp
            go_frame;clear c9' f9 HS9;generalize w9.setCell ⟨y,2,none⟩ (.slice A9 (k+1) c9)=wz at *;go_wp2_with fail;go_roundw
            case rel=>exact⟨k+1,A9,c9,by omega,by go_num,HL9.out⟩
            case measure=>simp[Go.RowKit.intOf];omega
           obtain rfl:n=k:=by omega
           have HFIN:Hid (RJ wr S y r bs bw (beginD d G ls) ⟨G,ls,false⟩):=hid (by
            have e:ls.take n=ls:=by rw[←HLEN.out,List.take_length]
            have hrr:=HL2.out.rows (S:=[y,r,bs,bw]++S) HLO3.out;rw[e] at hrr;refine⟨HRK.out.turn HL3.out (fun q hq=> .inl (by simp at hq;simp[hq])),⟨A8,c8,?_,?_⟩,HYO.out,by rw[beginD_n];exact HN8.out,by rw[beginD_n];exact HFIT.out⟩
            ·have:=HL1.out;show wr.heap[y]? =some (yobj r G A8 ls.length c8 false);rw[HLEN.out];exact this
            ·show RowsB wr ([y,r,bs,bw]++S) A8 ls.length ls;rw[HLEN.out];exact hrr)
           have HTE:Hid (Turn [y,r,bs,bw] w wr):=hid (HTT.out.trans (HL3.out.more (by simp)));go_wp2_with fail;go_ret;exact⟨by rw[←HZJ.out.1];rfl,by rw[←HZJ.out.2];exact HFIN.out,HTE.out⟩
end Go.Proofs.YtdjhlhellkajfaaGreat.Jou
namespace Go.Proofs.YtdjhlhellkajfaaGreat.Jou
open Go.RowKit Codec FrameM Cod JourM
open Disk (Turn Dk Dsk ptr Now upd)
theorem rreset_any(w:World)(S:List Nat)(y r bs bw:Nat)(d:Dsk)(jr:Jr)(n c:Nat)(A:Option Addr)(ls:List (List UInt8))(h:RJ w S y r bs bw d jr)(hS:∀k∈S,k<w.heap.size)(hr:RowsB w [y,r,bs,bw] A n ls)(hn:n≤1000000)(hg1:jr.gen+1<9223372036854775807):
  Calls Tryz.prog 18 #[ptr y,.slice A n c] w (RJNow (rstE d jr ls) w S y r bs bw (rstD d jr ls) (rstJ d jr ls)):=by
 cases hdo:rstDo d jr ls with
 |false=>exact rreset_no w S y r bs bw d jr n c A ls h hr hn hdo
 |true=>
  have hdo2:=hdo;simp only[rstDo,Bool.and_eq_true,Bool.not_eq_true',decide_eq_true_eq] at hdo2;obtain⟨h1,h2,h3⟩:=hdo2;have e1:rstE d jr ls=if beginB d (jr.gen+1) ls then 0 else 3:=by
   unfold rstE;rw[h1,h2,if_neg (by simp),if_neg (by simp),if_neg (by omega)]
  have e2:rstD d jr ls=beginD d (jr.gen+1) ls:=by unfold rstD;rw[hdo];rfl
  have e3:rstJ d jr ls=if beginB d (jr.gen+1) ls then ⟨jr.gen+1,ls,false⟩ else {jr with down:=true}:=by unfold rstJ;rw[hdo];rfl
  rw[e1,e2,e3];exact rreset_do w S y r bs bw d jr n c A ls h hS hr hn hg1 h1 h2 h3
end Go.Proofs.YtdjhlhellkajfaaGreat.Jou
