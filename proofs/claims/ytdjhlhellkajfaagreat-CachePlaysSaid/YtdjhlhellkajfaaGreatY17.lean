/-
  Texts FChunk, FPack, in one file. What each proves, and its conditions, stand at its head below.
-/
import Derived.Test.YtdjhlhellkajfaaGreatY15
import Derived.Test.YtdjhlhellkajfaaGreatY16
import Derived.RangeFuncNested
import Derived.RangeFuncBound
import Derived.RangeFuncBox
import Derived.RangeFuncCalls
import Derived.RangeFuncLeaves
import Derived.Shelf.Abstract
import Derived.Shelf.RegionOpen
import Derived.WalkKit
import Derived.OwnWalkIn
import Derived.TacticsInMore
import Derived.LoopNIn
import Derived.LoopIn
set_option maxRecDepth 100000
set_option maxHeartbeats 4000000
open Go.Lib (hid)
namespace Go.Proofs.YtdjhlhellkajfaaGreat.Frm
open Go.RowKit Codec FrameM Cod Go.Shelf
attribute [local go_sem] Oper.semAt_some
theorem chunk_in(F:Fence)(m:Nat)(h27:F.fn 154)(hro:F.round=none)(A:Option Addr)(n c:Nat)(w:World):
  CallsIn F m Tryz.prog 154 #[.slice A n c,.int .i64 64] w fun e w'=>e= .returned (.func (.func 174) #[] #[.pointer (some ⟨w.heap.size,0,none⟩),.pointer (some ⟨w.heap.size+1,0,none⟩)])∧
   w'=(w.alloc (.cells #[.slice A n c] 39)).alloc (.cells #[.int .i64 64] 3):=by
 refine callsIn_of_wp Tryz.func154 rfl h27 ?_ hro;simp only[Tryz.ntmps154,List.size_toArray,List.length_cons,List.length_nil,Nat.reduceAdd,Nat.reduceSub,Array.replicate_succ,Array.replicate_zero,List.push_toArray,List.append_toArray,List.nil_append,List.cons_append];gi_wp2
 go_ret;exact⟨rfl,rfl⟩
def wide (n i:Nat):Nat:=min 64 (n-64 * i)
def chunkV (A:Option Addr) (n i:Nat):Value:= .slice (cutAt A (64 * i) (64 * i+wide n i)) (wide n i) (wide n i)
def Boxes (bs bn:Nat) (W W':World):Prop:=W'.heap[bs]? =W.heap[bs]? ∧W'.heap[bn]? =W.heap[bn]?
theorem Boxes.t{bs bn:Nat}{A B C:World}(h:Boxes bs bn A B)(k:Boxes bs bn B C):Boxes bs bn A C:=⟨k.1.trans h.1,k.2.trans h.2⟩
theorem fin_next(N k:Nat)(h:k<N):(List.finRange N).take k++[(⟨k,h⟩:Fin N)]=(List.finRange N).take (k+1):=by
 rw[List.take_succ_eq_append_getElem (by simpa using h)];simp
theorem chunk1_in(m:Nat)(l bs bn n c:Nat)(A:Option Addr)(hn:n≤1048576)(hc:n≤c)(J Jx:List (Fin (need n))→World→Prop)
  (hY:∀pre x W,J pre W→pre.length<need n→YieldAt Fence.wide (m-1) Tryz.prog l #[chunkV A n x.1] W fun e W'=>
   (e= .returned (.bool true)∧J (pre++[x]) W'∧Boxes bs bn W W')∨(e= .returned (.bool false)∧Jx (pre++[x]) W'))
  (W:World) (hJ:AbidesFrom W.heap.size J) (hbs:W.heap[bs]? =some (.cells #[.slice A n c] 39 (0,0))) (hbn:W.heap[bn]? =some (.cells #[.int .i64 64] 3 (0,0))) (h0:J [] W):
  CallsIn Fence.wide m Tryz.prog 174 #[.func (.yield l) #[] #[],.pointer (some ⟨bs,0,none⟩),.pointer (some ⟨bn,0,none⟩)] W fun e W'=>(∃v,e= .returned v)∧
   ((∃ys,ys=List.finRange (need n)∧J ys W')∨(∃pre,True∧Jx pre W')):=by
 refine callsIn_of_wp Tryz.func174 rfl trivial ?_ rfl;simp only[Tryz.ntmps174,List.size_toArray,List.length_cons,List.length_nil,Nat.reduceAdd,Nat.reduceSub,Array.replicate_succ,Array.replicate_zero,List.push_toArray,List.append_toArray,List.nil_append,List.cons_append];gi_wp2
 gi_loopw [4] (fun i wr=>∃k:Nat,k≤need n∧i= .int .i64 (64 * k:Nat)∧J ((List.finRange (need n)).take k) wr∧Boxes bs bn W wr) (fun i _=>n+64-(intOf i).toNat)
 case atStart=>exact⟨0,Nat.zero_le _,rfl,by simpa using h0,⟨rfl,rfl⟩⟩
 case round=>
  obtain⟨k,hk,rfl,hJs,hbx⟩:=hrel;have b0:wr.cell? ⟨bs,0,none⟩=some (.slice A n c):=cell_at (hbx.1.trans hbs) 0;have b1:wr.cell? ⟨bn,0,none⟩=some (.int .i64 64):=cell_at (hbx.2.trans hbn) 0;by_cases hlt:k<need n
  ·have hkn:64 * k<n:=by unfold need at hlt;omega
   obtain⟨fn,tmps,assign,body,hy,hR⟩:=hY _ ⟨k,hlt⟩ wr.drew (hJ _ wr wr.drew none hJs ⟨rfl,rfl,rfl,Nat.le_refl _,fun _ _ _=>rfl⟩ (fun r e=>by cases e)) (by simp;omega);rw[fin_next (need n) k hlt] at hR;have hwd:(n-64 * k≤64∧wide n k=n-64 * k)∨(64<n-64 * k∧wide n k=64):=by unfold wide;omega
   have hs1:∀v,(Instr.slice 39 (.slice A n c) (some (.int .i64 ((64 * k:Nat):Int))) none none).run Tryz.prog v= .ok (.slice (cutAt A (64 * k) c) (n-64 * k) (c-64 * k)) v:=fun v=>cut_l v A n c (64 * k) (by omega);have hs2:∀v (e:Nat),e≤n-64 * k→(Instr.slice 39 (.slice A n c) (some (.int .i64 ((64 * k:Nat):Int))) (some (.int .i64 (((64 * k:Nat):Int)+e))) (some (.int .i64 (((64 * k:Nat):Int)+e)))).run Tryz.prog v= .ok (.slice (cutAt A (64 * k) (64 * k+e)) e e) v:=fun v e he=>by
    have:=cut_lhm v A n c (64 * k) (64 * k+e) (64 * k+e) (by omega) (Nat.le_refl _) (by omega);rw[show((64 * k+e:Nat):Int)=((64 * k:Nat):Int)+e by omega,show 64 * k+e-64 * k=e by omega] at this;exact this
   unfold chunkV at hy;dsimp only at hy;have hkN:Hid (k<need n):=hid hlt;have hp0:(((64 * (k+1):Nat)):Int)=((64 * k:Nat):Int)+64:=by omega
   have HP0:=hid hp0;have hmeas:64 * (k+1)=64 * k+64:=by omega
   have HME:=hid hmeas;clear hp0 hmeas hlt;generalize cutAt A (64 * k) c=A9 at *;generalize 64 * k=p at *;obtain⟨R,hR'⟩:∃R,n-p=R:=⟨_,rfl⟩
   rw[hR'] at hs1 hs2 hwd;have HNP:=hid hR';have hpn:(p:Int)<n:=by omega
   have hRn:R≤n:=by omega
   clear hR';rcases hwd with⟨h64,hw⟩|⟨h64,hw⟩
   ·rw[hw] at hy;have hs3:=fun v=>hs2 v R (Nat.le_refl _);clear hs2;gi_wp2
    have HS:Hid (wr.drew.cell? ⟨bs,0,none⟩=some (.slice A n c)∧wr.drew.cell? ⟨bn,0,none⟩=some (.int .i64 64)):=hid ⟨(cell_drew _ _).trans b0,(cell_drew _ _).trans b1⟩;clear b0 b1;refine wpIn_wide.2 ?_;refine wh_start (fun w'=>w'.cell? ⟨bs,0,none⟩=some (.slice A n c)∧w'.cell? ⟨bn,0,none⟩=some (.int .i64 64)) (by kernel_rfl) ?_;refine wh_take 0 13 (.int .i64 64) rfl rfl (by kernel_rfl) (fun _ _ _ h=>h) rfl HS.out (fun w' hw'=> ?_) ?_
    ·obtain⟨h0,h1⟩:=hw';go_simp
    go_frame;refine wh_take 1 14 (.slice A n c) rfl rfl (by kernel_rfl) (fun _ _ _ h=>h) rfl HS.out (fun w' hw'=> ?_) ?_
    ·obtain⟨h0,h1⟩:=hw';go_simp
    go_frame;refine wh_take 2 15 (.int .i64 p) rfl rfl (by kernel_rfl) (fun _ _ _ h=>h) rfl HS.out (fun w' hw'=> ?_) ?_
    ·exact rfl
    go_frame;refine wh_take 3 16 (.slice A9 R (c-p)) rfl rfl (by kernel_rfl) (fun _ _ _ h=>h) rfl HS.out (fun w' hw'=> ?_) ?_
    ·go_simp
    go_frame;refine wh_take 4 17 (.int .i64 R) rfl rfl (by kernel_rfl) (fun _ _ _ h=>h) rfl HS.out (fun w' hw'=> ?_) ?_
    ·go_simp
    go_frame;refine wh_take 5 18 (.int .i64 R) rfl rfl (by kernel_rfl) (fun _ _ _ h=>h) rfl HS.out (fun w' hw'=> ?_) ?_
    ·go_simp;intro h9;omega
    go_frame;refine wh_take 6 5 (.int .i64 R) rfl rfl (by kernel_rfl) (fun _ _ _ h=>h) rfl HS.out (fun w' hw'=> ?_) ?_
    ·exact rfl
    go_frame;refine wpAnyH_done (by kernel_rfl) ?_ _;have b0:=HS.out.1;have b1:=HS.out.2;gi_wp2
    refine⟨(fun h=>by cases h),?_⟩;refine hR.mono ?_;rintro e W3 (⟨rfl,hJ3,hk3⟩|⟨rfl,hJx3⟩)
    ·have hbx3:Boxes bs bn W W3:=hbx.t hk3;have b2:W3.cell? ⟨bs,0,none⟩=some (.slice A n c):=cell_at (hbx3.1.trans hbs) 0;have b3:W3.cell? ⟨bn,0,none⟩=some (.int .i64 64):=cell_at (hbx3.2.trans hbn) 0;gi_wp2
     go_roundw
     case rel=>exact⟨k+1,hkN.out,by rw[HP0.out],hJ3,hbx3⟩
     case measure=>
      have h9:=HME.out;simp[intOf];omega
    gi_wp2
    refine bodyPost_ret (results_none rfl _ _ _) rfl ?_;exact⟨⟨_,rfl⟩,.inr ⟨_,trivial,hJx3⟩⟩
   rw[hw] at hy;have hs3:∀v,(Instr.slice 39 (.slice A n c) (some (.int .i64 (p:Int))) (some (.int .i64 ((p:Int)+64))) (some (.int .i64 ((p:Int)+64)))).run Tryz.prog v= .ok (.slice (cutAt A p (p+64)) 64 64) v:=fun v=>hs2 v 64 (by omega);clear hs2;gi_wp2
   have HS:Hid (wr.drew.cell? ⟨bs,0,none⟩=some (.slice A n c)∧wr.drew.cell? ⟨bn,0,none⟩=some (.int .i64 64)):=hid ⟨(cell_drew _ _).trans b0,(cell_drew _ _).trans b1⟩;clear b0 b1;refine wpIn_wide.2 ?_;refine wh_start (fun w'=>w'.cell? ⟨bs,0,none⟩=some (.slice A n c)∧w'.cell? ⟨bn,0,none⟩=some (.int .i64 64)) (by kernel_rfl) ?_;refine wh_take 0 13 (.int .i64 64) rfl rfl (by kernel_rfl) (fun _ _ _ h=>h) rfl HS.out (fun w' hw'=> ?_) ?_
   ·obtain⟨h0,h1⟩:=hw';go_simp
   go_frame;refine wh_take 1 14 (.slice A n c) rfl rfl (by kernel_rfl) (fun _ _ _ h=>h) rfl HS.out (fun w' hw'=> ?_) ?_
   ·obtain⟨h0,h1⟩:=hw';go_simp
   go_frame;refine wh_take 2 15 (.int .i64 p) rfl rfl (by kernel_rfl) (fun _ _ _ h=>h) rfl HS.out (fun w' hw'=> ?_) ?_
   ·exact rfl
   go_frame;refine wh_take 3 16 (.slice A9 R (c-p)) rfl rfl (by kernel_rfl) (fun _ _ _ h=>h) rfl HS.out (fun w' hw'=> ?_) ?_
   ·go_simp
   go_frame;refine wh_take 4 17 (.int .i64 R) rfl rfl (by kernel_rfl) (fun _ _ _ h=>h) rfl HS.out (fun w' hw'=> ?_) ?_
   ·go_simp
   go_frame;refine wh_take 5 18 (.int .i64 64) rfl rfl (by kernel_rfl) (fun _ _ _ h=>h) rfl HS.out (fun w' hw'=> ?_) ?_
   ·go_simp;intro h9;omega
   go_frame;refine wh_take 6 5 (.int .i64 64) rfl rfl (by kernel_rfl) (fun _ _ _ h=>h) rfl HS.out (fun w' hw'=> ?_) ?_
   ·exact rfl
   go_frame;refine wpAnyH_done (by kernel_rfl) ?_ _;have b0:=HS.out.1;have b1:=HS.out.2;gi_wp2
   refine⟨(fun h=>by cases h),?_⟩;refine hR.mono ?_;rintro e W3 (⟨rfl,hJ3,hk3⟩|⟨rfl,hJx3⟩)
   ·have hbx3:Boxes bs bn W W3:=hbx.t hk3;have b2:W3.cell? ⟨bs,0,none⟩=some (.slice A n c):=cell_at (hbx3.1.trans hbs) 0;have b3:W3.cell? ⟨bn,0,none⟩=some (.int .i64 64):=cell_at (hbx3.2.trans hbn) 0;gi_wp2
    go_roundw
    case rel=>exact⟨k+1,hkN.out,by rw[HP0.out],hJ3,hbx3⟩
    case measure=>
     have h9:=HME.out;simp[intOf];omega
   gi_wp2
   refine bodyPost_ret (results_none rfl _ _ _) rfl ?_;exact⟨⟨_,rfl⟩,.inr ⟨_,trivial,hJx3⟩⟩
  obtain rfl:k=need n:=by omega
  have hkn:n≤64 * need n:=by unfold need;omega
  generalize 64 * need n=p at *;gi_wp2
  go_end0;refine⟨⟨_,rfl⟩,.inl ⟨_,rfl,?_⟩⟩;rwa [List.take_of_length_le (by simp)] at hJs
theorem chunk_stops(m bs bn n c:Nat)(A:Option Addr)(hn:n≤1048576)(hc:n≤c)(w:World)(hbs:w.heap[bs]? =some (.cells #[.slice A n c] 39 (0,0)))(hbn:w.heap[bn]? =some (.cells #[.int .i64 64] 3 (0,0))):
  SeqStopsK Fence.wide m Tryz.prog 174 #[.pointer (some ⟨bs,0,none⟩),.pointer (some ⟨bn,0,none⟩)] (fun x:Fin (need n)=> #[chunkV A n x.1]) (Boxes bs bn) (fun ys=>ys=List.finRange (need n)) (fun _=>True) (need n) w:=
 fun l J Jx W hW hJ _ hY h0=>chunk1_in m l bs bn n c A hn hc J Jx hY W hJ ((hW.block bs (lt_of_heap hbs)).trans hbs) ((hW.block bn (lt_of_heap hbn)).trans hbn) h0
end Go.Proofs.YtdjhlhellkajfaaGreat.Frm
namespace Go.Proofs.YtdjhlhellkajfaaGreat.Frm
open Go.RowKit Codec FrameM Cod Go.Shelf
attribute [local go_sem] Oper.semAt_some
def room (K:Nat):Array Value:=madeCells (Value.cells (.slice none 0 0)) K
theorem run_make34(w:World)(K:Nat)(hK:K≤1000000):(Instr.makeSlice 40 (.int .i64 0) (.int .i64 K)).run Tryz.prog w= .ok (.slice (some ⟨w.heap.size,0,none⟩) 0 K) (w.alloc (.cells (room K) 39)):=by
 obtain⟨i0,hi,hz0,hz1,hz2⟩:=info_parts info24;have:=run_make (P:=Tryz.prog) w 40 39 i0 _ Tryz.underlying40 hi hz0 .i64 .i64 0 K (by omega) (by omega) (by rw[hz2];omega) (by omega);rw[hz1] at this;simpa [room] using this
theorem pk_room(w:World)(lo K:Nat)(hlo:lo≤w.heap.size)(hK:K≤1000000):Pk (w.alloc (.cells (room K) 39)) lo (.slice (some ⟨w.heap.size,0,none⟩) 0 K) 0 []:=
 ⟨[],World.ownsRow_made w (room K) K hlo (by unfold maxLen;omega) (by simp[room,madeCells,Value.cells]),rfl,rfl,fun j hj=>absurd hj (by omega)⟩
structure Col (w W u:World) (bl bs bn:Nat) (A:Option Addr) (n c:Nat) (v:Value) (k:Nat) (ls:List (List UInt8)):Prop where
 box:Boxed u bl 40 v
 pk:Pk u w.heap.size v k ls
 ap:v.ownBlock≠some bs
 b1:u.heap[bs]? =some (.cells #[.slice A n c] 39 (0,0))
 b2:u.heap[bn]? =some (.cells #[.int .i64 64] 3 (0,0))
 lo:w.heap.size≤bl
 below:Below w.heap.size w u
 keeps:KeepsOthers W u
section
variable {w W u u':World} {bl bs bn n c k:Nat} {A:Option Addr} {v:Value} {ls:List (List UInt8)}
theorem Col.alloc(h:Col w W u bl bs bn A n c v k ls)(o:Obj):Col w W (u.alloc o) bl bs bn A n c v k ls:=
 ⟨h.box.alloc o,h.pk.alloc o,h.ap,(Below.heap_alloc u o _ (lt_of_heap h.b1)).trans h.b1,(Below.heap_alloc u o _ (lt_of_heap h.b2)).trans h.b2,h.lo,h.below.alloc h.below.size o,h.keeps.trans (KeepsOthers.alloc u o)⟩
theorem Col.call(h:Col w W u bl bs bn A n c v k ls)(hb:Below u.heap.size u u'):Col w W u' bl bs bn A n c v k ls:=
 ⟨(hb.block bl h.box.lt).trans h.box,h.pk.below hb,h.ap,(hb.block bs (lt_of_heap h.b1)).trans h.b1,(hb.block bn (lt_of_heap h.b2)).trans h.b2,h.lo,h.below.trans (hb.mono h.below.size),
  h.keeps.trans ⟨hb.size,fun k _ hk _=>(hb.block k (lt_of_heap hk)).trans hk⟩⟩
theorem Col.turn(h:Col w u u bl bs bn A n c v k ls){row:Option Nat}(hg:u.grownBy u' row)(hlo:∀r,row=some r→w.heap.size≤r)(hrow:∀r,row=some r→∃o:Obj,u.heap[r]? =some o∧o.isCells=false):Col w u' u' bl bs bn A n c v k ls:=by
 have ne:∀{b:Nat} {cs:Array Value} {T:TypeId} {fr:Nat×Nat},u.heap[b]? =some (.cells cs T fr)→some b≠row:=fun hb e=>by
  obtain⟨o,ho,hc⟩:=hrow _ e.symm;rw[hb] at ho;cases ho
  cases hc
 exact⟨h.box.kept hg (ne h.box),h.pk.kept hg (fun r e cs T hcs=>absurd e.symm (ne hcs)),h.ap,(hg.block bs (lt_of_heap h.b1) (ne h.b1)).trans h.b1,(hg.block bn (lt_of_heap h.b2) (ne h.b2)).trans h.b2,h.lo,
  h.below.grown hg h.below.size hlo,KeepsOthers.refl _⟩
theorem Pk.own_cells(h:Pk u k v n ls)(j:Nat)(hj:v.ownBlock=some j):∃cs:Array Value,u.heap[j]? =some (.cells cs 39 (0,0)):=by
 obtain⟨vs,ho,_⟩:=h;rcases ho.2 with⟨rfl,_⟩|⟨g,cap,cur,rfl,_,hgb,_⟩
 ·simp[Value.ownBlock] at hj
 have:g=j:=by simpa [Value.ownBlock] using hj
 subst this;exact⟨cur,hgb⟩
theorem Col.app(h:Col w W u bl bs bn A n c v k ls){v':Value}{s:List UInt8}(hpk:Pk u' w.heap.size v' (k+1) (ls++[s]))(hb:Below w.heap.size u u')(hg:u.grownBy u' v.ownBlock)(hat:v'.ownBlock=v.ownBlock∨v'.ownBlock=some u.heap.size):
  u'.cell? ⟨bl,0,none⟩=some v∧u'.frozen? ⟨bl,0,none⟩=false∧Col w W (u'.setCell ⟨bl,0,none⟩ v') bl bs bn A n c v' (k+1) (ls++[s]):=by
 have ne:∀{b:Nat} {cs:Array Value} {T:TypeId},T≠39→u.heap[b]? =some (.cells cs T (0,0))→some b≠v.ownBlock:=fun hT hb e=>by
  obtain⟨cs',hc⟩:=h.pk.own_cells _ e.symm;rw[hb] at hc;injection hc with hc;injection hc with _ ht;exact hT ht
 have hbx:Boxed u' bl 40 v:=h.box.kept hg (ne (by decide) h.box);have hb1:u'.heap[bs]? =some (.cells #[.slice A n c] 39 (0,0)):=(hg.block bs (lt_of_heap h.b1) (fun e=>h.ap e.symm)).trans h.b1;have hb2:u'.heap[bn]? =some (.cells #[.int .i64 64] 3 (0,0)):=(hg.block bn (lt_of_heap h.b2) (ne (by decide) h.b2)).trans h.b2;have far:∀{b:Nat} {cs:Array Value} {T:TypeId},T≠40→u'.heap[b]? =some (.cells cs T (0,0))→b≠bl:=fun hT hb e=>by
  subst e;rw[show u'.heap[_]? =_ from hbx] at hb;injection hb with hb;injection hb with _ ht;exact hT ht.symm
 refine⟨hbx.cell,hbx.frozen,⟨hbx.set v',?_,?_,(Below.heap_setCell _ _ _ _ (far (by decide) hb1)).trans hb1,(Below.heap_setCell _ _ _ _ (far (by decide) hb2)).trans hb2,h.lo,(h.below.trans hb).setCell (p:=⟨bl,0,none⟩) h.lo v',?_⟩⟩
 ·refine hpk.kept (grownBy_setCell' u' bl v') (fun r e cs T hcs=> ?_);injection e with e;subst e;rw[show u'.heap[_]? =_ from hbx] at hcs;injection hcs with hcs;injection hcs with _ ht;subst ht;exact⟨by decide,by decide⟩
 ·rcases hat with e|e
  ·rw[e];exact h.ap
  rw[e];intro e2;injection e2 with e2;have:=lt_of_heap h.b1;omega
 refine(h.keeps.trans (KeepsOthers.of_grownBy hg fun j o e ho=> ?_)).trans (KeepsOthers.setCell u' _ v');obtain⟨cs,hc⟩:=h.pk.own_cells j e;rw[hc] at ho;cases ho
 rfl
end
section
variable {l m:Nat} {P:Program} {ops:Array Oper} {Q:Exit→Act→World→Prop} {a:Act} {w:World} {i:Nat} {oi:Oper} {K:Act→World→Prop} {fuel:Nat} {listed:Array Bool} {md:Region.Mode} {F:Fence}
theorem wi_all1(i:Nat)(hr:Region.ready md ops listed=[i])(h:wpOpIn F m P ops Q i (wpAnyIn F m P md ops Q fuel (listed.setIfInBounds i true)) a w):wpAnyIn F m P md ops Q (fuel+1) listed a w:=
 wpAnyIn_all hr (by simp) (fun j hj=>by
  obtain rfl:j=i:=by simpa using hj
  exact h)
theorem wi_all2(i j:Nat)(hr:Region.ready md ops listed=[i,j])(h:wpOpIn F m P ops Q i (wpAnyIn F m P md ops Q fuel (listed.setIfInBounds i true)) a w)(k:wpOpIn F m P ops Q j (wpAnyIn F m P md ops Q fuel (listed.setIfInBounds j true)) a w):wpAnyIn F m P md ops Q (fuel+1) listed a w:=
 wpAnyIn_all hr (by simp) (fun x hx=>by
  have:x=i∨x=j:=by simpa using hx
  rcases this with rfl|rfl
  ·exact h
  ·exact k)
theorem wi_run(d:Nat)(v:Value)(w':World)(hi:ops[i]? =some oi)(hd:oi.dst=some d)(hw:Region.wanted oi (yielded ops a.tmps)=true)(hnd:∀c,oi.op≠ .defer c)
  (hrun:(execOp a.eval oi).run P w= .ok (.value v) w') (h:K (a.put (some d) v) w'):wpOpIn (Fence.wide.inRound l) m P ops Q i K a w:=by
 unfold wpOpIn;simp only[hi,hw,if_true];refine⟨fun _ _=>trivial,?_⟩;rw[Oper.semAt_eq _ _ _ hnd,hrun];simp only[Oper.uponIn];rw[hd];exact h
theorem wi_store(w':World)(hi:ops[i]? =some oi)(hd:oi.dst=none)(hw:Region.wanted oi (yielded ops a.tmps)=true)(hnd:∀c,oi.op≠ .defer c)
  (hrun:(execOp a.eval oi).run P w= .ok .skip w') (h:K a w'):wpOpIn (Fence.wide.inRound l) m P ops Q i K a w:=by
 unfold wpOpIn;simp only[hi,hw,if_true];refine⟨fun _ _=>trivial,?_⟩;rw[Oper.semAt_eq _ _ _ hnd,hrun];simp only[Oper.uponIn];rw[hd];exact h
theorem wi_call(d f:Nat)(args:Array Value)(hi:ops[i]? =some oi)(hd:oi.dst=some d)(hw:Region.wanted oi (yielded ops a.tmps)=true)(hnd:∀c,oi.op≠ .defer c)
  (hrun:(execOp a.eval oi).run P w= .ok (.enter f args) w) (hc:Calls P f args w fun e w'=>∃v,e= .returned v∧K (a.put (some d) v) w'):wpOpIn (Fence.wide.inRound l) m P ops Q i K a w:=by
 unfold wpOpIn;simp only[hi,hw,if_true];refine⟨fun _ _=>trivial,?_⟩;rw[Oper.semAt_eq _ _ _ hnd,hrun];simp only[Oper.uponIn];refine⟨(fun h=>by cases h),(CallsIn.inRound l (callsIn_wide.2 hc)).mono ?_⟩;rintro e w' ⟨v,rfl,h⟩;rw[hd];exact h
end
theorem Col.drew{w U:World}{bl bs bn n c k:Nat}{A:Option Addr}{v:Value}{ls:List (List UInt8)}(h:Col w U U bl bs bn A n c v k ls):Col w U U.drew bl bs bn A n c v k ls:=
 ⟨h.box,h.pk.kept (row:=none) ⟨rfl,rfl,rfl,Nat.le_refl _,fun _ _ _=>rfl⟩ (fun r e=>by cases e),h.ap,h.b1,h.b2,h.lo,h.below.drew,KeepsOthers.drew U⟩
theorem wi_start{F:Fence}{m id:Nat}{P:Program}{ops:Array Oper}{Q:Exit→Act→World→Prop}{a:Act}{w:World}(hm:P.follows .mixedOrders=true)(h:wpAnyIn F m P .any ops Q ops.size (Array.replicate ops.size false) a w.drew):(Code.region id ops true).wpIn F m P Q a w:=wpIn_region_any hm h
theorem wi_app34{l m:Nat}{ops:Array Oper}{Q:Exit→Act→World→Prop}{a:Act}{w:World}{i:Nat}{oi:Oper}{K:Act→World→Prop}(d:Nat)(hi:ops[i]? =some oi)(hd:oi.dst=some d)(hw:Region.wanted oi (yielded ops a.tmps)=true)(s x:Operand)
  (ho:oi.op= .call {callee:= .builtin .append,args:= #[s,x],argTypes:= #[40,40]}) (lo:Nat) (v:Value) (n:Nat) (ls:List (List UInt8)) (hs:a.eval s=v) (h:Pk w lo v n ls) (u:Value) (sc:List UInt8) (hsc:Sct w lo u sc) (ad:Addr) (c:Nat) (hx:a.eval x= .slice (some ad) 1 c) (hc:w.cell? ad=some u) (hn:n≤1000000) (hlo:lo≤w.heap.size)
  (hK:∀A' c' w',Pk w' lo (.slice A' (n+1) c') (n+1) (ls++[sc])→Below lo w w'→w.grownBy w' v.ownBlock→((Value.slice A' (n+1) c').ownBlock=v.ownBlock∨(Value.slice A' (n+1) c').ownBlock=some w.heap.size)→K (a.put (some d) (.slice A' (n+1) c')) w'):wpOpIn (Fence.wide.inRound l) m Tryz.prog ops Q i K a w:=by
 obtain⟨A',c',w',hrun,h2,h3,h4,h5⟩:=run_app34 w oi.type lo v n ls h u sc hsc ad c hc hn hlo;refine wi_run d _ w' hi hd hw (by rw[ho];intro c h;cases h) ?_ (hK A' c' w' h2 h3 h4 h5);unfold execOp;simp only[ho,resolve,invoke,builtin,Sem.run_bind,Sem.run_pure,Result.andThen_ok,List.map_toArray,List.map_cons,List.map_nil,hs,hx,hrun]
theorem col_start(w:World)(A:Option Addr)(n c K:Nat)(hK:K≤1000000):
  Col w ((((w.alloc (.cells (room K) 39)).alloc (.cells #[.slice (some ⟨w.heap.size,0,none⟩) 0 K] 40)).alloc (.cells #[.slice A n c] 39)).alloc (.cells #[.int .i64 64] 3))
   ((((w.alloc (.cells (room K) 39)).alloc (.cells #[.slice (some ⟨w.heap.size,0,none⟩) 0 K] 40)).alloc (.cells #[.slice A n c] 39)).alloc (.cells #[.int .i64 64] 3))
   (w.heap.size+1) (w.heap.size+1+1) (w.heap.size+1+1+1) A n c (.slice (some ⟨w.heap.size,0,none⟩) 0 K) 0 []:=by
 have hb:=Boxed.new (w.alloc (.cells (room K) 39)) 40 (.slice (some ⟨w.heap.size,0,none⟩) 0 K);rw[World.size_alloc] at hb;have h1:=heap_alloc_new ((w.alloc (.cells (room K) 39)).alloc (.cells #[.slice (some ⟨w.heap.size,0,none⟩) 0 K] 40)) (.cells #[.slice A n c] 39);rw[World.size_alloc,World.size_alloc] at h1;have h2:=heap_alloc_new (((w.alloc (.cells (room K) 39)).alloc (.cells #[.slice (some ⟨w.heap.size,0,none⟩) 0 K] 40)).alloc (.cells #[.slice A n c] 39)) (.cells #[.int .i64 64] 3);rw[World.size_alloc,World.size_alloc,World.size_alloc] at h2;exact⟨(hb.alloc _).alloc _,(((pk_room w w.heap.size K (Nat.le_refl _) hK).alloc _).alloc _).alloc _,by simp[Value.ownBlock];omega,(Below.heap_alloc _ _ _ (by simp)).trans h1,h2,by omega,
  ((((alloc_below w _).alloc (by simp) _).alloc (by simp;omega) _).alloc (by simp;omega) _),KeepsOthers.refl _⟩
theorem pieces_all(xs:List UInt8)(K:Nat):(List.finRange K).map (fun i=>sec xs i.1)=(List.range K).map (sec xs):=by
 apply List.ext_getElem
 ·simp
 intro i h1 h2;simp
theorem piece_wide(xs:List UInt8)(n i:Nat)(h:xs.length=n):(xs.drop (64 * i)).take (wide n i)=piece xs i:=by
 unfold piece wide;rw[List.take_eq_take_iff,List.length_drop,h];omega
theorem round_end{w U u:World}{bl bs bn n c:Nat}{A:Option Addr}{v v':Value}{xs:List UInt8}{pre:List (Fin (need n))}{x:Fin (need n)}{B:Nat}(h:Col w U U bl bs bn A n c v pre.length (pre.map fun (i:Fin (need n))=>sec xs i.1))(h':Col w U u bl bs bn A n c v' (pre.length+1) ((pre.map fun (i:Fin (need n))=>sec xs i.1)++[sec xs x.1])):
  KeepsFrom B U u∧Boxes bs bn U u∧∃v,Col w u u bl bs bn A n c v (pre++[x]).length ((pre++[x]).map fun (i:Fin (need n))=>sec xs i.1):=by
 refine⟨h'.keeps.from _,⟨h'.b1.trans h.b1.symm,h'.b2.trans h.b2.symm⟩,v',?_⟩;have e:(pre++[x]).map (fun (i:Fin (need n))=>sec xs i.1)=(pre.map fun (i:Fin (need n))=>sec xs i.1)++[sec xs x.1]:=by simp
 rw[e,List.length_append];exact⟨h'.box,h'.pk,h'.ap,h'.b1,h'.b2,h'.lo,h'.below,KeepsOthers.refl _⟩
theorem pack_any(w:World)(n c:Nat)(A:Option Addr)(xs:List UInt8)(h:Byts w w.heap.size A n xs)(hn:n≤1048576)(hc:n≤c):Calls Tryz.prog 129 #[.slice A n c] w (Packed w (pack xs)):=by
 have hK:need n≤16384:=by unfold need;omega
 have hL:=h.len;have HN:=hid (fun u=>need_any (n:Int) u (by unfold in64;omega));rw[needI_nat] at HN;have hmk:=fun v=>run_make34 v (need n) (by omega);have HX:=hid h;have hn1:(n:Int)≤1048576:=by omega
 clear h;refine(callsIn_wide (n:=5)).1 ?_;refine callsIn_of_wp_marks Tryz.func129 rfl trivial ?_ rfl;simp only[Tryz.ntmps129,List.size_toArray,List.length_cons,List.length_nil,Nat.reduceAdd,Nat.reduceSub,Array.replicate_succ,Array.replicate_zero,List.push_toArray,List.append_toArray,List.nil_append,List.cons_append];gi_wp2
 refine⟨trivial,(callsIn_wide.2 (HN.out _)).mono ?_⟩;rintro e w1 ⟨rfl,rfl⟩;gi_wp2
 refine⟨trivial,(chunk_in Fence.wide _ trivial rfl _ _ _ _).mono ?_⟩;rintro e w2 ⟨rfl,rfl⟩;gi_wp2
 have hC:=col_start w A n c (need n) (by omega);have HC0:=hid hC;have hz:((((w.alloc (.cells (room (need n)) 39)).alloc (.cells #[.slice (some ⟨w.heap.size,0,none⟩) 0 (need n)] 40)).alloc (.cells #[.slice A n c] 39)).alloc (.cells #[.int .i64 64] 3)).heap.size=w.heap.size+4:=by simp
 have HZ:=hid hz;have HKK:Hid (pack xs=(List.range (need n)).map (sec xs)):=hid (by unfold pack;rw[hL]);have HXL:=hid hL;clear hz hL hmk HN;generalize (((w.alloc (.cells (room (need n)) 39)).alloc (.cells #[.slice (some ⟨w.heap.size,0,none⟩) 0 (need n)] 40)).alloc (.cells #[.slice A n c] 39)).alloc (.cells #[.int .i64 64] 3)=V at *;refine wpIn_rangeFunc_ownG rfl (by decide) (gf:=174) (lb:= #[.pointer (some ⟨w.heap.size+1+1,0,none⟩),.pointer (some ⟨w.heap.size+1+1+1,0,none⟩)]) rfl trivial (enters_of Tryz.func174 (by kernel_rfl) rfl)
  (chunk_stops 4 _ _ n c A hn hc V hC.b1 hC.b2) (fun h k=>Boxes.t h k) (fun U l o o' hl _ _ _=>⟨World.putObj_heap_other (by have:=HZ.out;omega),World.putObj_heap_other (by have:=HZ.out;omega)⟩) (Below.refl _ _) (fun _=>rfl)
  (fun (pre:List (Fin (need n))) U=>∃v,Col w U U (w.heap.size+1) (w.heap.size+1+1) (w.heap.size+1+1+1) A n c v pre.length (pre.map fun (i:Fin (need n))=>sec xs i.1))
  (fun _ _ _=>False)
  (fun s U U' row ⟨v,h⟩ hg hr=>⟨v,h.turn hg (fun r e=>by have:=(hr r e).1;have:=HZ.out;omega) (fun r e=>(hr r e).2)⟩)
  (fun _ _ _ _ _ hs _ _=>hs) ⟨_,hC⟩
  (fun x=>{tmps:= #[.slice A n c,undef,.slice none 0 0,.pointer (some ⟨w.heap.size+1,0,none⟩),.slice (cutAt A (64 * x.1) (64 * x.1+wide n x.1)) (wide n x.1) (wide n x.1),.slice A n c,.int .i64 n,.bool (decide (1048576<(n:Int))),.slice A n c,.int .i64 n,.int .i64 (need n),.slice (some ⟨w.heap.size,0,none⟩) 0 (need n),.slice A n c,
   .func (.func 174) #[] #[.pointer (some ⟨w.heap.size+1+1,0,none⟩),.pointer (some ⟨w.heap.size+1+1+1,0,none⟩)],.slice (cutAt A (64 * x.1) (64 * x.1+wide n x.1)) (wide n x.1) (wide n x.1),undef,undef,undef,undef,undef,undef,undef],defers:=[]}) ?assign ?body ?done ?stop
 case assign=>
  intro l x U K hK';gi_wp2
  exact hK'
 case body=>
  rintro l pre x U ⟨v,hCU⟩ hlt;obtain⟨Av,cv,rfl,_,_⟩:=hCU.pk.form;have hkl:pre.length≤16384:=by omega
  have hi:=x.2;have HCW:Hid (Byts w w.heap.size (cutAt A (64 * x.1) (64 * x.1+wide n x.1)) (wide n x.1) (piece xs x.1)):=hid (by
   have hle:64 * x.1+wide n x.1≤n:=by unfold need at hi;unfold wide;omega
   have:=Byts.cut HX.out (64 * x.1) (64 * x.1+wide n x.1) (64 * x.1+wide n x.1) (by omega) hle (Nat.le_refl _);rwa [show 64 * x.1+wide n x.1-64 * x.1=wide n x.1 by omega,piece_wide xs n x.1 HXL.out] at this)
  have hwl:wide n x.1=(piece xs x.1).length:=HCW.out.len.symm;have HP64:Hid ((piece xs x.1).length≤64):=hid (by rw[piece_length];omega);have HPM:Hid ((piece xs x.1).length≤maxLen):=hid (by have:=HP64.out;unfold maxLen;omega);have HPF:Hid (pad ([piece xs x.1]:List (List UInt8)).flatten=sec xs x.1):=hid (by simp[sec]);have HC0:=hid hCU;have HC:=hid hCU.drew;generalize cutAt A (64 * x.1) (64 * x.1+wide n x.1)=Ac at *;rw[hwl] at HCW ⊢;clear hwl hC hCU;generalize piece xs x.1=pc at *;gi_wp2
  refine wi_start (by kernel_rfl) ?_;generalize U.drew=u0 at *;refine wi_all2 0 1 (by kernel_rfl) ?_ ?_
  ·have hbc:=HC.out.box.cell;refine wi_run 15 (.slice Av pre.length cv) u0 rfl rfl rfl (by intro c h;cases h) ?_ ?_
   ·go_simp
   clear hbc;go_frame;refine wi_all1 1 (by kernel_rfl) ?_;refine wi_run 16 (.slice Ac pc.length pc.length) u0 rfl rfl rfl (by intro c h;cases h) rfl ?_;go_frame;refine wi_all1 2 (by kernel_rfl) ?_;refine wi_run 17 (.slice (some ⟨u0.heap.size,0,none⟩) 1 1) (u0.alloc (.cells #[.slice Ac pc.length pc.length] 39)) rfl rfl rfl (by intro c h;cases h) ?_ ?_
   ·go_simp
   go_frame;have HRW:=hid (rows_one u0 w.heap.size pc.length Ac pc (HCW.out.below HC.out.below) HC.out.below.size (Nat.le_refl _) HPM.out);have HC:=hid (HC.out.alloc (.cells #[.slice Ac pc.length pc.length] 39));have HUS:Hid ((u0.alloc (.cells #[.slice Ac pc.length pc.length] 39)).heap.size=u0.heap.size+1):=hid (World.size_alloc _ _);generalize u0.alloc (.cells #[.slice Ac pc.length pc.length] 39)=ub at *;refine wi_all1 3 (by kernel_rfl) ?_;have HF:=hid (filled_any ub _ 1 1 _ [pc] HRW.out (by have:=HUS.out;omega) (by decide) (by simp;exact HP64.out));rw[HPF.out] at HF;refine wi_call 18 134 #[.slice (some ⟨u0.heap.size,0,none⟩) 1 1] rfl rfl rfl (by intro c h;cases h) ?_ ?_
   ·go_simp
   refine HF.out.mono ?_;rintro e4 w4 ⟨rfl,hg4,hb4⟩;have HSC:Hid (Sct w4 w.heap.size (.slice (some ⟨ub.heap.size,0,none⟩) 64 64) (sec xs x.1)):=hid ⟨_,rfl,hg4,HC.out.below.size,sec_length xs x.1⟩;have HC:=hid (HC.out.call hb4);clear hg4 hb4 HF HRW;refine⟨_,rfl,?_⟩;go_frame;refine wi_all1 4 (by kernel_rfl) ?_;refine wi_run 19 (.slice (some ⟨w4.heap.size,0,none⟩) 1 1) (w4.alloc (.cells #[.slice (some ⟨ub.heap.size,0,none⟩) 64 64] 39)) rfl rfl rfl (by intro c h;cases h) ?_ ?_
   ·go_simp
   go_frame;have HCE:Hid ((w4.alloc (.cells #[.slice (some ⟨ub.heap.size,0,none⟩) 64 64] 39)).cell? ⟨w4.heap.size,0,none⟩=some (.slice (some ⟨ub.heap.size,0,none⟩) 64 64)):=hid (cell_at (heap_alloc_new w4 _) 0);have HSC:=hid (HSC.out.keep fun g cs hg=>(Below.heap_alloc w4 (.cells #[.slice (some ⟨ub.heap.size,0,none⟩) 64 64] 39) _ (lt_of_heap hg)).trans hg);have HC:=hid (HC.out.alloc (.cells #[.slice (some ⟨ub.heap.size,0,none⟩) 64 64] 39));generalize w4.alloc (.cells #[.slice (some ⟨ub.heap.size,0,none⟩) 64 64] 39)=w5 at *;refine wi_all1 5 (by kernel_rfl) ?_;refine wi_app34 20 rfl rfl rfl (.tmp 15) (.tmp 19) rfl w.heap.size (.slice Av pre.length cv) pre.length (pre.map fun (i:Fin (need n))=>sec xs i.1) rfl HC.out.pk (.slice (some ⟨ub.heap.size,0,none⟩) 64 64) (sec xs x.1) HSC.out ⟨w4.heap.size,0,none⟩ 1 rfl HCE.out (by omega) HC.out.below.size ?_;intro A7 c7 w7 hp7 hb7 hg7 ha7;obtain⟨hbc,hbf,hC7⟩:=HC.out.app hp7 hb7 hg7 ha7;have HC7:=hid hC7;clear hp7 hb7 hg7 ha7 hC7;go_frame;refine wi_all1 6 (by kernel_rfl) ?_;refine wi_store (w7.setCell ⟨w.heap.size+1,0,none⟩ (.slice A7 (pre.length+1) c7)) rfl rfl rfl (by intro c h;cases h) ?_ ?_
   ·go_simp
   clear hbc hbf;refine wpAnyIn_done (by kernel_rfl) ?_ _;gi_wp2
   exact round_end HC0.out HC7.out
  refine wi_run 16 (.slice Ac pc.length pc.length) u0 rfl rfl rfl (by intro c h;cases h) rfl ?_;go_frame;refine wi_all2 0 2 (by kernel_rfl) ?_ ?_
  ·have hbc:=HC.out.box.cell;refine wi_run 15 (.slice Av pre.length cv) u0 rfl rfl rfl (by intro c h;cases h) ?_ ?_
   ·go_simp
   clear hbc;go_frame;refine wi_all1 2 (by kernel_rfl) ?_;refine wi_run 17 (.slice (some ⟨u0.heap.size,0,none⟩) 1 1) (u0.alloc (.cells #[.slice Ac pc.length pc.length] 39)) rfl rfl rfl (by intro c h;cases h) ?_ ?_
   ·go_simp
   go_frame;have HRW:=hid (rows_one u0 w.heap.size pc.length Ac pc (HCW.out.below HC.out.below) HC.out.below.size (Nat.le_refl _) HPM.out);have HC:=hid (HC.out.alloc (.cells #[.slice Ac pc.length pc.length] 39));have HUS:Hid ((u0.alloc (.cells #[.slice Ac pc.length pc.length] 39)).heap.size=u0.heap.size+1):=hid (World.size_alloc _ _);generalize u0.alloc (.cells #[.slice Ac pc.length pc.length] 39)=ub at *;refine wi_all1 3 (by kernel_rfl) ?_;have HF:=hid (filled_any ub _ 1 1 _ [pc] HRW.out (by have:=HUS.out;omega) (by decide) (by simp;exact HP64.out));rw[HPF.out] at HF;refine wi_call 18 134 #[.slice (some ⟨u0.heap.size,0,none⟩) 1 1] rfl rfl rfl (by intro c h;cases h) ?_ ?_
   ·go_simp
   refine HF.out.mono ?_;rintro e4 w4 ⟨rfl,hg4,hb4⟩;have HSC:Hid (Sct w4 w.heap.size (.slice (some ⟨ub.heap.size,0,none⟩) 64 64) (sec xs x.1)):=hid ⟨_,rfl,hg4,HC.out.below.size,sec_length xs x.1⟩;have HC:=hid (HC.out.call hb4);clear hg4 hb4 HF HRW;refine⟨_,rfl,?_⟩;go_frame;refine wi_all1 4 (by kernel_rfl) ?_;refine wi_run 19 (.slice (some ⟨w4.heap.size,0,none⟩) 1 1) (w4.alloc (.cells #[.slice (some ⟨ub.heap.size,0,none⟩) 64 64] 39)) rfl rfl rfl (by intro c h;cases h) ?_ ?_
   ·go_simp
   go_frame;have HCE:Hid ((w4.alloc (.cells #[.slice (some ⟨ub.heap.size,0,none⟩) 64 64] 39)).cell? ⟨w4.heap.size,0,none⟩=some (.slice (some ⟨ub.heap.size,0,none⟩) 64 64)):=hid (cell_at (heap_alloc_new w4 _) 0);have HSC:=hid (HSC.out.keep fun g cs hg=>(Below.heap_alloc w4 (.cells #[.slice (some ⟨ub.heap.size,0,none⟩) 64 64] 39) _ (lt_of_heap hg)).trans hg);have HC:=hid (HC.out.alloc (.cells #[.slice (some ⟨ub.heap.size,0,none⟩) 64 64] 39));generalize w4.alloc (.cells #[.slice (some ⟨ub.heap.size,0,none⟩) 64 64] 39)=w5 at *;refine wi_all1 5 (by kernel_rfl) ?_;refine wi_app34 20 rfl rfl rfl (.tmp 15) (.tmp 19) rfl w.heap.size (.slice Av pre.length cv) pre.length (pre.map fun (i:Fin (need n))=>sec xs i.1) rfl HC.out.pk (.slice (some ⟨ub.heap.size,0,none⟩) 64 64) (sec xs x.1) HSC.out ⟨w4.heap.size,0,none⟩ 1 rfl HCE.out (by omega) HC.out.below.size ?_;intro A7 c7 w7 hp7 hb7 hg7 ha7;obtain⟨hbc,hbf,hC7⟩:=HC.out.app hp7 hb7 hg7 ha7;have HC7:=hid hC7;clear hp7 hb7 hg7 ha7 hC7;go_frame;refine wi_all1 6 (by kernel_rfl) ?_;refine wi_store (w7.setCell ⟨w.heap.size+1,0,none⟩ (.slice A7 (pre.length+1) c7)) rfl rfl rfl (by intro c h;cases h) ?_ ?_
   ·go_simp
   clear hbc hbf;refine wpAnyIn_done (by kernel_rfl) ?_ _;gi_wp2
   exact round_end HC0.out HC7.out
  refine wi_run 17 (.slice (some ⟨u0.heap.size,0,none⟩) 1 1) (u0.alloc (.cells #[.slice Ac pc.length pc.length] 39)) rfl rfl rfl (by intro c h;cases h) ?_ ?_
  ·go_simp
  go_frame;have HRW:=hid (rows_one u0 w.heap.size pc.length Ac pc (HCW.out.below HC.out.below) HC.out.below.size (Nat.le_refl _) HPM.out);have HC:=hid (HC.out.alloc (.cells #[.slice Ac pc.length pc.length] 39));have HUS:Hid ((u0.alloc (.cells #[.slice Ac pc.length pc.length] 39)).heap.size=u0.heap.size+1):=hid (World.size_alloc _ _);generalize u0.alloc (.cells #[.slice Ac pc.length pc.length] 39)=ub at *;refine wi_all2 0 3 (by kernel_rfl) ?_ ?_
  ·have hbc:=HC.out.box.cell;refine wi_run 15 (.slice Av pre.length cv) ub rfl rfl rfl (by intro c h;cases h) ?_ ?_
   ·go_simp
   clear hbc;go_frame;refine wi_all1 3 (by kernel_rfl) ?_;have HF:=hid (filled_any ub _ 1 1 _ [pc] HRW.out (by have:=HUS.out;omega) (by decide) (by simp;exact HP64.out));rw[HPF.out] at HF;refine wi_call 18 134 #[.slice (some ⟨u0.heap.size,0,none⟩) 1 1] rfl rfl rfl (by intro c h;cases h) ?_ ?_
   ·go_simp
   refine HF.out.mono ?_;rintro e4 w4 ⟨rfl,hg4,hb4⟩;have HSC:Hid (Sct w4 w.heap.size (.slice (some ⟨ub.heap.size,0,none⟩) 64 64) (sec xs x.1)):=hid ⟨_,rfl,hg4,HC.out.below.size,sec_length xs x.1⟩;have HC:=hid (HC.out.call hb4);clear hg4 hb4 HF HRW;refine⟨_,rfl,?_⟩;go_frame;refine wi_all1 4 (by kernel_rfl) ?_;refine wi_run 19 (.slice (some ⟨w4.heap.size,0,none⟩) 1 1) (w4.alloc (.cells #[.slice (some ⟨ub.heap.size,0,none⟩) 64 64] 39)) rfl rfl rfl (by intro c h;cases h) ?_ ?_
   ·go_simp
   go_frame;have HCE:Hid ((w4.alloc (.cells #[.slice (some ⟨ub.heap.size,0,none⟩) 64 64] 39)).cell? ⟨w4.heap.size,0,none⟩=some (.slice (some ⟨ub.heap.size,0,none⟩) 64 64)):=hid (cell_at (heap_alloc_new w4 _) 0);have HSC:=hid (HSC.out.keep fun g cs hg=>(Below.heap_alloc w4 (.cells #[.slice (some ⟨ub.heap.size,0,none⟩) 64 64] 39) _ (lt_of_heap hg)).trans hg);have HC:=hid (HC.out.alloc (.cells #[.slice (some ⟨ub.heap.size,0,none⟩) 64 64] 39));generalize w4.alloc (.cells #[.slice (some ⟨ub.heap.size,0,none⟩) 64 64] 39)=w5 at *;refine wi_all1 5 (by kernel_rfl) ?_;refine wi_app34 20 rfl rfl rfl (.tmp 15) (.tmp 19) rfl w.heap.size (.slice Av pre.length cv) pre.length (pre.map fun (i:Fin (need n))=>sec xs i.1) rfl HC.out.pk (.slice (some ⟨ub.heap.size,0,none⟩) 64 64) (sec xs x.1) HSC.out ⟨w4.heap.size,0,none⟩ 1 rfl HCE.out (by omega) HC.out.below.size ?_;intro A7 c7 w7 hp7 hb7 hg7 ha7;obtain⟨hbc,hbf,hC7⟩:=HC.out.app hp7 hb7 hg7 ha7;have HC7:=hid hC7;clear hp7 hb7 hg7 ha7 hC7;go_frame;refine wi_all1 6 (by kernel_rfl) ?_;refine wi_store (w7.setCell ⟨w.heap.size+1,0,none⟩ (.slice A7 (pre.length+1) c7)) rfl rfl rfl (by intro c h;cases h) ?_ ?_
   ·go_simp
   clear hbc hbf;refine wpAnyIn_done (by kernel_rfl) ?_ _;gi_wp2
   exact round_end HC0.out HC7.out
  have HF:=hid (filled_any ub _ 1 1 _ [pc] HRW.out (by have:=HUS.out;omega) (by decide) (by simp;exact HP64.out));rw[HPF.out] at HF;refine wi_call 18 134 #[.slice (some ⟨u0.heap.size,0,none⟩) 1 1] rfl rfl rfl (by intro c h;cases h) ?_ ?_
  ·go_simp
  refine HF.out.mono ?_;rintro e4 w4 ⟨rfl,hg4,hb4⟩;have HSC:Hid (Sct w4 w.heap.size (.slice (some ⟨ub.heap.size,0,none⟩) 64 64) (sec xs x.1)):=hid ⟨_,rfl,hg4,HC.out.below.size,sec_length xs x.1⟩;have HC:=hid (HC.out.call hb4);clear hg4 hb4 HF HRW;refine⟨_,rfl,?_⟩;go_frame;refine wi_all2 0 4 (by kernel_rfl) ?_ ?_
  ·have hbc:=HC.out.box.cell;refine wi_run 15 (.slice Av pre.length cv) w4 rfl rfl rfl (by intro c h;cases h) ?_ ?_
   ·go_simp
   clear hbc;go_frame;refine wi_all1 4 (by kernel_rfl) ?_;refine wi_run 19 (.slice (some ⟨w4.heap.size,0,none⟩) 1 1) (w4.alloc (.cells #[.slice (some ⟨ub.heap.size,0,none⟩) 64 64] 39)) rfl rfl rfl (by intro c h;cases h) ?_ ?_
   ·go_simp
   go_frame;have HCE:Hid ((w4.alloc (.cells #[.slice (some ⟨ub.heap.size,0,none⟩) 64 64] 39)).cell? ⟨w4.heap.size,0,none⟩=some (.slice (some ⟨ub.heap.size,0,none⟩) 64 64)):=hid (cell_at (heap_alloc_new w4 _) 0);have HSC:=hid (HSC.out.keep fun g cs hg=>(Below.heap_alloc w4 (.cells #[.slice (some ⟨ub.heap.size,0,none⟩) 64 64] 39) _ (lt_of_heap hg)).trans hg);have HC:=hid (HC.out.alloc (.cells #[.slice (some ⟨ub.heap.size,0,none⟩) 64 64] 39));generalize w4.alloc (.cells #[.slice (some ⟨ub.heap.size,0,none⟩) 64 64] 39)=w5 at *;refine wi_all1 5 (by kernel_rfl) ?_;refine wi_app34 20 rfl rfl rfl (.tmp 15) (.tmp 19) rfl w.heap.size (.slice Av pre.length cv) pre.length (pre.map fun (i:Fin (need n))=>sec xs i.1) rfl HC.out.pk (.slice (some ⟨ub.heap.size,0,none⟩) 64 64) (sec xs x.1) HSC.out ⟨w4.heap.size,0,none⟩ 1 rfl HCE.out (by omega) HC.out.below.size ?_;intro A7 c7 w7 hp7 hb7 hg7 ha7;obtain⟨hbc,hbf,hC7⟩:=HC.out.app hp7 hb7 hg7 ha7;have HC7:=hid hC7;clear hp7 hb7 hg7 ha7 hC7;go_frame;refine wi_all1 6 (by kernel_rfl) ?_;refine wi_store (w7.setCell ⟨w.heap.size+1,0,none⟩ (.slice A7 (pre.length+1) c7)) rfl rfl rfl (by intro c h;cases h) ?_ ?_
   ·go_simp
   clear hbc hbf;refine wpAnyIn_done (by kernel_rfl) ?_ _;gi_wp2
   exact round_end HC0.out HC7.out
  refine wi_run 19 (.slice (some ⟨w4.heap.size,0,none⟩) 1 1) (w4.alloc (.cells #[.slice (some ⟨ub.heap.size,0,none⟩) 64 64] 39)) rfl rfl rfl (by intro c h;cases h) ?_ ?_
  ·go_simp
  go_frame;have HCE:Hid ((w4.alloc (.cells #[.slice (some ⟨ub.heap.size,0,none⟩) 64 64] 39)).cell? ⟨w4.heap.size,0,none⟩=some (.slice (some ⟨ub.heap.size,0,none⟩) 64 64)):=hid (cell_at (heap_alloc_new w4 _) 0);have HSC:=hid (HSC.out.keep fun g cs hg=>(Below.heap_alloc w4 (.cells #[.slice (some ⟨ub.heap.size,0,none⟩) 64 64] 39) _ (lt_of_heap hg)).trans hg);have HC:=hid (HC.out.alloc (.cells #[.slice (some ⟨ub.heap.size,0,none⟩) 64 64] 39));generalize w4.alloc (.cells #[.slice (some ⟨ub.heap.size,0,none⟩) 64 64] 39)=w5 at *;refine wi_all1 0 (by kernel_rfl) ?_;have hbc:=HC.out.box.cell;refine wi_run 15 (.slice Av pre.length cv) w5 rfl rfl rfl (by intro c h;cases h) ?_ ?_
  ·go_simp
  clear hbc;go_frame;refine wi_all1 5 (by kernel_rfl) ?_;refine wi_app34 20 rfl rfl rfl (.tmp 15) (.tmp 19) rfl w.heap.size (.slice Av pre.length cv) pre.length (pre.map fun (i:Fin (need n))=>sec xs i.1) rfl HC.out.pk (.slice (some ⟨ub.heap.size,0,none⟩) 64 64) (sec xs x.1) HSC.out ⟨w4.heap.size,0,none⟩ 1 rfl HCE.out (by omega) HC.out.below.size ?_;intro A7 c7 w7 hp7 hb7 hg7 ha7;obtain⟨hbc,hbf,hC7⟩:=HC.out.app hp7 hb7 hg7 ha7;have HC7:=hid hC7;clear hp7 hb7 hg7 ha7 hC7;go_frame;refine wi_all1 6 (by kernel_rfl) ?_;refine wi_store (w7.setCell ⟨w.heap.size+1,0,none⟩ (.slice A7 (pre.length+1) c7)) rfl rfl rfl (by intro c h;cases h) ?_ ?_
  ·go_simp
  clear hbc hbf;refine wpAnyIn_done (by kernel_rfl) ?_ _;gi_wp2
  exact round_end HC0.out HC7.out
 case done=>
  rintro D ys U hD rfl ⟨v,hCU⟩ hK';obtain⟨Av,cv,rfl,_,_⟩:=hCU.pk.form;have hbc:=hCU.box.cell;gi_wp2
  refine⟨by simp,.inl ⟨_,_,rfl,run_takeDeferred hK',?_⟩⟩;refine⟨_,results_tmp rfl _ _ _,?_⟩;refine⟨Av,_,cv,rfl,?_,hCU.below.trans (belowK_b (w:=w) (Nat.le_refl _) U D _ _ (by have:=HZ.out;omega) hK' rfl rfl)⟩;rw[HKK.out,←pieces_all];have hpk:=hCU.pk.kept (grownBy_putObj' U D (.deferred none)) (fun r e cs T hcs=>by
   cases e
   rw[hK'] at hcs;cases hcs)
  rwa [List.length_finRange] at hpk
 case stop=>
  rintro D cd pre U _ _ h _;exact h.elim
end Go.Proofs.YtdjhlhellkajfaaGreat.Frm
