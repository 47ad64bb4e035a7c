/-
  Texts KLSm, in one file. What each proves, and its conditions, stand at its head below.
-/
import Derived.Test.YtdjhlhellkajfaaGreatY38
import Derived.Test.YtdjhlhellkajfaaGreatY49
set_option maxRecDepth 100000
set_option maxHeartbeats 2000000
open Go.Lib (hid)
namespace Go.Proofs.YtdjhlhellkajfaaGreat.Cch
open Go.RowKit Codec Cod
open Disk (Turn)
theorem idx_pp(A:Option Addr)(n c k g of:Nat)(hA:A=some ⟨g,of,none⟩)(hk:k<n)(u:World):(Instr.indexAt 84 (.slice A n c) (.int .i64 k)).run Tryz.prog u= .ok (.pointer (some ⟨g,of+k * 2,none⟩)) u:=idx_pe A n c k g of hA hk u
theorem lsame_any(w:World)(n c c2:Nat)(A A2:Option Addr)(L:List Ent)(h1:Els.Ns w A n L)(h2:Els.Ns w A2 n L)(hn:n≤1000000):Calls Tryz.prog 45 #[.slice A n c,.slice A2 n c2] w (EndsBelow (.bool true) w):=by
 have H1:=hid h1;have H2:=hid h2;have HLN:=hid h1.1;have hni:(n:Int)≤1000000:=by omega
 clear h1 h2 hn;go_enter Tryz.func45,Tryz.ntmps45;go_wp2_with fail;go_loopw [5] (fun i wr=>∃k:Nat,k≤n∧i= .int .i64 k∧Below w.heap.size w wr) (fun i _=>n-(Go.RowKit.intOf i).toNat)
 case atStart=>exact⟨0,Nat.zero_le _,rfl,Below.refl _ _⟩
 case round=>
  obtain⟨k,hk,rfl,hb⟩:=hrel;have HB:=hid hb;clear hb;by_cases hlt:k<n
  ·have hkl:k<L.length:=by rw[HLN.out];exact hlt
   obtain⟨g,of,hA,hgl,hcs⟩:=H1.out.2 (by omega);obtain⟨g2,of2,hA2,hgl2,hcs2⟩:=H2.out.2 (by omega);obtain⟨p0,p1⟩:=hcs k hkl;obtain⟨r0,r1⟩:=hcs2 k hkl;have c0:=(World.cell?_of_block (w:=w) (a:=⟨g,of+k * 2,none⟩) (HB.out.drew.block g hgl)).trans p0;have c1:=(World.cell?_of_block (w:=w) (a:=⟨g,of+k * 2+1,none⟩) (HB.out.drew.block g hgl)).trans p1;have q0:=(World.cell?_of_block (w:=w) (a:=⟨g2,of2+k * 2,none⟩) (HB.out.drew.block g2 hgl2)).trans r0;have q1:=(World.cell?_of_block (w:=w) (a:=⟨g2,of2+k * 2+1,none⟩) (HB.out.drew.block g2 hgl2)).trans r1;have hidx:=idx_pp A n c k g of hA hlt;have hidx2:=idx_e A2 n c2 k g2 of2 hA2 hlt;clear hcs hcs2 p0 p1 r0 r1 hgl hgl2 hA hA2;generalize L[k]=x at *;clear hkl;obtain⟨xk,xv⟩:=x;dsimp only at *;go_upto_region 6 with fail;have HS:Hid (wr.drew.cell? ⟨g,of+k * 2,none⟩=some (.string xk)∧wr.drew.cell? ⟨g,of+k * 2+1,none⟩=some (.string xv)∧wr.drew.cell? ⟨g2,of2+k * 2,none⟩=some (.string xk)∧wr.drew.cell? ⟨g2,of2+k * 2+1,none⟩=some (.string xv)):=hid ⟨c0,c1,q0,q1⟩;have HDR:Hid (Below w.heap.size w wr.drew):=hid HB.out.drew;clear c0 c1 q0 q1;refine Frm.wh_start (fun u=>u.cell? ⟨g,of+k * 2,none⟩=some (.string xk)∧u.cell? ⟨g,of+k * 2+1,none⟩=some (.string xv)∧u.cell? ⟨g2,of2+k * 2,none⟩=some (.string xk)∧u.cell? ⟨g2,of2+k * 2+1,none⟩=some (.string xv)) (by kernel_rfl) ?_;generalize wr.drew=u0 at *;refine Frm.wa 0 17 (.slice A n c) HS.out ?_;go_frame;refine Frm.wa 1 18 (.int .i64 k) HS.out ?_;go_frame;refine Frm.wb 2 19 (.pointer (some ⟨g,of+k * 2,none⟩)) HS.out ?_;go_frame;refine Frm.wd 3 20 (.agg #[.string xk,.string xv]) HS.out (fun w' hw'=> ?_) ?_
   ·obtain⟨h0,h1,h2,h3⟩:=hw';go_simp
   go_frame;refine Frm.wa 4 21 (.slice A2 n c2) HS.out ?_;go_frame;refine Frm.wa 5 22 (.int .i64 k) HS.out ?_;go_frame;refine Frm.wb 6 23 (.pointer (some ⟨g2,of2+k * 2,none⟩)) HS.out ?_;go_frame;refine Frm.wd 7 24 (.agg #[.string xk,.string xv]) HS.out (fun w' hw'=> ?_) ?_
   ·obtain⟨h0,h1,h2,h3⟩:=hw';go_simp
   go_frame;refine Frm.wb 8 25 (.bool false) HS.out ?_;go_frame;refine wpAnyH_done (by kernel_rfl) ?_ _;go_wp2_with fail;go_roundw
   case rel=>exact⟨k+1,by omega,by go_num,HDR.out⟩
   case measure=>simp[Go.RowKit.intOf];omega
  obtain rfl:k=n:=by omega
  go_wp2_with fail;go_ret;exact⟨rfl,HB.out⟩
end Go.Proofs.YtdjhlhellkajfaaGreat.Cch
