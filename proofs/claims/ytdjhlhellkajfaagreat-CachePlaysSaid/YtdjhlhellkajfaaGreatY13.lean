/-
  Texts FRead, FGet, FCut, in one file. What each proves, and its conditions, stand at its head below.
-/
import Derived.Test.YtdjhlhellkajfaaGreatY5
import Derived.Test.YtdjhlhellkajfaaGreatY11
import Derived.Test.YtdjhlhellkajfaaGreatY12
import Derived.Deep.DeepCutAuto
set_option maxRecDepth 100000
set_option maxHeartbeats 2000000
open Go.Lib (hid)
namespace Go.Proofs.YtdjhlhellkajfaaGreat.Frm
open Go.RowKit Codec FrameM Cod
def mkC (a b c d:Int):Array Value:= #[.int .i64 a,.int .i64 b,.int .i64 c,.int .i64 d]
structure Mid (T M:TypeId) (w0 w:World) (B g bm r:Nat) (s:St) (cs:Array Value):Prop where
 rdr:Rdr T w B g s
 mark:w.heap[bm]? =some (.cells cs M (0,0))
 res:w.heap[r]? =some (.cells (mkC 0 0 0 0) M (0,0))
 g_bm:g≠bm
 g_r:g≠r
 bm_r:bm≠r
 B_bm:B≤bm
 lo_bm:w0.heap.size≤bm
 lo_g:w0.heap.size≤g
 lo_r:w0.heap.size≤r
 below:Below w0.heap.size w0 w
section
variable {T M:TypeId} {w0 w w1:World} {B g bm r:Nat} {s s1:St} {cs:Array Value}
theorem Mid.mark1(h:Mid T M w0 w B g bm r s cs)(hg:w.grownBy w1 (some g)):w1.heap[bm]? =some (.cells cs M (0,0)):=(hg.block bm (lt_of_heap h.mark) (by simp;exact h.g_bm.symm)).trans h.mark
theorem Mid.step(h:Mid T M w0 w B g bm r s cs)(hr:Rdr T w1 B g s1)(hg:w.grownBy w1 (some g))(i:Nat)(u:Value)(cs':Array Value)(hcs:cs.setIfInBounds i u=cs'):Mid T M w0 (w1.setCell ⟨bm,i,none⟩ u) B g bm r s1 cs':=by
 subst hcs;have hb:Below w0.heap.size w w1:=grown_below hg _ h.lo_g h.below.size;exact⟨hr.grown (grown_set w1 bm i u) h.B_bm h.g_bm,set_at (h.mark1 hg) i u,(Below.heap_setCell w1 _ u r h.bm_r.symm).trans ((hg.block r (lt_of_heap h.res) (by simp;exact h.g_r.symm)).trans h.res),h.g_bm,h.g_r,h.bm_r,h.B_bm,h.lo_bm,h.lo_g,h.lo_r,
  (h.below.trans hb).setCell (p:=⟨bm,i,none⟩) h.lo_bm u⟩
theorem Mid.call(h:Mid T M w0 w B g bm r s cs)(hr:Rdr T w1 B g s1)(hg:w.grownBy w1 (some g)):Mid T M w0 w1 B g bm r s1 cs:=
 ⟨hr,h.mark1 hg,(hg.block r (lt_of_heap h.res) (by simp;exact h.g_r.symm)).trans h.res,h.g_bm,h.g_r,h.bm_r,h.B_bm,h.lo_bm,h.lo_g,h.lo_r,h.below.trans (grown_below hg _ h.lo_g h.below.size)⟩
theorem Mid.start(hr:Rdr T w B g s)(hres:w.heap[r]? =some (.cells (mkC 0 0 0 0) M (0,0)))(hgr:g≠r)(hB:B≤w.heap.size)(hg:w0.heap.size≤g)(hr0:w0.heap.size≤r)(hb:Below w0.heap.size w0 w)(cs:Array Value):
  Mid T M w0 (w.alloc (.cells cs M)) B g w.heap.size r s cs:=
 ⟨hr.below (alloc_below w _),heap_alloc_new w _,(Below.heap_alloc w _ r (lt_of_heap hres)).trans hres,by have:=hr.lt;omega,hgr,by have:=lt_of_heap hres;omega,hB,hb.size,hg,hr0,hb.alloc hb.size _⟩
end
theorem four_set{W:World}{r:Nat}{T:TypeId}{p q s t:Int}(h:W.heap[r]? =some (.cells (mkC p q s t) T (0,0)))(a b c d:Int):
  ((((W.setCell ⟨r,0,none⟩ (.int .i64 a)).setCell ⟨r,1,none⟩ (.int .i64 b)).setCell ⟨r,2,none⟩ (.int .i64 c)).setCell ⟨r,3,none⟩ (.int .i64 d)).heap[r]? =some (.cells (mkC a b c d) T (0,0)):=
 set_at (set_at (set_at (set_at h 0 _) 1 _) 2 _) 3 _
theorem four_below{B:Nat}{w W:World}{r:Nat}(h:Below B w W)(hr:B≤r)(a b c d:Int):
  Below B w ((((W.setCell ⟨r,0,none⟩ (.int .i64 a)).setCell ⟨r,1,none⟩ (.int .i64 b)).setCell ⟨r,2,none⟩ (.int .i64 c)).setCell ⟨r,3,none⟩ (.int .i64 d)):=
 (((h.setCell (p:=⟨r,0,none⟩) hr _).setCell (p:=⟨r,1,none⟩) hr _).setCell (p:=⟨r,2,none⟩) hr _).setCell (p:=⟨r,3,none⟩) hr _
theorem fread_any(w:World)(B n c:Nat)(A:Option Addr)(xs:List UInt8)(h:Byts w B A n xs)(hB:B≤w.heap.size)(hn:32≤n)(hc:n≤c):Calls Tryz.prog 151 #[.slice A n c] w (EndsBelow (mkV (readM xs)) w):=by
 have hs:∀v,(Instr.slice 39 (.slice A n c) none (some (.int .i64 32)) none).run Tryz.prog v= .ok (.slice A 32 c) v:=fun v=>run_to v A n c 32 (by omega);have HC1:=hid (Cod.read_any (w.alloc (.cells (mkC 0 0 0 0) 158)) B 32 c A (xs.take 32) ((h.take 32 hn).alloc hB _) (by simp;omega) (by decide));have HM:Hid (readM xs=readFrom (tkS 2 ⟨xs.take 32,false⟩)):=hid rfl;clear h;unfold readFrom at HM;unfold mkC at HC1;go_enter Tryz.func151,Tryz.ntmps151;go_wp2_with fail;refine HC1.out.mono ?_;rintro e w1 ⟨B1,g,rfl,hr,hB1,hb⟩;have hgl:=hr.2.1;have HB:=hid ((alloc_below w _).trans (hb.mono (by simp)));have HR:=hid ((hb.block w.heap.size (by simp)).trans (heap_alloc_new w _));have hgr:g≠w.heap.size:=by simp at hB1;omega
 have hlg:w.heap.size≤g:=by simp at hB1;omega
 have HC2:=hid (small_any w1 B1 g _ hr);clear hr hb hs HC1 hB1;go_wp2_with fail;refine HC2.out.mono ?_;rintro e w2 ⟨rfl,hr,hg⟩;have hB2:B1≤w2.heap.size:=by have:=hr.lt;omega
 have HMid:=hid (Mid.start (w0:=w) (M:=158) (r:=w.heap.size) hr ((hg.block w.heap.size (by have:=HB.out.size;have:=lt_of_heap HR.out;omega) (by simp;exact hgr.symm)).trans HR.out) hgr hB2 hlg (Nat.le_refl _) (HB.out.trans (grown_below hg _ hlg HB.out.size)) (mkC 0 0 0 0));have HC3:=hid (small_any _ B1 g _ HMid.out.rdr);clear hr hg HC2 HR HB;generalize tkS 2 ⟨xs.take 32,false⟩=s1 at *;unfold mkC at HC3;go_wp2_with fail;refine HC3.out.mono ?_;rintro e w3 ⟨rfl,hr,hg⟩;have hm:=HMid.out.mark1 hg;unfold mkC at hm;have c0:=cell_at hm 0;have f0:=free_at hm 0;have HMid:=hid (HMid.out.step hr hg 0 (.int .i64 (small s1)) (mkC (small s1) 0 0 0) rfl);have HC4:=hid (num_any _ B1 g _ HMid.out.rdr);clear hr hg hm HC3;go_wp2_with fail;refine HC4.out.mono ?_;rintro e w4 ⟨rfl,hr,hg⟩;have hm:=HMid.out.mark1 hg;unfold mkC at hm;have c1:=cell_at hm 1;have f1:=free_at hm 1;have HMid:=hid (HMid.out.step hr hg 1 (.int .i64 (num (tkS 2 s1))) (mkC (small s1) (num (tkS 2 s1)) 0 0) rfl);have HC5:=hid (num_any _ B1 g _ HMid.out.rdr);clear hr hg hm HC4 c0 f0;go_wp2_with fail;refine HC5.out.mono ?_;rintro e w5 ⟨rfl,hr,hg⟩;have hm:=HMid.out.mark1 hg;unfold mkC at hm;have c2:=cell_at hm 2;have f2:=free_at hm 2;have HMid:=hid (HMid.out.step hr hg 2 (.int .i64 (num (tkS 8 (tkS 2 s1)))) (mkC (small s1) (num (tkS 2 s1)) (num (tkS 8 (tkS 2 s1))) 0) rfl);have HC6:=hid (num_any _ B1 g _ HMid.out.rdr);clear hr hg hm HC5 c1 f1;go_wp2_with fail;refine HC6.out.mono ?_;rintro e w6 ⟨rfl,hr,hg⟩;have hm:=HMid.out.mark1 hg;unfold mkC at hm;have c3:=cell_at hm 3;have f3:=free_at hm 3;have HMid:=hid (HMid.out.step hr hg 3 (.int .i64 (num (tkS 8 (tkS 8 (tkS 2 s1))))) (mkC (small s1) (num (tkS 2 s1)) (num (tkS 8 (tkS 2 s1))) (num (tkS 8 (tkS 8 (tkS 2 s1))))) rfl);clear hr hg hm HC6 c2 f2;generalize small s1=x0 at *;generalize num (tkS 2 s1)=x1 at *;generalize num (tkS 8 (tkS 2 s1))=x2 at *;generalize num (tkS 8 (tkS 8 (tkS 2 s1)))=x3 at *;go_upto_region 8 with fail;clear c3 f3;generalize w6.setCell ⟨w2.heap.size,3,none⟩ (.int .i64 x3)=W at *;have hk:=HMid.out.mark;have hr:=HMid.out.res;unfold mkC at hk hr;have k0:=cell_at hk 0;have k1:=cell_at hk 1;have k2:=cell_at hk 2;have k3:=cell_at hk 3;have r0:=cell_at hr 0;have r1:=cell_at hr 1;have r2:=cell_at hr 2;have r3:=cell_at hr 3;have q0:=free_at hr 0;have q1:=free_at hr 1;have q2:=free_at hr 2;have q3:=free_at hr 3;have HF:=hid (HMid.out.below);have HRR:=hid hr;clear hk hr;go_wp2_with fail;have hw:=four_set HRR.out x0 x1 x2 x3;have hf:=four_below HF.out (Nat.le_refl _) x0 x1 x2 x3;generalize (((W.setCell ⟨w.heap.size,0,none⟩ (.int .i64 (x0:Int))).setCell ⟨w.heap.size,1,none⟩ (.int .i64 x1)).setCell ⟨w.heap.size,2,none⟩ (.int .i64 x2)).setCell ⟨w.heap.size,3,none⟩ (.int .i64 x3)=W2 at *;have z0:=cell_at hw 0;have z1:=cell_at hw 1;have z2:=cell_at hw 2;have z3:=cell_at hw 3;refine bodyPost_ret (v:=mkV ⟨x0,x1,x2,x3⟩) (by simp[results,Tryz.results151,go_sem,z0,z1,z2,z3,mkC,mkV]) rfl ⟨by rw[HM.out],hf⟩
end Go.Proofs.YtdjhlhellkajfaaGreat.Frm
namespace Go.Proofs.YtdjhlhellkajfaaGreat.Frm
open Go.RowKit Codec FrameM Cod
def tupV (m:Mk) (b:Bool):Value:= .tuple #[mkV m,.bool b]
theorem fget_short(w:World)(n c:Nat)(A:Option Addr)(hn:n≠64)(hm:n≤maxLen):Calls Tryz.prog 127 #[.slice A n c] w (EndsBelow (tupV zeroM false) w):=by
 have hn1:((n:Int)!=64)=true:=by simp;omega
 have hm2:n≤9223372036854775807:=hm;clear hn;go_enter Tryz.func127,Tryz.ntmps127;go_wp2_with fail;exact bodyPost_ret (v:=tupV zeroM false) (by simp[results,Tryz.results127,go_sem,mkV,tupV,zeroM]) rfl ⟨rfl,alloc_below w _⟩
theorem fget_long(w:World)(B c:Nat)(A:Option Addr)(xs:List UInt8)(h:Byts w B A 64 xs)(hB:B≤w.heap.size)(hc:64≤c):Calls Tryz.prog 127 #[.slice A 64 c] w (EndsBelow (tupV (getM xs) (getB xs)) w):=by
 have HC1:=hid (fread_any (w.alloc (.cells (mkC 0 0 0 0) 158)) B 64 c A xs (h.alloc hB _) (by simp;omega) (by decide) hc);have HX:=hid h;have HL:=hid h.len;have HI:Hid (getB xs=decide (put (readM xs)=xs)):=hid (by simp[getB,isM,h.len]);clear h;unfold mkC at HC1;generalize hm:readM xs=m at *;have HM:=hid hm;clear hm;have HC2:=hid (fun u=>put_any m u);unfold mkV at HC1 HC2;go_enter Tryz.func127,Tryz.ntmps127;go_wp2_with fail;refine HC1.out.mono ?_;rintro e w1 ⟨rfl,hb1⟩;have hr1:=(hb1.block w.heap.size (by simp)).trans (heap_alloc_new w _);have hz1:=hb1.size;simp only[World.size_alloc] at hz1;have HBM:=hid (heap_alloc_new w1 (.cells (mkC m.kind m.gen m.seq m.n) 158));have HR2:=hid ((Below.heap_alloc w1 (.cells (mkC m.kind m.gen m.seq m.n) 158) _ (by omega)).trans hr1);have HB2:=hid (((alloc_below w _).trans (hb1.mono (by simp))).alloc (by omega) (.cells (mkC m.kind m.gen m.seq m.n) 158));clear hb1 hr1 HC1;unfold mkC at HBM HR2 HB2;obtain⟨k,g,s,n⟩:=m;dsimp only at *;go_upto_region 4 with fail;generalize w1.alloc (.cells #[.int .i64 k,.int .i64 g,.int .i64 s,.int .i64 n] 158)=W at *;have k0:=cell_at HBM.out 0;have k1:=cell_at HBM.out 1;have k2:=cell_at HBM.out 2;have k3:=cell_at HBM.out 3;go_wp2_with fail;refine(HC2.out W).mono ?_;rintro e w2 ⟨A2,c2,rfl,hb,hbl,_,_⟩;have HC3:=hid (equal_any w2 _ _ _ _ c2 c A2 A _ xs hb (HX.out.below ((HB2.out.trans (hbl.mono HB2.out.size)).mono hB)));have hbm:=(hbl.block w1.heap.size (lt_of_heap HBM.out)).trans HBM.out;have hr:=(hbl.block w.heap.size (lt_of_heap HR2.out)).trans HR2.out;have HB3:=hid (HB2.out.trans (hbl.mono HB2.out.size));clear HC2 HB2 HR2 HBM hb hbl k0 k1 k2 k3;have HBM:=hid hbm;have HR:=hid hr;clear hbm hr;go_wp2_with fail;refine HC3.out.mono ?_;rintro e w3 ⟨rfl,rfl⟩;rw[←HI.out];clear HC3 HI;cases hg:getB xs with
 |false=>
  have HG:=hid (getM_no hg);have HGB:=hid hg;clear hg;have HW:=hid (four_set HR.out 0 0 0 0);have HF:=hid (four_below HB3.out (Nat.le_refl _) 0 0 0 0);have r0:=cell_at HR.out 0;have r1:=cell_at HR.out 1;have r2:=cell_at HR.out 2;have r3:=cell_at HR.out 3;have q0:=free_at HR.out 0;have q1:=free_at HR.out 1;have q2:=free_at HR.out 2;have q3:=free_at HR.out 3;go_wp2_with fail;have hw:=HW.out;generalize (((w2.setCell ⟨w.heap.size,0,none⟩ (.int .i64 0)).setCell ⟨w.heap.size,1,none⟩ (.int .i64 0)).setCell ⟨w.heap.size,2,none⟩ (.int .i64 0)).setCell ⟨w.heap.size,3,none⟩ (.int .i64 0)=W2 at *;have z0:=cell_at hw 0;have z1:=cell_at hw 1;have z2:=cell_at hw 2;have z3:=cell_at hw 3;exact bodyPost_ret (v:=tupV zeroM false) (by simp[results,Tryz.results127,go_sem,z0,z1,z2,z3,mkV,mkC,tupV,zeroM]) rfl ⟨by rw[HG.out,HGB.out],HF.out⟩
 |true=>
  have HG:=hid (getM_yes hg);have HGB:=hid hg;clear hg;have HW:=hid (four_set HR.out k g s n);have HF:=hid (four_below HB3.out (Nat.le_refl _) k g s n);have r0:=cell_at HR.out 0;have r1:=cell_at HR.out 1;have r2:=cell_at HR.out 2;have r3:=cell_at HR.out 3;have q0:=free_at HR.out 0;have q1:=free_at HR.out 1;have q2:=free_at HR.out 2;have q3:=free_at HR.out 3;have k0:=cell_at HBM.out 0;have k1:=cell_at HBM.out 1;have k2:=cell_at HBM.out 2;have k3:=cell_at HBM.out 3;go_wp2_with fail;have hw:=HW.out;generalize (((w2.setCell ⟨w.heap.size,0,none⟩ (.int .i64 k)).setCell ⟨w.heap.size,1,none⟩ (.int .i64 g)).setCell ⟨w.heap.size,2,none⟩ (.int .i64 s)).setCell ⟨w.heap.size,3,none⟩ (.int .i64 n)=W2 at *;have z0:=cell_at hw 0;have z1:=cell_at hw 1;have z2:=cell_at hw 2;have z3:=cell_at hw 3;exact bodyPost_ret (v:=tupV ⟨k,g,s,n⟩ true) (by simp[results,Tryz.results127,go_sem,z0,z1,z2,z3,mkV,mkC,tupV]) rfl ⟨by rw[HG.out,HGB.out,HM.out],HF.out⟩
theorem fget_any(w:World)(B n c:Nat)(A:Option Addr)(xs:List UInt8)(h:Byts w B A n xs)(hB:B≤w.heap.size)(hc:n≤c)(hm:c≤maxLen):Calls Tryz.prog 127 #[.slice A n c] w (EndsBelow (tupV (getM xs) (getB xs)) w):=by
 by_cases hn:n=64
 ·subst hn;exact fget_long w B c A xs h hB hc
 have hg:getB xs=false:=by simp[getB,h.len,hn]
 rw[getM_no hg,hg];exact fget_short w n c A hn (by omega)
end Go.Proofs.YtdjhlhellkajfaaGreat.Frm
namespace Go.Proofs.YtdjhlhellkajfaaGreat.Frm
open Go.RowKit Codec FrameM Cod
def cutAt (A:Option Addr) (l m:Nat):Option Addr:=if m=l then A else A.map (·.add l)
theorem cut_lh(w:World)(A:Option Addr)(n c l h:Nat)(h1:l≤h)(h2:h≤c):
  (Instr.slice 39 (.slice A n c) (some (.int .i64 l)) (some (.int .i64 h)) none).run Tryz.prog w= .ok (.slice (cutAt A l c) (h-l) (c-l)) w:=by
 rw[run_slice_lh (P:=Tryz.prog) w 39 A n c Tryz.underlying39 .i64 .i64 l h (by omega) (by omega) (by omega),size5];simp[Result.andThen,sliced,cutAt]
theorem cut_lhm(w:World)(A:Option Addr)(n c l h m:Nat)(h1:l≤h)(h2:h≤m)(h3:m≤c):
  (Instr.slice 39 (.slice A n c) (some (.int .i64 l)) (some (.int .i64 h)) (some (.int .i64 m))).run Tryz.prog w= .ok (.slice (cutAt A l m) (h-l) (m-l)) w:=by
 rw[run_slice_lhm (P:=Tryz.prog) w 39 A n c Tryz.underlying39 .i64 .i64 .i64 l h m (by omega) (by omega) (by omega) (by omega),size5];simp[Result.andThen,sliced,cutAt]
theorem cut_hm(w:World)(A:Option Addr)(n c h m:Nat)(h2:h≤m)(h3:m≤c):
  (Instr.slice 39 (.slice A n c) none (some (.int .i64 h)) (some (.int .i64 m))).run Tryz.prog w= .ok (.slice A h m) w:=by
 rw[run_slice_hm (P:=Tryz.prog) w 39 A n c Tryz.underlying39 .i64 .i64 h m (by omega) (by omega) (by omega),size5];simp only[Result.andThen,sliced,Int.toNat_natCast,Nat.zero_mul,Nat.sub_zero];congr 2;split
 ·rfl
 cases A<;>simp[Addr.add]
theorem cut_l(w:World)(A:Option Addr)(n c l:Nat)(h1:l≤n):
  (Instr.slice 39 (.slice A n c) (some (.int .i64 l)) none none).run Tryz.prog w= .ok (.slice (cutAt A l c) (n-l) (c-l)) w:=run_from w A n c l h1
theorem Byts.cut{w:World}{B n:Nat}{A:Option Addr}{xs:List UInt8}(hb:Byts w B A n xs)(l h m:Nat)(h1:l≤h)(h2:h≤n)(h3:h≤m):Byts w B (cutAt A l m) (h-l) ((xs.drop l).take (h-l)):=
 ⟨by rw[List.length_take,List.length_drop,hb.len];omega,fun h0=>by
  obtain⟨b,off,rfl,hB,hc⟩:=hb.at_ (by omega);unfold cutAt;rw[if_neg (by omega)];refine⟨b,off+l,by rw[Option.map_some,plain_add],hB,fun j hj=> ?_⟩;rw[Nat.add_assoc,hc (l+j) (by omega)];simp[List.getD_eq_getElem?_getD,hj]⟩
end Go.Proofs.YtdjhlhellkajfaaGreat.Frm
