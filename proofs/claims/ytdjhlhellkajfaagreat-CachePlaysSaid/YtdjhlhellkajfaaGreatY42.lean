/-
  Texts QFRef, in one file. What each proves, and its conditions, stand at its head below.
-/
import Derived.Test.YtdjhlhellkajfaaGreatY8
import Derived.Test.YtdjhlhellkajfaaGreatY11
import Derived.Test.YtdjhlhellkajfaaGreatY41
import Derived.Deep.RegionHeld3
import Derived.ArgAppend
import Derived.Lib.SlBytesConst
set_option maxRecDepth 100000
set_option maxHeartbeats 2000000
open Go.Lib (hid)
namespace Go.Proofs.YtdjhlhellkajfaaGreat.Frm
open Go.RowKit Codec FrameM Cod
theorem ref_small_tm(w:World)(n:Int):
  Calls Tryz.prog 137 #[.slice (some ⟨w.heap.size,0,none⟩) 2 2,.int .i64 n] (tm w) (Grew (tm w) (w.heap.size+1) ([84,77]++encSmall n)):=by
 have hz:(tm w).heap.size=w.heap.size+1:=by simp[tm]
 have HT:=hid (tm_cell w);have HZ:=hid hz;have hz2:w.heap.size+1≤(tm w).heap.size:=by omega
 clear hz;rcases(show n<0∨(0≤n∧n≤65535)∨65535<n by omega) with h|⟨h,h2⟩|h;all_goals
  first
   |(have HX:=hid (small_bytes (tm w) n 0 0 (by unfold clip;omega) (by unfold clip;omega)))
   |(have HX:=hid (small_bytes (tm w) n (n%256) (n/256) (by unfold clip;omega) (by unfold clip;omega)))
   |(have HX:=hid (small_bytes (tm w) n 255 255 (by unfold clip;omega) (by unfold clip;omega)))
  generalize tm w=u at *;go_enter Tryz.func137,Tryz.ntmps137;go_wp2_with (at_builtin;(refine wpList_app_full _ rfl (.tmp 8) (.tmp 14) rfl ⟨w.heap.size,0,none⟩ 2 [84,77] rfl rfl (fun j hj=>(Below.cell (alloc_below u _) (by rw[plain_add];show w.heap.size<_;omega)).trans (HT.out j hj)) (u.heap.size+1) (some ⟨u.heap.size,0,none⟩) 2 2 (encSmall n) rfl HX.out (by decide) (by decide) ?_);intro A1 c1 w1 hown1 hg1;have HO1:=hid hown1;have HG1:=hid hg1;clear hown1 hg1);go_ret;have ho:=HO1.out;rw[World.size_alloc] at ho;exact⟨A1,4,c1,rfl,ho.lower (by omega),((Below.refl _ u).alloc hz2 _).grown HG1.out (by simp;omega) (fun k hk=>by cases hk)⟩
theorem box_kept2{w w':World}{m:Mk}(h:Below (w.heap.size+1) (w.alloc (.cells #[.int .i64 m.kind,.int .i64 m.gen,.int .i64 m.seq,.int .i64 m.n] 117)) w')(i:Nat):
  w'.cell? ⟨w.heap.size,i,none⟩=(#[.int .i64 m.kind,.int .i64 m.gen,.int .i64 m.seq,.int .i64 m.n]:Array Value)[i]? :=by
 rw[h.cell (p:=⟨w.heap.size,i,none⟩) (by show w.heap.size<_;omega)];exact cell_at (heap_alloc_new w _) i
def Next (w:World) (m:Mk) (xs:List UInt8) (e:Ending) (w':World):Prop:=
 ∃A n c,e= .returned (.slice A n c)∧Owns w' (w.heap.size+1) (.slice A n c) n xs∧Below (w.heap.size+1) (w.alloc (.cells #[.int .i64 m.kind,.int .i64 m.gen,.int .i64 m.seq,.int .i64 m.n] 117)) w'∧
  w'.cell? ⟨w.heap.size,1,none⟩=some (.int .i64 m.gen)∧w'.cell? ⟨w.heap.size,2,none⟩=some (.int .i64 m.seq)∧w'.cell? ⟨w.heap.size,3,none⟩=some (.int .i64 m.n)
theorem rnum_next(w w1:World)(m:Mk)(x:Int)(xs:List UInt8)(A:Option Addr)(n c:Nat)(hb:Below (w.heap.size+1) (w.alloc (.cells #[.int .i64 m.kind,.int .i64 m.gen,.int .i64 m.seq,.int .i64 m.n] 117)) w1)
  (ho:Owns w1 (w.heap.size+1) (.slice A n c) n xs) (hx:xs.length≤1000):Calls Tryz.prog 83 #[.slice A n c,.int .i64 x] w1 (Next w m (xs++encNum x)):=by
 have hn:=ho.len;refine(ref_num w1 (w.heap.size+1) n c A x xs ho (by omega) (sized hb)).mono ?_;rintro e w2 ⟨A2,n2,c2,rfl,h1,h2⟩;have h3:=hb.trans h2;exact⟨A2,n2,c2,rfl,h1,h3,box_kept2 h3 1,box_kept2 h3 2,box_kept2 h3 3⟩
theorem rhalf_any(m:Mk)(w:World):Calls Tryz.prog 109 #[mkV m] w (Cloned w 32 (half m)):=by
 have HBR:=hid (body_ref m);have HH:=hid (half_ref m);have HL:=hid (body_length m);have hsl:=crcOf_lt (body m);have hc1:=ref_small_tm (w.alloc (.cells #[.int .i64 m.kind,.int .i64 m.gen,.int .i64 m.seq,.int .i64 m.n] 117)) m.kind;have HB0:Hid (Below (w.heap.size+1) (w.alloc (.cells #[.int .i64 m.kind,.int .i64 m.gen,.int .i64 m.seq,.int .i64 m.n] 117)) (tm (w.alloc (.cells #[.int .i64 m.kind,.int .i64 m.gen,.int .i64 m.seq,.int .i64 m.n] 117)))):=
  hid ((Below.refl _ _).alloc (by simp) _)
 have kc:(convert 39 39 (.slice (some ⟨(w.alloc (.cells #[.int .i64 m.kind,.int .i64 m.gen,.int .i64 m.seq,.int .i64 m.n] 117)).heap.size,0,none⟩) 2 2)).run Tryz.prog ((w.alloc (.cells #[.int .i64 m.kind,.int .i64 m.gen,.int .i64 m.seq,.int .i64 m.n] 117)).alloc (.cells #[.int .u8 84,.int .u8 77] 5))=
   .ok (.slice (some ⟨(w.alloc (.cells #[.int .i64 m.kind,.int .i64 m.gen,.int .i64 m.seq,.int .i64 m.n] 117)).heap.size,0,none⟩) 2 2) (tm (w.alloc (.cells #[.int .i64 m.kind,.int .i64 m.gen,.int .i64 m.seq,.int .i64 m.n] 117))):=
  Lib.run_convert_bytes_const (P:=Tryz.prog) (w.alloc (.cells #[.int .i64 m.kind,.int .i64 m.gen,.int .i64 m.seq,.int .i64 m.n] 117)) 39 5 #[.int .u8 84,.int .u8 77] 2 2 Tryz.underlying39 Tryz.underlying5
 simp only[World.size_alloc] at hc1 kc;have hbx:=fun i=>(Below.cell HB0.out (p:=⟨w.heap.size,i,none⟩) (by show w.heap.size<_;omega)).trans (cell_at (heap_alloc_new w _) i);have hb0:(tm (w.alloc (.cells #[.int .i64 m.kind,.int .i64 m.gen,.int .i64 m.seq,.int .i64 m.n] 117))).cell? ⟨w.heap.size,0,none⟩=some (.int .i64 m.kind):=hbx 0;have HC1:=hid hc1;clear hc1;unfold mkV;obtain⟨k,g,s,n⟩:=m;dsimp only at *;go_enter Tryz.func109,Tryz.ntmps109;generalize tm (w.alloc (.cells #[.int .i64 k,.int .i64 g,.int .i64 s,.int .i64 n] 117))=u at *;clear hbx;go_wp2_with fail;refine HC1.out.mono ?_;rintro e w1 ⟨A1,m1,c1,rfl,ho1,hb1⟩;have HB1:=hid (HB0.out.trans (hb1.mono (Nat.le_succ _)));have HO:=hid (ho1.lower (base':=w.heap.size+1) (Nat.le_succ _));have b1:w1.cell? ⟨w.heap.size,1,none⟩=some (.int .i64 g):=box_kept2 (m:=⟨k,g,s,n⟩) HB1.out 1;have b2:w1.cell? ⟨w.heap.size,2,none⟩=some (.int .i64 s):=box_kept2 (m:=⟨k,g,s,n⟩) HB1.out 2;have b3:w1.cell? ⟨w.heap.size,3,none⟩=some (.int .i64 n):=box_kept2 (m:=⟨k,g,s,n⟩) HB1.out 3;have hz:=sized HB1.out;clear hb0 kc HC1 ho1 hb1;go_wp2_with fail;have HB:=hid HB1.out.drew;have HOO:Hid (Owns w1.drew (w.heap.size+1) (.slice A1 m1 c1) m1 ([84,77]++encSmall k)):=HO;have d1:w1.drew.cell? ⟨w.heap.size,1,none⟩=some (.int .i64 g):=b1;have d2:w1.drew.cell? ⟨w.heap.size,2,none⟩=some (.int .i64 s):=b2;have d3:w1.drew.cell? ⟨w.heap.size,3,none⟩=some (.int .i64 n):=b3;clear HB1 HO b1 b2 b3;go_region_held3 (fun w'=>w'.cell? ⟨w.heap.size,1,none⟩=some (.int .i64 g)∧w'.cell? ⟨w.heap.size,2,none⟩=some (.int .i64 s)∧w'.cell? ⟨w.heap.size,3,none⟩=some (.int .i64 n)) (first|(exact⟨by assumption,by assumption,by assumption⟩)|assumption|go_keep)
  (first
   |(go_at_call 83;refine(rnum_next w _ ⟨k,g,s,n⟩ _ _ _ _ _ HB.out HOO.out (by simp[encNum_length,encSmall_length])).mono ?_;rintro e w5 ⟨A5,m5,c5,rfl,ho5,hb5,c1',c2',c3'⟩;clear HB HOO;have HB:=hid hb5;have HOO:=hid ho5;clear ho5 hb5))
 have hl:=HOO.out.len;rw[←HBR.out] at HOO hl;rw[HL.out] at hl;subst hl;have HC3:=hid (rcrc_byts w5 _ _ c5 A5 _ HOO.out.byts (by decide));have hz5:=sized HB.out;clear c1' c2' c3' d1 d2 d3 HBR;generalize body ⟨k,g,s,n⟩=xs at *;generalize crcOf xs=S at *;go_wp2_with fail;refine HC3.out.mono ?_;rintro e w6 ⟨rfl,rfl⟩;go_wp2_with (at_builtin;(refine wpList_app _ rfl (.tmp 22) (.tmp 34) rfl (w.heap.size+1) (.slice A5 28 c5) 28 xs rfl (HOO.out.alloc _) (w5.heap.size+1) (some ⟨w5.heap.size,0,none⟩) 4 4 (le 4 S) rfl (four_bytes w5 S _ _ _ _ (by omega) (by omega) (by omega) (by omega)) (by decide) (by simp;omega) ?_);intro A6 c6 w6 hown1 hg1;have HO6:=hid hown1;have HG6:=hid hg1;clear hown1 hg1);go_ret;have ho6:=HO6.out.lower (base':=w.heap.size) (Nat.le_succ _);rw[←HH.out] at ho6;exact⟨A6,c6,rfl,ho6,(alloc_below w _).trans (((HB.out.alloc hz5 _).trans ((HOO.out.alloc _).below_own (by simp;omega) HG6.out)).mono (by omega))⟩
structure Boxed4 (w:World) (m:Mk) (w':World):Prop where
 below:Below (w.heap.size+1) (w.alloc (.cells #[.int .i64 m.kind,.int .i64 m.gen,.int .i64 m.seq,.int .i64 m.n] 117)) w'
 c0:w'.cell? ⟨w.heap.size,0,none⟩=some (.int .i64 m.kind)
 c1:w'.cell? ⟨w.heap.size,1,none⟩=some (.int .i64 m.gen)
 c2:w'.cell? ⟨w.heap.size,2,none⟩=some (.int .i64 m.seq)
 c3:w'.cell? ⟨w.heap.size,3,none⟩=some (.int .i64 m.n)
theorem boxed4{w w':World}{m:Mk}(h:Below (w.heap.size+1) (w.alloc (.cells #[.int .i64 m.kind,.int .i64 m.gen,.int .i64 m.seq,.int .i64 m.n] 117)) w'):Boxed4 w m w':=
 ⟨h,box_kept2 h 0,box_kept2 h 1,box_kept2 h 2,box_kept2 h 3⟩
theorem rput_any(m:Mk)(w:World):Calls Tryz.prog 62 #[mkV m] w (Gives w (put m)):=by
 have HC1:=hid (rright_any m (w.alloc (.cells #[.int .i64 m.kind,.int .i64 m.gen,.int .i64 m.seq,.int .i64 m.n] 117)));cases hr:m.right with
 |false=>
  rw[put_wrong hr];rw[hr] at HC1;clear hr;unfold mkV at HC1 ⊢;obtain⟨k,g,s,n⟩:=m;dsimp only at *;go_enter Tryz.func62,Tryz.ntmps62;go_wp2_with fail;refine HC1.out.mono ?_;rintro e w1 ⟨rfl,hb1⟩;go_wp2_with fail;go_ret;exact⟨none,0,rfl,Byts.none_,(alloc_below w _).trans (hb1.mono (by simp)),Nat.le_refl _,Nat.zero_le _,Above.none_⟩
 |true=>
  rw[put_right hr];rw[hr] at HC1;clear hr;have HC2:=hid (fun w1=>rhalf_any m w1);have HL:=hid (half_length m);unfold mkV at HC1 HC2 ⊢;obtain⟨k,g,s,n⟩:=m;dsimp only at *;generalize half ⟨k,g,s,n⟩=xs at *;go_enter Tryz.func62,Tryz.ntmps62;go_wp2_with fail;refine HC1.out.mono ?_;rintro e w1 ⟨rfl,hb1⟩;have hb1':=hb1.mono (B':=w.heap.size+1) (by simp);have HB:=hid (boxed4 (m:=⟨k,g,s,n⟩) hb1'.drew);have d0:=HB.out.c0;have d1:=HB.out.c1;have d2:=HB.out.c2;have d3:=HB.out.c3;dsimp only at d0 d1 d2 d3;clear hb1 HC1 hb1';go_wp2_with fail;go_region_held3 (fun w'=>w'.cell? ⟨w.heap.size,0,none⟩=some (.int .i64 k)∧w'.cell? ⟨w.heap.size,1,none⟩=some (.int .i64 g)∧w'.cell? ⟨w.heap.size,2,none⟩=some (.int .i64 s)∧w'.cell? ⟨w.heap.size,3,none⟩=some (.int .i64 n)) (first|(exact⟨by assumption,by assumption,by assumption,by assumption⟩)|assumption|go_keep)
   (first
    |(go_at_call 109;have HOa:=HO1.out;refine(HC2.out _).mono ?_;rintro e w6 ⟨A6,c6,rfl,ho6,hb6⟩;have HB2:=hid (boxed4 (m:=⟨k,g,s,n⟩) (HB1.out.below.trans (hb6.mono (sized HB1.out.below))));have HO2:=hid ho6.byts;have HO1':=hid (HOa.below hb6);have e0:=HB2.out.c0;have e1:=HB2.out.c1;have e2:=HB2.out.c2;have e3:=HB2.out.c3;dsimp only at e0 e1 e2 e3;clear ho6 hb6 HOa)
    |(go_at_call 109;refine(HC2.out _).mono ?_;rintro e w5 ⟨A5,c5,rfl,ho5,hb5⟩;have HB1:=hid (boxed4 (m:=⟨k,g,s,n⟩) (HB.out.below.trans (hb5.mono (sized HB.out.below))));have HO1:=hid (ho5.lower (base':=w.heap.size+1) (sized HB.out.below));have f0:=HB1.out.c0;have f1:=HB1.out.c1;have f2:=HB1.out.c2;have f3:=HB1.out.c3;dsimp only at f0 f1 f2 f3;clear ho5 hb5)
    |(refine step_app rfl (.tmp 7) (.tmp 9) rfl (w.heap.size+1) (.slice A5 32 c5) 32 xs rfl HO1'.out w6.heap.size A6 32 c6 xs rfl HO2.out (by decide) (sized HB2.out.below) ?_;intro A7 c7 w7 ho7 hg7;have HO7:=hid ho7;have HB7:=hid (boxed4 (m:=⟨k,g,s,n⟩) (HB2.out.below.trans (HO1'.out.below_own (sized HB2.out.below) hg7)));have g0:=HB7.out.c0;have g1:=HB7.out.c1;have g2:=HB7.out.c2;have g3:=HB7.out.c3;dsimp only at g0 g1 g2 g3;clear ho7 hg7))
  all_goals
   go_wp2_with fail;go_ret;exact Gives.of_own HO7.out ((alloc_below w _).trans (HB7.out.below.mono (by omega))) (by omega)
end Go.Proofs.YtdjhlhellkajfaaGreat.Frm
