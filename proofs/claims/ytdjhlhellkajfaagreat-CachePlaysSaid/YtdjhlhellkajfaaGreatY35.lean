/-
  Texts KSort, KGet, KPutc, KPta, in one file. What each proves, and its conditions, stand at its head below.
-/
import Derived.Test.YtdjhlhellkajfaaGreatY24
import Derived.Test.YtdjhlhellkajfaaGreatY29
import Derived.Test.YtdjhlhellkajfaaGreatY31
import Derived.Test.YtdjhlhellkajfaaGreatY33
import Derived.Test.YtdjhlhellkajfaaGreatY34
import Derived.Shelf.SlSortCmp.WholeK
import Derived.Shelf.SlSortCmp.NoneTotal
import Derived.Shelf.SlicesG.Cmp
import Derived.Deep.DeepCutAuto
set_option maxRecDepth 100000
set_option maxHeartbeats 4000000
open Go.Lib (hid)
namespace Go.Proofs.YtdjhlhellkajfaaGreat.Cch
open Go.RowKit Codec Cod Go.Shelf Go.Lib Go.Sort
open Disk (Turn)
instance:Inhabited Nmb:=⟨⟨⟨baOf [],baOf []⟩,0⟩⟩
def cfN (x y:Nmb):Int:=Lib.compareInt (x.n:Int) (y.n:Int)
theorem ltN(x y:Nmb):ltOf cfN x y=decide (x.n<y.n):=by
 unfold ltOf cfN Lib.compareInt;by_cases h1:x.n<y.n
 ·simp[h1]
 by_cases h2:y.n<x.n<;>simp[h1,h2]
theorem swoN:SWO (ltOf cfN) where
 irrefl x:=by rw[ltN];simp
 trans x y z h1 h2:=by rw[ltN] at *;simp at *;omega
 ntrans x y z h1 h2:=by rw[ltN] at *;simp at *;omega
theorem ord_closure(x y:Nmb)(W:World):Calls Tryz.prog 125 #[.agg #[.string x.e.k,.string x.e.v,.int .i64 (x.n:Int)],.agg #[.string y.e.k,.string y.e.v,.int .i64 (y.n:Int)]] W fun e w'=>e= .returned (.int .i64 (cfN x y))∧∃q os',w'=grow (W.drewN q) os':=by
 have hcon:=fun W'=>AnyG.cmp_Compare_int Tryz.cmpN (x.n:Int) (y.n:Int) W';change ∀W',Calls Tryz.prog 126 _ _ _ at hcon;unfold cfN;obtain⟨⟨xk,xv⟩,xn⟩:=x;obtain⟨⟨yk,yv⟩,yn⟩:=y;dsimp only at *;generalize Lib.compareInt (xn:Int) (yn:Int)=r at hcon ⊢;go_enter Tryz.func125,Tryz.ntmps125;go_wp2_with (go_at_call 126;refine(hcon _).mono ?_;rintro e w' ⟨rfl,rfl⟩);go_ret;exact⟨rfl,0,_,by rw[alloc_eq_grow,alloc_eq_grow,grow_grow];rfl⟩
theorem ord_lays(blk off size:Nat)(w:World):CmpLays Tryz.prog 125 #[] nmbV 3 cfN blk off size w:=fun _ _ _ _ x y=>ord_closure x y _
theorem sw_blk{w:World}{g n:Nat}{C:Array Value}{T:TypeId}{fr:Nat×Nat}{d:Array Nmb}{os:Array Obj}(h:w.heap[g]? =some (.cells C T fr)):(sortWorldK nmbV 3 w g 0 n d os).heap[g]? =some (.cells (putCells id 0 (flatK nmbV 3 d) C) T fr):=by
 have hlt:=Cod.lt_of_heap h;show(w.heap.modify g (onCells (putCells id 0 (flatK nmbV 3 d)))++os)[g]? =_;rw[Array.getElem?_append_left (by simpa using hlt),Array.getElem?_modify,if_pos rfl,h];rfl
theorem sw_other{w:World}{g n q:Nat}{d:Array Nmb}{os:Array Obj}(hq:q<w.heap.size)(hne:q≠g):(sortWorldK nmbV 3 w g 0 n d os).heap[q]? =w.heap[q]? :=by
 show(w.heap.modify g (onCells (putCells id 0 (flatK nmbV 3 d)))++os)[q]? =_;rw[Array.getElem?_append_left (by simpa using hq),Array.getElem?_modify,if_neg (Ne.symm hne)]
theorem sw_turn(w:World)(g n:Nat)(d:Array Nmb)(os:Array Obj):Turn [g] w (sortWorldK nmbV 3 w g 0 n d os):=by
 refine⟨rfl,rfl,rfl,?_,fun k hk hm=>sw_other hk (by simpa using hm)⟩;show w.heap.size≤(w.heap.modify g (onCells (putCells id 0 (flatK nmbV 3 d)))++os).size;rw[Array.size_append,Array.size_modify];omega
theorem flat_at{d:Array Nmb}{p r:Nat}(hp:p<d.size)(hr:r<3):(flatK nmbV 3 d)[p * 3+r]! =(nmbV d[p]!)[r]! :=by
 rw[get_flatK nmbV 3 d _ (by omega),show(p * 3+r)/3=p by omega,show(p * 3+r)%3=r by omega]
theorem sort_nil(w:World)(fv:Value):Calls Tryz.prog 124 #[.slice none 0 0,fv] w (fun e w'=>e= .returned (.tuple #[])∧w'=w):=AnyF.slices_SortFunc_none Tryz.sortN none 0 fv w
theorem sort_any(w:World)(lo:Nat)(v:Value)(l:List Nmb)(h:OwnN w lo v l)(hn:l.length≤1000000):
  Calls Tryz.prog 124 #[v,.func (.func 125) #[] #[]] w (Sorted_ w lo v l):=by
 obtain⟨g,cap,C,rfl,hlo,hh,hs,h1,h2,he⟩:=h;have eg:∀args w,(callFunc 125 args).run Tryz.prog w= .ok (.enter 125 args) w:=enters_of Tryz.func125 (by kernel_rfl) rfl;have hH:HoldsK nmbV 3 w g 0 l.toArray:=fun j hj=>by
  rw[size_flatK] at hj;have hj3:j<l.length * 3:=by simpa using hj
  refine⟨?_,free_at hh _⟩;rw[Nat.zero_add,cell_at hh];obtain⟨P,R,hR,rfl⟩:∃P R,R<3∧j=P * 3+R:=⟨j/3,j%3,by omega,by omega⟩
  have hP:P<l.length:=by omega
  obtain⟨e0,e1,e2⟩:=he P l[P] (List.getElem?_eq_getElem hP);rw[flat_at (by simpa using hP) hR];have hd:l.toArray[P]! =l[P]:=by simp[hP]
  rw[hd];rcases(show R=0∨R=1∨R=2 by omega) with rfl|rfl|rfl
  ·simpa [nmbV] using e0
  ·simpa [nmbV] using e1
  simpa [nmbV] using e2
 have hcon:=AnyQ.slices_SortFunc Tryz.sortN 3 Tryz.isAgg188 Tryz.sizeOf188 nmbV (fun _=>rfl) (fun x v hv=>by
  simp only[nmbV,List.mem_cons,List.not_mem_nil,or_false] at hv;rcases hv with rfl|rfl|rfl<;>rfl) cfN swoN 125 #[] g 0 cap l.toArray w eg (ord_lays g 0 _ w) hH (Cod.lt_of_heap hh) (by simp;omega)
 refine(show Calls Tryz.prog 124 _ _ _ from hcon).mono ?_;rintro e w' ⟨rfl,d',n,os,⟨hp1,hp2,hp3⟩,hso,rfl⟩;have hsz:d'.size=l.length:=by simpa using hp1
 have hlen:d'.toList.length=l.length:=by rw[Array.length_toList];exact hsz
 refine⟨rfl,d'.toList,⟨g,cap,_,by rw[hlen],hlo,sw_blk hh,by simp[putCells];exact hs,by rw[hlen];exact h1,h2,fun p x hx=> ?_⟩,?_,?_,?_⟩
 ·have hp:p<d'.size:=by have:=(List.getElem?_eq_some_iff.1 hx).1;simpa using this
  have hxx:d'[p]! =x:=by
   rw[Array.getElem?_toList,Array.getElem?_eq_getElem hp] at hx;injection hx with hx;rw[getElem!_pos d' p hp];exact hx
  have e:∀r,r<3→(putCells id 0 (flatK nmbV 3 d') C)[p * 3+r]? =some ((nmbV x)[r]!):=fun r hr=>by
   have hlt:p * 3+r<C.size:=by rw[hs];omega
   unfold putCells;rw[Array.getElem?_mapIdx,Array.getElem?_eq_getElem hlt];simp only[Option.map_some];rw[if_pos (by rw[size_flatK];omega),Nat.sub_zero,flat_at hp hr,hxx];rfl
  exact⟨e 0 (by omega),e 1 (by omega),e 2 (by omega)⟩
 ·have e1:d'.extract 0 l.toArray.size=d':=by
   rw[show l.toArray.size=d'.size by simp[hsz]];simp
  have e2:l.toArray.extract 0 l.toArray.size=l.toArray:=by simp
  rw[e1,e2] at hp3;exact hp3
 ·rw[List.pairwise_iff_getElem];intro i j hi hj hij;have hi':i<d'.size:=by simpa using hi
  have hj':j<d'.size:=by simpa using hj
  have:=hso i j (Nat.zero_le _) hij (by simp;omega);rw[ltN] at this;rw[getElem!_pos d' i hi',getElem!_pos d' j hj'] at this;simp only[decide_eq_false_iff_not] at this;simp only[Array.getElem_toList];omega
 exact sw_turn w g n d' os
theorem sorts:Sorts:=⟨fun w=>sort_nil w _,sort_any⟩
end Go.Proofs.YtdjhlhellkajfaaGreat.Cch
namespace Go.Proofs.YtdjhlhellkajfaaGreat.Cch
open Go.RowKit Codec Cod
open Disk (Turn Dk Dsk ptr)
open JourM (Jr)
open Jou (Jn It)
theorem sclone_any(w:World)(s:ByteArray)(h:s.size≤281474976710656):Calls Tryz.prog 92 #[.string s] w (EndsBelow (.string s) w):=by
 have HC:=hid (fun u=>show Calls Tryz.prog 123 #[.string s] u _ from AnyPu.stringslite_Clone Tryz.cloneA s u h);clear h;go_enter Tryz.func92,Tryz.ntmps92;go_wp2_with fail;refine(HC.out w).mono ?_;rintro e u ⟨rfl,hb⟩;go_wp2_with fail;go_ret;exact⟨rfl,hb⟩
section
variable {w w':World} {c lo b lj j g gs gm last last':Nat} {d d':Dsk} {jr jr':Jr} {v v':Value} {N N':List Nmb} {ev ev':Int}
theorem cget_any(h:Ch w c lo b lj j g gs gm d jr v N last ev)(hN:N.length≤1000000)(key:ByteArray)(hk:key.size≤1000000000)(hv:(fndE N key).v.size≤1000000000):Calls Tryz.prog 43 #[ptr c,.string key] w (EndsBelow (.tuple #[.string (fndE N key).v,.bool (fndB N key)]) w):=by
 have HM:=hid (made_any h);have HF:=hid (find_any w c 1 lo b last N key h.sh hN hk);have HC:=hid (fun u=>sclone_any u (fndE N key).v (by omega));clear h hk hv;generalize fndE N key=en at *;generalize fndB N key=bn at *;obtain⟨ek,ev2⟩:=en;unfold entV at *;unfold ptr at *;dsimp only at *;go_enter Tryz.func43,Tryz.ntmps43;go_wp2_with fail;refine HM.out.mono ?_;rintro e u ⟨rfl,rfl⟩;go_wp2_with fail;refine HF.out.mono ?_;rintro e w1 ⟨rfl,hb1⟩;have HB1:=hid hb1;clear hb1;go_wp2_with fail;refine(HC.out _).mono ?_;rintro e w2 ⟨rfl,hb2⟩;have HB2:=hid ((HB1.out.alloc HB1.out.size _).trans (hb2.mono (by have:=HB1.out.size;simp;omega)));clear hb2;go_wp2_with fail;go_ret2;exact⟨rfl,HB2.out⟩
end
end Go.Proofs.YtdjhlhellkajfaaGreat.Cch
namespace Go.Proofs.YtdjhlhellkajfaaGreat.Cch
open Go.RowKit Codec Cod
open Disk (Turn Dk Dsk ptr)
open JourM (Jr appE appD appJ)
open Jou (Jn It)
theorem eclone_any(w:World)(e:Ent)(h:e.k.size≤281474976710656∧e.v.size≤281474976710656):Calls Tryz.prog 90 #[entV e] w (EndsBelow (entV e) w):=by
 obtain⟨ek,ev⟩:=e;have HK:=hid h;unfold entV;dsimp only at *;clear h;go_enter Tryz.func90,Tryz.ntmps90;go_upto_region 1 with fail;have h2:=heap_alloc_new (w.alloc (.cells #[.string ek,.string ev] 62 (0,0))) (.cells #[.string ⟨#[]⟩,.string ⟨#[]⟩] 62 (0,0));have h1:=(Below.heap_alloc (w.alloc (.cells #[.string ek,.string ev] 62 (0,0))) (.cells #[.string ⟨#[]⟩,.string ⟨#[]⟩] 62 (0,0)) w.heap.size (by simp)).trans (heap_alloc_new w (.cells #[.string ek,.string ev] 62 (0,0)));rw[World.size_alloc] at h2;have HS:Hid (((w.alloc (.cells #[.string ek,.string ev] 62 (0,0))).alloc (.cells #[.string ⟨#[]⟩,.string ⟨#[]⟩] 62 (0,0))).drew.heap[w.heap.size]? =some (.cells #[.string ek,.string ev] 62 (0,0))∧((w.alloc (.cells #[.string ek,.string ev] 62 (0,0))).alloc (.cells #[.string ⟨#[]⟩,.string ⟨#[]⟩] 62 (0,0))).drew.heap[w.heap.size+1]? =some (.cells #[.string ⟨#[]⟩,.string ⟨#[]⟩] 62 (0,0))):=hid ⟨h1,h2⟩;have HB:Hid (Below w.heap.size w ((w.alloc (.cells #[.string ek,.string ev] 62 (0,0))).alloc (.cells #[.string ⟨#[]⟩,.string ⟨#[]⟩] 62 (0,0))).drew):=hid (((Below.refl _ w).alloc (Nat.le_refl _) _).alloc (by simp) _).drew;clear h1 h2;refine Frm.wh_start (fun u=>u.heap[w.heap.size]? =some (.cells #[.string ek,.string ev] 62 (0,0))) (by kernel_rfl) ?_;generalize ((w.alloc (.cells #[.string ek,.string ev] 62 (0,0))).alloc (.cells #[.string ⟨#[]⟩,.string ⟨#[]⟩] 62 (0,0))).drew=u0 at *;refine Frm.wb 0 3 (.pointer (some ⟨w.heap.size,0,none⟩)) HS.out.1 ?_;go_frame;refine Frm.wd 1 4 (.string ek) HS.out.1 (fun w' hw'=> ?_) ?_
 ·have h1:=cell_at hw' 0;go_simp
 go_frame;refine Frm.wb 3 6 (.pointer (some ⟨w.heap.size,1,none⟩)) HS.out.1 ?_;go_frame;refine Frm.wd 4 7 (.string ev) HS.out.1 (fun w' hw'=> ?_) ?_
 ·have h1:=cell_at hw' 1;go_simp
 go_frame;refine Frm.wh_call 2 5 92 #[.string ek] rfl rfl (by kernel_rfl) rfl ?_ ?_
 ·go_simp
 refine(sclone_any u0 ek HK.out.1).mono ?_;rintro e w1 ⟨rfl,hb1⟩;have HB1:=hid (HB.out.trans (hb1.mono HB.out.size));have HS1:=hid (And.intro ((hb1.block _ (lt_of_heap HS.out.1)).trans HS.out.1) ((hb1.block _ (lt_of_heap HS.out.2)).trans HS.out.2));clear hb1 HS HB;have HS:=HS1;have HB:=HB1;clear HS1 HB1;refine⟨_,rfl,HS.out.1,?_⟩;go_frame;refine Frm.wh_call 5 8 92 #[.string ev] rfl rfl (by kernel_rfl) rfl ?_ ?_
 ·go_simp
 refine(sclone_any w1 ev HK.out.2).mono ?_;rintro e w3 ⟨rfl,hb3⟩;have HB3:=hid (HB.out.trans (hb3.mono HB.out.size));have HS3:=hid (And.intro ((hb3.block _ (lt_of_heap HS.out.1)).trans HS.out.1) ((hb3.block _ (lt_of_heap HS.out.2)).trans HS.out.2));clear hb3 HS HB;have HS:=HS3;have HB:=HB3;clear HS3 HB3;refine⟨_,rfl,HS.out.1,?_⟩;go_frame;refine Frm.wb 6 9 (.agg #[.string ek,.string ev]) HS.out.1 ?_;go_frame;have hz:=HS.out.2;have f0:=free_at hz 0;have f1:=free_at hz 1;have k0:=cell_at hz 0;have k1:=cell_at hz 1;have HST:=hid (set_at (set_at hz 0 (.string ek)) 1 (.string ev));have HBE:Hid (Below w.heap.size w ((w3.setCell ⟨w.heap.size+1,0,none⟩ (.string ek)).setCell ⟨w.heap.size+1,1,none⟩ (.string ev))):=hid ((HB.out.setCell (by show w.heap.size≤w.heap.size+1;omega) _).setCell (by show w.heap.size≤w.heap.size+1;omega) _);have HS9:Hid (((w3.setCell ⟨w.heap.size+1,0,none⟩ (.string ek)).setCell ⟨w.heap.size+1,1,none⟩ (.string ev)).heap[w.heap.size]? =some (.cells #[.string ek,.string ev] 62 (0,0))):=hid (((Below.heap_setCell _ _ _ _ (by simp)).trans (Below.heap_setCell _ _ _ _ (by simp))).trans HS.out.1);refine Frm.wh_store 7 ((w3.setCell ⟨w.heap.size+1,0,none⟩ (.string ek)).setCell ⟨w.heap.size+1,1,none⟩ (.string ev)) rfl rfl (by kernel_rfl) rfl ?_ HS9.out ?_
 ·go_simp
 clear f0 f1 k0 k1 hz;refine wpAnyH_done (by kernel_rfl) ?_ _;go_wp2_with fail;have y0:=cell_at HST.out 0;have y1:=cell_at HST.out 1;exact bodyPost_ret (v:= .agg #[.string ek,.string ev]) (by simp[results,Tryz.results90,go_sem,y0,y1]) rfl ⟨rfl,HBE.out⟩
end Go.Proofs.YtdjhlhellkajfaaGreat.Cch
namespace Go.Proofs.YtdjhlhellkajfaaGreat.Cch
open Go.RowKit Codec Cod
open Disk (Turn Dk Dsk ptr)
open JourM (Jr appE appD appJ)
open Jou (Jn It)
def putN (z:Int) (N:List Nmb) (last:Nat) (e:Ent):List Nmb:=if z=0 then lay N last e else N
def putL (z:Int) (last:Nat):Nat:=if z=0 then last+1 else last
def Putted (w:World) (c lo b lj j g gs gm:Nat) (v:Value) (z:Int) (d':Dsk) (jr':Jr) (N':List Nmb) (last':Nat) (ev':Int) (e:Ending) (w':World):Prop:=
 e= .returned (.int .i64 z)∧∃v',Ch w' c lo b lj j g gs gm d' jr' v' N' last' ev'∧FrC lo c b j g gs gm v w w'∧∀r,v'.ownBlock=some r→v.ownBlock=some r∨w.heap.size≤r
section
variable {w:World} {c lo b lj j g gs gm last:Nat} {d:Dsk} {jr:Jr} {v:Value} {N:List Nmb} {ev0:Int}
theorem cput_down(h:Ch w c lo b lj j g gs gm d jr v N last ev0)(e:Ent)(hdn:jr.down=true):Calls Tryz.prog 41 #[ptr c,.string e.k,.string e.v] w (EndsBelow (.int .i64 3) w):=by
 obtain⟨ek,ev⟩:=e;dsimp only;have HM:=hid (fun u (hb:Below w.heap.size w u)=>made_any (h.below hb));have HD:=hid (fun u (hb:Below w.heap.size w u)=>cdown_any (h.below hb));rw[hdn] at HD;have hab:=Frm.alloc_below w (.cells #[.string ek,.string ev] 62);unfold ptr at *;clear h hdn;go_enter Tryz.func41,Tryz.ntmps41;go_upto_region 2 with fail;generalize w.alloc (.cells #[.string ek,.string ev] 62 (0,0))=w1 at *;have HB1:=hid hab;have HM1:=hid (HM.out w1 hab);have HD1:=hid (HD.out w1 hab);clear hab HM HD;go_wp2_with fail;refine HM1.out.mono ?_;rintro e u ⟨rfl,rfl⟩;go_wp2_with fail;refine HD1.out.mono ?_;rintro e u ⟨rfl,rfl⟩;go_wp2_with fail;go_ret;exact⟨rfl,HB1.out⟩
theorem cput_same(h:Ch w c lo b lj j g gs gm d jr v N last ev0)(hN:N.length≤1000000)(e:Ent)(hk:e.k.size≤65536)(hs:sizeE e≤1048576)(hdn:jr.down=false)(hf:fndB N e.k=true)(hfe:fndE N e.k=e):
  Calls Tryz.prog 41 #[ptr c,.string e.k,.string e.v] w (EndsBelow (.int .i64 0) w):=by
 have hfe':=hid hfe;obtain⟨ek,ev⟩:=e;dsimp only at *;have HAL:=Frm.alloc_below w (.cells #[.string ek,.string ev] 62);have HXA:=heap_alloc_new w (.cells #[.string ek,.string ev] 62);obtain⟨bx,hbx⟩:∃bx,w.heap.size=bx:=⟨_,rfl⟩
 obtain⟨w1,hw1⟩:∃w1,w.alloc (.cells #[.string ek,.string ev] 62 (0,0))=w1:=⟨_,rfl⟩
 rw[hw1] at HAL HXA;have HH1:=hid (h.below HAL);have HM:=hid (made_any HH1.out);have HD:=hid (cdown_any HH1.out);rw[hdn] at HD;have HSE:=hid (size_any w1 ⟨ek,ev⟩ (by unfold sizeE at hs;dsimp only at hs ⊢;omega));have HFI:=hid (fun u (hb:Below w1.heap.size w1 u)=>find_any u c 1 lo b last N ek (HH1.out.below hb).sh hN (by omega));have HSV:Hid (sizeE ⟨ek,ev⟩=sizeE ⟨ek,ev⟩):=hid rfl;unfold entV at HSE;dsimp only at HSE;unfold ptr at *;have hsi:(sizeE ⟨ek,ev⟩:Int)≤1048576:=by omega
 have hki:(ek.size:Int)≤65536:=by omega
 have HAL:=hid HAL;have HXA:=hid HXA;rw[hbx] at HXA;clear h hN hs hdn;rw[hf] at HFI;clear hf;rw[show fndE N ek=⟨ek,ev⟩ from hfe'.out] at HFI;unfold entV at HFI;dsimp only at HFI;clear hfe';generalize hsz:sizeE ⟨ek,ev⟩=sz at hsi HSE;have HSZE:=hid hsz;clear hsz;go_enter Tryz.func41,Tryz.ntmps41;go_upto_region 2 with fail;have k0:=cell_at HXA.out 0;have k1:=cell_at HXA.out 1;clear hw1;go_wp2_with fail;refine HM.out.mono ?_;rintro e u ⟨rfl,rfl⟩;go_wp2_with fail;refine HD.out.mono ?_;rintro e u ⟨rfl,rfl⟩;go_wp2_with fail;refine(HSE.out).mono ?_;rintro e w2 ⟨rfl,hb2⟩;have HF2:=hid (HFI.out w2 hb2);have HH2:=hid (HH1.out.below hb2);have HB2:=hid (HAL.out.trans (hb2.mono HAL.out.size));have HX2:=hid ((hb2.block bx (lt_of_heap HXA.out)).trans HXA.out);clear hb2 HFI HSE HM HD HXA HAL k0 k1 HH1;go_wp2_with fail;refine HF2.out.mono ?_;rintro e w9 ⟨rfl,hb9⟩;have HH9:=hid (HH2.out.below hb9);have HB9:=hid (HB2.out.trans (hb9.mono HB2.out.size));have HX9:=hid ((hb9.block bx (lt_of_heap HX2.out)).trans HX2.out);clear hb9 HF2 HH2 HB2 HX2;go_upto_region 9 with fail;obtain⟨bo,hbo⟩:∃bo,w9.heap.size=bo:=⟨_,rfl⟩
 have hal3:=Frm.alloc_below w9 (.cells #[.string ek,.string ev] 62);have HO3:=hid (heap_alloc_new w9 (.cells #[.string ek,.string ev] 62));have HH3:=hid (HH9.out.below hal3);have HB3:=hid (HB9.out.trans (hal3.mono HB9.out.size));have HX3:=hid ((hal3.block bx (lt_of_heap HX9.out)).trans HX9.out);clear hal3 HH9 HB9 HX9;rw[hbo] at HO3 ⊢;generalize w9.alloc (.cells #[.string ek,.string ev] 62)=w3 at *;clear hbo;have k0:=cell_at HX3.out 0;have k1:=cell_at HX3.out 1;have o0:=cell_at HO3.out 0;have o1:=cell_at HO3.out 1;go_wp2_with fail;go_ret;exact⟨rfl,HB3.out⟩
theorem cput_app(h:Ch w c lo b lj j g gs gm d jr v N last ev0)(hN:N.length≤1000000)(hla:last≤1000000000)(e:Ent)(hk:e.k.size≤65536)(hs:sizeE e≤1048576)(hdn:jr.down=false)(hf:fndB N e.k=true→(fndE N e.k).k=e.k∧(fndE N e.k).v≠e.v)(z:Int)(hz:appE d jr (packE e)=z)(hz2:z≠2):
  Calls Tryz.prog 41 #[ptr c,.string e.k,.string e.v] w (Putted w c lo b lj j g gs gm v z (appD d jr (packE e)) (appJ d jr (packE e)) (putN z N last e) (putL z last) ev0):=by
 have HFF:=hid hf;have HZ:=hid hz;have HLA:=hid hla;have HNL:=hid hN;have HSZ:Hid (e.k.size+e.v.size≤900000000):=hid (by unfold sizeE at hs;omega);have HKV:Hid (e.k.size≤281474976710656∧e.v.size≤281474976710656):=hid (by have:=HSZ.out;omega);have HKK:Hid (e.k.size≤1000000000):=hid (by omega);have HBW:=hid h.sh.bk.lt;have HXO:Hid (∀q∈JOwn j g gs gm v,q<w.heap.size):=hid h.own_lt;clear hf hz hla;obtain⟨ek,ev⟩:=e;dsimp only at *;have HAL:=Frm.alloc_below w (.cells #[.string ek,.string ev] 62);have HXA:=heap_alloc_new w (.cells #[.string ek,.string ev] 62);obtain⟨bx,hbx⟩:∃bx,w.heap.size=bx:=⟨_,rfl⟩
 obtain⟨w1,hw1⟩:∃w1,w.alloc (.cells #[.string ek,.string ev] 62 (0,0))=w1:=⟨_,rfl⟩
 rw[hw1] at HAL HXA;have HH1:=hid (h.below HAL);have HM:=hid (made_any HH1.out);have HD:=hid (cdown_any HH1.out);rw[hdn] at HD;have HSE:=hid (size_any w1 ⟨ek,ev⟩ (by unfold sizeE at hs;dsimp only at hs ⊢;omega));have HFI:=hid (fun u (hb:Below w1.heap.size w1 u)=>find_any u c 1 lo b last N ek (HH1.out.below hb).sh hN (by omega));have HSV:Hid (sizeE ⟨ek,ev⟩=sizeE ⟨ek,ev⟩):=hid rfl;unfold entV at HSE;dsimp only at HSE;unfold ptr at *;have hsi:(sizeE ⟨ek,ev⟩:Int)≤1048576:=by omega
 have hki:(ek.size:Int)≤65536:=by omega
 have HAL:=hid HAL;have HXA:=hid HXA;rw[hbx] at HXA;clear h hN hs hdn;generalize fndE N ek=en at *;generalize fndB N ek=bn at *;obtain⟨fk,fv⟩:=en;unfold entV at HFI;dsimp only at *;generalize hsz:sizeE ⟨ek,ev⟩=sz at hsi HSE;have HSZE:=hid hsz;clear hsz;go_enter Tryz.func41,Tryz.ntmps41;go_upto_region 2 with fail;have k0:=cell_at HXA.out 0;have k1:=cell_at HXA.out 1;clear hw1;go_wp2_with fail;refine HM.out.mono ?_;rintro e u ⟨rfl,rfl⟩;go_wp2_with fail;refine HD.out.mono ?_;rintro e u ⟨rfl,rfl⟩;go_wp2_with fail;refine(HSE.out).mono ?_;rintro e w2 ⟨rfl,hb2⟩;have HF2:=hid (HFI.out w2 hb2);have HH2:=hid (HH1.out.below hb2);have HB2:=hid (HAL.out.trans (hb2.mono HAL.out.size));have HX2:=hid ((hb2.block bx (lt_of_heap HXA.out)).trans HXA.out);clear hb2 HFI HSE HM HD HXA HAL k0 k1 HH1;go_wp2_with fail;refine HF2.out.mono ?_;rintro e w9 ⟨rfl,hb9⟩;have HH9:=hid (HH2.out.below hb9);have HB9:=hid (HB2.out.trans (hb9.mono HB2.out.size));have HX9:=hid ((hb9.block bx (lt_of_heap HX2.out)).trans HX2.out);clear hb9 HF2 HH2 HB2 HX2;go_upto_region 9 with fail;obtain⟨bo,hbo⟩:∃bo,w9.heap.size=bo:=⟨_,rfl⟩
 have hal3:=Frm.alloc_below w9 (.cells #[.string fk,.string fv] 62);have HO3:=hid (heap_alloc_new w9 (.cells #[.string fk,.string fv] 62));have HH3:=hid (HH9.out.below hal3);have HB3:=hid (HB9.out.trans (hal3.mono HB9.out.size));have HX3:=hid ((hal3.block bx (lt_of_heap HX9.out)).trans HX9.out);clear hal3 HH9 HB9 HX9;rw[hbo] at HO3 ⊢;generalize w9.alloc (.cells #[.string fk,.string fv] 62)=w3 at *;clear hbo;have k0:=cell_at HX3.out 0;have k1:=cell_at HX3.out 1;have o0:=cell_at HO3.out 0;have o1:=cell_at HO3.out 1;clear HO3;have HBX:=hid hbx;go_cut [43] (fun x wc=>x= .bool false∧wc=w3)
 case first=>
  cases bn with
  |false=>
   go_wp2_with fail;go_meet
   exact⟨rfl,rfl⟩
  |true=>
   obtain⟨rfl,hne⟩:=HFF.out rfl;have hvn:=ba_ne hne;clear hne;go_wp2_with fail;go_meet
   exact⟨rfl,rfl⟩
 case rest=>
  obtain⟨rfl,rfl⟩:=hcut;clear HFF k0 k1 o0 o1 HSZE hki;have HH2:=hid HH3.out;have HB2:=hid HB3.out;have HX2:=hid HX3.out;clear HH3 HB3 HX3;obtain⟨w2,rfl⟩:∃u:World,u=wc:=⟨_,rfl⟩
  have HXO2:Hid (bx∉JOwn j g gs gm v):=hid (fun hm=>by have:=HXO.out bx hm;have:=HBX.out;omega);go_upto_region 11 with fail;have HS:Hid (w2.drew.cell? ⟨c,0,none⟩=some (.pointer (some ⟨j,0,none⟩))∧w2.drew.heap[bx]? =some (.cells #[.string ek,.string ev] 62 (0,0))):=hid ⟨HH2.out.c0,HX2.out⟩;have HH3:=hid (HH2.out.below (Below.refl w2.heap.size w2).drew);have HB3:=hid (HB2.out.drew);clear HH2 HX2 HB2;refine Frm.wh_start (fun u=>u.cell? ⟨c,0,none⟩=some (.pointer (some ⟨j,0,none⟩))∧u.heap[bx]? =some (.cells #[.string ek,.string ev] 62 (0,0))) (by kernel_rfl) ?_;generalize w2.drew=u0 at *;have HPK:=hid (pack_any u0 ⟨ek,ev⟩ HSZ.out);unfold entV at HPK;refine Frm.wa 0 44 (.pointer (some ⟨c,0,none⟩)) HS.out ?_;go_frame;refine Frm.wb 1 45 (.pointer (some ⟨c,0,none⟩)) HS.out ?_;go_frame;refine Frm.wb 2 46 (.pointer (some ⟨c,0,none⟩)) HS.out ?_;go_frame;refine Frm.wd 3 47 (.pointer (some ⟨j,0,none⟩)) HS.out (fun w' hw'=> ?_) ?_
  ·have h1:=hw'.1;go_simp
  go_frame;refine Frm.wd 4 48 (.agg #[.string ek,.string ev]) HS.out (fun w' hw'=> ?_) ?_
  ·have h1:=cell_at hw'.2 0;have h2:=cell_at hw'.2 1;go_simp
  go_frame;refine Frm.wh_call 5 49 35 #[.agg #[.string ek,.string ev]] rfl rfl (by kernel_rfl) rfl ?_ ?_
  ·go_simp
  refine(HPK.out).mono ?_;rintro e w4 ⟨A4,c4,rfl,ho4,hb4⟩;have HH4:=hid (HH3.out.below hb4);have HB4:=hid (HB3.out.trans (hb4.mono HB3.out.size));have HS4:Hid (w4.cell? ⟨c,0,none⟩=some (.pointer (some ⟨j,0,none⟩))∧w4.heap[bx]? =some (.cells #[.string ek,.string ev] 62 (0,0))):=hid ⟨HH4.out.c0,(hb4.block bx (lt_of_heap HS.out.2)).trans HS.out.2⟩;have HBT:Hid (Jou.Bts w4 (JOwn j g gs gm v) A4 (sizeE ⟨ek,ev⟩) (packE ⟨ek,ev⟩)):=hid (bts_owns (S:=JOwn j g gs gm v) ho4 (fun q hq=>HH3.out.own_lt q hq));obtain⟨A',c',e',hc1,hc2⟩:=ho4.form;injection e' with e1 _ e3;subst e1 e3;have HAC:=hid (Jou.append_any w4 lj j g gs gm d jr v (sizeE ⟨ek,ev⟩) c4 A4 (packE ⟨ek,ev⟩) HH4.out.jn (HBT.out.sub (fun q hq=> .inl (List.mem_append_left _ hq))) hc1 hc2);rw[HZ.out] at HAC;unfold ptr at HAC;clear ho4 hb4 hc1 hc2 HS HPK HBT;have HS:=HS4;clear HS4;refine⟨_,rfl,HS.out,?_⟩;go_frame;refine Frm.wh_call 6 50 15 #[.pointer (some ⟨j,0,none⟩),.slice A4 (sizeE ⟨ek,ev⟩) c4] rfl rfl (by kernel_rfl) rfl ?_ ?_
  ·go_simp
  refine(HAC.out).mono ?_;rintro e w5 ⟨rfl,v1,hj5,ht5,hv5⟩;have HH5:=hid (HH4.out.journaled ht5 hj5);have HS5:Hid (w5.cell? ⟨c,0,none⟩=some (.pointer (some ⟨j,0,none⟩))∧w5.heap[bx]? =some (.cells #[.string ek,.string ev] 62 (0,0))):=hid ⟨HH5.out.c0,(ht5.block bx (lt_of_heap HS.out.2) (HXO2.out)).trans HS.out.2⟩;have HT5:Hid (FrC lo c b j g gs gm v w w5):=hid ((FrC.of_below HB4.out).trans (v1:=v) (FrC.own ht5 (HH4.out.apart (.inr (.inl rfl))).1) (fun q hq=> .inl hq) HBW.out);have HX5:Hid (w5.heap[bx]? =some (.cells #[.string ek,.string ev] 62 (0,0))):=hid HS5.out.2;have HV5:Hid (∀q,v1.ownBlock=some q→v.ownBlock=some q∨w.heap.size≤q):=hid (fun q hq=>(hv5 q hq).imp id (fun e=>Nat.le_trans HB4.out.size e));clear HS hj5 ht5 hv5 HAC HH4 HB4;have HS:=HS5;clear HS5;refine⟨_,rfl,HS.out,?_⟩;go_frame;refine Frm.wa 7 10 (.int .i64 z) HS.out ?_;go_frame;refine wpAnyH_done (by kernel_rfl) ?_ _;go_upto_region 12 with fail;by_cases hz0:z=0
  ·subst hz0;go_upto_region 16 with fail;have HS:Hid (w5.drew.heap[bx]? =some (.cells #[.string ek,.string ev] 62 (0,0))):=hid HX5.out;have HH6:=hid (HH5.out.below (Below.refl w5.heap.size w5).drew);have HT6:Hid (FrC lo c b j g gs gm v w w5.drew):=hid (HT5.out.trans (v1:=v) (FrC.of_below (Below.refl w5.heap.size w5).drew) (fun q hq=> .inl hq) HBW.out);clear HX5 HH5 HT5;refine Frm.wh_start (fun u=>u.heap[bx]? =some (.cells #[.string ek,.string ev] 62 (0,0))) (by kernel_rfl) ?_;generalize w5.drew=u1 at *;have HEC:=hid (eclone_any u1 ⟨ek,ev⟩ HKV.out);unfold entV at HEC;refine Frm.wa 0 59 (.pointer (some ⟨c,0,none⟩)) HS.out ?_;go_frame;refine Frm.wb 1 60 (.pointer (some ⟨c,0,none⟩)) HS.out ?_;go_frame;refine Frm.wb 2 61 (.pointer (some ⟨c,1,none⟩)) HS.out ?_;go_frame;refine Frm.wd 3 62 (.agg #[.string ek,.string ev]) HS.out (fun w' hw'=> ?_) ?_
   ·have h1:=cell_at hw' 0;have h2:=cell_at hw' 1;go_simp
   go_frame;refine Frm.wh_call 4 63 90 #[.agg #[.string ek,.string ev]] rfl rfl (by kernel_rfl) rfl ?_ ?_
   ·go_simp
   refine(HEC.out).mono ?_;rintro e w7 ⟨rfl,hb7⟩;have HH7:=hid (HH6.out.below hb7);have HT7:=hid (HT6.out.trans (v1:=v) (FrC.of_below hb7) (fun q hq=> .inl hq) HBW.out);have HS7:=hid ((hb7.block bx (lt_of_heap HS.out)).trans HS.out);have HP:=hid (put_any w7 c 1 lo b last N ⟨ek,ev⟩ HH7.out.sh HNL.out HKK.out HH7.out.low HLA.out);unfold entV at HP;clear HS hb7 HEC HH6 HT6;have HS:=HS7;clear HS7;refine⟨_,rfl,HS.out,?_⟩;go_frame;refine Frm.wh_call 5 64 85 #[.pointer (some ⟨c,1,none⟩),.agg #[.string ek,.string ev]] rfl rfl (by kernel_rfl) rfl ?_ ?_
   ·go_simp
   refine(HP.out).mono ?_;rintro e w8 ⟨rfl,hs8,ht8,hp8⟩;have hc8:w8.heap[c]? =some (cobj j b (last+1) ev0):=hp8.trans (cobj_last HH7.out.hd);have HH8:=hid (HH7.out.shelved ht8 hs8 hc8);have HT8:Hid (FrC lo c b j g gs gm v w w8):=hid (HT7.out.trans (v1:=v) (FrC.shelf ht8) (fun q hq=> .inl hq) HBW.out);have HS8:Hid (w8.heap[bx]? =some (.cells #[.string ek,.string ev] 62 (0,0))):=hid (sht_keep ht8 HS.out (fun e=>by have h1:=HS.out;rw[e,HH7.out.hd] at h1;injection h1 with h1;injection h1 with _ h2;cases h2) (by obtain⟨es',cl',hm⟩:=HH7.out.map_at;intro e;have h1:=HS.out;rw[e,hm] at h1;cases h1) (by decide));clear HS hc8 hs8 ht8 hp8 HP;have HS:=HS8;refine⟨_,rfl,HS.out,?_⟩;go_frame;refine wpAnyH_done (by kernel_rfl) ?_ _;go_wp2_with fail;go_ret;exact⟨rfl,v1,HH8.out,HT8.out,HV5.out⟩
  have hzb:(z !=0)=true:=by simpa using hz0
  have hzc:(z==2)=false:=by simpa using hz2
  have HZN:Hid (putN z N last ⟨ek,ev⟩=N∧putL z last=last):=hid ⟨if_neg hz0,if_neg hz0⟩;go_wp2_with fail;go_ret;exact⟨rfl,v1,by rw[HZN.out.1,HZN.out.2];exact HH5.out,HT5.out,HV5.out⟩
end
end Go.Proofs.YtdjhlhellkajfaaGreat.Cch
