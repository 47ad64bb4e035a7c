/-
  Texts DWrite, DRead, in one file. What each proves, and its conditions, stand at its head below.
-/
import Derived.Test.YtdjhlhellkajfaaGreatY18
import Derived.StillTailTactics
import Derived.Maps.OwnOps
set_option maxRecDepth 100000
set_option maxHeartbeats 400000
open Go.Lib (hid)
namespace Go.Proofs.YtdjhlhellkajfaaGreat.Disk
open Go.RowKit Go.Maps
theorem hkey3{i:Nat}(h:i<65536):keyOf Tryz.prog 3 (.int .i64 i)=some (ky i):=Maps.keyOf_int_mk Tryz.underlying3 (WalkArith.wf_i64 (by omega))
theorem wpList_putsec(w:World){ops:Array Oper}{rest:List Oper}{o:Oper}{a:Act}{Q:Exit→Act→World→Prop}(hg:o.guard=none)(m x v:Operand)(hop:o.op=Op.mapUpdate 99 m x v)
  (gm n:Nat) (f:Nat→Option (List UInt8)) (i:Nat) (s:List UInt8) (hm:a.eval m= .map (some gm)) (hx:a.eval x= .int .i64 i) (hv:a.eval v= .agg (cel s).toArray) (h:Mp w gm n f) (hi:i<n) (hn:n≤65536)
  (hK:∀w',Mp w' gm n (upd f i (some s))→w.grownBy w' (some gm)→wpList Tryz.prog ops Q rest (a.put o.dst undef) w'):wpList Tryz.prog ops Q (o::rest) a w:=by
 obtain⟨nn,D,hown,hnn,hT⟩:=h;refine wpList_mapUpdate_own w hg m x v 99 hop 3 132 key3 Tryz.underlying99 R0 gm nn D hm hown (by unfold maxLen;omega) _ _ (ky i) hx hv (hkey3 (by omega)) (.held (secV s)) [] rfl ?_;intro w' h1 h2;exact hK w' (Mp.made h1 (hT.put hown.isMap hi s)) h2
theorem size49:(Tryz.prog.info? 132).map (·.size)=some 64:=by kernel_rfl
theorem run_load49(w:World)(b o:Nat)(s:List UInt8)(hs:s.length=64)(h:w.rangeAt b o (cel s)):(Instr.loadAt 132 (.pointer (some ⟨b,o,none⟩))).run Tryz.prog w= .ok (.agg (cel s).toArray) w:=
 run_loadAt_mid w b o 132 (cel s) _ h Tryz.underlying132 rfl (by rw[cel_length,hs];exact size49)
theorem still_load49{ops:Array Oper}{w:World}{Q:Act→Prop}{a:Act}{o:Oper}{rest:List Oper}(b off:Nat)(s:List UInt8)(x:Operand)(ho:o.op= .load 132 x)(hx:a.eval x= .pointer (some ⟨b,off,none⟩))
  (hs:s.length=64) (hr:w.rangeAt b off (cel s)) (hw:Region.wanted o (yielded ops a.tmps)=true) (h:wpStill Tryz.prog ops w Q rest (a.put o.dst (.agg (cel s).toArray))):wpStill Tryz.prog ops w Q (o::rest) a:=by
 refine wpStill_step (fun K hK=> ?_);rw[if_pos hw];unfold Oper.still execOp;have e:=run_load49 w b off s hs hr;simp only[ho,hx,Sem.run_bind,Sem.run_pure,Result.andThen_ok,e,Oper.stillUpon_value];exact hK _ h
theorem run_array(w:World)(A:Option Addr)(c:Nat):(Instr.arrayAt 132 (.slice A 64 c)).run Tryz.prog w= .ok (.pointer A) w:=by
 simp[Instr.arrayAt,run_underlying Tryz.underlying132]
theorem write_off(w:World)(g gs gm:Nat)(d:Dsk)(h:Dk w g gs gm d)(ho:d.off=true)(i:Nat)(v:Value):Calls Tryz.prog 130 #[ptr g,.int .i64 i,v] w (Ends (.int .i64 3) w):=by
 have HR:=hid (refuses_disk w g gs gm d i h);have hw:d.why i=3:=by simp[Dsk.why,ho]
 rw[hw] at HR;clear h ho hw;unfold ptr at HR ⊢;go_enter Tryz.func130,Tryz.ntmps130;go_wp2_with fail;refine HR.out.mono ?_;rintro e w1 ⟨rfl,rfl⟩;go_wp2;go_ret;exact⟨rfl,rfl⟩
theorem write_stop(w:World)(g gs gm:Nat)(d:Dsk)(h:Dk w g gs gm d)(ho:d.off=false)(hd:d.done=false)(i:Nat)(hi:i<d.n)(A:Option Addr)(c:Nat):
  Calls Tryz.prog 130 #[ptr g,.int .i64 i,.slice A 64 c] w (Now (.int .i64 3) w g gs gm d.deed):=by
 have HR:=hid (refuses_disk w g gs gm d i h);have hw:d.why i=0:=by simp[Dsk.why,ho];omega
 rw[hw] at HR;have HW:=hid (deed_disk w g gs gm d h ho);rw[hd] at HW;clear h ho hw hi hd;unfold ptr at HR HW ⊢;generalize d.deed=d' at HW ⊢;go_enter Tryz.func130,Tryz.ntmps130;go_wp2_with fail;refine HR.out.mono ?_;rintro e w1 ⟨rfl,rfl⟩;go_wp2_with fail;refine HW.out.mono ?_;rintro e w1 ⟨rfl,hdk,ht⟩;have HF:=hid (And.intro hdk ht);clear hdk ht;go_wp2;go_ret;exact⟨rfl,HF.out.1,HF.out.2⟩
theorem write_do(w:World)(g gs gm:Nat)(d:Dsk)(h:Dk w g gs gm d)(ho:d.off=false)(hd:d.done=true)(i:Nat)(hi:i<d.n)(b o c:Nat)(xs:List UInt8)(hx:xs.length=64)(hr:w.rangeAt b o (cel xs))(hb:b∉[g,gs,gm])(hbl:b<w.heap.size):
  Calls Tryz.prog 130 #[ptr g,.int .i64 i,.slice (some ⟨b,o,none⟩) 64 c] w (Now (.int .i64 0) w g gs gm (d.deed.put i xs)):=by
 have HR:=hid (refuses_disk w g gs gm d i h);have hw:d.why i=0:=by simp[Dsk.why,ho];omega
 rw[hw] at HR;have HW:=hid (deed_disk w g gs gm d h ho);rw[hd] at HW;have h3:=h.ok.2.1;have hn:=d.deed_parts.1;have hof:d.deed.off=false:=by rw[Dsk.deed_on ho,hd];rfl
 rw[←hn] at hi h3;have HX:=hid hx;have HB:=hid hb;have HI:=hid hi;have HL:=hid hbl;have HRR:=hid hr;have H3:=hid h3;clear h ho hw h3 hx hb hi hbl hr hn hd hof;unfold ptr at HR HW ⊢;generalize d.deed=d' at *;go_enter Tryz.func130,Tryz.ntmps130;go_wp2_with fail;refine HR.out.mono ?_;rintro e w1 ⟨rfl,rfl⟩;go_wp2_with fail;refine HW.out.mono ?_;rintro e w1 ⟨rfl,hdk,ht⟩;obtain⟨z,hz⟩:=hdk.six;have c1:=hz.c1;have hr1:w1.rangeAt b o (cel xs):=rangeAt_keep HRR.out (ht.block b HL.out HB.out);have hr2:=hid ((World.rangeAt_drew w1 b o (cel xs)).2 hr1);have hra:=fun w=>run_array w (some ⟨b,o,none⟩) c;have HF:=hid (And.intro hdk ht);clear hdk ht hz hr1;go_wp2;refine wp_region_still_tail 8 (by kernel_rfl) (by kernel_rfl) ?_;simp only[List.take_succ_cons,List.take_zero,List.drop_succ_cons,List.drop_zero];iterate 7 still_step
 refine still_load49 b o xs _ rfl rfl HX.out hr2.out rfl ?_;simp only[Act.put,List.setIfInBounds_toArray,List.set_cons_zero,List.set_cons_succ];refine wpStill_nil ?_;change wpList _ _ _ _ _ w1.drew;refine wpList_putsec w1.drew rfl _ _ _ rfl gm d'.n d'.waits i xs rfl rfl rfl (HF.out.1.mp.keep rfl) HI.out H3.out ?_;intro w2 hm2 hg2;have HH:=hid (And.intro hm2 hg2);clear hm2 hg2;go_wp2;go_ret;have hdk:=HF.out.1;have ht:=HF.out.2;have hm2:=HH.out.1;have hg2:=HH.out.2;refine⟨rfl,?_,ht.grown (w1:=w1) ⟨hg2.os,hg2.tape,hg2.output,hg2.size,hg2.block⟩ (fun k hk=> .inl (by cases hk;simp))⟩;have e1:w2.heap[g]? =w1.heap[g]? :=hg2.block g hdk.lt (by simp;exact hdk.nem);have e2:w2.heap[gs]? =w1.heap[gs]? :=hg2.block gs hdk.sf.1 (by simp;exact hdk.nes);obtain⟨z,hz⟩:=hdk.hd;exact⟨Dsk.put_ok hdk.ok HI.out HX.out,hdk.ne,⟨z,e1.trans hz⟩,hdk.sf.keep e2 hg2.size,hm2⟩
end Go.Proofs.YtdjhlhellkajfaaGreat.Disk
namespace Go.Proofs.YtdjhlhellkajfaaGreat.Disk
open Go.RowKit Go.Maps
def nul:List UInt8:=List.replicate 64 0
theorem nul_length:nul.length=64:=rfl
theorem zero49(w:World):(zeroValue 132).run Tryz.prog w= .ok (.agg (cel nul).toArray) w:=(zero_of_info (n:=64) (v:= .agg (cel nul).toArray) (by kernel_rfl)).1 w
section
variable {ops:Array Oper} {rest:List Oper} {o:Oper} {a:Act} {Q:Exit→Act→World→Prop}
def IsAlloc (o:Oper):Prop:=o.guard=none∧o.op= .alloc 132
def IsStore (o:Oper) (a:Act) (p v:Value):Prop:=o.guard=none∧∃x y,o.op= .store 132 x y∧a.eval x=p∧a.eval y=v
def IsLoad (o:Oper) (a:Act) (p:Value):Prop:=o.guard=none∧∃x,o.op= .load 132 x∧a.eval x=p
def IsLook (o:Oper) (a:Act) (ok:Bool) (m k:Value):Prop:=o.guard=none∧∃x y,o.op=Op.lookup 99 x y ok∧a.eval x=m∧a.eval y=k
theorem wpList_alloc49(w:World)(ho:IsAlloc o)(h:wpList Tryz.prog ops Q rest (a.put o.dst (.pointer (some ⟨w.heap.size,0,none⟩))) (w.alloc (.cells (cel nul).toArray 132))):wpList Tryz.prog ops Q (o::rest) a w:=by
 refine wpList_plain ho.1 fun _ hK=> ?_;unfold Oper.wp execOp;simp only[ho.2,Instr.alloc,zero49,Sem.run_bind,Sem.run_pure,Result.andThen_ok,newVar,newRow,Value.cells,run_newObj_alloc];exact hK _ _ h
theorem wpList_store49(w:World)(b:Nat)(c:Array Value)(s:List UInt8)(hb:b=w.heap.size)(ho:IsStore o a (.pointer (some ⟨b,0,none⟩)) (.agg (cel s).toArray))(hc:c.size=64)(hs:s.length=64)
  (h:wpList Tryz.prog ops Q rest (a.put o.dst undef) (w.alloc (.cells (cel s).toArray 132))):wpList Tryz.prog ops Q (o::rest) a (w.alloc (.cells c 132)):=by
 obtain⟨hg,x,y,ho,hx,hy⟩:=ho;subst hb;refine wpList_plain hg fun _ hK=> ?_;have e:=run_storeAt_new (P:=Tryz.prog) w 132 c (cel s).toArray (by rw[List.size_toArray,cel_length,hs];exact size49) (by rw[hc,List.size_toArray,cel_length,hs]) (cel_all s);unfold Oper.wp execOp;simp only[ho,hx,hy,Sem.run_bind,Sem.run_pure,Result.andThen_ok,e];exact hK _ _ h
theorem wpList_load49(w:World)(b off:Nat)(s:List UInt8)(hs:s.length=64)(hr:w.rangeAt b off (cel s))(ho:IsLoad o a (.pointer (some ⟨b,off,none⟩)))
  (h:wpList Tryz.prog ops Q rest (a.put o.dst (.agg (cel s).toArray)) w):wpList Tryz.prog ops Q (o::rest) a w:=by
 obtain⟨hg,x,ho,hx⟩:=ho;exact wpList_load_mid hg 132 x ho b off hx (cel s) _ hr Tryz.underlying132 rfl (by rw[cel_length,hs];exact size49) h
theorem look_some(w:World)(gm n:Nat)(f:Nat→Option (List UInt8))(i:Nat)(s:List UInt8)(hi:i<n)(hn:n≤65536)(hf:f i=some s)(h:Mp w gm n f):
  (Instr.lookup 99 (.map (some gm)) (.int .i64 i) true).run Tryz.prog w= .ok (.tuple #[.agg (cel s).toArray,.bool true]) w:=by
 obtain⟨nn,D,hown,hnn,hT⟩:=h;obtain⟨v,ps,hrun,hv⟩:=hown.look_ok key3 Tryz.underlying99 (zero49 w) (R:=R0) (zd:= .held (secV nul)) (zp:=[]) rfl (hkey3 (i:=i) (by omega));rw[(hT.2 i hi).2 s hf] at hv;have hv:v=secV s:=by have:=(by simpa [R0] using hv:v=secV s∧ps=[]);exact this.1
 rw[hT.has hi,hf,hv] at hrun;exact hrun
theorem look_none(w:World)(gm n:Nat)(f:Nat→Option (List UInt8))(i:Nat)(hi:i<n)(hn:n≤65536)(hf:f i=none)(h:Mp w gm n f):
  (Instr.lookup 99 (.map (some gm)) (.int .i64 i) true).run Tryz.prog w= .ok (.tuple #[.agg (cel nul).toArray,.bool false]) w:=by
 obtain⟨nn,D,hown,hnn,hT⟩:=h;obtain⟨v,ps,hrun,hv⟩:=hown.look_ok key3 Tryz.underlying99 (zero49 w) (R:=R0) (zd:= .held (secV nul)) (zp:=[]) rfl (hkey3 (i:=i) (by omega));rw[Maps.atKey_of_not_has ((hT.2 i hi).1 hf)] at hv;have hv:v=secV nul:=by have:=(by simpa [R0] using hv:v=secV nul∧ps=[]);exact this.1
 rw[hT.has hi,hf,hv] at hrun;exact hrun
theorem look_sec(w:World)(gm n:Nat)(f:Nat→Option (List UInt8))(i:Nat)(s:List UInt8)(hi:i<n)(hn:n≤65536)(hf:f i=some s)(h:Mp w gm n f):
  (Instr.lookup 99 (.map (some gm)) (.int .i64 i) false).run Tryz.prog w= .ok (.agg (cel s).toArray) w:=by
 obtain⟨nn,D,hown,hnn,hT⟩:=h;obtain⟨v,ps,hrun,hv⟩:=hown.lookup key3 Tryz.underlying99 (zero49 w) (R:=R0) (zd:= .held (secV nul)) (zp:=[]) rfl (hkey3 (i:=i) (by omega));rw[(hT.2 i hi).2 s hf] at hv;have hv:v=secV s:=by have:=(by simpa [R0] using hv:v=secV s∧ps=[]);exact this.1
 rw[hv] at hrun;exact hrun
theorem wpList_look(w:World)(gm i:Nat)(v:Value)(hr:(Instr.lookup 99 (.map (some gm)) (.int .i64 i) true).run Tryz.prog w= .ok v w)(ho:IsLook o a true (.map (some gm)) (.int .i64 i))
  (h:wpList Tryz.prog ops Q rest (a.put o.dst v) w):wpList Tryz.prog ops Q (o::rest) a w:=by
 obtain⟨hg,x,y,ho,hx,hy⟩:=ho;refine wpList_plain hg fun _ hK=> ?_;unfold Oper.wp execOp;simp only[ho,hx,hy,Sem.run_bind,Sem.run_pure,Result.andThen_ok,hr];exact hK _ _ h
end
def Told64 (w:World) (xs:List UInt8) (e:Ending) (w':World):Prop:=
 ∃k,e= .returned (.tuple #[.slice (some ⟨k,0,none⟩) 64 64,.int .i64 0])∧w'.heap[k]? =some (.cells (cel xs).toArray 132 (0,0))∧w.heap.size≤k∧Turn [] w w'
theorem read_some(w:World)(g gs gm:Nat)(d:Dsk)(h:Dk w g gs gm d)(ho:d.off=false)(i:Nat)(hi:i<d.n)(s:List UInt8)(hf:d.waits i=some s):Calls Tryz.prog 76 #[ptr g,.int .i64 i] w (Told64 w s):=by
 have HR:=hid (refuses_disk w g gs gm d i h);have hw:d.why i=0:=by simp[Dsk.why,ho];omega
 rw[hw] at HR;have HS:=hid (h.ok.2.2.2.1 i s hf).2;have H3:=hid h.ok.2.1;have HI:=hid hi;have HF:=hid hf;have HM:=hid h.mp;obtain⟨z,hz⟩:=h.six;have c1:=hz.c1;clear hz h hw hi hf ho;unfold ptr at HR ⊢;go_enter Tryz.func76,Tryz.ntmps76;go_wp2_with fail;refine HR.out.mono ?_;rintro e w1 ⟨rfl,rfl⟩;have HLK:=hid (look_some w gm d.n d.waits i s HI.out H3.out HF.out HM.out);go_wp2_with (first
  |(at_lookup;(with_reducible refine wpList_look w gm i _ HLK.out ?_ ?_);exact⟨rfl,_,_,rfl,rfl,rfl⟩)
  |((with_reducible refine wpList_alloc49 w ?_ ?_);exact⟨rfl,rfl⟩)
  |((with_reducible refine wpList_store49 w w.heap.size _ s rfl ?_ ?_ HS.out ?_);exact⟨rfl,_,_,rfl,rfl,rfl⟩;rfl))
 go_ret2;exact⟨w.heap.size,rfl,heap_alloc_last w _,Nat.le_refl _,(Turn.refl [] w).alloc _⟩
theorem read_safe(w:World)(g gs gm:Nat)(d:Dsk)(h:Dk w g gs gm d)(ho:d.off=false)(i:Nat)(hi:i<d.n)(hf:d.waits i=none):Calls Tryz.prog 76 #[ptr g,.int .i64 i] w (Told64 w (d.safe i)):=by
 have HR:=hid (refuses_disk w g gs gm d i h);have hw:d.why i=0:=by simp[Dsk.why,ho];omega
 rw[hw] at HR;have HS:=hid (h.ok.2.2.1 i hi);have H3:=hid h.ok.2.1;have HI:=hid hi;have HF:=hid hf;have HM:=hid h.mp;have HL:=hid (h.sf.2.2 i hi);have i0:(0:Int)≤i:=by omega
 have i1:(i:Int)<d.n:=by omega
 obtain⟨z,hz⟩:=h.six;have c0:=hz.c0;have c1:=hz.c1;have gl:=h.lt;clear hz h hw hi hf ho;unfold ptr at HR ⊢;go_enter Tryz.func76,Tryz.ntmps76;go_wp2_with fail;refine HR.out.mono ?_;rintro e w1 ⟨rfl,rfl⟩;have HLK:=hid (look_none w gm d.n d.waits i HI.out H3.out HF.out HM.out);have HLA:=hid (World.rangeAt_alloc HL.out (.cells (cel nul).toArray 132));go_wp2_with (first
  |(at_lookup;(with_reducible refine wpList_look w gm i _ HLK.out ?_ ?_);exact⟨rfl,_,_,rfl,rfl,rfl⟩)
  |((with_reducible refine wpList_alloc49 w ?_ ?_);exact⟨rfl,rfl⟩)
  |((with_reducible refine wpList_load49 _ gs (i * 64) (d.safe i) HS.out HLA.out ?_ ?_);exact⟨rfl,_,rfl,rfl⟩)
  |((with_reducible refine wpList_store49 w w.heap.size _ nul rfl ?_ ?_ nul_length ?_);exact⟨rfl,_,_,rfl,rfl,rfl⟩;rfl)
  |((with_reducible refine wpList_store49 w w.heap.size _ (d.safe i) rfl ?_ ?_ HS.out ?_);exact⟨rfl,_,_,rfl,rfl,rfl⟩;rfl))
 go_ret2;exact⟨w.heap.size,rfl,heap_alloc_last w _,Nat.le_refl _,(Turn.refl [] w).alloc _⟩
theorem read_disk(w:World)(g gs gm:Nat)(d:Dsk)(h:Dk w g gs gm d)(ho:d.off=false)(i:Nat)(hi:i<d.n):Calls Tryz.prog 76 #[ptr g,.int .i64 i] w (Told64 w (d.read i)):=by
 cases hf:d.waits i with
 |none=>
  have e:d.read i=d.safe i:=by simp[Dsk.read,hf]
  rw[e];exact read_safe w g gs gm d h ho i hi hf
 |some s=>
  have e:d.read i=s:=by simp[Dsk.read,hf]
  rw[e];exact read_some w g gs gm d h ho i hi s hf
end Go.Proofs.YtdjhlhellkajfaaGreat.Disk
