/-
  Texts FSmall, FRows, FPut, in one file. What each proves, and its conditions, stand at its head below.
-/
import Derived.Test.YtdjhlhellkajfaaGreatY2
import Derived.Test.YtdjhlhellkajfaaGreatY4
import Derived.Test.YtdjhlhellkajfaaGreatY5
import Derived.Test.YtdjhlhellkajfaaGreatY7
import Derived.Laws.BytesArg
import Derived.Laws.CopyOwn
import Derived.Laws.BitsAll
set_option maxRecDepth 100000
set_option maxHeartbeats 2000000
open Go.Lib (hid)
namespace Go.Proofs.YtdjhlhellkajfaaGreat.Frm
open Go.RowKit Codec FrameM Cod
def mkV (m:Mk):Value:= .agg #[.int .i64 m.kind,.int .i64 m.gen,.int .i64 m.seq,.int .i64 m.n]
theorem need_any(n:Int)(w:World)(h:in64 n):Calls Tryz.prog 94 #[.int .i64 n] w fun e w'=>e= .returned (.int .i64 (needI n))∧w=w':=by
 obtain⟨h1,h2⟩:=h;by_cases hn:n≤0
 ·have HN:Hid (needI n=0):=hid (by unfold needI;rw[if_pos hn]);rw[HN.out];go_enter Tryz.func94,Tryz.ntmps94;go_wp2;go_ret;exact⟨rfl,rfl⟩
 have HN:Hid (needI n=(n-1)/64+1):=hid (by unfold needI;rw[if_neg hn]);have hn1:0<n:=by omega
 rw[HN.out];clear hn HN;go_enter Tryz.func94,Tryz.ntmps94;go_wp2;go_ret;exact⟨rfl,rfl⟩
theorem right_cases(m:Mk):(m.right=false∧(m.kind<1∨(1≤m.kind∧255<m.kind)∨(1≤m.kind∧m.kind≤255∧m.gen<0)∨(1≤m.kind∧m.kind≤255∧0≤m.gen∧m.seq<0)∨(1≤m.kind∧m.kind≤255∧0≤m.gen∧0≤m.seq∧m.n<0)))∨
  (m.right=true∧1≤m.kind∧m.kind≤255∧0≤m.gen∧0≤m.seq∧0≤m.n):=by
 cases h:m.right with
 |true=>exact .inr ⟨rfl,right_iff.1 h⟩
 |false=>
  refine .inl ⟨rfl,?_⟩;have hno:¬(1≤m.kind∧m.kind≤255∧0≤m.gen∧0≤m.seq∧0≤m.n):=fun k=>by rw[right_iff.2 k] at h;cases h
  by_cases h1:1≤m.kind<;>by_cases h2:m.kind≤255<;>by_cases h3:0≤m.gen<;>by_cases h4:0≤m.seq<;>by_cases h5:0≤m.n<;>omega
theorem alloc_below(w:World)(o:Obj):Below w.heap.size w (w.alloc o):=(Below.refl _ w).alloc (Nat.le_refl _) o
theorem right_any(m:Mk)(w:World):Calls Tryz.prog 132 #[mkV m] w (EndsBelow (.bool m.right) w):=by
 have hr:=right_cases m;obtain⟨k,g,s,n⟩:=m;dsimp only[mkV] at hr ⊢;rcases hr with⟨hb,h|⟨h,h2⟩|⟨h,h2,h3⟩|⟨h,h2,h3,h4⟩|⟨h,h2,h3,h4,h5⟩⟩|⟨hb,h,h2,h3,h4,h5⟩;all_goals
  rw[hb];clear hb;try (have hd:decide (0≤n)=false:=by simpa using h5)
  go_enter Tryz.func132,Tryz.ntmps132;go_wp2;go_ret;exact⟨rfl,alloc_below _ _⟩
theorem beq_dec(xs ys:List UInt8):(xs==ys)=decide (xs=ys):=by
 rw[Bool.eq_iff_iff];simp
theorem equal_any(w:World)(B B' n n' c c':Nat)(A A':Option Addr)(xs ys:List UInt8)(h:Byts w B A n xs)(h':Byts w B' A' n' ys):
  Calls Tryz.prog 152 #[.slice A n c,.slice A' n' c'] w fun e w'=>e= .returned (.bool (decide (xs=ys)))∧w=w':=by
 have h1:=run_string_of w B n c A xs h;have h2:=run_string_of w B' n' c' A' ys h';clear h h';go_enter Tryz.func152,Tryz.ntmps152;go_wp2;go_ret;refine⟨?_,rfl⟩;simp;exact beq_dec xs ys
end Go.Proofs.YtdjhlhellkajfaaGreat.Frm
namespace Go.Proofs.YtdjhlhellkajfaaGreat.Frm
open Go.RowKit Codec FrameM Cod
structure Rows (w:World) (B:Nat) (A:Option Addr) (n:Nat) (ls:List (List UInt8)):Prop where
 len:ls.length=n
 at_:0<n→∃b off,A=some ⟨b,off,none⟩∧b<B∧∀j,j<n→∃Aj cj,w.cell? ⟨b,off+j,none⟩=some (.slice Aj (ls.getD j []).length cj)∧
  Byts w B Aj (ls.getD j []).length (ls.getD j [])∧(ls.getD j []).length≤cj∧cj≤maxLen
theorem Rows.none_{w:World}{B:Nat}{A:Option Addr}:Rows w B A 0 []:=⟨rfl,fun h=>absurd h (by omega)⟩
section
variable {w w':World} {B B' n:Nat} {A:Option Addr} {ls:List (List UInt8)}
end
theorem getD_of{α:Type}{l:List α}{j:Nat}{d:α}(h:j<l.length):l.getD j d=l[j]:=by simp[List.getD_eq_getElem?_getD,h]
theorem info5:(Tryz.prog.info? 5).map (fun i=>(i.zero,i.size,i.bytes))=some (some (.int .u8 0),1,1):=by kernel_rfl
theorem size5i:(Tryz.prog.info? 5).map (·.size)=some 1:=by kernel_rfl
theorem made(n:Nat):madeCells (Value.cells (.int .u8 0)) n=(cel (zeros n)).toArray:=by
 apply Array.ext
 ·simp[madeCells,cel,zeros]
 intro i _ _;simp[madeCells,cel,zeros,Value.cells,byt,Nat.mod_one]
theorem run_make_bytes(w:World)(n:Nat)(hn:n≤1000000000):(Instr.makeSlice 39 (.int .i64 n) (.int .i64 n)).run Tryz.prog w= .ok (.slice (some ⟨w.heap.size,0,none⟩) n n) (w.alloc (.cells (cel (zeros n)).toArray 5)):=by
 obtain⟨i0,hi,hz0,hz1,hz2⟩:=info_parts info5;have:=run_make (P:=Tryz.prog) w 39 5 i0 _ Tryz.underlying39 hi hz0 .i64 .i64 n n (by omega) (by omega) (by rw[hz2];omega) (by omega);rw[hz1] at this;simpa [made] using this
theorem splice_cel(xs ys:List UInt8)(off:Nat):splice (cel xs) off (cel ys)=cel (splice xs off ys):=by
 simp[splice,cel]
section
variable {ops:Array Oper} {rest:List Oper} {o:Oper} {a:Act} {Q:Exit→Act→World→Prop}
theorem wpList_copy_to(w:World)(hgd:o.guard=none)(d s:Operand)(ho:o.op= .call {callee:= .builtin .copy,args:= #[d,s],argTypes:= #[39,39]})
  (g p:Nat) (xs ys:List UInt8) (dp Aj:Option Addr) (len c q c' B:Nat) (hd:a.eval d= .slice dp len c) (hs:a.eval s= .slice Aj q c') (hy:Byts w B Aj q ys) (hq:q≤len)
  (hdp:0<q→dp=some ⟨g,p,none⟩) (hg:w.heap[g]? =some (.cells (cel xs).toArray 5 (0,0))) (hfit:p+q≤xs.length) (w0:World) (B1:Nat) (hb:Below B1 w0 w) (hBg:B1≤g)
  (h:∀w',Hid (w'.heap[g]? =some (.cells (cel (splice xs p ys)).toArray 5 (0,0)))→Hid (Below B1 w0 w')→wpList Tryz.prog ops Q rest (a.put o.dst (.int .i64 q)) w'):wpList Tryz.prog ops Q (o::rest) a w:=by
 have hl:=hy.len;refine wpList_copy_splice hgd d s 39 39 ho 5 Tryz.underlying39 size5i dp Aj len c q c' hd hs g p (cel xs) 5 hg (cel ys) (by rw[cel_length,hl];exact(Nat.min_eq_left hq).symm) (fun h0=> ?_) (by rw[cel_length,cel_length,hl];exact hfit) (cel_one ys) B1 w0 hb hBg ?_
 ·rw[cel_length,hl] at h0;obtain⟨b,off,rfl,_,hc⟩:=hy.at_ h0;refine⟨hdp h0,_,rfl,fun j v hv=> ?_⟩;have hj:j<q:=by
   have:=(List.getElem?_eq_some_iff.1 hv).1;rwa [cel_length,hl] at this
  rw[plain_add,hc j hj,←cel_get ys j (by omega)];exact hv
 intro w' h1 h2;have e:goInt (cel ys).length= .int .i64 q:=by rw[cel_length,hl];rfl
 rw[e];rw[splice_cel] at h1;exact h w' h1 (hid h2)
end
theorem splice_pad(xs ys:List UInt8)(h:xs.length+ys.length≤64):splice (pad xs) xs.length ys=pad (xs++ys):=by
 unfold splice pad zeros;rw[List.take_left,List.drop_append,List.drop_eq_nil_of_le (by omega),List.nil_append,List.drop_replicate,List.append_assoc,List.length_append,
  show 64-xs.length-(xs.length+ys.length-xs.length)=64-(xs.length+ys.length) by omega]
theorem flat_step(ls:List (List UInt8))(j:Nat)(h:j<ls.length):(ls.take (j+1)).flatten=(ls.take j).flatten++ls.getD j []:=by
 rw[List.take_succ_eq_append_getElem h,getD_of h,List.flatten_append];simp only[List.flatten_cons,List.flatten_nil,List.append_nil]
theorem flat_le(ls:List (List UInt8))(j:Nat):(ls.take j).flatten.length≤ls.flatten.length:=by
 have:ls.flatten=(ls.take j).flatten++(ls.drop j).flatten:=by rw[←List.flatten_append,List.take_append_drop]
 rw[this,List.length_append];omega
theorem pad_length(xs:List UInt8)(h:xs.length≤64):(pad xs).length=64:=by simp[pad,zeros];omega
def Filled (w:World) (s:List UInt8) (e:Ending) (w':World):Prop:=
 e= .returned (.slice (some ⟨w.heap.size,0,none⟩) 64 64)∧w'.heap[w.heap.size]? =some (.cells (cel s).toArray 5 (0,0))∧Below w.heap.size w w'
theorem filled_any(w:World)(B k c:Nat)(A:Option Addr)(ls:List (List UInt8))(h:Rows w B A k ls)(hB:B≤w.heap.size)(hk:k≤1000000)(ht:ls.flatten.length≤64):
  Calls Tryz.prog 134 #[.slice A k c] w (Filled w (pad ls.flatten)):=by
 have hmk:∀w:World,(Instr.makeSlice 39 (.int .i64 64) (.int .i64 64)).run Tryz.prog w= .ok (.slice (some ⟨w.heap.size,0,none⟩) 64 64) (w.alloc (.cells (cel (zeros 64)).toArray 5)):=fun w=>run_make_bytes w 64 (by omega);have HR:=hid h;have HT:=hid ht;clear h ht;go_enter Tryz.func134,Tryz.ntmps134;go_wp2;go_loopw [4,10] (fun n i wr=>∃j:Nat,j≤k∧i= .int .i64 j∧n= .int .i64 (ls.take j).flatten.length∧wr.heap[w.heap.size]? =some (.cells (cel (pad (ls.take j).flatten)).toArray 5 (0,0))∧Below w.heap.size w wr) (fun _ i _=>k-(intOf i).toNat)
 case atStart=>exact⟨0,by omega,rfl,rfl,heap_alloc_new w _,alloc_below _ _⟩
 case round=>
  obtain⟨j,hj,rfl,rfl,hg,hbel⟩:=hrel;have HG:=hid hg;have HB:=hid hbel;clear hg hbel;by_cases hlt:j<k
  ·obtain⟨b,off,rfl,hb,hc⟩:=HR.out.at_ (by omega);obtain⟨Aj,cj,h1,h2,h3,h4⟩:=hc j hlt;have hcell:wr.cell? ⟨b,off+j,none⟩=some (.slice Aj (ls.getD j []).length cj):=(HB.out.cell (p:=⟨b,off+j,none⟩) (by show b<_;omega)).trans h1;have HY:=hid ((h2.more hB).below HB.out);have hjl:j<ls.length:=by rw[HR.out.len];exact hlt
   have HS:=hid (flat_step ls j hjl);have hle:=flat_le ls (j+1);have HF:=hid HT.out;have hxy:(ls.take j).flatten.length+(ls.getD j []).length≤64:=by
    rw[HS.out,List.length_append] at hle;have:=HF.out;omega
   clear hle h1 h2 hc;have h4':cj≤9223372036854775807:=h4;clear h4;generalize ls.getD j []=ys at *;generalize (ls.take j).flatten=xs at *;have HP:=hid (splice_pad xs ys hxy);have HPL:=hid (pad_length xs (by omega));have HXL:Hid (((ls.take (j+1)).flatten.length:Int)=(xs.length:Int)+(ys.length:Int)):=hid (by rw[HS.out,List.length_append];simp);obtain⟨p,hp⟩:∃p,xs.length=p:=⟨_,rfl⟩
   obtain⟨q,hq⟩:∃q,ys.length=q:=⟨_,rfl⟩
   rw[hp] at hxy HP HXL;rw[hq] at hxy hcell HY h3 HXL;rw[hp];clear hp hq;have hp64:p≤64:=by omega
   have hs1:=fun v=>run_from v (some ⟨w.heap.size,0,none⟩) 64 64 p hp64;have HD:Hid (0<q→(if 64=p then some ⟨w.heap.size,0,none⟩ else (some (⟨w.heap.size,0,none⟩:Addr)).map (·.add p))=some ⟨w.heap.size,p,none⟩):=hid (fun h0=>by
    rw[if_neg (by omega),Option.map_some,plain_add,Nat.zero_add])
   generalize (if 64=p then some ⟨w.heap.size,0,none⟩ else (some (⟨w.heap.size,0,none⟩:Addr)).map (·.add p))=A2 at *;go_wp2_with (with_reducible refine wpList_copy_to _ rfl (.tmp 17) (.tmp 18) rfl w.heap.size p (pad xs) ys A2 Aj (64-p) (64-p) q cj w.heap.size rfl rfl HY.out (by omega) HD.out HG.out (by have:=HPL.out;omega) w w.heap.size HB.out (Nat.le_refl _) ?_;intro w1 hg1 hb1);go_roundw
   case rel=>exact⟨j+1,by omega,by go_num,by rw[HXL.out],by rw[HS.out,←HP.out];exact hg1.out,hb1.out⟩
   case measure=>simp[intOf];omega
  obtain rfl:j=k:=by omega
  go_wp2;go_ret;have h:=HG.out;rw[List.take_of_length_le (by rw[HR.out.len];omega)] at h;exact⟨rfl,h,HB.out⟩
end Go.Proofs.YtdjhlhellkajfaaGreat.Frm
namespace Go.Proofs.YtdjhlhellkajfaaGreat.Frm
open Go.RowKit Codec FrameM Cod
def Above (lo:Nat) (A:Option Addr):Prop:=∀p:Addr,A=some p→lo≤p.block
theorem Above.none_{lo:Nat}:Above lo none:=fun p e=>by cases e
theorem Above.one{lo b o:Nat}(h:lo≤b):Above lo (some ⟨b,o,none⟩):=fun p e=>by cases e;exact h
theorem Above.mono{lo lo':Nat}{A:Option Addr}(h:Above lo A)(hl:lo'≤lo):Above lo' A:=fun p e=>Nat.le_trans hl (h p e)
def U8 (w:World) (A:Option Addr):Prop:=∀p:Addr,A=some p→∃cs:Array Value,w.heap[p.block]? =some (.cells cs 5 (0,0))
theorem U8.none_{w:World}:U8 w none:=fun p e=>by cases e
theorem U8.one{w:World}{b o:Nat}{cs:Array Value}(h:w.heap[b]? =some (.cells cs 5 (0,0))):U8 w (some ⟨b,o,none⟩):=fun p e=>by cases e;exact⟨cs,h⟩
theorem U8.below{w w':World}{A:Option Addr}(h:U8 w A)(hb:Below w.heap.size w w'):U8 w' A:=fun p e=>by
 obtain⟨cs,hc⟩:=h p e;exact⟨cs,(hb.block _ (lt_of_heap hc)).trans hc⟩
theorem own_u8{w:World}{base n c:Nat}{A:Option Addr}{xs:List UInt8}(h:Owns w base (.slice A n c) n xs):U8 w A:=by
 intro p e;rcases h.2 with⟨e1,_⟩|⟨g,cap,cur,e1,_,hh,_⟩
 ·injection e1 with e1 _ _;rw[e1] at e;cases e
 injection e1 with e1 _ _;rw[e1] at e;cases e
 exact⟨cur,hh⟩
theorem own_above{w:World}{base n c:Nat}{A:Option Addr}{xs:List UInt8}(h:Owns w base (.slice A n c) n xs):Above base A:=by
 intro p e;rcases h.2 with⟨e1,_⟩|⟨g,cap,cur,e1,hg,_⟩
 ·injection e1 with e1 _ _;rw[e1] at e;cases e
 injection e1 with e1 _ _;rw[e1] at e;cases e
 exact hg
def Gives (w:World) (xs:List UInt8) (e:Ending) (w':World):Prop:=
 ∃A c,e= .returned (.slice A xs.length c)∧Byts w' w'.heap.size A xs.length xs∧Below w.heap.size w w'∧xs.length≤c∧c≤maxLen∧Above w.heap.size A
theorem Gives.of_own{w w':World}{base n:Nat}{A:Option Addr}{c:Nat}{xs:List UInt8}(h:Owns w' base (.slice A n c) n xs)(hb:Below w.heap.size w w')(hlo:w.heap.size≤base):Gives w xs (.returned (.slice A n c)) w':=by
 have hl:=h.len;subst hl;obtain⟨A',c',e,h1,h2⟩:=h.form;injection e with e1 _ e3;subst e1 e3;exact⟨A,c,rfl,h.byts,hb,h1,h2,(own_above h).mono hlo⟩
theorem Wr.below{w w':World}{base g:Nat}{xs:List UInt8}(h:Wr w base g xs)(hb:Below w.heap.size w w'):Wr w' base g xs:=by
 obtain⟨A,n,c,hg,hown,hB⟩:=h;exact⟨A,n,c,(hb.block g (lt_of_heap hg)).trans hg,hown.below hb,hB⟩
theorem row_of_byts{w:World}{n b off:Nat}{xs:List UInt8}(hl:xs.length=n)(hc:∀j,j<n→w.cell? ⟨b,off+j,none⟩=some (byt (xs.getD j 0))):Sum.Row w b off n (nats xs):=
 ⟨by simp[nats,hl],fun i hi=>by
  rw[hc i hi];have:i<xs.length:=by omega
  simp[nats,byt,List.getD_eq_getElem?_getD,this],fun i=>by
  by_cases h:i<xs.length
  ·have:=(xs[i]).toNat_lt;simp[nats,List.getD_eq_getElem?_getD,h];omega
  ·simp[nats,List.getD_eq_getElem?_getD,h]⟩
theorem crc_byts(w:World)(B n c:Nat)(A:Option Addr)(xs:List UInt8)(h:Byts w B A n xs)(hn:n≤1000000000):Calls Tryz.prog 153 #[.slice A n c] w (Sum.Ends (.int .u32 (crcOf xs)) w):=by
 rcases Nat.eq_zero_or_pos n with h0|h0
 ·subst h0;obtain rfl:xs=[]:=List.eq_nil_of_length_eq_zero h.len;exact Sum.crc_none c A w
 obtain⟨b,off,rfl,_,hc⟩:=h.at_ h0;exact Sum.crc_some b off n c (nats xs) w (row_of_byts h.len hc) (by omega)
theorem small_two(w:World)(base g:Nat)(a b:Int)(xs:List UInt8)(hw:Wr w base g xs)(hn:xs.length≤800000000)(hB:base≤w.heap.size):
  Calls Tryz.prog 156 #[.pointer (some ⟨g,0,none⟩),.slice (some ⟨w.heap.size,0,none⟩) 2 2] (w.alloc (.cells #[.int .i64 a,.int .i64 b] 3)) (LaidA (w.alloc (.cells #[.int .i64 a,.int .i64 b] 3)) base g (xs++(encSmall a++encSmall b))):=by
 have hg:g<w.heap.size:=by
  obtain⟨A,n,c,h,_⟩:=hw;exact lt_of_heap h
 have h:=small_many (w.alloc (.cells #[.int .i64 a,.int .i64 b] 3)) base g w.heap.size [a,b] xs (hw.alloc _) hn (by simp) (by simp;omega) (by omega) (heap_alloc_new w _) 2 rfl;simpa [encAll] using h
theorem num_three(w:World)(base g:Nat)(a b c:Int)(xs:List UInt8)(hw:Wr w base g xs)(hn:xs.length≤800000000)(hB:base≤w.heap.size):
  Calls Tryz.prog 80 #[.pointer (some ⟨g,0,none⟩),.slice (some ⟨w.heap.size,0,none⟩) 3 3] (w.alloc (.cells #[.int .i64 a,.int .i64 b,.int .i64 c] 2))
   (LaidA (w.alloc (.cells #[.int .i64 a,.int .i64 b,.int .i64 c] 2)) base g (xs++(encNum a++(encNum b++encNum c)))):=by
 have hg:g<w.heap.size:=by
  obtain⟨A,n,c,h,_⟩:=hw;exact lt_of_heap h
 have h:=num_many (w.alloc (.cells #[.int .i64 a,.int .i64 b,.int .i64 c] 2)) base g w.heap.size [a,b,c] xs (hw.alloc _) hn (by simp) (by simp;omega) (by omega) (heap_alloc_new w _) 3 rfl;simpa [encAll] using h
theorem wr_new(w:World)(base:Nat)(hB:base≤w.heap.size):Wr (w.alloc (.cells #[.slice none 0 0] 140)) base w.heap.size []:=⟨none,0,0,heap_alloc_new w _,Owns.nil,hB⟩
theorem low_half(s:Nat)(h:s<4294967296):bits .and .u32 (s:Int) 65535=((s%65536:Nat):Int):=by
 rw[show(65535:Int)=((65535:Nat):Int) from rfl,u32_and_nat _ _ h (by decide),show(65535:Nat)=2^16-1 from rfl,Nat.and_two_pow_sub_one_eq_mod]
theorem box_kept{w w':World}{m:Mk}(h:Below (w.heap.size+1) (w.alloc (.cells #[.int .i64 m.kind,.int .i64 m.gen,.int .i64 m.seq,.int .i64 m.n] 158)) w')(i:Nat):
  w'.cell? ⟨w.heap.size,i,none⟩=(#[.int .i64 m.kind,.int .i64 m.gen,.int .i64 m.seq,.int .i64 m.n]:Array Value)[i]? :=by
 rw[h.cell (p:=⟨w.heap.size,i,none⟩) (by show w.heap.size<_;omega)];exact cell_at (heap_alloc_new w _) i
theorem sized{w w':World}{o:Obj}(h:Below (w.heap.size+1) (w.alloc o) w'):w.heap.size+1≤w'.heap.size:=by
 have:=h.size;rwa [World.size_alloc] at this
theorem laid_any(m:Mk)(w:World):Calls Tryz.prog 133 #[mkV m] w (Gives w (half m)):=by
 have HH:Hid (half m=body m++(encSmall (crcOf (body m)%65536:Nat)++encSmall (crcOf (body m)/65536:Nat))):=hid rfl;have HBD:Hid (body m=[]++(encSmall 19796++encSmall m.kind)++(encNum m.gen++(encNum m.seq++encNum m.n))):=hid (by simp[body]);have HS:=hid (low_half (crcOf (body m)) (crcOf_lt _));have hsl:=crcOf_lt (body m);have HL:=hid (body_length m);have HB0:Hid (Below (w.heap.size+1) (w.alloc (.cells #[.int .i64 m.kind,.int .i64 m.gen,.int .i64 m.seq,.int .i64 m.n] 158)) ((w.alloc (.cells #[.int .i64 m.kind,.int .i64 m.gen,.int .i64 m.seq,.int .i64 m.n] 158)).alloc (.cells #[.slice none 0 0] 140))):=
  hid ((Below.refl _ _).alloc (by simp) _)
 have hw:=wr_new (w.alloc (.cells #[.int .i64 m.kind,.int .i64 m.gen,.int .i64 m.seq,.int .i64 m.n] 158)) (w.heap.size+1) (by simp);rw[World.size_alloc] at hw;have hc1:=small_two _ (w.heap.size+1) (w.heap.size+1) 19796 m.kind [] hw (by simp) (by simp);simp only[World.size_alloc] at hc1;have HC1:=hid hc1;clear hc1 hw;unfold mkV;obtain⟨k,g,s,n⟩:=m;dsimp only at *;go_enter Tryz.func133,Tryz.ntmps133;go_wp2_with fail;refine HC1.out.mono ?_;rintro e w1 ⟨rfl,hW1,hb1,_⟩;have HB1:=hid ((HB0.out.alloc (by simp) _).trans hb1);have b1:=box_kept (m:=⟨k,g,s,n⟩) HB1.out 1;have b2:=box_kept (m:=⟨k,g,s,n⟩) HB1.out 2;have b3:=box_kept (m:=⟨k,g,s,n⟩) HB1.out 3;dsimp only at b1 b2 b3;have hz1:=HB1.out.size;simp only[World.size_alloc] at hz1;have HC2:=hid (num_three w1 _ _ g s n _ hW1 (by simp[encSmall_length]) hz1);clear hW1 hb1 HC1;go_wp2_with fail;refine HC2.out.mono ?_;rintro e w2 ⟨rfl,hW2,hb2,_⟩;rw[←HBD.out] at hW2;have HB2:=hid ((HB1.out.alloc hz1 _).trans hb2);have HW2:=hid hW2;have HC3:=hid (bytes_some w2 _ _ _ hW2 (by rw[HL.out];decide));clear hW2 hb2 HC2 b1 b2 b3;generalize body ⟨k,g,s,n⟩=xs at *;rw[HL.out] at HC3;go_wp2_with fail;refine HC3.out.mono ?_;rintro e w3 ⟨A3,c3,rfl,ho,hb3⟩;have HW3:=hid (Wr.below HW2.out hb3);have HB3:=hid (HB2.out.trans (hb3.mono (sized HB2.out)));have HC4:=hid (crc_byts w3 _ _ c3 A3 _ ho.byts (by decide));clear ho hb3 HC3;go_wp2_with fail;refine HC4.out.mono ?_;rintro e w4 ⟨rfl,rfl⟩;have hz3:=sized HB3.out;have hc5:=small_two w3 _ _ (crcOf xs%65536:Nat) (crcOf xs/65536:Nat) _ HW3.out (by rw[HL.out];decide) hz3;have HC5:=hid hc5;have e1:=HS.out;clear HC4 hc5;generalize crcOf xs=S at *;go_wp2_with fail;refine HC5.out.mono ?_;rintro e w5 ⟨rfl,hW5,hb5,_⟩;rw[←HH.out] at hW5;have HB5:=hid ((HB3.out.alloc hz3 _).trans hb5);have HC6:=hid (bytes_some w5 _ _ _ hW5 (by rw[half_length];decide));clear hW5 hb5 HC5 HH;generalize half ⟨k,g,s,n⟩=ys at *;go_wp2_with fail;refine HC6.out.mono ?_;rintro e w6 ⟨A6,c6,rfl,ho,hb6⟩;have HB6:=hid (HB5.out.trans (hb6.mono (sized HB5.out)));have HO:=hid ho;clear ho hb6 HC6;go_wp2_with fail;go_ret;exact Gives.of_own HO.out ((alloc_below w _).trans (HB6.out.mono (by omega))) (by have h5:=HB5.out.size;simp only[World.size_alloc] at h5;omega)
theorem rows_two(w:World)(B c c':Nat)(A A':Option Addr)(xs ys:List UInt8)(h:Byts w B A xs.length xs)(h':Byts w B A' ys.length ys)(hB:B≤w.heap.size)(h1:xs.length≤c)(h2:c≤maxLen)(h1':ys.length≤c')(h2':c'≤maxLen):
  Rows (w.alloc (.cells #[.slice A xs.length c,.slice A' ys.length c'] 39)) (w.heap.size+1) (some ⟨w.heap.size,0,none⟩) 2 [xs,ys]:=
 ⟨rfl,fun _=>⟨w.heap.size,0,rfl,by omega,fun j hj=>by
  match j,hj with
  |0,_=>exact⟨A,c,by rw[World.cell?_alloc_mark];rfl,(h.alloc hB _).more (by omega),h1,h2⟩
  |1,_=>exact⟨A',c',by rw[World.cell?_alloc_mark];rfl,(h'.alloc hB _).more (by omega),h1',h2'⟩⟩⟩
theorem rows_one(w:World)(B c:Nat)(A:Option Addr)(xs:List UInt8)(h:Byts w B A xs.length xs)(hB:B≤w.heap.size)(h1:xs.length≤c)(h2:c≤maxLen):
  Rows (w.alloc (.cells #[.slice A xs.length c] 39)) (w.heap.size+1) (some ⟨w.heap.size,0,none⟩) 1 [xs]:=
 ⟨rfl,fun _=>⟨w.heap.size,0,rfl,by omega,fun j hj=>by
  match j,hj with
  |0,_=>exact⟨A,c,by rw[World.cell?_alloc_mark];rfl,(h.alloc hB _).more (by omega),h1,h2⟩⟩⟩
theorem pad_two{m:Mk}:pad ([half m,half m]:List (List UInt8)).flatten=half m++half m:=by
 have:([half m,half m]:List (List UInt8)).flatten=half m++half m:=by simp
 rw[this];simp[pad,zeros,half_length]
theorem box_of{w w':World}{m:Mk}(h:Below (w.alloc (.cells #[.int .i64 m.kind,.int .i64 m.gen,.int .i64 m.seq,.int .i64 m.n] 158)).heap.size (w.alloc (.cells #[.int .i64 m.kind,.int .i64 m.gen,.int .i64 m.seq,.int .i64 m.n] 158)) w')(i:Nat):
  w'.cell? ⟨w.heap.size,i,none⟩=(#[.int .i64 m.kind,.int .i64 m.gen,.int .i64 m.seq,.int .i64 m.n]:Array Value)[i]? :=box_kept (h.mono (by simp)) i
def New64 (w:World) (s:List UInt8) (e:Ending) (w':World):Prop:=
 ∃g,e= .returned (.slice (some ⟨g,0,none⟩) 64 64)∧w'.heap[g]? =some (.cells (cel s).toArray 5 (0,0))∧w.heap.size≤g∧Below w.heap.size w w'
theorem put_new(m:Mk)(w:World)(hr:m.right=true):Calls Tryz.prog 101 #[mkV m] w (New64 w (put m)):=by
 have HC1:=hid (right_any m (w.alloc (.cells #[.int .i64 m.kind,.int .i64 m.gen,.int .i64 m.seq,.int .i64 m.n] 158)));rw[put_right hr];rw[hr] at HC1;clear hr;have HC2:=hid (fun w1=>laid_any m w1);have HL:=hid (half_length m);have HP:=hid (pad_two (m:=m));unfold mkV at HC1 HC2 ⊢;obtain⟨k,g,s,n⟩:=m;dsimp only at *;generalize half ⟨k,g,s,n⟩=xs at *;go_enter Tryz.func101,Tryz.ntmps101;go_wp2_with fail;refine HC1.out.mono ?_;rintro e w1 ⟨rfl,hb1⟩;have HB1:=hid hb1;have b0:=box_of (m:=⟨k,g,s,n⟩) hb1 0;have b1:=box_of (m:=⟨k,g,s,n⟩) hb1 1;have b2:=box_of (m:=⟨k,g,s,n⟩) hb1 2;have b3:=box_of (m:=⟨k,g,s,n⟩) hb1 3;dsimp only at b0 b1 b2 b3;clear hb1 HC1;go_wp2_with fail;refine(HC2.out w1).mono ?_;rintro e w2 ⟨A,c,rfl,hbt,hb2,h1,h2,_⟩;have hz:=HB1.out.size;simp only[World.size_alloc] at hz;have HB2:=hid (HB1.out.trans (hb2.mono HB1.out.size));have hz2:=HB2.out.size;simp only[World.size_alloc] at hz2;have HR:=hid (rows_two w2 _ c c A A xs xs hbt hbt (Nat.le_refl _) h1 h2 h1 h2);have HC3:=hid (filled_any _ _ 2 2 _ [xs,xs] HR.out (by simp) (by decide) (by simp[HL.out]));rw[HP.out] at HC3;clear hbt hb2 HC2 b0 b1 b2 b3 HR;rw[HL.out] at HC3 h1 ⊢;go_wp2_with fail;refine HC3.out.mono ?_;rintro e w3 ⟨rfl,hg3,hb3⟩;have HG:=hid (And.intro hg3 hb3);clear hg3 hb3;go_wp2_with fail;go_ret;exact⟨_,rfl,(by have h9:=HG.out.1;rwa [World.size_alloc] at h9),by omega,(alloc_below w _).trans (((HB2.out.mono (by simp)).alloc (by omega) _).trans (HG.out.2.mono (by simp;omega)))⟩
theorem New64.gives{w w':World}{s:List UInt8}{e:Ending}(h:New64 w s e w')(hs:s.length=64):Gives w s e w':=by
 obtain⟨g,rfl,hg,hlo,hb⟩:=h;refine⟨_,64,by rw[hs],⟨rfl,fun _=>⟨_,0,rfl,lt_of_heap hg,fun j hj=> ?_⟩⟩,hb,by omega,by unfold maxLen;omega,Above.one hlo⟩;rw[cell_at hg,Nat.zero_add,←cel_get s j hj];simp
theorem put_any(m:Mk)(w:World):Calls Tryz.prog 101 #[mkV m] w (Gives w (put m)):=by
 have HC1:=hid (right_any m (w.alloc (.cells #[.int .i64 m.kind,.int .i64 m.gen,.int .i64 m.seq,.int .i64 m.n] 158)));cases hr:m.right with
 |false=>
  rw[put_wrong hr];rw[hr] at HC1;clear hr;unfold mkV at HC1 ⊢;obtain⟨k,g,s,n⟩:=m;dsimp only at *;go_enter Tryz.func101,Tryz.ntmps101;go_wp2_with fail;refine HC1.out.mono ?_;rintro e w1 ⟨rfl,hb1⟩;go_wp2_with fail;go_ret;exact⟨none,0,rfl,Byts.none_,(alloc_below w _).trans (hb1.mono (by simp)),Nat.le_refl _,Nat.zero_le _,Above.none_⟩
 |true=>
  clear HC1;exact(put_new m w hr).mono fun _ _ h=>h.gives (put_length hr)
end Go.Proofs.YtdjhlhellkajfaaGreat.Frm
