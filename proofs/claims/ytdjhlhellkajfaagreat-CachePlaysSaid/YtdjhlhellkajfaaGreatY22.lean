/-
  Texts JMem, in one file. What each proves, and its conditions, stand at its head below.
-/
import Derived.Test.YtdjhlhellkajfaaGreatY10
import Derived.Test.YtdjhlhellkajfaaGreatY17
import Derived.Test.YtdjhlhellkajfaaGreatY21
set_option maxRecDepth 100000
namespace Go.Proofs.YtdjhlhellkajfaaGreat.Jou
open Go.RowKit Codec FrameM Cod JourM
open Disk (Turn Dk Dsk ptr Now)
theorem cel_disk(xs:List UInt8):Disk.cel xs=cel xs:=rfl
structure Bts (w:World) (S:List Nat) (A:Option Addr) (n:Nat) (xs:List UInt8):Prop where
 len:xs.length=n
 at_:0<n→∃b off,A=some ⟨b,off,none⟩∧b<w.heap.size∧b∉S∧∀j,j<n→w.cell? ⟨b,off+j,none⟩=some (byt (xs.getD j 0))
structure RowsB (w:World) (S:List Nat) (A:Option Addr) (n:Nat) (ls:List (List UInt8)):Prop where
 len:ls.length=n
 at_:0<n→∃b off,A=some ⟨b,off,none⟩∧b<w.heap.size∧b∉S∧∀j,j<n→∃Aj cj,w.cell? ⟨b,off+j,none⟩=some (.slice Aj (ls.getD j []).length cj)∧
  Bts w S Aj (ls.getD j []).length (ls.getD j [])∧(ls.getD j []).length≤cj∧cj≤maxLen
section
variable {w w':World} {S S':List Nat} {A:Option Addr} {n:Nat} {xs:List UInt8} {ls:List (List UInt8)}
theorem Bts.turn(h:Bts w S A n xs)(ht:Turn S' w w')(hS:∀k∈S',k∈S∨w.heap.size≤k):Bts w' S A n xs:=
 ⟨h.len,fun hn=>by
  obtain⟨b,off,e,hl,hb,hc⟩:=h.at_ hn;exact⟨b,off,e,Nat.lt_of_lt_of_le hl ht.size,hb,fun j hj=>(World.cell?_of_block (w:=w) (ht.block b hl (fun hm=>(hS b hm).elim hb (by omega)))).trans (hc j hj)⟩⟩
theorem Bts.sub(h:Bts w S A n xs)(hS:∀k∈S',k∈S∨w.heap.size≤k):Bts w S' A n xs:=
 ⟨h.len,fun hn=>by
  obtain⟨b,off,e,hl,hb,hc⟩:=h.at_ hn;exact⟨b,off,e,hl,fun hm=>(hS b hm).elim hb (by omega),hc⟩⟩
theorem Bts.byts(h:Bts w S A n xs):Byts w w.heap.size A n xs:=
 ⟨h.len,fun hn=>by
  obtain⟨b,off,e,hl,hb,hc⟩:=h.at_ hn;exact⟨b,off,e,hl,hc⟩⟩
theorem Bts.of_byts{B:Nat}(h:Byts w B A n xs)(hB:B≤w.heap.size)(hS:∀k∈S,B≤k):Bts w S A n xs:=
 ⟨h.len,fun hn=>by
  obtain⟨b,off,e,hl,hc⟩:=h.at_ hn;exact⟨b,off,e,by omega,fun hm=>by have:=hS b hm;omega,hc⟩⟩
theorem Bts.above{lo:Nat}(h:Byts w w.heap.size A n xs)(ha:Frm.Above lo A)(hS:∀k∈S,k<lo):Bts w S A n xs:=
 ⟨h.len,fun hn=>by
  obtain⟨b,off,e,hl,hc⟩:=h.at_ hn;exact⟨b,off,e,hl,fun hm=>by have:=hS b hm;have:lo≤b:=ha _ e;omega,hc⟩⟩
theorem Bts.below(h:Bts w S A n xs)(hb:Below w.heap.size w w'):Bts w' S A n xs:=h.turn (S':=[]) (Turn.ofBelow hb) (by simp)
theorem Bts.range{b o:Nat}(h:Bts w S (some ⟨b,o,none⟩) n xs)(hn:0<n):w.rangeAt b o (Disk.cel xs)∧b∉S∧b<w.heap.size:=by
 obtain⟨b',o',e,hl,hb,hc⟩:=h.at_ hn;injection e with e;injection e with e1 e2 _;subst e1 e2;refine⟨fun j v hv=> ?_,hb,hl⟩;have hj:j<xs.length:=by
  have:=(List.getElem?_eq_some_iff.1 hv).1;rwa [cel_disk,cel_length] at this
 rw[hc j (by rw[←h.len];exact hj),←cel_get xs j hj];exact hv
theorem RowsB.turn(h:RowsB w S A n ls)(ht:Turn S' w w')(hS:∀k∈S',k∈S∨w.heap.size≤k):RowsB w' S A n ls:=
 ⟨h.len,fun hn=>by
  obtain⟨b,off,e,hl,hb,hc⟩:=h.at_ hn;refine⟨b,off,e,Nat.lt_of_lt_of_le hl ht.size,hb,fun j hj=> ?_⟩;obtain⟨Aj,cj,h1,h2,h3⟩:=hc j hj;exact⟨Aj,cj,(World.cell?_of_block (w:=w) (ht.block b hl (fun hm=>(hS b hm).elim hb (by omega)))).trans h1,h2.turn ht hS,h3⟩⟩
theorem RowsB.sub(h:RowsB w S A n ls)(hS:∀k∈S',k∈S∨w.heap.size≤k):RowsB w S' A n ls:=
 ⟨h.len,fun hn=>by
  obtain⟨b,off,e,hl,hb,hc⟩:=h.at_ hn;refine⟨b,off,e,hl,fun hm=>(hS b hm).elim hb (by omega),fun j hj=> ?_⟩;obtain⟨Aj,cj,h1,h2,h3⟩:=hc j hj;exact⟨Aj,cj,h1,h2.sub hS,h3⟩⟩
theorem RowsB.below(h:RowsB w S A n ls)(hb:Below w.heap.size w w'):RowsB w' S A n ls:=h.turn (S':=[]) (Turn.ofBelow hb) (by simp)
theorem RowsB.rows(h:RowsB w S A n ls):Frm.Rows w w.heap.size A n ls:=
 ⟨h.len,fun hn=>by
  obtain⟨b,off,e,hl,hb,hc⟩:=h.at_ hn;refine⟨b,off,e,hl,fun j hj=> ?_⟩;obtain⟨Aj,cj,h1,h2,h3⟩:=hc j hj;exact⟨Aj,cj,h1,h2.byts,h3⟩⟩
theorem RowsB.of_rows{B:Nat}(h:Frm.Rows w B A n ls)(hB:B≤w.heap.size)(hS:∀k∈S,B≤k):RowsB w S A n ls:=
 ⟨h.len,fun hn=>by
  obtain⟨b,off,e,hl,hc⟩:=h.at_ hn;refine⟨b,off,e,by omega,fun hm=>by have:=hS b hm;omega,fun j hj=> ?_⟩;obtain⟨Aj,cj,h1,h2,h3⟩:=hc j hj;exact⟨Aj,cj,h1,Bts.of_byts h2 hB hS,h3⟩⟩
def RowAt (w:World) (S:List Nat) (A:Option Addr) (n k:Nat) (x:List UInt8) (b o:Nat) (Aj:Option Addr) (cj:Nat):Prop:=
 (∀c w',(Instr.indexAt 40 (.slice A n c) (.int .i64 k)).run Tryz.prog w'= .ok (.pointer (some ⟨b,o,none⟩)) w')∧w.cell? ⟨b,o,none⟩=some (.slice Aj x.length cj)∧Bts w S Aj x.length x∧x.length≤cj∧cj≤maxLen∧b∉S∧b<w.heap.size
theorem RowsB.at(h:RowsB w S A n ls){k:Nat}(hk:k<n):∃b o Aj cj,RowAt w S A n k (ls.getD k []) b o Aj cj:=by
 obtain⟨b,off,rfl,hl,hb,hc⟩:=h.at_ (by omega);obtain⟨Aj,cj,h1,h2,h3,h4⟩:=hc k hk;refine⟨b,off+k,Aj,cj,fun c w'=> ?_,h1,h2,h3,h4,hb,hl⟩;simp[Instr.indexAt,asIntOf,run_underlying Tryz.underlying40,Result.andThen,Addr.add_mid];intro h1;omega
theorem RowAt.index{k:Nat}{x:List UInt8}{b o cj:Nat}{Aj:Option Addr}(h:RowAt w S A n k x b o Aj cj)(c:Nat):∀w':World,(Instr.indexAt 40 (.slice A n c) (.int .i64 k)).run Tryz.prog w'= .ok (.pointer (some ⟨b,o,none⟩)) w':=fun w'=>h.1 c w'
theorem RowsB.of_pk{lo c:Nat}(h:Frm.Pk w lo (.slice A n c) n ls)(hS:∀k∈S,k<lo):RowsB w S A n ls:=by
 obtain⟨vs,ho,h1,h2,h3⟩:=h;refine⟨h2,fun hn=> ?_⟩;obtain⟨g,cap,hv,hlo,hlt⟩:=World.ownsRow.form ho hn;have hA:A=some ⟨g,0,none⟩:=by injection hv
 subst hA;refine⟨g,0,rfl,hlt,fun hm=>by have:=hS g hm;omega,fun j hj=> ?_⟩;obtain⟨gj,e,hg,hlj,hs⟩:=h3 j hj;have hc:=ho.cells (g:=g) rfl j (vs.getD j undef) (by simp[List.getD_eq_getElem?_getD,h1,hj]);rw[plain_add,e] at hc;refine⟨some ⟨gj,0,none⟩,64,by rw[hs];exact hc,⟨by rw[hs],fun _=>⟨gj,0,rfl,lt_of_heap hg,fun hm=>by have:=hS gj hm;omega,fun x hx=> ?_⟩⟩,by omega,by unfold maxLen;omega⟩;rw[cell_at hg,Nat.zero_add,←cel_get _ x hx];simp
end
def hv (g gen:Nat):Value:= .agg #[ptr g,.int .i64 gen]
def hbox (g gen:Nat):Obj:= .cells #[ptr g,.int .i64 gen] 105
def err (b:Bool):Int:=if b then 0 else 3
theorem err_true:err true=0:=rfl
theorem err_false:err false=3:=rfl
theorem Dk.below{w w':World}{g gs gm:Nat}{d:Dsk}(h:Dk w g gs gm d)(hb:Below w.heap.size w w'):Dk w' g gs gm d:=h.turn (Turn.ofBelow (S:=[]) hb) (by simp) (by simp) (by simp)
theorem Dk.lows{w:World}{g gs gm:Nat}{d:Dsk}(h:Dk w g gs gm d):∀k∈[g,gs,gm],k<w.heap.size:=by
 intro k hk;simp only[List.mem_cons,List.not_mem_nil,or_false] at hk;rcases hk with rfl|rfl|rfl
 ·exact h.lt
 ·exact h.sf.1
 exact h.ltm
theorem write_go(w:World)(g gs gm:Nat)(d:Dsk)(h:Dk w g gs gm d)(hg:go d=true)(i:Nat)(hi:i<d.n)(b o c:Nat)(xs:List UInt8)(hx:xs.length=64)(hr:Bts w [g,gs,gm] (some ⟨b,o,none⟩) 64 xs):
  Calls Tryz.prog 130 #[ptr g,.int .i64 i,.slice (some ⟨b,o,none⟩) 64 c] w (Now (.int .i64 0) w g gs gm (wr d i xs)):=by
 obtain⟨h1,h2⟩:=go_on hg;obtain⟨r1,r2,r3⟩:=hr.range (by omega);rw[wr_go hg];exact Disk.write_do w g gs gm d h h1 h2 i hi b o c xs hx r1 r2 r3
theorem write_no(w:World)(g gs gm:Nat)(d:Dsk)(h:Dk w g gs gm d)(hg:go d=false)(i:Nat)(hi:i<d.n)(A:Option Addr)(c:Nat)(xs:List UInt8):
  Calls Tryz.prog 130 #[ptr g,.int .i64 i,.slice A 64 c] w (Now (.int .i64 3) w g gs gm (wr d i xs)):=by
 unfold wr;cases ho:d.off with
 |true=>
  refine(Disk.write_off w g gs gm d h ho i _).mono ?_;rintro e w' ⟨rfl,rfl⟩;exact⟨rfl,h,Turn.refl _ _⟩
 |false=>
  have hd:d.done=false:=by simpa [go,ho] using hg
  rw[hd];exact Disk.write_stop w g gs gm d h ho hd i hi A c
theorem sync_any(w:World)(g gs gm:Nat)(d:Dsk)(h:Dk w g gs gm d):Calls Tryz.prog 131 #[ptr g] w (Now (.int .i64 (err (go d))) w g gs gm (sy d)):=by
 unfold sy;cases ho:d.off with
 |true=>
  have hg:go d=false:=by simp[go,ho]
  rw[hg];refine(Disk.sync_off w g gs gm d h ho).mono ?_;rintro e w' ⟨rfl,rfl⟩;exact⟨rfl,h,Turn.refl _ _⟩
 |false=>
  cases hd:d.done with
  |true=>
   have hg:go d=true:=by simp[go,ho,hd]
   rw[hg];exact Disk.sync_do w g gs gm d h ho hd
  |false=>
   have hg:go d=false:=by simp[go,ho,hd]
   rw[hg];exact Disk.sync_stop w g gs gm d h ho hd
def Got (w:World) (xs:List UInt8) (e:Ending) (w':World):Prop:=
 ∃A c z,e= .returned (.tuple #[.slice A xs.length c,.int .i64 z])∧Byts w' w'.heap.size A xs.length xs∧Below w.heap.size w w'∧xs.length≤c∧c≤maxLen∧Frm.Above w.heap.size A
theorem byts_block{w:World}{k:Nat}{xs:List UInt8}{T:TypeId}(h:w.heap[k]? =some (.cells (cel xs).toArray T (0,0))):Byts w w.heap.size (some ⟨k,0,none⟩) xs.length xs:=
 ⟨rfl,fun _=>⟨k,0,rfl,lt_of_heap h,fun j hj=>by rw[cell_at h,Nat.zero_add,←cel_get xs j hj];simp⟩⟩
theorem below_of_turn{w w':World}(h:Turn [] w w'):Below w.heap.size w w':=h.low (by simp) (Nat.le_refl _)
end Go.Proofs.YtdjhlhellkajfaaGreat.Jou
