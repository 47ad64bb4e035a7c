/-
  Texts KAct, in one file. What each proves, and its conditions, stand at its head below.
-/
import Derived.Test.YtdjhlhellkajfaaGreatY23
import Derived.Test.YtdjhlhellkajfaaGreatY29
import Derived.Lib.SmallJoins
set_option maxRecDepth 100000
namespace Go.Proofs.YtdjhlhellkajfaaGreat.Cch
open Go.RowKit Codec FrameM Cod JourM Go.ChangeShapes Go.WideShapes Go.ChangeAt Go.Deep Go.Joins
open Disk (Turn Dk Dsk ptr Now Made Nums fresh)
open Jou (NumsB cell_low one_field open_cell open_numc)
structure ActR where
 kind:Int
 num:Int
 e:Ent
 Af:Option Addr
 nf:Nat
 cf:Nat
 fs:List Int
structure ActIn (w:World) (base:Nat) (b o:Nat) (x:ActR):Prop where
 low:b<base
 c0:w.cell? ⟨b,o,none⟩=some (.int .i64 x.kind)
 c1:w.cell? ⟨b,o+1,none⟩=some (.int .i64 x.num)
 c2:w.cell? ⟨b,o+2,none⟩=some (.string x.e.k)
 c3:w.cell? ⟨b,o+3,none⟩=some (.string x.e.v)
 c4:w.cell? ⟨b,o+4,none⟩=some (.slice x.Af x.nf x.cf)
 nums:NumsB w base x.Af x.nf x.fs
 fm:x.nf≤maxLen
 n1: -9223372036854775808≤x.num
 n2:x.num≤9223372036854775807
 km:x.e.k.size≤maxLen
 vm:x.e.v.size≤maxLen
theorem ActIn.below{w w':World}{base b o:Nat}{x:ActR}(h:ActIn w base b o x)(hb:Below base w w'):ActIn w' base b o x:=by
 have e:∀q,w'.cell? ⟨b,q,none⟩=w.cell? ⟨b,q,none⟩:=fun q=>World.cell?_of_block (w:=w) (hb.block b h.low);exact⟨h.low,(e _).trans h.c0,(e _).trans h.c1,(e _).trans h.c2,(e _).trans h.c3,(e _).trans h.c4,h.nums.below hb,h.fm,h.n1,h.n2,h.km,h.vm⟩
def ActAt (w:World) (base:Nat) (A:Option Addr) (n k:Nat) (x:ActR) (b o:Nat):Prop:=
 (∀c w',(Instr.indexAt 70 (.slice A n c) (.int .i64 k)).run Tryz.prog w'= .ok (.pointer (some ⟨b,o,none⟩)) w')∧ActIn w base b o x
def Acts (w:World) (base:Nat) (A:Option Addr) (n:Nat):Prop:=∀k,k<n→∃x b o,ActAt w base A n k x b o
section
variable {H:Type} {enc:TypeId×Value→H} {w:World} {base:Nat} {spare:Nat→Bool} {held:Bool}
theorem open_act{fuel:Nat}{a:Addr}{cs:List Value}{x:DataW H×List MemPlace}(hc:w.cells? base a 5=some cs)(h:DataW.trod enc Tryz.prog w base spare held fuel 79 cs=some x):∃b o it,a=⟨b,o,none⟩∧ActIn w w.heap.size b o it:=by
 obtain⟨b,o,sp⟩:=a;obtain⟨_,hcl,hat⟩:=World.cells?_some hc;obtain⟨ys,n',_,_,_,hyl,hf⟩:=DataW.trod_struct Tryz.underlying79 h;have hyl5:ys.length=5:=hyl;have f0:DataW.trod enc Tryz.prog w base spare held n' 3 ((cs.drop 0).take (Tryz.prog.cellsOf 3))=ys[0]? :=hf 0 _ rfl;have f1:DataW.trod enc Tryz.prog w base spare held n' 3 ((cs.drop 1).take (Tryz.prog.cellsOf 3))=ys[1]? :=hf 1 _ rfl;have f2:DataW.trod enc Tryz.prog w base spare held n' 9 ((cs.drop 2).take (Tryz.prog.cellsOf 9))=ys[2]? :=hf 2 _ rfl;have f3:DataW.trod enc Tryz.prog w base spare held n' 9 ((cs.drop 3).take (Tryz.prog.cellsOf 9))=ys[3]? :=hf 3 _ rfl;have f4:DataW.trod enc Tryz.prog w base spare held n' 41 ((cs.drop 4).take (Tryz.prog.cellsOf 41))=ys[4]? :=hf 4 _ rfl;have k0:Tryz.prog.cellsOf 3=1:=by kernel_rfl
 have k2:Tryz.prog.cellsOf 9=1:=by kernel_rfl
 have k4:Tryz.prog.cellsOf 41=1:=by kernel_rfl
 rw[k0] at f0 f1;rw[k2] at f2 f3;rw[k4] at f4;rw[one_field (by omega)] at f0 f1 f2 f3 f4;obtain⟨y0,e0⟩:∃y,ys[0]? =some y:=⟨ys[0]'(by omega),List.getElem?_eq_getElem _⟩
 obtain⟨y1,e1⟩:∃y,ys[1]? =some y:=⟨ys[1]'(by omega),List.getElem?_eq_getElem _⟩
 obtain⟨y2,e2⟩:∃y,ys[2]? =some y:=⟨ys[2]'(by omega),List.getElem?_eq_getElem _⟩
 obtain⟨y3,e3⟩:∃y,ys[3]? =some y:=⟨ys[3]'(by omega),List.getElem?_eq_getElem _⟩
 obtain⟨y4,e4⟩:∃y,ys[4]? =some y:=⟨ys[4]'(by omega),List.getElem?_eq_getElem _⟩
 obtain⟨n0,g0,_,_⟩:=DataW.trod_int Tryz.underlying3 (f0.trans e0);obtain⟨n1,g1,_,h1⟩:=DataW.trod_int Tryz.underlying3 (f1.trans e1);obtain⟨sk,g2,_,b2⟩:=DataW.trod_string Tryz.underlying9 (f2.trans e2);obtain⟨sv,g3,_,b3⟩:=DataW.trod_string Tryz.underlying9 (f3.trans e3);obtain⟨Af,nf,cf,fs,g4,q1,q2,_⟩:=open_numc (f4.trans e4);injection g0 with g0;injection g1 with g1;injection g2 with g2;injection g3 with g3;injection g4 with g4;have a0:=hat 0 (by decide);have a1:=hat 1 (by decide);have a2:=hat 2 (by decide);have a3:=hat 3 (by decide);have a4:=hat 4 (by decide);rw[List.getElem?_eq_getElem (by omega),g0] at a0;rw[List.getElem?_eq_getElem (by omega),g1] at a1;rw[List.getElem?_eq_getElem (by omega),g2] at a2;rw[List.getElem?_eq_getElem (by omega),g3] at a3;rw[List.getElem?_eq_getElem (by omega),g4] at a4;have hsp:sp=none:=by simpa [Addr.add] using World.cell?_spot a0
 subst hsp;rw[plain_add] at a0 a1 a2 a3 a4;have h1': -9223372036854775808≤n1∧n1≤9223372036854775807:=by simpa [Lit.wf,IntKind.min,IntKind.max,IntKind.signed,IntKind.bits] using h1
 exact⟨b,o,⟨n0,n1,⟨sk,sv⟩,Af,nf,cf,fs⟩,rfl,cell_low a0,a0,a1,a2,a3,a4,q2,q1,h1'.1,h1'.2,b2,b3⟩
theorem open_acts{fuel:Nat}{A:Option Addr}{n c:Nat}{x:DataW H×List MemPlace}(h:DataW.trod enc Tryz.prog w base spare held fuel 70 [.slice A n c]=some x):
  n≤maxLen∧Acts w w.heap.size A n:=by
 rcases open_slice Tryz.underlying70 h with⟨hcs,_⟩|⟨a,len,cap,m,_,D,Pl,hcs,_,hl,hm,hmm,_,hi⟩
 ·injection hcs with hcs;injection hcs with h1 h2 h3;subst h1 h2 h3;exact⟨by omega,fun k hk=>absurd hk (by omega)⟩
 injection hcs with hcs;injection hcs with h1 h2 h3;subst h1 h2 h3;refine⟨by omega,fun k hk=> ?_⟩;have k32:Tryz.prog.cellsOf 79=5:=by kernel_rfl
 have hmn:k<m:=by rw[hmm];split<;>omega
 obtain⟨b,off,spot⟩:=a;obtain⟨cs',h1,h2⟩:=hi k hmn;rw[k32] at h1;have hspot:spot=none:=by
  obtain⟨cs0,z1,z2⟩:=hi 0 (by omega);rw[k32,Nat.zero_mul] at z1;have z1':w.cells? base ⟨b,off,spot⟩ 5=some cs0:=by simpa [Addr.add] using z1
  obtain⟨_,_,_,e,_⟩:=open_act z1' z2;injection e
 subst hspot;rw[plain_add] at h1;obtain⟨b',o',it,e,hit⟩:=open_act h1 h2;injection e with e1 e2 _;subst e1 e2;refine⟨it,b,off+k * 5,fun c w'=> ?_,hit⟩;have hs:∀W,(Go.sizeOf 79).run Tryz.prog W= .ok 5 W:=fun W=>by kernel_rfl
 simp[Instr.indexAt,asIntOf,run_underlying Tryz.underlying70,Result.andThen,Addr.add_mid];intro h1;omega
end
end Go.Proofs.YtdjhlhellkajfaaGreat.Cch
