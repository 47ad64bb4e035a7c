/-
  Texts RMem, RDisk, RRead, RSync, RNew, in one file. What each proves, and its conditions, stand at its head below.
-/
import Derived.Test.YtdjhlhellkajfaaGreatY21
import Derived.Test.YtdjhlhellkajfaaGreatY23
import Derived.StillTailTactics
set_option maxRecDepth 100000
set_option maxHeartbeats 4000000
open Go.Lib (hid)
namespace Go.Proofs.YtdjhlhellkajfaaGreat.Jou
open Go.RowKit Codec FrameM Cod JourM
open Disk (Turn Dk Dsk ptr Now upd)
section
variable {w w':World} {S S':List Nat} {u:Value} {s:List UInt8}
def Sec (w:World) (S:List Nat) (u:Value) (s:List UInt8):Prop:=∃b o c,u= .slice (some ⟨b,o,none⟩) 64 c∧Bts w S (some ⟨b,o,none⟩) 64 s∧64≤c∧c≤maxLen
def Wt (w:World) (S:List Nat) (u:Value):Option (List UInt8)→Prop
 |none=>u= .slice none 0 0
 |some s=>Sec w S u s
theorem Sec.turn(h:Sec w S u s)(ht:Turn S' w w')(hS:∀k∈S',k∈S∨w.heap.size≤k):Sec w' S u s:=by
 obtain⟨b,o,c,e,h1,h2⟩:=h;exact⟨b,o,c,e,h1.turn ht hS,h2⟩
theorem Sec.sub(h:Sec w S u s)(hS:∀k∈S',k∈S∨w.heap.size≤k):Sec w S' u s:=by
 obtain⟨b,o,c,e,h1,h2⟩:=h;exact⟨b,o,c,e,h1.sub hS,h2⟩
theorem Sec.of(A:Option Addr)(c:Nat)(h:Bts w S A 64 s)(h1:64≤c)(h2:c≤maxLen):Sec w S (.slice A 64 c) s:=by
 obtain⟨b,o,e,_⟩:=h.at_ (by omega);subst e;exact⟨b,o,c,rfl,h,h1,h2⟩
theorem Wt.turn{o:Option (List UInt8)}(h:Wt w S u o)(ht:Turn S' w w')(hS:∀k∈S',k∈S∨w.heap.size≤k):Wt w' S u o:=by
 cases o with
 |none=>exact h
 |some s=>exact Sec.turn (s:=s) h ht hS
theorem Wt.sub{o:Option (List UInt8)}(h:Wt w S u o)(hS:∀k∈S',k∈S∨w.heap.size≤k):Wt w S' u o:=by
 cases o with
 |none=>exact h
 |some s=>exact Sec.sub (s:=s) h hS
end
def robj (bs bw n cs cw:Nat) (left z:Int) (off:Bool):Obj:= .cells #[.slice (some ⟨bs,0,none⟩) n cs,.slice (some ⟨bw,0,none⟩) n cw,.int .i64 left,.int .i64 z,.bool off] 103
def LeftIs (d:Dsk) (left:Int):Prop:=d.off=false→left=if d.stops then d.left else-1
def RowOf (w:World) (b n:Nat) (Q:Value→Nat→Prop):Prop:=∃C:Array Value,w.heap[b]? =some (.cells C 39 (0,0))∧∀i,i<n→∃u,C[i]? =some u∧Q u i
structure Rk (w:World) (S:List Nat) (r bs bw:Nat) (d:Dsk):Prop where
 ok:d.ok
 hd:∃cs cw left z,w.heap[r]? =some (robj bs bw d.n cs cw left z d.off)∧d.n≤cs∧d.n≤cw∧LeftIs d left
 safe:RowOf w bs d.n fun u i=>Sec w ([r,bs,bw]++S) u (d.safe i)
 wait:RowOf w bw d.n fun u i=>Wt w ([r,bs,bw]++S) u (d.waits i)
 ne:bs≠bw
 out:∀k∈[r,bs,bw],k∉S
section
variable {w w':World} {S S':List Nat} {r bs bw:Nat} {d d':Dsk}
theorem Rk.apart(h:Rk w S r bs bw d):r≠bs∧r≠bw∧bs≠bw:=by
 obtain⟨cs,cw,left,z,h1,_⟩:=h.hd;obtain⟨C,h2,_⟩:=h.safe;obtain⟨C',h3,_⟩:=h.wait;refine⟨fun e=> ?_,fun e=> ?_,h.ne⟩
 ·rw[e,h2] at h1;injection h1 with h1;injection h1 with _ e;cases e
 rw[e,h3] at h1;injection h1 with h1;injection h1 with _ e;cases e
theorem Rk.lows(h:Rk w S r bs bw d):∀k∈[r,bs,bw],k<w.heap.size:=by
 obtain⟨cs,cw,left,z,h1,_⟩:=h.hd;obtain⟨C,h2,_⟩:=h.safe;obtain⟨C',h3,_⟩:=h.wait;intro k hk;simp at hk;rcases hk with rfl|rfl|rfl
 ·exact lt_of_heap h1
 ·exact lt_of_heap h2
 exact lt_of_heap h3
theorem RowOf.mono{b n:Nat}{Q Q':Value→Nat→Prop}(h:RowOf w b n Q)(hb:w'.heap[b]? =w.heap[b]?)(hQ:∀u i,i<n→Q u i→Q' u i):RowOf w' b n Q':=by
 obtain⟨C,h1,h2⟩:=h;refine⟨C,hb.trans h1,fun i hi=> ?_⟩;obtain⟨u,h3,h4⟩:=h2 i hi;exact⟨u,h3,hQ u i hi h4⟩
theorem RowOf.set{b n k:Nat}{Q Q':Value→Nat→Prop}(h:RowOf w b n Q)(v:Value)(hv:Q' v k)(hQ:∀u i,i<n→i≠k→Q u i→Q' u i):RowOf (w.setCell ⟨b,k,none⟩ v) b n Q':=by
 obtain⟨C,h1,h2⟩:=h;refine⟨C.setIfInBounds k v,set_at h1 k v,fun i hi=> ?_⟩;obtain⟨u,h3,h4⟩:=h2 i hi;by_cases hk:i=k
 ·subst hk;obtain⟨hs,_⟩:=Array.getElem?_eq_some_iff.1 h3;exact⟨v,by simp[hs],hv⟩
 exact⟨u,by rw[Array.getElem?_setIfInBounds_ne (by omega)];exact h3,hQ u i hi hk h4⟩
theorem RowOf.cell{b n k:Nat}{Q:Value→Nat→Prop}(h:RowOf w b n Q)(hk:k<n):∃u,w.cell? ⟨b,k,none⟩=some u∧w.frozen? ⟨b,k,none⟩=false∧Q u k:=by
 obtain⟨C,h1,h2⟩:=h;obtain⟨u,h3,h4⟩:=h2 k hk;exact⟨u,(cell_at h1 k).trans h3,free_at h1 k,h4⟩
theorem Rk.turn(h:Rk w S r bs bw d)(ht:Turn S' w w')(hS:∀k∈S',k∈S∨w.heap.size≤k):Rk w' S r bs bw d:=by
 have hb:∀k∈[r,bs,bw],w'.heap[k]? =w.heap[k]? :=fun k hk=>ht.block k (h.lows k hk) fun hm=>by
  rcases hS k hm with e|e
  ·exact h.out k hk e
  have:=h.lows k hk;omega
 have hS2:∀k∈S',k∈[r,bs,bw]++S∨w.heap.size≤k:=fun k hk=>(hS k hk).imp (fun e=>List.mem_append_right _ e) id;obtain⟨cs,cw,left,z,h1,h2⟩:=h.hd;exact⟨h.ok,⟨cs,cw,left,z,(hb r (by simp)).trans h1,h2⟩,h.safe.mono (hb bs (by simp)) fun u i _ hu=>hu.turn ht hS2,h.wait.mono (hb bw (by simp)) fun u i _ hu=>hu.turn ht hS2,h.ne,h.out⟩
theorem Rk.below(h:Rk w S r bs bw d)(hb:Below w.heap.size w w'):Rk w' S r bs bw d:=h.turn (Turn.ofBelow (S:=[]) hb) (by simp)
theorem Rk.others(h:Rk w S r bs bw d)(hS:∀k∈S',k∈S∨w.heap.size≤k):Rk w S' r bs bw d:=by
 have hS2:∀k∈[r,bs,bw]++S',k∈[r,bs,bw]++S∨w.heap.size≤k:=fun k hk=>by
  rcases List.mem_append.1 hk with e|e
  ·exact .inl (List.mem_append_left _ e)
  exact(hS k e).imp (fun e=>List.mem_append_right _ e) id
 exact⟨h.ok,h.hd,h.safe.mono rfl fun u i _ hu=>hu.sub hS2,h.wait.mono rfl fun u i _ hu=>hu.sub hS2,h.ne,fun k hk hm=>by
  rcases hS k hm with e|e
  ·exact h.out k hk e
  ·have:=h.lows k hk;omega⟩
theorem Rk.head(h:Rk w S r bs bw d)(hok:d'.ok)(hn:d'.n=d.n)(hs:∀i,i<d.n→d'.safe i=d.safe i)(hw:∀i,i<d.n→d'.waits i=d.waits i)(hh:∃cs cw left z,w'.heap[r]? =some (robj bs bw d.n cs cw left z d'.off)∧d.n≤cs∧d.n≤cw∧LeftIs d' left)
  (ht:Turn [r] w w'):Rk w' S r bs bw d':=by
 obtain⟨a1,a2,_⟩:=h.apart;have hb:∀k∈[bs,bw],w'.heap[k]? =w.heap[k]? :=fun k hk=>ht.block k (h.lows k (List.mem_cons_of_mem _ hk)) fun hm=>by
  simp at hm hk;omega
 have hS2:∀k∈[r],k∈[r,bs,bw]++S∨w.heap.size≤k:=fun k hk=> .inl (List.mem_append_left _ (by simp at hk;simp[hk]));refine⟨hok,by rw[hn];exact hh,?_,?_,h.ne,h.out⟩
 ·rw[hn];exact h.safe.mono (hb bs (by simp)) fun u i hi hu=>by rw[hs i hi];exact hu.turn ht hS2
 rw[hn];exact h.wait.mono (hb bw (by simp)) fun u i hi hu=>by rw[hw i hi];exact hu.turn ht hS2
theorem rk_turn_own{k:Nat}(hk:k∈[r,bs,bw]):∀q∈[k],q∈[r,bs,bw]++S∨w.heap.size≤q:=fun q hq=> .inl (List.mem_append_left _ (by simp at hq;subst hq;exact hk))
theorem Rk.putw(h:Rk w S r bs bw d)(k:Nat)(v:Value)(o:Option (List UInt8))(hv:Wt w ([r,bs,bw]++S) v o)(hok:Dsk.ok {d with waits:=upd d.waits k o}):Rk (w.setCell ⟨bw,k,none⟩ v) S r bs bw {d with waits:=upd d.waits k o}:=by
 obtain⟨a1,a2,a3⟩:=h.apart;have ht:Turn [bw] w (w.setCell ⟨bw,k,none⟩ v):=(Turn.refl [bw] w).setCell (.inl (by simp)) v;obtain⟨cs,cw,left,z,h1,h2⟩:=h.hd;refine⟨hok,⟨cs,cw,left,z,(Below.heap_setCell w _ v r (by simpa using a2)).trans h1,h2⟩,h.safe.mono (Below.heap_setCell w _ v bs (by simpa using a3)) fun u i _ hu=>hu.turn ht (rk_turn_own (by simp)),
  RowOf.set h.wait v ?_ fun u i _ hne hu=> ?_,h.ne,h.out⟩
 ·show Wt _ _ _ (upd d.waits k o k);rw[Disk.upd_same];exact hv.turn ht (rk_turn_own (by simp))
 show Wt _ _ _ (upd d.waits k o i);rw[Disk.upd_other _ _ hne];exact hu.turn ht (rk_turn_own (by simp))
theorem Rk.puts(h:Rk w S r bs bw d)(k:Nat)(v:Value)(s:List UInt8)(hv:Sec w ([r,bs,bw]++S) v s)(hok:Dsk.ok {d with safe:=upd d.safe k s}):Rk (w.setCell ⟨bs,k,none⟩ v) S r bs bw {d with safe:=upd d.safe k s}:=by
 obtain⟨a1,a2,a3⟩:=h.apart;have ht:Turn [bs] w (w.setCell ⟨bs,k,none⟩ v):=(Turn.refl [bs] w).setCell (.inl (by simp)) v;obtain⟨cs,cw,left,z,h1,h2⟩:=h.hd;refine⟨hok,⟨cs,cw,left,z,(Below.heap_setCell w _ v r (by simpa using a1)).trans h1,h2⟩,RowOf.set h.safe v ?_ fun u i _ hne hu=> ?_,
  h.wait.mono (Below.heap_setCell w _ v bw (by simpa using fun e=>a3 e.symm)) fun u i _ hu=>hu.turn ht (rk_turn_own (by simp)),h.ne,h.out⟩
 ·show Sec _ _ _ (upd d.safe k s k);rw[Disk.upd_same];exact hv.turn ht (rk_turn_own (by simp))
 show Sec _ _ _ (upd d.safe k s i);rw[Disk.upd_other _ _ hne];exact hu.turn ht (rk_turn_own (by simp))
theorem Rk.congr(h:Rk w S r bs bw d)(hok:d'.ok)(hn:d'.n=d.n)(hs:∀i,i<d.n→d'.safe i=d.safe i)(hw:∀i,i<d.n→d'.waits i=d.waits i)(ho:d'.off=d.off)(hl:∀left,LeftIs d left→LeftIs d' left):Rk w S r bs bw d':=by
 obtain⟨cs,cw,left,z,h1,h2,h3,h4⟩:=h.hd;exact h.head hok hn hs hw ⟨cs,cw,left,z,by rw[ho];exact h1,h2,h3,hl _ h4⟩ (Turn.refl _ _)
end
def RNow (v:Value) (w:World) (S:List Nat) (r bs bw:Nat) (d:Dsk) (e:Ending) (w':World):Prop:=e= .returned v∧Rk w' S r bs bw d∧Turn [r,bs,bw] w w'
theorem ridx(b n c i:Nat)(h:i<n):∀v:World,(Instr.indexAt 40 (.slice (some ⟨b,0,none⟩) n c) (.int .i64 i)).run Tryz.prog v= .ok (.pointer (some ⟨b,i,none⟩)) v:=fun v=>by
 simp[Instr.indexAt,asIntOf,run_underlying Tryz.underlying40,Result.andThen,Addr.add_mid];omega
end Go.Proofs.YtdjhlhellkajfaaGreat.Jou
namespace Go.Proofs.YtdjhlhellkajfaaGreat.Jou
open Go.RowKit Codec FrameM Cod JourM
open Disk (Turn Dk Dsk ptr Now upd)
structure Hd5 (w:World) (r bs bw n cs cw:Nat) (left z:Int) (off:Bool):Prop where
 hp:w.heap[r]? =some (robj bs bw n cs cw left z off)
 c0:w.cell? ⟨r,0,none⟩=some (.slice (some ⟨bs,0,none⟩) n cs)
 c1:w.cell? ⟨r,1,none⟩=some (.slice (some ⟨bw,0,none⟩) n cw)
 c2:w.cell? ⟨r,2,none⟩=some (.int .i64 left)
 c3:w.cell? ⟨r,3,none⟩=some (.int .i64 z)
 c4:w.cell? ⟨r,4,none⟩=some (.bool off)
 f:∀i,w.frozen? ⟨r,i,none⟩=false
theorem hd5{w:World}{r bs bw n cs cw:Nat}{left z:Int}{off:Bool}(h:w.heap[r]? =some (robj bs bw n cs cw left z off)):Hd5 w r bs bw n cs cw left z off:=
 ⟨h,cell_at h 0,cell_at h 1,cell_at h 2,cell_at h 3,cell_at h 4,fun i=>free_at h i⟩
theorem rroom_any(w:World)(S:List Nat)(r bs bw:Nat)(d:Dsk)(h:Rk w S r bs bw d)(h2:2≤d.n):Calls Tryz.prog 30 #[ptr r] w (Disk.Ends (.int .i64 (room d.n)) w):=by
 obtain⟨cs,cw,left,z,h1,_⟩:=h.hd;have hn:=h.ok.2.1;obtain⟨_,c0,_,_,_,_,_⟩:=hd5 h1;have HM:Hid ((room d.n:Int)=((d.n:Int)-2)/2):=hid (by unfold room;omega);rw[HM.out];clear h h1 HM;unfold ptr;generalize d.n=n at *;go_enter Tryz.func30,Tryz.ntmps30;go_wp2;go_ret;exact⟨rfl,rfl⟩
theorem i64_and1(n:Int):bits .and .i64 n 1=n%2:=by
 have h3:(BitVec.ofInt 64 1).toNat=2^1-1:=by decide
 have key:(BitVec.ofInt 64 n&&& BitVec.ofInt 64 1).toNat=(n%((2^64:Nat):Int)).toNat%2^1:=by
  rw[BitVec.toNat_and,BitVec.toNat_ofInt,h3,Nat.and_two_pow_sub_one_eq_mod]
 show IntKind.i64.wrap ((BitVec.ofInt 64 n&&& BitVec.ofInt 64 1).toNat:Nat)=n%2;rw[key,IntKind.wrap_i64];omega
theorem first_any(w:World)(S:List Nat)(r bs bw:Nat)(d:Dsk)(gen:Nat)(h:Rk w S r bs bw d)(h2:2≤d.n):Calls Tryz.prog 60 #[ptr r,.int .i64 gen] w (Disk.Ends (.int .i64 (secAt d.n gen 0)) w):=by
 have hn:=h.ok.2.1;have HRM:=hid (rroom_any w S r bs bw d h h2);have HE:Hid ((secAt d.n gen 0:Int)=2+((gen%2:Nat):Int) * (room d.n:Int)):=hid (by unfold secAt;push_cast;omega);have hr1:room d.n≤65536:=by unfold room;omega
 have hb:bits .and .i64 (gen:Int) 1=((gen%2:Nat):Int):=by rw[i64_and1];omega
 have hq:=Nat.mod_two_eq_zero_or_one gen;generalize room d.n=R at *;generalize gen%2=q at *;rw[HE.out];clear h h2 HE hn;unfold ptr at *;rcases hq with rfl|rfl;all_goals
  go_enter Tryz.func60,Tryz.ntmps60;go_wp2_with fail;refine HRM.out.mono ?_;rintro e w1 ⟨rfl,rfl⟩;go_wp2;go_ret;refine⟨?_,rfl⟩;simp
def fe (d:Dsk):Dsk:=if JourM.go d then d else if d.off then d else d.deed
theorem fe_go{d:Dsk}(h:JourM.go d=true):fe d=d:=by unfold fe;rw[if_pos h]
theorem rdeed_any(w:World)(S:List Nat)(r bs bw:Nat)(d:Dsk)(h:Rk w S r bs bw d):Calls Tryz.prog 106 #[ptr r] w (RNow (.bool (JourM.go d)) w S r bs bw (fe d)):=by
 obtain⟨cs,cw,left,z,h1,hcs,hcw,hl⟩:=h.hd;have HH:=hid (hd5 h1);have HD:=hid h;obtain⟨_,c0,c1,c2,c3,c4,f⟩:=hd5 h1;have f4:=f 4;have HL:=hid hl;have HC:=hid (And.intro hcs hcw);have HT:Hid (Turn [r] w (w.setCell ⟨r,4,none⟩ (.bool true))):=hid ((Turn.refl [r] w).setCell (.inl (by simp)) _);have HS:Hid ((w.setCell ⟨r,4,none⟩ (.bool true)).heap[r]? =some (robj bs bw d.n cs cw left z true)):=hid (set_at h1 4 _);clear h h1 hl hcs hcw f;unfold ptr;cases ho:d.off with
 |true=>
  have hg:JourM.go d=false:=by simp[JourM.go,ho]
  have hf:fe d=d:=by unfold fe;simp[hg,ho]
  rw[hg,hf];rw[ho] at c4;go_enter Tryz.func106,Tryz.ntmps106;go_wp2;go_ret;refine⟨rfl,HD.out.head HD.out.ok rfl (fun _ _=>rfl) (fun _ _=>rfl) ⟨cs,cw,left,z,by rw[ho];exact HS.out,HC.out.1,HC.out.2,HL.out⟩ HT.out,HT.out.more (by simp)⟩
 |false=>
  have hlv:left=if d.stops then d.left else-1:=HL.out ho
  rw[ho] at c4;by_cases h0:left=0
  ·have hst:d.stops=true∧d.left=0:=by
    cases hs:d.stops
    ·rw[hs] at hlv;simp at hlv;omega
    rw[hs] at hlv;simp at hlv;exact⟨rfl,by omega⟩
   have hg:JourM.go d=false:=by simp[JourM.go,ho,Disk.Dsk.done,hst.1,hst.2]
   have hf:fe d={d with off:=true}:=by unfold fe;simp[hg,ho,Disk.Dsk.deed,hst.1,hst.2]
   rw[hg,hf];subst h0;clear hlv hf hg;go_enter Tryz.func106,Tryz.ntmps106;go_wp2;go_ret;refine⟨rfl,HD.out.head ?_ rfl (fun _ _=>rfl) (fun _ _=>rfl) ⟨cs,cw,0,z,HS.out,HC.out.1,HC.out.2,fun e=>by cases e⟩ HT.out,HT.out.more (by simp)⟩;have:=HD.out.ok;exact⟨this.1,this.2.1,this.2.2.1,this.2.2.2.1,this.2.2.2.2.1,this.2.2.2.2.2.1,fun _ e=>by cases e⟩
  have hg:JourM.go d=true:=by
   cases hs:d.stops
   ·simp[JourM.go,ho,Disk.Dsk.done,hs]
   rw[hs] at hlv;simp at hlv;have:¬d.left=0:=by omega
   simp[JourM.go,ho,Disk.Dsk.done,this]
  rw[hg,fe_go hg];clear hlv;go_enter Tryz.func106,Tryz.ntmps106;go_wp2;go_ret;exact⟨rfl,HD.out,Turn.refl _ _⟩
theorem rdid_any(w:World)(S:List Nat)(r bs bw:Nat)(d:Dsk)(h:Rk w S r bs bw d)(hg:JourM.go d=true):Calls Tryz.prog 107 #[ptr r] w (RNow (.tuple #[]) w S r bs bw d.deed):=by
 obtain⟨ho,hdn⟩:=go_on hg;obtain⟨cs,cw,left,z,h1,hcs,hcw,hl⟩:=h.hd;have HD:=hid h;have HC:=hid (And.intro hcs hcw);have HW:=hid h1;obtain⟨_,c0,c1,c2,c3,c4,f⟩:=hd5 h1;have f2:=f 2;have f3:=f 3;have hlv:left=if d.stops then d.left else-1:=hl ho
 have hok:=Disk.Dsk.deed_ok h.ok ho;have hof:=deed_go hg;obtain⟨hp1,hp2,hp3⟩:=d.deed_parts;have HP:=hid (And.intro hok (And.intro hof (And.intro hp1 (And.intro hp2 hp3))));have hlr:=h.ok.2.2.2.2;have hrange:left<9223372036854775808∧ -9223372036854775808≤left:=by
  rw[hlv];split<;>omega
 have HDL:Hid (if 0<left then d.deed.left=left-1∧d.stops=true∧d.deed.stops=true else d.stops=false∧d.deed.stops=false∧left= -1):=hid (by
  cases hs:d.stops
  ·rw[hs] at hlv;simp at hlv;simp[hlv,Disk.Dsk.deed,hs]
  ·rw[hs] at hlv;simp at hlv;have h0:¬d.left=0:=by
    intro e;simp[Disk.Dsk.done,hs,e] at hdn
   have h3:=hlr.2.2 hs ho;rw[if_pos (by omega)];simp[Disk.Dsk.deed,hs,h0,hlv])
 have HDN:=hid hlv;clear h h1 hl hcs hcw f hlv hok hof hp1 hp2 hp3 hlr;obtain⟨z',hz'⟩:∃q,wrap64 (z+1)=q:=⟨_,rfl⟩
 unfold ptr;by_cases hpos:0<left
 ·have hd:=HDL.out;rw[if_pos hpos] at hd;have HDD:=hid hd;clear hd HDL;go_enter Tryz.func107,Tryz.ntmps107;go_wp2;go_end0;have hs1:=set_at HW.out 3 (.int .i64 z');have hs2:=set_at hs1 2 (.int .i64 (left-1));have ht:Turn [r] w ((w.setCell ⟨r,3,none⟩ (.int .i64 z')).setCell ⟨r,2,none⟩ (.int .i64 (left-1))):=((Turn.refl [r] w).setCell (.inl (by simp)) _).setCell (.inl (by simp)) _;exact⟨rfl,HD.out.head HP.out.1 HP.out.2.2.1 (fun _ _=>by rw[HP.out.2.2.2.1]) (fun _ _=>by rw[HP.out.2.2.2.2]) ⟨cs,cw,left-1,z',by rw[HP.out.2.1,←ho];exact hs2,HC.out.1,HC.out.2,fun _=>by rw[HDD.out.2.2,if_pos rfl,HDD.out.1]⟩ ht,ht.more (by simp)⟩
 have hd:=HDL.out;rw[if_neg hpos] at hd;have HDD:=hid hd;clear hd HDL;go_enter Tryz.func107,Tryz.ntmps107;go_wp2;go_end0;have hs1:=set_at HW.out 3 (.int .i64 z');have ht:Turn [r] w (w.setCell ⟨r,3,none⟩ (.int .i64 z')):=(Turn.refl [r] w).setCell (.inl (by simp)) _;exact⟨rfl,HD.out.head HP.out.1 HP.out.2.2.1 (fun _ _=>by rw[HP.out.2.2.2.1]) (fun _ _=>by rw[HP.out.2.2.2.2]) ⟨cs,cw,left,z',by rw[HP.out.2.1,←ho];exact hs1,HC.out.1,HC.out.2,fun _=>by rw[HDD.out.2.1,HDD.out.2.2];rfl⟩ ht,ht.more (by simp)⟩
theorem rstop_any(w:World)(S:List Nat)(r bs bw:Nat)(d:Dsk)(k:Int)(h:Rk w S r bs bw d)(k1: -9223372036854775808≤k)(k2:k≤9223372036854775807):Calls Tryz.prog 20 #[ptr r,.int .i64 k] w (RNow (.tuple #[]) w S r bs bw (d.stop k)):=by
 obtain⟨cs,cw,left,z,h1,hcs,hcw,hl⟩:=h.hd;have HD:=hid h;have HC:=hid (And.intro hcs hcw);have HW:=hid h1;have HOK:=hid (Disk.Dsk.stop_ok h.ok k1 k2);obtain⟨_,c0,c1,c2,c3,c4,f⟩:=hd5 h1;have f2:=f 2;have f4:=f 4;clear h h1 hl hcs hcw f;unfold ptr;cases ho:d.off with
 |true=>
  rw[ho] at c4;have hso:(d.stop k).off=true:=by simp[Disk.Dsk.stop,ho]
  go_enter Tryz.func20,Tryz.ntmps20;go_wp2;go_end0;exact⟨rfl,HD.out.head HOK.out rfl (fun _ _=>rfl) (fun _ _=>rfl) ⟨cs,cw,left,z,by rw[hso,←ho];exact HW.out,HC.out.1,HC.out.2,fun e=>by rw[hso] at e;cases e⟩ (Turn.refl _ _),Turn.refl _ _⟩
 |false=>
  rw[ho] at c4;by_cases hk:1≤k
  ·have hmax:max k 0=k:=by omega
   have hk0:(k==0)=false:=by simp;omega
   have hso:(d.stop k).off=false:=by simp[Disk.Dsk.stop,ho];omega
   go_enter Tryz.func20,Tryz.ntmps20;go_wp2;go_end0;have hs1:=set_at HW.out 2 (.int .i64 k);have hs2:=set_at hs1 4 (.bool false);have ht:Turn [r] w ((w.setCell ⟨r,2,none⟩ (.int .i64 k)).setCell ⟨r,4,none⟩ (.bool false)):=((Turn.refl [r] w).setCell (.inl (by simp)) _).setCell (.inl (by simp)) _;exact⟨rfl,HD.out.head HOK.out rfl (fun _ _=>rfl) (fun _ _=>rfl) ⟨cs,cw,k,z,by rw[hso];exact hs2,HC.out.1,HC.out.2,fun _=>rfl⟩ ht,ht.more (by simp)⟩
  have hso:(d.stop k).off=true:=by simp[Disk.Dsk.stop];omega
  have hfin:Hid (∀w':World,w'=(w.setCell ⟨r,2,none⟩ (.int .i64 0)).setCell ⟨r,4,none⟩ (.bool true)→RNow (.tuple #[]) w S r bs bw (d.stop k) (.returned (.tuple #[])) w'):=hid (fun w' e=>by
   subst e;have hs1:=set_at HW.out 2 (.int .i64 0);have hs2:=set_at hs1 4 (.bool true);have ht:Turn [r] w ((w.setCell ⟨r,2,none⟩ (.int .i64 0)).setCell ⟨r,4,none⟩ (.bool true)):=((Turn.refl [r] w).setCell (.inl (by simp)) _).setCell (.inl (by simp)) _;exact⟨rfl,HD.out.head HOK.out rfl (fun _ _=>rfl) (fun _ _=>rfl) ⟨cs,cw,0,z,by rw[hso];exact hs2,HC.out.1,HC.out.2,fun e=>by rw[hso] at e;cases e⟩ ht,ht.more (by simp)⟩)
  clear hso;rcases(by omega:k=0∨k<0) with rfl|hk2
  ·skip
   go_enter Tryz.func20,Tryz.ntmps20;go_wp2;go_end0;exact hfin.out _ rfl
  have hk3:¬0≤k:=by omega
  clear hk hk2;go_enter Tryz.func20,Tryz.ntmps20;go_wp2;go_end0;exact hfin.out _ rfl
end Go.Proofs.YtdjhlhellkajfaaGreat.Jou
namespace Go.Proofs.YtdjhlhellkajfaaGreat.Jou
open Go.RowKit Codec FrameM Cod JourM
open Disk (Turn Dk Dsk ptr Now upd)
theorem wh_app{ops:Array Oper}{Q:Exit→Act→World→Prop}{md:Region.Mode}{S:World→Prop}{fuel:Nat}{listed:Array Bool}{a:Act}{w:World}(i d:Nat){oi:Oper}(hi:ops[i]? =some oi)(hd:oi.dst=some d)(hr:Region.ready md ops listed=[i])(hw:Region.wanted oi (yielded ops a.tmps)=true)
  (s x:Operand) (ho:oi.op= .call {callee:= .builtin .append,args:= #[s,x],argTypes:= #[39,39]})
  (base:Nat) (v:Value) (n:Nat) (xs:List UInt8) (hs:a.eval s=v) (hown:Owns w base v n xs) (B:Nat) (A:Option Addr) (m c:Nat) (ys:List UInt8) (hx:a.eval x= .slice A m c) (hy:Byts w B A m ys)
  (hn:n+m≤1000000000) (hbase:base≤w.heap.size)
  (h:∀A' c' w',Owns w' base (.slice A' (n+m) c') (n+m) (xs++ys)→w.grownBy w' v.ownBlock→S w'∧wpAnyH Tryz.prog md ops Q S fuel (listed.setIfInBounds i true) (a.put (some d) (.slice A' (n+m) c')) w'):wpAnyH Tryz.prog md ops Q S (fuel+1) listed a w:=by
 obtain⟨A',c',w',hrun,h2,h3⟩:=run_app w oi.type base v n xs hown B A m c ys hy hn hbase;obtain⟨k1,k2⟩:=h A' c' w' h2 h3;refine Frm.wh_run i d _ w' hi hd hr hw ?_ k1 k2;unfold execOp;simp only[ho,resolve,invoke,builtin,Sem.run_bind,Sem.run_pure,Result.andThen_ok,List.map_toArray,List.map_cons,List.map_nil,hs,hx,hrun]
theorem drew_cell(w:World)(a:Addr):w.drew.cell? a=w.cell? a:=rfl
theorem own_below{w w1:World}{base n:Nat}{v:Value}{xs:List UInt8}(h:Owns w base v n xs)(hB:base≤w.heap.size)(hg:w.grownBy w1 v.ownBlock):Below base w w1:=
 (Below.refl base w).grown hg hB (fun k hk=>(World.ownsRow.lt h k hk).1)
theorem bts_own{w:World}{base n c:Nat}{A:Option Addr}{xs:List UInt8}{S:List Nat}(h:Owns w base (.slice A n c) n xs)(hS:∀k∈S,k<base):Bts w S A n xs:=
 ⟨h.len,fun hn=>by
  obtain⟨b,off,e,hl,hc⟩:=h.byts.at_ hn;obtain⟨g,cap,hv,hg,_⟩:=World.ownsRow.form h hn;have e2:A=some ⟨g,0,none⟩:=by injection hv
  rw[e2] at e;injection e with e;injection e with e3;subst e3;refine⟨g,off,?_,hl,fun hm=> ?_,hc⟩
  ·rw[e2];congr 2
  ·have:=hS g hm;omega⟩
theorem sec_new{w:World}{base c:Nat}{A:Option Addr}{s:List UInt8}{S:List Nat}(h:Owns w base (.slice A 64 c) 64 s)(hS:∀k∈S,k<base):Sec w S (.slice A 64 c) s:=by
 obtain⟨A',c',e,h1,h2⟩:=h.form;injection e with _ _ e3;subst e3;exact Sec.of A c (bts_own h hS) h1 h2
theorem wr_put{d:Dsk}(h:JourM.go d=true){i:Nat}{s:List UInt8}:wr d i s=(d.put i s).deed:=by
 rw[wr_go h];obtain⟨n,sf,wt,off,st,lf⟩:=d;cases st
 ·simp[Disk.Dsk.deed,Disk.Dsk.put]
 by_cases h0:lf=0<;>simp[Disk.Dsk.deed,Disk.Dsk.put,h0]
theorem sy_deed{d:Dsk}(h:JourM.go d=true):sy d=d.synced.deed:=by
 rw[sy_go h];obtain⟨n,sf,wt,off,st,lf⟩:=d;cases st
 ·simp[Disk.Dsk.deed,Disk.Dsk.synced]
 by_cases h0:lf=0<;>simp[Disk.Dsk.deed,Disk.Dsk.synced,h0]<;>rfl
theorem wr_fe{d:Dsk}(h:JourM.go d=false)(i:Nat)(s:List UInt8):wr d i s=fe d:=by
 unfold wr fe;rw[h];cases ho:d.off
 ·have:d.done=false:=by simpa [JourM.go,ho] using h
  simp[this]
 simp
theorem sy_fe{d:Dsk}(h:JourM.go d=false):sy d=fe d:=by
 unfold sy fe;rw[h];cases ho:d.off
 ·have:d.done=false:=by simpa [JourM.go,ho] using h
  simp[this]
 simp
def NewB (w w':World) (A:Option Addr) (n:Nat) (xs:List UInt8):Prop:=∀S:List Nat,(∀k∈S,k<w.heap.size)→Bts w' S A n xs
theorem left_go{d:Dsk}{left:Int}(hl:LeftIs d left)(ho:d.off=false):(left=0↔JourM.go d=false):=by
 have hlv:=hl ho;cases hs:d.stops
 ·rw[hs] at hlv;simp at hlv;simp[JourM.go,ho,Disk.Dsk.done,hs,hlv]
 rw[hs] at hlv;simp at hlv;simp[JourM.go,ho,Disk.Dsk.done,hs,hlv]
theorem rwrite_any(w:World)(S:List Nat)(r bs bw:Nat)(d:Dsk)(i c:Nat)(A:Option Addr)(s:List UInt8)(h:Rk w S r bs bw d)(hi:i<d.n)(hx:Bts w [r,bs,bw] A 64 s)(hS:∀k∈S,k<w.heap.size):
  Calls Tryz.prog 59 #[ptr r,.int .i64 i,.slice A 64 c] w (RNow (.int .i64 (err (JourM.go d))) w S r bs bw (wr d i s)):=by
 obtain⟨cs,cw,left,z,h1,hcs,hcw,hl⟩:=h.hd;obtain⟨_,c0,c1,c2,c3,c4,f⟩:=hd5 h1;have hn:=h.ok.2.1;have HD:=hid h;have HDE:=hid (rdeed_any w S r bs bw d h);have x2:=ridx bw d.n cw i hi;have HI:=hid hi;have HX0:=hid hx;have HS0:=hid hS;have HSL:=hid hx.len;clear hx hS;unfold ptr at *;cases ho:d.off with
 |true=>
  have hg:JourM.go d=false:=by simp[JourM.go,ho]
  have hf:wr d i s=d:=by unfold wr;simp[ho]
  rw[hg,hf];rw[ho] at c4;clear h h1 f hl HDE;generalize d.n=n at *;go_enter Tryz.func59,Tryz.ntmps59;go_wp2_with fail;go_ret;exact⟨rfl,HD.out,Turn.refl _ _⟩
 |false=>
  rw[ho] at c4;have hlg:=left_go hl ho;cases hg:JourM.go d with
  |false=>
   have h0:left=0:=hlg.2 hg;subst h0;rw[wr_fe hg];rw[hg] at HDE;clear h h1 f hl hlg;generalize d.n=n at *;go_enter Tryz.func59,Tryz.ntmps59;go_wp2_with fail;refine HDE.out.mono ?_;rintro e w1 ⟨rfl,hr1,ht1⟩;go_wp2_with fail;go_ret;exact⟨rfl,hr1,ht1⟩
  |true=>
   have h0:¬left=0:=fun e=>by rw[hlg.1 e] at hg;cases hg
   have HGO:Hid (JourM.go (d.put i s)=true):=hid hg;have HGO2:=hid hg;rw[hg,fe_go hg] at HDE;clear h h1 f hl hlg hg;obtain⟨n,hnn⟩:∃n,n=d.n:=⟨_,rfl⟩
   rw[←hnn] at c0 c1 x2 hi hn hcs hcw;have hi2:(i:Int)<n:=by omega
   go_enter Tryz.func59,Tryz.ntmps59;go_wp2_with fail;refine HDE.out.mono ?_;rintro e w1 ⟨rfl,hr1,ht1⟩;have HRK:=hid hr1;have HTW:=hid ht1;obtain⟨cs1,cw1,left1,z1,h11,_,hcw1,_⟩:=hr1.hd;have HC1:Hid (w1.cell? ⟨r,1,none⟩=some (.slice (some ⟨bw,0,none⟩) n cw1)):=hid (by rw[hnn];exact(hd5 h11).c1);have x2:=ridx bw n cw1 i (by omega);have HX:=hid (HX0.out.turn ht1 (fun q hq=> .inl hq)).byts;have HLOW:Hid (∀q∈[r,bs,bw]++S,q<w1.heap.size):=hid (fun q hq=>by
    rcases List.mem_append.1 hq with e|e
    ·exact hr1.lows q e
    ·exact Nat.lt_of_lt_of_le (HS0.out q e) ht1.size)
   clear hr1 ht1 HDE c0 c1 c2 c3 c4 h11 hcw1;go_upto_region 7 with fail;have c1:=HC1.out;refine Frm.wh_start (fun u=>u.cell? ⟨r,1,none⟩=some (.slice (some ⟨bw,0,none⟩) n cw1)) (by kernel_rfl) ?_;have HB:=hid (Below.refl w1.heap.size w1).drew;have HR0:=hid (HRK.out.below HB.out);have HS:Hid (w1.drew.cell? ⟨r,1,none⟩=some (.slice (some ⟨bw,0,none⟩) n cw1)):=hid ((drew_cell _ _).trans c1);clear c1;generalize w1.drew=u0 at *;refine Frm.wa 0 37 (.pointer (some ⟨r,0,none⟩)) HS.out ?_;go_frame;refine Frm.wb 1 38 (.pointer (some ⟨r,0,none⟩)) HS.out ?_;go_frame;refine Frm.wb 2 39 (.pointer (some ⟨r,1,none⟩)) HS.out ?_;go_frame;refine Frm.wb 3 40 (.slice (some ⟨bw,0,none⟩) n cw1) HS.out ?_;go_frame;refine Frm.wa 4 41 (.int .i64 i) HS.out ?_;go_frame;refine Frm.wa 6 43 (.slice A 64 c) HS.out ?_;go_frame;have HB1:Hid (Below w1.heap.size w1 (u0.alloc (.cells #[] 5))):=hid (HB.out.alloc HB.out.size _);have HO:Hid (Owns (u0.alloc (.cells #[] 5)) w1.heap.size (.slice (some ⟨u0.heap.size,0,none⟩) 0 0) 0 []):=hid (World.ownsRow_made u0 #[] 0 HB.out.size (Nat.zero_le _) rfl);refine Frm.wh_run 5 42 (.slice (some ⟨u0.heap.size,0,none⟩) 0 0) (u0.alloc (.cells #[] 5)) rfl rfl (by kernel_rfl) rfl ?_ ?_ ?_
   ·go_simp
   ·exact(World.cell?_of_block (w:=u0) (Below.heap_alloc u0 _ r (by have:=HR0.out.lows r (by simp);exact this))).trans HS.out
   go_frame;have HS1:Hid ((u0.alloc (.cells #[] 5)).cell? ⟨r,1,none⟩=some (.slice (some ⟨bw,0,none⟩) n cw1)):=hid ((World.cell?_of_block (w:=u0) (Below.heap_alloc u0 _ r (by have:=HR0.out.lows r (by simp);exact this))).trans HS.out);generalize u0.alloc (.cells #[] 5)=u1 at *;generalize u0.heap.size=bp at *;refine wh_app 7 44 rfl rfl (by kernel_rfl) rfl (.tmp 42) (.tmp 43) rfl w1.heap.size (.slice (some ⟨bp,0,none⟩) 0 0) 0 [] rfl HO.out w1.heap.size A 64 c s rfl (HX.out.below HB1.out) (by decide) HB1.out.size ?_;intro A5 c5 w5 ho5 hg5;have HB5:=hid (HB1.out.trans (HO.out.below_own HB1.out.size hg5));have HO5:=hid ho5;clear ho5 hg5;have HS5:Hid (w5.cell? ⟨r,1,none⟩=some (.slice (some ⟨bw,0,none⟩) n cw1)):=hid ((World.cell?_of_block (w:=w1) (HB5.out.block r (HRK.out.lows r (by simp)))).trans HC1.out);refine⟨HS5.out,?_⟩;go_frame;have HR5:=hid (HRK.out.below HB5.out);refine Frm.wb 8 45 (.pointer (some ⟨bw,i,none⟩)) HS5.out ?_;go_frame;obtain⟨_,k1,k2,_⟩:=RowOf.cell HR5.out.wait HI.out;refine Frm.wh_store 9 (w5.setCell ⟨bw,i,none⟩ (.slice A5 (0+64) c5)) rfl rfl (by kernel_rfl) rfl ?_ ?_ ?_
   ·go_simp
   ·exact(World.cell?_of_block (w:=w5) (Below.heap_setCell w5 _ _ r (by simpa using HR5.out.apart.2.1))).trans HS5.out
   refine wpAnyH_done (by kernel_rfl) ?_ _;clear k1 k2;have HX5:Hid (Sec w5 ([r,bs,bw]++S) (.slice A5 (0+64) c5) s):=hid (sec_new (by simpa using HO5.out) (fun q hq=>HLOW.out q hq));have HR6:=hid (HR5.out.putw i _ (some s) HX5.out (Disk.Dsk.put_ok HRK.out.ok HI.out HSL.out));have HT6:Hid (Turn [r,bs,bw] w1 (w5.setCell ⟨bw,i,none⟩ (.slice A5 (0+64) c5))):=hid ((Turn.ofBelow HB5.out).setCell (.inl (by simp)) _);generalize w5.setCell ⟨bw,i,none⟩ (.slice A5 (0+64) c5)=w6 at *;have HDI:=hid (rdid_any w6 S r bs bw (d.put i s) HR6.out HGO.out);unfold ptr at HDI;go_wp2_with fail;refine HDI.out.mono ?_;rintro e w7 ⟨rfl,hr7,ht7⟩;go_wp2_with fail;go_ret;exact⟨rfl,by rw[wr_put HGO2.out];exact hr7,HTW.out.trans (HT6.out.trans ht7)⟩
end Go.Proofs.YtdjhlhellkajfaaGreat.Jou
namespace Go.Proofs.YtdjhlhellkajfaaGreat.Jou
open Go.RowKit Codec FrameM Cod JourM
open Disk (Turn Dk Dsk ptr Now upd)
def midS (d:Dsk) (k:Nat):Dsk:={d with safe:=fun j=>if j<k then d.read j else d.safe j,waits:=fun j=>if j<k then none else d.waits j}
theorem midS_ok{d:Dsk}(h:d.ok)(k:Nat):(midS d k).ok:=by
 refine⟨h.1,h.2.1,fun i hi=> ?_,fun i s hs=> ?_,h.2.2.2.2⟩
 ·show(if i<k then d.read i else d.safe i).length=64;split
  ·exact Disk.Dsk.read_length h hi
  exact h.2.2.1 i hi
 have hs':(if i<k then none else d.waits i)=some s:=hs;split at hs'
 ·cases hs'
 exact h.2.2.2.1 i s hs'
theorem okA{d:Dsk}(h:d.ok){k:Nat}{s:List UInt8}(hs:s.length=64):Dsk.ok {d with safe:=upd d.safe k s}:=by
 refine⟨h.1,h.2.1,fun i hi=> ?_,h.2.2.2.1,h.2.2.2.2⟩;show(upd d.safe k s i).length=64;unfold upd;split
 ·exact hs
 exact h.2.2.1 i hi
theorem okB{d:Dsk}(h:d.ok){k:Nat}:Dsk.ok {d with waits:=upd d.waits k none}:=by
 refine⟨h.1,h.2.1,h.2.2.1,fun i s hs=> ?_,h.2.2.2.2⟩;have hs':upd d.waits k none i=some s:=hs;unfold upd at hs';split at hs'
 ·cases hs'
 exact h.2.2.2.1 i s hs'
theorem rsync_any(w:World)(S:List Nat)(r bs bw:Nat)(d:Dsk)(h:Rk w S r bs bw d):Calls Tryz.prog 61 #[ptr r] w (RNow (.int .i64 (err (JourM.go d))) w S r bs bw (sy d)):=by
 have HDE:=hid (rdeed_any w S r bs bw d h);have hn:=h.ok.2.1;have HOK:=hid h.ok;unfold ptr at *;cases hg:JourM.go d with
 |false=>
  rw[sy_fe hg];rw[hg] at HDE;clear h;go_enter Tryz.func61,Tryz.ntmps61;go_wp2_with fail;refine HDE.out.mono ?_;rintro e w1 ⟨rfl,hr1,ht1⟩;go_wp2_with fail;go_ret;exact⟨rfl,hr1,ht1⟩
 |true=>
  have HGO:=hid hg;rw[hg,fe_go hg] at HDE;clear h hg;obtain⟨n,hnn⟩:∃n,d.n=n:=⟨_,rfl⟩
  rw[hnn] at hn;go_enter Tryz.func61,Tryz.ntmps61;go_wp2_with fail;refine HDE.out.mono ?_;rintro e w1 ⟨rfl,hr1,ht1⟩;have HR1:=hid hr1;have HT1:=hid ht1;clear hr1 ht1 HDE;go_wp2_with fail;go_loopw [3] (fun i wr=>∃k:Nat,k≤n∧i= .int .i64 k∧Rk wr S r bs bw (midS d k)∧Turn [r,bs,bw] w wr) (fun i _=>n-(Go.RowKit.intOf i).toNat)
  case atStart=>exact⟨0,by omega,rfl,HR1.out.congr (midS_ok HOK.out 0) rfl (fun _ _=>rfl) (fun _ _=>rfl) rfl (fun _ h=>h),HT1.out⟩
  case round=>
   obtain⟨k,hk,rfl,hr,ht⟩:=hrel;have HRR:=hid hr;have HTT:=hid ht;clear HR1 HT1;obtain⟨cs,cw,left,z,h1,hcs,hcw,_⟩:=hr.hd;obtain⟨_,c0,c1,_,_,_,_⟩:=hd5 h1;have c1':wr.cell? ⟨r,1,none⟩=some (.slice (some ⟨bw,0,none⟩) n cw):=by rw[←hnn];exact c1
   have c0':wr.cell? ⟨r,0,none⟩=some (.slice (some ⟨bs,0,none⟩) n cs):=by rw[←hnn];exact c0
   clear c0 c1;by_cases hlt:k<n
   ·have HK:Hid (k<(midS d k).n):=hid (by show k<d.n;omega);have x1:=ridx bs n cs k hlt;have x2:=ridx bw n cw k hlt;have hk3:¬n≤k:=by omega
    obtain⟨u1,e1,f1,q1⟩:=RowOf.cell hr.safe HK.out;obtain⟨u2,e2,f2,q2⟩:=RowOf.cell hr.wait HK.out;have hwk:(midS d k).waits k=d.waits k:=by simp[midS]
    have hsk:(midS d k).safe k=d.safe k:=by simp[midS]
    rw[hwk] at q2;clear hr ht h1 hcs hcw hwk hsk q1;cases hw:d.waits k with
    |none=>
     have HRD:Hid (d.read k=d.safe k):=hid (by simp[Disk.Dsk.read,hw]);have HW:=hid hw;rw[hw] at q2;have q2':u2= .slice none 0 0:=q2;subst q2';clear q2 hw;go_wp2_with fail;go_roundw
     case rel=>
      refine⟨k+1,by omega,by go_num,HRR.out.congr (midS_ok HOK.out _) rfl (fun i _=> ?_) (fun i _=> ?_) rfl (fun _ h=>h),HTT.out⟩
      ·by_cases hik:i=k
       ·subst hik;simp[midS,HRD.out]
       by_cases h2:i<k
       ·simp[midS,h2,show i<k+1 by omega]
       simp[midS,h2,show ¬i<k+1 by omega]
      by_cases hik:i=k
      ·subst hik;simp[midS,HW.out]
      by_cases h2:i<k
      ·simp[midS,h2,show i<k+1 by omega]
      simp[midS,h2,show ¬i<k+1 by omega]
     case measure=>simp[Go.RowKit.intOf];omega
    |some s=>
     have HRD:Hid (d.read k=s):=hid (by simp[Disk.Dsk.read,hw]);have HSL:Hid (s.length=64):=hid (HOK.out.2.2.2.1 k s hw).2;rw[hw] at q2;have HQ:=hid q2;obtain⟨b,o,c,rfl,_,_,_⟩:=q2;clear hw;go_upto_region 7 with fail;have HDR:=hid (Below.refl wr.heap.size wr).drew;have HRd:=hid (HRR.out.below HDR.out);have HQd:=hid (Sec.turn (s:=s) HQ.out (Turn.ofBelow (S:=[]) HDR.out) (by simp));have k0:=(drew_cell wr ⟨r,0,none⟩).trans c0';have k1:=(drew_cell wr ⟨r,1,none⟩).trans c1';have k2:=(drew_cell wr ⟨bw,k,none⟩).trans e2;have k3:=(drew_cell wr ⟨bs,k,none⟩).trans e1;have k4:wr.drew.frozen? ⟨bs,k,none⟩=false:=f1;have HTd:Hid (Turn [r,bs,bw] wr wr.drew):=hid (Turn.refl _ wr).drew;go_still_tail 13,(by kernel_rfl)
     change wpList _ _ _ _ _ wr.drew;clear c0' c1' e1 e2 f1 f2 HQ HDR;generalize wr.drew=wd at *;have HRa:=hid (HRd.out.puts k (.slice (some ⟨b,o,none⟩) 64 c) s HQd.out (okA HRR.out.ok HSL.out));have HTa:Hid (Turn [r,bs,bw] wr (wd.setCell ⟨bs,k,none⟩ (.slice (some ⟨b,o,none⟩) 64 c))):=hid (HTd.out.setCell (.inl (by simp)) _);obtain⟨csa,cwa,lefta,za,h1a,_,_,_⟩:=HRa.out.hd;obtain⟨_,_,c1a,_,_,_,_⟩:=hd5 h1a;have c1b:(wd.setCell ⟨bs,k,none⟩ (.slice (some ⟨b,o,none⟩) 64 c)).cell? ⟨r,1,none⟩=some (.slice (some ⟨bw,0,none⟩) n cwa):=by rw[←hnn];exact c1a
     clear c1a h1a;have x3:=ridx bw n cwa k hlt;obtain⟨u3,e3,f3,_⟩:=RowOf.cell HRa.out.wait HK.out;have HRb:=hid (HRa.out.putw k (.slice none 0 0) none rfl (okB HRa.out.ok));go_wp2_with fail;go_roundw
     case rel=>
      refine⟨k+1,by omega,by go_num,HRb.out.congr (midS_ok HOK.out _) rfl (fun i _=> ?_) (fun i _=> ?_) rfl (fun _ h=>h),(HTT.out.trans HTa.out).setCell (.inl (by simp)) _⟩
      ·by_cases hik:i=k
       ·subst hik;simp[midS,upd,HRD.out]
       by_cases h2:i<k
       ·simp[midS,upd,h2,hik,show i<k+1 by omega]
       simp[midS,upd,h2,hik,show ¬i<k+1 by omega]
      by_cases hik:i=k
      ·subst hik;simp[midS,upd]
      by_cases h2:i<k
      ·simp[midS,upd,h2,hik,show i<k+1 by omega]
      simp[midS,upd,h2,hik,show ¬i<k+1 by omega]
     case measure=>simp[Go.RowKit.intOf];omega
   obtain rfl:k=n:=by omega
   have HRE:=hid (HRR.out.congr (d':=d.synced) (Disk.Dsk.synced_ok HOK.out) rfl (fun i hi=>by
    have h9:i<k:=by have:i<d.n:=hi;omega
    simp[midS,Disk.Dsk.synced,h9]) (fun i hi=>by
    have h9:i<k:=by have:i<d.n:=hi;omega
    simp[midS,Disk.Dsk.synced,h9]) rfl (fun _ h=>h))
   have HDI:=hid (rdid_any wr S r bs bw d.synced HRE.out HGO.out);unfold ptr at HDI;clear hr ht h1;go_wp2_with fail;refine HDI.out.mono ?_;rintro e w7 ⟨rfl,hr7,ht7⟩;go_wp2_with fail;go_ret;exact⟨rfl,by rw[sy_deed HGO.out];exact hr7,HTT.out.trans ht7⟩
end Go.Proofs.YtdjhlhellkajfaaGreat.Jou
namespace Go.Proofs.YtdjhlhellkajfaaGreat.Jou
open Go.RowKit Codec FrameM Cod JourM
open Disk (Turn Dk Dsk ptr Now upd fresh)
section
variable {P:Program} {ops:Array Oper} {Q:Exit→Act→World→Prop} {md:Region.Mode} {S:World→Prop} {n:Nat}
theorem AtS.run{a:Act}{w w':World}{i fuel:Nat}{v:Value}{oi:Oper}{listed:Array Bool}(hi:ops[i]? =some oi)(hr:Region.ready md ops listed=[i])(hin:i<n)(hw:Region.wanted oi (yielded ops a.tmps)=true)
  (hrun:(execOp a.eval oi).run P w= .ok (.value v) w') (hS:S w') (h:Disk.AtS P md ops Q S n fuel (listed.setIfInBounds i true) (a.put oi.dst v) w'):
  Disk.AtS P md ops Q S n (fuel+1) listed a w:=fun hs hcb inv=>by
 refine⟨fun h0=>(by rw[h0] at hr;cases hr),fun j hj=> ?_⟩;rw[hr] at hj;obtain rfl:j=i:=by simpa using hj
 unfold wpOp;simp only[hi,hw,if_true];refine .inl ?_;unfold Oper.wp;rw[hrun];simp only[Oper.upon];exact⟨fun _=>hS,h hs hcb (inv.set (by rw[hr];simp) hin)⟩
end
theorem at_app_pk{ops:Array Oper}{Q:Exit→Act→World→Prop}{md:Region.Mode}{S:World→Prop}{nn fuel i:Nat}{listed:Array Bool}{a:Act}{w:World}{oi:Oper}(hi:ops[i]? =some oi)(hr:Region.ready md ops listed=[i])(hin:i<nn)(hw:Region.wanted oi (yielded ops a.tmps)=true)(s x:Operand)
  (ho:oi.op= .call {callee:= .builtin .append,args:= #[s,x],argTypes:= #[40,40]})
  (lo:Nat) (v:Value) (n:Nat) (ls:List (List UInt8)) (hs:a.eval s=v) (h:Frm.Pk w lo v n ls) (A:Option Addr) (m c:Nat) (ls2:List (List UInt8)) (hx:a.eval x= .slice A m c) (h2:Secs w lo A m ls2) (hn:n+m≤1000000) (hlo:lo≤w.heap.size)
  (hK:∀A' c' w',Frm.Pk w' lo (.slice A' (n+m) c') (n+m) (ls++ls2)→Below lo w w'→w.grownBy w' v.ownBlock→S w'∧Disk.AtS Tryz.prog md ops Q S nn fuel (listed.setIfInBounds i true) (a.put oi.dst (.slice A' (n+m) c')) w'):Disk.AtS Tryz.prog md ops Q S nn (fuel+1) listed a w:=by
 obtain⟨A',c',w',hrun,k2,k3,k4⟩:=run_app_pk w oi.type lo v n ls h A m c ls2 h2 hn hlo;obtain⟨j1,j2⟩:=hK A' c' w' k2 k3 k4;refine AtS.run hi hr hin hw ?_ j1 j2;unfold execOp;simp only[ho,resolve,invoke,builtin,Sem.run_bind,Sem.run_pure,Result.andThen_ok,List.map_toArray,List.map_cons,List.map_nil,hs,hx,hrun]
theorem rnew_no(w:World)(n:Int)(h:n<1∨65536<n):Calls Tryz.prog 11 #[.int .i64 n] w (Disk.Ends (.tuple #[.pointer none,.int .i64 1]) w):=by
 rcases h with h|h
 ·go_enter Tryz.func11,Tryz.ntmps11;go_wp2;exact bodyPost_ret (v:= .tuple #[.pointer none,.int .i64 1]) (by simp[results,Tryz.results11,go_sem]) rfl ⟨rfl,rfl⟩
 have h1:¬n<1:=by omega
 go_enter Tryz.func11,Tryz.ntmps11;go_wp2;exact bodyPost_ret (v:= .tuple #[.pointer none,.int .i64 1]) (by simp[results,Tryz.results11,go_sem]) rfl ⟨rfl,rfl⟩
def NSt (w wr:World) (lo r bw n k:Nat):Prop:=
 ∃v,wr.heap[r]? =some (.cells #[v,.slice (some ⟨bw,0,none⟩) n n,.int .i64 (-1),.int .i64 0,.bool false] 103 (0,0))∧Frm.Pk wr lo v k (List.replicate k nul64)∧wr.heap[bw]? =some (.cells (Frm.room n) 39 (0,0))∧lo≤wr.heap.size∧Below w.heap.size w wr
theorem pk_set{w:World}{lo n r:Nat}{v:Value}{ls:List (List UInt8)}{cs:Array Value}{T:TypeId}(h:Frm.Pk w lo v n ls)(hr:w.heap[r]? =some (.cells cs T (0,0)))(hT:T≠5)(hl:r<lo)(u:Value):Frm.Pk (w.setCell ⟨r,0,none⟩ u) lo v n ls:=by
 obtain⟨vs,ho,h1,h2,h3⟩:=h;refine⟨vs,own_same ho fun g hg=>Below.heap_setCell w _ u g ?_,h1,h2,fun j hj=>(h3 j hj).keep fun g cs' hc=>(Below.heap_setCell w _ u g ?_).trans hc⟩
 ·have:=(own_type ho hg).1;show g≠r;omega
 intro e;have e':g=r:=e;subst e';rw[hr] at hc;injection hc with hc;injection hc with _ e;exact hT e
def RMade (w:World) (n:Nat) (e:Ending) (w':World):Prop:=∃r bs bw,e= .returned (.tuple #[ptr r,.int .i64 0])∧(∀S:List Nat,(∀k∈S,k<w.heap.size)→Rk w' S r bs bw (fresh n))∧Below w.heap.size w w'∧∀k∈[r,bs,bw],w.heap.size≤k
theorem room_get(n i:Nat)(h:i<n):(Frm.room n)[i]? =some (.slice none 0 0):=by
 simp[Frm.room,madeCells,Value.cells,h,Nat.mod_one]
theorem rnew_made{w w':World}{lo r bw n:Nat}(h:NSt w w' lo r bw n n)(h1:1≤n)(h2:n≤65536)(hr:w.heap.size≤r)(hb:w.heap.size≤bw)(hrl:r<lo)(hbl:bw<lo):RMade w n (.returned (.tuple #[ptr r,.int .i64 0])) w':=by
 obtain⟨v,hd,⟨vs,ho,hv1,hv2,hv3⟩,hw,hlo,hbel⟩:=h;rcases ho.2 with⟨_,h0⟩|⟨g,cap,cur,rfl,hg,hh,hnc,_⟩
 ·omega
 have hgs:w.heap.size≤g:=by omega
 refine⟨r,g,bw,rfl,fun S hS=>⟨Disk.fresh_ok h1 h2,⟨cap,n, -1,0,hd,hnc,Nat.le_refl _,fun _=>rfl⟩,⟨cur,hh,fun i hi=> ?_⟩,⟨_,hw,fun i hi=>⟨_,room_get n i hi,rfl⟩⟩,by omega,fun k hk hm=> ?_⟩,hbel,fun k hk=> ?_⟩
 ·have hi':i<n:=hi;have hc:=ho.cells (g:=g) rfl i (vs.getD i undef) (by simp[List.getD_eq_getElem?_getD,hv1,hi']);rw[plain_add,cell_at hh] at hc;obtain⟨q,e,hq,hlq,_⟩:=hv3 i hi';rw[e] at hc;have hget:(List.replicate n nul64).getD i []=nul64:=by simp[List.getD_eq_getElem?_getD,hi']
  rw[hget] at hq;refine⟨_,by simpa using hc,?_⟩;refine Sec.of (some ⟨q,0,none⟩) 64 ⟨nul64_length,fun _=>⟨q,0,rfl,lt_of_heap hq,fun hm=> ?_,fun j hj=> ?_⟩⟩ (Nat.le_refl _) (by decide)
  ·rcases List.mem_append.1 hm with hm|hm
   ·simp at hm;rcases hm with rfl|rfl|rfl
    ·omega
    ·rw[hh] at hq;injection hq with hq;injection hq with _ e;exact absurd e (by decide)
    omega
   have:=hS q hm;omega
  rw[Nat.zero_add,cell_at hq];rw[List.getElem?_toArray];exact cel_get nul64 j hj
 ·have h3:=hS k hm;simp at hk;omega
 simp at hk;omega
theorem rnew_any(w:World)(n:Nat)(h1:1≤n)(h2:n≤65536):Calls Tryz.prog 11 #[.int .i64 n] w (RMade w n):=by
 have hmk:∀v:World,(Instr.makeSlice 39 (.int .i64 64) (.int .i64 64)).run Tryz.prog v= .ok (.slice (some ⟨v.heap.size,0,none⟩) 64 64) (v.alloc (.cells (cel (zeros 64)).toArray 5)):=fun v=>Frm.run_make_bytes v 64 (by omega);have hmr:=fun v=>run_make34K v n (by omega);go_enter Tryz.func11,Tryz.ntmps11;go_wp2_with fail;have HST:Hid (NSt w ((w.alloc (.cells (Frm.room n) 39)).alloc (.cells #[.slice none 0 0,.slice (some ⟨w.heap.size,0,none⟩) n n,.int .i64 (-1),.int .i64 0,.bool false] 103)) (w.heap.size+2) (w.heap.size+1) w.heap.size n 0):=hid
  ⟨.slice none 0 0,by have:=heap_alloc_new (w.alloc (.cells (Frm.room n) 39)) (.cells #[.slice none 0 0,.slice (some ⟨w.heap.size,0,none⟩) n n,.int .i64 (-1),.int .i64 0,.bool false] 103);rwa [World.size_alloc] at this,
   Frm.Pk.nil,(Below.heap_alloc _ _ _ (by rw[World.size_alloc];omega)).trans (heap_alloc_new w _),by rw[World.size_alloc,World.size_alloc];omega,((Below.refl w.heap.size w).alloc (Nat.le_refl _) _).alloc (by rw[World.size_alloc];omega) _⟩
 have HRR:Hid (w.heap.size≤w.heap.size+1∧w.heap.size+1<w.heap.size+2∧w.heap.size<w.heap.size+2∧w.heap.size≠w.heap.size+1∧w.heap.size≤w.heap.size+2):=hid (by omega);generalize w.heap.size+1=r at *;generalize w.heap.size+2=lo at *;go_loopw [5] (fun i wr=>∃k:Nat,k≤n∧i= .int .i64 k∧NSt w wr lo r w.heap.size n k) (fun i _=>n-(Go.RowKit.intOf i).toNat)
 case atStart=>exact⟨0,by omega,rfl,HST.out⟩
 case round=>
  obtain⟨k,hk,rfl,hst⟩:=hrel;clear HST;by_cases hlt:k<n
  ·have hlo:lo≤wr.heap.size:=by obtain⟨_,_,_,_,h,_⟩:=hst;exact h
   obtain⟨v,hd,hpk,hw,_,hbel⟩:=hst;have HDD:=hid hd;have HPK:=hid hpk;have HBW:=hid hw;have HBE:=hid hbel;have c0:wr.cell? ⟨r,0,none⟩=some v:=cell_at hd 0;have f0:wr.frozen? ⟨r,0,none⟩=false:=free_at hd 0;clear hd hpk hw hbel;go_upto_region 7 with fail;have HLO:=hid hlo;clear hlo;have HB:=hid (Below.refl wr.heap.size wr).drew;have HS:Hid (wr.drew.cell? ⟨r,0,none⟩=some v):=hid ((drew_cell wr _).trans c0);clear c0 f0;refine Disk.AtS.start (by kernel_rfl) 10 (fun u=>u.cell? ⟨r,0,none⟩=some v) (by kernel_rfl) (by kernel_rfl) ?_;generalize wr.drew=u0 at *;refine Disk.AtS.take (i:=0) (v:= .pointer (some ⟨r,0,none⟩)) rfl (by kernel_rfl) (by kernel_rfl) (by kernel_rfl) (by decide) (by decide) (fun _ _ _ h=>h) rfl (fun w' hw'=> ?_) HS.out ?_
   ·exact rfl
   go_frame;refine Disk.AtS.take (i:=1) (v:= .pointer (some ⟨r,0,none⟩)) rfl (by kernel_rfl) (by kernel_rfl) (by kernel_rfl) (by decide) (by decide) (fun _ _ _ h=>h) rfl (fun w' hw'=> ?_) HS.out ?_
   ·exact rfl
   go_frame;refine Disk.AtS.take (i:=2) (v:= .pointer (some ⟨r,0,none⟩)) rfl (by kernel_rfl) (by kernel_rfl) (by kernel_rfl) (by decide) (by decide) (fun _ _ _ h=>h) rfl (fun w' hw'=> ?_) HS.out ?_
   ·go_simp
   go_frame;refine Disk.AtS.take (i:=3) (v:= .pointer (some ⟨r,0,none⟩)) rfl (by kernel_rfl) (by kernel_rfl) (by kernel_rfl) (by decide) (by decide) (fun _ _ _ h=>h) rfl (fun w' hw'=> ?_) HS.out ?_
   ·go_simp
   go_frame;refine Disk.AtS.take (i:=4) (v:=v) rfl (by kernel_rfl) (by kernel_rfl) (by kernel_rfl) (by decide) (by decide) (fun _ _ _ h=>h) rfl (fun w' hw'=> ?_) HS.out ?_
   ·go_simp
   go_frame;have HP0:=hid (HPK.out.below HB.out);have HZ:Hid (lo≤u0.heap.size):=hid (Nat.le_trans HLO.out HB.out.size);refine AtS.run (i:=5) (v:= .slice (some ⟨u0.heap.size,0,none⟩) 64 64) (w':=u0.alloc (.cells (cel (zeros 64)).toArray 5)) rfl (by kernel_rfl) (by decide) rfl ?_ ?_ ?_
   ·have:=hmk u0;go_simp
   ·exact(World.cell?_of_block (w:=u0) (Below.heap_alloc u0 _ r (by have:=HRR.out.2.1;have:=HZ.out;show r<_;omega))).trans HS.out
   go_frame;have HS1:Hid ((u0.alloc (.cells (cel (zeros 64)).toArray 5)).cell? ⟨r,0,none⟩=some v):=hid ((World.cell?_of_block (w:=u0) (Below.heap_alloc u0 _ r (by have:=HRR.out.2.1;have:=HZ.out;show r<_;omega))).trans HS.out);have HX1:Hid (Frm.Sct (u0.alloc (.cells (cel (zeros 64)).toArray 5)) lo (.slice (some ⟨u0.heap.size,0,none⟩) 64 64) nul64):=hid ⟨u0.heap.size,rfl,heap_alloc_new u0 _,HZ.out,rfl⟩;have HP1:=hid (HP0.out.alloc (.cells (cel (zeros 64)).toArray 5));have HB1:=hid (HB.out.alloc HB.out.size (.cells (cel (zeros 64)).toArray 5));have HZ1:Hid (lo≤(u0.alloc (.cells (cel (zeros 64)).toArray 5)).heap.size):=hid (by rw[World.size_alloc];have:=HZ.out;omega);generalize u0.alloc (.cells (cel (zeros 64)).toArray 5)=u1 at *;generalize u0.heap.size=bp at *;refine AtS.run (i:=6) (v:= .slice (some ⟨u1.heap.size,0,none⟩) 1 1) (w':=u1.alloc (.cells #[.slice (some ⟨bp,0,none⟩) 64 64] 39)) rfl (by kernel_rfl) (by decide) rfl ?_ ?_ ?_
   ·go_simp
   ·exact(World.cell?_of_block (w:=u1) (Below.heap_alloc u1 _ r (by have:=HRR.out.2.1;have:=HZ1.out;show r<_;omega))).trans HS1.out
   go_frame;have HS2:Hid ((u1.alloc (.cells #[.slice (some ⟨bp,0,none⟩) 64 64] 39)).cell? ⟨r,0,none⟩=some v):=hid ((World.cell?_of_block (w:=u1) (Below.heap_alloc u1 _ r (by have:=HRR.out.2.1;have:=HZ1.out;show r<_;omega))).trans HS1.out);have HX2:=hid (Secs.of_pk (pk_one u1 lo bp nul64 HX1.out HZ1.out));have HP2:=hid (HP1.out.alloc (.cells #[.slice (some ⟨bp,0,none⟩) 64 64] 39));have HB2:=hid (HB1.out.alloc HB1.out.size (.cells #[.slice (some ⟨bp,0,none⟩) 64 64] 39));have HZ2:Hid (lo≤(u1.alloc (.cells #[.slice (some ⟨bp,0,none⟩) 64 64] 39)).heap.size):=hid (by rw[World.size_alloc];have:=HZ1.out;omega);generalize u1.alloc (.cells #[.slice (some ⟨bp,0,none⟩) 64 64] 39)=u2 at *;generalize u1.heap.size=bx at *;refine at_app_pk (i:=7) rfl (by kernel_rfl) (by decide) rfl (.tmp 25) (.tmp 27) rfl lo v k (List.replicate k nul64) rfl HP2.out (some ⟨bx,0,none⟩) 1 1 [nul64] rfl HX2.out (by omega) HZ2.out ?_;intro A5 c5 w5 hp5 hb5 _;have HP5:=hid hp5;have HB5:=hid ((HB2.out.mono HLO.out).trans hb5);have HD5:=hid ((HB5.out.block r HRR.out.2.1).trans HDD.out);have HW5:=hid ((HB5.out.block w.heap.size HRR.out.2.2.1).trans HBW.out);have HS5:Hid (w5.cell? ⟨r,0,none⟩=some v):=hid (cell_at HD5.out 0);have f5:w5.frozen? ⟨r,0,none⟩=false:=free_at HD5.out 0;clear hp5 hb5 HP2 HX2 HB2 HZ2 HS2;refine⟨HS5.out,?_⟩;go_frame;refine Disk.AtS.take (i:=8) (v:= .pointer (some ⟨r,0,none⟩)) rfl (by kernel_rfl) (by kernel_rfl) (by kernel_rfl) (by decide) (by decide) (fun _ _ _ h=>h) rfl (fun w' hw'=> ?_) HS5.out ?_
   ·go_simp
   go_frame;refine Disk.AtS.take (i:=9) (v:= .pointer (some ⟨r,0,none⟩)) rfl (by kernel_rfl) (by kernel_rfl) (by kernel_rfl) (by decide) (by decide) (fun _ _ _ h=>h) rfl (fun w' hw'=> ?_) HS5.out ?_
   ·go_simp
   go_frame;have c5':w5.cell? ⟨r,0,none⟩=some v:=HS5.out;refine Disk.AtS.last (i:=10) (w':=w5.setCell ⟨r,0,none⟩ (.slice A5 (k+1) c5)) rfl (by kernel_rfl) (by kernel_rfl) (by decide) rfl ?_ ?_
   ·go_simp
   go_frame;have HS6:Hid (NSt w (w5.setCell ⟨r,0,none⟩ (.slice A5 (k+1) c5)) lo r w.heap.size n (k+1)):=hid ⟨.slice A5 (k+1) c5,set_at HD5.out 0 _,by rw[List.replicate_succ'];exact pk_set HP5.out HD5.out (by decide) HRR.out.2.1 _,(Below.heap_setCell w5 _ _ _ (by simpa using HRR.out.2.2.2.1)).trans HW5.out,by have:=HB5.out.size;have:=HLO.out;simp[World.setCell];omega,(HBE.out.trans (HB5.out.mono HRR.out.2.2.2.2)).setCell HRR.out.1 _⟩;clear f5 c5' HS5 HD5 HW5 HP5 HB5;generalize w5.setCell ⟨r,0,none⟩ (.slice A5 (k+1) c5)=w6 at *;go_wp2_with fail;go_roundw
   case rel=>exact⟨k+1,by omega,by go_num,HS6.out⟩
   case measure=>simp[Go.RowKit.intOf];omega
  obtain rfl:k=n:=by omega
  have HE:=hid (rnew_made hst h1 h2 HRR.out.1 (Nat.le_refl _) HRR.out.2.1 HRR.out.2.2.1);clear hst;unfold ptr at HE;go_wp2_with fail;exact bodyPost_ret (v:= .tuple #[.pointer (some ⟨r,0,none⟩),.int .i64 0]) (by simp[results,Tryz.results11,go_sem]) rfl HE.out
end Go.Proofs.YtdjhlhellkajfaaGreat.Jou
