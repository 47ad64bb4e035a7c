/-
  Texts CText, CMany, in one file. What each proves, and its conditions, stand at its head below.
-/
import Derived.Test.YtdjhlhellkajfaaGreatY3
import Derived.Laws.BytesArg
set_option maxRecDepth 100000
set_option maxHeartbeats 1000000
open Go.Lib (hid)
namespace Go.Proofs.YtdjhlhellkajfaaGreat.Cod
open Go.RowKit Codec
def bytesOf (s:ByteArray):List UInt8:=s.data.toList
theorem bytesOf_length(s:ByteArray):(bytesOf s).length=s.size:=Array.length_toList
theorem byts_string(w:World)(s:ByteArray)(cap:Nat):
  Byts (w.drew.alloc (.cells (bytesRow s cap) 5 ((bytesRow s cap).size,(bytesRow s cap).size+1))) (w.heap.size+1) (some ⟨w.heap.size,0,none⟩) s.size (bytesOf s):=
 ⟨bytesOf_length s,fun _=>⟨w.heap.size,0,rfl,by omega,fun j hj=>by
  rw[show w.heap.size=w.drew.heap.size from rfl,World.cell?_alloc_mark];simp[bytesRow,bytesOf,byt,Array.getElem?_append,hj]⟩⟩
def Cloned (w:World) (n:Nat) (xs:List UInt8) (e:Ending) (w':World):Prop:=∃A c,e= .returned (.slice A n c)∧Owns w' w.heap.size (.slice A n c) n xs∧Below w.heap.size w w'
theorem clone_any(w:World)(B m c:Nat)(A:Option Addr)(ys:List UInt8)(hr:Byts w B A m ys)(hB:B≤w.heap.size)(hn:m≤1000000000):
  Calls Tryz.prog 67 #[.slice A m c] w (Cloned w m ys):=by
 have HR:=hid hr;rcases A with _|ad
 ·have hm:m=0:=by
   rcases Nat.eq_zero_or_pos m with h0|h0
   ·exact h0
   obtain⟨b,off,h,_⟩:=hr.at_ h0;cases h
  subst hm;have hy:ys=[]:=List.eq_nil_of_length_eq_zero hr.len;subst hy;clear hr;have hq:=fun w (l c:Nat)=>Lib.run_eql_slice_nil (P:=Tryz.prog) w 39 5 none l c 0 0 Tryz.underlying39;go_enter Tryz.func67,Tryz.ntmps67;go_wp2;go_ret;exact⟨none,0,rfl,Owns.nil,Below.refl _ _⟩
 clear hr;have hq:=fun w (l c:Nat)=>Lib.run_eql_slice_nil (P:=Tryz.prog) w 39 5 (some ad) l c 0 0 Tryz.underlying39;go_enter Tryz.func67,Tryz.ntmps67;go_wp2_with (at_builtin;(refine wpList_app _ rfl (.tmp 5) (.tmp 6) rfl w.heap.size (.slice (some ⟨w.heap.size,0,none⟩) 0 0) 0 [] rfl (World.ownsRow_made w #[] 0 (Nat.le_refl _) (Nat.zero_le _) rfl) B (some ad) m c ys rfl (HR.out.alloc hB _) (by omega) (by simp) ?_);intro A1 c1 w1 hown1 hg1;have HO:=hid hown1;have HG:=hid hg1;clear hown1 hg1);go_ret;have h1:=HO.out;have hg:=HG.out;rw[Nat.zero_add,List.nil_append] at h1;exact⟨A1,c1,rfl,h1,((Below.refl _ _).alloc (Nat.le_refl _) _).grown hg (by simp) (fun k hk=>by simp[Value.ownBlock] at hk;omega)⟩
theorem bytes_some(w:World)(base g:Nat)(xs:List UInt8)(hw:Wr w base g xs)(hn:xs.length≤1000000000):
  Calls Tryz.prog 82 #[.pointer (some ⟨g,0,none⟩)] w (Cloned w xs.length xs):=by
 obtain⟨A,n,c,hg,hown,hb⟩:=hw;have hc:=cell_at hg 0;have hl:=hown.len;subst hl;have HN:=hid (fun w' (hb:Below w.heap.size w w')=>clone_any w' w.heap.size xs.length c A xs (hown.byts.below hb) hb.size hn);have HC:=hid (HN.out w (Below.refl _ _));clear hg hown HN;go_enter Tryz.func82,Tryz.ntmps82;go_wp2_with fail;refine HC.out.mono ?_;rintro e w1 ⟨A1,c1,rfl,ho,hbel⟩;have HO:=hid ho;have HB:=hid hbel;clear ho hbel;go_wp2_with fail;go_ret;exact⟨A1,c1,rfl,HO.out,HB.out⟩
theorem run_string_of(w:World)(B n c:Nat)(A:Option Addr)(ys:List UInt8)(hr:Byts w B A n ys):(convert 39 9 (.slice A n c)).run Tryz.prog w= .ok (.string ⟨ys.toArray⟩) w:=by
 rcases Nat.eq_zero_or_pos n with h0|h0
 ·subst h0;have hy:ys=[]:=List.eq_nil_of_length_eq_zero hr.len;subst hy;rcases A with _|ad
  ·exact run_convert_bytes_nil w 39 5 Tryz.underlying39 Tryz.underlying5 0 c 9 Tryz.underlying9
  exact run_convert_bytes_back w 39 9 5 ad c [] Tryz.underlying39 Tryz.underlying5 Tryz.underlying9 (fun j hj=>by simp at hj)
 obtain⟨b,off,rfl,_,hc⟩:=hr.at_ h0;have hl:=hr.len;subst hl;exact run_convert_bytes_back w 39 9 5 ⟨b,off,none⟩ c ys Tryz.underlying39 Tryz.underlying5 Tryz.underlying9 (fun j hj=>by
  rw[plain_add,hc j hj];simp[byt,List.getD_eq_getElem?_getD,hj])
end Go.Proofs.YtdjhlhellkajfaaGreat.Cod
namespace Go.Proofs.YtdjhlhellkajfaaGreat.Cod
open Go.RowKit Codec
def Aside (g:Nat) (w w':World):Prop:=∀(k:Nat) (cs:Array Value) (T:TypeId),T≠5→k≠g→w.heap[k]? =some (.cells cs T (0,0))→w'.heap[k]? =some (.cells cs T (0,0))
theorem Aside.refl(g:Nat)(w:World):Aside g w w:=fun _ _ _ _ _ h=>h
theorem Aside.trans{g:Nat}{a b c:World}(h:Aside g a b)(k:Aside g b c):Aside g a c:=fun i cs T hT hi e=>k i cs T hT hi (h i cs T hT hi e)
theorem Aside.alloc{g:Nat}{a b:World}(h:Aside g a b)(o:Obj):Aside g a (b.alloc o):=fun i cs T hT hi e=>by
 have h1:=h i cs T hT hi e;exact(Below.heap_alloc b o i (lt_of_heap h1)).trans h1
def LaidA (w:World) (base g:Nat) (xs:List UInt8) (e:Ending) (w':World):Prop:=e= .returned (.tuple #[])∧Wr w' base g xs∧Below base w w'∧Aside g w w'
theorem aside_stored{w w1:World}{base g n:Nat}{v u:Value}{xs:List UInt8}(hown:Owns w base v n xs)(hw:w.grownBy w1 v.ownBlock):Aside g w (w1.setCell ⟨g,0,none⟩ u):=fun k _ _ hT hk e=>
 (Below.heap_setCell w1 ⟨g,0,none⟩ u k hk).trans ((hw.block k (lt_of_heap e) (fun he=>hown.far e hT he.symm)).trans e)
theorem lay_aside(w:World)(base g B m c:Nat)(A:Option Addr)(xs ys:List UInt8)(hw:Wr w base g xs)(hr:Byts w B A m ys)(hn:xs.length+m≤1000000000)(hB:base≤w.heap.size):
  Calls Tryz.prog 142 #[.pointer (some ⟨g,0,none⟩),.slice A m c] w (LaidA w base g (xs++ys)):=by
 obtain⟨A0,n,c0,hg,hown,hb⟩:=hw;have hc:=cell_at hg 0;have HG:=hid hg;have HO:=hid hown;have HR:=hid hr;have hn2:n+m≤1000000000:=by have:=hown.len;omega
 clear hg hown hr hn;go_enter Tryz.func142,Tryz.ntmps142;go_wp2_with (at_builtin;(refine wpList_app _ rfl (.tmp 10) (.tmp 11) rfl base _ n xs rfl HO.out B A m c ys rfl HR.out hn2 hB ?_);intro A1 c1 w1 hown1 hg1;have hst:=Wr.stored HG.out HO.out hb hB hown1 hg1;have HS:=hid hst;have HA:Hid (Aside g w (w1.setCell ⟨g,0,none⟩ (.slice A1 (n+m) c1))):=aside_stored HO.out hg1;have hc1:=cell_at hst.1 0;have hf1:=free_at hst.1 0;clear hst hown1 hg1);go_end0;exact⟨rfl,HS.out.2.1,HS.out.2.2,HA.out⟩
theorem number_lay_a(w:World)(base g N k:Nat)(xs:List UInt8)(hw:Wr w base g (xs++le k N))(hn:xs.length+k≤900000008)(hB:base≤w.heap.size):
  Calls Tryz.prog 142 #[.pointer (some ⟨g,0,none⟩),.slice (some ⟨w.heap.size,0,none⟩) 1 1] (w.alloc (.cells #[.int .u8 ((N:Int)/2^(8 * k)%256)] 5))
   (LaidA (w.alloc (.cells #[.int .u8 ((N:Int)/2^(8 * k)%256)] 5)) base g (xs++le (k+1) N)):=by
 rw[byte_of,le_snoc,←List.append_assoc];exact lay_aside _ base g (w.heap.size+1) 1 1 _ _ _ (hw.alloc _) (byt_new w (UInt8.ofNat (N/256^k%256)) (0,0)) (by rw[List.length_append,le_length];omega) (by simp;omega)
theorem number_aside(w:World)(base g N wide:Nat)(xs:List UInt8)(hw:Wr w base g xs)(hn:xs.length≤900000000)(hB:base≤w.heap.size)(hwide:wide≤8):
  Calls Tryz.prog 118 #[.pointer (some ⟨g,0,none⟩),.int .u64 N,.int .i64 wide] w (LaidA w base g (xs++le wide N)):=by
 go_enter Tryz.func118,Tryz.ntmps118;go_wp2;go_loopw [8] (fun i wr=>∃k:Nat,k≤wide∧i= .int .i64 k∧Wr wr base g (xs++le k N)∧Below base w wr∧Aside g w wr) (fun i _=>wide-(intOf i).toNat)
 case atStart=>exact⟨0,Nat.zero_le _,rfl,by simpa [le] using hw,Below.refl _ _,Aside.refl _ _⟩
 case round=>
  obtain⟨k,hk,rfl,hW,hbel,has⟩:=hrel;have HW:=hid hW;have HA:=hid has;clear hW has;by_cases hlt:k<wide
  ·have HL:=hid (number_lay_a wr base g N k xs HW.out (by omega) (by have:=hbel.size;omega));go_wp2_with fail;refine HL.out.mono ?_;rintro e w1 ⟨rfl,hW1,hb1,ha1⟩;go_wp2_with fail;go_roundw
   case rel=>exact⟨k+1,by omega,by go_num,hW1,(hbel.alloc (by have:=hbel.size;omega) _).trans hb1,(HA.out.alloc _).trans ha1⟩
   case measure=>simp[intOf];omega
  obtain rfl:k=wide:=by omega
  go_wp2;go_end0;exact⟨rfl,HW.out,hbel,HA.out⟩
theorem number_int_a(w:World)(base g:Nat)(n:Int)(xs:List UInt8)(hw:Wr w base g xs)(hn:xs.length≤900000000)(hB:base≤w.heap.size):
  Calls Tryz.prog 118 #[.pointer (some ⟨g,0,none⟩),.int .u64 (n%18446744073709551616),.int .i64 8] w (LaidA w base g (xs++encNum n)):=by
 have h:=number_aside w base g (n%18446744073709551616).toNat 8 xs hw hn hB (Nat.le_refl _);rw[show(((n%18446744073709551616).toNat:Nat):Int)=n%18446744073709551616 by omega] at h;exact h
theorem number_small_a(w:World)(base g:Nat)(n x:Int)(xs:List UInt8)(hw:Wr w base g xs)(hn:xs.length≤900000000)(hB:base≤w.heap.size)(hx:(clip n:Int)=x):
  Calls Tryz.prog 118 #[.pointer (some ⟨g,0,none⟩),.int .u64 x,.int .i64 2] w (LaidA w base g (xs++encSmall n)):=by
 subst hx;exact number_aside w base g (clip n) 2 xs hw hn hB (by decide)
def encAll (f:Int→List UInt8) (l:List Int):List UInt8:=l.flatMap f
theorem encAll_step(f:Int→List UInt8)(xs:List UInt8)(l:List Int)(k:Nat)(h:k<l.length):xs++encAll f (l.take (k+1))=xs++encAll f (l.take k)++f (l.getD k 0):=by
 rw[List.take_succ_eq_append_getElem h,encAll,List.flatMap_append];simp[encAll,List.getD_eq_getElem?_getD,h]
theorem encAll_length(f:Int→List UInt8)(hf:∀n,(f n).length≤8):∀l,(encAll f l).length≤8 * l.length
 |[]=>by simp[encAll]
 |a::r=>by
  have h1:=hf a;have h2:=encAll_length f hf r;simp only[encAll,List.flatMap_cons,List.length_append,List.length_cons] at *;omega
def ints (l:List Int):Array Value:=(l.map (Value.int .i64)).toArray
theorem ints_get(l:List Int)(k:Nat)(h:k<l.length):(ints l)[k]? =some (.int .i64 (l.getD k 0)):=by simp[ints,List.getD_eq_getElem?_getD,h]
theorem num_many(w:World)(base g b:Nat)(l:List Int)(xs:List UInt8)(hw:Wr w base g xs)(hn:xs.length≤800000000)(hl:l.length≤1000000)(hB:base≤w.heap.size)(hgb:b≠g)(hc:w.heap[b]? =some (.cells (ints l) 2 (0,0)))(n:Nat)(hln:l.length=n):
  Calls Tryz.prog 80 #[.pointer (some ⟨g,0,none⟩),.slice (some ⟨b,0,none⟩) n n] w (LaidA w base g (xs++encAll encNum l)):=by
 have HC:=hid hc;have HW0:=hid hw;have HLN:=hid hln;clear hc hw hln;have hn0:n≤1000000:=by have:=HLN.out;omega
 go_enter Tryz.func80,Tryz.ntmps80;go_wp2;go_loopw [8] (fun i wr=>∃k:Nat,k≤n∧i= .int .i64 k∧Wr wr base g (xs++encAll encNum (l.take k))∧Below base w wr∧Aside g w wr) (fun i _=>n-(intOf i).toNat)
 case atStart=>exact⟨0,Nat.zero_le _,rfl,by simpa [encAll] using HW0.out,Below.refl _ _,Aside.refl _ _⟩
 case round=>
  obtain⟨k,hk,rfl,hW,hbel,has⟩:=hrel;have HW:=hid hW;have HA:=hid has;clear hW has;by_cases hlt:k<n
  ·have hcb:=HA.out b _ 2 (by decide) hgb HC.out;have hcell:wr.cell? ⟨b,k,none⟩=some (.int .i64 (l.getD k 0)):=(cell_at hcb k).trans (ints_get l k (by have:=HLN.out;omega));have HN:=hid (number_int_a wr base g (l.getD k 0) (xs++encAll encNum (l.take k)) HW.out (by have:=encAll_length encNum (fun n=>by rw[encNum_length];exact Nat.le_refl _) (l.take k);rw[List.length_append];rw[List.length_take] at this;omega) (by have:=hbel.size;omega));have HX:=hid (encAll_step encNum xs l k (by have:=HLN.out;omega));clear hcb;generalize l.getD k 0=x at *;go_wp2_with fail;refine HN.out.mono ?_;rintro e w1 ⟨rfl,hW1,hb1,ha1⟩;go_wp2_with fail;go_roundw
   case rel=>exact⟨k+1,by omega,by go_num,by rw[HX.out];exact hW1,hbel.trans hb1,HA.out.trans ha1⟩
   case measure=>simp[intOf];omega
  obtain rfl:k=n:=by omega
  go_wp2;go_end0;refine⟨rfl,?_,hbel,HA.out⟩;have h:=HW.out;rwa [List.take_of_length_le (by have:=HLN.out;omega)] at h
theorem small_many(w:World)(base g b:Nat)(l:List Int)(xs:List UInt8)(hw:Wr w base g xs)(hn:xs.length≤800000000)(hl:l.length≤1000000)(hB:base≤w.heap.size)(hgb:b≠g)(hc:w.heap[b]? =some (.cells (ints l) 3 (0,0)))(n:Nat)(hln:l.length=n):
  Calls Tryz.prog 156 #[.pointer (some ⟨g,0,none⟩),.slice (some ⟨b,0,none⟩) n n] w (LaidA w base g (xs++encAll encSmall l)):=by
 have HC:=hid hc;have HW0:=hid hw;have HLN:=hid hln;clear hc hw hln;have hn0:n≤1000000:=by have:=HLN.out;omega
 go_enter Tryz.func156,Tryz.ntmps156;go_wp2;go_loopw [8] (fun i wr=>∃k:Nat,k≤n∧i= .int .i64 k∧Wr wr base g (xs++encAll encSmall (l.take k))∧Below base w wr∧Aside g w wr) (fun i _=>n-(intOf i).toNat)
 case atStart=>exact⟨0,Nat.zero_le _,rfl,by simpa [encAll] using HW0.out,Below.refl _ _,Aside.refl _ _⟩
 case round=>
  obtain⟨k,hk,rfl,hW,hbel,has⟩:=hrel;have HW:=hid hW;have HA:=hid has;clear hW has;by_cases hlt:k<n
  ·have hcb:=HA.out b _ 3 (by decide) hgb HC.out;have hcell:wr.cell? ⟨b,k,none⟩=some (.int .i64 (l.getD k 0)):=(cell_at hcb k).trans (ints_get l k (by have:=HLN.out;omega));have HX:=hid (encAll_step encSmall xs l k (by have:=HLN.out;omega));have hxl:(xs++encAll encSmall (l.take k)).length≤900000000:=by have:=encAll_length encSmall (fun n=>by rw[encSmall_length];omega) (l.take k);rw[List.length_append];rw[List.length_take] at this;omega
   have hbs:base≤wr.heap.size:=by have:=hbel.size;omega
   clear hcb;generalize l.getD k 0=x at *;have HXL:=hid hxl;clear hxl;rcases(show x<0∨(0≤x∧x≤65535)∨65535<x by omega) with h|⟨h,h2⟩|h;all_goals
    first
     |(have HN:=hid (number_small_a wr base g x 0 _ HW.out HXL.out hbs (by unfold clip;omega)))
     |(have HN:=hid (number_small_a wr base g x x _ HW.out HXL.out hbs (by unfold clip;omega)))
     |(have HN:=hid (number_small_a wr base g x 65535 _ HW.out HXL.out hbs (by unfold clip;omega)))
    go_wp2_with fail;refine HN.out.mono ?_;rintro e w1 ⟨rfl,hW1,hb1,ha1⟩;go_wp2_with fail;go_roundw
    case rel=>exact⟨k+1,by omega,by go_num,by rw[HX.out];exact hW1,hbel.trans hb1,HA.out.trans ha1⟩
    case measure=>simp[intOf];omega
  obtain rfl:k=n:=by omega
  go_wp2;go_end0;refine⟨rfl,?_,hbel,HA.out⟩;have h:=HW.out;rwa [List.take_of_length_le (by have:=HLN.out;omega)] at h
end Go.Proofs.YtdjhlhellkajfaaGreat.Cod
