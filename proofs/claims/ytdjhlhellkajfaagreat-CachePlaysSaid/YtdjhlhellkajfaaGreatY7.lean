/-
  Texts SWalks, SRef, in one file. What each proves, and its conditions, stand at its head below.
-/
import Derived.Test.YtdjhlhellkajfaaGreatY6
import Derived.WalkKit
import Derived.WalkSpells
import Derived.WalkLawsBesides
import Derived.Lib.Hide
set_option maxRecDepth 100000
set_option maxHeartbeats 400000
open Go.Lib (hid)
namespace Go.Proofs.YtdjhlhellkajfaaGreat.Sum
open Go.RowKit Sums
def Ends (v:Value) (w:World) (e:Ending) (w':World):Prop:=e= .returned v∧w=w'
structure Row (w:World) (b off n:Nat) (xs:List Nat):Prop where
 len:xs.length=n
 cell:∀i,i<n→w.cell? ⟨b,off+i,none⟩=some (.int .u8 (xs.getD i 0:Nat))
 byte:∀i,xs.getD i 0≤255
theorem ret32{a b:Int}{w:World}(h:a=b):Ends (.int .u32 b) w (.returned (.int .u32 a)) w:=by subst h;exact⟨rfl,rfl⟩
theorem ret64{a b:Int}{w:World}(h:a=b):Ends (.int .u64 b) w (.returned (.int .u64 a)) w:=by subst h;exact⟨rfl,rfl⟩
theorem more_some(s b off n c:Nat)(xs:List Nat)(w:World)(hs:s<4294967296)(hr:Row w b off n xs)(hn:n≤140737488355328):
  Calls Tryz.prog 173 #[.int .u32 s,.slice (some ⟨b,off,none⟩) n c] w (Ends (.int .u32 (more s xs)) w):=by
 have HR:=hid hr;clear hr;go_enter Tryz.func173,Tryz.ntmps173;go_wp2;go_loop [5,14] (fun r i=>∃k:Nat,k≤n∧i= .int .i64 k∧r= .int .u32 (crcN (4294967295-s) (bitAt xs) (8 * k):Nat)) (fun _ i=>n-(intOf i).toNat)
 case atStart=>exact⟨0,by omega,rfl,by rw[max_xor s hs];rfl⟩
 case round=>
  obtain⟨k,hk,rfl,rfl⟩:=hrel;by_cases hlt:k<n
  ·have hc:=HR.out.cell k hlt;have hb:=HR.out.byte k;have HX:Hid (∀j,j<8→bitAt xs (8 * k+j)=xs.getD k 0/2^j%2):=hid (fun j hj=>by unfold bitAt;rw[show(8 * k+j)/8=k by omega,show(8 * k+j)%8=j by omega]);generalize xs.getD k 0=x at *;go_wp2;go_loop [5,18] (fun r i=>∃j:Nat,j≤8∧i= .int .i64 j∧r= .int .u32 (crcN (4294967295-s) (bitAt xs) (8 * k+j):Nat)) (fun _ i=>8-(intOf i).toNat)
   case atStart=>exact⟨0,by omega,rfl,rfl⟩
   case round=>
    obtain⟨j,hj,rfl,rfl⟩:=hrel;by_cases hlj:j<8
    ·go_wp2;go_round
     case rel=>
      refine⟨j+1,by omega,by go_num,?_⟩;rw[prog_step _ _ _ (crcN_lt (by omega) (fun i=>bitAt_lt xs i) _) hb,←HX.out j hlj];rfl
     case measure=>simp[intOf];omega
    obtain rfl:j=8:=by omega
    go_wp2;go_round
    case rel=>exact⟨k+1,by omega,by go_num,by rw[Nat.mul_add]⟩
    case measure=>simp[intOf];omega
  obtain rfl:k=n:=by omega
  go_wp2;go_ret;exact ret32 (by rw[max_xor _ (crcN_lt (by omega) (fun i=>bitAt_lt xs i) _)];unfold more;rw[HR.out.len])
theorem more_none(s c:Nat)(A:Option Addr)(w:World)(hs:s<4294967296):
  Calls Tryz.prog 173 #[.int .u32 s,.slice A 0 c] w (Ends (.int .u32 (more s [])) w):=by
 go_enter Tryz.func173,Tryz.ntmps173;go_wp2;go_loop [5,14] (fun r i=>i= .int .i64 0∧r= .int .u32 (4294967295-s:Nat)) (fun _ _=>0)
 case atStart=>exact⟨rfl,by rw[max_xor s hs]⟩
 case round=>
  obtain⟨rfl,rfl⟩:=hrel;go_wp2;go_ret;exact ret32 (by rw[max_xor _ (by omega)];rfl)
theorem fnv_some(b off n c:Nat)(xs:List Nat)(w:World)(hr:Row w b off n xs)(hn:n≤140737488355328):
  Calls Tryz.prog 145 #[.slice (some ⟨b,off,none⟩) n c] w (Ends (.int .u64 (fnv xs)) w):=by
 have HR:=hid hr;clear hr;go_enter Tryz.func145,Tryz.ntmps145;go_wp2;go_loop [3,8] (fun r i=>∃k:Nat,k≤n∧i= .int .i64 k∧r= .int .u64 (fnvN xs k:Nat)) (fun _ i=>n-(intOf i).toNat)
 case atStart=>exact⟨0,by omega,rfl,rfl⟩
 case round=>
  obtain⟨k,hk,rfl,rfl⟩:=hrel;by_cases hlt:k<n
  ·have hc:=HR.out.cell k hlt;have hb:=HR.out.byte k;have HX:Hid (fnvN xs (k+1)=(fnvN xs k^^^xs.getD k 0) * 1099511628211%18446744073709551616):=hid rfl;generalize xs.getD k 0=x at *;go_wp2;go_round
   case rel=>
    refine⟨k+1,by omega,by go_num,?_⟩;rw[HX.out,fnv_step _ _ (fnvN_lt _ _) hb]
   case measure=>simp[intOf];omega
  obtain rfl:k=n:=by omega
  go_wp2;go_ret;exact ret64 (by unfold fnv;rw[HR.out.len])
theorem fnv_none(c:Nat)(A:Option Addr)(w:World):Calls Tryz.prog 145 #[.slice A 0 c] w (Ends (.int .u64 (fnv [])) w):=by
 go_enter Tryz.func145,Tryz.ntmps145;go_wp2;go_loop [3,8] (fun r i=>i= .int .i64 0∧r= .int .u64 (fnv []:Nat)) (fun _ _=>0)
 case atStart=>exact⟨rfl,rfl⟩
 case round=>
  obtain⟨rfl,rfl⟩:=hrel;go_wp2;go_ret;exact ret64 rfl
theorem crc_some(b off n c:Nat)(xs:List Nat)(w:World)(hr:Row w b off n xs)(hn:n≤140737488355328):
  Calls Tryz.prog 153 #[.slice (some ⟨b,off,none⟩) n c] w (Ends (.int .u32 (crc xs)) w):=by
 have HC:=hid (more_some 0 b off n c xs w (by decide) hr hn);clear hr;go_enter Tryz.func153,Tryz.ntmps153;go_wp2_with fail;refine HC.out.mono ?_;rintro e w1 ⟨rfl,rfl⟩;go_wp2_with fail;go_ret;exact⟨rfl,rfl⟩
theorem crc_none(c:Nat)(A:Option Addr)(w:World):Calls Tryz.prog 153 #[.slice A 0 c] w (Ends (.int .u32 (crc [])) w):=by
 have HC:=hid (more_none 0 c A w (by decide));go_enter Tryz.func153,Tryz.ntmps153;go_wp2_with fail;refine HC.out.mono ?_;rintro e w1 ⟨rfl,rfl⟩;go_wp2_with fail;go_ret;exact⟨rfl,rfl⟩
end Go.Proofs.YtdjhlhellkajfaaGreat.Sum
namespace Go.Proofs.YtdjhlhellkajfaaGreat.Sum
open Go.RowKit Sums
theorem rcrc_some(b off n c:Nat)(xs:List Nat)(w:World)(hr:Row w b off n xs)(hn:n≤140737488355328):
  Calls Tryz.prog 112 #[.slice (some ⟨b,off,none⟩) n c] w (Ends (.int .u32 (crc xs)) w):=by
 have HR:=hid hr;clear hr;go_enter Tryz.func112,Tryz.ntmps112;go_wp2;go_loop [3,4] (fun r i=>∃k:Nat,k≤8 * n∧i= .int .i64 k∧r= .int .u32 (crcN 4294967295 (bitAt xs) k:Nat)) (fun _ i=>8 * n-(intOf i).toNat)
 case atStart=>exact⟨0,by omega,rfl,rfl⟩
 case round=>
  obtain⟨k,hk,rfl,rfl⟩:=hrel;by_cases hlt:k<8 * n
  ·have hd:k/8<n:=by omega
   have hc:=HR.out.cell (k/8) hd;have hb:=HR.out.byte (k/8);have HX:Hid (bitAt xs k=xs.getD (k/8) 0/2^(k%8)%2):=hid rfl;generalize xs.getD (k/8) 0=x at *;go_wp2;all_goals
    go_round
    case rel=>
     refine⟨k+1,by omega,by go_num,?_⟩;first
      |(rw[ref_step_yes _ _ _ (crcN_lt (by omega) (fun i=>bitAt_lt xs i) _) hb (by assumption),←HX.out];rfl)
      |(rw[ref_step_no _ _ _ (crcN_lt (by omega) (fun i=>bitAt_lt xs i) _) hb (by assumption),←HX.out];rfl)
    case measure=>simp[intOf];omega
  obtain rfl:k=8 * n:=by omega
  go_wp2;go_ret;exact ret32 (by rw[xor_max _ (crcN_lt (by omega) (fun i=>bitAt_lt xs i) _)];unfold crc more;rw[HR.out.len])
theorem rcrc_none(c:Nat)(A:Option Addr)(w:World):Calls Tryz.prog 112 #[.slice A 0 c] w (Ends (.int .u32 (crc [])) w):=by
 go_enter Tryz.func112,Tryz.ntmps112;go_wp2;go_loop [3,4] (fun r i=>i= .int .i64 0∧r= .int .u32 4294967295) (fun _ _=>0)
 case atStart=>exact⟨rfl,rfl⟩
 case round=>
  obtain⟨rfl,rfl⟩:=hrel;go_wp2;go_ret;exact ret32 rfl
end Go.Proofs.YtdjhlhellkajfaaGreat.Sum
