/-
  Texts QFSmall, QFPut, in one file. What each proves, and its conditions, stand at its head below.
-/
import Derived.Test.YtdjhlhellkajfaaGreatY2
import Derived.Test.YtdjhlhellkajfaaGreatY4
import Derived.Test.YtdjhlhellkajfaaGreatY5
import Derived.Test.YtdjhlhellkajfaaGreatY7
import Derived.Test.YtdjhlhellkajfaaGreatY8
import Derived.Test.YtdjhlhellkajfaaGreatY12
import Derived.Laws.BytesArg
import Derived.Laws.CopyOwn
import Derived.Laws.BitsAll
set_option maxRecDepth 100000
set_option maxHeartbeats 1000000
open Go.Lib (hid)
namespace Go.Proofs.YtdjhlhellkajfaaGreat.Frm
open Go.RowKit Codec FrameM Cod
theorem rneed_any(n:Int)(w:World)(h:in64 n):Calls Tryz.prog 68 #[.int .i64 n] w fun e w'=>e= .returned (.int .i64 (needI n))∧w=w':=by
 obtain⟨h1,h2⟩:=h;by_cases hn:n≤0
 ·have HN:Hid (needI n=0):=hid (by unfold needI;rw[if_pos hn]);rw[HN.out];go_enter Tryz.func68,Tryz.ntmps68;go_wp2;go_ret;exact⟨rfl,rfl⟩
 have HN:Hid (needI n=(n-1)/64+1):=hid (by unfold needI;rw[if_neg hn]);have hn1:0<n:=by omega
 rw[HN.out];clear hn HN;go_enter Tryz.func68,Tryz.ntmps68;go_wp2;go_ret;exact⟨rfl,rfl⟩
theorem rright_any(m:Mk)(w:World):Calls Tryz.prog 108 #[mkV m] w (EndsBelow (.bool m.right) w):=by
 have hr:=right_cases m;obtain⟨k,g,s,n⟩:=m;dsimp only[mkV] at hr ⊢;rcases hr with⟨hb,h|⟨h,h2⟩|⟨h,h2,h3⟩|⟨h,h2,h3,h4⟩|⟨h,h2,h3,h4,h5⟩⟩|⟨hb,h,h2,h3,h4,h5⟩;all_goals
  rw[hb];clear hb;try (have hd:decide (0≤n)=false:=by simpa using h5)
  go_enter Tryz.func108,Tryz.ntmps108;go_wp2;go_ret;exact⟨rfl,alloc_below _ _⟩
end Go.Proofs.YtdjhlhellkajfaaGreat.Frm
namespace Go.Proofs.YtdjhlhellkajfaaGreat.Frm
open Go.RowKit Codec FrameM Cod
theorem rcrc_byts(w:World)(B n c:Nat)(A:Option Addr)(xs:List UInt8)(h:Byts w B A n xs)(hn:n≤1000000000):Calls Tryz.prog 112 #[.slice A n c] w (Sum.Ends (.int .u32 (crcOf xs)) w):=by
 rcases Nat.eq_zero_or_pos n with h0|h0
 ·subst h0;obtain rfl:xs=[]:=List.eq_nil_of_length_eq_zero h.len;exact Sum.rcrc_none c A w
 obtain⟨b,off,rfl,_,hc⟩:=h.at_ h0;exact Sum.rcrc_some b off n c (nats xs) w (row_of_byts h.len hc) (by omega)
end Go.Proofs.YtdjhlhellkajfaaGreat.Frm
