/-
  Texts JKnows, in one file. What each proves, and its conditions, stand at its head below.
-/
import Derived.Test.YtdjhlhellkajfaaGreatY10
import Derived.Test.YtdjhlhellkajfaaGreatY24
import Derived.Test.YtdjhlhellkajfaaGreatY27
import Derived.Lib.SlBytesConst
set_option maxRecDepth 100000
namespace Go.Proofs.YtdjhlhellkajfaaGreat.Jou
open Go.RowKit Codec FrameM Cod JourM
open Disk (Turn Dk Dsk ptr Now Made Nums fresh)
theorem low_turn{w w1 w2:World}{S:List Nat}(h:Below w.heap.size w w1)(ht:Turn S w1 w2)(hS:∀k∈S,w.heap.size≤k):Below w.heap.size w w2:=h.trans (ht.low hS h.size)
theorem Jn.owns_low{w:World}{lo j g gs gm base:Nat}{d:Dsk}{jr:Jr}{v:Value}(h:Jn w lo j g gs gm d jr v)(hj:base≤j)(hg:base≤g∧base≤gs∧base≤gm):∀k∈[j,g,gs,gm]++v.ownBlock.toList,base≤k:=by
 intro k hk;rcases List.mem_append.1 hk with hk|hk
 ·simp only[List.mem_cons,List.not_mem_nil,or_false] at hk;omega
 obtain⟨its,o1,_⟩:=h.own;have h1:=h.lows j (by simp);have h2:=own_type o1 (by simpa using hk);omega
theorem open_first(w:World)(g gs gm:Nat)(h:Dk w g gs gm (fresh 20)):Calls Tryz.prog 13 #[ptr g] w (Opened w g gs gm kA ⟨1,[],false⟩):=by
 obtain⟨h1,h2,_⟩:=fresh_open 20 (by omega) (by omega);refine(open_new w g gs gm (fresh 20) h (by show 8≤20;omega) rfl (fresh_newest 20 (by omega))).mono fun e w' hx=> ?_;rcases hx with⟨_,hx⟩|⟨hx,_⟩
 ·rw[h2] at hx;exact hx
 rw[h1] at hx;cases hx
end Go.Proofs.YtdjhlhellkajfaaGreat.Jou
