/-
  Texts JTurn, in one file. What each proves, and its conditions, stand at its head below.
-/
import Derived.Test.YtdjhlhellkajfaaGreatY24
set_option maxRecDepth 100000
namespace Go.Proofs.YtdjhlhellkajfaaGreat.JourM
open Codec FrameM
open Disk (Dsk)
theorem rest_of_good{d:Dsk}{gen:Nat}{gs:List (List UInt8)}(hok:d.ok)(h8:8≤d.n){fs:List Int}(h:Good (rd (d.crash fs)) d.n gen gs):Rest (d.crash fs) ⟨gen,gs,false⟩:=
 ⟨Disk.Dsk.crash_ok hok fs,h8,rfl,rfl,rfl,h⟩
end Go.Proofs.YtdjhlhellkajfaaGreat.JourM
