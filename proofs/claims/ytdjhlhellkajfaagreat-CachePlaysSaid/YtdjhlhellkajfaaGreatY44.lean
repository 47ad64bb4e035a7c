/-
  Texts JLow, in one file. What each proves, and its conditions, stand at its head below.
-/
import Derived.Test.YtdjhlhellkajfaaGreatY10
import Derived.Test.YtdjhlhellkajfaaGreatY24
set_option maxRecDepth 100000
namespace Go.Proofs.YtdjhlhellkajfaaGreat.JourM
open Disk FrameM Codec
theorem appD_n(d:Dsk)(j:Jr)(b:List UInt8):(appD d j b).n=d.n:=by
 unfold appD;split
 ·exact extD_n _ _ _ _ _
 rfl
theorem rstD_n(d:Dsk)(j:Jr)(l:List (List UInt8)):(rstD d j l).n=d.n:=by
 unfold rstD;split
 ·exact beginD_n _ _ _
 rfl
end Go.Proofs.YtdjhlhellkajfaaGreat.JourM
