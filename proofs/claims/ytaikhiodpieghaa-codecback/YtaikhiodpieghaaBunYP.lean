import Derived.Test.YtaikhiodpieghaaBTreB
import Derived.Test.YtaikhiodpieghaaBunJ
set_option linter.unusedVariables false
set_option linter.unusedSimpArgs false
set_option maxRecDepth 100000
set_option maxHeartbeats 4000000
namespace Go.Proofs.Ytaikhiodpieghaa
open Go.RowKit Fld
theorem drewN_below (w : World) (m : Nat) : Below w.heap.size w (w.drewN m) := below_drewN (Below.refl _ w) m
end Go.Proofs.Ytaikhiodpieghaa
