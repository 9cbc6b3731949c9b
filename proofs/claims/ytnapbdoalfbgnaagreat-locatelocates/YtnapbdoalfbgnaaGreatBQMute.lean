import Derived.Test.YtnapbdoalfbgnaaGreatBunJ
import Derived.Deep.RegionHeld3
import Derived.Lib.AppendZeros
set_option linter.unusedVariables false
set_option linter.unusedSimpArgs false
set_option maxRecDepth 100000
set_option maxHeartbeats 4000000
namespace Go.Proofs.YtnapbdoalfbgnaaGreat
section
variable {P : Program}
end
end Go.Proofs.YtnapbdoalfbgnaaGreat
