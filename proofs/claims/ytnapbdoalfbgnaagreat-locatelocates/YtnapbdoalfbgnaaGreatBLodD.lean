import Derived.Test.YtnapbdoalfbgnaaGreatBLodB
import Derived.Test.YtnapbdoalfbgnaaGreatBunYJ
set_option linter.unusedVariables false
set_option linter.unusedSimpArgs false
set_option maxRecDepth 100000
set_option maxHeartbeats 4000000
namespace Go.Proofs.YtnapbdoalfbgnaaGreat
open Go.RowKit Fld Rnk
end Go.Proofs.YtnapbdoalfbgnaaGreat
