import Derived.Test.YtnapbdoalfbgnaaGreatBLodB
import Derived.Test.YtnapbdoalfbgnaaGreatBunJ
import Derived.Test.YtnapbdoalfbgnaaGreatBunW
import Derived.Deep.RegionWith
import Derived.Deep.CutRange
set_option linter.unusedVariables false
set_option linter.unusedSimpArgs false
set_option maxRecDepth 100000
set_option maxHeartbeats 4000000
namespace Go.Proofs.YtnapbdoalfbgnaaGreat
open Go.RowKit Fld Rnk
theorem sub_self {p c : Int} (hc : El p c) : sub p c (mul p c 1) = 0 := by
 unfold sub mul
 rw [Int.mul_one, Int.emod_eq_of_lt hc.1 hc.2, Int.sub_self, Int.zero_emod]
end Go.Proofs.YtnapbdoalfbgnaaGreat
