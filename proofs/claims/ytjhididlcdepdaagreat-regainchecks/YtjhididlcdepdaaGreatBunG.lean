import Derived.Test.YtjhididlcdepdaaGreatBunM
import Derived.Test.YtjhididlcdepdaaGreatBRowA
import Derived.Deep.WholeRow
import Derived.Deep.RegionWith
import Derived.Deep.CutRange
import Derived.Deep.CutBlock
import Derived.Laws.CopyOwn
set_option linter.unusedVariables false
set_option linter.unusedSimpArgs false
set_option maxRecDepth 100000
set_option maxHeartbeats 4000000
namespace Go.Proofs.YtjhididlcdepdaaGreat
open Go.RowKit Fld Slp
section
variable {α : Type} {f : α → Value} {T : TypeId} {n : Nat}
end
end Go.Proofs.YtjhididlcdepdaaGreat
