import Derived.Test.YtjhididlcdepdaaGreatBunM
import Derived.Deep.CutBlock
set_option linter.unusedVariables false
set_option linter.unusedSimpArgs false
set_option maxRecDepth 100000
set_option maxHeartbeats 4000000
namespace Go.Proofs.YtjhididlcdepdaaGreat
open Go.RowKit Fld Slp
end Go.Proofs.YtjhididlcdepdaaGreat
