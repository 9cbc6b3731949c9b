import Derived.Test.YtjhididlcdepdaaGreatBunIB
import Derived.Test.YtjhididlcdepdaaGreatBunW
import Derived.Lib.AppendZeros
set_option linter.unusedVariables false
set_option linter.unusedSimpArgs false
set_option maxRecDepth 100000
set_option maxHeartbeats 4000000
namespace Go.Proofs.YtjhididlcdepdaaGreat
open Go.RowKit Fld
end Go.Proofs.YtjhididlcdepdaaGreat
