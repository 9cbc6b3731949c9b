import Derived.Test.YtjhididlcdepdaaGreatBunNA
import Derived.Deep.CutRange
import Derived.Deep.CutBlock
import Derived.Laws.StructEq
set_option linter.unusedVariables false
set_option linter.unusedSimpArgs false
set_option maxRecDepth 100000
set_option maxHeartbeats 4000000
namespace Go.Proofs.YtjhididlcdepdaaGreat
open Go.RowKit Pln
def kp (p : Pn) (k : Nat) : Pn := { p with k := (k : Int) }
end Go.Proofs.YtjhididlcdepdaaGreat
