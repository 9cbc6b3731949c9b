import Derived.Test.YtjhididlcdepdaaGreatBIntA
import Derived.Test.YtjhididlcdepdaaGreatBunAT
import Derived.Test.YtjhididlcdepdaaGreatBunM
import Derived.Test.YtjhididlcdepdaaGreatBRowA
import Derived.Test.YtjhididlcdepdaaGreatBunQ
set_option linter.unusedVariables false
set_option linter.unusedSimpArgs false
set_option maxRecDepth 100000
set_option maxHeartbeats 4000000
namespace Go.Proofs.YtjhididlcdepdaaGreat
open Go.RowKit Fld Pln Shr
def trn (bl : List (List Int)) (n : Nat) : List (List Int) := (List.range n).map (fun t => col bl t)
end Go.Proofs.YtjhididlcdepdaaGreat
