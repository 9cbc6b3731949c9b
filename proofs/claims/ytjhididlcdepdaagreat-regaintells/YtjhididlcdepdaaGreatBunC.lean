import Derived.Test.YtjhididlcdepdaaGreatBunG
import Derived.Test.YtjhididlcdepdaaGreatBMemB
import Derived.Test.YtjhididlcdepdaaGreatBunS
import Derived.Test.YtjhididlcdepdaaGreatBQMute
import Derived.Test.YtjhididlcdepdaaGreatBTkA
set_option linter.unusedVariables false
set_option linter.unusedSimpArgs false
set_option maxRecDepth 100000
set_option maxHeartbeats 4000000
namespace Go.Proofs.YtjhididlcdepdaaGreat
open Go.RowKit Fld Slp
section
variable {w W W' : World} {p : Pr} {vo vu : Value} {b0 b1 B b7 : Nat} {yo yu : Value} {os : List O4} {us : List Int}
end
end Go.Proofs.YtjhididlcdepdaaGreat
