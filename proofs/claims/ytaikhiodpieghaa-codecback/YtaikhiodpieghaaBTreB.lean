import Derived.Test.YtaikhiodpieghaaBTreA
import Derived.Test.YtaikhiodpieghaaBLawPA
import Derived.Test.YtaikhiodpieghaaBunO
set_option linter.unusedVariables false
set_option linter.unusedSimpArgs false
set_option maxRecDepth 100000
set_option maxHeartbeats 4000000
namespace Go.Proofs.Ytaikhiodpieghaa
open Go.RowKit Fld
end Go.Proofs.Ytaikhiodpieghaa
