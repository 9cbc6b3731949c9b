import Derived.Test.YtnakbpaiidolbaaGreatBunO
import Derived.Test.YtnakbpaiidolbaaGreatBunM
import Derived.Lib.SmallJoins
namespace Go.Proofs.YtnakbpaiidolbaaGreat
open Go.ChangeShapes Go.WideShapes Go.ChangeAt Go.RowKit
set_option linter.unusedVariables false
end Go.Proofs.YtnakbpaiidolbaaGreat
