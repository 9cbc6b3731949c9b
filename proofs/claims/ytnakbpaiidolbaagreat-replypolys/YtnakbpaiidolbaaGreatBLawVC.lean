import Derived.Test.YtnakbpaiidolbaaGreatBunI
import Derived.Test.YtnakbpaiidolbaaGreatBEvrB
import Derived.Test.YtnakbpaiidolbaaGreatBunYP
namespace Go.Proofs.YtnakbpaiidolbaaGreat
open Go.RowKit Fld Slp
set_option linter.unusedVariables false
set_option linter.unusedSimpArgs false
end Go.Proofs.YtnakbpaiidolbaaGreat
