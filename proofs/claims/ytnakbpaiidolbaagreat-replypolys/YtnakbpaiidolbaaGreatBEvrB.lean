import Derived.Test.YtnakbpaiidolbaaGreatBEvpE
import Derived.Test.YtnakbpaiidolbaaGreatBEvrA
import Derived.Test.YtnakbpaiidolbaaGreatBTkA
namespace Go.Proofs.YtnakbpaiidolbaaGreat
open Go.RowKit Fld Slp
set_option linter.unusedVariables false
set_option linter.unusedSimpArgs false
end Go.Proofs.YtnakbpaiidolbaaGreat
