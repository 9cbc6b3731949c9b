/- Texts laid together: PntR, PntS. -/
import Derived.Test.YtnjcljnijgkoiaaBunAT
import Derived.Test.YtnjcljnijgkoiaaBPlrA
import Derived.Test.YtnjcljnijgkoiaaBunIC
namespace Go.Proofs.Ytnjcljnijgkoiaa
open Go.RowKit Fld Pln
set_option linter.unusedVariables false
set_option linter.unusedSimpArgs false

/-- Part 0, 1, 2. -/
def parL (p : Pn) (i : Int) : List Int := if i = 0 then datL p else if i = 1 then padL p else wrkL p

end Go.Proofs.Ytnjcljnijgkoiaa

namespace Go.Proofs.Ytnjcljnijgkoiaa
open Go.RowKit Fld Pln
set_option linter.unusedVariables false
set_option linter.unusedSimpArgs false

end Go.Proofs.Ytnjcljnijgkoiaa

