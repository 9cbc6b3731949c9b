/-
  The document's own quotient, or its error.
-/
import Derived.Test.YtdegpefhegmamabWalkG
import Derived.Test.YtdegpefhegmamabRefB
namespace Go.Proofs.Ytdegpefhegmamab
open Go.RowKit Fld
set_option linter.unusedVariables false

end Go.Proofs.Ytdegpefhegmamab
