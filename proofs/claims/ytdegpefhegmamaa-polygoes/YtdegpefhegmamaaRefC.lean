/-
  The document's own quotient, or its error.
-/
import Derived.Test.YtdegpefhegmamaaWalkG
import Derived.Test.YtdegpefhegmamaaRefB
namespace Go.Proofs.Ytdegpefhegmamaa
open Go.RowKit Fld
set_option linter.unusedVariables false

end Go.Proofs.Ytdegpefhegmamaa
