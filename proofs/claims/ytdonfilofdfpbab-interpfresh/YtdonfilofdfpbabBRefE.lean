/-
  The document's own Dot.
-/
import Derived.Test.YtdonfilofdfpbabBDot
namespace Go.Proofs.Ytdonfilofdfpbab
open Go.RowKit Fld
set_option linter.unusedVariables false

end Go.Proofs.Ytdonfilofdfpbab
