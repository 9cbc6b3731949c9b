/-
  The document's own Dot.
-/
import Derived.Test.YtnjcljnijgkoiaaGreatBDot
namespace Go.Proofs.YtnjcljnijgkoiaaGreat
open Go.RowKit Fld
set_option linter.unusedVariables false

end Go.Proofs.YtnjcljnijgkoiaaGreat
