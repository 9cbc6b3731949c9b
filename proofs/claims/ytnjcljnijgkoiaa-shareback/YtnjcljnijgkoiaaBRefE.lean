/-
  The document's own Dot.
-/
import Derived.Test.YtnjcljnijgkoiaaBDot
namespace Go.Proofs.Ytnjcljnijgkoiaa
open Go.RowKit Fld
set_option linter.unusedVariables false

end Go.Proofs.Ytnjcljnijgkoiaa
