/-
  The document's own Dot.
-/
import Derived.Test.YtifilgmjpflekaaBDot
namespace Go.Proofs.Ytifilgmjpflekaa
open Go.RowKit Fld
set_option linter.unusedVariables false

end Go.Proofs.Ytifilgmjpflekaa
