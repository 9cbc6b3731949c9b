/-
  The document's own Dot.
-/
import Derived.Test.YtpbfgcepmbpkdaaGreatBDot
namespace Go.Proofs.YtpbfgcepmbpkdaaGreat
open Go.RowKit Fld
set_option linter.unusedVariables false

end Go.Proofs.YtpbfgcepmbpkdaaGreat
