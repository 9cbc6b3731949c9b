/-
  Euclid: the document's own Modulo.
-/
import Derived.Test.YtdgcnockccjdjabBEucK
namespace Go.Proofs.Ytdgcnockccjdjab
open Go.RowKit Fld
set_option linter.unusedVariables false

end Go.Proofs.Ytdgcnockccjdjab
