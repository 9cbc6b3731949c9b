/-
  Layer 9: After, the document's.
-/
import Derived.Test.YtfbipnhhnmlhfaaBSlxH
namespace Go.Proofs.Ytfbipnhhnmlhfaa
open Go.RowKit Fld Slp
set_option linter.unusedVariables false

theorem dAfter (w : World) (v1 v2 : Value) (p q : Pr) (h1 : Pm w v1 p) (h2 : Pm w v2 q) : IsAfter 25 v1 v2 w p q := by
  by_cases hE : aftE p q = 0
  · exact dAfter_ok w v1 v2 p q h1 h2 hE
  · exact dAfter_no w v1 v2 p q h1 h2 hE

end Go.Proofs.Ytfbipnhhnmlhfaa
