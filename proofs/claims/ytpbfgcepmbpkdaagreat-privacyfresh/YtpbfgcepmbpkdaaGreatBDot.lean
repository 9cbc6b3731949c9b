/-
  The field's Dot, the document's own, and its Same.
-/
import Derived.Test.YtpbfgcepmbpkdaaGreatBunW
namespace Go.Proofs.YtpbfgcepmbpkdaaGreat
open Go.RowKit Fld
set_option linter.unusedVariables false

/-- The sum of the first k products. -/
def dt (p : Int) (xs ys : List Int) : Nat → Int
  | 0 => 0
  | k + 1 => add p (dt p xs ys k) (mul p (xs.getD k 0) (ys.getD k 0))

end Go.Proofs.YtpbfgcepmbpkdaaGreat
