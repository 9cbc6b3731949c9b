/-
  The field's quotients: Div and Inv, or their errors.
-/
import Derived.Test.YtdphagkehdeanaaWalkF
namespace Go.Proofs.Ytdphagkehdeanaa
open Go.RowKit Fld
set_option linter.unusedVariables false

theorem inv_el {p a : Int} (hp : 0 < p) : El p (inv p a) := pow_el hp

theorem Two.fresh {w1 w : World} (p : Int) (wd : Bool) (T : TypeId) : Boxed w1 p wd (w1.alloc (.cells #[.int .u64 p, .bool wd] T)) := Boxed.first w1 p wd T

end Go.Proofs.Ytdphagkehdeanaa
