/-
  A list of words that came in, opened: it lies in memory, each word fits, and it is no longer than the form's own reach.
-/
import Derived.Test.YtfgokcphnkkgnaaBunW
import Derived.ProofKit
import Derived.OpenShut
import Derived.ChangeOld
import Derived.SizedLaws
namespace Go.Proofs.Ytfgokcphnkkgnaa
open Go.ChangeShapes Go.WideShapes Go.ChangeAt Go.RowKit

theorem u64_bytes : Try.prog.bytesOf 50 = 8 := by kernel_rfl

end Go.Proofs.Ytfgokcphnkkgnaa
