import Derived.Test.YtcglbbglapomgaaBLawJE
set_option linter.unusedVariables false
set_option linter.unusedSimpArgs false
set_option maxRecDepth 100000
set_option maxHeartbeats 4000000
namespace Go.Proofs.Ytcglbbglapomgaa
open Go.RowKit Fld
theorem has_lt {l : List Pk} {i : Nat} (h : i < l.length) : hasI l (i : Int) = true := hasI_iff.2 ⟨i, rfl, h⟩
end Go.Proofs.Ytcglbbglapomgaa
