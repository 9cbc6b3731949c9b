import Derived.Test.YtcglbbglapomgaaBLawJC
set_option linter.unusedVariables false
set_option linter.unusedSimpArgs false
set_option maxRecDepth 100000
set_option maxHeartbeats 4000000
namespace Go.Proofs.Ytcglbbglapomgaa
open Go.RowKit Fld
theorem stp_s (N : Nt) (s : Sq) : (stp N s).s <= N.s + 1 := by
 unfold stp sdN dvN dpN dbN mvN
 repeat' split
 all_goals (first | omega | exact Nat.le_refl _ | exact Nat.le_succ _)
end Go.Proofs.Ytcglbbglapomgaa
