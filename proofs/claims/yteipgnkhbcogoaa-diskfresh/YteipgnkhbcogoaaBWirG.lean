import Derived.Test.YteipgnkhbcogoaaBWirF
set_option linter.unusedVariables false
set_option linter.unusedSimpArgs false
set_option maxRecDepth 100000
set_option maxHeartbeats 4000000
namespace Go.Proofs.Yteipgnkhbcogoaa
open Go.RowKit Fld
end Go.Proofs.Yteipgnkhbcogoaa
