import Derived.Test.YtpibiagohfnbmaaBunQ
set_option linter.unusedVariables false
set_option linter.unusedSimpArgs false
set_option maxRecDepth 100000
set_option maxHeartbeats 4000000
namespace Go.Proofs.Ytpibiagohfnbmaa
open Go.RowKit Fld
end Go.Proofs.Ytpibiagohfnbmaa
namespace Go.Proofs.Ytpibiagohfnbmaa
section
variable {P : Program} {C : World -> Prop}
end
end Go.Proofs.Ytpibiagohfnbmaa
namespace Go.Proofs.Ytpibiagohfnbmaa
open Go.RowKit Fld
end Go.Proofs.Ytpibiagohfnbmaa
