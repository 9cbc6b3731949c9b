import Derived.KernelRfl
set_option linter.unusedVariables false
set_option linter.unusedSimpArgs false
set_option maxRecDepth 100000
set_option maxHeartbeats 4000000
namespace Go.Proofs.Yteipgnkhbcogoaa.Fld
end Go.Proofs.Yteipgnkhbcogoaa.Fld
namespace Go.Proofs.Yteipgnkhbcogoaa.Fld
def add (p a b : Int) : Int := (a + b) % p
end Go.Proofs.Yteipgnkhbcogoaa.Fld
namespace Go.Proofs.Yteipgnkhbcogoaa.Fld
end Go.Proofs.Yteipgnkhbcogoaa.Fld
