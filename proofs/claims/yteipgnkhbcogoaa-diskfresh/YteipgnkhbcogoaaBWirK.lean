import Derived.Test.YteipgnkhbcogoaaBWirF
set_option linter.unusedVariables false
set_option linter.unusedSimpArgs false
set_option maxRecDepth 100000
set_option maxHeartbeats 4000000
namespace Go.Proofs.Yteipgnkhbcogoaa
open Go.RowKit Fld
theorem Rb.news_alloc {w : World} {ad : Addr} {n cap : Nat} {bs : List Int} (h : Rb w (.slice (some ad) n cap) bs) (o : Obj) : ∀ j u, (valb bs)[j]? = some u -> (w.alloc o).cell? (ad.add j) = some u :=
 (h.below (alloc_below w o)).news
end Go.Proofs.Yteipgnkhbcogoaa
