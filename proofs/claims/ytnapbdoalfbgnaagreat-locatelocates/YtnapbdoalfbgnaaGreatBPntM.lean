import Derived.Test.YtnapbdoalfbgnaaGreatBTreB
import Derived.Test.YtnapbdoalfbgnaaGreatBunTC
import Derived.Test.YtnapbdoalfbgnaaGreatBIntA
import Derived.Test.YtnapbdoalfbgnaaGreatBBas
set_option linter.unusedVariables false
set_option linter.unusedSimpArgs false
set_option maxRecDepth 100000
set_option maxHeartbeats 4000000
namespace Go.Proofs.YtnapbdoalfbgnaaGreat
open Go.RowKit Fld Rnk
theorem free_own {W : World} {base g n cap : Nat} {T : TypeId} {xs : List Value} (h : W.ownsRow base T 1 (.slice (some ⟨g, 0, none⟩) n cap) n xs) (k : Nat) : W.frozen? ⟨g, k, none⟩ = false := by
 rcases h.2 with ⟨e, _⟩ | ⟨g', cap', cur, e, h2, h3, h4, h5, h6, h7⟩
 · cases e
 · cases e
   simp [World.frozen?, h3]
end Go.Proofs.YtnapbdoalfbgnaaGreat
