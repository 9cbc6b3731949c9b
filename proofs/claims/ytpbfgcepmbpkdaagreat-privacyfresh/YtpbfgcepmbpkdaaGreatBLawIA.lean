/-
  Layer 7: what the document fixes; InterpThrough's, InterpValues' and InterpChanges' walks.
-/
import Derived.Test.YtpbfgcepmbpkdaaGreatBunIC
import Derived.Test.YtpbfgcepmbpkdaaGreatBunYP
namespace Go.Proofs.YtpbfgcepmbpkdaaGreat
open Go.RowKit Fld
set_option linter.unusedVariables false

theorem Rws.spell {w : World} {v : Value} {xss : List (List Int)} (h : Rws w v xss) : ∃ ao cap, v = .slice ao xss.length cap := by
  obtain ⟨ao, cap, h, _⟩ := h; exact ⟨ao, cap, h⟩

end Go.Proofs.YtpbfgcepmbpkdaaGreat
