import Derived.Test.YtjhididlcdepdaaGreatBPlrA
import Derived.Test.YtjhididlcdepdaaGreatBunYG
set_option linter.unusedVariables false
set_option linter.unusedSimpArgs false
set_option maxRecDepth 100000
set_option maxHeartbeats 4000000
namespace Go.Proofs.YtjhididlcdepdaaGreat
open Go.RowKit Pln
theorem acE_zero {p : Pn} : acE p = 0 ↔ mayP p = true ∧ acc p := by
 cases hm : mayP p with
 | false => rw [acE_no hm]; simp
 | true =>
  rw [acE_yes hm, spare_acc]
  by_cases c : spare p < 0
  · rw [if_pos c]; constructor <;> (intro h; first | (cases h; done) | (have := h.2; omega))
  · rw [if_neg c]; exact ⟨fun _ => ⟨rfl, by omega⟩, fun _ => rfl⟩
end Go.Proofs.YtjhididlcdepdaaGreat
