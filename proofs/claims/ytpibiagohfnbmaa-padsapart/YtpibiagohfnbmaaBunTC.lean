import Derived.Test.YtpibiagohfnbmaaBunJ
set_option linter.unusedVariables false
set_option linter.unusedSimpArgs false
set_option maxRecDepth 100000
set_option maxHeartbeats 4000000
namespace Go.Proofs.Ytpibiagohfnbmaa
open Go.RowKit Fld
namespace Fld
end Fld
end Go.Proofs.Ytpibiagohfnbmaa
namespace Go.Proofs.Ytpibiagohfnbmaa
open Go.RowKit Fld
namespace Fld
end Fld
theorem own_other {wr : World} {base g k n : Nat} {v u : Value} {xs : List Value} {T : TypeId} (h : wr.ownsRow base T 1 v n xs) (hne : v.ownBlock ≠ some g) : (wr.setCell ⟨g, k, none⟩ u).ownsRow base T 1 v n xs := by
 refine ⟨h.1, ?_⟩
 rcases h.2 with h1 | ⟨g', cap, cur, rfl, h2, h3, h4⟩
 · exact .inl h1
 · refine .inr ⟨g', cap, cur, rfl, h2, ?_, h4⟩
   rw [Below.heap_setCell wr _ _ _ (fun e => hne (by show some g' = some g; rw [e]))]; exact h3
end Go.Proofs.Ytpibiagohfnbmaa
