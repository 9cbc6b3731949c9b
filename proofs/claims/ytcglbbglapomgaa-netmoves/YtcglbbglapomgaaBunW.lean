import Derived.Test.YtcglbbglapomgaaBunP
import Derived.Test.YtcglbbglapomgaaBBas
import Derived.Shelf.Spec.BitsCarry
import Derived.Shelf.Bits.Mul64
import Derived.Deep.RegionHeld3
import Derived.Deep.AppendLies
import Derived.BigQuiet
import Derived.Laws.AppendOwnNone
set_option linter.unusedVariables false
set_option linter.unusedSimpArgs false
set_option maxRecDepth 100000
set_option maxHeartbeats 4000000
namespace Go.Proofs.Ytcglbbglapomgaa
open Go.RowKit Fld
end Go.Proofs.Ytcglbbglapomgaa
namespace Go.Proofs.Ytcglbbglapomgaa.Fld
end Go.Proofs.Ytcglbbglapomgaa.Fld
namespace Go.Proofs.Ytcglbbglapomgaa
open Go.RowKit Fld
def vals (xs : List Int) : List Value := xs.map (Value.int .u64)
theorem own_below {w w' : World} {base e size n : Nat} {v : Value} {xs : List Value} (h : w.ownsRow base e size v n xs) (hb : Below w.heap.size w w') : w'.ownsRow base e size v n xs := by
 refine ⟨h.1, ?_⟩
 rcases h.2 with h1 | ⟨g, cap, cur, h1, h2, h3, h4⟩
 · exact .inl h1
 · refine .inr ⟨g, cap, cur, h1, h2, ?_, h4⟩
   have hlt : g < w.heap.size := by
    apply Nat.lt_of_not_le; intro hc; rw [Array.getElem?_eq_none hc] at h3; cases h3
   rw [hb.block g hlt]; exact h3
theorem own_empty (w : World) (T : TypeId) : (w.alloc (.cells #[] T)).ownsRow w.heap.size T 1 (.slice (some ⟨w.heap.size, 0, none⟩) 0 0) 0 (vals []) :=
 ⟨by simp [vals], .inr ⟨_, 0, #[], rfl, Nat.le_refl _, heap_alloc_new w _, Nat.le_refl _, by unfold maxLen; omega, by simp, by simp [vals]⟩⟩
end Go.Proofs.Ytcglbbglapomgaa
