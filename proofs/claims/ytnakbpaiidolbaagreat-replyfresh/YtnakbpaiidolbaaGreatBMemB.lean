import Derived.Test.YtnakbpaiidolbaaGreatBunM
import Derived.Deep.CutBlock
namespace Go.Proofs.YtnakbpaiidolbaaGreat
open Go.RowKit Fld Slp
set_option linter.unusedVariables false
set_option linter.unusedSimpArgs false
end Go.Proofs.YtnakbpaiidolbaaGreat
namespace Go.Proofs.YtnakbpaiidolbaaGreat
open Go.RowKit Fld Slp
set_option linter.unusedVariables false
set_option linter.unusedSimpArgs false
end Go.Proofs.YtnakbpaiidolbaaGreat
namespace Go.Proofs.YtnakbpaiidolbaaGreat
open Go.RowKit Fld Slp
set_option linter.unusedVariables false
set_option linter.unusedSimpArgs false
end Go.Proofs.YtnakbpaiidolbaaGreat
namespace Go.Proofs.YtnakbpaiidolbaaGreat
open Go.RowKit Fld Slp
set_option linter.unusedVariables false
set_option linter.unusedSimpArgs false
end Go.Proofs.YtnakbpaiidolbaaGreat
namespace Go.Proofs.YtnakbpaiidolbaaGreat
open Go.RowKit Fld Slp
set_option linter.unusedVariables false
set_option linter.unusedSimpArgs false
end Go.Proofs.YtnakbpaiidolbaaGreat
namespace Go.Proofs.YtnakbpaiidolbaaGreat
open Go.RowKit Fld Slp
set_option linter.unusedVariables false
set_option linter.unusedSimpArgs false
theorem set1_grown (W : World) (g k : Nat) (v : Value) : W.grownBy (W.setCell ⟨g, k, none⟩ v) (some g) := ⟨rfl, rfl, rfl, (KeepsWalks.setCell W _ v).size, fun j _ hj => Below.heap_setCell _ _ _ j (fun e => hj (by rw [e]))⟩
end Go.Proofs.YtnakbpaiidolbaaGreat
namespace Go.Proofs.YtnakbpaiidolbaaGreat
open Go.RowKit Fld Slp
set_option linter.unusedVariables false
set_option linter.unusedSimpArgs false
theorem cell4 {W : World} {g : Nat} {a b c d : Value} {T : TypeId} (h : W.heap[g]? = some (.cells #[a, b, c, d] T (0, 0))) : W.cell? ⟨g, 0, none⟩ = some a ∧ W.cell? ⟨g, 1, none⟩ = some b ∧ W.cell? ⟨g, 2, none⟩ = some c ∧ W.cell? ⟨g, 3, none⟩ = some d :=
 ⟨by rw [Lib.cell_of_heap h]; rfl, by rw [Lib.cell_of_heap h]; rfl, by rw [Lib.cell_of_heap h]; rfl, by rw [Lib.cell_of_heap h]; rfl⟩
end Go.Proofs.YtnakbpaiidolbaaGreat
