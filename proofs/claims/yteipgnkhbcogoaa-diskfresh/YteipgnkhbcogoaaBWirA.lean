import Derived.Test.YteipgnkhbcogoaaBunP
set_option linter.unusedVariables false
set_option linter.unusedSimpArgs false
set_option maxRecDepth 100000
set_option maxHeartbeats 4000000
namespace Go.Proofs.Yteipgnkhbcogoaa.Fld
def By (bs : List Int) : Prop := ∀ b ∈ bs, 0 <= b ∧ b <= 255
theorem By.nil : By [] := fun b h => by cases h
theorem By.tail {b : Int} {bs : List Int} (h : By (b :: bs)) : By bs := fun x hx => h x (List.mem_cons_of_mem _ hx)
end Go.Proofs.Yteipgnkhbcogoaa.Fld
