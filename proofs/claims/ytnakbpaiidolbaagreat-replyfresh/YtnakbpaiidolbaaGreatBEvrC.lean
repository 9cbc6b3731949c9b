import Derived.Test.YtnakbpaiidolbaaGreatBEvqF
import Derived.Test.YtnakbpaiidolbaaGreatBEvrB
import Derived.Test.YtnakbpaiidolbaaGreatBunH
import Derived.Test.YtnakbpaiidolbaaGreatBunC
import Derived.Test.YtnakbpaiidolbaaGreatBunYR
import Derived.Test.YtnakbpaiidolbaaGreatBunQ
import Derived.Test.YtnakbpaiidolbaaGreatBTkA
namespace Go.Proofs.YtnakbpaiidolbaaGreat
open Go.RowKit Fld Slp
set_option linter.unusedVariables false
set_option linter.unusedSimpArgs false
theorem lim_wd {p : Int} (hp : p ≤ 18446744073709551615) {xs : List Int} (h : Lim p xs) : Wd xs := ⟨by have := h.2; omega, els_words h.1 hp⟩
theorem wd_getD {P : List Int → Prop} {xss : List (List Int)} (h : ∀ xs ∈ xss, P xs) (h0 : P []) (i : Nat) : P (xss.getD i []) := by
 rw [List.getD_eq_getElem?_getD]
 cases e : xss[i]? with
 | none => exact h0
 | some xs => exact h xs (List.mem_of_getElem? e)
end Go.Proofs.YtnakbpaiidolbaaGreat
