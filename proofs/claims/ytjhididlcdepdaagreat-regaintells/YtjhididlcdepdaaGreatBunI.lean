import Derived.Test.YtjhididlcdepdaaGreatBEvpD
import Derived.Test.YtjhididlcdepdaaGreatBEvrA
import Derived.Test.YtjhididlcdepdaaGreatBunW
set_option linter.unusedVariables false
set_option linter.unusedSimpArgs false
set_option maxRecDepth 100000
set_option maxHeartbeats 4000000
namespace Go.Proofs.YtjhididlcdepdaaGreat
open Go.RowKit Fld Slp
theorem ru_wd (f : Int) (q : Pr) (xs : List Int) (hw : ∀ x ∈ xs, 0 ≤ x ∧ x ≤ 18446744073709551615) : ((ruL f q xs).length ≤ 64 ∧ ∀ x ∈ ruL f q xs, 0 ≤ x ∧ x ≤ 18446744073709551615) ∧ ((stL f q xs).length ≤ 320 ∧ ∀ x ∈ stL f q xs, 0 ≤ x ∧ x ≤ 18446744073709551615) := by
 by_cases he : evE f q xs = 0
 · obtain ⟨hm, h1, h2⟩ := evE_zero he
   obtain ⟨p, wd, hf, hi⟩ := inF_fi h1
   have hx := els_of hi hw
   obtain ⟨⟨j0, j1, l1, l2⟩, _, _⟩ := mayB_iff.1 hm
   have e1 : ruL f q xs = rnO (Rf f) q xs := by unfold ruL; rw [if_pos he]
   have e2 : stL f q xs = rns (Rf f) q xs := by unfold stL; rw [if_pos he]
   have hall : Els p (rns (Rf f) q xs) := el_all hf q.ops xs hx
   rw [e1, e2]
   refine ⟨⟨by rw [rnO_len]; omega, fun x hx' => ?_⟩, by unfold rns; rw [rnL_len]; omega, els_words hall hf.top⟩
   obtain ⟨v, _, rfl⟩ := List.mem_map.1 hx'
   exact elWord (hall.co hf.pos v.toNat) hf.top
 · have e1 : ruL f q xs = [] := by unfold ruL; rw [if_neg he]
   have e2 : stL f q xs = [] := by unfold stL; rw [if_neg he]
   rw [e1, e2]
   simp
end Go.Proofs.YtjhididlcdepdaaGreat
