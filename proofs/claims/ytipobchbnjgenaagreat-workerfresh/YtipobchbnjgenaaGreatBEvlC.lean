import Derived.Test.YtipobchbnjgenaaGreatBEvlB
import Derived.Test.YtipobchbnjgenaaGreatBunO
set_option linter.unusedVariables false
set_option linter.unusedSimpArgs false
set_option maxRecDepth 100000
set_option maxHeartbeats 4000000
namespace Go.Proofs.YtipobchbnjgenaaGreat
open Go.RowKit Fld Slp
def rwE (f : Int) (q : Pr) (xs : List Int) : Int := if inF f xs = true then (if (xs.length : Int) = q.inp then 0 else 3) else 2
def evE (f : Int) (q : Pr) (xs : List Int) : Int := if mayB q = true then rwE f q xs else 2
def stL (f : Int) (q : Pr) (xs : List Int) : List Int := if evE f q xs = 0 then rns (Rf f) q xs else []
def ruL (f : Int) (q : Pr) (xs : List Int) : List Int := if evE f q xs = 0 then rnO (Rf f) q xs else []
theorem rwE_zero {f : Int} {q : Pr} {xs : List Int} (h : rwE f q xs = 0) : inF f xs = true ∧ (xs.length : Int) = q.inp := by
 unfold rwE at h
 split at h
 · rename_i h1
   split at h
   · rename_i h2; exact ⟨h1, h2⟩
   · cases h
 · cases h
theorem evE_zero {f : Int} {q : Pr} {xs : List Int} (h : evE f q xs = 0) : mayB q = true ∧ inF f xs = true ∧ (xs.length : Int) = q.inp := by
 unfold evE at h
 split at h
 · rename_i h1; exact ⟨h1, rwE_zero h⟩
 · cases h
theorem evE_nof {f : Int} {q : Pr} (xs : List Int) (h : (mayB q && inF f []) = false) : evE f q xs = 2 := by
 unfold evE rwE
 cases hm : mayB q with
 | false => rfl
 | true =>
  rw [hm] at h
  have h' : inF f [] = false := by simpa using h
  cases hi : inF f xs with
  | false => rfl
  | true => rw [inF_nil hi] at h'; cases h'
theorem evE_yes {f : Int} {q : Pr} (xs : List Int) (h : (mayB q && inF f []) = true) : mayB q = true ∧ evE f q xs = rwE f q xs := by
 rw [Bool.and_eq_true] at h
 refine ⟨h.1, ?_⟩
 unfold evE
 rw [if_pos h.1]
theorem rnO_len {α : Type} (R : Rg α) (q : Pr) (xs : List α) : (rnO R q xs).length = q.outs.length := by unfold rnO; simp
end Go.Proofs.YtipobchbnjgenaaGreat
