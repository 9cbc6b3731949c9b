import Derived.Test.YtjhididlcdepdaaGreatBEvlB
import Derived.Test.YtjhididlcdepdaaGreatBunYP
set_option linter.unusedVariables false
set_option linter.unusedSimpArgs false
set_option maxRecDepth 100000
set_option maxHeartbeats 4000000
namespace Go.Proofs.YtjhididlcdepdaaGreat
open Go.RowKit Fld Slp
def rwE (f : Int) (q : Pr) (xs : List Int) : Int := if inF f xs = true then (if (xs.length : Int) = q.inp then 0 else 3) else 2
def evE (f : Int) (q : Pr) (xs : List Int) : Int := if mayB q = true then rwE f q xs else 2
def stL (f : Int) (q : Pr) (xs : List Int) : List Int := if evE f q xs = 0 then rns (Rf f) q xs else []
def ruL (f : Int) (q : Pr) (xs : List Int) : List Int := if evE f q xs = 0 then rnO (Rf f) q xs else []
theorem rwE_zero {f : Int} {q : Pr} {xs : List Int} (h : rwE f q xs = 0) : inF f xs = true ∧ (xs.length : Int) = q.inp := by
 unfold rwE at h
 split at h
 · rename_i h1
   split at h
   · rename_i h2; exact ⟨h1, h2⟩
   · cases h
 · cases h
theorem evE_zero {f : Int} {q : Pr} {xs : List Int} (h : evE f q xs = 0) : mayB q = true ∧ inF f xs = true ∧ (xs.length : Int) = q.inp := by
 unfold evE at h
 split at h
 · rename_i h1; exact ⟨h1, rwE_zero h⟩
 · cases h
theorem rwE_one (f : Int) (q : Pr) (xs : List Int) : rwE f q xs = 0 ∨ rwE f q xs = 2 ∨ rwE f q xs = 3 := by
 unfold rwE
 split
 · split
   · exact .inl rfl
   · exact .inr (.inr rfl)
 · exact .inr (.inl rfl)
theorem rnO_len {α : Type} (R : Rg α) (q : Pr) (xs : List α) : (rnO R q xs).length = q.outs.length := by unfold rnO; simp
end Go.Proofs.YtjhididlcdepdaaGreat
