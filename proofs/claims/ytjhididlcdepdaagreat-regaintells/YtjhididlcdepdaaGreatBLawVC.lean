import Derived.Test.YtjhididlcdepdaaGreatBunI
import Derived.Test.YtjhididlcdepdaaGreatBEvrB
import Derived.Test.YtjhididlcdepdaaGreatBunYP
set_option linter.unusedVariables false
set_option linter.unusedSimpArgs false
set_option maxRecDepth 100000
set_option maxHeartbeats 4000000
namespace Go.Proofs.YtjhididlcdepdaaGreat
open Go.RowKit Fld Slp
theorem ma_wd {f : Int} {q : Pr} {xss : List (List Int)} (hw : ∀ xs ∈ xss, ∀ x ∈ xs, 0 ≤ x ∧ x ≤ 18446744073709551615) : (maL f q xss).length ≤ 4096 ∧ ∀ i, Wd ((maL f q xss).getD i []) := by
 by_cases he : maE f q xss = 0
 · have e1 : maL f q xss = xss.map (rnO (Rf f) q) := by unfold maL; rw [if_pos he]
   obtain ⟨hm, hl, hall⟩ := maE_zero he
   rw [e1]
   refine ⟨by simpa using hl, fun i => ?_⟩
   rw [List.getD_eq_getElem?_getD, List.getElem?_map]
   cases hx : xss[i]? with
   | none => exact wd_nil
   | some xs =>
    have hmem := List.mem_of_getElem? hx
    have h2 : evE f q xs = 0 := by unfold evE; rw [if_pos hm]; exact hall xs hmem
    have h3 := (ru_wd f q xs (hw xs hmem)).1
    have e2 : ruL f q xs = rnO (Rf f) q xs := by unfold ruL; rw [if_pos h2]
    rw [e2] at h3
    exact ⟨by simp only [Option.map_some, Option.getD_some]; omega, h3.2⟩
 · have e1 : maL f q xss = [] := by unfold maL; rw [if_neg he]
   rw [e1]
   exact ⟨by simp, fun i => by simp; exact wd_nil⟩
theorem Rws.wordsL {w : World} {v : Value} {xss : List (List Int)} (h : Rws w v xss) : ∀ xs ∈ xss, ∀ x ∈ xs, 0 ≤ x ∧ x ≤ 18446744073709551615 := fun xs hx => by
 obtain ⟨ao, cap, rfl, hl, hc, hcell⟩ := h
 obtain ⟨i, hi, rfl⟩ := List.mem_iff_getElem.1 hx
 obtain ⟨b, off, rfl, hbl, hcc⟩ := hcell (by intro e; rw [e] at hi; simp at hi)
 obtain ⟨u, _, hr⟩ := hcc i hi
 rw [List.getD_eq_getElem?_getD, List.getElem?_eq_getElem hi] at hr
 exact hr.words
end Go.Proofs.YtjhididlcdepdaaGreat
