import Derived.Test.YtnakbpaiidolbaaGreatBLawVC
import Derived.Test.YtnakbpaiidolbaaGreatBEvrC
namespace Go.Proofs.YtnakbpaiidolbaaGreat
open Go.RowKit Fld Slp
set_option linter.unusedVariables false
set_option linter.unusedSimpArgs false
theorem coE_zero {f : Int} {q : Pr} {xss : List (List Int)} (h : coE f q xss = 0) : mayB q = true ∧ inF f [] = true ∧ cpE f q xss = 0 := by
 unfold coE at h
 split at h
 · rename_i hg
   rw [Bool.and_eq_true] at hg
   exact ⟨hg.1, hg.2, h⟩
 · cases h
theorem co_lim {f : Int} {q : Pr} {xss : List (List Int)} (hw : ∀ xs ∈ xss, ∀ x ∈ xs, 0 ≤ x ∧ x ≤ 18446744073709551615) (h : coE f q xss = 0) : ∃ p wd, Fi f p wd ∧ ∀ xs ∈ xss, Lim p xs := by
 obtain ⟨hm, hn, hc⟩ := coE_zero h
 obtain ⟨hin, _, hlm, _, _⟩ := cpE_zero hm hc
 obtain ⟨p, wd, hf, _⟩ := inF_fi hn
 refine ⟨p, wd, hf, fun xs hx => ?_⟩
 have h1 := List.all_eq_true.1 hin xs hx
 rw [inF_yes hf] at h1
 exact ⟨els_of h1 (hw xs hx), hlm xs hx⟩
theorem co_wd {f : Int} {q : Pr} {xss : List (List Int)} (hw : ∀ xs ∈ xss, ∀ x ∈ xs, 0 ≤ x ∧ x ≤ 18446744073709551615) : (coL f q xss).length ≤ 64 ∧ ∀ i, Wd ((coL f q xss).getD i []) := by
 by_cases he : coE f q xss = 0
 · have e1 : coL f q xss = rnO (Rt f) (trP q) (xss.map tr) := by unfold coL; rw [if_pos he]
   obtain ⟨p, wd, hf, hx⟩ := co_lim hw he
   have hxt : ∀ xs ∈ xss.map tr, Lim p xs := fun xs hxs => by
    obtain ⟨ys, hy, rfl⟩ := List.mem_map.1 hxs
    exact lim_tr hf.pos (hx ys hy)
   have hall := lim_allT hf (trP q).ops (xss.map tr) hxt
   obtain ⟨⟨t0, t1, t2, t3⟩, _, _⟩ := mayB_iff.1 (tr_may (coE_zero he).1)
   rw [e1]
   refine ⟨by rw [rnO_len]; exact t3, fun i => lim_wd hf.top (wd_getD (P := Lim p) (fun xs hxs => ?_) ⟨els_nil p, by simp⟩ i)⟩
   obtain ⟨v, _, rfl⟩ := List.mem_map.1 hxs
   exact wd_getD (P := Lim p) hall ⟨els_nil p, by simp⟩ v.toNat
 · have e1 : coL f q xss = [] := by unfold coL; rw [if_neg he]
   rw [e1]
   exact ⟨by simp, fun i => by simp; exact wd_nil⟩
end Go.Proofs.YtnakbpaiidolbaaGreat
