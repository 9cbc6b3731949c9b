/-
  Layer 6: which lists may be, the program's check and the document's; the factors of elements.
-/
import Derived.Test.YtfbipnhhnmlhfabBTreB
import Derived.Test.YtfbipnhhnmlhfabBunJ
namespace Go.Proofs.Ytfbipnhhnmlhfab
open Go.RowKit Fld
set_option linter.unusedVariables false

/-- Which error lists have. -/
def chk (f : Int) (xss : List (List Int)) : Int := if xss.all (inF f) then (if xss.any (fun xs => decide (2048 < xs.length)) then 4 else 0) else 2
theorem getD_mem {xss : List (List Int)} {i : Nat} (h : i < xss.length) : xss.getD i [] ∈ xss := by
  rw [List.getD_eq_getElem?_getD, List.getElem?_eq_getElem h]; exact List.getElem_mem h
theorem mem_getD {xss : List (List Int)} {xs : List Int} (h : xs ∈ xss) : ∃ i, i < xss.length ∧ xss.getD i [] = xs := by
  obtain ⟨i, hi, rfl⟩ := List.mem_iff_getElem.1 h
  exact ⟨i, hi, by rw [List.getD_eq_getElem?_getD, List.getElem?_eq_getElem hi]; rfl⟩
theorem chk_arg {f : Int} {xss : List (List Int)} {k : Nat} (hk : k < xss.length) (h : inF f (xss.getD k []) = false) : chk f xss = 2 := by
  unfold chk
  rw [if_neg]
  intro hc
  rw [List.all_eq_true] at hc
  rw [hc _ (getD_mem hk)] at h; cases h
theorem chk_all {f : Int} {xss : List (List Int)} (h : ∀ i, i < xss.length → inF f (xss.getD i []) = true) : xss.all (inF f) = true := by
  rw [List.all_eq_true]
  intro x hx
  obtain ⟨i, hi, rfl⟩ := mem_getD hx
  exact h i hi
theorem chk_long {f : Int} {xss : List (List Int)} {k : Nat} (h : ∀ i, i < xss.length → inF f (xss.getD i []) = true) (hk : k < xss.length) (hl : 2048 < (xss.getD k []).length) : chk f xss = 4 := by
  unfold chk
  rw [if_pos (chk_all h), if_pos]
  rw [List.any_eq_true]
  exact ⟨_, getD_mem hk, by simpa using hl⟩
theorem chk_ok {f : Int} {xss : List (List Int)} (h : ∀ i, i < xss.length → inF f (xss.getD i []) = true) (hl : ∀ i, i < xss.length → (xss.getD i []).length ≤ 2048) : chk f xss = 0 := by
  unfold chk
  rw [if_pos (chk_all h), if_neg]
  intro hc
  rw [List.any_eq_true] at hc
  obtain ⟨x, hx, h2⟩ := hc
  obtain ⟨i, hi, rfl⟩ := mem_getD hx
  have := hl i hi
  have h2 := of_decide_eq_true h2
  omega
theorem chk_zero {f : Int} {xss : List (List Int)} (h : chk f xss = 0) {xs : List Int} (hx : xs ∈ xss) : inF f xs = true ∧ xs.length ≤ 2048 := by
  unfold chk at h
  by_cases h1 : xss.all (inF f) = true
  · rw [if_pos h1] at h
    by_cases h2 : xss.any (fun xs => decide (2048 < xs.length)) = true
    · rw [if_pos h2] at h; exact absurd h (by decide)
    · rw [List.any_eq_true] at h2
      refine ⟨(List.all_eq_true.1 h1) xs hx, ?_⟩
      apply Nat.le_of_not_lt
      intro hc
      exact h2 ⟨xs, hx, by simpa using hc⟩
  · rw [if_neg h1] at h; exact absurd h (by decide)
theorem inF_fi {f : Int} {xs : List Int} (h : inF f xs = true) : ∃ p wd, Fi f p wd ∧ allIn p xs = true := by
  rcases Fi_or f with ⟨p, wd, hf⟩ | ⟨h1, h2⟩
  · rw [inF_yes hf] at h; exact ⟨p, wd, hf, h⟩
  · rw [inF_no h1 h2] at h; cases h
theorem inF_nil {f : Int} {xs : List Int} (h : inF f xs = true) : inF f [] = true := by
  obtain ⟨p, wd, hf, _⟩ := inF_fi h
  rw [inF_yes hf]; rfl
theorem er_no {f : Int} {xs : List Int} (h : inF f xs = false) (ys : List Int) : er f xs ys = 2 := by unfold er erb; rw [h]; rfl
theorem er_yes2 {f : Int} {xs ys : List Int} (h : inF f xs = true) (h2 : inF f ys = true) : (er f xs ys == 2) = false := by
  unfold er erb; rw [h, h2, if_pos (by rfl)]
  split <;> rfl

end Go.Proofs.Ytfbipnhhnmlhfab
