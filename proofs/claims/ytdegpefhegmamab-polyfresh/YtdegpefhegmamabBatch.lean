/-
  The field's Batch, and the document's own.
-/
import Derived.Test.YtdegpefhegmamabInvs
import Derived.Test.YtdegpefhegmamabRefC
namespace Go.Proofs.Ytdegpefhegmamab
open Go.RowKit Fld
set_option linter.unusedVariables false

theorem allIn_el {p : Int} {xs : List Int} (h : allIn p xs = true) (hw : ∀ x ∈ xs, 0 ≤ x ∧ x ≤ 18446744073709551615) (i : Nat) (hi : i < xs.length) : El p (xs.getD i 0) := by
  unfold allIn at h
  rw [List.all_eq_true] at h
  rw [getD_at hi]
  exact ⟨(hw _ (List.getElem_mem hi)).1, by simpa using h _ (List.getElem_mem hi)⟩

theorem own_from {w : World} {base base' e size n : Nat} {v : Value} {xs : List Value} (h : w.ownsRow base e size v n xs) (hb : base' ≤ base) : w.ownsRow base' e size v n xs := by
  refine ⟨h.1, ?_⟩
  rcases h.2 with h1 | ⟨g, cap, cur, h1, h2, h3⟩
  · exact .inl h1
  · exact .inr ⟨g, cap, cur, h1, Nat.le_trans hb h2, h3⟩

theorem ne_snoc {x : Int} {xs : List Int} {k : Nat} (h : ∀ i, i < k → xs.getD i 0 ≠ 0) (hx : xs.getD k 0 = x) (hne : x ≠ 0) : ∀ i, i < k + 1 → xs.getD i 0 ≠ 0 := by
  intro i hi
  by_cases he : i = k
  · rw [he, hx]; exact hne
  · exact h i (by omega)

end Go.Proofs.Ytdegpefhegmamab
