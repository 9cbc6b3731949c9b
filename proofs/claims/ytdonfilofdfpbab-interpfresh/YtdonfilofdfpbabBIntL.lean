/-
  Layer 7: the document's Value, Fits, Change.
-/
import Derived.Test.YtdonfilofdfpbabBIntK
namespace Go.Proofs.Ytdonfilofdfpbab
open Go.RowKit Fld
set_option linter.unusedVariables false

theorem thr_val {f p x : Int} {wd : Bool} (h : Fi f p wd) (hx : El p x) (xs ys : List Int) (hl : xs.length ≤ 512) : er f (tp p xs ys xs.length) [x] = 0 ∧ valE f x (tp p xs ys xs.length) = ds p (bs p xs x) (co ys) xs.length := by
  have he : er f (tp p xs ys xs.length) [x] = 0 := er_yes h (allIn_of (tp_tm h.pos xs ys _).1) (allIn_of (fun y hy => by rw [List.mem_singleton.1 hy]; exact hx)) (by have := tp_len h.md xs ys xs.length (Nat.le_refl _); omega) (by simp)
  refine ⟨he, ?_⟩
  unfold valE
  rw [if_pos he, pOf_eq h, vl_tp h.md]

theorem bad_ne {f : Int} {xs ys : List Int} {n : Nat} : bad f xs ys n = 0 ∨ bad f xs ys n = 2 ∨ bad f xs ys n = 3 ∨ bad f xs ys n = 4 ∨ bad f xs ys n = 6 := by
  unfold bad
  split
  · split
    · split
      · exact .inr (.inr (.inr (.inl rfl)))
      · split
        · exact .inl rfl
        · exact .inr (.inr (.inr (.inr rfl)))
    · exact .inr (.inr (.inl rfl))
  · exact .inr (.inl rfl)
theorem bac_zero {f : Int} {xs zs : List Int} (hz : bac f xs zs = 0) : bad f xs zs xs.length = 0 ∧ zs.length ≤ 512 := by
  unfold bac at hz
  by_cases hc : bad f xs zs xs.length ≠ 2 ∧ bad f xs zs xs.length ≠ 3 ∧ 512 < zs.length
  · rw [if_pos hc] at hz; cases hz
  · rw [if_neg hc] at hz
    refine ⟨hz, Nat.le_of_not_lt fun h => hc ⟨?_, ?_, h⟩⟩ <;> rw [hz] <;> decide

end Go.Proofs.Ytdonfilofdfpbab
