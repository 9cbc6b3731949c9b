/-
  The two products that the document fixes, and that there are no more fields.
-/
import Derived.Test.YtdegpefhegmamabWalkG
namespace Go.Proofs.Ytdegpefhegmamab
open Go.RowKit Fld
set_option linter.unusedVariables false

/-- A call that answers v, and writes nothing old. -/
def Ans (k : FuncId) (args : Array Value) (v : Value) : Prop := ∀ W, Calls Try.prog k args W fun e w' => e = .returned v ∧ Below W.heap.size W w'

theorem Ans.of_same {k : FuncId} {args : Array Value} {v : Value} (h : ∀ W, Calls Try.prog k args W fun e w' => e = .returned v ∧ w' = W) : Ans k args v := fun W =>
  (h W).mono fun e w' ⟨he, hw⟩ => ⟨he, by rw [hw]; exact Below.refl _ _⟩

theorem Below.next {w W w1 : World} (h : Below w.heap.size w W) (hb : Below W.heap.size W w1) : Below w.heap.size w w1 := h.trans (hb.mono h.size)

theorem anch_mul : mul 18446744069414584321 4294967296 4294967296 = 4294967295 := by unfold mul; decide
theorem anch_pow : pow 2013265921 2 31 = 134217727 := by unfold pow; decide

theorem Fi_or (f : Int) : (∃ p wd, Fi f p wd) ∨ (f ≠ 1 ∧ f ≠ 2) := by
  by_cases h1 : f = 1
  · exact .inl ⟨_, _, .inl ⟨h1, rfl, rfl⟩⟩
  by_cases h2 : f = 2
  · exact .inl ⟨_, _, .inr ⟨h2, rfl, rfl⟩⟩
  exact .inr ⟨h1, h2⟩

theorem Bad.of_fst {f p a : Int} {wd : Bool} (h : Fi f p wd) (ha : ¬ a < p) (l : List Int) : Bad f (a :: l) := .inr ⟨p, wd, h, by simp [allIn, ha]⟩
theorem Bad.of_snd {f p a b : Int} {wd : Bool} (h : Fi f p wd) (hb : ¬ b < p) : Bad f [a, b] := .inr ⟨p, wd, h, by simp [allIn, hb]⟩

end Go.Proofs.Ytdegpefhegmamab
