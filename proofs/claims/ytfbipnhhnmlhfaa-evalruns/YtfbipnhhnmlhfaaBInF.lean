/-
  In, the program's and the document's: whether all of a list are elements of the field, if it is one.
-/
import Derived.Test.YtfbipnhhnmlhfaaBunW
namespace Go.Proofs.Ytfbipnhhnmlhfaa
open Go.RowKit Fld
set_option linter.unusedVariables false

/-- Whether all are elements of the field, if it is one. -/
def inF (f : Int) (xs : List Int) : Bool := if f = 1 then allIn 2013265921 xs else if f = 2 then allIn 18446744069414584321 xs else false
theorem inF_yes {f p : Int} {wd : Bool} (h : Fi f p wd) (xs : List Int) : inF f xs = allIn p xs := by
  rcases h with ⟨rfl, rfl, _⟩ | ⟨rfl, rfl, _⟩ <;> rfl
theorem inF_no {f : Int} (h1 : f ≠ 1) (h2 : f ≠ 2) (xs : List Int) : inF f xs = false := by
  unfold inF; rw [if_neg h1, if_neg h2]

theorem In_any (f : Int) (v : Value) (xs : List Int) (w : World) (hr : Row w v xs) :
    Calls Try.prog 52 #[.int .u8 f, v] w fun e w' => e = .returned (.bool (inF f xs)) ∧ Below w.heap.size w w' := by
  rcases Fi_or f with ⟨p, wd, h⟩ | ⟨h1, h2⟩
  · rw [inF_yes h]
    cases hi : allIn p xs with
    | true => exact In_yes f p wd v xs w h hr hi
    | false => exact In_no f v xs w (.inr ⟨p, wd, h, hi⟩) hr
  · rw [inF_no h1 h2]; exact In_no f v xs w (.inl ⟨h1, h2⟩) hr

theorem rIn_any (f : Int) (v : Value) (xs : List Int) (w : World) (hr : Row w v xs) :
    Calls Try.prog 31 #[.int .u8 f, v] w fun e w' => e = .returned (.bool (inF f xs)) ∧ w' = w := by
  rcases Fi_or f with ⟨p, wd, h⟩ | ⟨h1, h2⟩
  · rw [inF_yes h]
    cases hi : allIn p xs with
    | true => exact rIn_yes f p wd v xs w h hr hi
    | false => exact rIn_no f v xs w (.inr ⟨p, wd, h, hi⟩) hr
  · rw [inF_no h1 h2]; exact rIn_no f v xs w (.inl ⟨h1, h2⟩) hr

end Go.Proofs.Ytfbipnhhnmlhfaa
