/-
  The field's Dot, the document's own, and its Same.
-/
import Derived.Test.YtpbfgcepmbpkdaaGreatBunW
namespace Go.Proofs.YtpbfgcepmbpkdaaGreat
open Go.RowKit Fld
set_option linter.unusedVariables false

/-- The sum of the first k products. -/
def dt (p : Int) (xs ys : List Int) : Nat → Int
  | 0 => 0
  | k + 1 => add p (dt p xs ys k) (mul p (xs.getD k 0) (ys.getD k 0))

theorem dt_el {p : Int} (hp : 0 < p) (xs ys : List Int) (k : Nat) : El p (dt p xs ys k) := by
  cases k with
  | zero => exact ⟨Int.le_refl 0, hp⟩
  | succ k => exact add_el hp

theorem keep4 {W w1 : World} {a1 a2 a3 a4 : Addr} {v1 v2 v3 v4 : Value} (hb : Below W.heap.size W w1) (h : W.cell? a1 = some v1 ∧ W.cell? a2 = some v2 ∧ W.cell? a3 = some v3 ∧ W.cell? a4 = some v4) :
    w1.cell? a1 = some v1 ∧ w1.cell? a2 = some v2 ∧ w1.cell? a3 = some v3 ∧ w1.cell? a4 = some v4 :=
  ⟨(hb.cell (World.block_lt_of_cell? _ _ h.1)).trans h.1, (hb.cell (World.block_lt_of_cell? _ _ h.2.1)).trans h.2.1, (hb.cell (World.block_lt_of_cell? _ _ h.2.2.1)).trans h.2.2.1, (hb.cell (World.block_lt_of_cell? _ _ h.2.2.2)).trans h.2.2.2⟩

end Go.Proofs.YtpbfgcepmbpkdaaGreat
