/-
  What the rows' list of variables gives: the library's table stands in its variable; a world for the witness.
-/
import Derived.Test.YtcjgjgkoeokooaaDoorRows
import Derived.Test.YtcjgjgkoeokooaaDoorBFasD
import Derived.Lib.LaidTab
import Derived.MakeChecks
import Derived.ProofKit
namespace Go.Proofs.YtcjgjgkoeokooaaDoor
open Go.RowKit
set_option linter.unusedVariables false

theorem gTab : Tryd.prog.globalNamed "math/bits.deBruijn64tab" = some 1 := by kernel_rfl
theorem gTabType : (Tryd.prog.globals[1]?).map (·.type) = some 103 := by kernel_rfl
theorem cellsTab : Tryd.prog.cellsOf 103 = 64 := by kernel_rfl
theorem cellsU8 : Tryd.prog.cellsOf 5 = 1 := by kernel_rfl
theorem tabEq {H : Type} : (Rows.laid_math_bits_deBruijn64tab : DataW H) = Lib.tabData .u8 (Lib.deBruijn64tab.map fun (n : Nat) => (n : Int)) := rfl
theorem cell_lt {W : World} {b o : Nat} {v : Value} (h : W.cell? ⟨b, o, none⟩ = some v) : b < W.heap.size := by
  apply Nat.lt_of_not_le
  intro hc
  simp [World.cell?, Array.getElem?_eq_none hc] at h

/-- The table's cells hold its numbers. -/
theorem tb_of {W : World} (h : laidMetH Tryd.prog [("math/bits.deBruijn32tab", Rows.laid_math_bits_deBruijn32tab), ("math/bits.deBruijn64tab", Rows.laid_math_bits_deBruijn64tab)] W) : Tb W := by
  rw [MakeChecks.laidMetH_plain _ _ _ (by kernel_rfl)] at h
  obtain ⟨ps, ⟨g0, t0, cs0, f0, p0, q0, hg0, ht0, hv0, hd0, ⟨g1, t1, cs1, f1, p1, q1, hg1, ht1, hv1, hd1, _, _⟩, _⟩, _, _⟩ := h
  obtain rfl := Option.some.inj (gTab.symm.trans hg1)
  obtain rfl := Option.some.inj (gTabType.symm.trans ht1)
  rw [tabEq] at hd1
  have hcs := Lib.cells_of_tab Tryd.underlying103 Tryd.underlying5 cellsU8 cellsTab hd1
  have hT : Lib.TabIs Tryd.prog W "math/bits.deBruijn64tab" .u8 (Lib.deBruijn64tab.map fun (n : Nat) => (n : Int)) := by
    unfold Lib.TabIs
    rw [hv1, ← hcs]
  have hc : TabAt 1 Lib.deBruijn64tab W := fun j hj => by
    have := hT.cell gTab j (by simpa using hj)
    rw [this]
    congr 2
    simp [List.getD_eq_getElem?_getD, hj]
  exact ⟨hc, cell_lt (hc 0 (by decide))⟩

/-- A world for the witness: both tables hold what their initialisers lay. -/
def layTab (l : List Nat) : Obj → Obj
  | .cells _ t frozen => .cells (l.map fun (n : Nat) => Value.int .u8 (n : Int)).toArray t frozen
  | o => o
noncomputable def laidWorld (os : Os) : World :=
  { World.holding Tryd.prog os ⟨#[], #[], []⟩ with heap := ((World.holding Tryd.prog os ⟨#[], #[], []⟩).heap.modify 0 (layTab Lib.deBruijn32tab)).modify 1 (layTab Lib.deBruijn64tab) }

end Go.Proofs.YtcjgjgkoeokooaaDoor
