/-
  Layer 11: Many: the document's.
-/
import Derived.Test.YtfbipnhhnmlhfabBEvpF
import Derived.Test.YtfbipnhhnmlhfabBEvrA
namespace Go.Proofs.Ytfbipnhhnmlhfab
open Go.RowKit Fld Slp
set_option linter.unusedVariables false
set_option linter.unusedSimpArgs false

theorem ahd_in {d e : Int} (hd : d = 0 ∨ d = 2 ∨ d = 3) (he : e = 2) : ahd d e = 2 := by unfold ahd; split <;> omega
theorem ahd_no {d e : Int} (hd : d = 2 ∨ d = 3) (he : e = 0 ∨ e = 3) : ahd d e = d := by unfold ahd; split <;> omega
theorem ahd_z (e : Int) : ahd 0 e = e := by unfold ahd; simp
theorem erK_one (f : Int) (q : Pr) (e0 : Int) (he : e0 = 0 ∨ e0 = 2) (xss : List (List Int)) (k : Nat) : erK f q e0 xss k = 0 ∨ erK f q e0 xss k = 2 ∨ erK f q e0 xss k = 3 := by
  unfold erK
  rw [ahd_fold _ _ (fun e he => by obtain ⟨xs, _, rfl⟩ := List.mem_map.1 he; exact rwE_one f q xs) (by omega)]
  split
  · simp
  · split
    · simp
    · omega
theorem kept2 {W w1 : World} {a1 a2 : Addr} {v1 v2 : Value} (hb : Below W.heap.size W w1) (h : W.cell? a1 = some v1 ∧ W.cell? a2 = some v2) : w1.cell? a1 = some v1 ∧ w1.cell? a2 = some v2 :=
  ⟨(hb.cell (World.block_lt_of_cell? _ _ h.1)).trans h.1, (hb.cell (World.block_lt_of_cell? _ _ h.2)).trans h.2⟩

end Go.Proofs.Ytfbipnhhnmlhfab
