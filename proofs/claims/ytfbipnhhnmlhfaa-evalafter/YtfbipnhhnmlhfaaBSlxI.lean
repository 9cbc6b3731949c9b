/-
  Layer 9, plain: what the document's After has made when so many steps are done.
-/
import Derived.Test.YtfbipnhhnmlhfaaBunL
namespace Go.Proofs.Ytfbipnhhnmlhfaa
open Go.RowKit Fld Slp
set_option linter.unusedVariables false

def osJ (p q : Pr) (i : Nat) : List O4 := q.ops ++ (p.ops.take i).map (shO (aftAt q p.ops.length))
theorem osJ_zero (p q : Pr) : osJ p q 0 = q.ops := by unfold osJ; simp
theorem osJ_end (p q : Pr) : osJ p q p.ops.length = (aftF p q).ops := by unfold osJ aftF; simp
theorem osJ_len (p q : Pr) {i : Nat} (h : i ≤ p.ops.length) : (osJ p q i).length = q.ops.length + i := by unfold osJ; simp; omega
theorem osJ_next (p q : Pr) {i : Nat} (h : i < p.ops.length) (hm : opM p.ops[i] ((q.outs.length : Int) + i) = true) : osJ p q (i + 1) = osJ p q i ++ [shO (aftAt q i) p.ops[i]] := by
  unfold osJ
  rw [List.take_succ_eq_append_getElem h, List.map_append, ← List.append_assoc, List.map_singleton, shO_at q (Nat.le_of_lt h) hm]
theorem aftAt_zero (q : Pr) : aftAt q 0 = q.outs := by unfold aftAt; simp
theorem aftAt_el (q : Pr) {i k : Nat} (h : k < q.outs.length + i) : ∃ hk : k < (aftAt q i).length, (aftAt q i)[k] = (aftAt q i).getD k 0 := by
  have hk : k < (aftAt q i).length := by rw [aftAt_len]; exact h
  exact ⟨hk, by rw [List.getD_eq_getElem?_getD, List.getElem?_eq_getElem hk]; rfl⟩

end Go.Proofs.Ytfbipnhhnmlhfaa
