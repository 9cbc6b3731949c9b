/-
  The document's own Batch, and its Same.
-/
import Derived.Test.YtdegpefhegmamabBatch
import Derived.Deep.QuietTactic
import Derived.BigQuiet
namespace Go.Proofs.Ytdegpefhegmamab
open Go.RowKit Fld
set_option linter.unusedVariables false

theorem one_mul_inv {p a : Int} (hp : 0 < p) : mul p 1 (inv p a) = inv p a := by
  have h := inv_el (p := p) (a := a) hp
  unfold mul; rw [Int.one_mul]; exact Int.emod_eq_of_lt h.1 h.2

theorem take_inv_snoc (xs : List Int) (g : Int → Int) (k : Nat) (h : k < xs.length) : (xs.take k).map g ++ [g (xs.getD k 0)] = (xs.take (k + 1)).map g := by
  rw [List.take_succ_eq_append_getElem h, List.map_append, getD_at h]; rfl

theorem push_step {w wr w1 : World} {v v1 : Value} {k : Nat} {ys zs : List Int} {y : Int} {T : TypeId} (hB : Below w.heap.size w wr) (hown : wr.ownsRow w.heap.size T 1 v k (vals ys))
    (h1 : w1.ownsRow w.heap.size T 1 v1 (k + 1) (vals ys ++ [.int .u64 y])) (hg : (wr.alloc (.cells #[.int .u64 y] T)).grownBy w1 v.ownBlock) (hs : ys ++ [y] = zs) :
    w1.ownsRow w.heap.size T 1 v1 (k + 1) (vals zs) ∧ Below w.heap.size w w1 := by
  refine ⟨?_, ?_⟩
  · rw [← hs, ← vals_snoc]; exact h1
  · exact (hB.alloc hB.size _).grown hg (by have := hB.size; simp; omega) (own_base hown)

end Go.Proofs.Ytdegpefhegmamab
