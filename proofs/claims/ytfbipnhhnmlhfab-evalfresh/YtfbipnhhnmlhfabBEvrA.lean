/-
  Layer 11: Steps and Run: the document's.
-/
import Derived.Test.YtfbipnhhnmlhfabBEvlC
import Derived.Test.YtfbipnhhnmlhfabBEvpB
import Derived.Test.YtfbipnhhnmlhfabBSlwB
import Derived.Test.YtfbipnhhnmlhfabBunQ
import Derived.Test.YtfbipnhhnmlhfabBunW
import Derived.Test.YtfbipnhhnmlhfabBunG
namespace Go.Proofs.Ytfbipnhhnmlhfab
open Go.RowKit Fld Slp
set_option linter.unusedVariables false
set_option linter.unusedSimpArgs false

/-- A program's own block stays, whatever is put to a list of words. -/
theorem prog_kept {w0 w1 : World} {B g n : Nat} {v : Value} {xs : List Value} {o : Obj} {cs : Array Value} (h : w0.ownsRow B 36 1 v n xs) (hg : (w0.alloc o).grownBy w1 v.ownBlock) (hp : w0.heap[g]? = some (.cells cs 25 (0, 0))) : w1.heap[g]? = some (.cells cs 25 (0, 0)) := by
  have hlt := (Array.getElem?_eq_some_iff.1 hp).1
  have hne := own_not h hp (by decide)
  rw [hg.block g (by simp; omega) hne.symm, (alloc_below w0 o).block g hlt]; exact hp

end Go.Proofs.Ytfbipnhhnmlhfab
