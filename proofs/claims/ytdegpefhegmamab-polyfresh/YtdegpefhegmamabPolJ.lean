/-
  Polynomials: the document's own Add, Sub and Eval.
-/
import Derived.Test.YtdegpefhegmamabPolI
import Derived.Deep.QuietTactic
import Derived.BigQuiet
import Derived.Deep.AppendLies
namespace Go.Proofs.Ytdegpefhegmamab
open Go.RowKit Fld
set_option linter.unusedVariables false

theorem app_step {w wr w1 : World} {v v1 : Value} {k : Nat} {F : Nat → Int} {y : Int} {T : TypeId} (hB : Below w.heap.size w wr) (hown : wr.ownsRow w.heap.size T 1 v k (vals (mk k F)))
    (h1 : w1.ownsRow w.heap.size T 1 v1 (k + 1) (vals (mk k F) ++ [.int .u64 y])) (hg : (wr.alloc (.cells #[.int .u64 y] T)).grownBy w1 v.ownBlock) (hy : F k = y) :
    w1.ownsRow w.heap.size T 1 v1 (k + 1) (vals (mk (k + 1) F)) ∧ Below w.heap.size w w1 := push_step hB hown h1 hg (by rw [← hy]; exact mk_snoc k F)

end Go.Proofs.Ytdegpefhegmamab
