import Derived.Test.YtpibiagohfnbmaaBunP
set_option linter.unusedVariables false
set_option linter.unusedSimpArgs false
set_option maxRecDepth 100000
set_option maxHeartbeats 4000000
namespace Go.Proofs.Ytpibiagohfnbmaa.Rnk
end Go.Proofs.Ytpibiagohfnbmaa.Rnk
namespace Go.Proofs.Ytpibiagohfnbmaa.Rnk
open Go.Proofs.Ytpibiagohfnbmaa.Fld
theorem getD_set {α : Type} (l : List α) (d v : α) {a : Nat} (ha : a < l.length) (k : Nat) : (l.set a v).getD k d = if k = a then v else l.getD k d := by
 rw [List.getD_eq_getElem?_getD, List.getD_eq_getElem?_getD, List.getElem?_set]
 by_cases e : k = a
 · subst e; rw [if_pos rfl, if_pos rfl, if_pos ha]; rfl
 · rw [if_neg (fun h => e h.symm), if_neg e]
end Go.Proofs.Ytpibiagohfnbmaa.Rnk
