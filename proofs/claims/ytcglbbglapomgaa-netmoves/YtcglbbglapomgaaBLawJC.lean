import Derived.Test.YtcglbbglapomgaaBLawJA
set_option linter.unusedVariables false
set_option linter.unusedSimpArgs false
set_option maxRecDepth 100000
set_option maxHeartbeats 4000000
namespace Go.Proofs.Ytcglbbglapomgaa
open Go.RowKit Fld
def stp (N : Nt) (s : Sq) : Nt := if s.c = 0 then sdN N s.a s.b s.bs else if s.c = 1 then dvN N s.a else if s.c = 2 then dpN N s.a else if s.c = 3 then dbN N s.a else if s.c = 4 then mvN N s.a s.b else N
theorem box_mv {W W2 : World} {b g base : Nat} {v v2 : Value} {N : Nt} {cs : Array Value} (hb : W.heap[b]? = some (.cells cs 36 (0, 0))) (h : Np W base g v N) (m : Mv W W2 g v v2) : W2.heap[b]? = some (.cells cs 36 (0, 0)) := by
 refine (m.block (Array.getElem?_eq_some_iff.1 hb).1 (fun e => ?_) (own_notO h.m.row hb (by decide))).trans hb
 subst e
 have := h.m.net.symm.trans hb
 simp at this
theorem box_cells {W : World} {b : Nat} {x0 x1 x2 x3 : Value} (h : W.heap[b]? = some (.cells #[x0, x1, x2, x3] 36 (0, 0))) : W.cell? ⟨b, 0, none⟩ = some x0 ∧ W.cell? ⟨b, 1, none⟩ = some x1 ∧ W.cell? ⟨b, 2, none⟩ = some x2 ∧ W.cell? ⟨b, 3, none⟩ = some x3 := by
 refine ⟨?_, ?_, ?_, ?_⟩ <;> simp [World.cell?, h]
end Go.Proofs.Ytcglbbglapomgaa
