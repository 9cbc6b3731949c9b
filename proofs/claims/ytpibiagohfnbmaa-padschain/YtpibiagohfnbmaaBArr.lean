import Derived.Test.YtpibiagohfnbmaaRows
import Derived.ProofKit
import Derived.OpenShut
import Derived.Laws.IdiomArrays
set_option linter.unusedVariables false
set_option linter.unusedSimpArgs false
set_option maxRecDepth 100000
set_option maxHeartbeats 4000000
namespace Go.Proofs.Ytpibiagohfnbmaa
open Go.ChangeShapes Go.WideShapes Go.ChangeAt Go.RowKit
theorem list_three {α : Type} (l : List α) (h : l.length = 3) : ∃ a b c, l = [a, b, c] := by
 match l, h with
 | [a, b, c], _ => exact ⟨a, b, c, rfl⟩
theorem list_two {α : Type} (l : List α) (h : l.length = 2) : ∃ a b, l = [a, b] := by
 match l, h with
 | [a, b], _ => exact ⟨a, b, rfl⟩
variable {H : Type} {enc : TypeId × Value -> H} {P : Program} {W : World} {base b0 : Nat} {spare : Nat -> Bool} {held : Bool} {r : Reach}
theorem open_arr3 {t e : TypeId} {k : IntKind} {v : Value} {d : DataW H} {p : List MemPlace} (ht : P.underlying t = some (.array 3 e)) (he : P.underlying e = some (.int k)) (hce : P.cellsOf e = 1) (hct : P.cellsOf t = 3)
 (hv : Value.okWide P W r b0 t v) (h : DataW.Trod enc P W base spare held t v d p) :
 ∃ a b c, v = .agg #[.int k a, .int k b, .int k c] ∧ (Lit.int k a).wf = true ∧ (Lit.int k b).wf = true ∧ (Lit.int k c).wf = true := by
 obtain ⟨cs, rfl, hsz, _⟩ : ∃ cs, v = .agg cs ∧ cs.size = P.cellsOf t ∧ Row.okWide P W r b0 t cs := by
  simpa [Value.okWide, ht] using hv
 rw [hct] at hsz
 obtain ⟨l⟩ := cs
 obtain ⟨c0, c1, c2, rfl⟩ := list_three l hsz
 obtain ⟨fuel, hf⟩ := h
 obtain ⟨y0, y1, y2, m, hx, hy0, hy1, hy2⟩ := trod_array3 ht hce hf
 obtain ⟨x0, e0, rfl, w0⟩ := DataW.trod_int he hy0
 obtain ⟨x1, e1, rfl, w1⟩ := DataW.trod_int he hy1
 obtain ⟨x2, e2, rfl, w2⟩ := DataW.trod_int he hy2
 simp at e0 e1 e2
 subst e0 e1 e2
 exact ⟨x0, x1, x2, rfl, w0, w1, w2⟩
theorem open_arr2 {t e : TypeId} {k : IntKind} {v : Value} {d : DataW H} {p : List MemPlace} (ht : P.underlying t = some (.array 2 e)) (he : P.underlying e = some (.int k)) (hce : P.cellsOf e = 1) (hct : P.cellsOf t = 2)
 (hv : Value.okWide P W r b0 t v) (h : DataW.Trod enc P W base spare held t v d p) :
 ∃ a b, v = .agg #[.int k a, .int k b] ∧ (Lit.int k a).wf = true ∧ (Lit.int k b).wf = true := by
 obtain ⟨cs, rfl, hsz, _⟩ : ∃ cs, v = .agg cs ∧ cs.size = P.cellsOf t ∧ Row.okWide P W r b0 t cs := by
  simpa [Value.okWide, ht] using hv
 rw [hct] at hsz
 obtain ⟨l⟩ := cs
 obtain ⟨c0, c1, rfl⟩ := list_two l hsz
 obtain ⟨fuel, hf⟩ := h
 obtain ⟨xs, m, _, _, _, hl, hel⟩ := DataW.trod_array ht hf
 have g0 := hel 0 (by omega)
 have g1 := hel 1 (by omega)
 obtain ⟨y0, y1, rfl⟩ := list_two xs hl
 simp [hce, Value.cells] at g0 g1
 obtain ⟨x0, e0, rfl, w0⟩ := DataW.trod_int he g0
 obtain ⟨x1, e1, rfl, w1⟩ := DataW.trod_int he g1
 simp at e0 e1
 subst e0 e1
 exact ⟨x0, x1, rfl, w0, w1⟩
end Go.Proofs.Ytpibiagohfnbmaa
