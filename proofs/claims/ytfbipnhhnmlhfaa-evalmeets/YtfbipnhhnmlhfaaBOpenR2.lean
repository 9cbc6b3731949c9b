/-
  An array of two lists of lists by value, opened.
-/
import Derived.Test.YtfbipnhhnmlhfaaBunO
namespace Go.Proofs.Ytfbipnhhnmlhfaa
open Go.ChangeShapes Go.WideShapes Go.ChangeAt Go.RowKit

theorem pairR {α : Type} (l : List α) (h : l.length = 2) : ∃ a b, l = [a, b] := by
  match l, h with
  | [a, b], _ => exact ⟨a, b, rfl⟩
set_option maxRecDepth 100000 in
theorem open_rws2 {H : Type} {enc : TypeId × Value → H} {W : World} {v : Value} {d : DataW H} {p : List MemPlace} {r : Reach} {b0 : Nat} {t : TypeId} (ht : Try.prog.underlying t = some (.array 2 36)) (hct : Try.prog.cellsOf t = 2)
    (hv : Value.okWide Try.prog W r b0 t v) (h : DataW.Trod enc Try.prog W 0 (fun _ => true) true t v d p)
    (hsz : ∀ n ∈ d.weights Try.prog t, n ≤ 140737488351232) : ∃ c0 c1 xss yss, v = .agg #[c0, c1] ∧ (Rws W c0 xss ∧ xss.length ≤ 5864062014634) ∧ (Rws W c1 yss ∧ yss.length ≤ 5864062014634) := by
  have hce : Try.prog.cellsOf 36 = 1 := by kernel_rfl
  obtain ⟨cs, rfl, hs, _⟩ : ∃ cs, v = .agg cs ∧ cs.size = Try.prog.cellsOf t ∧ Row.okWide Try.prog W r b0 t cs := by
    simpa [Value.okWide, ht] using hv
  rw [hct] at hs
  obtain ⟨l⟩ := cs
  obtain ⟨c0, c1, rfl⟩ := pairR l hs
  obtain ⟨fuel, hf⟩ := h
  obtain ⟨xs, m, _, hx, _, hl, hel⟩ := DataW.trod_array ht hf
  have g0 := hel 0 (by omega)
  have g1 := hel 1 (by omega)
  obtain ⟨y0, y1, rfl⟩ := pairR xs hl
  simp [hce, Value.cells] at g0 g1
  have hd : d = .agg [y0.1, y1.1] := congrArg Prod.fst hx
  subst hd
  have hw : ∀ n, n ∈ y0.1.weights Try.prog 36 ∨ n ∈ y1.1.weights Try.prog 36 → n ≤ 140737488351232 := fun n hn => hsz n (by
    simp only [DataW.weights, ht, DataW.weightsAll, List.mem_append]
    rcases hn with hn | hn
    · exact .inl hn
    · exact .inr (.inl hn))
  have key : ∀ {c : Value} {y : DataW H × List MemPlace}, DataW.trod enc Try.prog W 0 (fun _ => true) true m 36 [c] = some y → (∀ n ∈ y.1.weights Try.prog 36, n ≤ 140737488351232) → ∃ xss, Rws W c xss ∧ xss.length ≤ 5864062014634 := fun {c y} hg hn => by
    obtain ⟨a, len, cap, rfl⟩ : ∃ a len cap, c = .slice a len cap := by
      have := hg
      cases m with
      | zero => simp [DataW.trod] at this
      | succ m =>
        unfold DataW.trod at this
        rw [Try.underlying36] at this
        cases c <;> simp at this
        exact ⟨_, _, _, rfl⟩
    exact open_rws (d := y.1) (p := y.2) ⟨m, by simpa [Value.cells] using hg⟩ hn
  obtain ⟨zs, r0⟩ := key g0 (fun n hn => hw n (.inl hn))
  obtain ⟨us, r1⟩ := key g1 (fun n hn => hw n (.inr hn))
  exact ⟨c0, c1, zs, us, rfl, r0, r1⟩

end Go.Proofs.Ytfbipnhhnmlhfaa
