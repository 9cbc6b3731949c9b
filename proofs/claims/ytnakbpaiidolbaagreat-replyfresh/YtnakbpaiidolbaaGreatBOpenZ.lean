import Derived.Test.YtnakbpaiidolbaaGreatBunYN
import Derived.Test.YtnakbpaiidolbaaGreatBOpenM
namespace Go.Proofs.YtnakbpaiidolbaaGreat
open Go.ChangeShapes Go.WideShapes Go.ChangeAt Go.RowKit Slp
set_option linter.unusedVariables false
set_option maxRecDepth 100000 in
theorem open_sec16 {H : Type} {enc : TypeId × Value → H} {W : World} {v : Value} {d : DataW H} {p : List MemPlace} {r : Reach} {b0 : Nat}
 (hv : Value.okWide Tryz.prog W r b0 49 v) (h : DataW.Trod enc Tryz.prog W 0 (fun _ => true) true 49 v d p)
 (hsz : ∀ n ∈ d.weights Tryz.prog 49, n ≤ 140737488351232) : ∃ c0 c1 xss yss, v = .agg #[c0, c1] ∧ (Rws W c0 xss ∧ xss.length ≤ 5864062014634) ∧ (Rws W c1 yss ∧ yss.length ≤ 5864062014634) := by
 obtain ⟨c0, c1, y0, y1, m, rfl, rfl, _, h0, h1⟩ := Joins.open_agg2 Tryz.underlying49 (by kernel_rfl) (by kernel_rfl) hv h
 have key : ∀ {c : Value} {y : DataW H × List MemPlace}, DataW.trod enc Tryz.prog W 0 (fun _ => true) true m 29 [c] = some y → (∀ n ∈ y.1.weights Tryz.prog 29, n ≤ 140737488351232) → ∃ xss, Rws W c xss ∧ xss.length ≤ 5864062014634 := fun {c y} hg hn => by
  obtain ⟨a, len, cap, rfl⟩ : ∃ a len cap, c = .slice a len cap := by
   have := hg
   cases m with
   | zero => simp [DataW.trod] at this
   | succ m =>
    unfold DataW.trod at this
    rw [Tryz.underlying29] at this
    cases c <;> simp at this
    exact ⟨_, _, _, rfl⟩
  exact open_rws (d := y.1) (p := y.2) ⟨m, by simpa [Value.cells] using hg⟩ hn
 obtain ⟨zs, r0⟩ := key h0 (fun n hn => hsz n (by
  simp only [DataW.weights, Tryz.underlying49]
  simp [DataW.weightsEach]
  exact .inl hn))
 obtain ⟨us, r1⟩ := key h1 (fun n hn => hsz n (by
  simp only [DataW.weights, Tryz.underlying49]
  simp [DataW.weightsEach]
  exact .inr hn))
 exact ⟨c0, c1, zs, us, rfl, r0, r1⟩
end Go.Proofs.YtnakbpaiidolbaaGreat
