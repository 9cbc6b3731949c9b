import Derived.Test.YtnakbpaiidolbaaGreatBunYN
import Derived.Test.YtnakbpaiidolbaaGreatBOpenM
namespace Go.Proofs.YtnakbpaiidolbaaGreat
open Go.ChangeShapes Go.WideShapes Go.ChangeAt Go.RowKit Slp
set_option linter.unusedVariables false
set_option maxRecDepth 100000 in
theorem open_sec16 {H : Type} {enc : TypeId × Value → H} {W : World} {v : Value} {d : DataW H} {p : List MemPlace} {r : Reach} {b0 : Nat}
 (hv : Value.okWide Tryz.prog W r b0 49 v) (h : DataW.Trod enc Tryz.prog W 0 (fun _ => true) true 49 v d p)
 (hsz : ∀ n ∈ d.weights Tryz.prog 49, n ≤ 140737488351232) : ∃ c0 c1 xss yss, v = .agg #[c0, c1] ∧ (Rws W c0 xss ∧ xss.length ≤ 5864062014634) ∧ (Rws W c1 yss ∧ yss.length ≤ 5864062014634) := by
 obtain ⟨c0, c1, y0, y1, m, rfl, rfl, _, h0, h1⟩ := Joins.open_agg2 Tryz.underlying49 (by kernel_rfl) (by kernel_rfl) hv h
 have key : ∀ {c : Value} {y : DataW H × List MemPlace}, DataW.trod enc Tryz.prog W 0 (fun _ => true) true m 29 [c] = some y → (∀ n ∈ y.1.weights Tryz.prog 29, n ≤ 140737488351232) → ∃ xss, Rws W c xss ∧ xss.length ≤ 5864062014634 := fun {c y} hg hn => by
  obtain ⟨a, len, cap, rfl⟩ : ∃ a len cap, c = .slice a len cap := by
   have := hg
   cases m with
   | zero => simp [DataW.trod] at this
   | succ m =>
    unfold DataW.trod at this
    rw [Tryz.underlying29] at this
    cases c <;> simp at this
    exact ⟨_, _, _, rfl⟩
  exact open_rws (d := y.1) (p := y.2) ⟨m, by simpa [Value.cells] using hg⟩ hn
 obtain ⟨zs, r0⟩ := key h0 (fun n hn => hsz n (by
  simp only [DataW.weights, Tryz.underlying49]
  simp [DataW.weightsEach]
  exact .inl hn))
 obtain ⟨us, r1⟩ := key h1 (fun n hn => hsz n (by
  simp only [DataW.weights, Tryz.underlying49]
  simp [DataW.weightsEach]
  exact .inr hn))
 exact ⟨c0, c1, zs, us, rfl, r0, r1⟩
set_option maxRecDepth 100000 in
theorem open_ask {H : Type} {enc : TypeId × Value → H} {W : World} {v : Value} {d : DataW H} {p : List MemPlace} {r : Reach} {b0 : Nat}
 (hv : Value.okWide Tryz.prog W r b0 47 v) (h : DataW.Trod enc Tryz.prog W 0 (fun _ => true) true 47 v d p)
 (hsz : ∀ n ∈ d.weights Tryz.prog 47, n ≤ 140737488351232) : ∃ c0 c1 c2 i q, v = .agg #[c0, c1, c2, .int .i64 i] ∧ Pm W (.agg #[c0, c1, c2]) q ∧ (-9223372036854775808 ≤ i ∧ i ≤ 9223372036854775807) := by
 have hC : Tryz.prog.cellsOf 47 = 4 := by kernel_rfl
 obtain ⟨cs, rfl, hs⟩ := okWide_struct Tryz.underlying47 hv
 obtain ⟨fuel, hf⟩ := h
 have hl : cs.toList.length = 4 := by rw [Array.length_toList]; exact hs.trans hC
 obtain ⟨c0, c1, c2, c3, e⟩ := four cs.toList hl
 obtain rfl : cs = #[c0, c1, c2, c3] := Array.toList_inj.1 e
 obtain ⟨y0, y1, n, hx, _, h0, h1⟩ := trod_struct2 Tryz.underlying47 hf
 have k1 : Tryz.prog.cellsOf 28 = 3 := by kernel_rfl
 have k2 : Tryz.prog.cellsOf 3 = 1 := by kernel_rfl
 simp [k1, k2, Value.cells] at h0 h1
 have hd : d = .agg [y0.1, y1.1] := congrArg Prod.fst hx
 subst hd
 obtain ⟨i, e3, _, wi⟩ := DataW.trod_int Tryz.underlying3 h1
 have e3' : c3 = .int .i64 i := by simpa using e3
 subst e3'
 obtain ⟨q, hq⟩ := open_pmc h0 (fun m hm => hsz m (by
  simp only [DataW.weights, Tryz.underlying47]
  simp [DataW.weightsEach]
  exact .inl hm))
 exact ⟨c0, c1, c2, i, q, rfl, hq, bounds_i64 wi⟩
end Go.Proofs.YtnakbpaiidolbaaGreat
