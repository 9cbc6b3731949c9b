import Derived.Test.YtjhididlcdepdaaGreatBRgnD
import Derived.Test.YtjhididlcdepdaaGreatBunO
import Derived.Test.YtjhididlcdepdaaGreatBOpenM
import Derived.Test.YtjhididlcdepdaaGreatBunW
import Derived.Lib.SmallJoins
set_option linter.unusedVariables false
set_option linter.unusedSimpArgs false
set_option maxRecDepth 100000
set_option maxHeartbeats 4000000
namespace Go.Proofs.YtjhididlcdepdaaGreat
open Go.ChangeShapes Go.WideShapes Go.ChangeAt Go.RowKit Slp
theorem form_of_trod {H : Type} {enc : TypeId × Value → H} {W : World} {m : Nat} {c : Value} {T E : TypeId} {y : DataW H × List MemPlace} (hT : Tryz.prog.underlying T = some (.slice E)) (hg : DataW.trod enc Tryz.prog W 0 (fun _ => true) true m T [c] = some y) : ∃ a len cap, c = .slice a len cap := by
 cases m with
 | zero => simp [DataW.trod] at hg
 | succ m =>
  unfold DataW.trod at hg
  rw [hT] at hg
  cases c <;> simp at hg
  exact ⟨_, _, _, rfl⟩
theorem open_rep {H : Type} {enc : TypeId × Value → H} {W : World} {v : Value} {d : DataW H} {p : List MemPlace} {r : Reach} {b0 : Nat}
 (hv : Value.okWide Tryz.prog W r b0 38 v) (h : DataW.Trod enc Tryz.prog W 0 (fun _ => true) true 38 v d p)
 (hsz : ∀ n ∈ d.weights Tryz.prog 38, n ≤ 140737488351232) : ∃ i c vs, v = .agg #[.int .i64 i, c] ∧ Rw W c vs := by
 obtain ⟨c0, c1, y0, y1, m, rfl, rfl, _, h0, h1⟩ := Joins.open_agg2 Tryz.underlying38 (by kernel_rfl) (by kernel_rfl) hv h
 obtain ⟨i, e2, _, wi⟩ := DataW.trod_int Tryz.underlying3 h0
 have e2' : c0 = .int .i64 i := by simpa using e2
 subst e2'
 have hb : Tryz.prog.bytesOf 64 = 8 := by kernel_rfl
 obtain ⟨zs, r0⟩ := open_part h1 (fun elems spare he => by
  have := hsz ((elems.length + spare.length) * Tryz.prog.bytesOf 64) (by
   simp only [DataW.weights, Tryz.underlying38]
   simp [DataW.weightsEach]
   rw [he]; simp [DataW.weights, Tryz.underlying36])
  rw [hb] at this; exact this)
 exact ⟨i, c1, zs, rfl, r0⟩
theorem open_res {H : Type} {enc : TypeId × Value → H} {W : World} {v : Value} {d : DataW H} {p : List MemPlace} {r : Reach} {b0 : Nat}
 (hv : Value.okWide Tryz.prog W r b0 29 v) (h : DataW.Trod enc Tryz.prog W 0 (fun _ => true) true 29 v d p)
 (hsz : ∀ n ∈ d.weights Tryz.prog 29, n ≤ 140737488351232) : ∃ c0 c1 c2 xss, v = .agg #[c0, c1, c2] ∧ (∃ a b c, c0 = .slice a b c) ∧ Rws W c1 xss ∧ (∃ a b c, c2 = .slice a b c) := by
 obtain ⟨c0, c1, c2, y0, y1, y2, m, rfl, rfl, _, h0, h1, h2⟩ := Joins.open_agg3 Tryz.underlying29 (by kernel_rfl) (by kernel_rfl) hv h
 obtain ⟨a, len, cap, rfl⟩ := form_of_trod Tryz.underlying26 h1
 obtain ⟨xss, r1, _⟩ := open_rws (d := y1.1) (p := y1.2) ⟨m, by simpa [Value.cells] using h1⟩ (fun n hn => hsz n (by
  simp only [DataW.weights, Tryz.underlying29]
  simp [DataW.weightsEach]
  exact .inr (.inl hn)))
 exact ⟨c0, _, c2, xss, rfl, form_of_trod Tryz.underlying26 h0, r1, form_of_trod Tryz.underlying27 h2⟩
end Go.Proofs.YtjhididlcdepdaaGreat
