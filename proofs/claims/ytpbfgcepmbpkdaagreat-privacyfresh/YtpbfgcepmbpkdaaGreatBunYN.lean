/- Texts laid together: OpenH, OpenY. -/
import Derived.Test.YtpbfgcepmbpkdaaGreatBunO
import Derived.Test.YtpbfgcepmbpkdaaGreatBunM
import Derived.Lib.SmallJoins
namespace Go.Proofs.YtpbfgcepmbpkdaaGreat
open Go.ChangeShapes Go.WideShapes Go.ChangeAt Go.RowKit
set_option linter.unusedVariables false

theorem add_atH (b off i : Nat) : (⟨b, off, none⟩ : Addr).add i = ⟨b, off + i, none⟩ := by unfold Addr.add; split <;> simp_all

end Go.Proofs.YtpbfgcepmbpkdaaGreat

namespace Go.Proofs.YtpbfgcepmbpkdaaGreat
open Go.ChangeShapes Go.WideShapes Go.ChangeAt Go.RowKit
set_option linter.unusedVariables false

set_option maxRecDepth 100000 in
theorem open_rwsY {H : Type} {enc : TypeId × Value → H} {W : World} {m : Nat} {c : Value} {y : DataW H × List MemPlace} (hg : DataW.trod enc Tryz.prog W 0 (fun _ => true) true m 26 [c] = some y) (hn : ∀ n ∈ y.1.weights Tryz.prog 26, n ≤ 140737488351232) : ∃ xss, Rws W c xss ∧ xss.length ≤ 5864062014634 := by
  obtain ⟨a, len, cap, rfl⟩ : ∃ a len cap, c = .slice a len cap := by
    have := hg
    cases m with
    | zero => simp [DataW.trod] at this
    | succ m =>
      unfold DataW.trod at this
      rw [Tryz.underlying26] at this
      cases c <;> simp at this
      exact ⟨_, _, _, rfl⟩
  exact open_rws (d := y.1) (p := y.2) ⟨m, by simpa [Value.cells] using hg⟩ hn
set_option maxRecDepth 100000 in
theorem open_case {H : Type} {enc : TypeId × Value → H} {W : World} {v : Value} {d : DataW H} {p : List MemPlace} {r : Reach} {b0 : Nat}
    (hv : Value.okWide Tryz.prog W r b0 28 v) (h : DataW.Trod enc Tryz.prog W 0 (fun _ => true) true 28 v d p)
    (hsz : ∀ n ∈ d.weights Tryz.prog 28, n ≤ 140737488351232) : ∃ c0 c1 c2 xss yss zss, v = .agg #[c0, c1, c2] ∧ (Rws W c0 xss ∧ xss.length ≤ 5864062014634) ∧ (Rws W c1 yss ∧ yss.length ≤ 5864062014634) ∧ (Rws W c2 zss ∧ zss.length ≤ 5864062014634) := by
  obtain ⟨c0, c1, c2, y0, y1, y2, m, rfl, rfl, _, h0, h1, h2⟩ := Joins.open_agg3 Tryz.underlying28 (by kernel_rfl) (by kernel_rfl) hv h
  obtain ⟨xs, r0⟩ := open_rwsY h0 (fun n hn => hsz n (by
    simp only [DataW.weights, Tryz.underlying28]
    simp [DataW.weightsEach]
    exact .inl hn))
  obtain ⟨ys, r1⟩ := open_rwsY h1 (fun n hn => hsz n (by
    simp only [DataW.weights, Tryz.underlying28]
    simp [DataW.weightsEach]
    exact .inr (.inl hn)))
  obtain ⟨zs, r2⟩ := open_rwsY h2 (fun n hn => hsz n (by
    simp only [DataW.weights, Tryz.underlying28]
    simp [DataW.weightsEach]
    exact .inr (.inr hn)))
  exact ⟨c0, c1, c2, xs, ys, zs, rfl, r0, r1, r2⟩
theorem open_lmiY {H : Type} {enc : TypeId × Value → H} {W : World} {a : Option Addr} {len cap : Nat} {d : DataW H} {p : List MemPlace}
    (h : DataW.Trod enc Tryz.prog W 0 (fun _ => true) true 25 (.slice a len cap) d p)
    (hsz : ∀ elems spare, d = .slice elems spare → (elems.length + spare.length) * 8 ≤ 140737488351232) : ∃ xs, Lm iw 1 W (.slice a len cap) xs ∧ Iw xs ∧ xs.length ≤ 17592186043904 := by
  obtain ⟨fuel, hf⟩ := h
  have hf : DataW.trod enc Tryz.prog W 0 (fun _ => true) true fuel 25 [.slice a len cap] = some (d, p) := by simpa [Value.cells] using hf
  rcases open_ints Tryz.underlying25 Tryz.underlying3 (by kernel_rfl) hf with ⟨hcs, _⟩ | ⟨ad, l, cp, zs, hcs, _, hl, hm, hz, hx, hcell, hwz⟩
  · have hcs : Value.slice a len cap = .slice none 0 0 := by simpa using hcs
    rw [hcs]
    exact ⟨[], ⟨none, 0, rfl, ⟨Nat.le_refl _, by decide, fun _ => rfl⟩, fun h => absurd rfl h⟩, (fun x hx => by cases hx), by simp⟩
  · have hcs : Value.slice a len cap = .slice (some ad) l cp := by simpa using hcs
    rw [hcs]
    have hs := hsz _ _ (congrArg Prod.fst hx)
    simp only [lits, List.length_map, List.length_take, List.length_drop] at hs
    have hzc : zs.length = cp := by simpa using hz
    have hlen : (zs.take l).length = l := by rw [List.length_take]; omega
    refine ⟨zs.take l, ⟨some ad, cp, by rw [hlen], ⟨by rw [hlen]; exact hl, by rw [hlen]; omega, fun h => by cases h⟩, fun hne => ?_⟩, fun n hn => bounds_i64 (hwz n (List.mem_of_mem_take hn)), by rw [hlen]; omega⟩
    have hpos : 0 < l := by rw [← hlen]; exact List.length_pos_iff.2 hne
    obtain ⟨b, off, spot⟩ := ad
    have hc0 := hcell 0 (by omega)
    have hspot : spot = none := by simpa [Addr.add] using World.cell?_spot hc0
    subst hspot
    rw [add_atH] at hc0
    refine ⟨b, off, rfl, World.block_lt_of_cell? W _ hc0, fun i x hx j u hu => ?_⟩
    have hj : j = 0 := by have := (List.getElem?_eq_some_iff.1 hu).1; rw [iw_len] at this; omega
    subst hj
    have hi : i < l := by have := (List.getElem?_eq_some_iff.1 hx).1; omega
    have h1 := hcell i (by omega)
    rw [add_atH] at h1
    rw [show off + (i * 1 + 0) = off + i by omega, h1]
    have h2 : zs.getD i 0 = x := by
      rw [List.getElem?_take_of_lt hi] at hx
      rw [List.getD_eq_getElem?_getD, hx]; rfl
    rw [h2]
    simpa [iw] using hu

end Go.Proofs.YtpbfgcepmbpkdaaGreat

