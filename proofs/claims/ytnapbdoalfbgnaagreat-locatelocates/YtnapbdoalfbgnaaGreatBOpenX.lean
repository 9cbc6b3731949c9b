import Derived.Test.YtnapbdoalfbgnaaGreatBunO
import Derived.Test.YtnapbdoalfbgnaaGreatBunW
import Derived.Lib.SmallJoins
set_option linter.unusedVariables false
set_option linter.unusedSimpArgs false
set_option maxRecDepth 100000
set_option maxHeartbeats 4000000
namespace Go.Proofs.YtnapbdoalfbgnaaGreat
open Go.ChangeShapes Go.WideShapes Go.ChangeAt Go.RowKit
theorem open_pts {H : Type} {enc : TypeId × Value → H} {W : World} {v : Value} {d : DataW H} {p : List MemPlace} {r : Reach} {b0 : Nat}
 (hv : Value.okWide Tryz.prog W r b0 24 v) (h : DataW.Trod enc Tryz.prog W 0 (fun _ => true) true 24 v d p)
 (hsz : ∀ n ∈ d.weights Tryz.prog 24, n ≤ 140737488351232) : ∃ c0 c1 i j xs ys, v = .agg #[c0, c1, .int .i64 i, .int .i64 j] ∧ Rw W c0 xs ∧ Rw W c1 ys ∧ (-9223372036854775808 ≤ i ∧ i ≤ 9223372036854775807) ∧ (-9223372036854775808 ≤ j ∧ j ≤ 9223372036854775807) := by
 obtain ⟨c0, c1, c2, c3, y0, y1, y2, y3, m, rfl, rfl, _, h0, h1, h2, h3⟩ := Joins.open_agg4 Tryz.underlying24 (by kernel_rfl) (by kernel_rfl) hv h
 obtain ⟨i, e2, _, wi⟩ := DataW.trod_int Tryz.underlying3 h2
 obtain ⟨j, e3, _, wj⟩ := DataW.trod_int Tryz.underlying3 h3
 have e2' : c2 = .int .i64 i := by simpa using e2
 have e3' : c3 = .int .i64 j := by simpa using e3
 subst e2' e3'
 have hw : ∀ n, n ∈ y0.1.weights Tryz.prog 22 ∨ n ∈ y1.1.weights Tryz.prog 22 → n ≤ 140737488351232 := fun n hn => hsz n (by
  simp only [DataW.weights, Tryz.underlying24]
  simp [DataW.weightsEach]
  rcases hn with hn | hn
  · exact .inl hn
  · exact .inr (.inl hn))
 have hb : Tryz.prog.bytesOf 42 = 8 := by kernel_rfl
 obtain ⟨zs, r0⟩ := open_part h0 (fun elems spare he => by
  have := hw ((elems.length + spare.length) * Tryz.prog.bytesOf 42) (.inl (by rw [he]; simp [DataW.weights, Tryz.underlying22]))
  rw [hb] at this; exact this)
 obtain ⟨us, r1⟩ := open_part h1 (fun elems spare he => by
  have := hw ((elems.length + spare.length) * Tryz.prog.bytesOf 42) (.inr (by rw [he]; simp [DataW.weights, Tryz.underlying22]))
  rw [hb] at this; exact this)
 exact ⟨c0, c1, i, j, zs, us, rfl, r0, r1, bounds_i64 wi, bounds_i64 wj⟩
end Go.Proofs.YtnapbdoalfbgnaaGreat
