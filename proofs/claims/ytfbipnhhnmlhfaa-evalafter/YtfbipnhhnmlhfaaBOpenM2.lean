/-
  An array of two programs by value, opened.
-/
import Derived.Test.YtfbipnhhnmlhfaaBOpenM
namespace Go.Proofs.Ytfbipnhhnmlhfaa
open Go.ChangeShapes Go.WideShapes Go.ChangeAt Go.RowKit Slp

theorem six {α : Type} (l : List α) (h : l.length = 6) : ∃ a b c d e f, l = [a, b, c, d, e, f] := by
  match l, h with
  | [a, b, c, d, e, f], _ => exact ⟨a, b, c, d, e, f, rfl⟩
theorem pairM {α : Type} (l : List α) (h : l.length = 2) : ∃ a b, l = [a, b] := by
  match l, h with
  | [a, b], _ => exact ⟨a, b, rfl⟩
set_option maxRecDepth 100000 in
theorem open_pmc {H : Type} {enc : TypeId × Value → H} {W : World} {fuel : Nat} {c0 c1 c2 : Value} {x : DataW H × List MemPlace} (h : DataW.trod enc Try.prog W 0 (fun _ => true) true fuel 25 [c0, c1, c2] = some x)
    (hsz : ∀ n ∈ x.1.weights Try.prog 25, n ≤ 140737488351232) : ∃ q, Pm W (.agg #[c0, c1, c2]) q := by
  obtain ⟨y0, y1, y2, n, hx, _, h0, h1, h2⟩ := Go.Deep.trod_struct3 Try.underlying25 h
  have k1 : Try.prog.cellsOf 3 = 1 := by kernel_rfl
  have k2 : Try.prog.cellsOf 22 = 1 := by kernel_rfl
  have k3 : Try.prog.cellsOf 23 = 1 := by kernel_rfl
  simp [k1, k2, k3] at h0 h1 h2
  have hd : x.1 = .agg [y0.1, y1.1, y2.1] := congrArg Prod.fst hx
  rw [hd] at hsz
  obtain ⟨n0, e0, _, w0⟩ := DataW.trod_int Try.underlying3 h0
  have e0' : c0 = .int .i64 n0 := by simpa using e0
  subst e0'
  have hb8 : Try.prog.bytesOf 3 = 8 := by kernel_rfl
  have hb32 : Try.prog.bytesOf 68 = 32 := by kernel_rfl
  obtain ⟨os, ho, hok, _⟩ := open_lmo h1 (fun el sp he => by
    have := hsz ((el.length + sp.length) * Try.prog.bytesOf 68) (by
      simp only [DataW.weights, Try.underlying25]
      rw [he]
      simp [DataW.weightsEach, DataW.weights, Try.underlying22])
    rw [hb32] at this; exact this)
  obtain ⟨us, hu, huk, _⟩ := open_lmi h2 (fun el sp he => by
    have := hsz ((el.length + sp.length) * Try.prog.bytesOf 3) (by
      simp only [DataW.weights, Try.underlying25]
      rw [he]
      simp [DataW.weightsEach, DataW.weights, Try.underlying23])
    rw [hb8] at this; exact this)
  exact ⟨⟨n0, os, us⟩, ⟨_, _, rfl, ho, hu⟩, bounds_i64 w0, hok, huk⟩
set_option maxRecDepth 100000 in
theorem open_pm2 {H : Type} {enc : TypeId × Value → H} {W : World} {v : Value} {d : DataW H} {p : List MemPlace} {r : Reach} {b0 : Nat} {t : TypeId} (ht : Try.prog.underlying t = some (.array 2 25)) (hct : Try.prog.cellsOf t = 6)
    (hv : Value.okWide Try.prog W r b0 t v) (h : DataW.Trod enc Try.prog W 0 (fun _ => true) true t v d p)
    (hsz : ∀ n ∈ d.weights Try.prog t, n ≤ 140737488351232) : ∃ c0 c1 c2 c3 c4 c5 q0 q1, v = .agg #[c0, c1, c2, c3, c4, c5] ∧ Pm W (.agg #[c0, c1, c2]) q0 ∧ Pm W (.agg #[c3, c4, c5]) q1 := by
  have hce : Try.prog.cellsOf 25 = 3 := by kernel_rfl
  obtain ⟨cs, rfl, hs, _⟩ : ∃ cs, v = .agg cs ∧ cs.size = Try.prog.cellsOf t ∧ Row.okWide Try.prog W r b0 t cs := by
    simpa [Value.okWide, ht] using hv
  rw [hct] at hs
  obtain ⟨l⟩ := cs
  obtain ⟨c0, c1, c2, c3, c4, c5, rfl⟩ := six l hs
  obtain ⟨fuel, hf⟩ := h
  obtain ⟨xs, m, _, hx, _, hl, hel⟩ := DataW.trod_array ht hf
  have g0 := hel 0 (by omega)
  have g1 := hel 1 (by omega)
  obtain ⟨y0, y1, rfl⟩ := pairM xs hl
  simp [hce, Value.cells] at g0 g1
  have hd : d = .agg [y0.1, y1.1] := congrArg Prod.fst hx
  subst hd
  have hw : ∀ n, n ∈ y0.1.weights Try.prog 25 ∨ n ∈ y1.1.weights Try.prog 25 → n ≤ 140737488351232 := fun n hn => hsz n (by
    simp only [DataW.weights, ht, DataW.weightsAll, List.mem_append]
    rcases hn with hn | hn
    · exact .inl hn
    · exact .inr (.inl hn))
  obtain ⟨q0, r0⟩ := open_pmc g0 (fun n hn => hw n (.inl hn))
  obtain ⟨q1, r1⟩ := open_pmc g1 (fun n hn => hw n (.inr hn))
  exact ⟨c0, c1, c2, c3, c4, c5, q0, q1, rfl, r0, r1⟩

end Go.Proofs.Ytfbipnhhnmlhfaa
