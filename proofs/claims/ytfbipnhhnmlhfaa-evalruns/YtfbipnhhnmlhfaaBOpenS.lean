/-
  An array of two lists of words by value, opened.
-/
import Derived.Test.YtfbipnhhnmlhfaaBOpenP
namespace Go.Proofs.Ytfbipnhhnmlhfaa
open Go.ChangeShapes Go.WideShapes Go.ChangeAt Go.RowKit

theorem pair {α : Type} (l : List α) (h : l.length = 2) : ∃ a b, l = [a, b] := by
  match l, h with
  | [a, b], _ => exact ⟨a, b, rfl⟩
/-- One list of an array of lists. -/
theorem open_part {H : Type} {enc : TypeId × Value → H} {W : World} {fuel : Nat} {c : Value} {x : DataW H × List MemPlace} (h : DataW.trod enc Try.prog W 0 (fun _ => true) true fuel 26 [c] = some x)
    (hsz : ∀ elems spare, x.1 = .slice elems spare → (elems.length + spare.length) * 8 ≤ 140737488351232) : ∃ xs, Rw W c xs := by
  obtain ⟨a, len, cap, rfl⟩ : ∃ a len cap, c = .slice a len cap := by
    rcases open_ints Try.underlying26 Try.underlying49 (by kernel_rfl) h with ⟨hcs, _⟩ | ⟨a, l, cp, zs, hcs, _⟩
    · simp at hcs; exact ⟨_, _, _, hcs⟩
    · simp at hcs; exact ⟨_, _, _, hcs⟩
  exact open_rw (d := x.1) (p := x.2) ⟨fuel, by simpa [Value.cells] using h⟩ hsz
set_option maxRecDepth 100000 in
theorem open_sl2 {H : Type} {enc : TypeId × Value → H} {W : World} {v : Value} {d : DataW H} {p : List MemPlace} {r : Reach} {b0 : Nat} {t : TypeId} (ht : Try.prog.underlying t = some (.array 2 26)) (hct : Try.prog.cellsOf t = 2)
    (hv : Value.okWide Try.prog W r b0 t v) (h : DataW.Trod enc Try.prog W 0 (fun _ => true) true t v d p)
    (hsz : ∀ n ∈ d.weights Try.prog t, n ≤ 140737488351232) : ∃ c0 c1 xs ys, v = .agg #[c0, c1] ∧ Rw W c0 xs ∧ Rw W c1 ys := by
  have hce : Try.prog.cellsOf 26 = 1 := by kernel_rfl
  obtain ⟨cs, rfl, hs, _⟩ : ∃ cs, v = .agg cs ∧ cs.size = Try.prog.cellsOf t ∧ Row.okWide Try.prog W r b0 t cs := by
    simpa [Value.okWide, ht] using hv
  rw [hct] at hs
  obtain ⟨l⟩ := cs
  obtain ⟨c0, c1, rfl⟩ := pair l hs
  obtain ⟨fuel, hf⟩ := h
  obtain ⟨xs, m, _, hx, _, hl, hel⟩ := DataW.trod_array ht hf
  have g0 := hel 0 (by omega)
  have g1 := hel 1 (by omega)
  obtain ⟨y0, y1, rfl⟩ := pair xs hl
  simp [hce, Value.cells] at g0 g1
  have hd : d = .agg [y0.1, y1.1] := congrArg Prod.fst hx
  subst hd
  have hw : ∀ n, n ∈ y0.1.weights Try.prog 26 ∨ n ∈ y1.1.weights Try.prog 26 → n ≤ 140737488351232 := fun n hn => hsz n (by
    simp only [DataW.weights, ht, DataW.weightsAll, List.mem_append]
    rcases hn with hn | hn
    · exact .inl hn
    · exact .inr (.inl hn))
  have hb : Try.prog.bytesOf 49 = 8 := by kernel_rfl
  obtain ⟨zs, r0⟩ := open_part g0 (fun elems spare he => by
    have := hw ((elems.length + spare.length) * Try.prog.bytesOf 49) (.inl (by rw [he]; simp [DataW.weights, Try.underlying26]))
    rw [hb] at this; exact this)
  obtain ⟨us, r1⟩ := open_part g1 (fun elems spare he => by
    have := hw ((elems.length + spare.length) * Try.prog.bytesOf 49) (.inr (by rw [he]; simp [DataW.weights, Try.underlying26]))
    rw [hb] at this; exact this)
  exact ⟨c0, c1, zs, us, rfl, r0, r1⟩

end Go.Proofs.Ytfbipnhhnmlhfaa
