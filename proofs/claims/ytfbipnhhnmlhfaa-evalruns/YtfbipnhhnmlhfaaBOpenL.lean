/-
  A list of lists of words: in memory; one that came in, opened.
-/
import Derived.Test.YtfbipnhhnmlhfaaBOpenS
namespace Go.Proofs.Ytfbipnhhnmlhfaa
open Go.ChangeShapes Go.WideShapes Go.ChangeAt Go.RowKit

/-- A list of lists in memory, no longer than its room. -/
def Rws (w : World) (v : Value) (xss : List (List Int)) : Prop := ∃ ao cap, v = .slice ao xss.length cap ∧ xss.length ≤ 5864062014700 ∧ xss.length ≤ cap ∧
  (xss ≠ [] → ∃ b off, ao = some ⟨b, off, none⟩ ∧ b < w.heap.size ∧ ∀ i, i < xss.length → ∃ u, w.cell? ⟨b, off + i, none⟩ = some u ∧ Rw w u (xss.getD i []))
theorem Rws.below {w w' : World} {v : Value} {xss : List (List Int)} (h : Rws w v xss) (hb : Below w.heap.size w w') : Rws w' v xss := by
  obtain ⟨ao, cap, h1, h2, h3, h4⟩ := h
  refine ⟨ao, cap, h1, h2, h3, fun hne => ?_⟩
  obtain ⟨b, off, h5, h6, h7⟩ := h4 hne
  refine ⟨b, off, h5, Nat.lt_of_lt_of_le h6 hb.size, fun i hi => ?_⟩
  obtain ⟨u, h8, h9⟩ := h7 i hi
  exact ⟨u, (hb.cell (p := ⟨b, off + i, none⟩) h6).trans h8, h9.below hb⟩
theorem rws_nil (w : World) : Rws w (.slice none 0 0) [] := ⟨none, 0, rfl, by simp, by simp, fun h => absurd rfl h⟩

theorem weights_part {H : Type} {e : TypeId} {l : List (DataW H)} {y : DataW H} {n : Nat} (hy : y ∈ l) (hn : n ∈ y.weights Try.prog e) : n ∈ DataW.weightsAll Try.prog e l := by
  induction l with
  | nil => cases hy
  | cons a l ih =>
    simp only [DataW.weightsAll, List.mem_append]
    rcases List.mem_cons.1 hy with rfl | h
    · exact .inl hn
    · exact .inr (ih h)
theorem pick_all {W : World} {ad : Addr} : ∀ len : Nat, (∀ i, i < len → ∃ u xs, W.cell? (ad.add i) = some u ∧ Rw W u xs) → ∃ xss : List (List Int), xss.length = len ∧ ∀ i, i < len → ∃ u, W.cell? (ad.add i) = some u ∧ Rw W u (xss.getD i []) := by
  intro len
  induction len with
  | zero => intro _; exact ⟨[], rfl, fun i hi => by omega⟩
  | succ k ih =>
    intro each
    obtain ⟨xss, h1, h2⟩ := ih (fun i hi => each i (by omega))
    obtain ⟨u, xs, h3, h4⟩ := each k (by omega)
    refine ⟨xss ++ [xs], by simp [h1], fun i hi => ?_⟩
    by_cases hk : i < k
    · obtain ⟨u', h5, h6⟩ := h2 i hk
      refine ⟨u', h5, ?_⟩
      rw [List.getD_eq_getElem?_getD, List.getElem?_append_left (by omega), ← List.getD_eq_getElem?_getD]; exact h6
    · obtain rfl : i = k := by omega
      refine ⟨u, h3, ?_⟩
      rw [List.getD_eq_getElem?_getD, List.getElem?_append_right (by omega), h1, Nat.sub_self]; exact h4
theorem open_rws {H : Type} {enc : TypeId × Value → H} {W : World} {a : Option Addr} {len cap : Nat} {d : DataW H} {p : List MemPlace}
    (h : DataW.Trod enc Try.prog W 0 (fun _ => true) true 36 (.slice a len cap) d p) (hsz : ∀ n ∈ d.weights Try.prog 36, n ≤ 140737488351232) : ∃ xss, Rws W (.slice a len cap) xss ∧ xss.length ≤ 5864062014634 := by
  have hce : Try.prog.cellsOf 26 = 1 := by kernel_rfl
  have hb24 : Try.prog.bytesOf 26 = 24 := by kernel_rfl
  have hb8 : Try.prog.bytesOf 49 = 8 := by kernel_rfl
  obtain ⟨fuel, hf⟩ := h
  rcases DataW.trod_slice Try.underlying36 hf with ⟨h0, _⟩ | ⟨ad, l, c, elems, rest, n, _, hcs, hx, _, hl, hm, hlen, hel, _, _⟩
  · simp [Value.cells] at h0
    obtain ⟨rfl, rfl, rfl⟩ := h0
    exact ⟨[], rws_nil W, by simp⟩
  · simp [Value.cells] at hcs
    obtain ⟨rfl, rfl, rfl⟩ := hcs
    have hd : d = .slice (elems.map (·.1)) (rest.map (·.1)) := congrArg Prod.fst hx
    subst hd
    have hW : ∀ k, k ∈ DataW.weightsAll Try.prog 26 (elems.map (·.1)) → k ≤ 140737488351232 := fun k hk => hsz k (by
      simp only [DataW.weights, Try.underlying36, List.mem_cons, List.mem_append]
      exact .inr (.inl hk))
    have hlen2 : len ≤ 5864062014634 := by
      have := hsz ((elems.map (·.1)).length * 24 + (rest.map (·.1)).length * 24) (by
        simp only [DataW.weights, Try.underlying36, hb24, List.mem_cons]
        left; rw [Nat.add_mul])
      simp only [List.length_map] at this
      omega
    -- each element opened
    have each : ∀ i, i < len → ∃ u xs, W.cell? (ad.add i) = some u ∧ Rw W u xs := by
      intro i hi
      have h1 := hel i hi
      rw [hce, Nat.mul_one, List.getElem?_eq_getElem (by omega), Option.bind_eq_some_iff] at h1
      obtain ⟨cs, hc1, hc2⟩ := h1
      obtain ⟨u, rfl⟩ : ∃ u, cs = [u] := List.length_eq_one_iff.1 (World.cells?_some hc1).2.1
      have hmem : (elems[i]'(by omega)).1 ∈ elems.map (·.1) := List.mem_map.2 ⟨_, List.getElem_mem (by omega), rfl⟩
      obtain ⟨xs, hr⟩ := open_part hc2 (fun el sp he => by
        have := hW ((el.length + sp.length) * Try.prog.bytesOf 49) (weights_part hmem (by rw [he]; simp [DataW.weights, Try.underlying26]))
        rw [hb8] at this; exact this)
      exact ⟨u, xs, cell_of_cells?_one hc1, hr⟩
    obtain ⟨xss, hxl, hxs⟩ := pick_all len each
    refine ⟨xss, ⟨some ad, cap, by rw [hxl], by omega, by omega, fun hne => ?_⟩, by omega⟩
    have hpos : 0 < len := by rw [← hxl]; exact List.length_pos_iff.2 hne
    obtain ⟨b, off, spot⟩ := ad
    obtain ⟨u0, hc0, _⟩ := hxs 0 hpos
    have hspot : spot = none := by simpa [Addr.add] using World.cell?_spot hc0
    subst hspot
    have hadd : ∀ i, (⟨b, off, none⟩ : Addr).add i = ⟨b, off + i, none⟩ := fun i => by unfold Addr.add; split <;> simp_all
    rw [hadd] at hc0
    refine ⟨b, off, rfl, World.block_lt_of_cell? W _ hc0, fun i hi => ?_⟩
    obtain ⟨u, h5, h6⟩ := hxs i (by omega)
    rw [hadd] at h5
    exact ⟨u, h5, h6⟩

end Go.Proofs.Ytfbipnhhnmlhfaa
