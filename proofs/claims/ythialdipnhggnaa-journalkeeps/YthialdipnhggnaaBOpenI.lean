import Derived.Test.YthialdipnhggnaaBOpenB
import Derived.Test.YthialdipnhggnaaBJrnG
import Derived.Lib.SmallJoins
set_option linter.unusedVariables false
set_option linter.unusedSimpArgs false
set_option maxRecDepth 100000
set_option maxHeartbeats 4000000
namespace Go.Proofs.Ythialdipnhggnaa
open Go.ChangeShapes Go.WideShapes Go.ChangeAt Go.RowKit
theorem weights_partI {H : Type} {e : TypeId} {l : List (DataW H)} {y : DataW H} {n : Nat} (hy : y ∈ l) (hn : n ∈ y.weights Try.prog e) : n ∈ DataW.weightsAll Try.prog e l := by
 induction l with
 | nil => cases hy
 | cons a l ih =>
  simp only [DataW.weightsAll, List.mem_append]
  rcases List.mem_cons.1 hy with rfl | h
  · exact .inl hn
  · exact .inr (ih h)
theorem form_of_trodI {H : Type} {enc : TypeId × Value -> H} {W : World} {m : Nat} {c : Value} {T E : TypeId} {y : DataW H × List MemPlace} (hT : Try.prog.underlying T = some (.slice E)) (hg : DataW.trod enc Try.prog W 0 (fun _ => true) true m T [c] = some y) : ∃ a len cap, c = .slice a len cap := by
 cases m with
 | zero => simp [DataW.trod] at hg
 | succ m =>
  unfold DataW.trod at hg
  rw [hT] at hg
  cases c <;> simp at hg
  exact ⟨_, _, _, rfl⟩
theorem pick_allI {W : World} {ad : Addr} : ∀ len : Nat, (∀ i, i < len -> ∃ u xs, W.cell? (ad.add i) = some u ∧ Rb W u xs) -> ∃ xss : List (List Int), xss.length = len ∧ ∀ i, i < len -> ∃ u, W.cell? (ad.add i) = some u ∧ Rb W u (xss.getD i []) := by
 intro len
 induction len with
 | zero => intro _; exact ⟨[], rfl, fun i hi => by omega⟩
 | succ k ih =>
  intro each
  obtain ⟨xss, h1, h2⟩ := ih (fun i hi => each i (by omega))
  obtain ⟨u, xs, h3, h4⟩ := each k (by omega)
  refine ⟨xss ++ [xs], by simp [h1], fun i hi => ?_⟩
  by_cases hk : i < k
  · obtain ⟨u', h5, h6⟩ := h2 i hk
    refine ⟨u', h5, ?_⟩
    rw [List.getD_eq_getElem?_getD, List.getElem?_append_left (by omega), <- List.getD_eq_getElem?_getD]; exact h6
  · obtain rfl : i = k := by omega
    refine ⟨u, h3, ?_⟩
    rw [List.getD_eq_getElem?_getD, List.getElem?_append_right (by omega), h1, Nat.sub_self]; exact h4
theorem open_bls {H : Type} {enc : TypeId × Value -> H} {W : World} {a : Option Addr} {len cap : Nat} {d : DataW H} {p : List MemPlace}
 (h : DataW.Trod enc Try.prog W 0 (fun _ => true) true 22 (.slice a len cap) d p) (hsz : ∀ n ∈ d.weights Try.prog 22, n <= 140737488351232) : ∃ xss, Bz W (.slice a len cap) xss := by
 have hce : Try.prog.cellsOf 23 = 1 := by kernel_rfl
 have hb24 : Try.prog.bytesOf 23 = 24 := by kernel_rfl
 have hb1 : Try.prog.bytesOf 5 = 1 := by kernel_rfl
 obtain ⟨fuel, hf⟩ := h
 rcases DataW.trod_slice Try.underlying22 hf with ⟨h0, _⟩ | ⟨ad, l, c, elems, rest, n, _, hcs, hx, _, hl, hm, hlen, hel, _, _⟩
 · simp [Value.cells] at h0
   obtain ⟨rfl, rfl, rfl⟩ := h0
   exact ⟨[], bz_nil W _ _⟩
 · simp [Value.cells] at hcs
   obtain ⟨rfl, rfl, rfl⟩ := hcs
   have hd : d = .slice (elems.map (·.1)) (rest.map (·.1)) := congrArg Prod.fst hx
   subst hd
   have hW : ∀ k, k ∈ DataW.weightsAll Try.prog 23 (elems.map (·.1)) -> k <= 140737488351232 := fun k hk => hsz k (by
    simp only [DataW.weights, Try.underlying22, List.mem_cons, List.mem_append]
    exact .inr (.inl hk))
   have hlen2 : len <= 5864062014634 := by
    have := hsz ((elems.map (·.1)).length * 24 + (rest.map (·.1)).length * 24) (by
     simp only [DataW.weights, Try.underlying22, hb24, List.mem_cons]
     left; rw [Nat.add_mul])
    simp only [List.length_map] at this
    omega
   have each : ∀ i, i < len -> ∃ u xs, W.cell? (ad.add i) = some u ∧ Rb W u xs := by
    intro i hi
    have h1 := hel i hi
    rw [hce, Nat.mul_one, List.getElem?_eq_getElem (by omega), Option.bind_eq_some_iff] at h1
    obtain ⟨cs, hc1, hc2⟩ := h1
    obtain ⟨u, rfl⟩ : ∃ u, cs = [u] := List.length_eq_one_iff.1 (World.cells?_some hc1).2.1
    have hmem : (elems[i]'(by omega)).1 ∈ elems.map (·.1) := List.mem_map.2 ⟨_, List.getElem_mem (by omega), rfl⟩
    obtain ⟨ao, ln, cp, rfl⟩ := form_of_trodI Try.underlying23 hc2
    obtain ⟨xs, hr, _⟩ := open_rb (d := (elems[i]'(by omega)).1) (p := (elems[i]'(by omega)).2) ⟨_, by simpa [Value.cells] using hc2⟩ (fun el sp he => by
     have := hW ((el.length + sp.length) * Try.prog.bytesOf 5) (weights_partI hmem (by rw [he]; simp [DataW.weights, Try.underlying23]))
     rw [hb1] at this; exact this)
    exact ⟨_, xs, cell_of_cells?_one hc1, hr⟩
   obtain ⟨xss, hxl, hxs⟩ := pick_allI len each
   refine ⟨xss, ⟨some ad, cap, by rw [hxl], by omega, by omega, fun hne => ?_⟩⟩
   have hpos : 0 < len := by rw [<- hxl]; exact List.length_pos_iff.2 hne
   obtain ⟨b, off, spot⟩ := ad
   obtain ⟨u0, hc0, _⟩ := hxs 0 hpos
   have hspot : spot = none := by simpa [Addr.add] using World.cell?_spot hc0
   subst hspot
   have hadd : ∀ i, (⟨b, off, none⟩ : Addr).add i = ⟨b, off + i, none⟩ := fun i => by unfold Addr.add; split <;> simp_all
   rw [hadd] at hc0
   refine ⟨b, off, rfl, World.block_lt_of_cell? W _ hc0, fun i hi => ?_⟩
   obtain ⟨u, h5, h6⟩ := hxs i (by omega)
   rw [hadd] at h5
   exact ⟨u, h5, h6⟩
end Go.Proofs.Ythialdipnhggnaa
