/-
  Plain arithmetic, no Go: the products of a list's beginnings, and inverses multiplied apart.
-/
import Derived.Test.YtdegpefhegmamabModL
namespace Go.Proofs.Ytdegpefhegmamab.Fld

/-- An element that is not 0. -/
def Un (p a : Int) : Prop := El p a ∧ a ≠ 0

theorem Un.pos {p a : Int} (h : Un p a) : 0 < a := by have := h.1.1; have := h.2; omega

theorem mul_one_el {p a : Int} (ha : El p a) : mul p a 1 = a := by unfold mul; rw [Int.mul_one]; exact Int.emod_eq_of_lt ha.1 ha.2
theorem mul_zero_left (p a : Int) : mul p 0 a = 0 := by simp [mul]

theorem Un.mul {p a b : Int} {wd : Bool} (h : Md p wd) (ha : Un p a) (hb : Un p b) : Un p (mul p a b) := by
  have hp := h.bounds
  refine ⟨mul_el (by omega), fun hz => ?_⟩
  have e := ring_assoc p a b (inv p b)
  rw [mul_inv h b hb.1 hb.2, mul_one_el ha.1, hz, mul_zero_left] at e
  exact ha.2 e.symm

theorem inv_un {p a : Int} {wd : Bool} (h : Md p wd) (ha : Un p a) : Un p (inv p a) := by
  have hp := h.bounds
  refine ⟨pow_el (by omega), fun hz => ?_⟩
  have e := mul_inv h a ha.1 ha.2
  rw [hz, ring_comm, mul_zero_left] at e
  omega

theorem inv_eq {p a x : Int} {wd : Bool} (h : Md p wd) (ha : Un p a) (hx : El p x) (hm : mul p a x = 1) : x = inv p a := by
  have hp := h.bounds
  exact IsInv.eq h ha.pos ha.1.2 ⟨hx, by have : (a * x) % p = 1 := hm; rw [this]; exact (Int.emod_eq_of_lt (by decide) (by omega)).symm⟩

/-- The inverse of a product, times the first, is the inverse of the second. -/
theorem apart_fst {p a x : Int} {wd : Bool} (h : Md p wd) (ha : Un p a) (hx : Un p x) : mul p a (inv p (mul p a x)) = inv p x := by
  have hp := h.bounds
  have hy := Un.mul h ha hx
  refine inv_eq h hx (mul_el (by omega)) ?_
  rw [← ring_assoc, ring_comm p x a, mul_inv h _ hy.1 hy.2]
/-- The inverse of a product, times the second, is the inverse of the first. -/
theorem apart_snd {p a x : Int} {wd : Bool} (h : Md p wd) (ha : Un p a) (hx : Un p x) : mul p (inv p (mul p a x)) x = inv p a := by
  have hp := h.bounds
  have hy := Un.mul h ha hx
  refine inv_eq h ha (mul_el (by omega)) ?_
  rw [ring_comm p (inv p (mul p a x)) x, ← ring_assoc, mul_inv h _ hy.1 hy.2]

/-- The product of the first k. -/
def pr (p : Int) (xs : List Int) (k : Nat) : Int := (xs.take k).foldl (fun s x => mul p s x) 1

theorem pr_zero (p : Int) (xs : List Int) : pr p xs 0 = 1 := rfl
theorem pr_succ (p : Int) (xs : List Int) (k : Nat) (h : k < xs.length) : pr p xs (k + 1) = mul p (pr p xs k) (xs.getD k 0) := by
  unfold pr
  rw [List.take_succ_eq_append_getElem h, List.foldl_append]
  simp [List.getD_eq_getElem?_getD, h]
theorem pr_un {p : Int} {wd : Bool} (h : Md p wd) (xs : List Int) (hx : ∀ i, i < xs.length → Un p (xs.getD i 0)) (k : Nat) (hk : k ≤ xs.length) : Un p (pr p xs k) := by
  have hp := h.bounds
  induction k with
  | zero => rw [pr_zero]; exact ⟨⟨by decide, by omega⟩, by decide⟩
  | succ k ih => rw [pr_succ p xs k (by omega)]; exact Un.mul h (ih (by omega)) (hx k (by omega))

theorem set_getD (ys : List Int) (k j : Nat) (v : Int) (hk : k < ys.length) : (ys.set k v).getD j 0 = if j = k then v else ys.getD j 0 := by
  simp only [List.getD_eq_getElem?_getD, List.getElem?_set]
  by_cases h : j = k
  · subst h; simp [hk]
  · have : ¬ k = j := fun e => h e.symm
    simp [h, this]

theorem ext_getD (a b : List Int) (hl : a.length = b.length) (h : ∀ j, j < a.length → a.getD j 0 = b.getD j 0) : a = b := by
  apply List.ext_getElem hl
  intro i h1 h2
  have := h i h1
  simpa [List.getD_eq_getElem?_getD, h1, h2] using this

theorem map_getD (f : Int → Int) (xs : List Int) (j : Nat) (h : j < xs.length) : (xs.map f).getD j 0 = f (xs.getD j 0) := by
  simp [List.getD_eq_getElem?_getD, h]

end Go.Proofs.Ytdegpefhegmamab.Fld
