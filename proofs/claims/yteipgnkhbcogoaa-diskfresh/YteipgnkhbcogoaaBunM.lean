import Derived.Test.YteipgnkhbcogoaaBunQ
set_option linter.unusedVariables false
set_option linter.unusedSimpArgs false
set_option maxRecDepth 100000
set_option maxHeartbeats 4000000
namespace Go.Proofs.Yteipgnkhbcogoaa
open Go.RowKit
def Lm {α : Type} (f : α -> List Value) (sz : Nat) (w : World) (v : Value) (xs : List α) : Prop :=
 ∃ ao cap, v = .slice ao xs.length cap ∧ (xs.length <= cap ∧ xs.length <= 140737488500000 ∧ (ao = none -> cap = 0)) ∧
  (xs ≠ [] -> ∃ b off, ao = some ⟨b, off, none⟩ ∧ b < w.heap.size ∧ ∀ i x, xs[i]? = some x -> ∀ j u, (f x)[j]? = some u -> w.cell? ⟨b, off + (i * sz + j), none⟩ = some u)
theorem Lm.spell {α : Type} {f : α -> List Value} {sz : Nat} {w : World} {v : Value} {xs : List α} (h : Lm f sz w v xs) : ∃ ao cap, v = .slice ao xs.length cap ∧ xs.length <= cap := by
 obtain ⟨ao, cap, h1, h2, _⟩ := h; exact ⟨ao, cap, h1, h2.1⟩
theorem Lm.form {α : Type} {f : α -> List Value} {sz : Nat} {w : World} {v : Value} {xs : List α} (h : Lm f sz w v xs) (h0 : 0 < xs.length) : ∃ b off cap, v = .slice (some ⟨b, off, none⟩) xs.length cap ∧ xs.length <= cap ∧ b < w.heap.size := by
 obtain ⟨ao, cap, rfl, h1, h3⟩ := h
 obtain ⟨b, off, rfl, hb, _⟩ := h3 (by intro h; rw [h] at h0; simp at h0)
 exact ⟨b, off, cap, rfl, h1.1, hb⟩
theorem Lm.at_ {α : Type} {f : α -> List Value} {sz : Nat} {w : World} {b off n cap : Nat} {xs : List α} (h : Lm f sz w (.slice (some ⟨b, off, none⟩) n cap) xs) {i j : Nat} {x : α} {u : Value} (hx : xs[i]? = some x) (hu : (f x)[j]? = some u) : b < w.heap.size ∧ w.cell? ⟨b, off + (i * sz + j), none⟩ = some u := by
 obtain ⟨ao, cap', h1, h2, h4⟩ := h
 cases h1
 obtain ⟨b', off', h5, hb, hc⟩ := h4 (by intro h; rw [h] at hx; simp at hx)
 cases h5
 exact ⟨hb, hc i x hx j u hu⟩
theorem lm_nil {α : Type} (f : α -> List Value) (sz : Nat) (w : World) : Lm f sz w (.slice none 0 0) [] := ⟨none, 0, rfl, ⟨Nat.le_refl _, by simp, fun _ => rfl⟩, fun h => absurd rfl h⟩
theorem flat_get {α : Type} (f : α -> List Value) (sz : Nat) (hf : ∀ x, (f x).length = sz) : ∀ (xs : List α) (i : Nat) (x : α) (j : Nat), xs[i]? = some x -> j < sz -> (xs.flatMap f)[i * sz + j]? = (f x)[j]?
 | [], i, x, j, hx, _ => by simp at hx
 | y :: xs, 0, x, j, hx, hj => by
  have : y = x := by simpa using hx
  subst this
  rw [List.flatMap_cons, Nat.zero_mul, Nat.zero_add, List.getElem?_append_left (by rw [hf]; exact hj)]
 | y :: xs, i + 1, x, j, hx, hj => by
  have h2 : xs[i]? = some x := by simpa using hx
  rw [List.flatMap_cons, List.getElem?_append_right (by rw [hf, Nat.add_mul]; omega), hf, <- flat_get f sz hf xs i x j h2 hj]
  congr 1
  rw [Nat.add_mul]; omega
theorem flat_len {α : Type} (f : α -> List Value) (sz : Nat) (hf : ∀ x, (f x).length = sz) (xs : List α) : (xs.flatMap f).length = xs.length * sz := by
 induction xs with
 | nil => simp
 | cons x xs ih => rw [List.flatMap_cons, List.length_append, hf, ih, List.length_cons, Nat.add_mul]; omega
end Go.Proofs.Yteipgnkhbcogoaa
