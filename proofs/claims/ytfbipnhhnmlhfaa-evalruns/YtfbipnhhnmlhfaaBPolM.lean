/-
  Lists of words in memory: cut, owned, as polynomials.
-/
import Derived.Test.YtfbipnhhnmlhfaaBKqA
import Derived.Test.YtfbipnhhnmlhfaaBunP
import Derived.Laws.CopyOwn
namespace Go.Proofs.Ytfbipnhhnmlhfaa
open Go.RowKit Fld
set_option linter.unusedVariables false

/-- A list in memory, no longer than its room. -/
def Rw (w : World) (v : Value) (xs : List Int) : Prop := Row w v xs ∧ ∃ ao n cap, v = .slice ao n cap ∧ n ≤ cap
theorem Rw.below {w w' : World} {v : Value} {xs : List Int} (h : Rw w v xs) (hb : Below w.heap.size w w') : Rw w' v xs := ⟨h.1.below hb, h.2⟩
theorem Rw.spell {w : World} {v : Value} {xs : List Int} (h : Rw w v xs) : ∃ ao cap, v = .slice ao xs.length cap ∧ xs.length ≤ cap := by
  obtain ⟨⟨ao, cap, rfl, _⟩, a, n, c, h2, h3⟩ := h
  cases h2; exact ⟨_, _, rfl, h3⟩
theorem Rw.len {w : World} {v : Value} {xs : List Int} (h : Rw w v xs) : xs.length ≤ 17592186043904 := by obtain ⟨⟨_, _, _, h, _⟩, _⟩ := h; exact h
theorem Rw.words {w : World} {v : Value} {xs : List Int} (h : Rw w v xs) : ∀ x ∈ xs, 0 ≤ x ∧ x ≤ 18446744073709551615 := by obtain ⟨⟨_, _, _, _, h, _⟩, _⟩ := h; exact h
theorem Rw.take {w : World} {ao : Option Addr} {n cap : Nat} {xs : List Int} (h : Rw w (.slice ao n cap) xs) {k : Nat} (hk : k ≤ xs.length) : Rw w (.slice ao k cap) (xs.take k) := by
  obtain ⟨⟨ao', cap', h1, h2, h3, h4⟩, a, m, c, h5, h6⟩ := h
  cases h1; cases h5
  have hl : (xs.take k).length = k := by rw [List.length_take]; omega
  refine ⟨⟨ao, cap, by rw [hl], by omega, fun x hx => h3 x (List.mem_of_mem_take hx), fun hne => ?_⟩, _, _, _, rfl, by omega⟩
  have hk0 : 0 < k := by apply Nat.pos_of_ne_zero; intro h0; rw [h0] at hne; simp at hne
  obtain ⟨b, off, rfl, hb, hc⟩ := h4 (by intro h; rw [h] at hk; simp at hk; omega)
  refine ⟨b, off, rfl, hb, fun i hi => ?_⟩
  rw [hl] at hi
  rw [hc i (by omega)]
  simp [List.getD_eq_getElem?_getD, List.getElem?_take_of_lt hi]
/-- One place of it. -/
theorem Rw.one {w : World} {b off n cap : Nat} {xs : List Int} (h : Rw w (.slice (some ⟨b, off, none⟩) n cap) xs) {k : Nat} (hk : k < xs.length) : Rw w (.slice (some ⟨b, off + k, none⟩) 1 (cap - k)) [co xs k] := by
  obtain ⟨⟨ao', cap', h1, h2, h3, h4⟩, a, m, c, h5, h6⟩ := h
  cases h1; cases h5
  refine ⟨⟨_, _, rfl, by simp, fun x hx => ?_, fun _ => ?_⟩, _, _, _, rfl, by omega⟩
  · have hx := List.mem_singleton.1 hx
    rw [hx, co_at hk]; exact h3 _ (List.getElem_mem hk)
  · obtain ⟨b', off', h7, hb, hc⟩ := h4 (by intro h; rw [h] at hk; simp at hk)
    cases h7
    refine ⟨b, off + k, rfl, hb, fun i hi => ?_⟩
    have : i = 0 := by simp at hi; omega
    subst this
    exact hc k hk
theorem rw_of_own {w : World} {base : Nat} {v : Value} {n : Nat} {xs : List Int} (h : w.ownsRow base 49 1 v n (vals xs)) (hl : xs.length ≤ 17592186043904)
    (hw : ∀ x ∈ xs, 0 ≤ x ∧ x ≤ 18446744073709551615) : Rw w v xs := by
  refine ⟨row_of_own h (own_len h).symm hl hw, ?_⟩
  rcases h.2 with ⟨rfl, _⟩ | ⟨g, cap, cur, rfl, _, _, h1, _⟩
  · exact ⟨_, _, _, rfl, Nat.le_refl _⟩
  · exact ⟨_, _, _, rfl, h1⟩
theorem own_take {w : World} {base n cap : Nat} {ao : Option Addr} {ys : List Int} {T : TypeId} (h : w.ownsRow base T 1 (.slice ao n cap) n (vals ys)) {k : Nat} (hk : k ≤ n) : w.ownsRow base T 1 (.slice ao k cap) k (vals (ys.take k)) := by
  have hl := own_len h
  have e : (vals (ys.take k)).length = k * 1 := by rw [vals_length, List.length_take]; omega
  refine ⟨e, ?_⟩
  rcases h.2 with ⟨h1, h2⟩ | ⟨g, cap', cur, h1, h2, h3, h4, h5, h6, h7⟩
  · cases h1
    have : k = 0 := by omega
    subst this
    exact .inl ⟨rfl, rfl⟩
  · cases h1
    refine .inr ⟨g, cap, cur, rfl, h2, h3, by omega, h5, h6, ?_⟩
    have e2 : vals (ys.take k) = (vals ys).take (k * 1) := by unfold vals; rw [Nat.mul_one, List.map_take]
    rw [e2, ← h7, List.take_take]; congr 1; omega
theorem els_words {p : Int} {xs : List Int} (h : Els p xs) (hp : p ≤ 18446744073709551615) : ∀ x ∈ xs, 0 ≤ x ∧ x ≤ 18446744073709551615 := fun x hx => elWord (h x hx) hp
theorem els_of {p : Int} {xs : List Int} (h : allIn p xs = true) (hw : ∀ x ∈ xs, 0 ≤ x ∧ x ≤ 18446744073709551615) : Els p xs := fun x hx => by
  unfold allIn at h
  rw [List.all_eq_true] at h
  exact ⟨(hw x hx).1, by simpa using h x hx⟩
theorem allIn_of {p : Int} {xs : List Int} (h : Els p xs) : allIn p xs = true := by
  unfold allIn; rw [List.all_eq_true]; intro x hx; simpa using (h x hx).2
theorem tr_stop {xs : List Int} {n : Nat} (hn : n ≤ xs.length) (h0 : ∀ i, n ≤ i → i < xs.length → co xs i = 0) (h1 : n = 0 ∨ co xs (n - 1) ≠ 0) : (tr xs).length = n := by
  rw [← take_tr hn h0 h1, List.length_take]; omega
theorem take_tr_len (xs : List Int) : xs.take (tr xs).length = tr xs := take_tr (tr_len xs) (fun i h _ => tr_out xs i h) (by
  by_cases h : tr xs = []
  · left; rw [h]; rfl
  · right; exact tr_last xs h)

end Go.Proofs.Ytfbipnhhnmlhfaa
