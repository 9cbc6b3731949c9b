/-
  FieldRing's walk.
-/
import Derived.Test.YtepbfcioocohgabElems
import Derived.Test.YtepbfcioocohgabModL
import Derived.Deep.QuietTactic
import Derived.BigQuiet
namespace Go.Proofs.Ytepbfcioocohgab
open Go.RowKit Fld
set_option linter.unusedVariables false

theorem row3 (w : World) (a b c : Int) (ha : 0 ≤ a ∧ a ≤ 18446744073709551615) (hb : 0 ≤ b ∧ b ≤ 18446744073709551615) (hc : 0 ≤ c ∧ c ≤ 18446744073709551615) (T : TypeId) :
    Row (w.alloc (.cells #[.int .u64 a, .int .u64 b, .int .u64 c] T)) (.slice (some ⟨w.heap.size, 0, none⟩) 3 3) [a, b, c] :=
  ⟨_, _, rfl, by simp, by simp [ha, hb, hc], fun _ => ⟨_, _, rfl, by simp, fun i hi => by
    have : i = 0 ∨ i = 1 ∨ i = 2 := by simp at hi; omega
    rcases this with rfl | rfl | rfl <;> simp [go_sem]⟩⟩

theorem Gi_fi (f : Int) (hf : 0 ≤ f) : ∃ g p wd, Gi f g ∧ Fi g p wd := by
  by_cases h : f % 2 = 0
  · exact ⟨2, _, _, .inl ⟨h, rfl⟩, .inr ⟨rfl, rfl, rfl⟩⟩
  · exact ⟨1, _, _, .inr ⟨by omega, rfl⟩, .inl ⟨rfl, rfl, rfl⟩⟩

theorem mod_el {p : Int} (hp : 0 < p) (a : Int) : El p (a % p) := ⟨Int.emod_nonneg _ (by omega), Int.emod_lt_of_pos _ hp⟩

theorem mod_words {p : Int} (hp : 0 < p) (hp1 : p ≤ 18446744073709551615) (xs : List Int) : ∀ x ∈ xs.map (· % p), 0 ≤ x ∧ x ≤ 18446744073709551615 := by
  intro x hx
  obtain ⟨y, _, rfl⟩ := List.mem_map.1 hx
  have := mod_el hp y
  exact ⟨this.1, by have := this.2; omega⟩

/-- What 'elements' hands back, as a list in memory. -/
theorem elements_row (f g p : Int) (wd : Bool) (v : Value) (xs : List Int) (w : World) (hf : 0 ≤ f ∧ f ≤ 255) (hg : Gi f g) (hfi : Fi g p wd) (hr : Row w v xs) :
    Calls Try.prog 4 #[.int .u8 f, v] w fun e w' => ∃ v', e = .returned (.tuple #[.int .u8 g, v']) ∧ Row w' v' (xs.map (· % p)) ∧
      (∀ k, v'.ownBlock = some k → w.heap.size ≤ k) ∧ Below w.heap.size w w' := by
  have hlen : xs.length ≤ 17592186043904 := by obtain ⟨_, _, _, h, _⟩ := hr; exact h
  refine (elements_any f g p wd v xs w hf hg hfi hr).mono ?_
  rintro e w' ⟨v', rfl, hown, hB⟩
  exact ⟨v', rfl, row_of_own hown (by simp) (by simpa using hlen) (mod_words hfi.pos hfi.top xs), own_base hown, hB⟩

end Go.Proofs.Ytepbfcioocohgab
