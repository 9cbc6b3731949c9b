/-
  Layer 8: lists read, the document's.
-/
import Derived.Test.YtcpgpncpapdlhabBWirN
import Derived.Test.YtcpgpncpapdlhabBWirI
namespace Go.Proofs.Ytcpgpncpapdlhab
open Go.RowKit Fld
set_option linter.unusedVariables false

theorem rdL_mem {q k : Nat} (bs : List Int) : ∀ n, k < n → tk8 ((bs.drop (k * q)).take q) ∈ rdL q n bs
  | 0, h => by omega
  | n + 1, h => by
    rw [rdL_snoc]
    by_cases hk : k = n
    · subst hk; exact List.mem_append_right _ List.mem_cons_self
    · exact List.mem_append_left _ (rdL_mem bs n (by omega))
theorem inW_one {f : Int} {l : List Int} (h : inW f l = true) {x : Int} (hx : x ∈ l) : inW f [x] = true := by
  unfold inW at *
  by_cases h1 : f = 1
  · rw [if_pos h1] at h ⊢
    simp only [List.all_cons, List.all_nil, Bool.and_true]; exact List.all_eq_true.1 h x hx
  · rw [if_neg h1] at h ⊢
    by_cases h2 : f = 2
    · rw [if_pos h2] at h ⊢
      simp only [List.all_cons, List.all_nil, Bool.and_true]; exact List.all_eq_true.1 h x hx
    · rw [if_neg h2] at h; cases h
theorem inW_snoc {f : Int} {l : List Int} {x : Int} (h : inW f l = true) (hx : inW f [x] = true) : inW f (l ++ [x]) = true := by
  unfold inW at *
  by_cases h1 : f = 1
  · rw [if_pos h1] at h hx ⊢
    rw [List.all_append, h, hx]; rfl
  · rw [if_neg h1] at h hx ⊢
    by_cases h2 : f = 2
    · rw [if_pos h2] at h hx ⊢
      rw [List.all_append, h, hx]; rfl
    · rw [if_neg h2] at h; cases h
theorem inW_nil {f : Int} (h : f = 1 ∨ f = 2) : inW f [] = true := by
  rcases h with rfl | rfl <;> rfl
theorem row_one (w : World) (x : Int) (hx : 0 ≤ x ∧ x ≤ 18446744073709551615) (T : TypeId) : Row (w.alloc (.cells #[.int .u64 x] T)) (.slice (some ⟨w.heap.size, 0, none⟩) 1 1) [x] := by
  refine ⟨_, 1, rfl, by simp, fun y hy => by rw [List.mem_singleton.1 hy]; exact hx, fun _ => ⟨w.heap.size, 0, rfl, by simp, fun i hi => ?_⟩⟩
  have : i = 0 := by simp at hi; omega
  subst this
  simp [go_sem]

theorem heap_two (w : World) (o1 o2 : Obj) : ((w.alloc o1).alloc o2).heap[w.heap.size + 1]? = some o2 := by
  have := heap_alloc_new (w.alloc o1) o2
  simpa using this

end Go.Proofs.Ytcpgpncpapdlhab
