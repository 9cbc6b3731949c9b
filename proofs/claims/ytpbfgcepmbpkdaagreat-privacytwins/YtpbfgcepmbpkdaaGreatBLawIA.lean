/-
  Layer 7: what the document fixes; InterpThrough's, InterpValues' and InterpChanges' walks.
-/
import Derived.Test.YtpbfgcepmbpkdaaGreatBunIC
import Derived.Test.YtpbfgcepmbpkdaaGreatBunYP
namespace Go.Proofs.YtpbfgcepmbpkdaaGreat
open Go.RowKit Fld
set_option linter.unusedVariables false

theorem wtsL_wd (f : Int) {xs : List Int} (hl : xs.length ≤ 17592186043904) : Wd (wtsL f xs) := by
  unfold wtsL
  by_cases hz : bad f xs [] xs.length = 0
  · obtain ⟨p, wd, h, _⟩ := bad_zero hz
    rw [if_pos hz, pOf_eq h]
    exact wd_els (wts_els h.pos xs) h.top (by rw [wts_len]; exact hl)
  · rw [if_neg hz]; exact wd_nil
theorem basL_wd (f x : Int) {xs : List Int} (hl : xs.length ≤ 17592186043904) : Wd (basL f xs x) := by
  unfold basL
  by_cases hz : bad f xs [x] xs.length = 0
  · obtain ⟨p, wd, h, _⟩ := bad_zero hz
    rw [if_pos hz, pOf_eq h]
    exact wd_els (bsl_els h.pos xs x) h.top (by rw [bsl_len]; exact hl)
  · rw [if_neg hz]; exact wd_nil

/-- Two lists handed in as an array: their box. -/
theorem box2 (w : World) (v1 v2 : Value) (T : TypeId) : Below w.heap.size w (w.alloc (.cells #[v1, v2] T)) ∧ ∀ W, Below (w.alloc (.cells #[v1, v2] T)).heap.size (w.alloc (.cells #[v1, v2] T)) W → W.cell? ⟨w.heap.size, 0, none⟩ = some v1 ∧ W.cell? ⟨w.heap.size, 1, none⟩ = some v2 :=
  ⟨alloc_below w _, fun W hb => ⟨(hb.cell (p := ⟨w.heap.size, 0, none⟩) (by simp)).trans (by simp [go_sem]), (hb.cell (p := ⟨w.heap.size, 1, none⟩) (by simp)).trans (by simp [go_sem])⟩⟩

theorem chgL_wd (f : Int) {xs zs : List Int} : ∀ i, Wd ((chgL f xs zs).getD i []) := fun i => by
  unfold chgL
  by_cases hz : bac f xs zs = 0
  · obtain ⟨hb0, _⟩ := bac_zero hz
    obtain ⟨p, wd, h, _, _, _, hl, _⟩ := bad_zero hb0
    rw [if_pos hz, pOf_eq h, List.getD_eq_getElem?_getD, List.getElem?_map]
    cases zs[i]? with
    | none => exact wd_nil
    | some z => exact wd_els (zs := bsl p xs z) (bsl_els h.pos xs z) h.top (by rw [bsl_len]; omega)
  · rw [if_neg hz]; exact wd_nil
theorem chgL_len (f : Int) {xs zs : List Int} : (chgL f xs zs).length ≤ 512 := by
  unfold chgL
  by_cases hz : bac f xs zs = 0
  · rw [if_pos hz, List.length_map]; exact (bac_zero hz).2
  · rw [if_neg hz]; simp
theorem Rws.spell {w : World} {v : Value} {xss : List (List Int)} (h : Rws w v xss) : ∃ ao cap, v = .slice ao xss.length cap := by
  obtain ⟨ao, cap, h, _⟩ := h; exact ⟨ao, cap, h⟩

end Go.Proofs.YtpbfgcepmbpkdaaGreat
