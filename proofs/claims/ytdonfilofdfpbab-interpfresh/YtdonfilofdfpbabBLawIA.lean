/-
  Layer 7: what the document fixes; InterpThrough's, InterpValues' and InterpChanges' walks.
-/
import Derived.Test.YtdonfilofdfpbabBIntL
import Derived.Test.YtdonfilofdfpbabBTreD
namespace Go.Proofs.Ytdonfilofdfpbab
open Go.RowKit Fld
set_option linter.unusedVariables false

theorem anc_bad : bad 1 [0, 1] [5, 7] 2 = 0 ∧ bad 1 [4, 4] [] 2 = 6 := by constructor <;> decide +kernel
theorem fi_small : Fi 1 2013265921 false := .inl ⟨rfl, rfl, rfl⟩
theorem els_two {p a b : Int} (ha : El p a) (hb : El p b) : Els p [a, b] := fun x hx => by
  have : x = a ∨ x = b := by simpa using hx
  rcases this with rfl | rfl
  · exact ha
  · exact hb
theorem anc_thr : thrL 1 [0, 1] [5, 7] = [5, 2] := by
  have e : thrL 1 [0, 1] [5, 7] = tp 2013265921 [0, 1] [5, 7] 2 := by
    unfold thrL
    rw [show bad 1 [0, 1] [5, 7] ([5, 7] : List Int).length = 0 from anc_bad.1, if_pos rfl]; rfl
  rw [e]
  have hx : Els 2013265921 [0, 1] := els_two ⟨by decide, by decide⟩ ⟨by decide, by decide⟩
  have hy : Els 2013265921 [5, 7] := els_two ⟨by decide, by decide⟩ ⟨by decide, by decide⟩
  have hn : ([0, 1] : List Int).Nodup := by decide
  have h1 := tp_thr fi_small.md hx hy hn
  have h2 : Thr 2013265921 [0, 1] [5, 7] [5, 2] := by
    refine ⟨⟨els_two ⟨by decide, by decide⟩ ⟨by decide, by decide⟩, by decide⟩, by decide, fun i hi => ?_⟩
    have : i = 0 ∨ i = 1 := by simp at hi; omega
    rcases this with rfl | rfl <;> decide
  exact h1.only fi_small.md hx hn h2
theorem wtsL_no : wtsL 1 [4, 4] = [] := by
  unfold wtsL
  rw [show bad 1 [4, 4] [] ([4, 4] : List Int).length = 6 from anc_bad.2]; rfl
theorem anc_through (w : World) (T : TypeId) :
    Calls Try.prog 5 #[.int .u8 1, .slice (some ⟨w.heap.size, 0, none⟩) 2 2, .slice (some ⟨w.heap.size + 1, 0, none⟩) 2 2] ((w.alloc (.cells #[.int .u64 0, .int .u64 1] T)).alloc (.cells #[.int .u64 5, .int .u64 7] T))
      fun e w' => ∃ v', e = .returned (.tuple #[v', .int .i64 0]) ∧ Row w' v' [5, 2] ∧ Below w.heap.size w w' := by
  have r1 := (rwT w 0 1 (by decide) (by decide) T).below (alloc_below _ (.cells #[.int .u64 5, .int .u64 7] T))
  have r2 := rwT (w.alloc (.cells #[.int .u64 0, .int .u64 1] T)) 5 7 (by decide) (by decide) T
  have e2 : (w.alloc (.cells #[.int .u64 0, .int .u64 1] T)).heap.size = w.heap.size + 1 := by simp
  have h := iThrough 1 _ _ [0, 1] [5, 7] _ r1 r2
  unfold Gives at h
  rw [e2, anc_thr, show bad 1 [0, 1] [5, 7] ([5, 7] : List Int).length = 0 from anc_bad.1] at h
  exact h.mono fun e w' ⟨v', he, hO, hb⟩ => ⟨v', he, row_of_own hO (by simp) (by simp) (by simp), below_one (below_one hb)⟩
theorem anc_weights (w : World) (T : TypeId) :
    Calls Try.prog 6 #[.int .u8 1, .slice (some ⟨w.heap.size, 0, none⟩) 2 2] (w.alloc (.cells #[.int .u64 4, .int .u64 4] T))
      fun e w' => ∃ v', e = .returned (.tuple #[v', .int .i64 6]) ∧ Below w.heap.size w w' := by
  have h := iWeights 1 _ [4, 4] _ (rwT w 4 4 (by decide) (by decide) T)
  unfold Gives at h
  rw [show bad 1 [4, 4] [] ([4, 4] : List Int).length = 6 from anc_bad.2] at h
  exact h.mono fun e w' ⟨v', he, hO, hb⟩ => ⟨v', he, below_one hb⟩

set_option maxHeartbeats 200000 in
theorem anch7 (w : World) : Calls Try.prog 11 #[] w fun e w' => e = .returned (.bool true) ∧ Below w.heap.size w w' := by
  have ht := hide (fun T => anc_through w T)
  have hv := hide (fun W T => anc_weights W T)
  have r2 := hide (fun W T => (rwT W 5 2 (by decide) (by decide) T).1)
  go_enter Try.func11, Try.ntmps11
  go_wp2_with fail
  refine (ht.out _).mono ?_; rintro e w1 ⟨v1, rfl, hr1, hb1⟩
  have R1 := hide hr1
  clear hr1
  go_wp2_with fail
  refine (hv.out _ _).mono ?_; rintro e w2 ⟨v2, rfl, hb2⟩
  have R1' := hide (R1.out.below hb2)
  have hB2 := Below.next hb1 hb2
  go_wp2_with fail
  refine (Same_yes v1 _ [5, 2] _ (R1'.out.below (alloc_below _ _)) (r2.out _ _)).mono ?_; rintro e w3 ⟨rfl, hb3⟩
  go_wp2
  go_ret
  exact ⟨rfl, Below.next hB2 (below_one hb3)⟩

theorem wtsL_wd (f : Int) {xs : List Int} (hl : xs.length ≤ 17592186043904) : Wd (wtsL f xs) := by
  unfold wtsL
  by_cases hz : bad f xs [] xs.length = 0
  · obtain ⟨p, wd, h, _⟩ := bad_zero hz
    rw [if_pos hz, pOf_eq h]
    exact wd_els (wts_els h.pos xs) h.top (by rw [wts_len]; exact hl)
  · rw [if_neg hz]; exact wd_nil
theorem basL_wd (f x : Int) {xs : List Int} (hl : xs.length ≤ 17592186043904) : Wd (basL f xs x) := by
  unfold basL
  by_cases hz : bad f xs [x] xs.length = 0
  · obtain ⟨p, wd, h, _⟩ := bad_zero hz
    rw [if_pos hz, pOf_eq h]
    exact wd_els (bsl_els h.pos xs x) h.top (by rw [bsl_len]; exact hl)
  · rw [if_neg hz]; exact wd_nil

/-- Two lists handed in as an array: their box. -/
theorem box2 (w : World) (v1 v2 : Value) (T : TypeId) : Below w.heap.size w (w.alloc (.cells #[v1, v2] T)) ∧ ∀ W, Below (w.alloc (.cells #[v1, v2] T)).heap.size (w.alloc (.cells #[v1, v2] T)) W → W.cell? ⟨w.heap.size, 0, none⟩ = some v1 ∧ W.cell? ⟨w.heap.size, 1, none⟩ = some v2 :=
  ⟨alloc_below w _, fun W hb => ⟨(hb.cell (p := ⟨w.heap.size, 0, none⟩) (by simp)).trans (by simp [go_sem]), (hb.cell (p := ⟨w.heap.size, 1, none⟩) (by simp)).trans (by simp [go_sem])⟩⟩

theorem chgL_wd (f : Int) {xs zs : List Int} : ∀ i, Wd ((chgL f xs zs).getD i []) := fun i => by
  unfold chgL
  by_cases hz : bac f xs zs = 0
  · obtain ⟨hb0, _⟩ := bac_zero hz
    obtain ⟨p, wd, h, _, _, _, hl, _⟩ := bad_zero hb0
    rw [if_pos hz, pOf_eq h, List.getD_eq_getElem?_getD, List.getElem?_map]
    cases zs[i]? with
    | none => exact wd_nil
    | some z => exact wd_els (zs := bsl p xs z) (bsl_els h.pos xs z) h.top (by rw [bsl_len]; omega)
  · rw [if_neg hz]; exact wd_nil
theorem chgL_len (f : Int) {xs zs : List Int} : (chgL f xs zs).length ≤ 512 := by
  unfold chgL
  by_cases hz : bac f xs zs = 0
  · rw [if_pos hz, List.length_map]; exact (bac_zero hz).2
  · rw [if_neg hz]; simp
theorem Rws.spell {w : World} {v : Value} {xss : List (List Int)} (h : Rws w v xss) : ∃ ao cap, v = .slice ao xss.length cap := by
  obtain ⟨ao, cap, h, _⟩ := h; exact ⟨ao, cap, h⟩

end Go.Proofs.Ytdonfilofdfpbab
