import Derived.Test.YteipgnkhbcogoaaBWirL
set_option linter.unusedVariables false
set_option linter.unusedSimpArgs false
set_option maxRecDepth 100000
set_option maxHeartbeats 4000000
namespace Go.Proofs.Yteipgnkhbcogoaa
open Go.RowKit Fld
theorem rBytes (v : Value) (bs : List Int) (w : World) (h : Rb w v bs) (hl : bs.length <= 140737488351232) :
 Calls Try.prog 32 #[v] w fun e w' => ∃ v', e = .returned v' ∧ w'.ownsRow w.heap.size 5 1 v' bs.length (valb bs) ∧ Below w.heap.size w w' := by
 obtain ⟨i0, hi0, hz0, hz1, hz2⟩ := info_parts u8_info
 have hown : (w.alloc (.cells #[] 5)).ownsRow w.heap.size 5 1 (.slice (some ⟨w.heap.size, 0, none⟩) 0 0) 0 (valb []) := own_empty w 5
 have hB := alloc_below w (.cells #[] 5)
 obtain ⟨ao, cap, rfl, _⟩ := h.spell
 cases ao with
 | none =>
  obtain ⟨hn0, hc0, hb0⟩ := h.none_
  subst hb0 hc0
  clear h hn0 hl
  go_enter Try.func32, Try.ntmps32
  go_wp2
  go_ret
  exact ⟨_, rfl, hown, hB⟩
 | some ad =>
  have HN := hide (h.news_alloc (.cells #[] 5))
  have HL : Hid ((valb bs).length = bs.length * 1) := by show _ = _; rw [valb_length, Nat.mul_one]
  have HV1 := hide (valb_one bs)
  clear h
  go_enter Try.func32, Try.ntmps32
  go_wp2_with (at_builtin; refine wpList_append_own _ rfl _ _ _ rfl w.heap.size 5 i0 _ 1 1 Try.underlying43 hi0 hz0 hz1 hz2 rfl (by omega) _ 0 (valb []) rfl hown ad bs.length cap (valb bs) rfl HL.out HN.out HV1.out (by unfold maxLen; omega) (by omega) (by simp) ?_; intro v' w1 hown1 hgrow _)
  go_ret
  exact ⟨_, rfl, by simpa [valb] using hown1, hB.grown hgrow (by simp) (fun k hk => by cases hk; exact Nat.le_refl _)⟩
end Go.Proofs.Yteipgnkhbcogoaa
