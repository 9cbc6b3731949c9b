/-
  The statements of layer 8: anchored; WireCounts, WireLists and WireSeals walked.
-/
import Derived.Test.YtcpgpncpapdlhabBWirO
import Derived.Test.YtcpgpncpapdlhabBWirM
import Derived.Test.YtcpgpncpapdlhabBunW
namespace Go.Proofs.Ytcpgpncpapdlhab
open Go.RowKit Fld
set_option linter.unusedVariables false

/-- Bytes that may lie in memory. -/
def Ok8 (bs : List Int) : Prop := By bs ∧ bs.length ≤ 2097152
theorem Ok8.rb {w : World} {base n : Nat} {v : Value} {bs : List Int} {T : TypeId} (h : Ok8 bs) (ho : w.ownsRow base T 1 v n (valb bs)) : Rb w v bs := rb_of_own ho h.1 (by have := h.2; omega)
theorem ctL_ok (n : Int) : Ok8 (ctL n) := by
  rcases ctE_or n with ⟨_, _, _, e⟩ | ⟨_, _, e⟩
  · rw [e]; exact ⟨wd8_by _ _, by rw [wd8_len]; omega⟩
  · rw [e]; exact ⟨By.nil, by simp⟩
theorem lsF_ok {f : Int} {l : List Int} (h : lsE f l = 0) : Ok8 (lsF f l) := by
  obtain ⟨hi, hl⟩ := lsE_zero h
  have hf := inW_field hi
  refine ⟨lsF_by hf l, ?_⟩
  rw [lsF_len]
  have := Nat.mul_le_mul hl (show wF f ≤ 8 by have := wF_or hf; omega)
  omega
theorem lsL_ok (f : Int) (l : List Int) : Ok8 (lsL f l) := by
  unfold lsL
  by_cases h : lsE f l = 0
  · rw [if_pos h]; exact lsF_ok h
  · rw [if_neg h]; exact ⟨By.nil, by simp⟩
theorem slL_ok {bs : List Int} (hb : By bs) : Ok8 (slL sum8 bs) := by
  rcases slE_or bs with ⟨_, _, e⟩ | ⟨hl, _, e⟩
  · rw [e]; exact ⟨By.nil, by simp⟩
  · rw [e]; exact ⟨slF_by _ hb, by rw [slF_len]; omega⟩
theorem usL_ok {bs : List Int} (hb : By bs) : Ok8 (usL sum8 bs) := by
  by_cases h : usE sum8 bs = 0
  · refine ⟨?_, by rw [usL_len h]; have := (usE_zero h).2.1; omega⟩
    unfold usL; rw [if_pos h]; exact (hb.drop 4).take _
  · unfold usL; rw [if_neg h]; exact ⟨By.nil, by simp⟩
theorem rlLo_ok {bs : List Int} (hb : By bs) : (rlLo bs).length ≤ 4096 ∧ ∀ x ∈ rlLo bs, 0 ≤ x ∧ x ≤ 18446744073709551615 := by
  by_cases h : rlE bs = 0
  · obtain ⟨_, hf, _, hn, _, _⟩ := rlE_zero h
    have hq := wF_or hf
    unfold rlLo; rw [if_pos h]
    exact ⟨by rw [rlX_len]; exact hn, rdL_words (by omega) _ _ (hb.drop 5)⟩
  · unfold rlLo; rw [if_neg h]; exact ⟨by simp, fun x hx => by cases hx⟩
theorem rlLo_row {bs : List Int} (hb : By bs) {w : World} {base : Nat} {v : Value} (ho : w.ownsRow base 35 1 v (rlLo bs).length (vals (rlLo bs))) : Row w v (rlLo bs) := row_of_own ho rfl (by have := (rlLo_ok hb).1; omega) (rlLo_ok hb).2

theorem rb_lit (w : World) (T : TypeId) (bs : List Int) (hb : By bs) (hl : bs.length ≤ 2097152) : Rb (w.alloc (.cells (valb bs).toArray T)) (.slice (some ⟨w.heap.size, 0, none⟩) bs.length bs.length) bs := by
  refine ⟨_, _, rfl, ⟨Nat.le_refl _, by omega, fun h => by cases h⟩, hb, fun _ => ⟨w.heap.size, 0, rfl, by simp, fun i hi => ?_⟩⟩
  rw [cell_of_row _ w.heap.size (0 + i) (valb bs).toArray T (0, 0) (heap_alloc_new w _), Nat.zero_add]
  simpa using valb_at bs i hi

set_option maxRecDepth 100000 in
set_option maxHeartbeats 400000 in
theorem anch8 (w : World) : Calls Try.prog 11 #[] w fun e w' => e = .returned (.bool true) ∧ Below w.heap.size w w' := by
  have HL := hide (wList 1 _ [1] _ ⟨by decide, by decide⟩ (row_one w 1 (by decide) 35))
  unfold GivesB at HL
  have e1 : lsE 1 [1] = 0 := by decide
  have e2 : lsL 1 [1] = [1, 0, 0, 0, 1, 0, 0, 0, 1] := by decide
  rw [e1, e2] at HL
  have hB1 := alloc_below w (.cells #[.int .u64 1] 35)
  have HC := hide (fun W T => wReadCount _ [128, 0, 0, 0] _ (rb_lit W T [128, 0, 0, 0] (by unfold By; decide) (by decide)))
  have f1 : rcE [128, 0, 0, 0] = 8 := by decide
  have f2 : rcN [128, 0, 0, 0] = 0 := by decide
  have f3 : rcS [128, 0, 0, 0] = 0 := by decide
  rw [f1, f2, f3] at HC
  have HO : Hid (∀ W base v, World.ownsRow W base 5 1 v 9 (valb [1, 0, 0, 0, 1, 0, 0, 0, 1]) → Rb W v [1, 0, 0, 0, 1, 0, 0, 0, 1]) := fun W base v ho => rb_of_own ho (by unfold By; decide) (by decide)
  have HS := hide (fun W v T (hr : Rb W v [1, 0, 0, 0, 1, 0, 0, 0, 1]) => rSame8 v _ _ [1, 0, 0, 0, 1, 0, 0, 0, 1] (W.alloc (.cells (valb [1, 0, 0, 0, 1, 0, 0, 0, 1]).toArray T)) (hr.below (alloc_below W _)) (rb_lit W T [1, 0, 0, 0, 1, 0, 0, 0, 1] (by unfold By; decide) (by decide)))
  have HM := hide (fun W => wSum (.slice none 0 0) [] W (rb_nil W))
  have g1 : sum8 [] = 14695981039346656037 := rfl
  rw [g1] at HM
  clear e1 e2 f1 f2 f3 g1
  go_enter Try.func11, Try.ntmps11
  go_wp2_with (first
    | (go_at_call 23; refine HL.out.mono ?_; rintro e w2 ⟨v2, rfl, ho2, hb2⟩; have hB2 := Below.next hB1 hb2)
    | (go_at_call 24; refine (HC.out _ _).mono ?_; rintro e w3 ⟨rfl, hb3⟩; have hb3' := Below.next (alloc_below w2 _) hb3; have hB3 := Below.next hB2 hb3'; have hr3 := (HO.out _ _ _ ho2).below hb3'; obtain ⟨a2, c2, hv2⟩ := own_form ho2; subst hv2)
    | (go_at_call 12; refine (HS.out _ _ _ hr3).mono ?_; rintro e w4 ⟨rfl, hw4⟩; subst hw4)
    | (go_at_call 14; refine (HM.out _).mono ?_; rintro e w5 ⟨rfl, hw5⟩; subst hw5))
  go_ret
  exact ⟨by simp, hB3.alloc hB3.size _⟩

end Go.Proofs.Ytcpgpncpapdlhab
