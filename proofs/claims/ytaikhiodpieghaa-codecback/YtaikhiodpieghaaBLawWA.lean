import Derived.Test.YtaikhiodpieghaaBWirO
import Derived.Test.YtaikhiodpieghaaBWirM
set_option linter.unusedVariables false
set_option linter.unusedSimpArgs false
set_option maxRecDepth 100000
set_option maxHeartbeats 4000000
namespace Go.Proofs.Ytaikhiodpieghaa
open Go.RowKit Fld
def Ok8 (bs : List Int) : Prop := By bs ∧ bs.length <= 2097152
theorem usL_ok {bs : List Int} (hb : By bs) : Ok8 (usL sum8 bs) := by
 by_cases h : usE sum8 bs = 0
 · refine ⟨?_, by rw [usL_len h]; have := (usE_zero h).2.1; omega⟩
   unfold usL; rw [if_pos h]; exact (hb.drop 4).take _
 · unfold usL; rw [if_neg h]; exact ⟨By.nil, by simp⟩
theorem rlLo_ok {bs : List Int} (hb : By bs) : (rlLo bs).length <= 4096 ∧ ∀ x ∈ rlLo bs, 0 <= x ∧ x <= 18446744073709551615 := by
 by_cases h : rlE bs = 0
 · obtain ⟨_, hf, _, hn, _, _⟩ := rlE_zero h
   have hq := wF_or hf
   unfold rlLo; rw [if_pos h]
   exact ⟨by rw [rlX_len]; exact hn, rdL_words (by omega) _ _ (hb.drop 5)⟩
 · unfold rlLo; rw [if_neg h]; exact ⟨by simp, fun x hx => by cases hx⟩
theorem rlLo_row {bs : List Int} (hb : By bs) {w : World} {base : Nat} {v : Value} (ho : w.ownsRow base 48 1 v (rlLo bs).length (vals (rlLo bs))) : Row w v (rlLo bs) := row_of_own ho rfl (by have := (rlLo_ok hb).1; omega) (rlLo_ok hb).2
end Go.Proofs.Ytaikhiodpieghaa
