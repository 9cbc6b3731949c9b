import Derived.Test.YtnapbdoalfbgnaaGreatBunQ
import Derived.Test.YtnapbdoalfbgnaaGreatBunW
set_option linter.unusedVariables false
set_option linter.unusedSimpArgs false
set_option maxRecDepth 100000
set_option maxHeartbeats 4000000
namespace Go.Proofs.YtnapbdoalfbgnaaGreat
open Go.RowKit Fld
def Wd (zs : List Int) : Prop := zs.length ≤ 17592186043904 ∧ ∀ x ∈ zs, 0 ≤ x ∧ x ≤ 18446744073709551615
theorem Wd.row {w : World} {base n : Nat} {v : Value} {zs : List Int} (h : Wd zs) (hO : w.ownsRow base 42 1 v n (vals zs)) : Rw w v zs := rw_of_own hO h.1 h.2
theorem wd_nil : Wd [] := ⟨by simp, by simp⟩
theorem wd_els {p : Int} {zs : List Int} (h : Els p zs) (hp : p ≤ 18446744073709551615) (hl : zs.length ≤ 17592186043904) : Wd zs := ⟨hl, els_words h hp⟩
theorem addL_wd (f : Int) (xs ys : List Int) : Wd (addL f xs ys) := by
 unfold addL; split
 · rename_i he
   obtain ⟨p, wd, h, _, _, m1, m2⟩ := er_zero he
   rw [pOf_eq h]
   exact wd_els ((els_sm h.pos _ _ _).tr h.pos) h.top (Nat.le_trans (tr_len _) (by rw [sm_len]; omega))
 · exact wd_nil
theorem subL_wd (f : Int) (xs ys : List Int) : Wd (subL f xs ys) := by
 unfold subL; split
 · rename_i he
   obtain ⟨p, wd, h, _, _, m1, m2⟩ := er_zero he
   rw [pOf_eq h]
   exact wd_els ((els_sm h.pos _ _ _).tr h.pos) h.top (Nat.le_trans (tr_len _) (by rw [sm_len]; omega))
 · exact wd_nil
theorem mulE_zero {f : Int} {xs ys : List Int} (h : mulE f xs ys = 0) : er f xs ys = 0 ∧ (tr xs).length + (tr ys).length - 1 ≤ 4096 := by
 unfold mulE at h
 by_cases he : er f xs ys = 0
 · rw [if_pos he] at h
   refine ⟨he, ?_⟩
   by_cases hc : 4096 < (tr xs).length + (tr ys).length - 1
   · rw [if_pos hc] at h; cases h
   · omega
 · rw [if_neg he] at h; exact absurd h he
theorem mulL_len (f : Int) (xs ys : List Int) : (mulL f xs ys).length ≤ 4096 := by
 unfold mulL; split
 · rename_i he
   have := (mulE_zero he).2
   exact Nat.le_trans (prd_len_le _ _ _) this
 · simp
theorem mulL_wd (f : Int) (xs ys : List Int) : Wd (mulL f xs ys) := by
 have hl := mulL_len f xs ys
 unfold mulL at hl ⊢; split
 · rename_i he
   obtain ⟨p, wd, h, _, _, m1, m2⟩ := er_zero (mulE_zero he).1
   rw [if_pos he] at hl
   rw [pOf_eq h] at hl ⊢
   exact wd_els (els_prd h.pos _ _) h.top (by omega)
 · exact wd_nil
end Go.Proofs.YtnapbdoalfbgnaaGreat
