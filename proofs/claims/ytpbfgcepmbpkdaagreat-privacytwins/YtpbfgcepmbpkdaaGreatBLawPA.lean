/-
  What the statements of polynomials take: lists of words; the statements' own 'anchored'.
-/
import Derived.Test.YtpbfgcepmbpkdaaGreatBunQ
import Derived.Test.YtpbfgcepmbpkdaaGreatBunW
namespace Go.Proofs.YtpbfgcepmbpkdaaGreat
open Go.RowKit Fld
set_option linter.unusedVariables false

/-- A list of words, of a length that memory has. -/
def Wd (zs : List Int) : Prop := zs.length ≤ 17592186043904 ∧ ∀ x ∈ zs, 0 ≤ x ∧ x ≤ 18446744073709551615
theorem Wd.row {w : World} {base n : Nat} {v : Value} {zs : List Int} (h : Wd zs) (hO : w.ownsRow base 50 1 v n (vals zs)) : Rw w v zs := rw_of_own hO h.1 h.2
theorem wd_nil : Wd [] := ⟨by simp, by simp⟩
theorem wd_els {p : Int} {zs : List Int} (h : Els p zs) (hp : p ≤ 18446744073709551615) (hl : zs.length ≤ 17592186043904) : Wd zs := ⟨hl, els_words h hp⟩
theorem addL_wd (f : Int) (xs ys : List Int) : Wd (addL f xs ys) := by
  unfold addL; split
  · rename_i he
    obtain ⟨p, wd, h, _, _, m1, m2⟩ := er_zero he
    rw [pOf_eq h]
    exact wd_els ((els_sm h.pos _ _ _).tr h.pos) h.top (Nat.le_trans (tr_len _) (by rw [sm_len]; omega))
  · exact wd_nil
theorem subL_wd (f : Int) (xs ys : List Int) : Wd (subL f xs ys) := by
  unfold subL; split
  · rename_i he
    obtain ⟨p, wd, h, _, _, m1, m2⟩ := er_zero he
    rw [pOf_eq h]
    exact wd_els ((els_sm h.pos _ _ _).tr h.pos) h.top (Nat.le_trans (tr_len _) (by rw [sm_len]; omega))
  · exact wd_nil
theorem sclL_wd (f c : Int) (xs : List Int) : Wd (sclL f c xs) := by
  unfold sclL; split
  · rename_i he
    obtain ⟨p, wd, h, _, _, m1, m2⟩ := er_zero he
    rw [pOf_eq h]
    exact wd_els ((els_sm h.pos _ _ _).tr h.pos) h.top (Nat.le_trans (tr_len _) (by rw [sm_len]; simp; omega))
  · exact wd_nil
theorem mulE_zero {f : Int} {xs ys : List Int} (h : mulE f xs ys = 0) : er f xs ys = 0 ∧ (tr xs).length + (tr ys).length - 1 ≤ 4096 := by
  unfold mulE at h
  by_cases he : er f xs ys = 0
  · rw [if_pos he] at h
    refine ⟨he, ?_⟩
    by_cases hc : 4096 < (tr xs).length + (tr ys).length - 1
    · rw [if_pos hc] at h; cases h
    · omega
  · rw [if_neg he] at h; exact absurd h he
theorem mulL_len (f : Int) (xs ys : List Int) : (mulL f xs ys).length ≤ 4096 := by
  unfold mulL; split
  · rename_i he
    have := (mulE_zero he).2
    exact Nat.le_trans (prd_len_le _ _ _) this
  · simp
theorem mulL_wd (f : Int) (xs ys : List Int) : Wd (mulL f xs ys) := by
  have hl := mulL_len f xs ys
  unfold mulL at hl ⊢; split
  · rename_i he
    obtain ⟨p, wd, h, _, _, m1, m2⟩ := er_zero (mulE_zero he).1
    rw [if_pos he] at hl
    rw [pOf_eq h] at hl ⊢
    exact wd_els (els_prd h.pos _ _) h.top (by omega)
  · exact wd_nil

theorem rw2 (w : World) (a b : Int) (ha : 0 ≤ a ∧ a ≤ 18446744073709551615) (hb : 0 ≤ b ∧ b ≤ 18446744073709551615) (T : TypeId) :
    Rw (w.alloc (.cells #[.int .u64 a, .int .u64 b] T)) (.slice (some ⟨w.heap.size, 0, none⟩) 2 2) [a, b] := ⟨row2 w a b ha hb T, _, _, _, rfl, Nat.le_refl _⟩
theorem row3 (w : World) (a b c : Int) (ha : 0 ≤ a ∧ a ≤ 18446744073709551615) (hb : 0 ≤ b ∧ b ≤ 18446744073709551615) (hc : 0 ≤ c ∧ c ≤ 18446744073709551615) (T : TypeId) :
    Row (w.alloc (.cells #[.int .u64 a, .int .u64 b, .int .u64 c] T)) (.slice (some ⟨w.heap.size, 0, none⟩) 3 3) [a, b, c] :=
  ⟨_, _, rfl, by simp, by simp [ha, hb, hc], fun _ => ⟨_, _, rfl, by simp, fun i hi => by
    have : i = 0 ∨ i = 1 ∨ i = 2 := by simp at hi; omega
    rcases this with rfl | rfl | rfl <;> simp [go_sem]⟩⟩
theorem anc_m : mulE 2 [1, 1] [1, 1] = 0 ∧ mulL 2 [1, 1] [1, 1] = [1, 2, 1] := by constructor <;> decide +kernel
theorem anc_e : er 1 [2013265921] [1] = 2 ∧ valE 1 1 [2013265921] = 0 := by constructor <;> decide +kernel
theorem anc_mul (w : World) (T : TypeId) :
    Calls Tryz.prog 154 #[.int .u8 2, .slice (some ⟨w.heap.size, 0, none⟩) 2 2, .slice (some ⟨w.heap.size + 1, 0, none⟩) 2 2] ((w.alloc (.cells #[.int .u64 1, .int .u64 1] T)).alloc (.cells #[.int .u64 1, .int .u64 1] T))
      fun e w' => ∃ v', e = .returned (.tuple #[v', .int .i64 0]) ∧ Row w' v' [1, 2, 1] ∧ Below w.heap.size w w' := by
  have r1 := (rw2 w 1 1 (by decide) (by decide) T).below (alloc_below _ (.cells #[.int .u64 1, .int .u64 1] T))
  have r2 := rw2 (w.alloc (.cells #[.int .u64 1, .int .u64 1] T)) 1 1 (by decide) (by decide) T
  have h := pMul_any 2 _ _ [1, 1] [1, 1] _ r1 r2
  unfold Gives at h
  have e2 : (w.alloc (.cells #[.int .u64 1, .int .u64 1] T)).heap.size = w.heap.size + 1 := by simp
  rw [e2] at h
  have hw := mulL_wd 2 [1, 1] [1, 1]
  rw [anc_m.1, anc_m.2] at h
  rw [anc_m.2] at hw
  exact h.mono fun e w' ⟨v', he, hO, hb⟩ => ⟨v', he, (hw.row hO).1, below_one (below_one hb)⟩
theorem anc_eval (w : World) (T : TypeId) :
    Calls Tryz.prog 122 #[.int .u8 1, .slice (some ⟨w.heap.size, 0, none⟩) 1 1, .int .u64 1] (w.alloc (.cells #[.int .u64 2013265921] T))
      fun e w' => e = .returned (.tuple #[.int .u64 0, .int .i64 2]) ∧ Below w.heap.size w w' := by
  have h := pEval_any 1 1 _ [2013265921] _ (by decide) (rw1 w 2013265921 (by decide) T)
  rw [anc_e.1, anc_e.2] at h
  exact h.mono fun e w' ⟨he, hb⟩ => ⟨he, below_one hb⟩

end Go.Proofs.YtpbfgcepmbpkdaaGreat
