/-
  The statements of layer 13: what the document fixes; PointsAll, PointsRows walked.
-/
import Derived.Test.YtnjcljnijgkoiaaGreatBunAU
import Derived.Test.YtnjcljnijgkoiaaGreatBLawIA
namespace Go.Proofs.YtnjcljnijgkoiaaGreat
open Go.RowKit Fld Pln
set_option linter.unusedVariables false
set_option linter.unusedSimpArgs false

theorem fi_one : Fi 1 2013265921 false := .inl ⟨rfl, rfl, rfl⟩
/-- The plan of the document's examples. -/
def fourP : Pn := { f := 1, n := 4, k := 2, t := 1, s := 0, e := 0, d := 1, w := 1 }
theorem four_ok : Ok8p fourP ∧ mayP fourP = true ∧ erP fourP = 0 ∧ wrkL fourP = [3, 4, 5, 6] ∧ innL fourP = [0, 1, 2] ∧ outL fourP = [3, 4, 5, 6] := by unfold Ok8p I64; decide +kernel
theorem bs_by {p x a b d : Int} {wd : Bool} {xs : List Int} {i : Nat} (hm : Md p wd) (h1 : dp p (co xs i) (xs.eraseIdx i) = a) (h2 : dp p x (xs.eraseIdx i) = b) (ha : Un p a) (hd : El p d) (h3 : mul p a d = 1) : bs p xs x i = mul p d b := by
  unfold bs wt
  rw [h1, h2, ← inv_eq hm ha hd h3]
theorem four_row : bsl 2013265921 [0, 1, 2] 3 = [1, 2013265918, 3] := by
  have hm := fi_one.md
  have b0 : bs 2013265921 [0, 1, 2] 3 0 = 1 := bs_by (a := 2) (b := 2) (d := 1006632961) hm (by decide +kernel) (by decide +kernel) (by unfold Un El; decide) (by unfold El; decide) (by decide +kernel)
  have b1 : bs 2013265921 [0, 1, 2] 3 1 = 2013265918 := bs_by (a := 2013265920) (b := 3) (d := 2013265920) hm (by decide +kernel) (by decide +kernel) (by unfold Un El; decide) (by unfold El; decide) (by decide +kernel)
  have b2 : bs 2013265921 [0, 1, 2] 3 2 = 3 := bs_by (a := 2) (b := 6) (d := 1006632961) hm (by decide +kernel) (by decide +kernel) (by unfold Un El; decide) (by unfold El; decide) (by decide +kernel)
  unfold bsl
  apply ext_co
  · rw [mk_len]; rfl
  · intro i hi
    rw [mk_len] at hi
    have : i = 0 ∨ i = 1 ∨ i = 2 := by simp at hi; omega
    rw [co_mk, if_pos hi]
    rcases this with rfl | rfl | rfl
    · exact b0
    · exact b1
    · exact b2
theorem four_rows : ∃ r1 r2 r3, rwsL fourP = [[1, 2013265918, 3], r1, r2, r3] := by
  have e : rwsL fourP = chgL 1 [0, 1, 2] [3, 4, 5, 6] := by
    have := four_ok
    unfold rwsL
    rw [if_pos this.2.1, this.2.2.2.2.1, this.2.2.2.2.2]; rfl
  have hb : bac 1 [0, 1, 2] [3, 4, 5, 6] = 0 := by
    have := row_bac four_ok.2.1
    rw [four_ok.2.2.2.2.1, four_ok.2.2.2.2.2] at this
    exact this
  rw [e]
  unfold chgL
  rw [if_pos hb, pOf_eq fi_one]
  exact ⟨bsl 2013265921 [0, 1, 2] 4, bsl 2013265921 [0, 1, 2] 5, bsl 2013265921 [0, 1, 2] 6, by simp only [List.map]; rw [four_row]⟩

theorem row_three (w : World) (a b c : Int) (ha : 0 ≤ a ∧ a ≤ 18446744073709551615) (hb : 0 ≤ b ∧ b ≤ 18446744073709551615) (hc : 0 ≤ c ∧ c ≤ 18446744073709551615) (T : TypeId) :
    Row (w.alloc (.cells #[.int .u64 a, .int .u64 b, .int .u64 c] T)) (.slice (some ⟨w.heap.size, 0, none⟩) 3 3) [a, b, c] :=
  ⟨_, _, rfl, by simp, by simp [ha, hb, hc], fun _ => ⟨_, _, rfl, by simp, fun i hi => by
    have : i = 0 ∨ i = 1 ∨ i = 2 := by simp at hi; omega
    rcases this with rfl | rfl | rfl <;> simp [go_sem]⟩⟩
theorem row_four (w : World) (a b c d : Int) (ha : 0 ≤ a ∧ a ≤ 18446744073709551615) (hb : 0 ≤ b ∧ b ≤ 18446744073709551615) (hc : 0 ≤ c ∧ c ≤ 18446744073709551615) (hd : 0 ≤ d ∧ d ≤ 18446744073709551615) (T : TypeId) :
    Row (w.alloc (.cells #[.int .u64 a, .int .u64 b, .int .u64 c, .int .u64 d] T)) (.slice (some ⟨w.heap.size, 0, none⟩) 4 4) [a, b, c, d] :=
  ⟨_, _, rfl, by simp, by simp [ha, hb, hc, hd], fun _ => ⟨_, _, rfl, by simp, fun i hi => by
    have : i = 0 ∨ i = 1 ∨ i = 2 ∨ i = 3 := by simp at hi; omega
    rcases this with rfl | rfl | rfl | rfl <;> simp [go_sem]⟩⟩
theorem pts_wd {a : Int} {n : Nat} (ha : 0 ≤ a) (hn : a + n ≤ 1000) : Wd (pts a n) := ⟨by rw [pts_len]; omega, pts_words ha hn⟩
theorem dat_wd (p : Pn) : Wd (datL p) ∧ Wd (padL p) ∧ Wd (wrkL p) := by
  unfold datL padL wrkL
  cases hm : mayP p with
  | false => exact ⟨wd_nil, wd_nil, wd_nil⟩
  | true =>
    obtain ⟨⟨n0, n1⟩, ⟨k0, k1⟩, ⟨t0, t1⟩, _⟩ := may_facts hm
    rw [if_pos rfl, if_pos rfl, if_pos rfl]
    exact ⟨pts_wd (by omega) (by omega), pts_wd (by omega) (by omega), pts_wd (by omega) (by omega)⟩
theorem rws_wd (p : Pn) : (∀ i, Wd ((rwsL p).getD i [])) ∧ (rwsL p).length ≤ 512 := by
  unfold rwsL
  cases hm : mayP p with
  | false => exact ⟨fun i => wd_nil, by simp⟩
  | true => rw [if_pos rfl]; exact ⟨fun i => chgL_wd _ i, chgL_len _⟩

end Go.Proofs.YtnjcljnijgkoiaaGreat
