/-
  PolyTrims' walk.
-/
import Derived.Test.YtdegpefhegmamaaPolF
import Derived.Test.YtdegpefhegmamaaSame
namespace Go.Proofs.Ytdegpefhegmamaa
open Go.RowKit Fld
set_option linter.unusedVariables false

theorem tr_words {xs : List Int} (h : ∀ x ∈ xs, 0 ≤ x ∧ x ≤ 18446744073709551615) : ∀ x ∈ tr xs, 0 ≤ x ∧ x ≤ 18446744073709551615 := by
  intro x hx
  rw [← take_tr_len] at hx
  exact h x (List.mem_of_mem_take hx)

set_option maxHeartbeats 200000 in
theorem trims_any (v : Value) (xs : List Int) (w : World) (hr : Rw w v xs) :
    Calls Try.prog 3 #[v] w fun e w' => e = .returned (.bool true) ∧ Below w.heap.size w w' := by
  have T1 := hide (Trim_any v xs w hr)
  have T2 := hide (fun W (hb : Below w.heap.size w W) => rTrim_any v xs W (hr.below hb))
  have HD := hide (fun W (hb : Below w.heap.size w W) => Degree_any v xs W (hr.below hb))
  have HR := hide (fun W u n base (hO : World.ownsRow W base 34 1 u n (vals (tr xs))) => rw_of_own hO (Nat.le_trans (tr_len xs) hr.len) (tr_words hr.words))
  have hl := Nat.le_trans (tr_len xs) hr.len
  clear hr
  generalize tr xs = zs at *
  go_enter Try.func3, Try.ntmps3
  go_wp2_with fail
  refine T1.out.mono ?_; rintro e w1 ⟨v1, rfl, hO1, hb1⟩
  go_wp2_with fail
  refine (T2.out _ hb1).mono ?_; rintro e w2 ⟨v2, rfl, hO2, hb2⟩
  have hB2 := Below.next hb1 hb2
  have R1 := hide ((HR.out _ _ _ _ hO1).below hb2)
  have R2 := hide (HR.out _ _ _ _ hO2)
  go_wp2_with fail
  refine (Same_yes v1 v2 zs _ R1.out.1 R2.out.1).mono ?_; rintro e w3 ⟨rfl, hb3⟩
  have hB3 := Below.next hB2 hb3
  clear hO1 hO2 R1 R2 hb1 hb2 hb3 hB2
  go_wp2_with fail
  refine (HD.out _ hB3).mono ?_; rintro e w4 ⟨rfl, hb4⟩
  have hB4 := Below.next hB3 hb4
  go_wp2_with fail
  refine (T2.out _ hB4).mono ?_; rintro e w5 ⟨v5, rfl, hO5, hb5⟩
  have hB5 := Below.next hB4 hb5
  obtain ⟨a5, c5, rfl, _⟩ := (HR.out _ _ _ _ hO5).spell
  clear hO5
  go_wp2
  go_ret
  exact ⟨by simp, hB5⟩

end Go.Proofs.Ytdegpefhegmamaa
