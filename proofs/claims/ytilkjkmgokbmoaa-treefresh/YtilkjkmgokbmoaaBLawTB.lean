/-
  Layer 6: what the document fixes; TreeValues' and TreeSlopes' walks.
-/
import Derived.Test.YtilkjkmgokbmoaaBTreM
import Derived.Test.YtilkjkmgokbmoaaBLawTA
namespace Go.Proofs.Ytilkjkmgokbmoaa
open Go.RowKit Fld
set_option linter.unusedVariables false

theorem rowT3 (w : World) (a b c : Int) (ha : 0 ≤ a ∧ a ≤ 18446744073709551615) (hb : 0 ≤ b ∧ b ≤ 18446744073709551615) (hc : 0 ≤ c ∧ c ≤ 18446744073709551615) (T : TypeId) :
    Rw (w.alloc (.cells #[.int .u64 a, .int .u64 b, .int .u64 c] T)) (.slice (some ⟨w.heap.size, 0, none⟩) 3 3) [a, b, c] :=
  ⟨⟨_, _, rfl, by simp, by simp [ha, hb, hc], fun _ => ⟨_, _, rfl, by simp, fun i hi => by
    have : i = 0 ∨ i = 1 ∨ i = 2 := by simp at hi; omega
    rcases this with rfl | rfl | rfl <;> simp [go_sem]⟩⟩, _, _, _, rfl, Nat.le_refl _⟩
theorem zeroL_wd (f : Int) (xs : List Int) : Wd (zeroL f xs) := by
  unfold zeroL
  by_cases he : chk f [xs] = 0
  · obtain ⟨p, wd, hf, _, hl⟩ := chk_one he
    rw [if_pos he, pOf_eq hf]; exact zl_wd hf.md hf.top xs (by omega)
  · rw [if_neg he]; exact wd_nil
theorem valsL_wd (f : Int) (P xs : List Int) : Wd (valsL f P xs) := by
  unfold valsL
  by_cases he : chk f [P, xs] = 0
  · obtain ⟨p, wd, hf, _, _, _, hl⟩ := chk_both he
    rw [if_pos he, pOf_eq hf]
    refine ⟨by rw [List.length_map]; omega, fun y hy => ?_⟩
    obtain ⟨x, _, rfl⟩ := List.mem_map.1 hy
    exact elWord (vl_el hf.pos x P) hf.top
  · rw [if_neg he]; exact wd_nil
theorem anc_z : chk 1 [[1, 2]] = 0 ∧ zeroL 1 [1, 2] = [2, 2013265918, 1] := by constructor <;> decide +kernel
theorem anc_v : chk 1 [[0, 0, 1], [2, 3]] = 0 ∧ valsL 1 [0, 0, 1] [2, 3] = [4, 9] := by constructor <;> decide +kernel
theorem anc_zero (w : World) (T : TypeId) :
    Calls Try.prog 9 #[.int .u8 1, .slice (some ⟨w.heap.size, 0, none⟩) 2 2] (w.alloc (.cells #[.int .u64 1, .int .u64 2] T))
      fun e w' => ∃ v', e = .returned (.tuple #[v', .int .i64 0]) ∧ Row w' v' [2, 2013265918, 1] ∧ Below w.heap.size w w' := by
  have h := tZero_any 1 _ [1, 2] _ (rwT w 1 2 (by decide) (by decide) T)
  unfold Gives at h
  have hw := zeroL_wd 1 [1, 2]
  rw [anc_z.1, anc_z.2] at h
  rw [anc_z.2] at hw
  exact h.mono fun e w' ⟨v', he, hO, hb⟩ => ⟨v', he, (hw.row hO).1, below_one hb⟩
theorem anc_vals (w : World) (T : TypeId) :
    Calls Try.prog 16 #[.int .u8 1, .slice (some ⟨w.heap.size, 0, none⟩) 3 3, .slice (some ⟨w.heap.size + 1, 0, none⟩) 2 2] ((w.alloc (.cells #[.int .u64 0, .int .u64 0, .int .u64 1] T)).alloc (.cells #[.int .u64 2, .int .u64 3] T))
      fun e w' => ∃ v', e = .returned (.tuple #[v', .int .i64 0]) ∧ Row w' v' [4, 9] ∧ Below w.heap.size w w' := by
  have r1 := (rowT3 w 0 0 1 (by decide) (by decide) (by decide) T).below (alloc_below _ (.cells #[.int .u64 2, .int .u64 3] T))
  have r2 := rwT (w.alloc (.cells #[.int .u64 0, .int .u64 0, .int .u64 1] T)) 2 3 (by decide) (by decide) T
  have h := tValues_any 1 _ _ [0, 0, 1] [2, 3] _ r1 r2
  unfold Gives at h
  have e2 : (w.alloc (.cells #[.int .u64 0, .int .u64 0, .int .u64 1] T)).heap.size = w.heap.size + 1 := by simp
  rw [e2] at h
  have hw := valsL_wd 1 [0, 0, 1] [2, 3]
  rw [anc_v.1, anc_v.2] at h
  rw [anc_v.2] at hw
  exact h.mono fun e w' ⟨v', he, hO, hb⟩ => ⟨v', he, (hw.row hO).1, below_one (below_one hb)⟩

set_option maxHeartbeats 200000 in
theorem anch6 (w : World) : Calls Try.prog 15 #[] w fun e w' => e = .returned (.bool true) ∧ Below w.heap.size w w' := by
  have hz := hide (fun T => anc_zero w T)
  have hv := hide (fun W T => anc_vals W T)
  have r3 := hide (fun W T => (rowT3 W 2 2013265918 1 (by decide) (by decide) (by decide) T).1)
  have r2 := hide (fun W T => (rwT W 4 9 (by decide) (by decide) T).1)
  go_enter Try.func15, Try.ntmps15
  go_wp2_with fail
  refine (hz.out _).mono ?_; rintro e w1 ⟨v1, rfl, hr1, hb1⟩
  have R1 := hide hr1
  clear hr1
  go_wp2_with fail
  refine (hv.out _ _).mono ?_; rintro e w2 ⟨v2, rfl, hr2, hb2⟩
  have R2 := hide hr2
  have R1' := hide (R1.out.below hb2)
  have hB2 := Below.next hb1 hb2
  clear hr2
  go_wp2_with fail
  refine (Same_yes v1 _ [2, 2013265918, 1] _ (R1'.out.below (alloc_below _ _)) (r3.out _ _)).mono ?_; rintro e w3 ⟨rfl, hb3⟩
  have hb3' := below_one hb3
  have R2' := hide (R2.out.below hb3')
  go_wp2_with fail
  refine (Same_yes v2 _ [4, 9] _ (R2'.out.below (alloc_below _ _)) (r2.out _ _)).mono ?_; rintro e w4 ⟨rfl, hb4⟩
  go_wp2
  go_ret
  exact ⟨rfl, Below.next (Below.next hB2 hb3') (below_one hb4)⟩

set_option maxRecDepth 100000 in
set_option maxHeartbeats 200000 in
theorem tvalues_any (f : Int) (v1 v2 : Value) (P xs : List Int) (w : World) (h1 : Rw w v1 P) (h2 : Rw w v2 xs) :
    Calls Try.prog 4 #[.int .u8 f, v1, v2] w fun e w' => e = .returned (.bool true) ∧ Below w.heap.size w w' := by
  have c1 := hide (tValues_any f v1 v2 P xs w h1 h2)
  have c2 := hide (fun W (hb : Below w.heap.size w W) => dValues_any f v1 v2 P xs W (h1.below hb) (h2.below hb))
  have ga := hide (fun W => anch6 W)
  have WS := hide (valsL_wd f P xs)
  obtain ⟨a1, k1, rfl, _⟩ := h1.spell
  obtain ⟨a2, k2, rfl, _⟩ := h2.spell
  unfold Gives at c1 c2
  clear h1 h2
  generalize chk f [P, xs] = e1 at *
  go_enter Try.func4, Try.ntmps4
  go_wp2_with fail
  refine c1.out.mono ?_; rintro e w1 ⟨v1, rfl, hO1, hb1⟩
  go_wp2_with fail
  refine (c2.out _ hb1).mono ?_; rintro e w2 ⟨v2, rfl, hO2, hb2⟩
  have r1 := hide (WS.out.row (own_below hO1 hb2)).1
  have r2 := hide (WS.out.row hO2).1
  have hB2 := Below.next hb1 hb2
  clear hO1 hO2
  go_wp2_with (first
    | (go_at_call 13; refine (Same_yes _ _ _ _ r1.out r2.out).mono ?_; rintro e w3 ⟨rfl, hb3⟩)
    | (go_at_call 15; refine (ga.out _).mono ?_; rintro e w4 ⟨rfl, hb4⟩))
  go_ret
  exact ⟨rfl, Below.next (Below.next hB2 hb3) hb4⟩

end Go.Proofs.Ytilkjkmgokbmoaa
