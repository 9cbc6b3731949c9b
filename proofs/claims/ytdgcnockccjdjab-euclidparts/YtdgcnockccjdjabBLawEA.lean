/-
  Euclid: the statements' own 'anchored'; EuclidRows, EuclidDivides and EuclidRatios, walked.
-/
import Derived.Test.YtdgcnockccjdjabBEucH
import Derived.Test.YtdgcnockccjdjabBEucL
namespace Go.Proofs.Ytdgcnockccjdjab
open Go.RowKit Fld
set_option linter.unusedVariables false

theorem small_fi : Fi 1 2013265921 false := .inl ⟨rfl, rfl, rfl⟩
theorem tm_small {xs : List Int} (h : (xs.all fun x => decide (0 ≤ x ∧ x < 2013265921)) = true) (h2 : tr xs = xs) : Tm 2013265921 xs := ⟨fun x hx => by
  have := of_decide_eq_true (List.all_eq_true.1 h x hx)
  exact ⟨this.1, this.2⟩, h2⟩
theorem anc_gc : Gc 2013265921 [2013265920, 0, 1] [2, 2] [1, 1] := by
  have e1 : prd 2013265921 [2013265920, 1] [1, 1] = [2013265920, 0, 1] := by decide +kernel
  have e2 : prd 2013265921 [2] [1, 1] = [2, 2] := by decide +kernel
  have e3 : prd 2013265921 [1006632961] [2, 2] = [1, 1] := by decide +kernel
  refine ⟨tm_small (by decide +kernel) (by decide +kernel), .inr (by decide), ⟨[2013265920, 1], by rw [← pl_mul, e1]⟩, ⟨[2], by rw [← pl_mul, e2]⟩, fun h _ hb => hb.trans ⟨[1006632961], by rw [← pl_mul, e3]⟩⟩
theorem anc_mo : Mo 2013265921 [2] [0, 1] [1006632961] true := by
  have e1 : prd 2013265921 [1006632961] [2] = [1] := by decide +kernel
  exact .inl ⟨rfl, tm_small (by decide +kernel) (by decide +kernel), by decide +kernel, [], [], by rw [← pl_mul, e1]⟩
theorem anc_ch : chE 1 [2013265920, 0, 1] [2, 2] = 0 ∧ moE 1 [2] [0, 1] = 0 := by constructor <;> decide +kernel

theorem rwE2 (w : World) (a b : Int) (ha : 0 ≤ a ∧ a ≤ 18446744073709551615) (hb : 0 ≤ b ∧ b ≤ 18446744073709551615) (T : TypeId) :
    Rw (w.alloc (.cells #[.int .u64 a, .int .u64 b] T)) (.slice (some ⟨w.heap.size, 0, none⟩) 2 2) [a, b] := ⟨row2 w a b ha hb T, _, _, _, rfl, Nat.le_refl _⟩
theorem rowE3 (w : World) (a b c : Int) (ha : 0 ≤ a ∧ a ≤ 18446744073709551615) (hb : 0 ≤ b ∧ b ≤ 18446744073709551615) (hc : 0 ≤ c ∧ c ≤ 18446744073709551615) (T : TypeId) :
    Row (w.alloc (.cells #[.int .u64 a, .int .u64 b, .int .u64 c] T)) (.slice (some ⟨w.heap.size, 0, none⟩) 3 3) [a, b, c] :=
  ⟨_, _, rfl, by simp, by simp [ha, hb, hc], fun _ => ⟨_, _, rfl, by simp, fun i hi => by
    have : i = 0 ∨ i = 1 ∨ i = 2 := by simp at hi; omega
    rcases this with rfl | rfl | rfl <;> simp [go_sem]⟩⟩

theorem anc_gcd (w : World) (T : TypeId) :
    Calls Try.prog 18 #[.int .u8 1, .slice (some ⟨w.heap.size, 0, none⟩) 3 3, .slice (some ⟨w.heap.size + 1, 0, none⟩) 2 2] ((w.alloc (.cells #[.int .u64 2013265920, .int .u64 0, .int .u64 1] T)).alloc (.cells #[.int .u64 2, .int .u64 2] T))
      fun e w' => ∃ v', e = .returned (.tuple #[v', .int .i64 0]) ∧ Row w' v' [1, 1] ∧ Below w.heap.size w w' := by
  have r1 : Rw (w.alloc (.cells #[.int .u64 2013265920, .int .u64 0, .int .u64 1] T)) (.slice (some ⟨w.heap.size, 0, none⟩) 3 3) [2013265920, 0, 1] := ⟨rowE3 w 2013265920 0 1 (by decide) (by decide) (by decide) T, _, _, _, rfl, Nat.le_refl _⟩
  have r1 := r1.below (alloc_below _ (.cells #[.int .u64 2, .int .u64 2] T))
  have r2 := rwE2 (w.alloc (.cells #[.int .u64 2013265920, .int .u64 0, .int .u64 1] T)) 2 2 (by decide) (by decide) T
  have h := eGCD_any 1 _ _ [2013265920, 0, 1] [2, 2] _ r1 r2
  have e2 : (w.alloc (.cells #[.int .u64 2013265920, .int .u64 0, .int .u64 1] T)).heap.size = w.heap.size + 1 := by simp
  rw [e2, anc_ch.1] at h
  refine h.mono fun e w' ⟨v', g, he, hr, hg, hb⟩ => ⟨v', he, ?_, below_one (below_one hb)⟩
  have h1 := hg.2 anc_ch.1
  have e : g = [1, 1] := Gc.only small_fi.md h1 anc_gc
  rw [← e]; exact hr.1
theorem anc_inv (w : World) (T : TypeId) :
    Calls Try.prog 19 #[.int .u8 1, .slice (some ⟨w.heap.size, 0, none⟩) 1 1, .slice (some ⟨w.heap.size + 1, 0, none⟩) 2 2] ((w.alloc (.cells #[.int .u64 2] T)).alloc (.cells #[.int .u64 0, .int .u64 1] T))
      fun e w' => ∃ v', e = .returned (.tuple #[v', .bool true, .int .i64 0]) ∧ Row w' v' [1006632961] ∧ Below w.heap.size w w' := by
  have r1 := (rw1 w 2 (by decide) T).below (alloc_below _ (.cells #[.int .u64 0, .int .u64 1] T))
  have r2 := rwE2 (w.alloc (.cells #[.int .u64 2] T)) 0 1 (by decide) (by decide) T
  have h := eModulo_any 1 _ _ [2] [0, 1] _ r1 r2
  have e2 : (w.alloc (.cells #[.int .u64 2] T)).heap.size = w.heap.size + 1 := by simp
  rw [e2, anc_ch.2] at h
  refine h.mono fun e w' ⟨v', i, ok, he, hr, hg, hb⟩ => ?_
  have h1 := hg.2 anc_ch.2
  obtain ⟨e1, e2⟩ := Mo.only small_fi.md (fun x hx => by
    have : x = 0 ∨ x = 1 := by simpa using hx
    rcases this with rfl | rfl
    · exact ⟨by decide, by decide⟩
    · exact ⟨by decide, by decide⟩) h1 anc_mo
  subst e1 e2
  exact ⟨v', he, hr.1, below_one (below_one hb)⟩

set_option maxHeartbeats 200000 in
theorem anch5 (w : World) : Calls Try.prog 7 #[] w fun e w' => e = .returned (.bool true) ∧ Below w.heap.size w w' := by
  have hg := hide (fun T => anc_gcd w T)
  have hi := hide (fun W T => anc_inv W T)
  have h2 := hide (fun W T => row2 W 1 1 (by decide) (by decide) T)
  have h1 := hide (fun W T => row1 W 1006632961 (by decide) T)
  go_enter Try.func7, Try.ntmps7
  go_wp2_with fail
  refine (hg.out _).mono ?_; rintro e w1 ⟨v1, rfl, hr1, hb1⟩
  have R1 := hide hr1
  clear hr1
  go_wp2_with fail
  refine (hi.out _ _).mono ?_; rintro e w2 ⟨v2, rfl, hr2, hb2⟩
  have R2 := hide hr2
  have R1 := hide (R1.out.below hb2)
  have hB2 := Below.next hb1 hb2
  clear hr2
  go_wp2_with fail
  refine (Same_yes v1 _ [1, 1] _ (R1.out.below (alloc_below _ _)) (h2.out _ _)).mono ?_; rintro e w3 ⟨rfl, hb3⟩
  have hb3 := below_one hb3
  have R2 := hide (R2.out.below hb3)
  have hB3 := Below.next hB2 hb3
  go_wp2_with fail
  refine (Same_yes v2 _ [1006632961] _ (R2.out.below (alloc_below _ _)) (h1.out _ _)).mono ?_; rintro e w4 ⟨rfl, hb4⟩
  go_wp2
  go_ret
  exact ⟨rfl, Below.next hB3 (below_one hb4)⟩

end Go.Proofs.Ytdgcnockccjdjab
