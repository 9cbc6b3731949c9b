import Derived.Test.YtpibiagohfnbmaaBunNA
import Derived.Deep.RegionHeld3
import Derived.Deep.CutBlock
set_option linter.unusedVariables false
set_option linter.unusedSimpArgs false
set_option maxRecDepth 100000
set_option maxHeartbeats 4000000
namespace Go.Proofs.Ytpibiagohfnbmaa
open Go.RowKit Pln
theorem fd_btw (f : Int) : fdB f = btw f 1 2 := by
 unfold fdB btw
 rw [Bool.eq_iff_iff]
 simp only [Bool.or_eq_true, beq_iff_eq, decide_eq_true_iff]
 omega
theorem dWithin (n a b : Int) (w : World) : Calls Try.prog 22 #[.int .i64 n, .int .i64 a, .int .i64 b] w fun e w' => e = .returned (.bool (btw n a b)) ∧ w' = w := by
 by_cases h1 : a <= n <;> by_cases h2 : n <= b
 all_goals
  go_enter Try.func22, Try.ntmps22
  go_wp2
  all_goals
   go_ret
   refine ⟨?_, rfl⟩
   simp_all [btw]
   try omega
theorem dMayP (p : Pn) (h : Ok8p p) : Ans 16 #[plv p] (.bool (mayP p)) := by
 intro w
 rw [mayP_all, fd_btw]
 obtain ⟨⟨hf0, hf1⟩, _, hk, _⟩ := h
 unfold I64 at hk
 have H0 := hide (dWithin p.f 1 2)
 have H1 := hide (dWithin p.n 1 64)
 have H2 := hide (dWithin p.k 1 64)
 have H3 := hide (dWithin p.w 1 64)
 have H4 := hide (dWithin p.t 0 (64 - p.k))
 have H5 := hide (dWithin p.s 0 64)
 have H6 := hide (dWithin p.e 0 64)
 have H7 := hide (dWithin p.d 0 1024)
 have hkb : btw p.k 1 64 = true -> 1 <= p.k ∧ p.k <= 64 := fun h => of_decide_eq_true h
 have HK := hide hkb
 clear hkb
 generalize btw p.f 1 2 = b0 at *
 generalize btw p.n 1 64 = b1 at *
 generalize btw p.k 1 64 = b2 at *
 generalize btw p.w 1 64 = b3 at *
 generalize btw p.t 0 (64 - p.k) = b4 at *
 generalize btw p.s 0 64 = b5 at *
 generalize btw p.e 0 64 = b6 at *
 generalize btw p.d 0 1024 = b7 at *
 unfold plv plw
 have hcs : b0 = false ∨ (b0 = true ∧ b1 = false) ∨ (b0 = true ∧ b1 = true ∧ b2 = false) ∨ (b0 = true ∧ b1 = true ∧ b2 = true ∧ b3 = false) ∨ (b0 = true ∧ b1 = true ∧ b2 = true ∧ b3 = true ∧ b4 = false) ∨ (b0 = true ∧ b1 = true ∧ b2 = true ∧ b3 = true ∧ b4 = true ∧ b5 = false) ∨ (b0 = true ∧ b1 = true ∧ b2 = true ∧ b3 = true ∧ b4 = true ∧ b5 = true ∧ b6 = false) ∨ (b0 = true ∧ b1 = true ∧ b2 = true ∧ b3 = true ∧ b4 = true ∧ b5 = true ∧ b6 = true) := by
  cases b0 <;> cases b1 <;> cases b2 <;> cases b3 <;> cases b4 <;> cases b5 <;> cases b6 <;> decide
 rcases hcs with rfl | ⟨rfl, rfl⟩ | ⟨rfl, rfl, rfl⟩ | ⟨rfl, rfl, rfl, rfl⟩ | ⟨rfl, rfl, rfl, rfl, rfl⟩ | ⟨rfl, rfl, rfl, rfl, rfl, rfl⟩ | ⟨rfl, rfl, rfl, rfl, rfl, rfl, rfl⟩ | ⟨rfl, rfl, rfl, rfl, rfl, rfl, rfl⟩
 all_goals
  try have hk2 := HK.out rfl
  go_enter Try.func16, Try.ntmps16
  go_wp2_with (first
   | (go_at_call 22; with_reducible refine (H0.out _).mono ?_; rintro e w1 ⟨rfl, hw⟩; rw [hw]; clear hw)
   | (go_at_call 22; with_reducible refine (H1.out _).mono ?_; rintro e w1 ⟨rfl, hw⟩; rw [hw]; clear hw)
   | (go_at_call 22; with_reducible refine (H2.out _).mono ?_; rintro e w1 ⟨rfl, hw⟩; rw [hw]; clear hw)
   | (go_at_call 22; with_reducible refine (H3.out _).mono ?_; rintro e w1 ⟨rfl, hw⟩; rw [hw]; clear hw)
   | (go_at_call 22; with_reducible refine (H4.out _).mono ?_; rintro e w1 ⟨rfl, hw⟩; rw [hw]; clear hw)
   | (go_at_call 22; with_reducible refine (H5.out _).mono ?_; rintro e w1 ⟨rfl, hw⟩; rw [hw]; clear hw)
   | (go_at_call 22; with_reducible refine (H6.out _).mono ?_; rintro e w1 ⟨rfl, hw⟩; rw [hw]; clear hw)
   | (go_at_call 22; with_reducible refine (H7.out _).mono ?_; rintro e w1 ⟨rfl, hw⟩; rw [hw]; clear hw))
  go_ret
  refine ⟨?_, alloc_below _ _⟩
  simp
end Go.Proofs.Ytpibiagohfnbmaa
