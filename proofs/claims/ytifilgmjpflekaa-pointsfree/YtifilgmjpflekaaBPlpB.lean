/-
  Layer 12: whether a plan may be, its degree, what it needs, what it spares, whether it is accepted: the program's.
-/
import Derived.Test.YtifilgmjpflekaaBPlpA
namespace Go.Proofs.Ytifilgmjpflekaa
open Go.RowKit Pln
set_option linter.unusedVariables false
set_option linter.unusedSimpArgs false

set_option maxRecDepth 100000 in
set_option maxHeartbeats 400000 in
theorem gMay (p : Pn) (h : Ok8p p) : Ans 23 #[plv p] (.bool (mayP p)) := by
  intro w
  rw [mayP_all]
  obtain ⟨_, _, hk, _⟩ := h
  unfold I64 at hk
  have HF := hide (gField p.f)
  have H1 := hide (gWithin p.n 1 64)
  have H2 := hide (gWithin p.k 1 64)
  have H3 := hide (gWithin p.w 1 64)
  have H4 := hide (gWithin p.t 0 (64 - p.k))
  have H5 := hide (gWithin p.s 0 64)
  have H6 := hide (gWithin p.e 0 64)
  have H7 := hide (gWithin p.d 0 1024)
  have hkb : btw p.k 1 64 = true → 1 ≤ p.k ∧ p.k ≤ 64 := fun h => of_decide_eq_true h
  have HK := hide hkb
  clear hkb
  generalize fdB p.f = b0 at *
  generalize btw p.n 1 64 = b1 at *
  generalize btw p.k 1 64 = b2 at *
  generalize btw p.w 1 64 = b3 at *
  generalize btw p.t 0 (64 - p.k) = b4 at *
  generalize btw p.s 0 64 = b5 at *
  generalize btw p.e 0 64 = b6 at *
  generalize btw p.d 0 1024 = b7 at *
  unfold plv plw
  have hcs : b0 = false ∨ (b0 = true ∧ b1 = false) ∨ (b0 = true ∧ b1 = true ∧ b2 = false) ∨ (b0 = true ∧ b1 = true ∧ b2 = true ∧ b3 = false) ∨ (b0 = true ∧ b1 = true ∧ b2 = true ∧ b3 = true ∧ b4 = false) ∨ (b0 = true ∧ b1 = true ∧ b2 = true ∧ b3 = true ∧ b4 = true ∧ b5 = false) ∨ (b0 = true ∧ b1 = true ∧ b2 = true ∧ b3 = true ∧ b4 = true ∧ b5 = true ∧ b6 = false) ∨ (b0 = true ∧ b1 = true ∧ b2 = true ∧ b3 = true ∧ b4 = true ∧ b5 = true ∧ b6 = true) := by
    cases b0 <;> cases b1 <;> cases b2 <;> cases b3 <;> cases b4 <;> cases b5 <;> cases b6 <;> decide
  rcases hcs with rfl | ⟨rfl, rfl⟩ | ⟨rfl, rfl, rfl⟩ | ⟨rfl, rfl, rfl, rfl⟩ | ⟨rfl, rfl, rfl, rfl, rfl⟩ | ⟨rfl, rfl, rfl, rfl, rfl, rfl⟩ | ⟨rfl, rfl, rfl, rfl, rfl, rfl, rfl⟩ | ⟨rfl, rfl, rfl, rfl, rfl, rfl, rfl⟩
  all_goals
    try have hk2 := HK.out rfl
    go_enter Try.func23, Try.ntmps23
    go_wp2_with (first
      | (go_at_call 40; refine (HF.out _).mono ?_; rintro e w1 ⟨rfl, hw⟩; rw [hw]; clear hw)
      | (go_at_call 41; with_reducible refine (H1.out _).mono ?_; rintro e w1 ⟨rfl, hw⟩; rw [hw]; clear hw)
      | (go_at_call 41; with_reducible refine (H2.out _).mono ?_; rintro e w1 ⟨rfl, hw⟩; rw [hw]; clear hw)
      | (go_at_call 41; with_reducible refine (H3.out _).mono ?_; rintro e w1 ⟨rfl, hw⟩; rw [hw]; clear hw)
      | (go_at_call 41; with_reducible refine (H4.out _).mono ?_; rintro e w1 ⟨rfl, hw⟩; rw [hw]; clear hw)
      | (go_at_call 41; with_reducible refine (H5.out _).mono ?_; rintro e w1 ⟨rfl, hw⟩; rw [hw]; clear hw)
      | (go_at_call 41; with_reducible refine (H6.out _).mono ?_; rintro e w1 ⟨rfl, hw⟩; rw [hw]; clear hw)
      | (go_at_call 41; with_reducible refine (H7.out _).mono ?_; rintro e w1 ⟨rfl, hw⟩; rw [hw]; clear hw))
    go_ret
    refine ⟨?_, alloc_below _ _⟩
    simp

/-- What Degree, Needed, Spare and Accept answer. -/
def erP (p : Pn) : Int := if mayP p = true then 0 else 2
def dgV (p : Pn) : Int := if mayP p = true then dg p else 0
def ndV (p : Pn) : Int := if mayP p = true then need p else 0
def spV (p : Pn) : Int := if mayP p = true then spare p else 0
def acE (p : Pn) : Int := if mayP p = true then (if spare p < 0 then 120 else 0) else 2
theorem may_facts {p : Pn} (h : mayP p = true) : (1 ≤ p.n ∧ p.n ≤ 64) ∧ (1 ≤ p.k ∧ p.k ≤ 64) ∧ (0 ≤ p.t ∧ p.k + p.t ≤ 64) ∧ (0 ≤ p.s ∧ p.s ≤ 64) ∧ (0 ≤ p.e ∧ p.e ≤ 64) ∧ (0 ≤ p.d ∧ p.d ≤ 1024) ∧ (1 ≤ p.w ∧ p.w ≤ 64) := by
  have := (may_iff.1 h).2
  omega

theorem erP_yes {p : Pn} (h : mayP p = true) : erP p = 0 := if_pos h
theorem erP_no {p : Pn} (h : mayP p = false) : erP p = 2 := by unfold erP; rw [h]; rfl
theorem dgV_yes {p : Pn} (h : mayP p = true) : dgV p = dg p := if_pos h
theorem dgV_no {p : Pn} (h : mayP p = false) : dgV p = 0 := by unfold dgV; rw [h]; rfl
theorem ndV_yes {p : Pn} (h : mayP p = true) : ndV p = need p := if_pos h
theorem ndV_no {p : Pn} (h : mayP p = false) : ndV p = 0 := by unfold ndV; rw [h]; rfl
theorem spV_yes {p : Pn} (h : mayP p = true) : spV p = spare p := if_pos h
theorem spV_no {p : Pn} (h : mayP p = false) : spV p = 0 := by unfold spV; rw [h]; rfl
theorem acE_no {p : Pn} (h : mayP p = false) : acE p = 2 := by unfold acE; rw [h]; rfl
theorem acE_yes {p : Pn} (h : mayP p = true) : acE p = if spare p < 0 then 120 else 0 := if_pos h

end Go.Proofs.Ytifilgmjpflekaa
