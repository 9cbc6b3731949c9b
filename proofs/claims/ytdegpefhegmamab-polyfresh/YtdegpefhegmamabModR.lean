/-
  Plain arithmetic, no Go: products and powers put together bit by bit.
-/
import Derived.Test.YtdegpefhegmamabModC
namespace Go.Proofs.Ytdegpefhegmamab.Fld

theorem half_pow (b : Int) (k : Nat) : b / 2 ^ (k + 1) = b / 2 ^ k / 2 := by
  rw [Int.pow_succ, Int.ediv_ediv_of_nonneg (Int.le_of_lt (Int.pow_pos (by decide)))]

theorem word_shift (b : Int) (k : Nat) (h0 : 0 ≤ b) (h1 : b ≤ 18446744073709551615) : 0 ≤ b / 2 ^ k ∧ b / 2 ^ k ≤ 18446744073709551615 := by
  have hp : (0 : Int) < 2 ^ k := Int.pow_pos (by decide)
  refine ⟨Int.ediv_nonneg h0 (Int.le_of_lt hp), ?_⟩
  have : b / 2 ^ k ≤ b := Int.ediv_le_self _ h0
  omega

theorem times_odd (p a q : Int) (ho : q % 2 = 1) : add p (add p (mul p a (q / 2)) (mul p a (q / 2))) a = mul p a q := by
  unfold add mul
  obtain ⟨h, hh⟩ : ∃ h, q / 2 = h := ⟨_, rfl⟩
  have e : q = h + h + 1 := by omega
  rw [hh, ← Int.add_emod, Int.emod_add_emod, e, Int.mul_add, Int.mul_add, Int.mul_one]
theorem times_even (p a q : Int) (ho : q % 2 = 0) : add p (mul p a (q / 2)) (mul p a (q / 2)) = mul p a q := by
  unfold add mul
  obtain ⟨h, hh⟩ : ∃ h, q / 2 = h := ⟨_, rfl⟩
  have e : q = h + h := by omega
  rw [hh, ← Int.add_emod, e, Int.mul_add]

theorem power_odd (p a q : Int) (h0 : 0 ≤ q) (ho : q % 2 = 1) : mul p (mul p (pow p a (q / 2)) (pow p a (q / 2))) a = pow p a q := by
  unfold mul pow
  rw [← Int.mul_emod, mul_emod_left]
  have e : q.toNat = (q / 2).toNat + (q / 2).toNat + 1 := by omega
  rw [e, Int.pow_succ, Int.pow_add]
theorem power_even (p a q : Int) (h0 : 0 ≤ q) (ho : q % 2 = 0) : mul p (pow p a (q / 2)) (pow p a (q / 2)) = pow p a q := by
  unfold mul pow
  rw [← Int.mul_emod]
  have e : q.toNat = (q / 2).toNat + (q / 2).toNat := by omega
  rw [e, Int.pow_add]

theorem shift_all (b : Int) (h0 : 0 ≤ b) (h1 : b ≤ 18446744073709551615) : b / 2 ^ 64 = 0 := by
  have : (2 : Int) ^ 64 = 18446744073709551616 := by decide
  rw [this]; omega
theorem mul_zero_right (p a : Int) : mul p a 0 = 0 := by simp [mul]
theorem pow_zero_right (p a : Int) : pow p a 0 = 1 % p := by simp [pow]

end Go.Proofs.Ytdegpefhegmamab.Fld
