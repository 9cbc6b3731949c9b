/-
  Plain arithmetic, no Go: the laws of a field.
-/
import Derived.Test.YtdegpefhegmamabModR
namespace Go.Proofs.Ytdegpefhegmamab.Fld

theorem ring_comm (p a b : Int) : mul p a b = mul p b a := by unfold mul; rw [Int.mul_comm]
theorem ring_assoc (p a b c : Int) : mul p (mul p a b) c = mul p a (mul p b c) := by
  unfold mul; rw [mul_emod_left, mul_emod_right, Int.mul_assoc]
theorem ring_dist (p a b c : Int) : mul p a (add p b c) = add p (mul p a b) (mul p a c) := by
  unfold mul add; rw [mul_emod_right, ← Int.add_emod, Int.mul_add]
theorem sub_back (p a b : Int) (ha : El p a) : add p (sub p a b) b = a := by
  unfold add sub; rw [Int.emod_add_emod]
  have : a - b + b = a := by omega
  rw [this]; exact Int.emod_eq_of_lt ha.1 ha.2
theorem pow_add_law (p a m n : Int) (hm : 0 ≤ m) (hn : 0 ≤ n) : mul p (pow p a m) (pow p a n) = pow p a (m + n) := by
  unfold mul pow; rw [← Int.mul_emod, ← Int.pow_add]
  have : (m + n).toNat = m.toNat + n.toNat := by omega
  rw [this]
theorem pow_zero_base (p n : Int) (hn : 0 < n) : pow p 0 n = 0 := by
  unfold pow
  obtain ⟨k, hk⟩ : ∃ k, n.toNat = k + 1 := ⟨n.toNat - 1, by omega⟩
  rw [hk, Int.pow_succ, Int.mul_zero]; rfl
theorem fermat_law {p : Int} {wd : Bool} (h : Md p wd) (a : Int) (ha : El p a) (h0 : a ≠ 0) : pow p a (p - 1) = 1 := by
  unfold pow; exact h.fermat a (by have := ha.1; omega) ha.2
theorem mul_inv {p : Int} {wd : Bool} (h : Md p wd) (a : Int) (ha : El p a) (h0 : a ≠ 0) : mul p a (inv p a) = 1 := by
  have := h.inv a (by have := ha.1; omega) ha.2
  unfold mul inv pow; rw [mul_emod_right]; exact this
theorem quot_back {p : Int} {wd : Bool} (h : Md p wd) (a b : Int) (ha : El p a) (hb : El p b) (h0 : b ≠ 0) : mul p (mul p a (inv p b)) b = a := by
  rw [ring_assoc, ring_comm p (inv p b) b, mul_inv h b hb h0]
  unfold mul; rw [Int.mul_one]; exact Int.emod_eq_of_lt ha.1 ha.2

end Go.Proofs.Ytdegpefhegmamab.Fld
