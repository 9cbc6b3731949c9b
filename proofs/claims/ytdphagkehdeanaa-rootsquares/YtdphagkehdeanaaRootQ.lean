/-
  Roots: a root's squares, its order, the sum of its powers.
-/
import Derived.Test.YtdphagkehdeanaaRootS
import Derived.Test.YtdphagkehdeanaaRootP
namespace Go.Proofs.Ytdphagkehdeanaa
open Go.RowKit Fld
set_option linter.unusedVariables false

theorem sq_add (p a : Int) (m n : Nat) : sq p (sq p a m) n = sq p a (m + n) := by
  induction n with
  | zero => rfl
  | succ n ih => show mul p (sq p (sq p a m) n) (sq p (sq p a m) n) = _; rw [ih]; rfl

theorem rv_down {f p : Int} {wd : Bool} {L : Nat} {g : Int} (h : Lb f p wd L g) (k i : Nat) (hk : k ≤ L) (hi : i ≤ k) : sq p (rv p g k) i = rv p g (k - i) := by
  rw [← rv_sq h k hk, sq_add, ← rv_sq h (k - i) (by omega)]
  congr 1; omega

theorem rv_step {f p : Int} {wd : Bool} {L : Nat} {g : Int} (h : Lb f p wd L g) (j : Nat) (hj : j + 1 ≤ L) : mul p (rv p g (j + 1)) (rv p g (j + 1)) = rv p g j := by
  have := rv_down h (j + 1) 1 hj (by omega)
  exact this

theorem sq_one {p : Int} {wd : Bool} (hm : Md p wd) (n : Nat) : sq p 1 n = 1 := by
  induction n with
  | zero => rfl
  | succ n ih => show mul p (sq p 1 n) (sq p 1 n) = 1; rw [ih]; unfold mul; rw [Int.mul_one]; exact Int.emod_eq_of_lt (by decide) (one_el hm).2

theorem rv_ne {f p : Int} {wd : Bool} {L : Nat} {g : Int} (h : Lb f p wd L g) (k : Nat) (hk : k ≤ L) (h1 : 1 ≤ k) : rv p g k ≠ 1 := by
  intro e
  have e2 := rv_down h k (k - 1) hk (by omega)
  rw [e, sq_one h.fi.md] at e2
  have e3 : k - (k - 1) = 1 := by omega
  rw [e3, h.rv1] at e2
  rcases h with ⟨_, rfl, _⟩ | ⟨_, rfl, _⟩ <;> omega

theorem rv_order {f p : Int} {wd : Bool} {L : Nat} {g : Int} (h : Lb f p wd L g) (k : Nat) (hk : k ≤ L) : sq p (rv p g k) k = 1 ∧ ∀ i, i < k → sq p (rv p g k) i ≠ 1 := by
  refine ⟨?_, fun i hi => ?_⟩
  · rw [rv_down h k k hk (Nat.le_refl _), Nat.sub_self]; exact h.rv0
  · rw [rv_down h k i hk (by omega)]; exact rv_ne h (k - i) (by omega) (by omega)

theorem rv_nz {f p : Int} {wd : Bool} {L : Nat} {g : Int} (h : Lb f p wd L g) (k : Nat) (hk : k ≤ L) : rv p g k ≠ 0 := by
  intro e
  have e1 := (rv_order h k hk).1
  have z : ∀ n, sq p 0 n = 0 := by
    intro n
    induction n with
    | zero => rfl
    | succ n ih => show mul p (sq p 0 n) (sq p 0 n) = 0; rw [ih]; simp [mul]
  rw [e, z] at e1
  cases e1

theorem pw_pow {p a : Int} {wd : Bool} (hm : Md p wd) (n : Nat) : pw p a n = pow p a (n : Int) := by
  induction n with
  | zero => show (1 : Int) = pow p a 0; rw [pow_zero_right]; exact (Int.emod_eq_of_lt (by decide) (one_el hm).2).symm
  | succ n ih =>
    show mul p (pw p a n) a = _
    rw [ih]
    unfold mul pow
    rw [mul_emod_left, Int.toNat_natCast, Int.toNat_natCast, Int.pow_succ]

theorem sq_pw {p a : Int} {wd : Bool} (hm : Md p wd) (ha : El p a) (n : Nat) : sq p a n = pw p a (2 ^ n) := by
  rw [pw_pow hm]
  have e : pow p a 1 = a := by unfold pow; rw [show (1 : Int).toNat = 1 from rfl, Int.pow_succ, Int.pow_zero, Int.one_mul]; exact Int.emod_eq_of_lt ha.1 ha.2
  have := sq_pow p a 1 (by decide) n
  rw [e, Int.one_mul] at this
  rw [this, Int.natCast_pow]; rfl

/-- The sum of the first k powers. -/
def sm (p a : Int) : Nat → Int
  | 0 => 0
  | k + 1 => add p (sm p a k) (pw p a k)
theorem sm_el {p a : Int} (hp : 0 < p) (k : Nat) : El p (sm p a k) := by
  cases k with
  | zero => exact ⟨Int.le_refl 0, hp⟩
  | succ k => exact add_el hp

theorem geo {p a : Int} {wd : Bool} (hm : Md p wd) (n : Nat) : (sm p a n * (a - 1)) % p = (pw p a n - 1) % p := by
  induction n with
  | zero => show (0 * (a - 1)) % p = (1 - 1) % p; rw [Int.zero_mul]; rfl
  | succ n ih =>
    show (((sm p a n + pw p a n) % p) * (a - 1)) % p = ((pw p a n * a) % p - 1) % p
    rw [mul_emod_left, Int.add_mul, Int.emod_sub_emod, Int.add_emod, ih, ← Int.add_emod]
    congr 1
    rw [Int.mul_sub, Int.mul_one]; omega

theorem sm_zero {f p : Int} {wd : Bool} {L : Nat} {g : Int} (h : Lb f p wd L g) (k : Nat) (hk : k ≤ L) (h1 : 1 ≤ k) : sm p (rv p g k) (2 ^ k) = 0 := by
  have hm := h.fi.md
  have hp := h.fi.pos
  have hg := geo (a := rv p g k) hm (2 ^ k)
  rw [← sq_pw hm (rv_el hp) k, (rv_order h k hk).1] at hg
  have hne := rv_ne h k hk h1
  have he : El p (rv p g k) := rv_el hp
  have hs : El p (sm p (rv p g k) (2 ^ k)) := sm_el hp _
  have hd : El p (sub p (rv p g k) 1) := sub_el hp
  have hd0 : sub p (rv p g k) 1 ≠ 0 := by
    intro e
    have := sub_back p (rv p g k) 1 he
    rw [e] at this
    unfold add at this
    rw [Int.zero_add, Int.emod_eq_of_lt (by decide) (one_el hm).2] at this
    exact hne this.symm
  have hz : mul p (sm p (rv p g k) (2 ^ k)) (sub p (rv p g k) 1) = 0 := by
    unfold mul sub; rw [mul_emod_right, hg]; rfl
  have hi := mul_inv hm _ hd hd0
  have hx : mul p (sm p (rv p g k) (2 ^ k)) (mul p (sub p (rv p g k) 1) (inv p (sub p (rv p g k) 1))) = 0 := by
    rw [← ring_assoc, hz]; simp [mul]
  rw [hi] at hx
  unfold mul at hx
  rw [Int.mul_one, Int.emod_eq_of_lt hs.1 hs.2] at hx
  exact hx

end Go.Proofs.Ytdphagkehdeanaa
