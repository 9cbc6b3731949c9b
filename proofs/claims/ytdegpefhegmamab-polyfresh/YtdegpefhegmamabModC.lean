/-
  Plain arithmetic, no Go: powers by halves, and Euclid's remainders with the sizes of their factors.
-/
import Derived.Test.YtdegpefhegmamabMod
namespace Go.Proofs.Ytdegpefhegmamab.Fld

theorem pow_emod (a p : Int) (n : Nat) : (a % p) ^ n % p = a ^ n % p := by
  induction n with
  | zero => simp
  | succ n ih => rw [Int.pow_succ, Int.pow_succ, Int.mul_emod, ih, Int.emod_emod, ← Int.mul_emod]

theorem mul_emod_left (a b p : Int) : (a % p * b) % p = (a * b) % p := by
  rw [Int.mul_emod, Int.emod_emod, ← Int.mul_emod]
theorem mul_emod_right (a b p : Int) : (a * (b % p)) % p = (a * b) % p := by
  rw [Int.mul_emod, Int.emod_emod, ← Int.mul_emod]

/-- What the loop of power keeps. -/
def Pin (p P A N t : Int) : Prop := (P * A ^ N.toNat) % p = t

theorem Pin.start (p a n : Int) : Pin p 1 a n (pow p a n) := by unfold Pin pow; rw [Int.one_mul]
theorem Pin.done {p P A N t : Int} (h : Pin p P A N t) (hN : N = 0) (hP : El p P) : P = t := by
  unfold Pin at h; subst hN
  rw [← h]; simp; exact (Int.emod_eq_of_lt hP.1 hP.2).symm
theorem sq_half (A : Int) (k : Nat) : (A * A) ^ k = A ^ (2 * k) := by rw [Int.pow_mul, Int.pow_succ, Int.pow_succ, Int.pow_zero, Int.one_mul]
theorem Pin.odd {p P A N t : Int} (h : Pin p P A N t) (h0 : 0 ≤ N) (ho : N % 2 = 1) : Pin p (mul p P A) (mul p A A) (N / 2) t := by
  unfold Pin mul at *
  rw [← h, mul_emod_left, ← mul_emod_right _ ((A * A % p) ^ _), pow_emod, mul_emod_right, sq_half, Int.mul_assoc]
  have e : A * A ^ (2 * (N / 2).toNat) = A ^ N.toNat := by
    have e1 : N.toNat = 2 * (N / 2).toNat + 1 := by omega
    rw [e1, Int.pow_succ, Int.mul_comm]
  rw [e]
theorem Pin.even {p P A N t : Int} (h : Pin p P A N t) (h0 : 0 ≤ N) (ho : N % 2 = 0) : Pin p P (mul p A A) (N / 2) t := by
  unfold Pin mul at *
  rw [← h, ← mul_emod_right _ ((A * A % p) ^ _), pow_emod, mul_emod_right, sq_half]
  have e1 : N.toNat = 2 * (N / 2).toNat := by omega
  rw [e1]

/-- The prime of a field has Fermat's law. -/
theorem Md.fermat {p : Int} {wd : Bool} (h : Md p wd) (a : Int) (h0 : 0 < a) (h1 : a < p) : a ^ (p - 1).toNat % p = 1 := by
  have key : ∀ P : Nat, p = (P : Int) → (∀ x : Nat, 0 < x → x < P → x ^ (P - 1) % P = 1) → a ^ (p - 1).toNat % p = 1 := by
    intro P hP hx
    obtain ⟨x, rfl⟩ := Int.eq_ofNat_of_zero_le (Int.le_of_lt h0)
    have := hx x (by omega) (by omega)
    rw [hP, show ((P : Int) - 1).toNat = P - 1 from by omega, ← Int.natCast_pow, ← Int.natCast_emod, this]; rfl
  rcases h with ⟨h, _⟩ | ⟨h, _⟩
  · exact key 2013265921 h fun x a b => rootSmall.fermat x a b
  · exact key 18446744069414584321 h fun x a b => rootLarge.fermat x a b

theorem Md.inv {p : Int} {wd : Bool} (h : Md p wd) (a : Int) (h0 : 0 < a) (h1 : a < p) : (a * a ^ (p - 2).toNat) % p = 1 := by
  have := h.fermat a h0 h1
  have hb := h.bounds
  have e : (p - 1).toNat = (p - 2).toNat + 1 := by omega
  rw [e, Int.pow_succ, Int.mul_comm] at this
  exact this

/-- No number above 1 divides both an element that is not 0 and the prime. -/
theorem Md.cop {p : Int} {wd : Bool} (h : Md p wd) (a : Int) (h0 : 0 < a) (h1 : a < p) (d : Int) (hd : 0 < d) (ha : d ∣ a) (hp : d ∣ p) : d = 1 := by
  have e := h.inv a h0 h1
  have e2 := Int.emod_add_mul_ediv (a * a ^ (p - 2).toNat) p
  rw [e] at e2
  have : d ∣ 1 := by
    have d1 : d ∣ a * a ^ (p - 2).toNat := Int.dvd_trans ha (Int.dvd_mul_right _ _)
    have d2 : d ∣ p * (a * a ^ (p - 2).toNat / p) := Int.dvd_trans hp (Int.dvd_mul_right _ _)
    have e3 : (1 : Int) = a * a ^ (p - 2).toNat - p * (a * a ^ (p - 2).toNat / p) := by omega
    rw [e3]; exact Int.dvd_sub d1 d2
  have := Int.le_of_dvd (by decide) this
  omega

/-- Euclid's rows: r and s, the sizes u and v of their factors, the sign. -/
structure Eu (p a r s u v : Int) (mi : Bool) : Prop where
  rs : s < r
  s1 : 1 ≤ s
  u0 : 0 ≤ u
  v0 : 0 ≤ v
  all : r * v + s * u = p
  cop : ∀ d : Int, 0 < d → d ∣ r → d ∣ s → d = 1
  sw : ∃ k : Int, s = (if mi then -(v * a) else v * a) + k * p
  rw : ∃ k : Int, r = (if mi then u * a else -(u * a)) + k * p

theorem Eu.start {p a : Int} {wd : Bool} (h : Md p wd) (h0 : 0 < a) (h1 : a < p) : Eu p a p a 0 1 false where
  rs := h1
  s1 := h0
  u0 := Int.le_refl 0
  v0 := by decide
  all := by omega
  cop := fun d hd hr hs => h.cop a h0 h1 d hd hs hr
  sw := ⟨0, by simp⟩
  rw := ⟨1, by simp⟩

theorem Eu.le {p a r s u v : Int} {mi : Bool} (e : Eu p a r s u v mi) : u ≤ p ∧ v ≤ p ∧ r ≤ p ∨ v = 0 := by
  have h1 := e.s1; have h2 := e.u0; have h3 := e.v0; have h4 := e.all; have h5 := e.rs
  by_cases hv : v = 0
  · exact .inr hv
  left
  have a1 : 0 ≤ (s - 1) * u := Int.mul_nonneg (by omega) h2
  have a2 : 0 ≤ (r - 1) * v := Int.mul_nonneg (by omega) h3
  have a3 : 0 ≤ r * (v - 1) := Int.mul_nonneg (by omega) (by omega)
  have a4 : 0 ≤ s * u := Int.mul_nonneg (by omega) h2
  have a5 : 0 ≤ r * v := Int.mul_nonneg (by omega) h3
  rw [Int.sub_mul] at a1 a2
  rw [Int.mul_sub] at a3
  omega

theorem Eu.step {p a r s u v : Int} {mi : Bool} (e : Eu p a r s u v mi) (hs : 1 < s) :
    Eu p a s (r - r / s * s) v (u + r / s * v) (!mi) ∧ r - r / s * s < s ∧ 0 ≤ r / s ∧ r / s * s ≤ r := by
  have h1 := e.s1; have h2 := e.u0; have h3 := e.v0; have h4 := e.all; have h5 := e.rs
  have q0 : 0 ≤ r / s := Int.ediv_nonneg (by omega) (by omega)
  have em : r - r / s * s = r % s := by rw [Int.emod_def, Int.mul_comm]
  have m0 : 0 ≤ r % s := Int.emod_nonneg _ (by omega)
  have m1 : r % s < s := Int.emod_lt_of_pos _ (by omega)
  refine ⟨?_, by omega, q0, by omega⟩
  have hne : r % s ≠ 0 := by
    intro hz
    have := e.cop s (by omega) (Int.dvd_of_emod_eq_zero hz) (Int.dvd_refl s)
    omega
  obtain ⟨k, hk⟩ := e.sw
  obtain ⟨k', hk'⟩ := e.rw
  exact {
    rs := by omega
    s1 := by omega
    u0 := h3
    v0 := by have := Int.mul_nonneg q0 h3; omega
    all := by
      rw [Int.mul_add, Int.sub_mul, ← h4, Int.mul_assoc (r / s) s v, Int.mul_left_comm s (r / s) v]
      omega
    cop := by
      intro d hd ds dr
      refine e.cop d hd ?_ ds
      have : r = r / s * s + (r - r / s * s) := by omega
      rw [this]
      exact Int.dvd_add (Int.dvd_trans ds (Int.dvd_mul_left _ _)) dr
    sw := by
      refine ⟨k' - r / s * k, ?_⟩
      cases mi
      · simp only [Bool.not_false, if_true, Bool.false_eq_true, if_false] at hk hk' ⊢
        have e1 : r / s * s = r / s * (v * a) + r / s * k * p := by rw [Int.mul_assoc (r / s) k p, ← Int.mul_add, ← hk]
        rw [Int.add_mul, Int.sub_mul, Int.mul_assoc (r / s) v a]
        omega
      · simp only [Bool.not_true, if_true, Bool.false_eq_true, if_false] at hk hk' ⊢
        have e1 : r / s * s = -(r / s * (v * a)) + r / s * k * p := by rw [Int.mul_assoc (r / s) k p, ← Int.mul_neg, ← Int.mul_add, ← hk]
        rw [Int.add_mul, Int.sub_mul, Int.mul_assoc (r / s) v a]
        omega
    rw := by
      refine ⟨k, ?_⟩
      cases mi
      · simpa using hk
      · simpa using hk }

/-- What the inverse is. -/
def IsInv (p a x : Int) : Prop := El p x ∧ (a * x) % p = 1 % p

theorem Eu.done {p a r s u v : Int} {mi : Bool} (e : Eu p a r s u v mi) (hs : ¬ 1 < s) (hp : 2 ≤ p) : IsInv p a (if mi then p - v else v) := by
  have h1 := e.s1; have h2 := e.u0; have h3 := e.v0; have h4 := e.all; have h5 := e.rs
  have hs1 : s = 1 := by omega
  obtain ⟨k, hk⟩ := e.sw
  have hv : v ≠ 0 := by
    intro hz
    rw [hz, hs1] at hk
    simp at hk
    have : p ∣ 1 := ⟨k, by rw [Int.mul_comm]; exact hk⟩
    have := Int.le_of_dvd (by decide) this
    omega
  have a3 : 0 ≤ (r - 2) * v := Int.mul_nonneg (by omega) h3
  rw [Int.sub_mul] at a3
  rw [hs1] at hk h4
  cases mi
  · simp only [Bool.false_eq_true, if_false] at hk ⊢
    refine ⟨⟨h3, by omega⟩, ?_⟩
    have : a * v = 1 + p * (-k) := by rw [Int.mul_comm, Int.mul_neg, Int.mul_comm p k]; omega
    rw [this, Int.add_mul_emod_self_left]
  · simp only [if_true] at hk ⊢
    refine ⟨⟨by omega, by omega⟩, ?_⟩
    have : a * (p - v) = 1 + p * (a - k) := by rw [Int.mul_sub, Int.mul_sub, Int.mul_comm p a, Int.mul_comm p k, Int.mul_comm a v]; omega
    rw [this, Int.add_mul_emod_self_left]

/-- The one inverse. -/
def inv (p a : Int) : Int := pow p a (p - 2)

theorem IsInv.eq {p a x : Int} {wd : Bool} (hm : Md p wd) (h0 : 0 < a) (h1 : a < p) (h : IsInv p a x) : x = inv p a := by
  obtain ⟨⟨x0, x1⟩, hx⟩ := h
  have hi := hm.inv a h0 h1
  have hb := hm.bounds
  have e1 : x % p = x := Int.emod_eq_of_lt x0 x1
  unfold inv pow
  generalize a ^ (p - 2).toNat = y at *
  have e2 : (y * (a * x)) % p = y % p := by rw [← mul_emod_right, hx, mul_emod_right, Int.mul_one]
  have e3 : (y * (a * x)) % p = x % p := by
    rw [← Int.mul_assoc, Int.mul_comm y a, ← mul_emod_left, hi, Int.one_mul]
  rw [← e1, ← e3, e2]

end Go.Proofs.Ytdegpefhegmamab.Fld
