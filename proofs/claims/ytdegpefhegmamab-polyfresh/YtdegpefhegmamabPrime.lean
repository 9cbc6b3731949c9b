/-
  Plain arithmetic, no Go: the two primes of the document have a number whose powers are all that is not 0 (an order that its prime factors show), so each power with one less than the prime is 1.
-/
import Derived.KernelRfl
namespace Go.Proofs.Ytdegpefhegmamab.Fld

theorem one_mod_of (p : Nat) (hp : 1 < p) : 1 % p = 1 := Nat.mod_eq_of_lt hp

theorem mul_mod_one (p x y : Nat) (h : x % p = 1) : (x * y) % p = y % p := by
  rw [Nat.mul_mod, h, Nat.one_mul, Nat.mod_mod]

theorem pow_one_of (p g m k : Nat) (hp : 1 < p) (h : g ^ m % p = 1) : g ^ (m * k) % p = 1 := by
  rw [Nat.pow_mul, Nat.pow_mod, h, Nat.one_pow, Nat.mod_eq_of_lt hp]

theorem pow_rest (p g m n : Nat) (hp : 1 < p) (hm : g ^ m % p = 1) (hn : g ^ n % p = 1) : g ^ (n % m) % p = 1 := by
  have e : g ^ n = g ^ (m * (n / m)) * g ^ (n % m) := by rw [← Nat.pow_add, Nat.div_add_mod]
  rw [e, mul_mod_one p _ _ (pow_one_of p g m (n / m) hp hm)] at hn
  exact hn

theorem pow_gcd (p g m n : Nat) (hp : 1 < p) (hm : g ^ m % p = 1) (hn : g ^ n % p = 1) : g ^ (Nat.gcd m n) % p = 1 := by
  induction m, n using Nat.gcd.induction with
  | H0 n => simpa using hn
  | H1 m n hpos ih =>
    rw [Nat.gcd_rec]
    exact ih (pow_rest p g m n hp hm hn) hm

/-- A power by halves, for the kernel. -/
def pm (p : Nat) : Nat → Nat → Nat → Nat
  | 0, _, _ => 1
  | k + 1, a, n => if n % 2 = 1 then pm p k (a * a % p) (n / 2) * a % p else pm p k (a * a % p) (n / 2)

theorem pm_pow (p : Nat) (k : Nat) : ∀ a n, n < 2 ^ k → pm p k a n % p = a ^ n % p := by
  induction k with
  | zero => intro a n h; have : n = 0 := by simpa using h
            subst this; simp [pm]
  | succ k ih =>
    intro a n h
    have h2 : n / 2 < 2 ^ k := by rw [Nat.pow_succ] at h; omega
    have e := ih (a * a % p) (n / 2) h2
    have e2 : (a * a % p) ^ (n / 2) % p = a ^ (2 * (n / 2)) % p := by
      rw [← Nat.pow_mod, Nat.pow_mul, Nat.pow_two]
    rw [e2] at e
    unfold pm
    by_cases ho : n % 2 = 1
    · rw [if_pos ho, Nat.mod_mod, Nat.mul_mod, e, ← Nat.mul_mod, ← Nat.pow_succ]
      congr 2; omega
    · rw [if_neg ho, e]
      congr 2; omega

theorem prime_of (q s : Nat) (hq : 0 < q) (hs : q < s * s) (h : ∀ d, d < s → d ∣ q → d = 1 ∨ d = q) : ∀ d, d ∣ q → d = 1 ∨ d = q := by
  intro d hd
  by_cases hl : d < s
  · exact h d hl hd
  · obtain ⟨e, he⟩ := hd
    have hes : e < s := by
      apply Nat.lt_of_not_le
      intro hc
      have := Nat.mul_le_mul (Nat.le_of_not_lt hl) hc
      omega
    rcases h e hes ⟨d, by rw [he, Nat.mul_comm]⟩ with h1 | h1
    · right; rw [he, h1, Nat.mul_one]
    · left
      rw [h1] at he
      have : d * q = 1 * q := by omega
      exact Nat.eq_of_mul_eq_mul_right hq this

theorem cop_step (q k r m : Nat) (hq : ∀ d, d ∣ q → d = 1 ∨ d = q) (h : m ∣ q ^ k * r) : q ∣ m ∨ m ∣ r := by
  rcases hq _ (Nat.gcd_dvd_right m q) with h1 | h1
  · right
    have hc : Nat.Coprime m (q ^ k) := Nat.Coprime.pow_right k h1
    exact hc.dvd_of_dvd_mul_left h
  · left
    rw [← h1]; exact Nat.gcd_dvd_left m q

/-- What is told of a prime p and a number g: every m above 1 that divides p - 1 has a factor q with g ^ ((p-1)/q) not 1. -/
structure Root (p g : Nat) : Prop where
  big : 2 < p
  whole : g ^ (p - 1) % p = 1
  part : ∀ m, 1 < m → m ∣ p - 1 → ∃ q, 0 < q ∧ q ∣ m ∧ g ^ ((p - 1) / q) % p ≠ 1

theorem Root.dvd {p g : Nat} (R : Root p g) (d : Nat) (h : g ^ d % p = 1) : p - 1 ∣ d := by
  have hp := R.big
  have hg := pow_gcd p g d (p - 1) (by omega) h R.whole
  have hdv := Nat.gcd_dvd_right d (p - 1)
  obtain ⟨m, hm⟩ := hdv
  by_cases h1 : m = 1
  · rw [h1, Nat.mul_one] at hm
    rw [hm]; exact Nat.gcd_dvd_left d (p - 1)
  · exfalso
    have hm0 : m ≠ 0 := by intro hc; rw [hc, Nat.mul_zero] at hm; omega
    obtain ⟨q, hq0, ⟨c, hc⟩, hne⟩ := R.part m (by omega) ⟨_, by rw [Nat.mul_comm]; exact hm⟩
    apply hne
    have e : (p - 1) / q = Nat.gcd d (p - 1) * c := by
      apply Nat.div_eq_of_eq_mul_left hq0
      rw [Nat.mul_assoc, Nat.mul_comm c q, ← hc]
      exact hm
    rw [e]
    exact pow_one_of p g _ c (by omega) hg

theorem Root.inj {p g : Nat} (R : Root p g) (i j : Nat) (hij : i < j) (hj : j < p - 1) : g ^ i % p ≠ g ^ j % p := by
  intro h
  have hp := R.big
  have e1 : g ^ (p - 1 - i) * g ^ i = g ^ (p - 1) := by rw [← Nat.pow_add]; congr 1; omega
  have e2 : g ^ (p - 1 - i) * g ^ j = g ^ (p - 1) * g ^ (j - i) := by rw [← Nat.pow_add, ← Nat.pow_add]; congr 1; omega
  have e3 : (g ^ (p - 1 - i) * g ^ i) % p = (g ^ (p - 1 - i) * g ^ j) % p := by rw [Nat.mul_mod, h, ← Nat.mul_mod]
  rw [e1, e2, mul_mod_one p _ _ R.whole, R.whole] at e3
  have := Nat.le_of_dvd (by omega) (R.dvd (j - i) e3.symm)
  omega

theorem Root.pos {p g : Nat} (R : Root p g) (i : Nat) (hi : i ≤ p - 1) : g ^ i % p ≠ 0 := by
  intro h
  have e1 : g ^ i * g ^ (p - 1 - i) = g ^ (p - 1) := by rw [← Nat.pow_add]; congr 1; omega
  have := R.whole
  rw [← e1, Nat.mul_mod, h, Nat.zero_mul, Nat.zero_mod] at this
  omega

/-- As many places as things, no two in one: every place is taken. -/
theorem onto (n : Nat) : ∀ f : Nat → Nat, (∀ i, i < n → f i < n) → (∀ i j, i < j → j < n → f i ≠ f j) → ∀ y, y < n → ∃ i, i < n ∧ f i = y := by
  induction n with
  | zero => intro f _ _ y hy; omega
  | succ n ih =>
    intro f hf hinj y hy
    by_cases hy0 : f n = y
    · exact ⟨n, by omega, hy0⟩
    by_cases hex : ∃ i, i < n ∧ f i = n
    · obtain ⟨k, hk, hkn⟩ := hex
      have hne : ∀ i, i < n → f i = n → i = k := by
        intro i hi h
        rcases Nat.lt_trichotomy i k with h1 | h1 | h1
        · exact absurd (h.trans hkn.symm) (hinj i k h1 (by omega))
        · exact h1
        · exact absurd (hkn.trans h.symm) (hinj k i h1 (by omega))
      have hfn : f n < n := by
        have := hf n (by omega)
        have h2 := hinj k n hk (by omega)
        omega
      by_cases hyn : y = n
      · exact ⟨k, by omega, by omega⟩
      obtain ⟨i, hi, hiy⟩ := ih (fun i => if f i = n then f n else f i)
        (by intro i hi; show (if f i = n then f n else f i) < n; split
            · exact hfn
            · have := hf i (by omega); omega)
        (by intro i j hij hj; show (if f i = n then f n else f i) ≠ (if f j = n then f n else f j)
            by_cases h1 : f i = n <;> by_cases h2 : f j = n
            · have := hne i (by omega) h1; have := hne j hj h2; omega
            · rw [if_pos h1, if_neg h2]; exact fun h => hinj j n hj (by omega) h.symm
            · rw [if_neg h1, if_pos h2]; exact hinj i n (by omega) (by omega)
            · rw [if_neg h1, if_neg h2]; exact hinj i j hij (by omega))
        y (by omega)
      have hiy : (if f i = n then f n else f i) = y := hiy
      by_cases h1 : f i = n
      · rw [if_pos h1] at hiy; exact absurd hiy hy0
      · rw [if_neg h1] at hiy; exact ⟨i, by omega, hiy⟩
    · have hlt : ∀ i, i < n → f i < n := by
        intro i hi
        have h1 := hf i (by omega)
        have h2 : f i ≠ n := fun h => hex ⟨i, hi, h⟩
        omega
      have hfn := hf n (by omega)
      by_cases h3 : f n = n
      · obtain ⟨i, hi, hiy⟩ := ih f hlt (fun i j hij hj => hinj i j hij (by omega)) y (by omega)
        exact ⟨i, by omega, hiy⟩
      · obtain ⟨i, hi, hiy⟩ := ih f hlt (fun i j hij hj => hinj i j hij (by omega)) (f n) (by omega)
        exact absurd hiy (hinj i n hi (by omega))

theorem Root.fermat {p g : Nat} (R : Root p g) (a : Nat) (h0 : 0 < a) (h1 : a < p) : a ^ (p - 1) % p = 1 := by
  have hp := R.big
  obtain ⟨i, _, hi⟩ := onto (p - 1) (fun i => g ^ i % p - 1)
    (by intro i hi; have := Nat.mod_lt (g ^ i) (show p > 0 by omega); show g ^ i % p - 1 < p - 1; omega)
    (by intro i j hij hj; show g ^ i % p - 1 ≠ g ^ j % p - 1
        have a1 := R.inj i j hij hj
        have a2 := R.pos i (by omega)
        have a3 := R.pos j (by omega)
        omega)
    (a - 1) (by omega)
  have hi : g ^ i % p - 1 = a - 1 := hi
  have a2 := R.pos i (by omega)
  have e : a = g ^ i % p := by omega
  rw [e, ← Nat.pow_mod, ← Nat.pow_mul, Nat.mul_comm, Nat.pow_mul, Nat.pow_mod, R.whole, Nat.one_pow, Nat.mod_eq_of_lt (by omega)]

theorem p2 : ∀ d, d ∣ 2 → d = 1 ∨ d = 2 := prime_of 2 2 (by decide) (by decide) (by decide)
theorem p3 : ∀ d, d ∣ 3 → d = 1 ∨ d = 3 := prime_of 3 2 (by decide) (by decide) (by decide)
theorem p5 : ∀ d, d ∣ 5 → d = 1 ∨ d = 5 := prime_of 5 3 (by decide) (by decide) (by decide)
theorem p17 : ∀ d, d ∣ 17 → d = 1 ∨ d = 17 := prime_of 17 5 (by decide) (by decide) (by decide)
theorem p257 : ∀ d, d ∣ 257 → d = 1 ∨ d = 257 := prime_of 257 17 (by decide) (by decide) (by decide)
theorem p65537 : ∀ d, d ∣ 65537 → d = 1 ∨ d = 65537 := prime_of 65537 257 (by decide) (by decide) (by decide +kernel)

theorem root_mk (p g : Nat) (big : 2 < p) (lt : p ≤ 2 ^ 64) (whole : pm p 64 g (p - 1) % p = 1)
    (part : ∀ m, 1 < m → m ∣ p - 1 → ∃ q, 0 < q ∧ q ∣ m ∧ pm p 64 g ((p - 1) / q) % p ≠ 1) : Root p g where
  big := big
  whole := by rw [← pm_pow p 64 g (p - 1) (by omega)]; exact whole
  part := by
    intro m hm hd
    obtain ⟨q, hq, hqm, hne⟩ := part m hm hd
    have hle : (p - 1) / q ≤ p - 1 := Nat.div_le_self _ _
    refine ⟨q, hq, hqm, ?_⟩
    rw [← pm_pow p 64 g _ (by omega)]; exact hne

theorem small2 : pm 2013265921 64 31 ((2013265921 - 1) / 2) % 2013265921 ≠ 1 := by decide +kernel
theorem small3 : pm 2013265921 64 31 ((2013265921 - 1) / 3) % 2013265921 ≠ 1 := by decide +kernel
theorem small5 : pm 2013265921 64 31 ((2013265921 - 1) / 5) % 2013265921 ≠ 1 := by decide +kernel
theorem smallAll : pm 2013265921 64 31 (2013265921 - 1) % 2013265921 = 1 := by decide +kernel
theorem smallFac : 2013265921 - 1 = 2 ^ 27 * (3 ^ 1 * (5 ^ 1 * 1)) := by decide +kernel

theorem rootSmall : Root 2013265921 31 := by
  refine root_mk _ _ (by decide) (by decide) smallAll ?_
  intro m hm hd
  rw [smallFac] at hd
  rcases cop_step 2 27 _ m p2 hd with h | hd
  · exact ⟨2, by decide, h, small2⟩
  rcases cop_step 3 1 _ m p3 hd with h | hd
  · exact ⟨3, by decide, h, small3⟩
  rcases cop_step 5 1 _ m p5 hd with h | hd
  · exact ⟨5, by decide, h, small5⟩
  have := Nat.le_of_dvd (by decide) hd
  omega

theorem large2 : pm 18446744069414584321 64 7 ((18446744069414584321 - 1) / 2) % 18446744069414584321 ≠ 1 := by decide +kernel
theorem large3 : pm 18446744069414584321 64 7 ((18446744069414584321 - 1) / 3) % 18446744069414584321 ≠ 1 := by decide +kernel
theorem large5 : pm 18446744069414584321 64 7 ((18446744069414584321 - 1) / 5) % 18446744069414584321 ≠ 1 := by decide +kernel
theorem large17 : pm 18446744069414584321 64 7 ((18446744069414584321 - 1) / 17) % 18446744069414584321 ≠ 1 := by decide +kernel
theorem large257 : pm 18446744069414584321 64 7 ((18446744069414584321 - 1) / 257) % 18446744069414584321 ≠ 1 := by decide +kernel
theorem large65537 : pm 18446744069414584321 64 7 ((18446744069414584321 - 1) / 65537) % 18446744069414584321 ≠ 1 := by decide +kernel
theorem largeAll : pm 18446744069414584321 64 7 (18446744069414584321 - 1) % 18446744069414584321 = 1 := by decide +kernel
theorem largeFac : 18446744069414584321 - 1 = 2 ^ 32 * (3 ^ 1 * (5 ^ 1 * (17 ^ 1 * (257 ^ 1 * (65537 ^ 1 * 1))))) := by decide +kernel

theorem rootLarge : Root 18446744069414584321 7 := by
  refine root_mk _ _ (by decide) (by decide) largeAll ?_
  intro m hm hd
  rw [largeFac] at hd
  rcases cop_step 2 32 _ m p2 hd with h | hd
  · exact ⟨2, by decide, h, large2⟩
  rcases cop_step 3 1 _ m p3 hd with h | hd
  · exact ⟨3, by decide, h, large3⟩
  rcases cop_step 5 1 _ m p5 hd with h | hd
  · exact ⟨5, by decide, h, large5⟩
  rcases cop_step 17 1 _ m p17 hd with h | hd
  · exact ⟨17, by decide, h, large17⟩
  rcases cop_step 257 1 _ m p257 hd with h | hd
  · exact ⟨257, by decide, h, large257⟩
  rcases cop_step 65537 1 _ m p65537 hd with h | hd
  · exact ⟨65537, by decide, h, large65537⟩
  have := Nat.le_of_dvd (by decide) hd
  omega

end Go.Proofs.Ytdegpefhegmamab.Fld
