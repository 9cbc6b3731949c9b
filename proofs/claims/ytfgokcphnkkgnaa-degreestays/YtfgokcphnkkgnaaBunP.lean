/- Texts laid together: Prime, Mod, ModC, ModR, ModL. -/
import Derived.KernelRfl
namespace Go.Proofs.Ytfgokcphnkkgnaa.Fld

theorem one_mod_of (p : Nat) (hp : 1 < p) : 1 % p = 1 := Nat.mod_eq_of_lt hp

theorem mul_mod_one (p x y : Nat) (h : x % p = 1) : (x * y) % p = y % p := by
  rw [Nat.mul_mod, h, Nat.one_mul, Nat.mod_mod]

theorem pow_one_of (p g m k : Nat) (hp : 1 < p) (h : g ^ m % p = 1) : g ^ (m * k) % p = 1 := by
  rw [Nat.pow_mul, Nat.pow_mod, h, Nat.one_pow, Nat.mod_eq_of_lt hp]

theorem pow_rest (p g m n : Nat) (hp : 1 < p) (hm : g ^ m % p = 1) (hn : g ^ n % p = 1) : g ^ (n % m) % p = 1 := by
  have e : g ^ n = g ^ (m * (n / m)) * g ^ (n % m) := by rw [← Nat.pow_add, Nat.div_add_mod]
  rw [e, mul_mod_one p _ _ (pow_one_of p g m (n / m) hp hm)] at hn
  exact hn

theorem pow_gcd (p g m n : Nat) (hp : 1 < p) (hm : g ^ m % p = 1) (hn : g ^ n % p = 1) : g ^ (Nat.gcd m n) % p = 1 := by
  induction m, n using Nat.gcd.induction with
  | H0 n => simpa using hn
  | H1 m n hpos ih =>
    rw [Nat.gcd_rec]
    exact ih (pow_rest p g m n hp hm hn) hm

/-- A power by halves, for the kernel. -/
def pm (p : Nat) : Nat → Nat → Nat → Nat
  | 0, _, _ => 1
  | k + 1, a, n => if n % 2 = 1 then pm p k (a * a % p) (n / 2) * a % p else pm p k (a * a % p) (n / 2)

theorem pm_pow (p : Nat) (k : Nat) : ∀ a n, n < 2 ^ k → pm p k a n % p = a ^ n % p := by
  induction k with
  | zero => intro a n h; have : n = 0 := by simpa using h
            subst this; simp [pm]
  | succ k ih =>
    intro a n h
    have h2 : n / 2 < 2 ^ k := by rw [Nat.pow_succ] at h; omega
    have e := ih (a * a % p) (n / 2) h2
    have e2 : (a * a % p) ^ (n / 2) % p = a ^ (2 * (n / 2)) % p := by
      rw [← Nat.pow_mod, Nat.pow_mul, Nat.pow_two]
    rw [e2] at e
    unfold pm
    by_cases ho : n % 2 = 1
    · rw [if_pos ho, Nat.mod_mod, Nat.mul_mod, e, ← Nat.mul_mod, ← Nat.pow_succ]
      congr 2; omega
    · rw [if_neg ho, e]
      congr 2; omega

theorem prime_of (q s : Nat) (hq : 0 < q) (hs : q < s * s) (h : ∀ d, d < s → d ∣ q → d = 1 ∨ d = q) : ∀ d, d ∣ q → d = 1 ∨ d = q := by
  intro d hd
  by_cases hl : d < s
  · exact h d hl hd
  · obtain ⟨e, he⟩ := hd
    have hes : e < s := by
      apply Nat.lt_of_not_le
      intro hc
      have := Nat.mul_le_mul (Nat.le_of_not_lt hl) hc
      omega
    rcases h e hes ⟨d, by rw [he, Nat.mul_comm]⟩ with h1 | h1
    · right; rw [he, h1, Nat.mul_one]
    · left
      rw [h1] at he
      have : d * q = 1 * q := by omega
      exact Nat.eq_of_mul_eq_mul_right hq this

theorem cop_step (q k r m : Nat) (hq : ∀ d, d ∣ q → d = 1 ∨ d = q) (h : m ∣ q ^ k * r) : q ∣ m ∨ m ∣ r := by
  rcases hq _ (Nat.gcd_dvd_right m q) with h1 | h1
  · right
    have hc : Nat.Coprime m (q ^ k) := Nat.Coprime.pow_right k h1
    exact hc.dvd_of_dvd_mul_left h
  · left
    rw [← h1]; exact Nat.gcd_dvd_left m q

/-- What is told of a prime p and a number g: every m above 1 that divides p - 1 has a factor q with g ^ ((p-1)/q) not 1. -/
structure Root (p g : Nat) : Prop where
  big : 2 < p
  whole : g ^ (p - 1) % p = 1
  part : ∀ m, 1 < m → m ∣ p - 1 → ∃ q, 0 < q ∧ q ∣ m ∧ g ^ ((p - 1) / q) % p ≠ 1

theorem Root.dvd {p g : Nat} (R : Root p g) (d : Nat) (h : g ^ d % p = 1) : p - 1 ∣ d := by
  have hp := R.big
  have hg := pow_gcd p g d (p - 1) (by omega) h R.whole
  have hdv := Nat.gcd_dvd_right d (p - 1)
  obtain ⟨m, hm⟩ := hdv
  by_cases h1 : m = 1
  · rw [h1, Nat.mul_one] at hm
    rw [hm]; exact Nat.gcd_dvd_left d (p - 1)
  · exfalso
    have hm0 : m ≠ 0 := by intro hc; rw [hc, Nat.mul_zero] at hm; omega
    obtain ⟨q, hq0, ⟨c, hc⟩, hne⟩ := R.part m (by omega) ⟨_, by rw [Nat.mul_comm]; exact hm⟩
    apply hne
    have e : (p - 1) / q = Nat.gcd d (p - 1) * c := by
      apply Nat.div_eq_of_eq_mul_left hq0
      rw [Nat.mul_assoc, Nat.mul_comm c q, ← hc]
      exact hm
    rw [e]
    exact pow_one_of p g _ c (by omega) hg

theorem Root.inj {p g : Nat} (R : Root p g) (i j : Nat) (hij : i < j) (hj : j < p - 1) : g ^ i % p ≠ g ^ j % p := by
  intro h
  have hp := R.big
  have e1 : g ^ (p - 1 - i) * g ^ i = g ^ (p - 1) := by rw [← Nat.pow_add]; congr 1; omega
  have e2 : g ^ (p - 1 - i) * g ^ j = g ^ (p - 1) * g ^ (j - i) := by rw [← Nat.pow_add, ← Nat.pow_add]; congr 1; omega
  have e3 : (g ^ (p - 1 - i) * g ^ i) % p = (g ^ (p - 1 - i) * g ^ j) % p := by rw [Nat.mul_mod, h, ← Nat.mul_mod]
  rw [e1, e2, mul_mod_one p _ _ R.whole, R.whole] at e3
  have := Nat.le_of_dvd (by omega) (R.dvd (j - i) e3.symm)
  omega

theorem Root.pos {p g : Nat} (R : Root p g) (i : Nat) (hi : i ≤ p - 1) : g ^ i % p ≠ 0 := by
  intro h
  have e1 : g ^ i * g ^ (p - 1 - i) = g ^ (p - 1) := by rw [← Nat.pow_add]; congr 1; omega
  have := R.whole
  rw [← e1, Nat.mul_mod, h, Nat.zero_mul, Nat.zero_mod] at this
  omega

/-- As many places as things, no two in one: every place is taken. -/
theorem onto (n : Nat) : ∀ f : Nat → Nat, (∀ i, i < n → f i < n) → (∀ i j, i < j → j < n → f i ≠ f j) → ∀ y, y < n → ∃ i, i < n ∧ f i = y := by
  induction n with
  | zero => intro f _ _ y hy; omega
  | succ n ih =>
    intro f hf hinj y hy
    by_cases hy0 : f n = y
    · exact ⟨n, by omega, hy0⟩
    by_cases hex : ∃ i, i < n ∧ f i = n
    · obtain ⟨k, hk, hkn⟩ := hex
      have hne : ∀ i, i < n → f i = n → i = k := by
        intro i hi h
        rcases Nat.lt_trichotomy i k with h1 | h1 | h1
        · exact absurd (h.trans hkn.symm) (hinj i k h1 (by omega))
        · exact h1
        · exact absurd (hkn.trans h.symm) (hinj k i h1 (by omega))
      have hfn : f n < n := by
        have := hf n (by omega)
        have h2 := hinj k n hk (by omega)
        omega
      by_cases hyn : y = n
      · exact ⟨k, by omega, by omega⟩
      obtain ⟨i, hi, hiy⟩ := ih (fun i => if f i = n then f n else f i)
        (by intro i hi; show (if f i = n then f n else f i) < n; split
            · exact hfn
            · have := hf i (by omega); omega)
        (by intro i j hij hj; show (if f i = n then f n else f i) ≠ (if f j = n then f n else f j)
            by_cases h1 : f i = n <;> by_cases h2 : f j = n
            · have := hne i (by omega) h1; have := hne j hj h2; omega
            · rw [if_pos h1, if_neg h2]; exact fun h => hinj j n hj (by omega) h.symm
            · rw [if_neg h1, if_pos h2]; exact hinj i n (by omega) (by omega)
            · rw [if_neg h1, if_neg h2]; exact hinj i j hij (by omega))
        y (by omega)
      have hiy : (if f i = n then f n else f i) = y := hiy
      by_cases h1 : f i = n
      · rw [if_pos h1] at hiy; exact absurd hiy hy0
      · rw [if_neg h1] at hiy; exact ⟨i, by omega, hiy⟩
    · have hlt : ∀ i, i < n → f i < n := by
        intro i hi
        have h1 := hf i (by omega)
        have h2 : f i ≠ n := fun h => hex ⟨i, hi, h⟩
        omega
      have hfn := hf n (by omega)
      by_cases h3 : f n = n
      · obtain ⟨i, hi, hiy⟩ := ih f hlt (fun i j hij hj => hinj i j hij (by omega)) y (by omega)
        exact ⟨i, by omega, hiy⟩
      · obtain ⟨i, hi, hiy⟩ := ih f hlt (fun i j hij hj => hinj i j hij (by omega)) (f n) (by omega)
        exact absurd hiy (hinj i n hi (by omega))

theorem Root.fermat {p g : Nat} (R : Root p g) (a : Nat) (h0 : 0 < a) (h1 : a < p) : a ^ (p - 1) % p = 1 := by
  have hp := R.big
  obtain ⟨i, _, hi⟩ := onto (p - 1) (fun i => g ^ i % p - 1)
    (by intro i hi; have := Nat.mod_lt (g ^ i) (show p > 0 by omega); show g ^ i % p - 1 < p - 1; omega)
    (by intro i j hij hj; show g ^ i % p - 1 ≠ g ^ j % p - 1
        have a1 := R.inj i j hij hj
        have a2 := R.pos i (by omega)
        have a3 := R.pos j (by omega)
        omega)
    (a - 1) (by omega)
  have hi : g ^ i % p - 1 = a - 1 := hi
  have a2 := R.pos i (by omega)
  have e : a = g ^ i % p := by omega
  rw [e, ← Nat.pow_mod, ← Nat.pow_mul, Nat.mul_comm, Nat.pow_mul, Nat.pow_mod, R.whole, Nat.one_pow, Nat.mod_eq_of_lt (by omega)]

theorem p2 : ∀ d, d ∣ 2 → d = 1 ∨ d = 2 := prime_of 2 2 (by decide) (by decide) (by decide)
theorem p3 : ∀ d, d ∣ 3 → d = 1 ∨ d = 3 := prime_of 3 2 (by decide) (by decide) (by decide)
theorem p5 : ∀ d, d ∣ 5 → d = 1 ∨ d = 5 := prime_of 5 3 (by decide) (by decide) (by decide)
theorem p17 : ∀ d, d ∣ 17 → d = 1 ∨ d = 17 := prime_of 17 5 (by decide) (by decide) (by decide)
theorem p257 : ∀ d, d ∣ 257 → d = 1 ∨ d = 257 := prime_of 257 17 (by decide) (by decide) (by decide)
theorem p65537 : ∀ d, d ∣ 65537 → d = 1 ∨ d = 65537 := prime_of 65537 257 (by decide) (by decide) (by decide +kernel)

theorem root_mk (p g : Nat) (big : 2 < p) (lt : p ≤ 2 ^ 64) (whole : pm p 64 g (p - 1) % p = 1)
    (part : ∀ m, 1 < m → m ∣ p - 1 → ∃ q, 0 < q ∧ q ∣ m ∧ pm p 64 g ((p - 1) / q) % p ≠ 1) : Root p g where
  big := big
  whole := by rw [← pm_pow p 64 g (p - 1) (by omega)]; exact whole
  part := by
    intro m hm hd
    obtain ⟨q, hq, hqm, hne⟩ := part m hm hd
    have hle : (p - 1) / q ≤ p - 1 := Nat.div_le_self _ _
    refine ⟨q, hq, hqm, ?_⟩
    rw [← pm_pow p 64 g _ (by omega)]; exact hne

theorem small2 : pm 2013265921 64 31 ((2013265921 - 1) / 2) % 2013265921 ≠ 1 := by decide +kernel
theorem small3 : pm 2013265921 64 31 ((2013265921 - 1) / 3) % 2013265921 ≠ 1 := by decide +kernel
theorem small5 : pm 2013265921 64 31 ((2013265921 - 1) / 5) % 2013265921 ≠ 1 := by decide +kernel
theorem smallAll : pm 2013265921 64 31 (2013265921 - 1) % 2013265921 = 1 := by decide +kernel
theorem smallFac : 2013265921 - 1 = 2 ^ 27 * (3 ^ 1 * (5 ^ 1 * 1)) := by decide +kernel

theorem rootSmall : Root 2013265921 31 := by
  refine root_mk _ _ (by decide) (by decide) smallAll ?_
  intro m hm hd
  rw [smallFac] at hd
  rcases cop_step 2 27 _ m p2 hd with h | hd
  · exact ⟨2, by decide, h, small2⟩
  rcases cop_step 3 1 _ m p3 hd with h | hd
  · exact ⟨3, by decide, h, small3⟩
  rcases cop_step 5 1 _ m p5 hd with h | hd
  · exact ⟨5, by decide, h, small5⟩
  have := Nat.le_of_dvd (by decide) hd
  omega

theorem large2 : pm 18446744069414584321 64 7 ((18446744069414584321 - 1) / 2) % 18446744069414584321 ≠ 1 := by decide +kernel
theorem large3 : pm 18446744069414584321 64 7 ((18446744069414584321 - 1) / 3) % 18446744069414584321 ≠ 1 := by decide +kernel
theorem large5 : pm 18446744069414584321 64 7 ((18446744069414584321 - 1) / 5) % 18446744069414584321 ≠ 1 := by decide +kernel
theorem large17 : pm 18446744069414584321 64 7 ((18446744069414584321 - 1) / 17) % 18446744069414584321 ≠ 1 := by decide +kernel
theorem large257 : pm 18446744069414584321 64 7 ((18446744069414584321 - 1) / 257) % 18446744069414584321 ≠ 1 := by decide +kernel
theorem large65537 : pm 18446744069414584321 64 7 ((18446744069414584321 - 1) / 65537) % 18446744069414584321 ≠ 1 := by decide +kernel
theorem largeAll : pm 18446744069414584321 64 7 (18446744069414584321 - 1) % 18446744069414584321 = 1 := by decide +kernel
theorem largeFac : 18446744069414584321 - 1 = 2 ^ 32 * (3 ^ 1 * (5 ^ 1 * (17 ^ 1 * (257 ^ 1 * (65537 ^ 1 * 1))))) := by decide +kernel

theorem rootLarge : Root 18446744069414584321 7 := by
  refine root_mk _ _ (by decide) (by decide) largeAll ?_
  intro m hm hd
  rw [largeFac] at hd
  rcases cop_step 2 32 _ m p2 hd with h | hd
  · exact ⟨2, by decide, h, large2⟩
  rcases cop_step 3 1 _ m p3 hd with h | hd
  · exact ⟨3, by decide, h, large3⟩
  rcases cop_step 5 1 _ m p5 hd with h | hd
  · exact ⟨5, by decide, h, large5⟩
  rcases cop_step 17 1 _ m p17 hd with h | hd
  · exact ⟨17, by decide, h, large17⟩
  rcases cop_step 257 1 _ m p257 hd with h | hd
  · exact ⟨257, by decide, h, large257⟩
  rcases cop_step 65537 1 _ m p65537 hd with h | hd
  · exact ⟨65537, by decide, h, large65537⟩
  have := Nat.le_of_dvd (by decide) hd
  omega

end Go.Proofs.Ytfgokcphnkkgnaa.Fld

namespace Go.Proofs.Ytfgokcphnkkgnaa.Fld

def add (p a b : Int) : Int := (a + b) % p
def sub (p a b : Int) : Int := (a - b) % p
def mul (p a b : Int) : Int := (a * b) % p
def pow (p a n : Int) : Int := (a ^ n.toNat) % p
/-- a is an element. -/
def El (p a : Int) : Prop := 0 ≤ a ∧ a < p
/-- A word. -/
def Wd (a : Int) : Prop := 0 ≤ a ∧ a < 18446744073709551616
/-- The two fields. -/
def Md (p : Int) (wd : Bool) : Prop := (p = 2013265921 ∧ wd = false) ∨ (p = 18446744069414584321 ∧ wd = true)
/-- What a word loses by a carry. -/
def low64 (a : Int) : Int := a % 18446744073709551616
def high64 (a : Int) : Int := a / 18446744073709551616

/-- What sub answers, also of a word that is no element. -/
def subR (p a b : Int) : Int := if a < b then a - b + p else a - b

theorem Md.bounds {p : Int} {wd : Bool} (h : Md p wd) : 2 ≤ p ∧ p < 18446744073709551616 := by
  rcases h with ⟨h, _⟩ | ⟨h, _⟩ <;> omega

theorem add_el {p a b : Int} (hp : 0 < p) : El p (add p a b) := ⟨Int.emod_nonneg _ (by omega), Int.emod_lt_of_pos _ hp⟩
theorem sub_el {p a b : Int} (hp : 0 < p) : El p (sub p a b) := ⟨Int.emod_nonneg _ (by omega), Int.emod_lt_of_pos _ hp⟩
theorem mul_el {p a b : Int} (hp : 0 < p) : El p (mul p a b) := ⟨Int.emod_nonneg _ (by omega), Int.emod_lt_of_pos _ hp⟩
theorem pow_el {p a n : Int} (hp : 0 < p) : El p (pow p a n) := ⟨Int.emod_nonneg _ (by omega), Int.emod_lt_of_pos _ hp⟩

theorem emod_sub_self (x p : Int) (h : p ≤ x) (h2 : x < 2 * p) : x % p = x - p := by
  have : x % p = (x - p) % p := by rw [Int.sub_emod_right]
  rw [this, Int.emod_eq_of_lt (by omega) (by omega)]
theorem emod_add_self (x p : Int) (h : -p ≤ x) (h2 : x < 0) : x % p = x + p := by
  have : x % p = (x + p) % p := by rw [Int.add_emod_right]
  rw [this, Int.emod_eq_of_lt (by omega) (by omega)]

theorem subR_sub (p a b : Int) (h1 : 0 ≤ a) (h2 : a < p) (h3 : 0 ≤ b) (h4 : b < p) : subR p a b = sub p a b := by
  unfold subR sub
  split
  · exact (emod_add_self _ _ (by omega) (by omega)).symm
  · exact (Int.emod_eq_of_lt (by omega) (by omega)).symm

theorem down_small (x : Int) (h0 : 0 ≤ x) (h1 : x ≤ 4053239664633446400) :
    El 2013265921 (x % 2013265920) ∧ El 2013265921 (x / 2013265920) ∧ sub 2013265921 (x % 2013265920) (x / 2013265920) = x % 2013265921 := by
  unfold El sub
  refine ⟨⟨by omega, by omega⟩, ⟨by omega, by omega⟩, ?_⟩
  have e : x % 2013265920 - x / 2013265920 = x - 2013265921 * (x / 2013265920) := by omega
  rw [e, Int.sub_mul_emod_self_left]

theorem down_large (h l : Int) (h0 : 0 ≤ h) (h1 : h ≤ 18446744073709551615) (l0 : 0 ≤ l) (l1 : l ≤ 18446744073709551615) :
    0 ≤ subR 18446744069414584321 l (h / 4294967296) ∧ subR 18446744069414584321 l (h / 4294967296) ≤ 18446744073709551615 ∧
    subR 18446744069414584321 l (h / 4294967296) + h % 4294967296 * 4294967295 < 2 * 18446744069414584321 ∧
    add 18446744069414584321 (subR 18446744069414584321 l (h / 4294967296)) (h % 4294967296 * 4294967295) = (h * 18446744073709551616 + l) % 18446744069414584321 := by
  unfold add subR
  have e : h * 18446744073709551616 + l = (l - h / 4294967296 + h % 4294967296 * 4294967295) + 18446744069414584321 * (h / 4294967296 * 4294967297 + h % 4294967296) := by omega
  rw [e, Int.add_mul_emod_self_left]
  split
  · refine ⟨by omega, by omega, by omega, ?_⟩
    have e2 : l - h / 4294967296 + 18446744069414584321 + h % 4294967296 * 4294967295 = (l - h / 4294967296 + h % 4294967296 * 4294967295) + 18446744069414584321 := by omega
    rw [e2, Int.add_emod_right]
  · exact ⟨by omega, by omega, by omega, rfl⟩

theorem high_low (x : Int) : high64 x * 18446744073709551616 + low64 x = x := by unfold high64 low64; omega

theorem mul_le {a b k : Int} (ha : 0 ≤ a) (hb : 0 ≤ b) (ha' : a ≤ k) (hb' : b ≤ k) : 0 ≤ a * b ∧ a * b ≤ k * k :=
  ⟨Int.mul_nonneg ha hb, Int.mul_le_mul ha' hb' hb (by omega)⟩

theorem mask32 (h : Int) (h0 : 0 ≤ h) (h1 : h ≤ 18446744073709551615) : 0 ≤ h / 4294967296 ∧ h / 4294967296 ≤ 4294967295 ∧ 0 ≤ h % 4294967296 * 4294967295 ∧ h % 4294967296 * 4294967295 ≤ 18446744073709551615 := by omega

end Go.Proofs.Ytfgokcphnkkgnaa.Fld

namespace Go.Proofs.Ytfgokcphnkkgnaa.Fld

theorem pow_emod (a p : Int) (n : Nat) : (a % p) ^ n % p = a ^ n % p := by
  induction n with
  | zero => simp
  | succ n ih => rw [Int.pow_succ, Int.pow_succ, Int.mul_emod, ih, Int.emod_emod, ← Int.mul_emod]

theorem mul_emod_left (a b p : Int) : (a % p * b) % p = (a * b) % p := by
  rw [Int.mul_emod, Int.emod_emod, ← Int.mul_emod]
theorem mul_emod_right (a b p : Int) : (a * (b % p)) % p = (a * b) % p := by
  rw [Int.mul_emod, Int.emod_emod, ← Int.mul_emod]

/-- What the loop of power keeps. -/
def Pin (p P A N t : Int) : Prop := (P * A ^ N.toNat) % p = t

theorem Pin.start (p a n : Int) : Pin p 1 a n (pow p a n) := by unfold Pin pow; rw [Int.one_mul]
theorem Pin.done {p P A N t : Int} (h : Pin p P A N t) (hN : N = 0) (hP : El p P) : P = t := by
  unfold Pin at h; subst hN
  rw [← h]; simp; exact (Int.emod_eq_of_lt hP.1 hP.2).symm
theorem sq_half (A : Int) (k : Nat) : (A * A) ^ k = A ^ (2 * k) := by rw [Int.pow_mul, Int.pow_succ, Int.pow_succ, Int.pow_zero, Int.one_mul]
theorem Pin.odd {p P A N t : Int} (h : Pin p P A N t) (h0 : 0 ≤ N) (ho : N % 2 = 1) : Pin p (mul p P A) (mul p A A) (N / 2) t := by
  unfold Pin mul at *
  rw [← h, mul_emod_left, ← mul_emod_right _ ((A * A % p) ^ _), pow_emod, mul_emod_right, sq_half, Int.mul_assoc]
  have e : A * A ^ (2 * (N / 2).toNat) = A ^ N.toNat := by
    have e1 : N.toNat = 2 * (N / 2).toNat + 1 := by omega
    rw [e1, Int.pow_succ, Int.mul_comm]
  rw [e]
theorem Pin.even {p P A N t : Int} (h : Pin p P A N t) (h0 : 0 ≤ N) (ho : N % 2 = 0) : Pin p P (mul p A A) (N / 2) t := by
  unfold Pin mul at *
  rw [← h, ← mul_emod_right _ ((A * A % p) ^ _), pow_emod, mul_emod_right, sq_half]
  have e1 : N.toNat = 2 * (N / 2).toNat := by omega
  rw [e1]

/-- The prime of a field has Fermat's law. -/
theorem Md.fermat {p : Int} {wd : Bool} (h : Md p wd) (a : Int) (h0 : 0 < a) (h1 : a < p) : a ^ (p - 1).toNat % p = 1 := by
  have key : ∀ P : Nat, p = (P : Int) → (∀ x : Nat, 0 < x → x < P → x ^ (P - 1) % P = 1) → a ^ (p - 1).toNat % p = 1 := by
    intro P hP hx
    obtain ⟨x, rfl⟩ := Int.eq_ofNat_of_zero_le (Int.le_of_lt h0)
    have := hx x (by omega) (by omega)
    rw [hP, show ((P : Int) - 1).toNat = P - 1 from by omega, ← Int.natCast_pow, ← Int.natCast_emod, this]; rfl
  rcases h with ⟨h, _⟩ | ⟨h, _⟩
  · exact key 2013265921 h fun x a b => rootSmall.fermat x a b
  · exact key 18446744069414584321 h fun x a b => rootLarge.fermat x a b

theorem Md.inv {p : Int} {wd : Bool} (h : Md p wd) (a : Int) (h0 : 0 < a) (h1 : a < p) : (a * a ^ (p - 2).toNat) % p = 1 := by
  have := h.fermat a h0 h1
  have hb := h.bounds
  have e : (p - 1).toNat = (p - 2).toNat + 1 := by omega
  rw [e, Int.pow_succ, Int.mul_comm] at this
  exact this

/-- No number above 1 divides both an element that is not 0 and the prime. -/
theorem Md.cop {p : Int} {wd : Bool} (h : Md p wd) (a : Int) (h0 : 0 < a) (h1 : a < p) (d : Int) (hd : 0 < d) (ha : d ∣ a) (hp : d ∣ p) : d = 1 := by
  have e := h.inv a h0 h1
  have e2 := Int.emod_add_mul_ediv (a * a ^ (p - 2).toNat) p
  rw [e] at e2
  have : d ∣ 1 := by
    have d1 : d ∣ a * a ^ (p - 2).toNat := Int.dvd_trans ha (Int.dvd_mul_right _ _)
    have d2 : d ∣ p * (a * a ^ (p - 2).toNat / p) := Int.dvd_trans hp (Int.dvd_mul_right _ _)
    have e3 : (1 : Int) = a * a ^ (p - 2).toNat - p * (a * a ^ (p - 2).toNat / p) := by omega
    rw [e3]; exact Int.dvd_sub d1 d2
  have := Int.le_of_dvd (by decide) this
  omega

/-- Euclid's rows: r and s, the sizes u and v of their factors, the sign. -/
structure Eu (p a r s u v : Int) (mi : Bool) : Prop where
  rs : s < r
  s1 : 1 ≤ s
  u0 : 0 ≤ u
  v0 : 0 ≤ v
  all : r * v + s * u = p
  cop : ∀ d : Int, 0 < d → d ∣ r → d ∣ s → d = 1
  sw : ∃ k : Int, s = (if mi then -(v * a) else v * a) + k * p
  rw : ∃ k : Int, r = (if mi then u * a else -(u * a)) + k * p

theorem Eu.start {p a : Int} {wd : Bool} (h : Md p wd) (h0 : 0 < a) (h1 : a < p) : Eu p a p a 0 1 false where
  rs := h1
  s1 := h0
  u0 := Int.le_refl 0
  v0 := by decide
  all := by omega
  cop := fun d hd hr hs => h.cop a h0 h1 d hd hs hr
  sw := ⟨0, by simp⟩
  rw := ⟨1, by simp⟩

theorem Eu.le {p a r s u v : Int} {mi : Bool} (e : Eu p a r s u v mi) : u ≤ p ∧ v ≤ p ∧ r ≤ p ∨ v = 0 := by
  have h1 := e.s1; have h2 := e.u0; have h3 := e.v0; have h4 := e.all; have h5 := e.rs
  by_cases hv : v = 0
  · exact .inr hv
  left
  have a1 : 0 ≤ (s - 1) * u := Int.mul_nonneg (by omega) h2
  have a2 : 0 ≤ (r - 1) * v := Int.mul_nonneg (by omega) h3
  have a3 : 0 ≤ r * (v - 1) := Int.mul_nonneg (by omega) (by omega)
  have a4 : 0 ≤ s * u := Int.mul_nonneg (by omega) h2
  have a5 : 0 ≤ r * v := Int.mul_nonneg (by omega) h3
  rw [Int.sub_mul] at a1 a2
  rw [Int.mul_sub] at a3
  omega

theorem Eu.step {p a r s u v : Int} {mi : Bool} (e : Eu p a r s u v mi) (hs : 1 < s) :
    Eu p a s (r - r / s * s) v (u + r / s * v) (!mi) ∧ r - r / s * s < s ∧ 0 ≤ r / s ∧ r / s * s ≤ r := by
  have h1 := e.s1; have h2 := e.u0; have h3 := e.v0; have h4 := e.all; have h5 := e.rs
  have q0 : 0 ≤ r / s := Int.ediv_nonneg (by omega) (by omega)
  have em : r - r / s * s = r % s := by rw [Int.emod_def, Int.mul_comm]
  have m0 : 0 ≤ r % s := Int.emod_nonneg _ (by omega)
  have m1 : r % s < s := Int.emod_lt_of_pos _ (by omega)
  refine ⟨?_, by omega, q0, by omega⟩
  have hne : r % s ≠ 0 := by
    intro hz
    have := e.cop s (by omega) (Int.dvd_of_emod_eq_zero hz) (Int.dvd_refl s)
    omega
  obtain ⟨k, hk⟩ := e.sw
  obtain ⟨k', hk'⟩ := e.rw
  exact {
    rs := by omega
    s1 := by omega
    u0 := h3
    v0 := by have := Int.mul_nonneg q0 h3; omega
    all := by
      rw [Int.mul_add, Int.sub_mul, ← h4, Int.mul_assoc (r / s) s v, Int.mul_left_comm s (r / s) v]
      omega
    cop := by
      intro d hd ds dr
      refine e.cop d hd ?_ ds
      have : r = r / s * s + (r - r / s * s) := by omega
      rw [this]
      exact Int.dvd_add (Int.dvd_trans ds (Int.dvd_mul_left _ _)) dr
    sw := by
      refine ⟨k' - r / s * k, ?_⟩
      cases mi
      · simp only [Bool.not_false, if_true, Bool.false_eq_true, if_false] at hk hk' ⊢
        have e1 : r / s * s = r / s * (v * a) + r / s * k * p := by rw [Int.mul_assoc (r / s) k p, ← Int.mul_add, ← hk]
        rw [Int.add_mul, Int.sub_mul, Int.mul_assoc (r / s) v a]
        omega
      · simp only [Bool.not_true, if_true, Bool.false_eq_true, if_false] at hk hk' ⊢
        have e1 : r / s * s = -(r / s * (v * a)) + r / s * k * p := by rw [Int.mul_assoc (r / s) k p, ← Int.mul_neg, ← Int.mul_add, ← hk]
        rw [Int.add_mul, Int.sub_mul, Int.mul_assoc (r / s) v a]
        omega
    rw := by
      refine ⟨k, ?_⟩
      cases mi
      · simpa using hk
      · simpa using hk }

/-- What the inverse is. -/
def IsInv (p a x : Int) : Prop := El p x ∧ (a * x) % p = 1 % p

theorem Eu.done {p a r s u v : Int} {mi : Bool} (e : Eu p a r s u v mi) (hs : ¬ 1 < s) (hp : 2 ≤ p) : IsInv p a (if mi then p - v else v) := by
  have h1 := e.s1; have h2 := e.u0; have h3 := e.v0; have h4 := e.all; have h5 := e.rs
  have hs1 : s = 1 := by omega
  obtain ⟨k, hk⟩ := e.sw
  have hv : v ≠ 0 := by
    intro hz
    rw [hz, hs1] at hk
    simp at hk
    have : p ∣ 1 := ⟨k, by rw [Int.mul_comm]; exact hk⟩
    have := Int.le_of_dvd (by decide) this
    omega
  have a3 : 0 ≤ (r - 2) * v := Int.mul_nonneg (by omega) h3
  rw [Int.sub_mul] at a3
  rw [hs1] at hk h4
  cases mi
  · simp only [Bool.false_eq_true, if_false] at hk ⊢
    refine ⟨⟨h3, by omega⟩, ?_⟩
    have : a * v = 1 + p * (-k) := by rw [Int.mul_comm, Int.mul_neg, Int.mul_comm p k]; omega
    rw [this, Int.add_mul_emod_self_left]
  · simp only [if_true] at hk ⊢
    refine ⟨⟨by omega, by omega⟩, ?_⟩
    have : a * (p - v) = 1 + p * (a - k) := by rw [Int.mul_sub, Int.mul_sub, Int.mul_comm p a, Int.mul_comm p k, Int.mul_comm a v]; omega
    rw [this, Int.add_mul_emod_self_left]

/-- The one inverse. -/
def inv (p a : Int) : Int := pow p a (p - 2)

theorem IsInv.eq {p a x : Int} {wd : Bool} (hm : Md p wd) (h0 : 0 < a) (h1 : a < p) (h : IsInv p a x) : x = inv p a := by
  obtain ⟨⟨x0, x1⟩, hx⟩ := h
  have hi := hm.inv a h0 h1
  have hb := hm.bounds
  have e1 : x % p = x := Int.emod_eq_of_lt x0 x1
  unfold inv pow
  generalize a ^ (p - 2).toNat = y at *
  have e2 : (y * (a * x)) % p = y % p := by rw [← mul_emod_right, hx, mul_emod_right, Int.mul_one]
  have e3 : (y * (a * x)) % p = x % p := by
    rw [← Int.mul_assoc, Int.mul_comm y a, ← mul_emod_left, hi, Int.one_mul]
  rw [← e1, ← e3, e2]

end Go.Proofs.Ytfgokcphnkkgnaa.Fld

namespace Go.Proofs.Ytfgokcphnkkgnaa.Fld

theorem half_pow (b : Int) (k : Nat) : b / 2 ^ (k + 1) = b / 2 ^ k / 2 := by
  rw [Int.pow_succ, Int.ediv_ediv_of_nonneg (Int.le_of_lt (Int.pow_pos (by decide)))]

theorem word_shift (b : Int) (k : Nat) (h0 : 0 ≤ b) (h1 : b ≤ 18446744073709551615) : 0 ≤ b / 2 ^ k ∧ b / 2 ^ k ≤ 18446744073709551615 := by
  have hp : (0 : Int) < 2 ^ k := Int.pow_pos (by decide)
  refine ⟨Int.ediv_nonneg h0 (Int.le_of_lt hp), ?_⟩
  have : b / 2 ^ k ≤ b := Int.ediv_le_self _ h0
  omega

theorem times_odd (p a q : Int) (ho : q % 2 = 1) : add p (add p (mul p a (q / 2)) (mul p a (q / 2))) a = mul p a q := by
  unfold add mul
  obtain ⟨h, hh⟩ : ∃ h, q / 2 = h := ⟨_, rfl⟩
  have e : q = h + h + 1 := by omega
  rw [hh, ← Int.add_emod, Int.emod_add_emod, e, Int.mul_add, Int.mul_add, Int.mul_one]
theorem times_even (p a q : Int) (ho : q % 2 = 0) : add p (mul p a (q / 2)) (mul p a (q / 2)) = mul p a q := by
  unfold add mul
  obtain ⟨h, hh⟩ : ∃ h, q / 2 = h := ⟨_, rfl⟩
  have e : q = h + h := by omega
  rw [hh, ← Int.add_emod, e, Int.mul_add]

theorem power_odd (p a q : Int) (h0 : 0 ≤ q) (ho : q % 2 = 1) : mul p (mul p (pow p a (q / 2)) (pow p a (q / 2))) a = pow p a q := by
  unfold mul pow
  rw [← Int.mul_emod, mul_emod_left]
  have e : q.toNat = (q / 2).toNat + (q / 2).toNat + 1 := by omega
  rw [e, Int.pow_succ, Int.pow_add]
theorem power_even (p a q : Int) (h0 : 0 ≤ q) (ho : q % 2 = 0) : mul p (pow p a (q / 2)) (pow p a (q / 2)) = pow p a q := by
  unfold mul pow
  rw [← Int.mul_emod]
  have e : q.toNat = (q / 2).toNat + (q / 2).toNat := by omega
  rw [e, Int.pow_add]

theorem shift_all (b : Int) (h0 : 0 ≤ b) (h1 : b ≤ 18446744073709551615) : b / 2 ^ 64 = 0 := by
  have : (2 : Int) ^ 64 = 18446744073709551616 := by decide
  rw [this]; omega
theorem mul_zero_right (p a : Int) : mul p a 0 = 0 := by simp [mul]
theorem pow_zero_right (p a : Int) : pow p a 0 = 1 % p := by simp [pow]

end Go.Proofs.Ytfgokcphnkkgnaa.Fld

namespace Go.Proofs.Ytfgokcphnkkgnaa.Fld

theorem ring_comm (p a b : Int) : mul p a b = mul p b a := by unfold mul; rw [Int.mul_comm]
theorem ring_assoc (p a b c : Int) : mul p (mul p a b) c = mul p a (mul p b c) := by
  unfold mul; rw [mul_emod_left, mul_emod_right, Int.mul_assoc]
theorem ring_dist (p a b c : Int) : mul p a (add p b c) = add p (mul p a b) (mul p a c) := by
  unfold mul add; rw [mul_emod_right, ← Int.add_emod, Int.mul_add]
theorem sub_back (p a b : Int) (ha : El p a) : add p (sub p a b) b = a := by
  unfold add sub; rw [Int.emod_add_emod]
  have : a - b + b = a := by omega
  rw [this]; exact Int.emod_eq_of_lt ha.1 ha.2
theorem pow_add_law (p a m n : Int) (hm : 0 ≤ m) (hn : 0 ≤ n) : mul p (pow p a m) (pow p a n) = pow p a (m + n) := by
  unfold mul pow; rw [← Int.mul_emod, ← Int.pow_add]
  have : (m + n).toNat = m.toNat + n.toNat := by omega
  rw [this]
theorem pow_zero_base (p n : Int) (hn : 0 < n) : pow p 0 n = 0 := by
  unfold pow
  obtain ⟨k, hk⟩ : ∃ k, n.toNat = k + 1 := ⟨n.toNat - 1, by omega⟩
  rw [hk, Int.pow_succ, Int.mul_zero]; rfl
theorem fermat_law {p : Int} {wd : Bool} (h : Md p wd) (a : Int) (ha : El p a) (h0 : a ≠ 0) : pow p a (p - 1) = 1 := by
  unfold pow; exact h.fermat a (by have := ha.1; omega) ha.2
theorem mul_inv {p : Int} {wd : Bool} (h : Md p wd) (a : Int) (ha : El p a) (h0 : a ≠ 0) : mul p a (inv p a) = 1 := by
  have := h.inv a (by have := ha.1; omega) ha.2
  unfold mul inv pow; rw [mul_emod_right]; exact this
theorem quot_back {p : Int} {wd : Bool} (h : Md p wd) (a b : Int) (ha : El p a) (hb : El p b) (h0 : b ≠ 0) : mul p (mul p a (inv p b)) b = a := by
  rw [ring_assoc, ring_comm p (inv p b) b, mul_inv h b hb h0]
  unfold mul; rw [Int.mul_one]; exact Int.emod_eq_of_lt ha.1 ha.2

end Go.Proofs.Ytfgokcphnkkgnaa.Fld

