import Derived.KernelRfl
set_option linter.unusedVariables false
set_option linter.unusedSimpArgs false
set_option maxRecDepth 100000
set_option maxHeartbeats 4000000
namespace Go.Proofs.YtjhididlcdepdaaGreat.Fld
theorem mul_mod_one (p x y : Nat) (h : x % p = 1) : (x * y) % p = y % p := by
 rw [Nat.mul_mod, h, Nat.one_mul, Nat.mod_mod]
theorem pow_one_of (p g m k : Nat) (hp : 1 < p) (h : g ^ m % p = 1) : g ^ (m * k) % p = 1 := by
 rw [Nat.pow_mul, Nat.pow_mod, h, Nat.one_pow, Nat.mod_eq_of_lt hp]
theorem pow_rest (p g m n : Nat) (hp : 1 < p) (hm : g ^ m % p = 1) (hn : g ^ n % p = 1) : g ^ (n % m) % p = 1 := by
 have e : g ^ n = g ^ (m * (n / m)) * g ^ (n % m) := by rw [<- Nat.pow_add, Nat.div_add_mod]
 rw [e, mul_mod_one p _ _ (pow_one_of p g m (n / m) hp hm)] at hn
 exact hn
theorem pow_gcd (p g m n : Nat) (hp : 1 < p) (hm : g ^ m % p = 1) (hn : g ^ n % p = 1) : g ^ (Nat.gcd m n) % p = 1 := by
 induction m, n using Nat.gcd.induction with
 | H0 n => simpa using hn
 | H1 m n hpos ih =>
  rw [Nat.gcd_rec]
  exact ih (pow_rest p g m n hp hm hn) hm
def pm (p : Nat) : Nat -> Nat -> Nat -> Nat
 | 0, _, _ => 1
 | k + 1, a, n => if n % 2 = 1 then pm p k (a * a % p) (n / 2) * a % p else pm p k (a * a % p) (n / 2)
theorem pm_pow (p : Nat) (k : Nat) : ∀ a n, n < 2 ^ k -> pm p k a n % p = a ^ n % p := by
 induction k with
 | zero => intro a n h; have : n = 0 := by simpa using h
           subst this; simp [pm]
 | succ k ih =>
  intro a n h
  have h2 : n / 2 < 2 ^ k := by rw [Nat.pow_succ] at h; omega
  have e := ih (a * a % p) (n / 2) h2
  have e2 : (a * a % p) ^ (n / 2) % p = a ^ (2 * (n / 2)) % p := by
   rw [<- Nat.pow_mod, Nat.pow_mul, Nat.pow_two]
  rw [e2] at e
  unfold pm
  by_cases ho : n % 2 = 1
  · rw [if_pos ho, Nat.mod_mod, Nat.mul_mod, e, <- Nat.mul_mod, <- Nat.pow_succ]
    congr 2; omega
  · rw [if_neg ho, e]
    congr 2; omega
theorem prime_of (q s : Nat) (hq : 0 < q) (hs : q < s * s) (h : ∀ d, d < s -> d ∣ q -> d = 1 ∨ d = q) : ∀ d, d ∣ q -> d = 1 ∨ d = q := by
 intro d hd
 by_cases hl : d < s
 · exact h d hl hd
 · obtain ⟨e, he⟩ := hd
   have hes : e < s := by
    apply Nat.lt_of_not_le
    intro hc
    have := Nat.mul_le_mul (Nat.le_of_not_lt hl) hc
    omega
   rcases h e hes ⟨d, by rw [he, Nat.mul_comm]⟩ with h1 | h1
   · right; rw [he, h1, Nat.mul_one]
   · left
     rw [h1] at he
     have : d * q = 1 * q := by omega
     exact Nat.eq_of_mul_eq_mul_right hq this
theorem cop_step (q k r m : Nat) (hq : ∀ d, d ∣ q -> d = 1 ∨ d = q) (h : m ∣ q ^ k * r) : q ∣ m ∨ m ∣ r := by
 rcases hq _ (Nat.gcd_dvd_right m q) with h1 | h1
 · right
   have hc : Nat.Coprime m (q ^ k) := Nat.Coprime.pow_right k h1
   exact hc.dvd_of_dvd_mul_left h
 · left
   rw [<- h1]; exact Nat.gcd_dvd_left m q
structure Root (p g : Nat) : Prop where
 big : 2 < p
 whole : g ^ (p - 1) % p = 1
 part : ∀ m, 1 < m -> m ∣ p - 1 -> ∃ q, 0 < q ∧ q ∣ m ∧ g ^ ((p - 1) / q) % p ≠ 1
theorem Root.dvd {p g : Nat} (R : Root p g) (d : Nat) (h : g ^ d % p = 1) : p - 1 ∣ d := by
 have hp := R.big
 have hg := pow_gcd p g d (p - 1) (by omega) h R.whole
 have hdv := Nat.gcd_dvd_right d (p - 1)
 obtain ⟨m, hm⟩ := hdv
 by_cases h1 : m = 1
 · rw [h1, Nat.mul_one] at hm
   rw [hm]; exact Nat.gcd_dvd_left d (p - 1)
 · exfalso
   have hm0 : m ≠ 0 := by intro hc; rw [hc, Nat.mul_zero] at hm; omega
   obtain ⟨q, hq0, ⟨c, hc⟩, hne⟩ := R.part m (by omega) ⟨_, by rw [Nat.mul_comm]; exact hm⟩
   apply hne
   have e : (p - 1) / q = Nat.gcd d (p - 1) * c := by
    apply Nat.div_eq_of_eq_mul_left hq0
    rw [Nat.mul_assoc, Nat.mul_comm c q, <- hc]
    exact hm
   rw [e]
   exact pow_one_of p g _ c (by omega) hg
theorem Root.inj {p g : Nat} (R : Root p g) (i j : Nat) (hij : i < j) (hj : j < p - 1) : g ^ i % p ≠ g ^ j % p := by
 intro h
 have hp := R.big
 have e1 : g ^ (p - 1 - i) * g ^ i = g ^ (p - 1) := by rw [<- Nat.pow_add]; congr 1; omega
 have e2 : g ^ (p - 1 - i) * g ^ j = g ^ (p - 1) * g ^ (j - i) := by rw [<- Nat.pow_add, <- Nat.pow_add]; congr 1; omega
 have e3 : (g ^ (p - 1 - i) * g ^ i) % p = (g ^ (p - 1 - i) * g ^ j) % p := by rw [Nat.mul_mod, h, <- Nat.mul_mod]
 rw [e1, e2, mul_mod_one p _ _ R.whole, R.whole] at e3
 have := Nat.le_of_dvd (by omega) (R.dvd (j - i) e3.symm)
 omega
theorem Root.pos {p g : Nat} (R : Root p g) (i : Nat) (hi : i <= p - 1) : g ^ i % p ≠ 0 := by
 intro h
 have e1 : g ^ i * g ^ (p - 1 - i) = g ^ (p - 1) := by rw [<- Nat.pow_add]; congr 1; omega
 have := R.whole
 rw [<- e1, Nat.mul_mod, h, Nat.zero_mul, Nat.zero_mod] at this
 omega
theorem onto (n : Nat) : ∀ f : Nat -> Nat, (∀ i, i < n -> f i < n) -> (∀ i j, i < j -> j < n -> f i ≠ f j) -> ∀ y, y < n -> ∃ i, i < n ∧ f i = y := by
 induction n with
 | zero => intro f _ _ y hy; omega
 | succ n ih =>
  intro f hf hinj y hy
  by_cases hy0 : f n = y
  · exact ⟨n, by omega, hy0⟩
  by_cases hex : ∃ i, i < n ∧ f i = n
  · obtain ⟨k, hk, hkn⟩ := hex
    have hne : ∀ i, i < n -> f i = n -> i = k := by
     intro i hi h
     rcases Nat.lt_trichotomy i k with h1 | h1 | h1
     · exact absurd (h.trans hkn.symm) (hinj i k h1 (by omega))
     · exact h1
     · exact absurd (hkn.trans h.symm) (hinj k i h1 (by omega))
    have hfn : f n < n := by
     have := hf n (by omega)
     have h2 := hinj k n hk (by omega)
     omega
    by_cases hyn : y = n
    · exact ⟨k, by omega, by omega⟩
    obtain ⟨i, hi, hiy⟩ := ih (fun i => if f i = n then f n else f i)
     (by intro i hi; show (if f i = n then f n else f i) < n; split
         · exact hfn
         · have := hf i (by omega); omega)
     (by intro i j hij hj; show (if f i = n then f n else f i) ≠ (if f j = n then f n else f j)
         by_cases h1 : f i = n <;> by_cases h2 : f j = n
         · have := hne i (by omega) h1; have := hne j hj h2; omega
         · rw [if_pos h1, if_neg h2]; exact fun h => hinj j n hj (by omega) h.symm
         · rw [if_neg h1, if_pos h2]; exact hinj i n (by omega) (by omega)
         · rw [if_neg h1, if_neg h2]; exact hinj i j hij (by omega))
     y (by omega)
    have hiy : (if f i = n then f n else f i) = y := hiy
    by_cases h1 : f i = n
    · rw [if_pos h1] at hiy; exact absurd hiy hy0
    · rw [if_neg h1] at hiy; exact ⟨i, by omega, hiy⟩
  · have hlt : ∀ i, i < n -> f i < n := by
     intro i hi
     have h1 := hf i (by omega)
     have h2 : f i ≠ n := fun h => hex ⟨i, hi, h⟩
     omega
    have hfn := hf n (by omega)
    by_cases h3 : f n = n
    · obtain ⟨i, hi, hiy⟩ := ih f hlt (fun i j hij hj => hinj i j hij (by omega)) y (by omega)
      exact ⟨i, by omega, hiy⟩
    · obtain ⟨i, hi, hiy⟩ := ih f hlt (fun i j hij hj => hinj i j hij (by omega)) (f n) (by omega)
      exact absurd hiy (hinj i n hi (by omega))
theorem Root.fermat {p g : Nat} (R : Root p g) (a : Nat) (h0 : 0 < a) (h1 : a < p) : a ^ (p - 1) % p = 1 := by
 have hp := R.big
 obtain ⟨i, _, hi⟩ := onto (p - 1) (fun i => g ^ i % p - 1)
  (by intro i hi; have := Nat.mod_lt (g ^ i) (show p > 0 by omega); show g ^ i % p - 1 < p - 1; omega)
  (by intro i j hij hj; show g ^ i % p - 1 ≠ g ^ j % p - 1
      have a1 := R.inj i j hij hj
      have a2 := R.pos i (by omega)
      have a3 := R.pos j (by omega)
      omega)
  (a - 1) (by omega)
 have hi : g ^ i % p - 1 = a - 1 := hi
 have a2 := R.pos i (by omega)
 have e : a = g ^ i % p := by omega
 rw [e, <- Nat.pow_mod, <- Nat.pow_mul, Nat.mul_comm, Nat.pow_mul, Nat.pow_mod, R.whole, Nat.one_pow, Nat.mod_eq_of_lt (by omega)]
theorem p2 : ∀ d, d ∣ 2 -> d = 1 ∨ d = 2 := prime_of 2 2 (by decide) (by decide) (by decide)
theorem p3 : ∀ d, d ∣ 3 -> d = 1 ∨ d = 3 := prime_of 3 2 (by decide) (by decide) (by decide)
theorem p5 : ∀ d, d ∣ 5 -> d = 1 ∨ d = 5 := prime_of 5 3 (by decide) (by decide) (by decide)
theorem p17 : ∀ d, d ∣ 17 -> d = 1 ∨ d = 17 := prime_of 17 5 (by decide) (by decide) (by decide)
theorem p257 : ∀ d, d ∣ 257 -> d = 1 ∨ d = 257 := prime_of 257 17 (by decide) (by decide) (by decide)
theorem p65537 : ∀ d, d ∣ 65537 -> d = 1 ∨ d = 65537 := prime_of 65537 257 (by decide) (by decide) (by decide +kernel)
theorem root_mk (p g : Nat) (big : 2 < p) (lt : p <= 2 ^ 64) (whole : pm p 64 g (p - 1) % p = 1)
 (part : ∀ m, 1 < m -> m ∣ p - 1 -> ∃ q, 0 < q ∧ q ∣ m ∧ pm p 64 g ((p - 1) / q) % p ≠ 1) : Root p g where
 big := big
 whole := by rw [<- pm_pow p 64 g (p - 1) (by omega)]; exact whole
 part := by
  intro m hm hd
  obtain ⟨q, hq, hqm, hne⟩ := part m hm hd
  have hle : (p - 1) / q <= p - 1 := Nat.div_le_self _ _
  refine ⟨q, hq, hqm, ?_⟩
  rw [<- pm_pow p 64 g _ (by omega)]; exact hne
theorem small2 : pm 2013265921 64 31 ((2013265921 - 1) / 2) % 2013265921 ≠ 1 := by decide +kernel
theorem small3 : pm 2013265921 64 31 ((2013265921 - 1) / 3) % 2013265921 ≠ 1 := by decide +kernel
theorem small5 : pm 2013265921 64 31 ((2013265921 - 1) / 5) % 2013265921 ≠ 1 := by decide +kernel
theorem smallAll : pm 2013265921 64 31 (2013265921 - 1) % 2013265921 = 1 := by decide +kernel
theorem smallFac : 2013265921 - 1 = 2 ^ 27 * (3 ^ 1 * (5 ^ 1 * 1)) := by decide +kernel
theorem rootSmall : Root 2013265921 31 := by
 refine root_mk _ _ (by decide) (by decide) smallAll ?_
 intro m hm hd
 rw [smallFac] at hd
 rcases cop_step 2 27 _ m p2 hd with h | hd
 · exact ⟨2, by decide, h, small2⟩
 rcases cop_step 3 1 _ m p3 hd with h | hd
 · exact ⟨3, by decide, h, small3⟩
 rcases cop_step 5 1 _ m p5 hd with h | hd
 · exact ⟨5, by decide, h, small5⟩
 have := Nat.le_of_dvd (by decide) hd
 omega
theorem large2 : pm 18446744069414584321 64 7 ((18446744069414584321 - 1) / 2) % 18446744069414584321 ≠ 1 := by decide +kernel
theorem large3 : pm 18446744069414584321 64 7 ((18446744069414584321 - 1) / 3) % 18446744069414584321 ≠ 1 := by decide +kernel
theorem large5 : pm 18446744069414584321 64 7 ((18446744069414584321 - 1) / 5) % 18446744069414584321 ≠ 1 := by decide +kernel
theorem large17 : pm 18446744069414584321 64 7 ((18446744069414584321 - 1) / 17) % 18446744069414584321 ≠ 1 := by decide +kernel
theorem large257 : pm 18446744069414584321 64 7 ((18446744069414584321 - 1) / 257) % 18446744069414584321 ≠ 1 := by decide +kernel
theorem large65537 : pm 18446744069414584321 64 7 ((18446744069414584321 - 1) / 65537) % 18446744069414584321 ≠ 1 := by decide +kernel
theorem largeAll : pm 18446744069414584321 64 7 (18446744069414584321 - 1) % 18446744069414584321 = 1 := by decide +kernel
theorem largeFac : 18446744069414584321 - 1 = 2 ^ 32 * (3 ^ 1 * (5 ^ 1 * (17 ^ 1 * (257 ^ 1 * (65537 ^ 1 * 1))))) := by decide +kernel
theorem rootLarge : Root 18446744069414584321 7 := by
 refine root_mk _ _ (by decide) (by decide) largeAll ?_
 intro m hm hd
 rw [largeFac] at hd
 rcases cop_step 2 32 _ m p2 hd with h | hd
 · exact ⟨2, by decide, h, large2⟩
 rcases cop_step 3 1 _ m p3 hd with h | hd
 · exact ⟨3, by decide, h, large3⟩
 rcases cop_step 5 1 _ m p5 hd with h | hd
 · exact ⟨5, by decide, h, large5⟩
 rcases cop_step 17 1 _ m p17 hd with h | hd
 · exact ⟨17, by decide, h, large17⟩
 rcases cop_step 257 1 _ m p257 hd with h | hd
 · exact ⟨257, by decide, h, large257⟩
 rcases cop_step 65537 1 _ m p65537 hd with h | hd
 · exact ⟨65537, by decide, h, large65537⟩
 have := Nat.le_of_dvd (by decide) hd
 omega
end Go.Proofs.YtjhididlcdepdaaGreat.Fld
namespace Go.Proofs.YtjhididlcdepdaaGreat.Fld
def add (p a b : Int) : Int := (a + b) % p
def sub (p a b : Int) : Int := (a - b) % p
def mul (p a b : Int) : Int := (a * b) % p
def pow (p a n : Int) : Int := (a ^ n.toNat) % p
def El (p a : Int) : Prop := 0 <= a ∧ a < p
def Wd (a : Int) : Prop := 0 <= a ∧ a < 18446744073709551616
def Md (p : Int) (wd : Bool) : Prop := (p = 2013265921 ∧ wd = false) ∨ (p = 18446744069414584321 ∧ wd = true)
def low64 (a : Int) : Int := a % 18446744073709551616
def high64 (a : Int) : Int := a / 18446744073709551616
def subR (p a b : Int) : Int := if a < b then a - b + p else a - b
theorem Md.bounds {p : Int} {wd : Bool} (h : Md p wd) : 2 <= p ∧ p < 18446744073709551616 := by
 rcases h with ⟨h, _⟩ | ⟨h, _⟩ <;> omega
theorem add_el {p a b : Int} (hp : 0 < p) : El p (add p a b) := ⟨Int.emod_nonneg _ (by omega), Int.emod_lt_of_pos _ hp⟩
theorem sub_el {p a b : Int} (hp : 0 < p) : El p (sub p a b) := ⟨Int.emod_nonneg _ (by omega), Int.emod_lt_of_pos _ hp⟩
theorem mul_el {p a b : Int} (hp : 0 < p) : El p (mul p a b) := ⟨Int.emod_nonneg _ (by omega), Int.emod_lt_of_pos _ hp⟩
theorem pow_el {p a n : Int} (hp : 0 < p) : El p (pow p a n) := ⟨Int.emod_nonneg _ (by omega), Int.emod_lt_of_pos _ hp⟩
theorem emod_sub_self (x p : Int) (h : p <= x) (h2 : x < 2 * p) : x % p = x - p := by
 have : x % p = (x - p) % p := by rw [Int.sub_emod_right]
 rw [this, Int.emod_eq_of_lt (by omega) (by omega)]
theorem emod_add_self (x p : Int) (h : -p <= x) (h2 : x < 0) : x % p = x + p := by
 have : x % p = (x + p) % p := by rw [Int.add_emod_right]
 rw [this, Int.emod_eq_of_lt (by omega) (by omega)]
theorem subR_sub (p a b : Int) (h1 : 0 <= a) (h2 : a < p) (h3 : 0 <= b) (h4 : b < p) : subR p a b = sub p a b := by
 unfold subR sub
 split
 · exact (emod_add_self _ _ (by omega) (by omega)).symm
 · exact (Int.emod_eq_of_lt (by omega) (by omega)).symm
theorem down_small (x : Int) (h0 : 0 <= x) (h1 : x <= 4053239664633446400) :
 El 2013265921 (x % 2013265920) ∧ El 2013265921 (x / 2013265920) ∧ sub 2013265921 (x % 2013265920) (x / 2013265920) = x % 2013265921 := by
 unfold El sub
 refine ⟨⟨by omega, by omega⟩, ⟨by omega, by omega⟩, ?_⟩
 have e : x % 2013265920 - x / 2013265920 = x - 2013265921 * (x / 2013265920) := by omega
 rw [e, Int.sub_mul_emod_self_left]
theorem down_large (h l : Int) (h0 : 0 <= h) (h1 : h <= 18446744073709551615) (l0 : 0 <= l) (l1 : l <= 18446744073709551615) :
 0 <= subR 18446744069414584321 l (h / 4294967296) ∧ subR 18446744069414584321 l (h / 4294967296) <= 18446744073709551615 ∧
 subR 18446744069414584321 l (h / 4294967296) + h % 4294967296 * 4294967295 < 2 * 18446744069414584321 ∧
 add 18446744069414584321 (subR 18446744069414584321 l (h / 4294967296)) (h % 4294967296 * 4294967295) = (h * 18446744073709551616 + l) % 18446744069414584321 := by
 unfold add subR
 have e : h * 18446744073709551616 + l = (l - h / 4294967296 + h % 4294967296 * 4294967295) + 18446744069414584321 * (h / 4294967296 * 4294967297 + h % 4294967296) := by omega
 rw [e, Int.add_mul_emod_self_left]
 split
 · refine ⟨by omega, by omega, by omega, ?_⟩
   have e2 : l - h / 4294967296 + 18446744069414584321 + h % 4294967296 * 4294967295 = (l - h / 4294967296 + h % 4294967296 * 4294967295) + 18446744069414584321 := by omega
   rw [e2, Int.add_emod_right]
 · exact ⟨by omega, by omega, by omega, rfl⟩
theorem high_low (x : Int) : high64 x * 18446744073709551616 + low64 x = x := by unfold high64 low64; omega
theorem mul_le {a b k : Int} (ha : 0 <= a) (hb : 0 <= b) (ha' : a <= k) (hb' : b <= k) : 0 <= a * b ∧ a * b <= k * k :=
 ⟨Int.mul_nonneg ha hb, Int.mul_le_mul ha' hb' hb (by omega)⟩
theorem mask32 (h : Int) (h0 : 0 <= h) (h1 : h <= 18446744073709551615) : 0 <= h / 4294967296 ∧ h / 4294967296 <= 4294967295 ∧ 0 <= h % 4294967296 * 4294967295 ∧ h % 4294967296 * 4294967295 <= 18446744073709551615 := by omega
end Go.Proofs.YtjhididlcdepdaaGreat.Fld
namespace Go.Proofs.YtjhididlcdepdaaGreat.Fld
theorem mul_emod_left (a b p : Int) : (a % p * b) % p = (a * b) % p := by
 rw [Int.mul_emod, Int.emod_emod, <- Int.mul_emod]
theorem mul_emod_right (a b p : Int) : (a * (b % p)) % p = (a * b) % p := by
 rw [Int.mul_emod, Int.emod_emod, <- Int.mul_emod]
theorem Md.fermat {p : Int} {wd : Bool} (h : Md p wd) (a : Int) (h0 : 0 < a) (h1 : a < p) : a ^ (p - 1).toNat % p = 1 := by
 have key : ∀ P : Nat, p = (P : Int) -> (∀ x : Nat, 0 < x -> x < P -> x ^ (P - 1) % P = 1) -> a ^ (p - 1).toNat % p = 1 := by
  intro P hP hx
  obtain ⟨x, rfl⟩ := Int.eq_ofNat_of_zero_le (Int.le_of_lt h0)
  have := hx x (by omega) (by omega)
  rw [hP, show ((P : Int) - 1).toNat = P - 1 from by omega, <- Int.natCast_pow, <- Int.natCast_emod, this]; rfl
 rcases h with ⟨h, _⟩ | ⟨h, _⟩
 · exact key 2013265921 h fun x a b => rootSmall.fermat x a b
 · exact key 18446744069414584321 h fun x a b => rootLarge.fermat x a b
theorem Md.inv {p : Int} {wd : Bool} (h : Md p wd) (a : Int) (h0 : 0 < a) (h1 : a < p) : (a * a ^ (p - 2).toNat) % p = 1 := by
 have := h.fermat a h0 h1
 have hb := h.bounds
 have e : (p - 1).toNat = (p - 2).toNat + 1 := by omega
 rw [e, Int.pow_succ, Int.mul_comm] at this
 exact this
theorem Md.cop {p : Int} {wd : Bool} (h : Md p wd) (a : Int) (h0 : 0 < a) (h1 : a < p) (d : Int) (hd : 0 < d) (ha : d ∣ a) (hp : d ∣ p) : d = 1 := by
 have e := h.inv a h0 h1
 have e2 := Int.emod_add_mul_ediv (a * a ^ (p - 2).toNat) p
 rw [e] at e2
 have : d ∣ 1 := by
  have d1 : d ∣ a * a ^ (p - 2).toNat := Int.dvd_trans ha (Int.dvd_mul_right _ _)
  have d2 : d ∣ p * (a * a ^ (p - 2).toNat / p) := Int.dvd_trans hp (Int.dvd_mul_right _ _)
  have e3 : (1 : Int) = a * a ^ (p - 2).toNat - p * (a * a ^ (p - 2).toNat / p) := by omega
  rw [e3]; exact Int.dvd_sub d1 d2
 have := Int.le_of_dvd (by decide) this
 omega
structure Eu (p a r s u v : Int) (mi : Bool) : Prop where
 rs : s < r
 s1 : 1 <= s
 u0 : 0 <= u
 v0 : 0 <= v
 all : r * v + s * u = p
 cop : ∀ d : Int, 0 < d -> d ∣ r -> d ∣ s -> d = 1
 sw : ∃ k : Int, s = (if mi then -(v * a) else v * a) + k * p
 rw : ∃ k : Int, r = (if mi then u * a else -(u * a)) + k * p
theorem Eu.start {p a : Int} {wd : Bool} (h : Md p wd) (h0 : 0 < a) (h1 : a < p) : Eu p a p a 0 1 false where
 rs := h1
 s1 := h0
 u0 := Int.le_refl 0
 v0 := by decide
 all := by omega
 cop := fun d hd hr hs => h.cop a h0 h1 d hd hs hr
 sw := ⟨0, by simp⟩
 rw := ⟨1, by simp⟩
theorem Eu.le {p a r s u v : Int} {mi : Bool} (e : Eu p a r s u v mi) : u <= p ∧ v <= p ∧ r <= p ∨ v = 0 := by
 have h1 := e.s1; have h2 := e.u0; have h3 := e.v0; have h4 := e.all; have h5 := e.rs
 by_cases hv : v = 0
 · exact .inr hv
 left
 have a1 : 0 <= (s - 1) * u := Int.mul_nonneg (by omega) h2
 have a2 : 0 <= (r - 1) * v := Int.mul_nonneg (by omega) h3
 have a3 : 0 <= r * (v - 1) := Int.mul_nonneg (by omega) (by omega)
 have a4 : 0 <= s * u := Int.mul_nonneg (by omega) h2
 have a5 : 0 <= r * v := Int.mul_nonneg (by omega) h3
 rw [Int.sub_mul] at a1 a2
 rw [Int.mul_sub] at a3
 omega
theorem Eu.step {p a r s u v : Int} {mi : Bool} (e : Eu p a r s u v mi) (hs : 1 < s) :
 Eu p a s (r - r / s * s) v (u + r / s * v) (!mi) ∧ r - r / s * s < s ∧ 0 <= r / s ∧ r / s * s <= r := by
 have h1 := e.s1; have h2 := e.u0; have h3 := e.v0; have h4 := e.all; have h5 := e.rs
 have q0 : 0 <= r / s := Int.ediv_nonneg (by omega) (by omega)
 have em : r - r / s * s = r % s := by rw [Int.emod_def, Int.mul_comm]
 have m0 : 0 <= r % s := Int.emod_nonneg _ (by omega)
 have m1 : r % s < s := Int.emod_lt_of_pos _ (by omega)
 refine ⟨?_, by omega, q0, by omega⟩
 have hne : r % s ≠ 0 := by
  intro hz
  have := e.cop s (by omega) (Int.dvd_of_emod_eq_zero hz) (Int.dvd_refl s)
  omega
 obtain ⟨k, hk⟩ := e.sw
 obtain ⟨k', hk'⟩ := e.rw
 exact {
  rs := by omega
  s1 := by omega
  u0 := h3
  v0 := by have := Int.mul_nonneg q0 h3; omega
  all := by
   rw [Int.mul_add, Int.sub_mul, <- h4, Int.mul_assoc (r / s) s v, Int.mul_left_comm s (r / s) v]
   omega
  cop := by
   intro d hd ds dr
   refine e.cop d hd ?_ ds
   have : r = r / s * s + (r - r / s * s) := by omega
   rw [this]
   exact Int.dvd_add (Int.dvd_trans ds (Int.dvd_mul_left _ _)) dr
  sw := by
   refine ⟨k' - r / s * k, ?_⟩
   cases mi
   · simp only [Bool.not_false, if_true, Bool.false_eq_true, if_false] at hk hk' ⊢
     have e1 : r / s * s = r / s * (v * a) + r / s * k * p := by rw [Int.mul_assoc (r / s) k p, <- Int.mul_add, <- hk]
     rw [Int.add_mul, Int.sub_mul, Int.mul_assoc (r / s) v a]
     omega
   · simp only [Bool.not_true, if_true, Bool.false_eq_true, if_false] at hk hk' ⊢
     have e1 : r / s * s = -(r / s * (v * a)) + r / s * k * p := by rw [Int.mul_assoc (r / s) k p, <- Int.mul_neg, <- Int.mul_add, <- hk]
     rw [Int.add_mul, Int.sub_mul, Int.mul_assoc (r / s) v a]
     omega
  rw := by
   refine ⟨k, ?_⟩
   cases mi
   · simpa using hk
   · simpa using hk }
def IsInv (p a x : Int) : Prop := El p x ∧ (a * x) % p = 1 % p
theorem Eu.done {p a r s u v : Int} {mi : Bool} (e : Eu p a r s u v mi) (hs : ¬ 1 < s) (hp : 2 <= p) : IsInv p a (if mi then p - v else v) := by
 have h1 := e.s1; have h2 := e.u0; have h3 := e.v0; have h4 := e.all; have h5 := e.rs
 have hs1 : s = 1 := by omega
 obtain ⟨k, hk⟩ := e.sw
 have hv : v ≠ 0 := by
  intro hz
  rw [hz, hs1] at hk
  simp at hk
  have : p ∣ 1 := ⟨k, by rw [Int.mul_comm]; exact hk⟩
  have := Int.le_of_dvd (by decide) this
  omega
 have a3 : 0 <= (r - 2) * v := Int.mul_nonneg (by omega) h3
 rw [Int.sub_mul] at a3
 rw [hs1] at hk h4
 cases mi
 · simp only [Bool.false_eq_true, if_false] at hk ⊢
   refine ⟨⟨h3, by omega⟩, ?_⟩
   have : a * v = 1 + p * (-k) := by rw [Int.mul_comm, Int.mul_neg, Int.mul_comm p k]; omega
   rw [this, Int.add_mul_emod_self_left]
 · simp only [if_true] at hk ⊢
   refine ⟨⟨by omega, by omega⟩, ?_⟩
   have : a * (p - v) = 1 + p * (a - k) := by rw [Int.mul_sub, Int.mul_sub, Int.mul_comm p a, Int.mul_comm p k, Int.mul_comm a v]; omega
   rw [this, Int.add_mul_emod_self_left]
def inv (p a : Int) : Int := pow p a (p - 2)
theorem IsInv.eq {p a x : Int} {wd : Bool} (hm : Md p wd) (h0 : 0 < a) (h1 : a < p) (h : IsInv p a x) : x = inv p a := by
 obtain ⟨⟨x0, x1⟩, hx⟩ := h
 have hi := hm.inv a h0 h1
 have hb := hm.bounds
 have e1 : x % p = x := Int.emod_eq_of_lt x0 x1
 unfold inv pow
 generalize a ^ (p - 2).toNat = y at *
 have e2 : (y * (a * x)) % p = y % p := by rw [<- mul_emod_right, hx, mul_emod_right, Int.mul_one]
 have e3 : (y * (a * x)) % p = x % p := by
  rw [<- Int.mul_assoc, Int.mul_comm y a, <- mul_emod_left, hi, Int.one_mul]
 rw [<- e1, <- e3, e2]
end Go.Proofs.YtjhididlcdepdaaGreat.Fld
namespace Go.Proofs.YtjhididlcdepdaaGreat.Fld
theorem half_pow (b : Int) (k : Nat) : b / 2 ^ (k + 1) = b / 2 ^ k / 2 := by
 rw [Int.pow_succ, Int.ediv_ediv_of_nonneg (Int.le_of_lt (Int.pow_pos (by decide)))]
theorem word_shift (b : Int) (k : Nat) (h0 : 0 <= b) (h1 : b <= 18446744073709551615) : 0 <= b / 2 ^ k ∧ b / 2 ^ k <= 18446744073709551615 := by
 have hp : (0 : Int) < 2 ^ k := Int.pow_pos (by decide)
 refine ⟨Int.ediv_nonneg h0 (Int.le_of_lt hp), ?_⟩
 have : b / 2 ^ k <= b := Int.ediv_le_self _ h0
 omega
theorem times_odd (p a q : Int) (ho : q % 2 = 1) : add p (add p (mul p a (q / 2)) (mul p a (q / 2))) a = mul p a q := by
 unfold add mul
 obtain ⟨h, hh⟩ : ∃ h, q / 2 = h := ⟨_, rfl⟩
 have e : q = h + h + 1 := by omega
 rw [hh, <- Int.add_emod, Int.emod_add_emod, e, Int.mul_add, Int.mul_add, Int.mul_one]
theorem times_even (p a q : Int) (ho : q % 2 = 0) : add p (mul p a (q / 2)) (mul p a (q / 2)) = mul p a q := by
 unfold add mul
 obtain ⟨h, hh⟩ : ∃ h, q / 2 = h := ⟨_, rfl⟩
 have e : q = h + h := by omega
 rw [hh, <- Int.add_emod, e, Int.mul_add]
theorem power_odd (p a q : Int) (h0 : 0 <= q) (ho : q % 2 = 1) : mul p (mul p (pow p a (q / 2)) (pow p a (q / 2))) a = pow p a q := by
 unfold mul pow
 rw [<- Int.mul_emod, mul_emod_left]
 have e : q.toNat = (q / 2).toNat + (q / 2).toNat + 1 := by omega
 rw [e, Int.pow_succ, Int.pow_add]
theorem power_even (p a q : Int) (h0 : 0 <= q) (ho : q % 2 = 0) : mul p (pow p a (q / 2)) (pow p a (q / 2)) = pow p a q := by
 unfold mul pow
 rw [<- Int.mul_emod]
 have e : q.toNat = (q / 2).toNat + (q / 2).toNat := by omega
 rw [e, Int.pow_add]
theorem shift_all (b : Int) (h0 : 0 <= b) (h1 : b <= 18446744073709551615) : b / 2 ^ 64 = 0 := by
 have : (2 : Int) ^ 64 = 18446744073709551616 := by decide
 rw [this]; omega
theorem mul_zero_right (p a : Int) : mul p a 0 = 0 := by simp [mul]
theorem pow_zero_right (p a : Int) : pow p a 0 = 1 % p := by simp [pow]
end Go.Proofs.YtjhididlcdepdaaGreat.Fld
namespace Go.Proofs.YtjhididlcdepdaaGreat.Fld
theorem ring_comm (p a b : Int) : mul p a b = mul p b a := by unfold mul; rw [Int.mul_comm]
theorem ring_assoc (p a b c : Int) : mul p (mul p a b) c = mul p a (mul p b c) := by
 unfold mul; rw [mul_emod_left, mul_emod_right, Int.mul_assoc]
theorem fermat_law {p : Int} {wd : Bool} (h : Md p wd) (a : Int) (ha : El p a) (h0 : a ≠ 0) : pow p a (p - 1) = 1 := by
 unfold pow; exact h.fermat a (by have := ha.1; omega) ha.2
theorem mul_inv {p : Int} {wd : Bool} (h : Md p wd) (a : Int) (ha : El p a) (h0 : a ≠ 0) : mul p a (inv p a) = 1 := by
 have := h.inv a (by have := ha.1; omega) ha.2
 unfold mul inv pow; rw [mul_emod_right]; exact this
end Go.Proofs.YtjhididlcdepdaaGreat.Fld
namespace Go.Proofs.YtjhididlcdepdaaGreat.Fld
def cv (f g : Nat -> Int) : Nat -> Int
 | 0 => f 0 * g 0
 | k + 1 => f 0 * g (k + 1) + cv (fun i => f (i + 1)) g k
theorem cv_congr {g g' : Nat -> Int} (k : Nat) : ∀ {f f' : Nat -> Int}, (∀ i, i <= k -> f i = f' i) -> (∀ i, i <= k -> g i = g' i) -> cv f g k = cv f' g' k := by
 induction k with
 | zero => intro f f' hf hg; show f 0 * g 0 = f' 0 * g' 0; rw [hf 0 (Nat.le_refl _), hg 0 (Nat.le_refl _)]
 | succ k ih =>
  intro f f' hf hg
  show f 0 * g (k + 1) + cv (fun i => f (i + 1)) g k = f' 0 * g' (k + 1) + cv (fun i => f' (i + 1)) g' k
  rw [hf 0 (by omega), hg (k + 1) (Nat.le_refl _), ih (fun i hi => hf (i + 1) (by omega)) (fun i hi => hg i (by omega))]
theorem cv_add_right (g h : Nat -> Int) (k : Nat) : ∀ f, cv f (fun i => g i + h i) k = cv f g k + cv f h k := by
 induction k with
 | zero => intro f; exact Int.mul_add _ _ _
 | succ k ih =>
  intro f
  show f 0 * (g (k + 1) + h (k + 1)) + cv (fun i => f (i + 1)) (fun i => g i + h i) k = f 0 * g (k + 1) + cv (fun i => f (i + 1)) g k + (f 0 * h (k + 1) + cv (fun i => f (i + 1)) h k)
  rw [ih, Int.mul_add]; omega
theorem cv_add_left (g : Nat -> Int) (k : Nat) : ∀ f h : Nat -> Int, cv (fun i => f i + h i) g k = cv f g k + cv h g k := by
 induction k with
 | zero => intro f h; exact Int.add_mul _ _ _
 | succ k ih =>
  intro f h
  show (f 0 + h 0) * g (k + 1) + cv (fun i => f (i + 1) + h (i + 1)) g k = f 0 * g (k + 1) + cv (fun i => f (i + 1)) g k + (h 0 * g (k + 1) + cv (fun i => h (i + 1)) g k)
  rw [ih (fun i => f (i + 1)) (fun i => h (i + 1)), Int.add_mul]; omega
theorem cv_smul_left (c : Int) (g : Nat -> Int) (k : Nat) : ∀ f : Nat -> Int, cv (fun i => c * f i) g k = c * cv f g k := by
 induction k with
 | zero => intro f; exact Int.mul_assoc _ _ _
 | succ k ih =>
  intro f
  show c * f 0 * g (k + 1) + cv (fun i => c * f (i + 1)) g k = c * (f 0 * g (k + 1) + cv (fun i => f (i + 1)) g k)
  rw [ih (fun i => f (i + 1)), Int.mul_add, Int.mul_assoc]
theorem cv_peel (k : Nat) : ∀ (f g : Nat -> Int), cv f g (k + 1) = f (k + 1) * g 0 + cv f (fun i => g (i + 1)) k := by
 induction k with
 | zero =>
  intro f g
  show f 0 * g 1 + f 1 * g 0 = f 1 * g 0 + f 0 * g 1
  omega
 | succ k ih =>
  intro f g
  show f 0 * g (k + 1 + 1) + cv (fun i => f (i + 1)) g (k + 1) = f (k + 1 + 1) * g 0 + (f 0 * g (k + 1 + 1) + cv (fun i => f (i + 1)) (fun i => g (i + 1)) k)
  rw [ih (fun i => f (i + 1)) g]; omega
theorem cv_comm (k : Nat) : ∀ (f g : Nat -> Int), cv f g k = cv g f k := by
 induction k with
 | zero => intro f g; exact Int.mul_comm _ _
 | succ k ih =>
  intro f g
  rw [cv_peel k g f, <- ih (fun i => f (i + 1)) g]
  show f 0 * g (k + 1) + cv (fun i => f (i + 1)) g k = g (k + 1) * f 0 + cv (fun i => f (i + 1)) g k
  rw [Int.mul_comm (g (k + 1))]
theorem cv_assoc (h : Nat -> Int) (k : Nat) : ∀ (f g : Nat -> Int), cv (cv f g) h k = cv f (cv g h) k := by
 induction k with
 | zero => intro f g; exact Int.mul_assoc _ _ _
 | succ k ih =>
  intro f g
  show f 0 * g 0 * h (k + 1) + cv (fun i => f 0 * g (i + 1) + cv (fun i => f (i + 1)) g i) h k = f 0 * (g 0 * h (k + 1) + cv (fun i => g (i + 1)) h k) + cv (fun i => f (i + 1)) (cv g h) k
  have e1 := cv_add_left h k (fun i => f 0 * g (i + 1)) (cv (fun i => f (i + 1)) g)
  have e2 := cv_smul_left (f 0) h k (fun i => g (i + 1))
  rw [e1, e2, ih, Int.mul_add, Int.mul_assoc]; omega
theorem cv_zero_left (g : Nat -> Int) (k : Nat) : ∀ f : Nat -> Int, (∀ i, i <= k -> f i = 0) -> cv f g k = 0 := by
 induction k with
 | zero => intro f h; show f 0 * g 0 = 0; rw [h 0 (Nat.le_refl _), Int.zero_mul]
 | succ k ih =>
  intro f h
  show f 0 * g (k + 1) + cv (fun i => f (i + 1)) g k = 0
  rw [h 0 (by omega), ih _ (fun i hi => h (i + 1) (by omega)), Int.zero_mul]; rfl
theorem cv_end {g : Nat -> Int} {n : Nat} (k : Nat) : ∀ {m : Nat} {f : Nat -> Int}, (∀ i, m <= i -> f i = 0) -> (∀ i, n <= i -> g i = 0) -> m + n <= k + 1 -> cv f g k = 0 := by
 induction k with
 | zero =>
  intro m f hf hg h
  show f 0 * g 0 = 0
  by_cases h0 : m = 0
  · rw [hf 0 (by omega), Int.zero_mul]
  · rw [hg 0 (by omega), Int.mul_zero]
 | succ k ih =>
  intro m f hf hg h
  show f 0 * g (k + 1) + cv (fun i => f (i + 1)) g k = 0
  cases m with
  | zero => rw [hf 0 (Nat.le_refl _), cv_zero_left g k _ (fun i _ => hf (i + 1) (Nat.zero_le _)), Int.zero_mul]; rfl
  | succ m => rw [hg (k + 1) (by omega), ih (m := m) (fun i hi => hf (i + 1) (by omega)) hg (by omega), Int.mul_zero]; rfl
theorem cv_top {g : Nat -> Int} {n : Nat} (m : Nat) : ∀ {f : Nat -> Int}, (∀ i, m < i -> f i = 0) -> (∀ i, n < i -> g i = 0) -> cv f g (m + n) = f m * g n := by
 induction m with
 | zero =>
  intro f hf hg
  rw [Nat.zero_add]
  cases n with
  | zero => rfl
  | succ n =>
   show f 0 * g (n + 1) + cv (fun i => f (i + 1)) g n = _
   rw [cv_zero_left g n _ (fun i _ => hf (i + 1) (by omega))]; omega
 | succ m ih =>
  intro f hf hg
  have e : m + 1 + n = (m + n) + 1 := by omega
  rw [e]
  show f 0 * g (m + n + 1) + cv (fun i => f (i + 1)) g (m + n) = _
  rw [hg (m + n + 1) (by omega), ih (fun i hi => hf (i + 1) (by omega)) hg, Int.mul_zero, Int.zero_add]
def ev (t : Int) : Nat -> (Nat -> Int) -> Int
 | 0, _ => 0
 | n + 1, f => f 0 + t * ev t n (fun i => f (i + 1))
theorem ev_congr (t : Int) (n : Nat) : ∀ {f g : Nat -> Int}, (∀ i, i < n -> f i = g i) -> ev t n f = ev t n g := by
 induction n with
 | zero => intro f g _; rfl
 | succ n ih =>
  intro f g h
  show f 0 + t * ev t n _ = g 0 + t * ev t n _
  rw [h 0 (by omega), ih (fun i hi => h (i + 1) (by omega))]
theorem ev_add (t : Int) (n : Nat) : ∀ f g : Nat -> Int, ev t n (fun i => f i + g i) = ev t n f + ev t n g := by
 induction n with
 | zero => intro f g; rfl
 | succ n ih =>
  intro f g
  show f 0 + g 0 + t * ev t n (fun i => f (i + 1) + g (i + 1)) = f 0 + t * ev t n (fun i => f (i + 1)) + (g 0 + t * ev t n (fun i => g (i + 1)))
  rw [ih (fun i => f (i + 1)) (fun i => g (i + 1)), Int.mul_add]; omega
theorem ev_smul (t c : Int) (n : Nat) : ∀ f : Nat -> Int, ev t n (fun i => c * f i) = c * ev t n f := by
 induction n with
 | zero => intro f; exact (Int.mul_zero c).symm
 | succ n ih =>
  intro f
  show c * f 0 + t * ev t n (fun i => c * f (i + 1)) = c * (f 0 + t * ev t n (fun i => f (i + 1)))
  rw [ih (fun i => f (i + 1)), Int.mul_add, <- Int.mul_assoc, <- Int.mul_assoc, Int.mul_comm t c]
theorem ev_zero (t : Int) (n : Nat) : ∀ f : Nat -> Int, (∀ i, i < n -> f i = 0) -> ev t n f = 0 := by
 induction n with
 | zero => intro f _; rfl
 | succ n ih =>
  intro f h
  show f 0 + t * ev t n _ = 0
  rw [h 0 (by omega), ih _ (fun i hi => h (i + 1) (by omega)), Int.mul_zero]; rfl
theorem ev_more (t : Int) (n : Nat) : ∀ (m : Nat) (f : Nat -> Int), (∀ i, n <= i -> f i = 0) -> ev t (n + m) f = ev t n f := by
 induction n with
 | zero => intro m f h; exact ev_zero t _ f (fun i _ => h i (Nat.zero_le _))
 | succ n ih =>
  intro m f h
  have e : n + 1 + m = (n + m) + 1 := by omega
  rw [e]
  show f 0 + t * ev t (n + m) _ = f 0 + t * ev t n _
  rw [ih m _ (fun i hi => h (i + 1) (by omega))]
theorem ev_mul (t : Int) (g : Nat -> Int) (n : Nat) (hg : ∀ i, n <= i -> g i = 0) (m : Nat) : ∀ f : Nat -> Int, (∀ i, m <= i -> f i = 0) -> ev t (m + n) (cv f g) = ev t m f * ev t n g := by
 induction m with
 | zero => intro f h; rw [ev_zero t _ _ (fun i _ => cv_zero_left g i f (fun j _ => h j (Nat.zero_le _)))]; exact (Int.zero_mul _).symm
 | succ m ih =>
  intro f h
  have e : m + 1 + n = (m + n) + 1 := by omega
  rw [e]
  have h1 := ih (fun i => f (i + 1)) (fun i hi => h (i + 1) (by omega))
  have h2 : ev t (m + n + 1) (fun i => f 0 * g i) = f 0 * ev t n g := by
   rw [ev_smul]; congr 1
   have e2 : m + n + 1 = n + (m + 1) := by omega
   rw [e2, ev_more t n (m + 1) g hg]
  have h3 : ev t (m + n + 1) (cv f g) = ev t (m + n + 1) (fun i => f 0 * g i) + t * ev t (m + n) (cv (fun i => f (i + 1)) g) := by
   show f 0 * g 0 + t * ev t (m + n) (fun i => f 0 * g (i + 1) + cv (fun i => f (i + 1)) g i) = f 0 * g 0 + t * ev t (m + n) (fun i => f 0 * g (i + 1)) + t * ev t (m + n) (cv (fun i => f (i + 1)) g)
   rw [ev_add t (m + n) (fun i => f 0 * g (i + 1)) (cv (fun i => f (i + 1)) g), Int.mul_add]; omega
  rw [h3, h2, h1]
  show _ = (f 0 + t * ev t m (fun i => f (i + 1))) * ev t n g
  rw [Int.add_mul, Int.mul_assoc]
def Al (p : Int) (f g : Nat -> Int) : Prop := ∀ i, f i % p = g i % p
theorem Al.refl (p : Int) (f : Nat -> Int) : Al p f f := fun _ => rfl
theorem Al.symm {p : Int} {f g : Nat -> Int} (h : Al p f g) : Al p g f := fun i => (h i).symm
theorem Al.trans {p : Int} {f g h : Nat -> Int} (h1 : Al p f g) (h2 : Al p g h) : Al p f h := fun i => (h1 i).trans (h2 i)
theorem Al.add {p : Int} {f f' g g' : Nat -> Int} (h1 : Al p f f') (h2 : Al p g g') : Al p (fun i => f i + g i) (fun i => f' i + g' i) := fun i => by
 show (f i + g i) % p = (f' i + g' i) % p
 rw [Int.add_emod, h1 i, h2 i, <- Int.add_emod]
theorem Al.sub {p : Int} {f f' g g' : Nat -> Int} (h1 : Al p f f') (h2 : Al p g g') : Al p (fun i => f i - g i) (fun i => f' i - g' i) := fun i => by
 show (f i - g i) % p = (f' i - g' i) % p
 rw [Int.sub_emod, h1 i, h2 i, <- Int.sub_emod]
theorem Al.mod (p : Int) (f : Nat -> Int) : Al p (fun i => f i % p) f := fun i => Int.emod_emod_of_dvd _ (Int.dvd_refl p)
theorem al_cv {p : Int} {g g' : Nat -> Int} (h2 : Al p g g') (k : Nat) : ∀ {f f' : Nat -> Int}, Al p f f' -> cv f g k % p = cv f' g' k % p := by
 induction k with
 | zero => intro f f' h1; show (f 0 * g 0) % p = (f' 0 * g' 0) % p; rw [Int.mul_emod, h1 0, h2 0, <- Int.mul_emod]
 | succ k ih =>
  intro f f' h1
  show (f 0 * g (k + 1) + cv (fun i => f (i + 1)) g k) % p = (f' 0 * g' (k + 1) + cv (fun i => f' (i + 1)) g' k) % p
  rw [Int.add_emod, ih (f := fun i => f (i + 1)) (f' := fun i => f' (i + 1)) (fun i => h1 (i + 1)), Int.mul_emod, h1 0, h2 (k + 1), <- Int.mul_emod, <- Int.add_emod]
theorem Al.cv {p : Int} {f f' g g' : Nat -> Int} (h1 : Al p f f') (h2 : Al p g g') : Al p (cv f g) (cv f' g') := fun k => al_cv h2 k h1
theorem Al.ev {p : Int} (t : Int) (n : Nat) : ∀ {f f' : Nat -> Int}, Al p f f' -> ev t n f % p = ev t n f' % p := by
 induction n with
 | zero => intro f f' _; rfl
 | succ n ih =>
  intro f f' h
  show (f 0 + t * Fld.ev t n (fun i => f (i + 1))) % p = (f' 0 + t * Fld.ev t n (fun i => f' (i + 1))) % p
  rw [Int.add_emod, h 0, Int.mul_emod, ih (f := fun i => f (i + 1)) (f' := fun i => f' (i + 1)) (fun i => h (i + 1)), <- Int.mul_emod, <- Int.add_emod]
end Go.Proofs.YtjhididlcdepdaaGreat.Fld
namespace Go.Proofs.YtjhididlcdepdaaGreat.Fld
def co (xs : List Int) (i : Nat) : Int := xs.getD i 0
theorem co_nil (i : Nat) : co [] i = 0 := rfl
theorem co_zero (x : Int) (xs : List Int) : co (x :: xs) 0 = x := rfl
theorem co_succ (x : Int) (xs : List Int) (i : Nat) : co (x :: xs) (i + 1) = co xs i := rfl
theorem co_out (xs : List Int) (i : Nat) (h : xs.length <= i) : co xs i = 0 := by simp [co, List.getD_eq_getElem?_getD, h]
theorem co_at {xs : List Int} {i : Nat} (h : i < xs.length) : co xs i = xs[i] := by simp [co, List.getD_eq_getElem?_getD, h]
theorem ext_co {xs ys : List Int} (hl : xs.length = ys.length) (h : ∀ i, i < xs.length -> co xs i = co ys i) : xs = ys := by
 apply List.ext_getElem hl
 intro i h1 h2
 have := h i h1
 rw [co_at h1, co_at h2] at this; exact this
def tr : List Int -> List Int
 | [] => []
 | x :: xs => if tr xs = [] then (if x = 0 then [] else [x]) else x :: tr xs
theorem co_tr (xs : List Int) : ∀ i, co (tr xs) i = co xs i := by
 induction xs with
 | nil => intro i; rfl
 | cons x xs ih =>
  intro i
  unfold tr
  split
  · rename_i h
    rw [h] at ih
    split
    · rename_i h0
      cases i with
      | zero => rw [co_zero, h0]; rfl
      | succ i => rw [co_succ, <- ih i]; rfl
    · cases i with
      | zero => rfl
      | succ i => rw [co_succ, co_succ, <- ih i]
  · cases i with
    | zero => rfl
    | succ i => rw [co_succ, co_succ, ih i]
theorem tr_len (xs : List Int) : (tr xs).length <= xs.length := by
 induction xs with
 | nil => exact Nat.le_refl _
 | cons x xs ih =>
  unfold tr
  split
  · split <;> simp
  · simpa using ih
theorem tr_last (xs : List Int) : tr xs ≠ [] -> co xs ((tr xs).length - 1) ≠ 0 := by
 induction xs with
 | nil => intro h; exact absurd rfl h
 | cons x xs ih =>
  intro hne
  unfold tr at hne ⊢
  split
  · rename_i h
    rw [if_pos h] at hne
    split
    · rename_i h0; rw [if_pos h0] at hne; exact absurd rfl hne
    · rename_i h0; exact h0
  · rename_i h
    have := ih h
    cases he : tr xs with
    | nil => exact absurd he h
    | cons y ys =>
     rw [he] at this
     simp only [List.length_cons, Nat.add_sub_cancel] at this ⊢
     exact this
theorem tr_out (xs : List Int) (i : Nat) (h : (tr xs).length <= i) : co xs i = 0 := by rw [<- co_tr]; exact co_out _ _ h
theorem tr_eq {xs ys : List Int} (h : ∀ i, co xs i = co ys i) : tr xs = tr ys := by
 have hl : (tr xs).length = (tr ys).length := by
  have one : ∀ ps qs : List Int, (∀ i, co ps i = co qs i) -> (tr ps).length <= (tr qs).length := by
   intro ps qs hh
   by_cases hn : tr ps = []
   · rw [hn]; exact Nat.zero_le _
   · have h1 := tr_last ps hn
     have hp : 0 < (tr ps).length := List.length_pos_iff.2 hn
     by_cases hc : (tr ps).length <= (tr qs).length
     · exact hc
     · exact absurd ((hh _).trans (tr_out qs _ (by omega))) h1
  exact Nat.le_antisymm (one xs ys h) (one ys xs (fun i => (h i).symm))
 exact ext_co hl (fun i _ => by rw [co_tr, co_tr]; exact h i)
theorem tr_tr (xs : List Int) : tr (tr xs) = tr xs := tr_eq (co_tr xs)
theorem take_tr {xs : List Int} {n : Nat} (hn : n <= xs.length) (h0 : ∀ i, n <= i -> i < xs.length -> co xs i = 0) (h1 : n = 0 ∨ co xs (n - 1) ≠ 0) : xs.take n = tr xs := by
 have hz : ∀ i, n <= i -> co xs i = 0 := fun i hi => by
  by_cases h : i < xs.length
  · exact h0 i hi h
  · exact co_out _ _ (by omega)
 have hl : (tr xs).length = n := by
  apply Nat.le_antisymm
  · by_cases hc : (tr xs).length <= n
    · exact hc
    · have hne : tr xs ≠ [] := by intro e; rw [e] at hc; simp at hc
      exact absurd (hz _ (by omega)) (tr_last xs hne)
  · rcases h1 with rfl | h1
    · exact Nat.zero_le _
    · by_cases hc : n <= (tr xs).length
      · exact hc
      · exact absurd (tr_out xs (n - 1) (by omega)) h1
 apply ext_co
 · rw [hl, List.length_take]; omega
 · intro i hi
   rw [List.length_take] at hi
   rw [co_tr]
   unfold co
   rw [List.getD_eq_getElem?_getD, List.getD_eq_getElem?_getD, List.getElem?_take_of_lt (by omega)]
def mk (n : Nat) (c : Nat -> Int) : List Int := (List.range n).map c
theorem mk_len (n : Nat) (c : Nat -> Int) : (mk n c).length = n := by simp [mk]
theorem co_mk (n : Nat) (c : Nat -> Int) (i : Nat) : co (mk n c) i = if i < n then c i else 0 := by
 by_cases h : i < n
 · rw [if_pos h, co_at (by rw [mk_len]; exact h)]; simp [mk]
 · rw [if_neg h]; exact co_out _ _ (by rw [mk_len]; omega)
theorem mk_snoc (n : Nat) (c : Nat -> Int) : mk n c ++ [c n] = mk (n + 1) c := by simp [mk, List.range_succ]
def Els (p : Int) (xs : List Int) : Prop := ∀ x ∈ xs, El p x
theorem Els.co {p : Int} {xs : List Int} (h : Els p xs) (hp : 0 < p) (i : Nat) : El p (co xs i) := by
 by_cases hi : i < xs.length
 · rw [co_at hi]; exact h _ (List.getElem_mem hi)
 · rw [co_out _ _ (by omega)]; exact ⟨Int.le_refl 0, hp⟩
theorem Els.of_co {p : Int} {xs : List Int} (h : ∀ i, i < xs.length -> El p (Fld.co xs i)) : Els p xs := by
 intro x hx
 obtain ⟨i, hi, rfl⟩ := List.getElem_of_mem hx
 have := h i hi
 rw [co_at hi] at this; exact this
theorem Els.tr {p : Int} {xs : List Int} (h : Els p xs) (hp : 0 < p) : Els p (tr xs) := Els.of_co (fun i _ => by rw [co_tr]; exact h.co hp i)
theorem Els.mk {p : Int} {c : Nat -> Int} (n : Nat) (h : ∀ i, i < n -> El p (c i)) : Els p (Fld.mk n c) := Els.of_co (fun i hi => by
 rw [mk_len] at hi; rw [co_mk, if_pos hi]; exact h i hi)
theorem El.mod {p x : Int} (h : El p x) : x % p = x := Int.emod_eq_of_lt h.1 h.2
theorem Al.eq {p : Int} {xs ys : List Int} (hp : 0 < p) (hx : Els p xs) (hy : Els p ys) (h : Al p (Fld.co xs) (Fld.co ys)) : Fld.tr xs = Fld.tr ys :=
 tr_eq (fun i => by have := h i; rw [(hx.co hp i).mod, (hy.co hp i).mod] at this; exact this)
theorem no_div {p : Int} {wd : Bool} (hm : Md p wd) (a b : Int) (hb : b % p ≠ 0) (h : (a * b) % p = 0) : a % p = 0 := by
 have hp : 0 < p := by have := hm.bounds; omega
 have he : El p (b % p) := ⟨Int.emod_nonneg _ (by omega), Int.emod_lt_of_pos _ hp⟩
 have hi := mul_inv hm (b % p) he hb
 have e : mul p (mul p a (b % p)) (inv p (b % p)) = 0 := by
  have : mul p a (b % p) = 0 := by unfold mul; rw [mul_emod_right]; exact h
  rw [this]; simp [mul]
 rw [ring_assoc, hi] at e
 unfold mul at e
 rw [Int.mul_one] at e; exact e
theorem cv_mod_end {p : Int} {f g : Nat -> Int} {n m : Nat} (hf : ∀ i, n < i -> f i % p = 0) (hg : ∀ i, m < i -> g i % p = 0) : cv f g (n + m) % p = (f n * g m) % p := by
 have h1 : Al p f (fun i => f i % p) := (Al.mod p f).symm
 have h2 : Al p g (fun i => g i % p) := (Al.mod p g).symm
 rw [al_cv h2 (n + m) h1, cv_top n (f := fun i => f i % p) (g := fun i => g i % p) hf hg, <- Int.mul_emod]
theorem only_zero {p : Int} {wd : Bool} (hm : Md p wd) (f q : Nat -> Int) (N m : Nat) (hf : ∀ i, N <= i -> f i % p = 0) (hq : ∀ i, m < i -> q i % p = 0) (hq0 : q m % p ≠ 0)
 (h : ∀ i, m <= i -> cv f q i % p = 0) : ∀ i, f i % p = 0 := by
 have key : ∀ d n, n + d = N -> ∀ i, n <= i -> f i % p = 0 := by
  intro d
  induction d with
  | zero => intro n hn i hi; exact hf i (by omega)
  | succ d ih =>
   intro n hn i hi
   have h1 := ih (n + 1) (by omega)
   by_cases he : i = n
   · subst he
     have h2 := cv_mod_end (f := f) (g := q) (n := i) (m := m) (fun j hj => h1 j (by omega)) hq
     rw [h (i + m) (by omega)] at h2
     exact no_div hm _ _ hq0 h2.symm
   · exact h1 i (by omega)
 intro i
 exact key N 0 (by omega) i (Nat.zero_le _)
theorem div_only {p : Int} {wd : Bool} (hm : Md p wd) {a b c d q : List Int} (ha : Els p a) (hb : Els p b) (hc : Els p c) (hd : Els p d) (hq : Els p q) (m : Nat) (hql : (tr q).length = m + 1)
 (hbl : (tr b).length <= m) (hdl : (tr d).length <= m) (h : Al p (fun i => cv (co a) (co q) i + co b i) (fun i => cv (co c) (co q) i + co d i)) : tr a = tr c ∧ tr b = tr d := by
 have hp : 0 < p := by have := hm.bounds; omega
 have hq0 : co q m % p ≠ 0 := by
  have hne : tr q ≠ [] := by intro e; rw [e] at hql; simp at hql
  have := tr_last q hne
  rw [hql, Nat.add_sub_cancel] at this
  rw [(hq.co hp m).mod]; exact this
 have hq1 : ∀ i, m < i -> co q i % p = 0 := fun i hi => by rw [tr_out q i (by omega)]; rfl
 have hsub : ∀ i, cv (fun i => co a i - co c i) (co q) i = cv (co a) (co q) i - cv (co c) (co q) i := by
  intro i
  have e1 := cv_add_left (co q) i (co a) (fun i => -1 * co c i)
  have e2 := cv_smul_left (-1) (co q) i (co c)
  have e3 : cv (fun i => co a i - co c i) (co q) i = cv (fun i => co a i + -1 * co c i) (co q) i := cv_congr i (fun j _ => by omega) (fun j _ => rfl)
  rw [e3, e1, e2]; omega
 have hzero : ∀ i, m <= i -> cv (fun i => co a i - co c i) (co q) i % p = 0 := by
  intro i hi
  have h1 : (cv (co a) (co q) i + co b i) % p = (cv (co c) (co q) i + co d i) % p := h i
  rw [tr_out b i (by omega), tr_out d i (by omega), Int.add_zero, Int.add_zero] at h1
  rw [hsub, Int.sub_emod, h1, Int.sub_self]; rfl
 have hz := only_zero hm (fun i => co a i - co c i) (co q) (a.length + c.length) m (fun i hi => by
  show (co a i - co c i) % p = 0
  rw [co_out a i (by omega), co_out c i (by omega)]; rfl) hq1 hq0 hzero
 have hac : Al p (co a) (co c) := fun i => by
  have e : (co a i - co c i) % p = 0 := hz i
  have : co a i = (co a i - co c i) + co c i := by omega
  rw [this, Int.add_emod, e, Int.zero_add, Int.emod_emod_of_dvd _ (Int.dvd_refl p)]
 refine ⟨Al.eq hp ha hc hac, Al.eq hp hb hd fun i => ?_⟩
 have h1 : (cv (co a) (co q) i + co b i) % p = (cv (co c) (co q) i + co d i) % p := h i
 have h2 := al_cv (Al.refl p (co q)) i hac
 have h3 : co b i = (cv (co a) (co q) i + co b i) - cv (co a) (co q) i := by omega
 have h4 : co d i = (cv (co c) (co q) i + co d i) - cv (co c) (co q) i := by omega
 rw [h3, h4, Int.sub_emod, h1, h2, <- Int.sub_emod]
def into (q : Nat -> Int) : List Int -> Nat -> Int
 | [] => fun _ => 0
 | x :: xs => fun i => (if i = 0 then x else 0) + cv q (into q xs) i
end Go.Proofs.YtjhididlcdepdaaGreat.Fld
namespace Go.Proofs.YtjhididlcdepdaaGreat.Fld
def pt (d : Nat) (c : Int) (i : Nat) : Int := if i = d then c else 0
theorem cv_pt (c : Int) (g : Nat -> Int) (k : Nat) : ∀ d, cv (pt d c) g k = if d <= k then c * g (k - d) else 0 := by
 induction k with
 | zero =>
  intro d
  show pt d c 0 * g 0 = _
  unfold pt
  by_cases h : d = 0
  · subst h; rw [if_pos rfl, if_pos (Nat.le_refl _)]
  · rw [if_neg (fun e => h e.symm), if_neg (by omega), Int.zero_mul]
 | succ k ih =>
  intro d
  show pt d c 0 * g (k + 1) + cv (fun i => pt d c (i + 1)) g k = _
  cases d with
  | zero =>
   rw [cv_zero_left g k _ (fun i _ => by unfold pt; rw [if_neg (by omega)]), if_pos (Nat.zero_le _)]
   unfold pt
   rw [if_pos rfl]; simp
  | succ d =>
   have e : cv (fun i => pt (d + 1) c (i + 1)) g k = cv (pt d c) g k := cv_congr k (fun i _ => by unfold pt; by_cases h : i = d <;> simp [h]) (fun i _ => rfl)
   have e2 : k + 1 - (d + 1) = k - d := by omega
   rw [e, ih d, e2]
   unfold pt
   rw [if_neg (by omega), Int.zero_mul, Int.zero_add]
   by_cases h : d <= k
   · rw [if_pos h, if_pos (by omega)]
   · rw [if_neg h, if_neg (by omega)]
theorem co_take (xs : List Int) (n i : Nat) : co (xs.take n) i = if i < n then co xs i else 0 := by
 by_cases h : i < n
 · rw [if_pos h]; unfold co; rw [List.getD_eq_getElem?_getD, List.getD_eq_getElem?_getD, List.getElem?_take_of_lt h]
 · rw [if_neg h]; exact co_out _ _ (by rw [List.length_take]; omega)
theorem co_take_succ (xs : List Int) (n : Nat) (i : Nat) : co (xs.take (n + 1)) i = co (xs.take n) i + pt n (co xs n) i := by
 rw [co_take, co_take]; unfold pt
 by_cases h : i = n
 · subst h; rw [if_pos (by omega), if_neg (by omega), if_pos rfl, Int.zero_add]
 · rw [if_neg h, Int.add_zero]
   by_cases h2 : i < n
   · rw [if_pos h2, if_pos (by omega)]
   · rw [if_neg h2, if_neg (by omega)]
theorem cv_row (xs : List Int) (g : Nat -> Int) (n k : Nat) : cv (co (xs.take (n + 1))) g k = cv (co (xs.take n)) g k + if n <= k then co xs n * g (k - n) else 0 := by
 rw [<- cv_pt, <- cv_add_left]
 exact cv_congr k (fun i _ => co_take_succ xs n i) (fun i _ => rfl)
theorem cv_row0 (xs : List Int) (g : Nat -> Int) (k : Nat) : cv (co (xs.take 0)) g k = 0 := cv_zero_left g k _ (fun i _ => by rw [List.take_zero]; rfl)
def rw' (xs ys : List Int) (n j k : Nat) : Int := cv (co (xs.take n)) (co ys) k + if n <= k ∧ k < n + j then co xs n * co ys (k - n) else 0
theorem ev_snoc (t : Int) (n : Nat) : ∀ f : Nat -> Int, ev t (n + 1) f = ev t n f + f n * t ^ n := by
 induction n with
 | zero => intro f; show f 0 + t * 0 = 0 + f 0 * t ^ 0; rw [Int.mul_zero, Int.pow_zero, Int.mul_one]; omega
 | succ n ih =>
  intro f
  show f 0 + t * ev t (n + 1) (fun i => f (i + 1)) = f 0 + t * ev t n (fun i => f (i + 1)) + f (n + 1) * t ^ (n + 1)
  rw [ih (fun i => f (i + 1)), Int.mul_add, Int.pow_succ, Int.add_assoc]
  congr 2
  rw [Int.mul_left_comm, Int.mul_comm (t ^ n) t]
theorem div_step {p c : Int} {A A' R R' P q : Nat -> Int} {d : Nat} (h : Al p (fun i => cv A q i + R i) P) (hA : ∀ i, A' i = A i + pt d c i)
 (hR : ∀ i, R' i % p = (R i - if d <= i then c * q (i - d) else 0) % p) : Al p (fun i => cv A' q i + R' i) P := by
 intro i
 have e1 : cv A' q i = cv A q i + if d <= i then c * q (i - d) else 0 := by
  rw [<- cv_pt, <- cv_add_left]; exact cv_congr i (fun j _ => hA j) (fun j _ => rfl)
 have h1 : (cv A q i + R i) % p = P i % p := h i
 show (cv A' q i + R' i) % p = P i % p
 rw [e1, Int.add_emod, hR i, <- Int.add_emod, <- h1]
 congr 1; omega
end Go.Proofs.YtjhididlcdepdaaGreat.Fld
namespace Go.Proofs.YtjhididlcdepdaaGreat.Fld
def Is (p : Int) (zs : List Int) (F : Nat -> Int) : Prop := Els p zs ∧ tr zs = zs ∧ Al p (co zs) F
theorem Is.only {p : Int} (hp : 0 < p) {xs ys : List Int} {F : Nat -> Int} (hx : Is p xs F) (hy : Is p ys F) : xs = ys := by
 have := Al.eq hp hx.1 hy.1 (hx.2.2.trans hy.2.2.symm)
 rw [hx.2.1, hy.2.1] at this; exact this
theorem Is.al {p : Int} {zs : List Int} {F G : Nat -> Int} (h : Is p zs F) (k : Al p F G) : Is p zs G := ⟨h.1, h.2.1, h.2.2.trans k⟩
theorem is_tr {p : Int} (hp : 0 < p) {zs : List Int} (h : Els p zs) : Is p (tr zs) (co zs) := ⟨h.tr hp, tr_tr zs, fun i => by rw [co_tr]⟩
theorem emod_el {p : Int} (hp : 0 < p) (a : Int) : El p (a % p) := ⟨Int.emod_nonneg _ (by omega), Int.emod_lt_of_pos _ hp⟩
theorem els_mk_mod {p : Int} (hp : 0 < p) (N : Nat) (F : Nat -> Int) : Els p (mk N (fun i => F i % p)) := Els.mk N (fun i _ => emod_el hp _)
theorem al_mk {p : Int} {N : Nat} {F : Nat -> Int} (h : ∀ i, N <= i -> F i % p = 0) : Al p (co (mk N (fun i => F i % p))) F := fun i => by
 rw [co_mk]
 by_cases hi : i < N
 · rw [if_pos hi, Int.emod_emod_of_dvd _ (Int.dvd_refl p)]
 · rw [if_neg hi, h i (by omega)]; exact Int.zero_emod p
theorem is_mk {p : Int} (hp : 0 < p) {N : Nat} {F : Nat -> Int} (h : ∀ i, N <= i -> F i % p = 0) : Is p (tr (mk N (fun i => F i % p))) F :=
 (is_tr hp (els_mk_mod hp N F)).al (al_mk h)
theorem last_ne {xs : List Int} (h : tr xs = xs) (hne : xs ≠ []) : co xs (xs.length - 1) ≠ 0 := by
 have := tr_last xs (by rw [h]; exact hne)
 rw [h] at this; exact this
theorem tr_full {xs : List Int} (h : xs = [] ∨ co xs (xs.length - 1) ≠ 0) : tr xs = xs := by
 have := take_tr (xs := xs) (n := xs.length) (Nat.le_refl _) (fun i h1 h2 => by omega) (by rcases h with h | h; exact .inl (by rw [h]; rfl); exact .inr h)
 rw [List.take_length] at this; exact this.symm
def sm (p c : Int) (xs ys : List Int) : List Int := mk (max xs.length ys.length) (fun i => (co xs i + c * co ys i) % p)
theorem sm_len (p c : Int) (xs ys : List Int) : (sm p c xs ys).length = max xs.length ys.length := mk_len _ _
theorem els_sm {p : Int} (hp : 0 < p) (c : Int) (xs ys : List Int) : Els p (sm p c xs ys) := els_mk_mod hp _ (fun i => co xs i + c * co ys i)
theorem al_sm (p c : Int) (xs ys : List Int) : Al p (co (sm p c xs ys)) (fun i => co xs i + c * co ys i) :=
 al_mk (F := fun i => co xs i + c * co ys i) (fun i hi => by
  show (co xs i + c * co ys i) % p = 0
  rw [co_out xs i (by omega), co_out ys i (by omega), Int.mul_zero]; exact Int.zero_emod p)
theorem is_sm {p : Int} (hp : 0 < p) (c : Int) (xs ys : List Int) : Is p (tr (sm p c xs ys)) (fun i => co xs i + c * co ys i) := (is_tr hp (els_sm hp c xs ys)).al (al_sm p c xs ys)
theorem is_add {p : Int} (hp : 0 < p) (xs ys : List Int) : Is p (tr (sm p 1 xs ys)) (fun i => co xs i + co ys i) := (is_sm hp 1 xs ys).al (fun i => by show (co xs i + 1 * co ys i) % p = _; rw [Int.one_mul])
theorem is_sub {p : Int} (hp : 0 < p) (xs ys : List Int) : Is p (tr (sm p (sub p 0 1) xs ys)) (fun i => co xs i - co ys i) := (is_sm hp _ xs ys).al (fun i => by
 show (co xs i + (0 - 1) % p * co ys i) % p = (co xs i - co ys i) % p
 rw [Int.add_emod, Int.mul_emod, Int.emod_emod_of_dvd _ (Int.dvd_refl p), <- Int.mul_emod, <- Int.add_emod]
 congr 1; omega)
def prd (p : Int) (xs ys : List Int) : List Int := if xs = [] ∨ ys = [] then [] else mk (xs.length + ys.length - 1) (fun k => cv (co xs) (co ys) k % p)
theorem els_prd {p : Int} (hp : 0 < p) (xs ys : List Int) : Els p (prd p xs ys) := by
 unfold prd; split
 · intro x hx; cases hx
 · exact els_mk_mod hp _ _
theorem al_prd (p : Int) (xs ys : List Int) : Al p (co (prd p xs ys)) (cv (co xs) (co ys)) := by
 unfold prd; split
 · rename_i h
   intro i
   have : cv (co xs) (co ys) i = 0 := by
    rcases h with rfl | rfl
    · exact cv_zero_left _ i _ (fun j _ => rfl)
    · rw [cv_comm]; exact cv_zero_left _ i _ (fun j _ => rfl)
   rw [this]; rfl
 · rename_i h
   refine al_mk (F := cv (co xs) (co ys)) (fun i hi => ?_)
   have h1 : xs.length ≠ 0 := fun e => h (.inl (List.length_eq_zero_iff.1 e))
   rw [cv_end (m := xs.length) (n := ys.length) i (fun j hj => co_out _ _ hj) (fun j hj => co_out _ _ hj) (by omega)]; exact Int.zero_emod p
theorem prd_len (p : Int) (xs ys : List Int) (h1 : xs ≠ []) (h2 : ys ≠ []) : (prd p xs ys).length = xs.length + ys.length - 1 := by
 unfold prd; rw [if_neg (by intro h; rcases h with h | h; exact h1 h; exact h2 h), mk_len]
theorem prd_len_le (p : Int) (xs ys : List Int) : (prd p xs ys).length <= xs.length + ys.length - 1 := by
 unfold prd; split
 · exact Nat.zero_le _
 · rw [mk_len]; exact Nat.le_refl _
theorem is_prd {p : Int} {wd : Bool} (hm : Md p wd) {xs ys : List Int} (hx : Els p xs) (hy : Els p ys) (tx : tr xs = xs) (ty : tr ys = ys) : Is p (prd p xs ys) (cv (co xs) (co ys)) := by
 have hp : 0 < p := by have := hm.bounds; omega
 refine ⟨els_prd hp xs ys, tr_full ?_, al_prd p xs ys⟩
 by_cases h1 : xs = []
 · left; unfold prd; rw [if_pos (.inl h1)]
 by_cases h2 : ys = []
 · left; unfold prd; rw [if_pos (.inr h2)]
 right
 have l1 := List.length_pos_iff.2 h1
 have l2 := List.length_pos_iff.2 h2
 have a1 := last_ne tx h1
 have a2 := last_ne ty h2
 rw [prd_len p xs ys h1 h2]
 unfold prd
 rw [if_neg (by intro h; rcases h with h | h; exact h1 h; exact h2 h), co_mk, if_pos (by omega)]
 have e : xs.length + ys.length - 1 - 1 = (xs.length - 1) + (ys.length - 1) := by omega
 rw [e, cv_top (n := ys.length - 1) (xs.length - 1) (fun i hi => co_out _ _ (by omega)) (fun i hi => co_out _ _ (by omega))]
 intro h0
 have := no_div hm _ _ (by rw [(hy.co hp _).mod]; exact a2) h0
 rw [(hx.co hp _).mod] at this; exact a1 this
theorem cv_single (c : Int) (g : Nat -> Int) (k : Nat) : cv (co [c]) g k = c * g k := by
 cases k with
 | zero => rfl
 | succ k =>
  show c * g (k + 1) + cv (fun i => co [c] (i + 1)) g k = c * g (k + 1)
  rw [cv_zero_left g k (fun i => co [c] (i + 1)) (fun i _ => rfl), Int.add_zero]
theorem is_scale {p : Int} (hp : 0 < p) (c : Int) (xs : List Int) : Is p (tr (sm p c [] xs)) (cv (co [c]) (co xs)) := (is_sm hp c [] xs).al (fun i => by
 show (co [] i + c * co xs i) % p = _
 rw [cv_single, co_nil, Int.zero_add])
def vl (p t : Int) (xs : List Int) : Int := ev t xs.length (co xs) % p
theorem vl_el {p : Int} (hp : 0 < p) (t : Int) (xs : List Int) : El p (vl p t xs) := emod_el hp _
theorem vl_is {p t : Int} {zs : List Int} {F : Nat -> Int} {N : Nat} (h : Al p (co zs) F) (hF : ∀ i, N <= i -> F i = 0) : vl p t zs = ev t N F % p := by
 unfold vl
 rw [<- ev_more t zs.length N (co zs) (fun i hi => co_out _ _ hi), Al.ev t _ h, Nat.add_comm, ev_more t N zs.length F hF]
def hn (p t : Int) (xs : List Int) (i : Nat) : Int := ev t (xs.length - i) (fun j => co xs (i + j)) % p
theorem hn_el {p : Int} (hp : 0 < p) (t : Int) (xs : List Int) (i : Nat) : El p (hn p t xs i) := emod_el hp _
theorem hn_top (p t : Int) (xs : List Int) : hn p t xs xs.length = 0 := by unfold hn; rw [Nat.sub_self]; exact Int.zero_emod p
theorem hn_zero (p t : Int) (xs : List Int) : hn p t xs 0 = vl p t xs := by
 unfold hn vl
 rw [Nat.sub_zero, ev_congr t xs.length (g := co xs) (fun j _ => by rw [Nat.zero_add])]
theorem hn_step {p t : Int} {xs : List Int} {i : Nat} (h : i < xs.length) : add p (mul p (hn p t xs (i + 1)) t) (co xs i) = hn p t xs i := by
 unfold hn add mul
 have e : xs.length - i = (xs.length - (i + 1)) + 1 := by omega
 rw [e]
 show _ = (co xs (i + 0) + t * ev t (xs.length - (i + 1)) (fun j => co xs (i + (j + 1)))) % p
 have e2 : ev t (xs.length - (i + 1)) (fun j => co xs (i + (j + 1))) = ev t (xs.length - (i + 1)) (fun j => co xs (i + 1 + j)) := ev_congr t _ (fun j _ => by congr 1; omega)
 rw [e2, Int.add_emod, Int.emod_emod_of_dvd _ (Int.dvd_refl p), Int.mul_emod, Int.emod_emod_of_dvd _ (Int.dvd_refl p), <- Int.mul_emod, <- Int.add_emod, Nat.add_zero]
 rw [Int.mul_comm t, Int.add_comm]
 rfl
def lw (p t : Int) (xs : List Int) (k : Nat) : Int := ev t k (co xs) % p
theorem lw_el {p : Int} (hp : 0 < p) (t : Int) (xs : List Int) (i : Nat) : El p (lw p t xs i) := emod_el hp _
def px (p t : Int) (k : Nat) : Int := t ^ k % p
theorem px_el {p : Int} (hp : 0 < p) (t : Int) (k : Nat) : El p (px p t k) := emod_el hp _
theorem px_zero {p : Int} (hp : 1 < p) (t : Int) : px p t 0 = 1 := by unfold px; rw [Int.pow_zero]; exact Int.emod_eq_of_lt (by omega) hp
theorem px_step (p t : Int) (k : Nat) : mul p (px p t k) t = px p t (k + 1) := by
 unfold px mul
 rw [Int.mul_emod, Int.emod_emod_of_dvd _ (Int.dvd_refl p), <- Int.mul_emod, <- Int.pow_succ]
theorem lw_zero (p t : Int) (xs : List Int) : lw p t xs 0 = 0 := Int.zero_emod p
theorem lw_step (p t : Int) (xs : List Int) (k : Nat) : add p (lw p t xs k) (mul p (co xs k) (px p t k)) = lw p t xs (k + 1) := by
 unfold lw px add mul
 rw [ev_snoc, <- Int.add_emod, Int.add_emod, Int.mul_emod, Int.emod_emod_of_dvd _ (Int.dvd_refl p), <- Int.mul_emod, <- Int.add_emod]
def Dv (p : Int) (xs ys a b : List Int) : Prop := Els p a ∧ Els p b ∧ tr a = a ∧ tr b = b ∧ b.length < (tr ys).length ∧ Al p (fun i => cv (co a) (co ys) i + co b i) (co xs)
theorem Dv.only {p : Int} {wd : Bool} (hm : Md p wd) {xs ys a b c d : List Int} (hy : Els p ys) (h : Dv p xs ys a b) (k : Dv p xs ys c d) : a = c ∧ b = d := by
 obtain ⟨h1, h2, h3, h4, h5, h6⟩ := h
 obtain ⟨k1, k2, k3, k4, k5, k6⟩ := k
 have := div_only hm h1 h2 k1 k2 hy ((tr ys).length - 1) (by omega) (by rw [h4]; omega) (by rw [k4]; omega) (h6.trans k6.symm)
 rw [h3, h4, k3, k4] at this; exact this
theorem top_ne {p : Int} (hp : 0 < p) {ys : List Int} (hy : Els p ys) (h : 0 < (tr ys).length) : co ys ((tr ys).length - 1) % p ≠ 0 := by
 rw [(hy.co hp _).mod]; exact tr_last ys (List.length_pos_iff.1 h)
theorem Dv.len {p : Int} {wd : Bool} (hm : Md p wd) {xs ys a b : List Int} (hy : Els p ys) (h : Dv p xs ys a b) (hne : a ≠ []) : a.length + (tr ys).length - 1 <= xs.length := by
 have hp : 0 < p := by have := hm.bounds; omega
 obtain ⟨h1, h2, h3, h4, h5, h6⟩ := h
 have l1 := List.length_pos_iff.2 hne
 have e := h6 ((a.length - 1) + ((tr ys).length - 1))
 have e1 : cv (co a) (co ys) ((a.length - 1) + ((tr ys).length - 1)) = _ := cv_top (n := (tr ys).length - 1) (a.length - 1) (f := co a) (g := co ys) (fun i hi => co_out _ _ (by omega)) (fun i hi => tr_out ys i (by omega))
 have e2 : co b ((a.length - 1) + ((tr ys).length - 1)) = 0 := co_out _ _ (by omega)
 simp only [e1, e2, Int.add_zero] at e
 by_cases hc : a.length + (tr ys).length - 1 <= xs.length
 · exact hc
 · rw [co_out xs _ (by omega), Int.zero_emod] at e
   have := no_div hm _ _ (top_ne hp hy (by omega)) e
   rw [(h1.co hp _).mod] at this
   exact absurd this (last_ne h3 hne)
end Go.Proofs.YtjhididlcdepdaaGreat.Fld
namespace Go.Proofs.YtjhididlcdepdaaGreat.Fld
def sr (p : Int) : Setoid (Nat -> Int) := ⟨Al p, ⟨Al.refl p, Al.symm, Al.trans⟩⟩
def Pl (p : Int) : Type := Quotient (sr p)
def pu (p : Int) (f : Nat -> Int) : Pl p := Quotient.mk (sr p) f
theorem pu_eq {p : Int} {f g : Nat -> Int} (h : Al p f g) : pu p f = pu p g := Quotient.sound (s := sr p) h
theorem pu_al {p : Int} {f g : Nat -> Int} (h : pu p f = pu p g) : Al p f g := Quotient.exact (s := sr p) h
def qa {p : Int} (x y : Pl p) : Pl p := Quotient.lift₂ (s₁ := sr p) (s₂ := sr p) (fun f g => pu p (fun i => f i + g i)) (fun _ _ _ _ h k => pu_eq (Al.add h k)) x y
def qm {p : Int} (x y : Pl p) : Pl p := Quotient.lift₂ (s₁ := sr p) (s₂ := sr p) (fun f g => pu p (cv f g)) (fun _ _ _ _ h k => pu_eq (Al.cv h k)) x y
theorem qa_pu {p : Int} (f g : Nat -> Int) : qa (pu p f) (pu p g) = pu p (fun i => f i + g i) := rfl
theorem qm_pu {p : Int} (f g : Nat -> Int) : qm (pu p f) (pu p g) = pu p (cv f g) := rfl
theorem pu_all {p : Int} (x : Pl p) : ∃ f, x = pu p f := Quotient.inductionOn (s := sr p) x (fun f => ⟨f, rfl⟩)
theorem qa_comm {p : Int} (x y : Pl p) : qa x y = qa y x := by
 obtain ⟨f, rfl⟩ := pu_all x
 obtain ⟨g, rfl⟩ := pu_all y
 rw [qa_pu, qa_pu]; congr 1; funext i; exact Int.add_comm _ _
theorem qa_assoc {p : Int} (x y z : Pl p) : qa (qa x y) z = qa x (qa y z) := by
 obtain ⟨f, rfl⟩ := pu_all x
 obtain ⟨g, rfl⟩ := pu_all y
 obtain ⟨h, rfl⟩ := pu_all z
 rw [qa_pu, qa_pu, qa_pu, qa_pu]; congr 1; funext i; exact Int.add_assoc _ _ _
theorem qa_left {p : Int} (x y z : Pl p) : qa x (qa y z) = qa y (qa x z) := by rw [<- qa_assoc, qa_comm x y, qa_assoc]
theorem qa_cancel {p : Int} {x y z : Pl p} (h : qa x z = qa y z) : x = y := by
 obtain ⟨f, rfl⟩ := pu_all x
 obtain ⟨g, rfl⟩ := pu_all y
 obtain ⟨k, rfl⟩ := pu_all z
 rw [qa_pu, qa_pu] at h
 refine pu_eq ?_
 have := Al.sub (pu_al h) (Al.refl p k)
 intro i
 have e := this i
 simp only [Int.add_sub_cancel] at e
 exact e
theorem qm_comm {p : Int} (x y : Pl p) : qm x y = qm y x := by
 obtain ⟨f, rfl⟩ := pu_all x
 obtain ⟨g, rfl⟩ := pu_all y
 rw [qm_pu, qm_pu]; congr 1; funext i; exact cv_comm i f g
theorem qm_assoc {p : Int} (x y z : Pl p) : qm (qm x y) z = qm x (qm y z) := by
 obtain ⟨f, rfl⟩ := pu_all x
 obtain ⟨g, rfl⟩ := pu_all y
 obtain ⟨h, rfl⟩ := pu_all z
 rw [qm_pu, qm_pu, qm_pu, qm_pu]; congr 1; funext i; exact cv_assoc h i f g
theorem qm_left {p : Int} (x y z : Pl p) : qm x (qm y z) = qm y (qm x z) := by rw [<- qm_assoc, qm_comm x y, qm_assoc]
theorem qm_qa {p : Int} (x y z : Pl p) : qm x (qa y z) = qa (qm x y) (qm x z) := by
 obtain ⟨f, rfl⟩ := pu_all x
 obtain ⟨g, rfl⟩ := pu_all y
 obtain ⟨h, rfl⟩ := pu_all z
 rw [qa_pu, qm_pu, qm_pu, qm_pu, qa_pu]; congr 1; funext i; exact cv_add_right g h i f
theorem qa_qm {p : Int} (x y z : Pl p) : qm (qa x y) z = qa (qm x z) (qm y z) := by rw [qm_comm, qm_qa, qm_comm z x, qm_comm z y]
def pl (p : Int) (xs : List Int) : Pl p := pu p (co xs)
theorem pl_nil_left {p : Int} (x : Pl p) : qm (pl p []) x = pl p [] := by
 obtain ⟨f, rfl⟩ := pu_all x
 show qm (pu p (co [])) (pu p f) = _
 rw [qm_pu]; exact pu_eq (fun i => by rw [cv_zero_left f i (co []) (fun j _ => rfl)]; rfl)
theorem pl_nil_right {p : Int} (x : Pl p) : qm x (pl p []) = pl p [] := by rw [qm_comm]; exact pl_nil_left x
theorem pl_nil_add {p : Int} (x : Pl p) : qa (pl p []) x = x := by
 obtain ⟨f, rfl⟩ := pu_all x
 show qa (pu p (co [])) (pu p f) = _
 rw [qa_pu]; congr 1; funext i; exact Int.zero_add _
theorem pl_add_nil {p : Int} (x : Pl p) : qa x (pl p []) = x := by rw [qa_comm]; exact pl_nil_add x
theorem pl_one_mul {p : Int} (x : Pl p) : qm (pl p [1]) x = x := by
 obtain ⟨f, rfl⟩ := pu_all x
 show qm (pu p (co [1])) (pu p f) = _
 rw [qm_pu]; congr 1; funext i; rw [cv_single]; exact Int.one_mul _
theorem pl_mul_one {p : Int} (x : Pl p) : qm x (pl p [1]) = x := by rw [qm_comm]; exact pl_one_mul x
theorem pl_add (p : Int) (xs ys : List Int) : pl p (sm p 1 xs ys) = qa (pl p xs) (pl p ys) := pu_eq ((al_sm p 1 xs ys).trans (fun i => by show (co xs i + 1 * co ys i) % p = (co xs i + co ys i) % p; rw [Int.one_mul]))
theorem pl_mul (p : Int) (xs ys : List Int) : pl p (prd p xs ys) = qm (pl p xs) (pl p ys) := pu_eq (al_prd p xs ys)
theorem pl_tr (p : Int) (xs : List Int) : pl p (tr xs) = pl p xs := by unfold pl; congr 1; funext i; exact co_tr xs i
theorem pl_two (p c d : Int) : pl p [(c * d) % p] = qm (pl p [c]) (pl p [d]) := pu_eq (fun i => by
 rw [cv_single]
 cases i with
 | zero => show ((c * d) % p) % p = (c * d) % p; exact Int.emod_emod_of_dvd _ (Int.dvd_refl p)
 | succ i => show (0 : Int) % p = (c * 0) % p; rw [Int.mul_zero])
def Tm (p : Int) (xs : List Int) : Prop := Els p xs ∧ tr xs = xs
theorem Tm.only {p : Int} (hp : 0 < p) {xs ys : List Int} (hx : Tm p xs) (hy : Tm p ys) (h : pl p xs = pl p ys) : xs = ys := by
 have := Al.eq hp hx.1 hy.1 (pu_al h)
 rw [hx.2, hy.2] at this; exact this
theorem Tm.nil (p : Int) : Tm p [] := ⟨(fun x hx => by cases hx), rfl⟩
theorem Tm.tr {p : Int} (hp : 0 < p) {xs : List Int} (h : Els p xs) : Tm p (tr xs) := ⟨h.tr hp, tr_tr xs⟩
theorem Tm.single {p c : Int} (h : El p c) (hc : c ≠ 0) : Tm p [c] := ⟨fun x hx => by rw [List.mem_singleton.1 hx]; exact h, tr_full (.inr hc)⟩
theorem Is.tm {p : Int} {zs : List Int} {F : Nat -> Int} (h : Is p zs F) : Tm p zs ∧ pl p zs = pu p F := ⟨⟨h.1, h.2.1⟩, pu_eq h.2.2⟩
theorem Dv.rg {p : Int} {xs ys a b : List Int} (h : Dv p xs ys a b) : Tm p a ∧ Tm p b ∧ b.length < (tr ys).length ∧ qa (qm (pl p a) (pl p ys)) (pl p b) = pl p xs := ⟨⟨h.1, h.2.2.1⟩, ⟨h.2.1, h.2.2.2.1⟩, h.2.2.2.2.1, pu_eq h.2.2.2.2.2⟩
theorem Dv.of {p : Int} {xs ys a b : List Int} (h1 : Tm p a) (h2 : Tm p b) (h3 : b.length < (tr ys).length) (h4 : qa (qm (pl p a) (pl p ys)) (pl p b) = pl p xs) : Dv p xs ys a b := ⟨h1.1, h2.1, h1.2, h2.2, h3, pu_al h4⟩
def nz (p : Int) (xs : List Int) : List Int := tr (mk xs.length (fun i => co xs i % p))
theorem nz_tm {p : Int} (hp : 0 < p) (xs : List Int) : Tm p (nz p xs) ∧ pl p (nz p xs) = pl p xs := (is_mk (F := co xs) hp (N := xs.length) (fun i hi => by rw [co_out _ _ hi]; exact Int.zero_emod p)).tm
theorem prod_len {p : Int} {wd : Bool} (hm : Md p wd) {xs ks hs : List Int} (hx : Tm p xs) (hk : Tm p ks) (hh : Tm p hs) (h : pl p xs = qm (pl p ks) (pl p hs)) (hne : xs ≠ []) : ks ≠ [] ∧ hs ≠ [] ∧ xs.length + 1 = ks.length + hs.length := by
 have hp : 0 < p := by have := hm.bounds; omega
 have h1 := (is_prd hm hk.1 hh.1 hk.2 hh.2).tm
 have h2 : xs = prd p ks hs := hx.only hp h1.1 (h.trans h1.2.symm)
 have k1 : ks ≠ [] := fun e => hne (by rw [h2]; unfold prd; rw [if_pos (.inl e)])
 have k2 : hs ≠ [] := fun e => hne (by rw [h2]; unfold prd; rw [if_pos (.inr e)])
 refine ⟨k1, k2, ?_⟩
 have := prd_len p ks hs k1 k2
 have a1 := List.length_pos_iff.2 k1
 rw [<- h2] at this; omega
theorem rest_len {p : Int} (hp : 0 < p) {zs qs ys xs : List Int} (hz : Tm p zs) (h : qa (pl p zs) (qm (pl p qs) (pl p ys)) = pl p xs) {N : Nat} (h1 : xs.length <= N) (h2 : qs = [] ∨ ys = [] ∨ qs.length + ys.length <= N + 1) : zs.length <= N := by
 apply Nat.le_of_not_lt
 intro hN
 have hne : zs ≠ [] := fun e => by rw [e] at hN; simp at hN
 have hl := last_ne hz.2 hne
 have e : (co zs (zs.length - 1) + cv (co qs) (co ys) (zs.length - 1)) % p = co xs (zs.length - 1) % p := pu_al h (zs.length - 1)
 have hc : cv (co qs) (co ys) (zs.length - 1) = 0 := by
  rcases h2 with rfl | rfl | h2
  · exact cv_zero_left _ _ _ (fun j _ => rfl)
  · rw [cv_comm]; exact cv_zero_left _ _ _ (fun j _ => rfl)
  · exact cv_end _ (fun j hj => co_out qs j hj) (fun j hj => co_out ys j hj) (by omega)
 rw [hc, co_out xs _ (by omega), Int.add_zero, Int.zero_emod, (hz.1.co hp _).mod] at e
 exact hl e
def Dd (p : Int) (hs xs : List Int) : Prop := ∃ ks : List Int, pl p xs = qm (pl p ks) (pl p hs)
theorem Dd.sum {p : Int} {h a b u v x : List Int} (ha : Dd p h a) (hb : Dd p h b) (hx : pl p x = qa (qm (pl p u) (pl p a)) (qm (pl p v) (pl p b))) : Dd p h x := by
 obtain ⟨k, hk⟩ := ha
 obtain ⟨l, hl⟩ := hb
 exact ⟨sm p 1 (prd p u k) (prd p v l), by rw [pl_add, pl_mul, pl_mul, hx, hk, hl, qa_qm, qm_assoc, qm_assoc]⟩
theorem Dd.same {p : Int} {h a b : List Int} (ha : Dd p h a) (e : pl p a = pl p b) : Dd p h b := by
 obtain ⟨k, hk⟩ := ha
 exact ⟨k, by rw [<- e]; exact hk⟩
theorem Dd.dv {p : Int} {x y q r h : List Int} (hd : Dv p x y q r) (hy : Dd p h y) (hr : Dd p h r) : Dd p h x :=
 Dd.sum hy hr (u := q) (v := [1]) (by rw [pl_one_mul]; exact hd.rg.2.2.2.symm)
def neg1 (p : Int) : List Int := [p - 1]
theorem neg_cancel {p : Int} (x : Pl p) : qa x (qm (pl p (neg1 p)) x) = pl p [] := by
 obtain ⟨f, rfl⟩ := pu_all x
 show qa (pu p f) (qm (pu p (co [p - 1])) (pu p f)) = pu p (co [])
 rw [qm_pu, qa_pu]
 refine pu_eq fun i => ?_
 show (f i + cv (co [p - 1]) f i) % p = (0 : Int) % p
 have e : f i + (p - 1) * f i = p * f i := by rw [Int.sub_mul]; omega
 rw [cv_single, e, Int.mul_emod_right, Int.zero_emod]
theorem Dd.dv' {p : Int} {x y q r h : List Int} (hd : Dv p x y q r) (hx : Dd p h x) (hy : Dd p h y) : Dd p h r :=
 Dd.sum hx hy (u := [1]) (v := prd p (neg1 p) q) (by
  rw [pl_one_mul, pl_mul, qm_assoc, <- hd.rg.2.2.2, qa_comm (qm (pl p q) (pl p y)), qa_assoc, neg_cancel, pl_add_nil])
theorem Dd.len {p : Int} {wd : Bool} (hm : Md p wd) {h x : List Int} (hh : Tm p h) (hx : Tm p x) (hd : Dd p h x) (hne : x ≠ []) : h ≠ [] ∧ h.length <= x.length := by
 have hp : 0 < p := by have := hm.bounds; omega
 obtain ⟨k, hk⟩ := hd
 have hn := nz_tm hp k
 have := prod_len hm hx hn.1 hh (by rw [hn.2]; exact hk) hne
 have k1 := List.length_pos_iff.2 this.1
 exact ⟨this.2.1, by omega⟩
def Cm (p : Int) (a b x y : List Int) : Prop := ∀ h, (Dd p h x ∧ Dd p h y) ↔ (Dd p h a ∧ Dd p h b)
theorem Cm.start (p : Int) (a b : List Int) : Cm p a b (tr a) (tr b) := fun h => ⟨fun ⟨h1, h2⟩ => ⟨h1.same (pl_tr p a), h2.same (pl_tr p b)⟩, fun ⟨h1, h2⟩ => ⟨h1.same (pl_tr p a).symm, h2.same (pl_tr p b).symm⟩⟩
theorem Cm.next {p : Int} {a b x y q r : List Int} (h : Cm p a b x y) (hd : Dv p x y q r) : Cm p a b y r := fun k => ⟨fun ⟨h1, h2⟩ => (h k).1 ⟨Dd.dv hd h1 h2, h1⟩, fun hk => by
 obtain ⟨h1, h2⟩ := (h k).2 hk
 exact ⟨h2, Dd.dv' hd h1 h2⟩⟩
end Go.Proofs.YtjhididlcdepdaaGreat.Fld
namespace Go.Proofs.YtjhididlcdepdaaGreat.Fld
structure R3 where
 x : List Int
 u : List Int
 v : List Int
def R3.nil : R3 := ⟨[], [], []⟩
theorem R3.ext' {X Y : R3} (h1 : X.x = Y.x) (h2 : X.u = Y.u) (h3 : X.v = Y.v) : X = Y := by
 cases X; cases Y; cases h1; cases h2; cases h3; rfl
def Nx (p : Int) (X Y Z : R3) : Prop := ∃ q, Dv p X.x Y.x q Z.x ∧ Tm p Z.u ∧ Tm p Z.v ∧ qa (pl p Z.u) (qm (pl p q) (pl p Y.u)) = pl p X.u ∧ qa (pl p Z.v) (qm (pl p q) (pl p Y.v)) = pl p X.v
theorem Nx.only {p : Int} {wd : Bool} (hm : Md p wd) {X Y Z W : R3} (hy : Els p Y.x) (h : Nx p X Y Z) (k : Nx p X Y W) : Z = W := by
 have hp : 0 < p := by have := hm.bounds; omega
 obtain ⟨q, hd, tu, tv, eu, ev⟩ := h
 obtain ⟨r, kd, su, sv, fu, fv⟩ := k
 obtain ⟨rfl, e⟩ := hd.only hm hy kd
 exact R3.ext' e (tu.only hp su (qa_cancel (eu.trans fu.symm))) (tv.only hp sv (qa_cancel (ev.trans fv.symm)))
structure In2 (p : Int) (a b : List Int) (X Y : R3) : Prop where
 tx : Tm p X.x
 tu : Tm p X.u
 tv : Tm p X.v
 sx : Tm p Y.x
 su : Tm p Y.u
 sv : Tm p Y.v
 bx : pl p X.x = qa (qm (pl p X.u) (pl p a)) (qm (pl p X.v) (pl p b))
 by' : pl p Y.x = qa (qm (pl p Y.u) (pl p a)) (qm (pl p Y.v) (pl p b))
 det : qm (pl p X.u) (pl p Y.v) ≠ qm (pl p Y.u) (pl p X.v)
 lu : X.u = [] ∨ X.u.length + Y.x.length <= (tr b).length + 1
 mu : Y.u = [] ∨ Y.u.length + X.x.length <= (tr b).length + 1
 lv : X.v = [] ∨ X.v.length + Y.x.length <= (tr a).length + 1
 mv : Y.v = [] ∨ Y.v.length + X.x.length <= (tr a).length + 1
 nx : X.x.length <= max (tr a).length (tr b).length
 ny : Y.x.length <= max (tr a).length (tr b).length
 com : Cm p a b X.x Y.x
def rwA (a : List Int) : R3 := ⟨tr a, [1], []⟩
def rwB (b : List Int) : R3 := ⟨tr b, [], [1]⟩
theorem one_tm {p : Int} {wd : Bool} (hm : Md p wd) : Tm p [1] := Tm.single ⟨by decide, by have := hm.bounds; omega⟩ (by decide)
theorem one_ne {p : Int} {wd : Bool} (hm : Md p wd) : pl p [1] ≠ pl p [] := fun e => by
 have hp : 0 < p := by have := hm.bounds; omega
 have := (one_tm hm).only hp (Tm.nil p) e
 simp at this
theorem In2.start {p : Int} {wd : Bool} (hm : Md p wd) {a b : List Int} (ha : Els p a) (hb : Els p b) : In2 p a b (rwA a) (rwB b) := by
 have hp : 0 < p := by have := hm.bounds; omega
 refine ⟨Tm.tr hp ha, one_tm hm, Tm.nil p, Tm.tr hp hb, Tm.nil p, one_tm hm, ?_, ?_, ?_, .inr ?_, .inl rfl, .inl rfl, .inr ?_, ?_, ?_, Cm.start p a b⟩
 · show pl p (tr a) = qa (qm (pl p [1]) (pl p a)) (qm (pl p []) (pl p b))
   rw [pl_tr, pl_one_mul, pl_nil_left, pl_add_nil]
 · show pl p (tr b) = qa (qm (pl p []) (pl p a)) (qm (pl p [1]) (pl p b))
   rw [pl_tr, pl_one_mul, pl_nil_left, pl_nil_add]
 · show qm (pl p [1]) (pl p [1]) ≠ qm (pl p []) (pl p [])
   rw [pl_one_mul, pl_nil_left]; exact one_ne hm
 · show [1].length + (tr b).length <= _
   rw [List.length_singleton]; omega
 · show [1].length + (tr a).length <= _
   rw [List.length_singleton]; omega
 · show (tr a).length <= _; omega
 · show (tr b).length <= _; omega
theorem new_len {p : Int} {wd : Bool} (hm : Md p wd) {x y q z u w n : List Int} {K : Nat} (hd : Dv p x y q z) (hy : Tm p y) (hn : Tm p n) (hn2 : qa (pl p n) (qm (pl p q) (pl p w)) = pl p u) (l : u = [] ∨ u.length + y.length <= K) (m : w = [] ∨ w.length + x.length <= K) :
 n = [] ∨ n.length + y.length <= K := by
 have hp : 0 < p := by have := hm.bounds; omega
 by_cases hw : q = [] ∨ w = []
 · have h1 := rest_len hp hn hn2 (N := u.length) (Nat.le_refl _) (by rcases hw with h | h; exact .inl h; exact .inr (.inl h))
   rcases l with l | l
   · left; rw [l] at h1; exact List.length_eq_zero_iff.1 (by simpa using h1)
   · right; omega
 · have hq : q ≠ [] := fun e => hw (.inl e)
   have hw' : w ≠ [] := fun e => hw (.inr e)
   have hql := hd.len hm hy.1 hq
   rw [hy.2] at hql
   have q1 := List.length_pos_iff.2 hq
   have w1 := List.length_pos_iff.2 hw'
   have m' : w.length + x.length <= K := by rcases m with m | m; exact absurd m hw'; exact m
   have y1 : 0 < y.length := by have := hd.2.2.2.2.1; rw [hy.2] at this; omega
   have h1 := rest_len hp hn hn2 (N := K - y.length) (by rcases l with l | l; (rw [l]; exact Nat.zero_le _); omega) (.inr (.inr (by omega)))
   right; omega
theorem rem_len {p : Int} {wd : Bool} (hm : Md p wd) {x y q z : List Int} (hd : Dv p x y q z) (hy : Tm p y) : z.length <= x.length := by
 have hp : 0 < p := by have := hm.bounds; omega
 by_cases hq : q = []
 · exact rest_len hp hd.rg.2.1 (by rw [qa_comm]; exact hd.rg.2.2.2) (Nat.le_refl _) (.inl hq)
 · have hql := hd.len hm hy.1 hq
   have q1 := List.length_pos_iff.2 hq
   have := hd.2.2.2.2.1
   omega
theorem In2.next {p : Int} {wd : Bool} (hm : Md p wd) {a b : List Int} {X Y Z : R3} (h : In2 p a b X Y) (k : Nx p X Y Z) : In2 p a b Y Z := by
 have hp : 0 < p := by have := hm.bounds; omega
 obtain ⟨q, hd, ku, kv, eu, ev⟩ := k
 have hrl := rem_len hm hd h.sx
 have hzl : Z.x.length < Y.x.length := by have := hd.2.2.2.2.1; rw [h.sx.2] at this; exact this
 refine ⟨h.sx, h.su, h.sv, hd.rg.2.1, ku, kv, h.by', ?_, ?_, ?_, new_len hm hd h.sx ku eu h.lu h.mu, ?_, new_len hm hd h.sx kv ev h.lv h.mv, h.ny, Nat.le_trans hrl h.nx, h.com.next hd⟩
 · refine qa_cancel (z := qm (pl p q) (pl p Y.x)) ?_
   rw [qa_comm, hd.rg.2.2.2, h.bx, h.by', <- eu, <- ev, qa_qm, qa_qm, qm_qa, qm_assoc, qm_assoc, qa_assoc, qa_assoc]
   congr 1
   rw [qa_left]
 · intro e
   apply h.det
   rw [<- eu, <- ev, qa_qm, qm_qa, <- e, qm_assoc, qm_left]
 · rcases h.mu with m | m
   · exact .inl m
   · right; omega
 · rcases h.mv with m | m
   · exact .inl m
   · right; omega
def Ds (p : Int) (stop : Nat) : Nat -> R3 -> R3 -> R3 -> R3 -> Prop
 | 0, _, _, _, _ => False
 | n + 1, X, Y, A, B => (X.x.length <= stop ∧ A = R3.nil ∧ B = X) ∨ (stop < X.x.length ∧ Y.x.length <= stop ∧ A = X ∧ B = Y) ∨ (stop < X.x.length ∧ stop < Y.x.length ∧ ∃ Z, Nx p X Y Z ∧ Ds p stop n Y Z A B)
theorem Ds.found {p : Int} {wd : Bool} (hm : Md p wd) {stop : Nat} {a b : List Int} : ∀ (n : Nat) {X Y A B : R3}, In2 p a b X Y -> Ds p stop n X Y A B -> stop < X.x.length -> In2 p a b A B ∧ stop < A.x.length ∧ B.x.length <= stop := by
 intro n
 induction n with
 | zero => intro X Y A B _ h; exact absurd h id
 | succ n ih =>
  intro X Y A B hi h hs
  rcases h with ⟨h1, rfl, rfl⟩ | ⟨h1, h2, rfl, rfl⟩ | ⟨h1, h2, Z, hz, h3⟩
  · omega
  · exact ⟨hi, h1, h2⟩
  · exact ih (hi.next hm hz) h3 h2
def Fnd (p : Int) (stop : Nat) (a b : List Int) (A B : R3) : Prop := ∃ n, Ds p stop n (rwA a) (rwB b) A B
theorem Fnd.case {p : Int} {wd : Bool} (hm : Md p wd) {stop : Nat} {a b : List Int} {A B : R3} (ha : Els p a) (hb : Els p b) (h : Fnd p stop a b A B) :
 ((tr a).length <= stop ∧ A = R3.nil ∧ B = rwA a) ∨ (In2 p a b A B ∧ stop < (tr a).length ∧ stop < A.x.length ∧ B.x.length <= stop) := by
 obtain ⟨n, h⟩ := h
 by_cases hs : stop < (tr a).length
 · have := Ds.found hm n (In2.start hm ha hb) h hs
   exact .inr ⟨this.1, hs, this.2.1, this.2.2⟩
 · cases n with
   | zero => exact absurd h id
   | succ n =>
    rcases h with ⟨h1, rfl, rfl⟩ | ⟨h1, _⟩ | ⟨h1, _⟩
    · exact .inl ⟨h1, rfl, rfl⟩
    · exact absurd h1 hs
    · exact absurd h1 hs
theorem Fnd.made {p : Int} {wd : Bool} (hm : Md p wd) {stop : Nat} {a b : List Int} {A B : R3} (ha : Els p a) (hb : Els p b) (h : Fnd p stop a b A B) :
 pl p B.x = qa (qm (pl p B.u) (pl p a)) (qm (pl p B.v) (pl p b)) ∧ B.x.length <= stop ∧ (B.u ≠ [] ∨ B.v ≠ []) ∧ B.x.length <= max (tr a).length (tr b).length ∧ B.u.length <= (tr b).length + 1 ∧ B.v.length <= (tr a).length + 1 := by
 rcases h.case hm ha hb with ⟨h1, rfl, rfl⟩ | ⟨hi, _, h1, h2⟩
 · have := (In2.start hm ha hb).bx
   refine ⟨this, h1, .inl (by show [1] ≠ []; simp), ?_, ?_, ?_⟩
   · show (tr a).length <= _; omega
   · show [1].length <= _; rw [List.length_singleton]; omega
   · show [].length <= _; rw [List.length_nil]; omega
 · refine ⟨hi.by', h2, ?_, hi.ny, ?_, ?_⟩
   · by_cases e : B.u = []
     · right; intro e2
       apply hi.det
       rw [e, e2, pl_nil_right, pl_nil_left]
     · exact .inl e
   · rcases hi.mu with m | m
     · rw [m]; exact Nat.zero_le _
     · omega
   · rcases hi.mv with m | m
     · rw [m]; exact Nat.zero_le _
     · omega
theorem Fnd.vlen {p : Int} {wd : Bool} (hm : Md p wd) {stop : Nat} {a b : List Int} {A B : R3} (ha : Els p a) (hb : Els p b) (h : Fnd p stop a b A B) (hne : tr a ≠ []) : B.v.length + stop <= (tr a).length ∨ B.v = [] := by
 rcases h.case hm ha hb with ⟨h1, rfl, rfl⟩ | ⟨hi, hs, h1, h2⟩
 · exact .inr rfl
 · rcases hi.mv with m | m
   · exact .inr m
   · left; omega
end Go.Proofs.YtjhididlcdepdaaGreat.Fld
namespace Go.Proofs.YtjhididlcdepdaaGreat.Fld
def fac (p x : Int) : List Int := [sub p 0 x, 1]
theorem fac_tm {p x : Int} {wd : Bool} (hm : Md p wd) : Tm p (fac p x) := by
 have hb := hm.bounds
 refine ⟨fun y hy => ?_, tr_full (.inr (show (1 : Int) ≠ 0 by decide))⟩
 have : y = sub p 0 x ∨ y = 1 := by simpa [fac] using hy
 rcases this with rfl | rfl
 · exact emod_el (by omega) _
 · exact ⟨by decide, by omega⟩
def zr (p : Int) : List Int -> Pl p
 | [] => pl p [1]
 | x :: xs => qm (pl p (fac p x)) (zr p xs)
theorem zr_append (p : Int) (xs ys : List Int) : zr p (xs ++ ys) = qm (zr p xs) (zr p ys) := by
 induction xs with
 | nil => show zr p ys = qm (pl p [1]) (zr p ys); rw [pl_one_mul]
 | cons x xs ih => show qm (pl p (fac p x)) (zr p (xs ++ ys)) = qm (qm (pl p (fac p x)) (zr p xs)) (zr p ys); rw [ih, qm_assoc]
def zl (p : Int) : List Int -> List Int
 | [] => [1]
 | x :: xs => prd p (fac p x) (zl p xs)
theorem zl_facts {p : Int} {wd : Bool} (hm : Md p wd) (xs : List Int) : Tm p (zl p xs) ∧ pl p (zl p xs) = zr p xs ∧ (zl p xs).length = xs.length + 1 := by
 induction xs with
 | nil =>
  have hb := hm.bounds
  exact ⟨Tm.single ⟨by decide, by omega⟩ (by decide), rfl, rfl⟩
 | cons x xs ih =>
  have hf := fac_tm (x := x) hm
  have hi := (is_prd hm hf.1 ih.1.1 hf.2 ih.1.2).tm
  refine ⟨hi.1, ?_, ?_⟩
  · show pl p (prd p (fac p x) (zl p xs)) = qm (pl p (fac p x)) (zr p xs)
    rw [pl_mul, ih.2.1]
  · show (prd p (fac p x) (zl p xs)).length = _
    rw [prd_len p _ _ (by simp [fac]) (fun e => by rw [e] at ih; simp at ih), ih.2.2]
    simp [fac]; omega
theorem zl_only {p : Int} {wd : Bool} (hm : Md p wd) {xs zs : List Int} (hz : Tm p zs) (h : pl p zs = zr p xs) : zs = zl p xs := by
 have hp : 0 < p := by have := hm.bounds; omega
 exact hz.only hp (zl_facts hm xs).1 (h.trans (zl_facts hm xs).2.1.symm)
theorem zl_top {p : Int} {wd : Bool} (hm : Md p wd) (xs : List Int) : co (zl p xs) xs.length = 1 := by
 have hp : 0 < p := by have := hm.bounds; omega
 have hb := hm.bounds
 have e1 : (1 : Int) % p = 1 := Int.emod_eq_of_lt (by omega) (by omega)
 induction xs with
 | nil => rfl
 | cons x xs ih =>
  have h1 := zl_facts hm xs
  have h2 := zl_facts hm (x :: xs)
  have e : co (zl p (x :: xs)) (1 + xs.length) % p = cv (co (fac p x)) (co (zl p xs)) (1 + xs.length) % p := pu_al (show pl p (zl p (x :: xs)) = qm (pl p (fac p x)) (pl p (zl p xs)) by rw [h2.2.1, h1.2.1]; rfl) (1 + xs.length)
  rw [cv_top (n := xs.length) 1 (fun i hi => co_out _ _ (by simp [fac]; omega)) (fun i hi => co_out _ _ (by rw [h1.2.2]; omega)), ih] at e
  have e2 : co (fac p x) 1 = 1 := rfl
  rw [e2, Int.mul_one, e1, (h2.1.1.co hp _).mod] at e
  show co (zl p (x :: xs)) (xs.length + 1) = 1
  rw [Nat.add_comm]; exact e
theorem vl_pl {p t : Int} {xs ys : List Int} (h : pl p xs = pl p ys) : vl p t xs = vl p t ys := vl_is (N := ys.length) (pu_al h) (fun i hi => co_out _ _ hi)
theorem vl_mul {p t : Int} {xs ys zs : List Int} (h : pl p zs = qm (pl p xs) (pl p ys)) : vl p t zs = (vl p t xs * vl p t ys) % p := by
 have h1 : vl p t zs = ev t (xs.length + ys.length) (cv (co xs) (co ys)) % p := vl_is (pu_al (show pu p (co zs) = pu p (cv (co xs) (co ys)) from h)) (fun i hi => cv_end i (fun j hj => co_out xs j hj) (fun j hj => co_out ys j hj) (by omega))
 rw [h1, ev_mul t (co ys) ys.length (fun i hi => co_out _ _ hi) xs.length (co xs) (fun i hi => co_out _ _ hi), Int.mul_emod]; rfl
theorem vl_add {p t : Int} {xs ys zs : List Int} (h : pl p zs = qa (pl p xs) (pl p ys)) : vl p t zs = (vl p t xs + vl p t ys) % p := by
 have h1 : vl p t zs = ev t (xs.length + ys.length) (fun i => co xs i + co ys i) % p := vl_is (pu_al (show pu p (co zs) = pu p (fun i => co xs i + co ys i) from h)) (fun i hi => by show co xs i + co ys i = 0; rw [co_out xs i (by omega), co_out ys i (by omega)]; rfl)
 rw [h1, ev_add t _ (co xs) (co ys), ev_more t xs.length ys.length (co xs) (fun i hi => co_out _ _ hi), Nat.add_comm, ev_more t ys.length xs.length (co ys) (fun i hi => co_out _ _ hi), Int.add_emod]; rfl
theorem vl_fac {p t x : Int} : vl p t (fac p x) = (t - x) % p := by
 show (sub p 0 x + t * (1 + t * 0)) % p = _
 unfold sub
 rw [Int.mul_zero, Int.add_zero, Int.mul_one, Int.add_emod, Int.emod_emod_of_dvd _ (Int.dvd_refl p), <- Int.add_emod]
 congr 1; omega
theorem zl_root {p t : Int} {wd : Bool} (hm : Md p wd) (ht : El p t) {xs : List Int} (hx : Els p xs) : vl p t (zl p xs) = 0 ↔ t ∈ xs := by
 have hb := hm.bounds
 induction xs with
 | nil =>
  constructor
  · intro h
    have e : vl p t [1] = 1 := by
     show (1 + t * 0) % p = 1
     rw [Int.mul_zero]; exact Int.emod_eq_of_lt (by decide) (by omega)
    exact absurd ((show vl p t [1] = 0 from h).symm.trans e) (by decide)
  · intro h; cases h
 | cons x xs ih =>
  have hxe := hx x List.mem_cons_self
  have ih := ih (fun y hy => hx y (List.mem_cons_of_mem _ hy))
  have e : vl p t (zl p (x :: xs)) = ((t - x) % p * vl p t (zl p xs)) % p := by
   have := vl_mul (p := p) (t := t) (zs := zl p (x :: xs)) (xs := fac p x) (ys := zl p xs) (by show pl p (prd p (fac p x) (zl p xs)) = _; rw [pl_mul])
   rw [this, vl_fac]
  have ev0 : vl p t (zl p xs) % p = vl p t (zl p xs) := (vl_el (by omega) t (zl p xs)).mod
  constructor
  · intro h
    rw [h] at e
    by_cases h0 : vl p t (zl p xs) = 0
    · exact List.mem_cons_of_mem _ (ih.1 h0)
    · have := no_div hm _ _ (by rw [ev0]; exact h0) e.symm
      rw [Int.emod_emod_of_dvd _ (Int.dvd_refl p)] at this
      have : t = x := by
       have h1 := ht.1; have h2 := ht.2; have h3 := hxe.1; have h4 := hxe.2
       have h5 := Int.emod_emod_of_dvd (t - x) (Int.dvd_refl p)
       by_cases hge : 0 <= t - x
       · rw [Int.emod_eq_of_lt hge (by omega)] at this; omega
       · have h6 : (t - x + p) % p = 0 := by rw [Int.add_emod_right]; exact this
         rw [Int.emod_eq_of_lt (by omega) (by omega)] at h6; omega
      rw [this]; exact List.mem_cons_self
  · intro h
    rw [e]
    rcases List.mem_cons.1 h with rfl | h
    · rw [Int.sub_self, Int.zero_emod, Int.zero_mul]; exact Int.zero_emod p
    · rw [ih.2 h, Int.mul_zero]; exact Int.zero_emod p
theorem rem_vl {p t : Int} {P M Q R : List Int} (h : Dv p P M Q R) (h0 : vl p t M = 0) : vl p t P = vl p t R := by
 have e := h.rg.2.2.2
 have h1 := vl_add (p := p) (t := t) (zs := P) (xs := prd p Q M) (ys := R) (by rw [pl_mul, e])
 have h2 := vl_mul (p := p) (t := t) (zs := prd p Q M) (xs := Q) (ys := M) (pl_mul p Q M)
 rw [h1, h2, h0, Int.mul_zero, Int.zero_emod, Int.zero_add]
 unfold vl
 exact Int.emod_emod_of_dvd _ (Int.dvd_refl p)
theorem rem_fac {p x : Int} {wd : Bool} (hm : Md p wd) (hx : El p x) {P Q R : List Int} (h : Dv p P (fac p x) Q R) : R = tr [vl p x P] := by
 have hp : 0 < p := by have := hm.bounds; omega
 have hl := h.rg.2.2.1
 rw [(fac_tm hm).2] at hl
 have hl : R.length < 2 := hl
 have hv := rem_vl (t := x) h (by rw [vl_fac, Int.sub_self]; exact Int.zero_emod p)
 have ht := h.rg.2.1
 match R, hl, ht, hv with
 | [], _, _, hv => rw [hv]; rfl
 | [r], _, ht, hv =>
  have hr := ht.1 r (List.mem_singleton.2 rfl)
  have e : vl p x [r] = r := by
   show (r + x * 0) % p = r
   rw [Int.mul_zero, Int.add_zero]; exact hr.mod
  rw [hv, e]; exact ht.2.symm
 | _ :: _ :: _, hl, _, _ => simp at hl; omega
def ck (xs : List Int) (s i : Nat) : List Int := (xs.drop (i * s)).take s
theorem ck_two (xs : List Int) (s i : Nat) : ck xs (2 * s) i = ck xs s (2 * i) ++ ck xs s (2 * i + 1) := by
 unfold ck
 have e1 : 2 * i * s = i * (2 * s) := by rw [Nat.mul_comm 2 i, Nat.mul_assoc]
 have e2 : (2 * i + 1) * s = i * (2 * s) + s := by rw [Nat.add_mul, e1, Nat.one_mul]
 rw [e1, e2, Nat.two_mul, List.take_add, List.drop_drop]
theorem ck_out (xs : List Int) (s i : Nat) (h : xs.length <= i * s) : ck xs s i = [] := by
 unfold ck; rw [List.drop_eq_nil_of_le h]; simp
theorem ck_one (xs : List Int) (i : Nat) (h : i < xs.length) : ck xs 1 i = [xs.getD i 0] := by
 unfold ck
 rw [Nat.mul_one]
 have : xs.drop i = xs[i] :: xs.drop (i + 1) := List.drop_eq_getElem_cons h
 rw [this, List.getD_eq_getElem?_getD, List.getElem?_eq_getElem h]; rfl
theorem ck_all (xs : List Int) (s : Nat) (h : xs.length <= s) : ck xs s 0 = xs := by
 unfold ck; rw [Nat.zero_mul, List.drop_zero, List.take_of_length_le h]
def cn (n s : Nat) : Nat := (n + (s - 1)) / s
theorem cn_lt {n s i : Nat} (hs : 0 < s) : i < cn n s ↔ i * s < n := by
 unfold cn
 rw [Nat.lt_iff_add_one_le, Nat.le_div_iff_mul_le hs, Nat.add_mul, Nat.one_mul]; omega
theorem zl_two {p : Int} {wd : Bool} (hm : Md p wd) (xs : List Int) (s i : Nat) : prd p (zl p (ck xs s (2 * i))) (zl p (ck xs s (2 * i + 1))) = zl p (ck xs (2 * s) i) := by
 have h1 := zl_facts hm (ck xs s (2 * i))
 have h2 := zl_facts hm (ck xs s (2 * i + 1))
 have hi := (is_prd hm h1.1.1 h2.1.1 h1.1.2 h2.1.2).tm
 exact zl_only hm hi.1 (by rw [pl_mul, h1.2.1, h2.2.1, ck_two, zr_append])
theorem zl_left {p : Int} (xs : List Int) (s i : Nat) (h : xs.length <= (2 * i + 1) * s) : zl p (ck xs (2 * s) i) = zl p (ck xs s (2 * i)) := by
 rw [ck_two, ck_out xs s (2 * i + 1) h, List.append_nil]
def sf (F : Nat -> Int) : Nat -> Int := fun i => ((i : Int) + 1) * F (i + 1)
theorem sf_cv (g : Nat -> Int) (k : Nat) : ∀ f : Nat -> Int, sf (cv f g) k = cv (sf f) g k + cv f (sf g) k := by
 induction k with
 | zero =>
  intro f
  show ((0 : Nat) + 1 : Int) * (f 0 * g 1 + f 1 * g 0) = (((0 : Nat) + 1 : Int) * f 1) * g 0 + f 0 * (((0 : Nat) + 1 : Int) * g 1)
  simp; omega
 | succ k ih =>
  intro f
  have ih' : ((k : Int) + 1) * cv (fun i => f (i + 1)) g (k + 1) = cv (sf fun i => f (i + 1)) g k + cv (fun i => f (i + 1)) (sf g) k := ih (fun i => f (i + 1))
  have hE : cv (sf f) g (k + 1) = cv (fun i => f (i + 1)) g (k + 1) + cv (sf fun i => f (i + 1)) g k := by
   have h1 : cv (sf f) g (k + 1) = cv (fun i => f (i + 1) + (i : Int) * f (i + 1)) g (k + 1) := cv_congr _ (fun i _ => by show ((i : Int) + 1) * f (i + 1) = _; rw [Int.add_mul, Int.one_mul]; omega) (fun i _ => rfl)
   rw [h1, cv_add_left g (k + 1) (fun i => f (i + 1)) (fun i => (i : Int) * f (i + 1))]
   congr 1
   show ((0 : Nat) : Int) * f 1 * g (k + 1) + cv (fun i => ((i + 1 : Nat) : Int) * f (i + 1 + 1)) g k = cv (sf fun i => f (i + 1)) g k
   have h2 : cv (fun i => ((i + 1 : Nat) : Int) * f (i + 1 + 1)) g k = cv (sf fun i => f (i + 1)) g k := cv_congr _ (fun i _ => by show ((i + 1 : Nat) : Int) * f (i + 1 + 1) = ((i : Int) + 1) * f (i + 1 + 1); congr 1) (fun i _ => rfl)
   rw [h2]; simp
  rw [hE]
  show ((k + 1 : Nat) + 1 : Int) * (f 0 * g (k + 1 + 1) + cv (fun i => f (i + 1)) g (k + 1)) = cv (fun i => f (i + 1)) g (k + 1) + cv (sf fun i => f (i + 1)) g k + (f 0 * (((k + 1 : Nat) + 1 : Int) * g (k + 1 + 1)) + cv (fun i => f (i + 1)) (sf g) k)
  have e3 : (((k + 1 : Nat) : Int) + 1) * (f 0 * g (k + 1 + 1)) = f 0 * ((((k + 1 : Nat) : Int) + 1) * g (k + 1 + 1)) := by rw [<- Int.mul_assoc, Int.mul_comm _ (f 0), Int.mul_assoc]
  have e4 : (((k + 1 : Nat) : Int) + 1) * cv (fun i => f (i + 1)) g (k + 1) = cv (fun i => f (i + 1)) g (k + 1) + ((k : Int) + 1) * cv (fun i => f (i + 1)) g (k + 1) := by
   have : (((k + 1 : Nat) : Int) + 1) = 1 + ((k : Int) + 1) := by omega
   rw [this, Int.add_mul, Int.one_mul]
  rw [Int.mul_add, e3, e4, ih']; omega
theorem al_sf {p : Int} {F G : Nat -> Int} (h : Al p F G) : Al p (sf F) (sf G) := fun i => by
 show (((i : Int) + 1) * F (i + 1)) % p = (((i : Int) + 1) * G (i + 1)) % p
 rw [Int.mul_emod, h (i + 1), <- Int.mul_emod]
def slp (p : Int) (xs : List Int) : List Int := tr (mk (xs.length - 1) (fun i => (((i : Int) + 1) * co xs (i + 1)) % p))
theorem is_slp {p : Int} (hp : 0 < p) (xs : List Int) : Is p (slp p xs) (sf (co xs)) := is_mk (F := sf (co xs)) hp (fun i hi => by
 show (((i : Int) + 1) * co xs (i + 1)) % p = 0
 rw [co_out xs (i + 1) (by omega), Int.mul_zero]; exact Int.zero_emod p)
theorem slp_mul {p : Int} (hp : 0 < p) {xs ys zs : List Int} (h : pl p zs = qm (pl p xs) (pl p ys)) : pl p (slp p zs) = qa (qm (pl p (slp p xs)) (pl p ys)) (qm (pl p xs) (pl p (slp p ys))) := by
 have h1 : Al p (co zs) (cv (co xs) (co ys)) := pu_al (show pu p (co zs) = pu p (cv (co xs) (co ys)) from h)
 rw [(is_slp hp zs).tm.2, (is_slp hp xs).tm.2, (is_slp hp ys).tm.2]
 show pu p (sf (co zs)) = pu p (fun i => cv (sf (co xs)) (co ys) i + cv (co xs) (sf (co ys)) i)
 exact pu_eq ((al_sf h1).trans (fun i => by rw [sf_cv]))
end Go.Proofs.YtjhididlcdepdaaGreat.Fld
