/-
  Plain arithmetic, no Go: sums, differences, products and powers by a prime, on whole numbers.
-/
import Derived.Test.YtdegpefhegmamabPrime
namespace Go.Proofs.Ytdegpefhegmamab.Fld

def add (p a b : Int) : Int := (a + b) % p
def sub (p a b : Int) : Int := (a - b) % p
def mul (p a b : Int) : Int := (a * b) % p
def pow (p a n : Int) : Int := (a ^ n.toNat) % p
/-- a is an element. -/
def El (p a : Int) : Prop := 0 ≤ a ∧ a < p
/-- A word. -/
def Wd (a : Int) : Prop := 0 ≤ a ∧ a < 18446744073709551616
/-- The two fields. -/
def Md (p : Int) (wd : Bool) : Prop := (p = 2013265921 ∧ wd = false) ∨ (p = 18446744069414584321 ∧ wd = true)
/-- What a word loses by a carry. -/
def low64 (a : Int) : Int := a % 18446744073709551616
def high64 (a : Int) : Int := a / 18446744073709551616

/-- What sub answers, also of a word that is no element. -/
def subR (p a b : Int) : Int := if a < b then a - b + p else a - b

theorem Md.bounds {p : Int} {wd : Bool} (h : Md p wd) : 2 ≤ p ∧ p < 18446744073709551616 := by
  rcases h with ⟨h, _⟩ | ⟨h, _⟩ <;> omega

theorem add_el {p a b : Int} (hp : 0 < p) : El p (add p a b) := ⟨Int.emod_nonneg _ (by omega), Int.emod_lt_of_pos _ hp⟩
theorem sub_el {p a b : Int} (hp : 0 < p) : El p (sub p a b) := ⟨Int.emod_nonneg _ (by omega), Int.emod_lt_of_pos _ hp⟩
theorem mul_el {p a b : Int} (hp : 0 < p) : El p (mul p a b) := ⟨Int.emod_nonneg _ (by omega), Int.emod_lt_of_pos _ hp⟩
theorem pow_el {p a n : Int} (hp : 0 < p) : El p (pow p a n) := ⟨Int.emod_nonneg _ (by omega), Int.emod_lt_of_pos _ hp⟩

theorem emod_sub_self (x p : Int) (h : p ≤ x) (h2 : x < 2 * p) : x % p = x - p := by
  have : x % p = (x - p) % p := by rw [Int.sub_emod_right]
  rw [this, Int.emod_eq_of_lt (by omega) (by omega)]
theorem emod_add_self (x p : Int) (h : -p ≤ x) (h2 : x < 0) : x % p = x + p := by
  have : x % p = (x + p) % p := by rw [Int.add_emod_right]
  rw [this, Int.emod_eq_of_lt (by omega) (by omega)]

theorem subR_sub (p a b : Int) (h1 : 0 ≤ a) (h2 : a < p) (h3 : 0 ≤ b) (h4 : b < p) : subR p a b = sub p a b := by
  unfold subR sub
  split
  · exact (emod_add_self _ _ (by omega) (by omega)).symm
  · exact (Int.emod_eq_of_lt (by omega) (by omega)).symm

theorem down_small (x : Int) (h0 : 0 ≤ x) (h1 : x ≤ 4053239664633446400) :
    El 2013265921 (x % 2013265920) ∧ El 2013265921 (x / 2013265920) ∧ sub 2013265921 (x % 2013265920) (x / 2013265920) = x % 2013265921 := by
  unfold El sub
  refine ⟨⟨by omega, by omega⟩, ⟨by omega, by omega⟩, ?_⟩
  have e : x % 2013265920 - x / 2013265920 = x - 2013265921 * (x / 2013265920) := by omega
  rw [e, Int.sub_mul_emod_self_left]

theorem down_large (h l : Int) (h0 : 0 ≤ h) (h1 : h ≤ 18446744073709551615) (l0 : 0 ≤ l) (l1 : l ≤ 18446744073709551615) :
    0 ≤ subR 18446744069414584321 l (h / 4294967296) ∧ subR 18446744069414584321 l (h / 4294967296) ≤ 18446744073709551615 ∧
    subR 18446744069414584321 l (h / 4294967296) + h % 4294967296 * 4294967295 < 2 * 18446744069414584321 ∧
    add 18446744069414584321 (subR 18446744069414584321 l (h / 4294967296)) (h % 4294967296 * 4294967295) = (h * 18446744073709551616 + l) % 18446744069414584321 := by
  unfold add subR
  have e : h * 18446744073709551616 + l = (l - h / 4294967296 + h % 4294967296 * 4294967295) + 18446744069414584321 * (h / 4294967296 * 4294967297 + h % 4294967296) := by omega
  rw [e, Int.add_mul_emod_self_left]
  split
  · refine ⟨by omega, by omega, by omega, ?_⟩
    have e2 : l - h / 4294967296 + 18446744069414584321 + h % 4294967296 * 4294967295 = (l - h / 4294967296 + h % 4294967296 * 4294967295) + 18446744069414584321 := by omega
    rw [e2, Int.add_emod_right]
  · exact ⟨by omega, by omega, by omega, rfl⟩

theorem high_low (x : Int) : high64 x * 18446744073709551616 + low64 x = x := by unfold high64 low64; omega

theorem mul_le {a b k : Int} (ha : 0 ≤ a) (hb : 0 ≤ b) (ha' : a ≤ k) (hb' : b ≤ k) : 0 ≤ a * b ∧ a * b ≤ k * k :=
  ⟨Int.mul_nonneg ha hb, Int.mul_le_mul ha' hb' hb (by omega)⟩

theorem mask32 (h : Int) (h0 : 0 ≤ h) (h1 : h ≤ 18446744073709551615) : 0 ≤ h / 4294967296 ∧ h / 4294967296 ≤ 4294967295 ∧ 0 ≤ h % 4294967296 * 4294967295 ∧ h % 4294967296 * 4294967295 ≤ 18446744073709551615 := by omega

end Go.Proofs.Ytdegpefhegmamab.Fld
