/-
  RootFlips: Flip twice is nothing.
-/
import Derived.Test.YtdphagkehdeanaaRootS
import Derived.Test.YtdphagkehdeanaaRootE
namespace Go.Proofs.Ytdphagkehdeanaa
open Go.RowKit Fld
set_option linter.unusedVariables false

theorem fr_bit (n : Nat) : ∀ k i, i < k → fr n k / 2 ^ i % 2 = n / 2 ^ (k - 1 - i) % 2 := by
  intro k
  induction k with
  | zero => intro i hi; omega
  | succ k ih =>
    intro i hi
    show (2 * fr n k + n / 2 ^ k % 2) / 2 ^ i % 2 = _
    cases i with
    | zero => simp
    | succ i =>
      have e : k + 1 - 1 - (i + 1) = k - 1 - i := by omega
      rw [e, ← ih i (by omega), Nat.pow_succ, Nat.mul_comm (2 ^ i) 2, ← Nat.div_div_eq_div_mul]
      have : (2 * fr n k + n / 2 ^ k % 2) / 2 = fr n k := by omega
      rw [this]

theorem bits_eq {a b k : Nat} (ha : a < 2 ^ k) (hb : b < 2 ^ k) (h : ∀ i, i < k → a / 2 ^ i % 2 = b / 2 ^ i % 2) : a = b := by
  apply Nat.eq_of_testBit_eq
  intro i
  rw [Nat.testBit_eq_decide_div_mod_eq, Nat.testBit_eq_decide_div_mod_eq]
  by_cases hi : i < k
  · rw [h i hi]
  · have hp : 2 ^ k ≤ 2 ^ i := Nat.pow_le_pow_right (by decide) (by omega)
    rw [Nat.div_eq_of_lt (by omega), Nat.div_eq_of_lt (by omega)]

theorem fr_back (n k : Nat) (hn : n < 2 ^ k) : fr (fr n k) k = n := by
  apply bits_eq (fr_lt _ k) hn
  intro i hi
  rw [fr_bit _ k i hi, fr_bit n k (k - 1 - i) (by omega)]
  have : k - 1 - (k - 1 - i) = i := by omega
  rw [this]

theorem fr_nil (k : Nat) : fr 0 k = 0 := by
  induction k with
  | zero => rfl
  | succ k ih => show 2 * fr 0 k + 0 / 2 ^ k % 2 = 0; rw [ih]; simp

theorem fr_zero (n k : Nat) (hn : n < 2 ^ k) : (((n : Int) == 0) == (((fr n k : Nat) : Int) == 0)) = true := by
  by_cases h : n = 0
  · subst h; rw [fr_nil]; rfl
  · have h2 : fr n k ≠ 0 := fun e => h (by rw [← fr_back n k hn, e, fr_nil])
    have e1 : ((n : Int) == 0) = false := beq_eq_false_iff_ne.2 (by omega)
    have e2 : (((fr n k : Nat) : Int) == 0) = false := beq_eq_false_iff_ne.2 (by omega)
    rw [e1, e2]; rfl

set_option maxRecDepth 100000 in
set_option maxHeartbeats 400000 in
theorem flips_walk (n l : Int) (K M : Nat) (w : World) (hn : 0 ≤ n ∧ n ≤ 4294967295) (hl : 0 ≤ l ∧ l ≤ 255) (hK : l % 33 = (K : Int)) (hM : n % 2 ^ K = (M : Int)) :
    Calls Try.prog 6 #[.int .u32 n, .int .u8 l] w fun e w' => e = .returned (.bool true) ∧ Below w.heap.size w w' := by
  have hK32 : K ≤ 32 := by omega
  have hpos : (0 : Int) < 2 ^ K := Int.pow_pos (by decide)
  have hlt : M < 2 ^ K := by
    have := Int.emod_lt_of_pos n hpos
    rw [hM, ← cast_pow] at this; omega
  have hpw := wrap_pow K hK32
  have hne : ¬ (2 : Int) ^ K = 0 := by omega
  have hM2 : n.tmod (2 ^ K) = (M : Int) := by rw [Int.tmod_eq_emod_of_nonneg hn.1, hM]
  have h4 := anchored2_any
  have h1 := hide (fun W => Flip_yes M K W hK32 hlt)
  have h2 := hide (fun W => Flip_yes (fr M K) K W hK32 (fr_lt M K))
  rw [fr_back M K hlt] at h2
  have hz := fr_zero M K hlt
  have hA : ((fr M K : Nat) : Int) < 2 ^ K := by rw [← cast_pow]; have := fr_lt M K; omega
  have hA0 : (0 : Int) ≤ ((fr M K : Nat) : Int) := Int.natCast_nonneg _
  generalize fr M K = A at *
  have hB := Below.refl w.heap.size w
  go_enter Try.func6, Try.ntmps6
  go_wp2_with fail
  refine (h1.out _).mono ?_
  rintro e w1 ⟨rfl, hw⟩
  rw [hw]
  clear hw
  go_wp2_with fail
  refine (h2.out _).mono ?_
  rintro e w2 ⟨rfl, hw⟩
  rw [hw]
  clear hw
  go_wp2_with (go_at_call 13; refine (h4 _).mono ?_; rintro e w3 ⟨rfl, hb⟩; have hB := Below.next hB hb)
  go_ret
  exact ⟨rfl, hB⟩

theorem flips_any (n l : Int) (w : World) (hn : 0 ≤ n ∧ n ≤ 4294967295) (hl : 0 ≤ l ∧ l ≤ 255) :
    Calls Try.prog 6 #[.int .u32 n, .int .u8 l] w fun e w' => e = .returned (.bool true) ∧ Below w.heap.size w w' := by
  obtain ⟨K, hK⟩ := Int.eq_ofNat_of_zero_le (show 0 ≤ l % 33 by omega)
  obtain ⟨M, hM⟩ := Int.eq_ofNat_of_zero_le (show 0 ≤ n % 2 ^ K from Int.emod_nonneg _ (Int.ne_of_gt (Int.pow_pos (by decide))))
  exact flips_walk n l K M w hn hl hK hM

end Go.Proofs.Ytdphagkehdeanaa
