/-
  Roots: Flip, the program's and the document's.
-/
import Derived.Test.YtdphagkehdeanaaRootA
import Derived.Laws.BitsLemmas
namespace Go.Proofs.Ytdphagkehdeanaa
open Go.RowKit Fld
set_option linter.unusedVariables false

/-- The lowest i bits of n, the other way round. -/
def fr (n : Nat) : Nat → Nat
  | 0 => 0
  | i + 1 => 2 * fr n i + n / 2 ^ i % 2

theorem fr_lt (n i : Nat) : fr n i < 2 ^ i := by
  induction i with
  | zero => exact Nat.zero_lt_one
  | succ i ih => unfold fr; rw [Nat.pow_succ]; omega

theorem wraps_i64 (n : Int) (h0 : 0 ≤ n) (h1 : n < 2 ^ 63) : IntKind.i64.wrap n = n := by
  have e : (2 : Int) ^ 63 = 9223372036854775808 := by decide
  rw [e] at h1; rw [IntKind.wrap_i64]; omega

theorem and1_i64 (N : Int) (h0 : 0 ≤ N) (h1 : N ≤ 4294967295) : bits BinOp.and IntKind.i64 N 1 = N % 2 := by
  have e : (2 : Int) ^ 63 = 9223372036854775808 := by decide
  have h := bits_mask .i64 63 (by decide) wraps_i64 1 (by decide) N h0 (by rw [e]; omega)
  exact h

theorem or1_i64 (M b : Int) (h0 : 0 ≤ M) (h1 : M ≤ 4294967295) (b0 : 0 ≤ b) (b1 : b < 2) : bits BinOp.or IntKind.i64 (M * 2) b = 2 * M + b := by
  have e : (2 : Int) ^ 63 = 9223372036854775808 := by decide
  have h := bits_join .i64 63 (by decide) wraps_i64 1 (M * 2) b (by omega) (by show M * 2 % 2 = 0; omega) (by rw [e]; omega) b0 b1 (by rw [e]; omega)
  rw [h]; omega

theorem pow_le32 {i L : Nat} (h : i ≤ L) (hL : L ≤ 32) : 2 ^ i ≤ 4294967296 := Nat.le_trans (Nat.pow_le_pow_right (by decide) (Nat.le_trans h hL)) (by decide)

theorem half_nat (n i : Nat) : ((n / 2 ^ i : Nat) : Int) / 2 = ((n / 2 ^ (i + 1) : Nat) : Int) := by
  rw [Nat.pow_succ, ← Nat.div_div_eq_div_mul]; omega

theorem fr_step (n i : Nat) : 2 * ((fr n i : Nat) : Int) + ((n / 2 ^ i : Nat) : Int) % 2 = ((fr n (i + 1) : Nat) : Int) := by
  show _ = ((2 * fr n i + n / 2 ^ i % 2 : Nat) : Int)
  omega

set_option maxHeartbeats 200000 in
theorem Flip_yes (n L : Nat) (w : World) (hL : L ≤ 32) (hn : n < 2 ^ L) :
    Calls Try.prog 16 #[.int .i64 n, .int .i64 L] w fun e w' => e = .returned (.tuple #[.int .i64 (fr n L), .int .i64 0]) ∧ w' = w := by
  have hn2 : n ≤ 4294967295 := by have := pow_le32 (Nat.le_refl L) hL; omega
  have hz : ((n : Int) / 2 ^ L) = 0 := by
    have : n / 2 ^ L = 0 := Nat.div_eq_of_lt hn
    have e : ((n / 2 ^ L : Nat) : Int) = (n : Int) / 2 ^ L := by rw [Int.natCast_ediv, Int.natCast_pow]; rfl
    rw [← e, this]; rfl
  clear hn
  go_enter Try.func16, Try.ntmps16
  go_wp2
  clear hz
  go_loop [0, 6, 24] (fun vn vm vi => ∃ i : Nat, i ≤ L ∧ vn = .int .i64 ((n / 2 ^ i : Nat) : Int) ∧ vm = .int .i64 ((fr n i : Nat) : Int) ∧ vi = .int .i64 i) (fun _ _ vi => L - (intOf vi).toNat)
  case atStart => exact ⟨0, Nat.zero_le _, by simp, rfl, rfl⟩
  case round =>
    obtain ⟨i, hi, rfl, rfl, rfl⟩ := hrel
    by_cases hlt : i < L
    · have HN := hide (half_nat n i)
      have HM := hide (fr_step n i)
      have hN0 : 0 ≤ ((n / 2 ^ i : Nat) : Int) := Int.natCast_nonneg _
      have hN1 : ((n / 2 ^ i : Nat) : Int) ≤ 4294967295 := by have := Nat.div_le_self n (2 ^ i); omega
      have hM0 : 0 ≤ ((fr n i : Nat) : Int) := Int.natCast_nonneg _
      have hM1 : ((fr n i : Nat) : Int) ≤ 4294967295 := by have := fr_lt n i; have := pow_le32 hi hL; omega
      generalize ((n / 2 ^ i : Nat) : Int) = N at *
      generalize ((fr n i : Nat) : Int) = M at *
      have e1 := and1_i64 N hN0 hN1
      have e2 := or1_i64 M (N % 2) hM0 hM1 (by omega) (by omega)
      go_wp2
      go_round
      case rel => exact ⟨i + 1, by omega, by rw [HN.out], by rw [← HM.out], by go_num⟩
      case measure => simp [intOf]; omega
    · obtain rfl : i = L := by omega
      generalize ((n / 2 ^ i : Nat) : Int) = N at *
      obtain ⟨M, HM⟩ : ∃ M : Int, Hid (((fr n i : Nat) : Int) = M) := ⟨_, rfl⟩
      rw [HM.out]
      go_wp2
      go_ret2
      refine ⟨?_, rfl⟩
      show Ending.returned (.tuple #[.int .i64 M, .int .i64 0]) = _
      rw [← HM.out]

/-- What Flip refuses. -/
def NoFlip (n l : Int) : Prop := l < 0 ∨ 32 < l ∨ n < 0 ∨ ∃ L : Nat, l = L ∧ L ≤ 32 ∧ ∃ m : Nat, n = m ∧ 2 ^ L ≤ m

set_option maxHeartbeats 200000 in
theorem Flip_no (n l : Int) (w : World) (h : NoFlip n l) :
    Calls Try.prog 16 #[.int .i64 n, .int .i64 l] w fun e w' => e = .returned (.tuple #[.int .i64 0, .int .i64 2]) ∧ w' = w := by
  by_cases h1 : l < 0
  · clear h
    go_enter Try.func16, Try.ntmps16
    go_wp2
    go_ret2
    exact ⟨rfl, rfl⟩
  by_cases h2 : 32 < l
  · clear h
    go_enter Try.func16, Try.ntmps16
    go_wp2
    go_ret2
    exact ⟨rfl, rfl⟩
  by_cases h3 : n < 0
  · clear h
    go_enter Try.func16, Try.ntmps16
    go_wp2
    go_ret2
    exact ⟨rfl, rfl⟩
  · obtain ⟨L, rfl, hL, m, rfl, hm⟩ : ∃ L : Nat, l = L ∧ L ≤ 32 ∧ ∃ m : Nat, n = m ∧ 2 ^ L ≤ m := by
      rcases h with h | h | h | h
      · exact absurd h h1
      · exact absurd h h2
      · exact absurd h h3
      · exact h
    have hz : ((m : Int) / 2 ^ L != 0) = true := by
      have : 0 < m / 2 ^ L := Nat.div_pos hm (Nat.pow_pos (by decide))
      have e : ((m / 2 ^ L : Nat) : Int) = (m : Int) / 2 ^ L := by rw [Int.natCast_ediv, Int.natCast_pow]; rfl
      rw [← e, bne_iff_ne]; omega
    clear h1 h2 h3 hm
    go_enter Try.func16, Try.ntmps16
    go_wp2
    go_ret2
    exact ⟨rfl, rfl⟩

theorem cast_pow (L : Nat) : ((2 ^ L : Nat) : Int) = 2 ^ L := by rw [Int.natCast_pow]; rfl
theorem wrap_pow (L : Nat) (hL : L ≤ 32) : IntKind.i64.wrap (2 ^ L) = 2 ^ L := by
  have h := pow_le32 (Nat.le_refl L) hL
  rw [← cast_pow]
  generalize (2 ^ L : Nat) = q at *
  rw [IntKind.wrap_i64]; omega

set_option maxHeartbeats 200000 in
theorem rFlip_yes (n L : Nat) (w : World) (hL : L ≤ 32) (hn : n < 2 ^ L) :
    Calls Try.prog 17 #[.int .i64 n, .int .i64 L] w fun e w' => e = .returned (.tuple #[.int .i64 (fr n L), .int .i64 0]) ∧ w' = w := by
  have hn2 : n ≤ 4294967295 := by have := pow_le32 (Nat.le_refl L) hL; omega
  have hpw := wrap_pow L hL
  have hn3 : (n : Int) < 2 ^ L := by rw [← cast_pow]; omega
  clear hn
  go_enter Try.func17, Try.ntmps17
  go_wp2
  go_loop [0, 6, 7] (fun vn vm vi => ∃ i : Nat, i ≤ L ∧ vn = .int .i64 ((n / 2 ^ i : Nat) : Int) ∧ vm = .int .i64 ((fr n i : Nat) : Int) ∧ vi = .int .i64 i) (fun _ _ vi => L - (intOf vi).toNat)
  case atStart => exact ⟨0, Nat.zero_le _, by simp, rfl, rfl⟩
  case round =>
    obtain ⟨i, hi, rfl, rfl, rfl⟩ := hrel
    by_cases hlt : i < L
    · have HN := hide (half_nat n i)
      have HM := hide (fr_step n i)
      have hN0 : 0 ≤ ((n / 2 ^ i : Nat) : Int) := Int.natCast_nonneg _
      have hN1 : ((n / 2 ^ i : Nat) : Int) ≤ 4294967295 := by have := Nat.div_le_self n (2 ^ i); omega
      have hM0 : 0 ≤ ((fr n i : Nat) : Int) := Int.natCast_nonneg _
      have hM1 : ((fr n i : Nat) : Int) ≤ 4294967295 := by have := fr_lt n i; have := pow_le32 hi hL; omega
      generalize ((n / 2 ^ i : Nat) : Int) = N at *
      generalize ((fr n i : Nat) : Int) = M at *
      go_wp2
      go_round
      case rel => exact ⟨i + 1, by omega, by rw [HN.out], by rw [← HM.out], by go_num⟩
      case measure => simp [intOf]; omega
    · obtain rfl : i = L := by omega
      generalize ((n / 2 ^ i : Nat) : Int) = N at *
      obtain ⟨M, HM⟩ : ∃ M : Int, Hid (((fr n i : Nat) : Int) = M) := ⟨_, rfl⟩
      rw [HM.out]
      go_wp2
      go_ret2
      refine ⟨?_, rfl⟩
      show Ending.returned (.tuple #[.int .i64 M, .int .i64 0]) = _
      rw [← HM.out]

set_option maxHeartbeats 200000 in
theorem rFlip_no (n l : Int) (w : World) (h : NoFlip n l) :
    Calls Try.prog 17 #[.int .i64 n, .int .i64 l] w fun e w' => e = .returned (.tuple #[.int .i64 0, .int .i64 2]) ∧ w' = w := by
  by_cases h1 : l < 0
  · clear h
    go_enter Try.func17, Try.ntmps17
    go_wp2
    go_ret2
    exact ⟨rfl, rfl⟩
  by_cases h2 : 32 < l
  · clear h
    go_enter Try.func17, Try.ntmps17
    go_wp2
    go_ret2
    exact ⟨rfl, rfl⟩
  by_cases h3 : n < 0
  · clear h
    go_enter Try.func17, Try.ntmps17
    go_wp2
    go_ret2
    exact ⟨rfl, rfl⟩
  · obtain ⟨L, rfl, hL, m, rfl, hm⟩ : ∃ L : Nat, l = L ∧ L ≤ 32 ∧ ∃ m : Nat, n = m ∧ 2 ^ L ≤ m := by
      rcases h with h | h | h | h
      · exact absurd h h1
      · exact absurd h h2
      · exact absurd h h3
      · exact h
    have hpw := wrap_pow L hL
    have hn3 : (2 : Int) ^ L ≤ (m : Int) := by rw [← cast_pow]; omega
    clear h1 h2 h3 hm
    go_enter Try.func17, Try.ntmps17
    go_wp2
    go_ret2
    exact ⟨rfl, rfl⟩

end Go.Proofs.Ytdphagkehdeanaa
