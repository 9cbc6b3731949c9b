/-
  The document's own answers for numbers: Sum, Less, Times, Power.
-/
import Derived.Test.YtdegpefhegmamabWalkD
import Derived.Test.YtdegpefhegmamabModR
namespace Go.Proofs.Ytdegpefhegmamab
open Go.RowKit Fld
set_option linter.unusedVariables false

set_option maxHeartbeats 200000 in
theorem rSum_any (p a b : Int) (w : World) (hp : p ≤ 18446744073709551615) (ha : El p a) (hb : El p b) :
    Calls Try.prog 22 #[.int .u64 p, .int .u64 a, .int .u64 b] w fun e w' => e = .returned (.int .u64 (add p a b)) ∧ w' = w := by
  obtain ⟨a1, a2⟩ := ha; obtain ⟨b1, b2⟩ := hb
  by_cases h : p - b ≤ a
  · have HF := hide (show a - (p - b) = add p a b by unfold add; rw [emod_sub_self _ _ (by omega) (by omega)]; omega)
    go_enter Try.func22, Try.ntmps22
    go_wp2
    go_ret
    exact ⟨ret_u64 HF.out, rfl⟩
  · have HF := hide (show a + b = add p a b by unfold add; rw [Int.emod_eq_of_lt (by omega) (by omega)])
    go_enter Try.func22, Try.ntmps22
    go_wp2
    go_ret
    exact ⟨ret_u64 HF.out, rfl⟩

set_option maxHeartbeats 200000 in
theorem rTimes_any (p a b : Int) (w : World) (hp : p ≤ 18446744073709551615) (ha : El p a) (hb0 : 0 ≤ b) (hb1 : b ≤ 18446744073709551615) :
    Calls Try.prog 24 #[.int .u64 p, .int .u64 a, .int .u64 b] w fun e w' => e = .returned (.int .u64 (mul p a b)) ∧ w' = w := by
  have hp0 : 0 < p := by have := ha.1; have := ha.2; omega
  have h0 : El p 0 := ⟨by decide, hp0⟩
  go_enter Try.func24, Try.ntmps24
  go_wp2
  go_loop [7, 8] (fun vs vi => ∃ (k : Nat) (s : Int), k ≤ 64 ∧ vi = .int .i64 ((k : Int) - 1) ∧ vs = .int .u64 s ∧ El p s ∧ s = mul p a (b / 2 ^ k)) (fun _ vi => (intOf vi + 1).toNat)
  case atStart => exact ⟨64, 0, by omega, rfl, rfl, h0, by rw [shift_all b hb0 hb1, mul_zero_right]⟩
  case round =>
    obtain ⟨k, s, hk, rfl, rfl, hs, hv⟩ := hrel
    by_cases hpos : 0 < k
    · obtain ⟨k, rfl⟩ : ∃ j, k = j + 1 := ⟨k - 1, by omega⟩
      have ek : (((k + 1 : Nat) : Int) - 1) = (k : Int) := by omega
      rw [ek]
      clear ek
      rw [half_pow] at hv
      obtain ⟨q0, q1⟩ := word_shift b k hb0 hb1
      have hand := and_one_u64 (b / 2 ^ k) q0 q1
      have hss := add_el (a := s) (b := s) hp0
      have hsa := add_el (a := add p s s) (b := a) hp0
      by_cases ho : b / 2 ^ k % 2 = 1
      · have ht : (b / 2 ^ k % 2 == 1) = true := beq_iff_eq.2 ho
        have HV := hide (times_odd p a (b / 2 ^ k) ho)
        rw [← hv] at HV
        clear ho hv
        go_wp2_with (go_at_call 22; refine (rSum_any p _ _ _ hp (by assumption) (by assumption)).mono ?_; rintro e w1 ⟨rfl, rfl⟩)
        go_round
        case rel => exact ⟨k, _, by omega, rfl, rfl, hsa, HV.out⟩
        case measure => simp [intOf]
      · have ht : (b / 2 ^ k % 2 == 1) = false := beq_eq_false_iff_ne.2 ho
        have HV := hide (times_even p a (b / 2 ^ k) (by omega))
        rw [← hv] at HV
        clear ho hv
        go_wp2_with (go_at_call 22; refine (rSum_any p _ _ _ hp (by assumption) (by assumption)).mono ?_; rintro e w1 ⟨rfl, rfl⟩)
        go_round
        case rel => exact ⟨k, _, by omega, rfl, rfl, hss, HV.out⟩
        case measure => simp [intOf]
    · have hk0 : k = 0 := by omega
      subst hk0
      have HV := hide hv
      clear hv
      go_wp2
      go_ret
      refine ⟨ret_u64 ?_, rfl⟩
      rw [HV.out]; simp

end Go.Proofs.Ytdegpefhegmamab
