/-
  The field's power and inverse.
-/
import Derived.Test.YtdphagkehdeanaaWalkB
import Derived.Test.YtdphagkehdeanaaModC
namespace Go.Proofs.Ytdphagkehdeanaa
open Go.RowKit Fld

theorem Boxed.first (w : World) (p : Int) (wd : Bool) (T : TypeId) : Boxed w p wd (w.alloc (.cells #[.int .u64 p, .bool wd] T)) :=
  ⟨by simp [go_sem], by simp [go_sem], by simp, (Below.refl _ _).alloc (Nat.le_refl _) _⟩

theorem one_el {p : Int} {wd : Bool} (h : Md p wd) : El p 1 := ⟨by decide, by have := h.bounds; omega⟩

set_option maxHeartbeats 200000 in
theorem power_any (p a n : Int) (wd : Bool) (w : World) (hm : Md p wd) (ha : El p a) (hn0 : 0 ≤ n) (hn1 : n ≤ 18446744073709551615) :
    Calls Try.prog 34 #[.agg #[.int .u64 p, .bool wd], .int .u64 a, .int .u64 n] w fun e w' =>
      e = .returned (.int .u64 (pow p a n)) ∧ Below w.heap.size w w' := by
  have hp0 : 0 < p := by have := hm.bounds; omega
  have hone := one_el hm
  go_enter Try.func34, Try.ntmps34
  go_wp2
  go_loopw [1, 2, 7] (fun va vn vp wr => ∃ A N P : Int, va = .int .u64 A ∧ vn = .int .u64 N ∧ vp = .int .u64 P ∧ 0 ≤ N ∧ N ≤ 18446744073709551615 ∧ El p A ∧ El p P ∧ Pin p P A N (pow p a n) ∧ Boxed w p wd wr) (fun _ vn _ _ => (intOf vn).toNat)
  case atStart => exact ⟨a, n, 1, rfl, rfl, rfl, hn0, hn1, ha, hone, Pin.start p a n, Boxed.first w p wd _⟩
  case round =>
    obtain ⟨A, N, P, rfl, rfl, rfl, hN0, hN1, hA, hP, hJ, hB⟩ := hrel
    have hc0 := hB.1
    have hc1 := hB.2.1
    by_cases hpos : 0 < N
    · have hand := and_one_u64 N hN0 hN1
      have hPA := mul_el (a := P) (b := A) hp0
      have hAA := mul_el (a := A) (b := A) hp0
      by_cases ho : N % 2 = 1
      · have HJ := hJ.odd hN0 ho
        have ht : (N % 2 == 1) = true := beq_iff_eq.2 ho
        clear ho
        go_wp2_with (go_at_call 32; refine (mul_any p _ _ wd _ hm (by assumption) (by assumption)).mono ?_; rintro e w1 ⟨rfl, hb⟩; have hB := Boxed.below hB hb; have hc0 := hB.1; have hc1 := hB.2.1)
        go_roundw
        case rel => exact ⟨_, _, _, rfl, rfl, rfl, by omega, by omega, hAA, hPA, HJ, hB⟩
        case measure => show (N / 2).toNat < N.toNat; omega
      · have HJ := hJ.even hN0 (by omega)
        have ht : (N % 2 == 1) = false := beq_eq_false_iff_ne.2 ho
        clear ho
        go_wp2_with (go_at_call 32; refine (mul_any p _ _ wd _ hm (by assumption) (by assumption)).mono ?_; rintro e w1 ⟨rfl, hb⟩; have hB := Boxed.below hB hb; have hc0 := hB.1; have hc1 := hB.2.1)
        go_roundw
        case rel => exact ⟨_, _, _, rfl, rfl, rfl, by omega, by omega, hAA, hP, HJ, hB⟩
        case measure => show (N / 2).toNat < N.toNat; omega
    · have hF := hide (hJ.done (by omega) hP)
      go_wp2
      go_ret
      exact ⟨ret_u64 hF.out, hB.2.2.2⟩

theorem bounds_mul_le {q s r : Int} (h : q * s ≤ r) (hr : r ≤ 18446744073709551615) : q * s ≤ 18446744073709551615 := by omega

end Go.Proofs.Ytdphagkehdeanaa
