/-
  Roots: the first two roots; what the document fixes.
-/
import Derived.Test.YtdphagkehdeanaaRootR
namespace Go.Proofs.Ytdphagkehdeanaa
open Go.RowKit Fld
set_option linter.unusedVariables false

theorem pow_cast (P G N : Nat) : pow (P : Int) (G : Int) (N : Int) = ((G ^ N % P : Nat) : Int) := by
  unfold pow
  rw [Int.toNat_natCast, Int.natCast_emod, Int.natCast_pow]

theorem rv_pm (P G k r : Nat) (hP : 1 ≤ P) (hlt : (P - 1) / 2 ^ k < 2 ^ 64) (h : pm P 64 G ((P - 1) / 2 ^ k) % P = r) : rv (P : Int) (G : Int) k = (r : Int) := by
  have e : ((P : Int) - 1) / 2 ^ k = (((P - 1) / 2 ^ k : Nat) : Int) := by
    rw [Int.natCast_ediv, Int.natCast_pow, Int.natCast_sub hP]; rfl
  unfold rv
  rw [e, pow_cast, ← pm_pow P 64 G _ hlt, h]

theorem half_small : pm 2013265921 64 31 ((2013265921 - 1) / 2 ^ 1) % 2013265921 = 2013265920 := by decide +kernel
theorem half_large : pm 18446744069414584321 64 7 ((18446744069414584321 - 1) / 2 ^ 1) % 18446744069414584321 = 18446744069414584320 := by decide +kernel
theorem rv1_small : rv 2013265921 31 1 = 2013265920 := rv_pm 2013265921 31 1 2013265920 (by decide) (by decide +kernel) half_small
theorem rv1_large : rv 18446744069414584321 7 1 = 18446744069414584320 := rv_pm 18446744069414584321 7 1 18446744069414584320 (by decide) (by decide +kernel) half_large

theorem Lb.rv1 {f p : Int} {wd : Bool} {L : Nat} {g : Int} (h : Lb f p wd L g) : rv p g 1 = p - 1 := by
  rcases h with ⟨_, rfl, _, _, rfl⟩ | ⟨_, rfl, _, _, rfl⟩
  · exact rv1_small
  · exact rv1_large

theorem Lb.rv0 {f p : Int} {wd : Bool} {L : Nat} {g : Int} (h : Lb f p wd L g) : rv p g 0 = 1 := by
  unfold rv
  rw [Int.pow_zero, Int.ediv_one]
  exact fermat_law h.fi.md g h.base (by rcases h with ⟨_, _, _, _, rfl⟩ | ⟨_, _, _, _, rfl⟩ <;> decide)

set_option maxHeartbeats 400000 in
theorem anchored2_any : Ans 13 #[] (.bool true) := by
  intro w
  have h1 : Ans 9 #[.int .u8 2, .int .i64 1] (.tuple #[.int .u64 18446744069414584320, .int .i64 0]) := fun W => by
    have := Root_yes 2 18446744069414584321 true 32 7 1 W (.inr ⟨rfl, rfl, rfl, rfl, rfl⟩) (by decide)
    rw [rv1_large] at this; exact this
  have h2 : Ans 9 #[.int .u8 1, .int .i64 1] (.tuple #[.int .u64 2013265920, .int .i64 0]) := fun W => by
    have := Root_yes 1 2013265921 false 27 31 1 W (.inl ⟨rfl, rfl, rfl, rfl, rfl⟩) (by decide)
    rw [rv1_small] at this; exact this
  have h3 : Ans 7 #[.int .u8 0] (.tuple #[.int .i64 0, .int .i64 2]) := fun W => Two_no 0 W (by decide) (by decide)
  have h1 := hide h1
  have h2 := hide h2
  have h3 := hide h3
  have hB := Below.refl w.heap.size w
  go_enter Try.func13, Try.ntmps13
  go_wp2_with fail
  refine (h1.out _).mono ?_
  rintro e w1 ⟨rfl, hb⟩
  have hB := Below.next hB hb
  clear hb
  go_wp2_with fail
  refine (h2.out _).mono ?_
  rintro e w2 ⟨rfl, hb⟩
  have hB := Below.next hB hb
  clear hb
  go_wp2_with (go_at_call 7; refine (h3.out _).mono ?_; rintro e w3 ⟨rfl, hb⟩; have hB := Below.next hB hb)
  go_ret
  exact ⟨rfl, hB⟩

end Go.Proofs.Ytdphagkehdeanaa
