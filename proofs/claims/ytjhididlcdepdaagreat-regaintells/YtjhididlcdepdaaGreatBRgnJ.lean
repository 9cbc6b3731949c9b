import Derived.Test.YtjhididlcdepdaaGreatBBas
import Derived.Test.YtjhididlcdepdaaGreatBunQ
import Derived.Test.YtjhididlcdepdaaGreatBRowA
set_option linter.unusedVariables false
set_option linter.unusedSimpArgs false
set_option maxRecDepth 100000
set_option maxHeartbeats 4000000
namespace Go.Proofs.YtjhididlcdepdaaGreat
open Go.RowKit Fld
theorem gEach8 (n : Nat) (hn : n ≤ 17592186044416) (fn : FuncId) (bs : Array Value) (w : World) (I : Nat → World → Prop) (B : Int → World → Prop)
 (hcf : ∀ args W, (callFunc fn args).run Tryz.prog W = .ok (.enter fn args) W) (h0 : I 0 w)
 (hs : ∀ (k : Nat) W, k < n → I k W → Calls Tryz.prog fn (#[.int .i64 (k : Int)] ++ bs) W fun e w' => ∃ r : Int, e = .returned (.int .i64 r) ∧ ((r = 0 ∧ I (k + 1) w') ∨ (r ≠ 0 ∧ B r w'))) :
 Calls Tryz.prog 45 #[.int .i64 (n : Int), .func (.func fn) #[] bs] w fun e w' => ∃ r : Int, e = .returned (.int .i64 r) ∧ ((r = 0 ∧ I n w') ∨ (r ≠ 0 ∧ B r w')) := by
 have HS := hide hs
 clear hs
 go_enter Tryz.func45, Tryz.ntmps45
 go_wp2_with fail
 go_loopw [8] (fun vi wr => ∃ k : Nat, k ≤ n ∧ vi = .int .i64 k ∧ Hid (I k wr)) (fun vi _ => n - (intOf vi).toNat)
 case atStart => exact ⟨0, Nat.zero_le _, rfl, h0⟩
 case round =>
  obtain ⟨k, hk, rfl, HI⟩ := hrel
  by_cases hlt : k < n
  · have HC := hide (HS.out k wr hlt HI.out)
    have k0 : (0 : Int) ≤ (k : Int) := by omega
    have k1 : (k : Int) < (n : Int) := by omega
    clear HS HI
    go_upto_region 5 with (refine HC.out.mono ?_; rintro e w2 ⟨r, rfl, hr⟩)
    rcases hr with ⟨rfl, hI⟩ | ⟨hr, hB⟩
    · have HI := hide hI
      clear hI HC
      go_wp2_with fail
      go_roundw
      case rel => exact ⟨k + 1, by omega, by go_num, HI⟩
      case measure => simp [intOf]; omega
    · have HB := hide hB
      clear hB HC
      go_wp2_with fail
      go_ret
      exact ⟨_, rfl, .inr ⟨hr, HB.out⟩⟩
  · obtain rfl : k = n := by omega
    clear HS
    go_wp2_with fail
    go_ret
    exact ⟨_, rfl, .inl ⟨rfl, HI.out⟩⟩
end Go.Proofs.YtjhididlcdepdaaGreat
