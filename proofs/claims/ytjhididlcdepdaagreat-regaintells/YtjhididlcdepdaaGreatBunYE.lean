import Derived.Test.YtjhididlcdepdaaGreatBDivA
import Derived.Test.YtjhididlcdepdaaGreatBunW
import Derived.Test.YtjhididlcdepdaaGreatBPntM
import Derived.Test.YtjhididlcdepdaaGreatBunJ
set_option linter.unusedVariables false
set_option linter.unusedSimpArgs false
set_option maxRecDepth 100000
set_option maxHeartbeats 4000000
namespace Go.Proofs.YtjhididlcdepdaaGreat
open Go.RowKit Fld Rnk
theorem rem_low (l y : Int) (w : World) (l0 : 0 ≤ l) (l1 : l ≤ 18446744073709551615) (y0 : 0 < y) (y1 : y ≤ 18446744073709551615) :
 Calls Tryz.prog 96 #[.int .u64 0, .int .u64 l, .int .u64 y] w fun e w' => e = .returned (.int .u64 (l % y)) ∧ ∃ n, w' = w.drewN n := by
 have HD := hide (div_low l y w l0 l1 y0 y1)
 have hy : ¬ y = 0 := by omega
 generalize l % y = r at *
 go_enter Tryz.func96, Tryz.ntmps96
 go_wp2_with (go_at_call 125; refine HD.out.mono ?_; rintro e w1 ⟨z, rfl, n, rfl⟩)
 go_ret
 exact ⟨rfl, n, rfl⟩
theorem rem_large (h l : Int) (w : World) (h0 : 0 ≤ h) (h1 : h < 18446744069414584321) (l0 : 0 ≤ l) (l1 : l ≤ 18446744073709551615) :
 Calls Tryz.prog 96 #[.int .u64 h, .int .u64 l, .int .u64 18446744069414584321] w fun e w' => e = .returned (.int .u64 ((h * 18446744073709551616 + l) % 18446744069414584321)) ∧ ∃ n, w' = w.drewN n := by
 by_cases c : h = 0
 · subst c
   have := rem_low l 18446744069414584321 w l0 l1 (by decide) (by decide)
   rw [show (0 : Int) * 18446744073709551616 + l = l by omega]
   exact this
 · have HD := hide (div_large h l w (by omega) h1 l0 l1)
   have hm : h % 18446744069414584321 = h := by omega
   generalize (h * 18446744073709551616 + l) % 18446744069414584321 = r at *
   go_enter Tryz.func96, Tryz.ntmps96
   go_wp2_with (go_at_call 125; refine HD.out.mono ?_; rintro e w1 ⟨z, rfl, rfl⟩)
   go_ret
   exact ⟨rfl, 0, rfl⟩
end Go.Proofs.YtjhididlcdepdaaGreat
