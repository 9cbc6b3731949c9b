import Derived.Test.YtcglbbglapomgaaBLawJA
set_option linter.unusedVariables false
set_option linter.unusedSimpArgs false
set_option maxRecDepth 100000
set_option maxHeartbeats 4000000
namespace Go.Proofs.Ytcglbbglapomgaa
open Go.RowKit Fld
theorem netNil_any (a b : Int) (w : World) : Calls Try.prog 4 #[.int .i64 a, .int .i64 b] w fun e w' => e = .returned (.bool true) ∧ Below w.heap.size w w' := by
 have H1 := hide (fun W => gDeliver_nil a W)
 unfold pkz at H1
 have H2 := hide (fun W => gCount_nil W)
 have H3 := hide (fun W => gSend_nil a b (.slice none 0 0) W)
 have H4 := hide (fun W => gDrop_nil a W)
 have H5 := hide (fun W => gDouble_nil a W)
 have H6 := hide (fun W => gMove_nil a b W)
 have H7 := hide (fun W => gPending_nil W)
 have H8 := hide (fun W => gCopy_nil W)
 have ga := hide (fun W => anch21 W)
 go_enter Try.func4, Try.ntmps4
 go_wp2_with (first
  | (go_at_call 12; refine (H1.out _).mono ?_; rintro e w1 ⟨rfl, hb1⟩; have hB1 := Below.next hb1 (alloc_below w1 (.cells #[.int .i64 0, .int .i64 0, .slice none 0 0] 40)))
  | (go_at_call 13; refine (H2.out _).mono ?_; rintro e w2 ⟨rfl, hw2⟩; rw [hw2]; clear hw2)
  | (go_at_call 14; refine (H3.out _).mono ?_; rintro e w2 ⟨rfl, hw2⟩; rw [hw2]; clear hw2)
  | (go_at_call 15; refine (H4.out _).mono ?_; rintro e w2 ⟨rfl, hw2⟩; rw [hw2]; clear hw2)
  | (go_at_call 16; refine (H5.out _).mono ?_; rintro e w2 ⟨rfl, hw2⟩; rw [hw2]; clear hw2)
  | (go_at_call 17; refine (H6.out _).mono ?_; rintro e w3 ⟨rfl, hb3⟩; have hB3 := Below.next hB1 hb3)
  | (go_at_call 18; refine (H7.out _).mono ?_; rintro e w4 ⟨rfl, hw4⟩; rw [hw4]; clear hw4)
  | (go_at_call 19; refine (H8.out _).mono ?_; rintro e w4 ⟨rfl, hw4⟩; rw [hw4]; clear hw4)
  | (go_at_call 11; refine (ga.out _).mono ?_; rintro e w5 ⟨rfl, hb5⟩; have hB5 := Below.next hB3 hb5))
 go_ret
 exact ⟨by simp, hB5⟩
end Go.Proofs.Ytcglbbglapomgaa
