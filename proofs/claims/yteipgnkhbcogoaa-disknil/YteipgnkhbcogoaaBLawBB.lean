import Derived.Test.YteipgnkhbcogoaaBLawBA
set_option linter.unusedVariables false
set_option linter.unusedSimpArgs false
set_option maxRecDepth 100000
set_option maxHeartbeats 4000000
namespace Go.Proofs.Yteipgnkhbcogoaa
open Go.RowKit Fld
theorem diskNil_any (a : Int) (w : World) : Calls Try.prog 4 #[.int .i64 a] w fun e w' => e = .returned (.bool true) ∧ Below w.heap.size w w' := by
 have H1 := hide (fun W => gWrite_nil (.slice none 0 0) W)
 have H2 := hide (fun W => gTrim_nil a W)
 have H3 := hide (fun W => gFuse_nil a W)
 have H4 := hide (fun W => gMend_nil W)
 have H5 := hide (fun W => gBlocks_nil22 W)
 have H6 := hide (fun W => gCount_nil22 W)
 have H7 := hide (fun W => gCut_nil W)
 have H8 := hide (fun W => gCopy_nil22 W)
 have ga := hide (fun W => anch22 W)
 go_enter Try.func4, Try.ntmps4
 go_wp2_with (first
  | (go_at_call 13; refine (H1.out _).mono ?_; rintro e w2 ⟨rfl, hw2⟩; rw [hw2]; clear hw2)
  | (go_at_call 14; refine (H2.out _).mono ?_; rintro e w2 ⟨rfl, hw2⟩; rw [hw2]; clear hw2)
  | (go_at_call 15; refine (H3.out _).mono ?_; rintro e w2 ⟨rfl, hw2⟩; rw [hw2]; clear hw2)
  | (go_at_call 16; refine (H4.out _).mono ?_; rintro e w2 ⟨rfl, hw2⟩; rw [hw2]; clear hw2)
  | (go_at_call 12; refine (H5.out _).mono ?_; rintro e w2 ⟨rfl, hw2⟩; rw [hw2]; clear hw2)
  | (go_at_call 17; refine (H6.out _).mono ?_; rintro e w2 ⟨rfl, hw2⟩; rw [hw2]; clear hw2)
  | (go_at_call 18; refine (H7.out _).mono ?_; rintro e w2 ⟨rfl, hw2⟩; rw [hw2]; clear hw2)
  | (go_at_call 19; refine (H8.out _).mono ?_; rintro e w2 ⟨rfl, hw2⟩; rw [hw2]; clear hw2)
  | (go_at_call 10; refine (ga.out _).mono ?_; rintro e w5 ⟨rfl, hb5⟩))
 go_ret
 exact ⟨by simp, hb5⟩
end Go.Proofs.Yteipgnkhbcogoaa
