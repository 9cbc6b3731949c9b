/-
  PolySums' walk, and PolyValues'.
-/
import Derived.Test.YtdegpefhegmamaaLawPA
import Derived.Test.YtdegpefhegmamaaPolK
namespace Go.Proofs.Ytdegpefhegmamaa
open Go.RowKit Fld
set_option linter.unusedVariables false

set_option maxRecDepth 100000 in
set_option maxHeartbeats 1000000 in
theorem psums_any (f : Int) (v1 v2 : Value) (xs ys : List Int) (w : World) (h1 : Rw w v1 xs) (h2 : Rw w v2 ys) :
    Calls Try.prog 4 #[.int .u8 f, v1, v2] w fun e w' => e = .returned (.bool true) ∧ Below w.heap.size w w' := by
  have g1 := hide (pAdd_any f v1 v2 xs ys w h1 h2)
  have g2 := hide (fun W (hb : Below w.heap.size w W) => dAdd_any f v1 v2 xs ys W (h1.below hb) (h2.below hb))
  have g3 := hide (fun W (hb : Below w.heap.size w W) => pSub_any f v1 v2 xs ys W (h1.below hb) (h2.below hb))
  have g4 := hide (fun W (hb : Below w.heap.size w W) => dSub_any f v1 v2 xs ys W (h1.below hb) (h2.below hb))
  have g5 := hide (fun W (hb : Below w.heap.size w W) => pMul_any f v1 v2 xs ys W (h1.below hb) (h2.below hb))
  have g6 := hide (fun W (hb : Below w.heap.size w W) => dMul_any f v1 v2 xs ys W (h1.below hb) (h2.below hb))
  unfold Gives at g1 g2 g3 g4 g5 g6
  have d1 := hide (addL_wd f xs ys)
  have d2 := hide (subL_wd f xs ys)
  have d3 := hide (mulL_wd f xs ys)
  generalize addL f xs ys = A at *
  generalize subL f xs ys = S at *
  generalize mulL f xs ys = M at *
  generalize mulE f xs ys = e1 at *
  generalize er f xs ys = e0 at *
  clear h1 h2
  go_enter Try.func4, Try.ntmps4
  go_wp2_with (first
    | (go_at_call 13; refine g1.out.mono ?_; rintro e w1 ⟨u1, rfl, hO, hb1⟩; have R1 := hide (d1.out.row hO).1; clear hO)
    | (go_at_call 14; refine (g2.out _ hb1).mono ?_; rintro e w2 ⟨u2, rfl, hO, hb⟩; have R1 := hide (R1.out.below hb); have R2 := hide (d1.out.row hO).1; have hb2 := Below.next hb1 hb; clear hO hb)
    | (go_at_call 15; refine (g3.out _ hb2).mono ?_; rintro e w3 ⟨u3, rfl, hO, hb⟩; have R1 := hide (R1.out.below hb); have R2 := hide (R2.out.below hb); have R3 := hide (d2.out.row hO).1; have hb3 := Below.next hb2 hb; clear hO hb)
    | (go_at_call 16; refine (g4.out _ hb3).mono ?_; rintro e w4 ⟨u4, rfl, hO, hb⟩; have R1 := hide (R1.out.below hb); have R2 := hide (R2.out.below hb); have R3 := hide (R3.out.below hb); have R4 := hide (d2.out.row hO).1; have hb4 := Below.next hb3 hb; clear hO hb)
    | (go_at_call 17; refine (g5.out _ hb4).mono ?_; rintro e w5 ⟨u5, rfl, hO, hb⟩; have R1 := hide (R1.out.below hb); have R2 := hide (R2.out.below hb); have R3 := hide (R3.out.below hb); have R4 := hide (R4.out.below hb); have R5 := hide (d3.out.row hO).1; have hb5 := Below.next hb4 hb; clear hO hb)
    | (go_at_call 18; refine (g6.out _ hb5).mono ?_; rintro e w6 ⟨u6, rfl, hO, hb⟩; have R1 := hide (R1.out.below hb); have R2 := hide (R2.out.below hb); have R3 := hide (R3.out.below hb); have R4 := hide (R4.out.below hb); have R5 := hide (R5.out.below hb); have R6 := hide (d3.out.row hO).1; have hb6 := Below.next hb5 hb; clear hO hb)
    | (go_at_call_of 9 u1; refine (Same_yes u1 u2 A _ R1.out R2.out).mono ?_; rintro e w7 ⟨rfl, hb⟩; have R3 := hide (R3.out.below hb); have R4 := hide (R4.out.below hb); have R5 := hide (R5.out.below hb); have R6 := hide (R6.out.below hb); have hb7 := Below.next hb6 hb; clear hb)
    | (go_at_call_of 9 u3; refine (Same_yes u3 u4 S _ R3.out R4.out).mono ?_; rintro e w8 ⟨rfl, hb⟩; have R5 := hide (R5.out.below hb); have R6 := hide (R6.out.below hb); have hb8 := Below.next hb7 hb; clear hb)
    | (go_at_call_of 9 u5; refine (Same_yes u5 u6 M _ R5.out R6.out).mono ?_; rintro e w9 ⟨rfl, hb⟩; have hb9 := Below.next hb8 hb; clear hb))
  go_ret
  exact ⟨by simp, hb9⟩

set_option maxRecDepth 100000 in
set_option maxHeartbeats 1000000 in
theorem pvals_any (f : Int) (v : Value) (xs : List Int) (x : Int) (w : World) (h1 : Rw w v xs) (hx : 0 ≤ x ∧ x ≤ 18446744073709551615) :
    Calls Try.prog 5 #[.int .u8 f, v, .int .u64 x] w fun e w' => e = .returned (.bool true) ∧ Below w.heap.size w w' := by
  have g1 := hide (pScale_any f x v xs w hx h1)
  have g2 := hide (fun W (hb : Below w.heap.size w W) => dScale_any f x v xs W hx (h1.below hb))
  have g3 := hide (fun W (hb : Below w.heap.size w W) => pEval_any f x v xs W hx (h1.below hb))
  have g4 := hide (fun W (hb : Below w.heap.size w W) => dEval_any f x v xs W hx (h1.below hb))
  have ga := hide (fun W => anch3 W)
  unfold Gives at g1 g2
  have d1 := hide (sclL_wd f x xs)
  generalize sclL f x xs = A at *
  generalize valE f x xs = y at *
  generalize er f [x] xs = e1 at *
  generalize er f xs [x] = e0 at *
  clear h1 hx
  go_enter Try.func5, Try.ntmps5
  go_wp2_with (first
    | (go_at_call 19; refine g1.out.mono ?_; rintro e w1 ⟨u1, rfl, hO, hb1⟩; have R1 := hide (d1.out.row hO).1; clear hO)
    | (go_at_call 20; refine (g2.out _ hb1).mono ?_; rintro e w2 ⟨u2, rfl, hO, hb⟩; have R1 := hide (R1.out.below hb); have R2 := hide (d1.out.row hO).1; have hb2 := Below.next hb1 hb; clear hO hb)
    | (go_at_call 21; refine (g3.out _ hb2).mono ?_; rintro e w3 ⟨rfl, hb⟩; have R1 := hide (R1.out.below hb); have R2 := hide (R2.out.below hb); have hb3 := Below.next hb2 hb; clear hb)
    | (go_at_call 22; refine (g4.out _ hb3).mono ?_; rintro e w4 ⟨rfl, hb⟩; have R1 := hide (R1.out.below hb); have R2 := hide (R2.out.below hb); have hb4 := Below.next hb3 hb; clear hb)
    | (go_at_call 9; refine (Same_yes u1 u2 A _ R1.out R2.out).mono ?_; rintro e w5 ⟨rfl, hb⟩; have hb5 := Below.next hb4 hb; clear hb)
    | (go_at_call 23; refine (ga.out _).mono ?_; rintro e w6 ⟨rfl, hb⟩; have hb6 := Below.next hb5 hb; clear hb))
  go_ret
  exact ⟨by simp, hb6⟩

end Go.Proofs.Ytdegpefhegmamaa
