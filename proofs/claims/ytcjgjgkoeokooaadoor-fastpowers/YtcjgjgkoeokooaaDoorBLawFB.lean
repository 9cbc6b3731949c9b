/-
  FastTransforms' walk, and FastPowers'.
-/
import Derived.Test.YtcjgjgkoeokooaaDoorBLawFA
namespace Go.Proofs.YtcjgjgkoeokooaaDoor
open Go.RowKit Fld
set_option linter.unusedVariables false

set_option maxRecDepth 100000 in
set_option maxHeartbeats 400000 in
theorem ftrans_any (f : Int) (v1 v2 : Value) (xs ys : List Int) (w : World) (h1 : Rw w v1 xs) (h2 : Rw w v2 ys) (hT : Tb w) :
    Calls Tryd.prog 4 #[.int .u8 f, v1, v2] w fun e w' => e = .returned (.bool true) ∧ Below w.heap.size w w' := by
  have g1 := hide (fTransform_any f v1 xs w h1 hT)
  have g2 := hide (fun W (hb : Below w.heap.size w W) => dTransform_any f v1 xs W (h1.below hb))
  have g3 := hide (fun W (hb : Below w.heap.size w W) => fBack_any f v1 xs W (h1.below hb) (hT.below hb))
  have g4 := hide (fun W (hb : Below w.heap.size w W) => dBack_any f v1 xs W (h1.below hb))
  have g5 := hide (fun W (hb : Below w.heap.size w W) => fRound_any f v1 v2 xs ys W (h1.below hb) (h2.below hb) (hT.below hb))
  have g6 := hide (fun W (hb : Below w.heap.size w W) => dRound_any f v1 v2 xs ys W (h1.below hb) (h2.below hb))
  unfold Gives at g1 g2 g3 g4 g5 g6
  have d1 := hide (trL_wd f xs)
  have d2 := hide (bkL_wd f xs)
  have d3 := hide (rdM_wd f xs ys)
  generalize trL f xs = A at *
  generalize bkL f xs = B at *
  generalize rdM f xs ys = C at *
  generalize trE f xs = e1 at *
  generalize rdE f xs ys = e2 at *
  obtain ⟨a1, c1, rfl, _⟩ := h1.spell
  obtain ⟨a2, c2, rfl, _⟩ := h2.spell
  clear h1 h2 hT
  go_enter Tryd.func4, Tryd.ntmps4
  go_wp2_with fail
  refine g1.out.mono ?_; rintro e w1 ⟨u1, rfl, hO, hb1⟩
  have R1 := hide (d1.out.row hO).1
  clear hO
  go_wp2_with fail
  refine (g2.out _ hb1).mono ?_; rintro e w2 ⟨u2, rfl, hO, hb⟩
  have R1 := hide (R1.out.below hb)
  have R2 := hide (d1.out.row hO).1
  have hb2 := Below.next hb1 hb
  clear hO hb hb1
  go_wp2_with fail
  refine (g3.out _ hb2).mono ?_; rintro e w3 ⟨u3, rfl, hO, hb⟩
  have R1 := hide (R1.out.below hb)
  have R2 := hide (R2.out.below hb)
  have R3 := hide (d2.out.row hO).1
  have hb3 := Below.next hb2 hb
  clear hO hb hb2
  go_wp2_with fail
  refine (g4.out _ hb3).mono ?_; rintro e w4 ⟨u4, rfl, hO, hb⟩
  have R1 := hide (R1.out.below hb)
  have R2 := hide (R2.out.below hb)
  have R3 := hide (R3.out.below hb)
  have R4 := hide (d2.out.row hO).1
  have hb4 := Below.next hb3 hb
  clear hO hb hb3
  go_wp2_with fail
  refine (g5.out _ hb4).mono ?_; rintro e w5 ⟨u5, rfl, hO, hb⟩
  have R1 := hide (R1.out.below hb)
  have R2 := hide (R2.out.below hb)
  have R3 := hide (R3.out.below hb)
  have R4 := hide (R4.out.below hb)
  have R5 := hide (d3.out.row hO).1
  have hb5 := Below.next hb4 hb
  clear hO hb hb4
  go_wp2_with fail
  refine (g6.out _ hb5).mono ?_; rintro e w6 ⟨u6, rfl, hO, hb⟩
  have R1 := hide (R1.out.below hb)
  have R2 := hide (R2.out.below hb)
  have R3 := hide (R3.out.below hb)
  have R4 := hide (R4.out.below hb)
  have R5 := hide (R5.out.below hb)
  have R6 := hide (d3.out.row hO).1
  have hb6 := Below.next hb5 hb
  clear hO hb hb5
  go_wp2_with fail
  refine (Same_yes u1 u2 A _ R1.out R2.out).mono ?_; rintro e w7 ⟨rfl, hb⟩
  have R3 := hide (R3.out.below hb)
  have R4 := hide (R4.out.below hb)
  have R5 := hide (R5.out.below hb)
  have R6 := hide (R6.out.below hb)
  have hb7 := Below.next hb6 hb
  clear hb hb6
  go_wp2_with fail
  refine (Same_yes u3 u4 B _ R3.out R4.out).mono ?_; rintro e w8 ⟨rfl, hb⟩
  have R5 := hide (R5.out.below hb)
  have R6 := hide (R6.out.below hb)
  have hb8 := Below.next hb7 hb
  clear hb hb7
  go_wp2_with fail
  refine (Same_yes u5 u6 C _ R5.out R6.out).mono ?_; rintro e w9 ⟨rfl, hb⟩
  have hb9 := Below.next hb8 hb
  clear hb hb8
  go_wp2
  go_ret
  exact ⟨by simp, hb9⟩

set_option maxRecDepth 100000 in
set_option maxHeartbeats 400000 in
theorem fpows_any (f n : Int) (v1 : Value) (xs : List Int) (w : World) (hn0 : -9223372036854775808 ≤ n) (hn1 : n ≤ 9223372036854775807) (h1 : Rw w v1 xs) (hT : Tb w) :
    Calls Tryd.prog 5 #[.int .u8 f, v1, .int .i64 n] w fun e w' => e = .returned (.bool true) ∧ Below w.heap.size w w' := by
  have g1 := hide (fPower_any f n v1 xs w hn0 hn1 h1 hT)
  have g2 := hide (fun W (hb : Below w.heap.size w W) => dPower_any f n v1 xs W hn0 hn1 (h1.below hb))
  have ga := hide (fun W (hb : Below w.heap.size w W) => anch4 W (hT.below hb))
  unfold PowGets at g1 g2
  generalize powE f xs n = e1 at *
  obtain ⟨a1, c1, rfl, _⟩ := h1.spell
  clear h1 hT
  go_enter Tryd.func5, Tryd.ntmps5
  go_wp2_with fail
  refine g1.out.mono ?_; rintro e w1 ⟨u1, z1, rfl, p1, r1, hb1⟩
  have R1 := hide r1.1
  have P1 := hide p1
  clear r1 p1
  go_wp2_with fail
  refine (g2.out _ hb1).mono ?_; rintro e w2 ⟨u2, z2, rfl, p2, r2, hb⟩
  have hz : Hid (z2 = z1) := p2.only P1.out
  have R1 := hide (R1.out.below hb)
  have R2 := hide r2.1
  rw [hz.out] at R2
  have hb2 := Below.next hb1 hb
  clear r2 p2 hb hb1 hz
  go_wp2_with fail
  refine (Same_yes u1 u2 z1 _ R1.out R2.out).mono ?_; rintro e w7 ⟨rfl, hb⟩
  have hb7 := Below.next hb2 hb
  clear hb hb2
  go_wp2_with fail
  refine (ga.out _ hb7).mono ?_; rintro e w8 ⟨rfl, hb⟩
  have hb8 := Below.next hb7 hb
  go_wp2
  go_ret
  exact ⟨by simp, hb8⟩

end Go.Proofs.YtcjgjgkoeokooaaDoor
