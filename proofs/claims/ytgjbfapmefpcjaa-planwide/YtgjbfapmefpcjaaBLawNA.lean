/-
  The statements of layer 12: what the document fixes; PlanAll walked.
-/
import Derived.Test.YtgjbfapmefpcjaaBPlrA
namespace Go.Proofs.Ytgjbfapmefpcjaa
open Go.RowKit Pln
set_option linter.unusedVariables false
set_option linter.unusedSimpArgs false

/-- The plans that the document fixes. -/
def anQ : Pn := { f := 1, n := 11, k := 3, t := 1, s := 0, e := 2, d := 2, w := 1 }
def anR : Pn := { f := 1, n := 11, k := 3, t := 1, s := 1, e := 2, d := 2, w := 1 }
theorem an_vals : acE anQ = 0 ∧ ndV anR = 11 ∧ erP anR = 0 ∧ acE anR = 120 ∧ Ok8p anQ ∧ Ok8p anR := by unfold Ok8p I64; decide +kernel

set_option maxRecDepth 100000 in
set_option maxHeartbeats 400000 in
theorem eleven12 : Ans 27 #[] (plv anQ) := by
  intro w
  unfold plv plw anQ
  go_enter Try.func27, Try.ntmps27
  go_wp2
  refine bodyPost_ret (resCell1 (a := 0) (t := 24) (ad := ⟨w.heap.size, 0, none⟩) rfl rfl (load_plan (pb_new w anQ))) rfl ?_
  exact ⟨rfl, alloc_below _ _⟩

set_option maxRecDepth 100000 in
set_option maxHeartbeats 400000 in
theorem anch12 : Ans 18 #[] (.bool true) := by
  intro w
  have HE := hide eleven12
  have HA := hide (gAccept anQ an_vals.2.2.2.2.1)
  have HN := hide (gNeeded anR an_vals.2.2.2.2.2)
  have HB := hide (gAccept anR an_vals.2.2.2.2.2)
  rw [an_vals.1] at HA
  rw [an_vals.2.1, an_vals.2.2.1] at HN
  rw [an_vals.2.2.2.1] at HB
  unfold plv plw anQ at HE HA
  unfold plv plw anR at HN HB
  go_enter Try.func18, Try.ntmps18
  go_upto_region 3 with (first
    | (go_at_call 27; refine (HE.out _).mono ?_; rintro e w1 ⟨rfl, hb1⟩)
    | (go_at_call 16; refine (HA.out _).mono ?_; rintro e w2 ⟨rfl, hb2⟩))
  have pb1 := (pb_new w1 anQ).below hb2
  have hB2 := Below.next (Below.next hb1 (alloc_below _ _)) hb2
  have hg : w.heap.size ≤ w1.heap.size := hb1.size
  have pb2 := pb1.set (q := anR) 4 (.int .i64 1) rfl
  have hB3 := below_set (k := 4) (v := .int .i64 1) hB2 hg
  obtain ⟨c0, c1, c2, c3, c4, c5, c6, c7⟩ := pb1.cells
  have fz := pb1.free
  clear hb2 pb1
  generalize w1.heap.size = g at *
  go_upto_region 4 with fail
  generalize w2.setCell ⟨g, 4, none⟩ (.int .i64 1) = w3 at *
  clear c0 c1 c2 c3 c4 c5 c6 c7 fz
  obtain ⟨c0, c1, c2, c3, c4, c5, c6, c7⟩ := pb2.cells
  have HP := hide pb2
  clear pb2
  unfold anR at c0 c1 c2 c3 c4 c5 c6 c7
  go_wp2_with (first
    | (go_at_call 10; refine (HN.out _).mono ?_; rintro e w4 ⟨rfl, hb4⟩; clear c0 c1 c2 c3 c4 c5 c6 c7; obtain ⟨c0, c1, c2, c3, c4, c5, c6, c7⟩ := (HP.out.below hb4).cells; unfold anR at c0 c1 c2 c3 c4 c5 c6 c7)
    | (go_at_call 16; refine (HB.out _).mono ?_; rintro e w5 ⟨rfl, hb5⟩))
  go_ret
  exact ⟨rfl, Below.next (Below.next hB3 hb4) hb5⟩

set_option maxRecDepth 100000 in
set_option maxHeartbeats 1000000 in
theorem planAll_any (w : World) (p : Pn) (hp : Ok8p p) : Calls Try.prog 3 #[plv p] w fun e w' => e = .returned (.bool true) ∧ Below w.heap.size w w' := by
  have H0 := hide (gDegree p hp)
  have H1 := hide (dDegree p hp)
  have H2 := hide (gNeeded p hp)
  have H3 := hide (dNeeded p hp)
  have H4 := hide (gSpare p hp)
  have H5 := hide (dSpare p hp)
  have H6 := hide (gMay p hp)
  have H7 := hide (dMayP p hp)
  have H8 := hide (gAccept p hp)
  have H9 := hide (dAccept p hp)
  have HX := hide anch12
  obtain ⟨pb, hA⟩ := pb_box (w := w) p
  clear hp
  generalize dgV p = x1 at *
  generalize ndV p = x2 at *
  generalize spV p = x3 at *
  generalize erP p = x4 at *
  generalize acE p = x5 at *
  generalize mayP p = x6 at *
  unfold plv plw at *
  go_enter Try.func3, Try.ntmps3
  go_upto_region 7 with (first
    | (go_at_call 8; refine (H0.out _).mono ?_; rintro e w1 ⟨rfl, hb1⟩; have pb1 := hide (pb.below hb1); have hA1 := Below.next hA hb1; obtain ⟨c0, c1, c2, c3, c4, c5, c6, c7⟩ := pb1.out.cells)
    | (go_at_call 9; refine (H1.out _).mono ?_; rintro e w2 ⟨rfl, hb2⟩; have pb2 := hide (pb1.out.below hb2); have hA2 := Below.next hA1 hb2; clear c0 c1 c2 c3 c4 c5 c6 c7; obtain ⟨c0, c1, c2, c3, c4, c5, c6, c7⟩ := pb2.out.cells)
    | (go_at_call 10; refine (H2.out _).mono ?_; rintro e w3 ⟨rfl, hb3⟩; have pb3 := hide (pb2.out.below hb3); have hA3 := Below.next hA2 hb3; clear c0 c1 c2 c3 c4 c5 c6 c7; obtain ⟨c0, c1, c2, c3, c4, c5, c6, c7⟩ := pb3.out.cells)
    | (go_at_call 11; refine (H3.out _).mono ?_; rintro e w4 ⟨rfl, hb4⟩; have pb4 := hide (pb3.out.below hb4); have hA4 := Below.next hA3 hb4; clear c0 c1 c2 c3 c4 c5 c6 c7; obtain ⟨c0, c1, c2, c3, c4, c5, c6, c7⟩ := pb4.out.cells)
    | (go_at_call 12; refine (H4.out _).mono ?_; rintro e w5 ⟨rfl, hb5⟩; have pb5 := hide (pb4.out.below hb5); have hA5 := Below.next hA4 hb5; clear c0 c1 c2 c3 c4 c5 c6 c7; obtain ⟨c0, c1, c2, c3, c4, c5, c6, c7⟩ := pb5.out.cells)
    | (go_at_call 13; refine (H5.out _).mono ?_; rintro e w6 ⟨rfl, hb6⟩; have pb6 := hide (pb5.out.below hb6); have hA6 := Below.next hA5 hb6; clear c0 c1 c2 c3 c4 c5 c6 c7; obtain ⟨c0, c1, c2, c3, c4, c5, c6, c7⟩ := pb6.out.cells))
  clear c0 c1 c2 c3 c4 c5 c6 c7 pb
  have HBel := hide (fun W' (hb : Below w6.heap.size w6 W') => (pb6.out.below hb).cells)
  have hS0 := HBel.out _ ((Below.refl _ w6).drew)
  go_region_held3 (fun W' => W'.cell? ⟨w.heap.size, 0, none⟩ = some (.int .u8 p.f) ∧ W'.cell? ⟨w.heap.size, 1, none⟩ = some (.int .i64 p.n) ∧ W'.cell? ⟨w.heap.size, 2, none⟩ = some (.int .i64 p.k) ∧ W'.cell? ⟨w.heap.size, 3, none⟩ = some (.int .i64 p.t) ∧ W'.cell? ⟨w.heap.size, 4, none⟩ = some (.int .i64 p.s) ∧ W'.cell? ⟨w.heap.size, 5, none⟩ = some (.int .i64 p.e) ∧ W'.cell? ⟨w.heap.size, 6, none⟩ = some (.int .i64 p.d) ∧ W'.cell? ⟨w.heap.size, 7, none⟩ = some (.int .i64 p.w)) (first | with_reducible exact hS5 | with_reducible exact hS4 | with_reducible exact hS3 | with_reducible exact hS2 | with_reducible exact hS1 | with_reducible exact hS0) (first
    | (go_at_call 18; refine (HX.out _).mono ?_; rintro e w11 ⟨rfl, hb11⟩; have hC11 := Below.next hC10 hb11; have hS5 := HBel.out _ hC11)
    | (go_at_call 17; refine (H9.out _).mono ?_; rintro e w10 ⟨rfl, hb10⟩; have hC10 := Below.next hC9 hb10; have hS4 := HBel.out _ hC10)
    | (go_at_call 16; refine (H8.out _).mono ?_; rintro e w9 ⟨rfl, hb9⟩; have hC9 := Below.next hC8 hb9; have hS3 := HBel.out _ hC9)
    | (go_at_call 15; refine (H7.out _).mono ?_; rintro e w8 ⟨rfl, hb8⟩; have hC8 := Below.next hC7 hb8; have hS2 := HBel.out _ hC8)
    | (go_at_call 14; refine (H6.out _).mono ?_; rintro e w7 ⟨rfl, hb7⟩; have hC7 : Below w6.heap.size w6 w7 := (Below.refl _ w6).drew.trans hb7; have hS1 := HBel.out _ hC7))
  go_wp2
  go_ret
  exact ⟨rfl, Below.next hA6 hC11⟩

end Go.Proofs.Ytgjbfapmefpcjaa
