/-
  The statements of layer 13: PointsAll, PointsRows walked.
-/
import Derived.Test.YtifilgmjpflekaaBLawQA
namespace Go.Proofs.Ytifilgmjpflekaa
open Go.RowKit Fld Pln
set_option linter.unusedVariables false
set_option linter.unusedSimpArgs false

set_option maxRecDepth 100000 in
set_option maxHeartbeats 1000000 in
theorem pointsAll_any (w : World) (p : Pn) (x : Int) (hp : Ok8p p) (hx : 0 ≤ x ∧ x ≤ 18446744073709551615) : Calls Try.prog 3 #[plv p, .int .u64 x] w fun e w' => e = .returned (.bool true) ∧ Below w.heap.size w w' := by
  have H1 := hide (fun W => gData p W hp)
  have H2 := hide (fun W => dPart p 0 W hp)
  have H3 := hide (fun W => gPads p W hp)
  have H4 := hide (fun W => dPart p 1 W hp)
  have H5 := hide (fun W => gWorkers p W hp)
  have H6 := hide (fun W => dPart p 2 W hp)
  rw [show parL p 0 = datL p from rfl] at H2
  rw [show parL p 1 = padL p from rfl] at H4
  rw [show parL p 2 = wrkL p from rfl] at H6
  unfold Gives at H1 H2 H3 H4 H5 H6
  have H7 := hide (fun W => gWorker p x W hp hx)
  have H8 := hide (fun W => dWorker p x W hp hx)
  have HX := hide anch13
  have WD := hide (dat_wd p)
  obtain ⟨pb, hA⟩ := pb_box (w := w) p
  clear hp
  generalize datL p = d1 at *
  generalize padL p = d2 at *
  generalize wrkL p = d3 at *
  generalize erP p = x4 at *
  generalize wkI p x = x5 at *
  generalize wkB p x = x6 at *
  generalize wkE p x = x7 at *
  unfold plv plw at *
  obtain ⟨c0, c1, c2, c3, c4, c5, c6, c7⟩ := pb.cells
  have HPb := hide pb
  clear pb
  go_enter Try.func3, Try.ntmps3
  go_upto_region 9 with (first
    | (go_at_call 7; refine (H1.out _).mono ?_; rintro e w1 ⟨v1, rfl, hO1, hb1⟩; have hB1 := hb1; clear c0 c1 c2 c3 c4 c5 c6 c7; obtain ⟨c0, c1, c2, c3, c4, c5, c6, c7⟩ := (HPb.out.below hB1).cells)
    | (go_at_call 8; with_reducible refine (H6.out _).mono ?_; rintro e w6 ⟨v6, rfl, hO6, hb6⟩; have hB6 := Below.next hB5 hb6; clear c0 c1 c2 c3 c4 c5 c6 c7; obtain ⟨c0, c1, c2, c3, c4, c5, c6, c7⟩ := (HPb.out.below hB6).cells)
    | (go_at_call 8; with_reducible refine (H4.out _).mono ?_; rintro e w4 ⟨v4, rfl, hO4, hb4⟩; have hB4 := Below.next hB3 hb4; clear c0 c1 c2 c3 c4 c5 c6 c7; obtain ⟨c0, c1, c2, c3, c4, c5, c6, c7⟩ := (HPb.out.below hB4).cells)
    | (go_at_call 8; with_reducible refine (H2.out _).mono ?_; rintro e w2 ⟨v2, rfl, hO2, hb2⟩; have hB2 := Below.next hB1 hb2; clear c0 c1 c2 c3 c4 c5 c6 c7; obtain ⟨c0, c1, c2, c3, c4, c5, c6, c7⟩ := (HPb.out.below hB2).cells)
    | (go_at_call 9; refine (H3.out _).mono ?_; rintro e w3 ⟨v3, rfl, hO3, hb3⟩; have hB3 := Below.next hB2 hb3; clear c0 c1 c2 c3 c4 c5 c6 c7; obtain ⟨c0, c1, c2, c3, c4, c5, c6, c7⟩ := (HPb.out.below hB3).cells)
    | (go_at_call 10; refine (H5.out _).mono ?_; rintro e w5 ⟨v5, rfl, hO5, hb5⟩; have hB5 := Below.next hB4 hb5; clear c0 c1 c2 c3 c4 c5 c6 c7; obtain ⟨c0, c1, c2, c3, c4, c5, c6, c7⟩ := (HPb.out.below hB5).cells)
    | (go_at_call 11; refine (H7.out _).mono ?_; rintro e w7 ⟨rfl, hb7⟩; have hB7 := Below.next hB6 hb7; clear c0 c1 c2 c3 c4 c5 c6 c7; obtain ⟨c0, c1, c2, c3, c4, c5, c6, c7⟩ := (HPb.out.below hB7).cells)
    | (go_at_call 12; refine (H8.out _).mono ?_; rintro e w8 ⟨rfl, hb8⟩; have hB8 := Below.next hB7 hb8))
  have K7 := Below.next hb7 hb8
  have K6 := Below.next hb6 K7
  have K5 := Below.next hb5 K6
  have K4 := Below.next hb4 K5
  have K3 := Below.next hb3 K4
  have K2 := Below.next hb2 K3
  have r1 := hide (WD.out.1.row (own_below hO1 K2)).1
  have r2 := hide (WD.out.1.row (own_below hO2 K3)).1
  have r3 := hide (WD.out.2.1.row (own_below hO3 K4)).1
  have r4 := hide (WD.out.2.1.row (own_below hO4 K5)).1
  have r5 := hide (WD.out.2.2.row (own_below hO5 K6)).1
  have r6 := hide (WD.out.2.2.row (own_below hO6 K7)).1
  have hA8 := Below.next hA hB8
  clear hO1 hO2 hO3 hO4 hO5 hO6 K2 K3 K4 K5 K6 K7 hb1 hb2 hb3 hb4 hb5 hb6 hb7 hb8 hB1 hB2 hB3 hB4 hB5 hB6 hB7 hB8 c0 c1 c2 c3 c4 c5 c6 c7 HPb hA
  go_wp2_with (first
    | (go_at_call 13; with_reducible refine (Same_yes _ _ _ _ (r5.out.below (Below.next hb9 hb10)) (r6.out.below (Below.next hb9 hb10))).mono ?_; rintro e w11 ⟨rfl, hb11⟩; have hA11 := Below.next (Below.next (Below.next hA8 hb9) hb10) hb11)
    | (go_at_call 13; with_reducible refine (Same_yes _ _ _ _ (r3.out.below hb9) (r4.out.below hb9)).mono ?_; rintro e w10 ⟨rfl, hb10⟩)
    | (go_at_call 13; with_reducible refine (Same_yes _ _ _ _ r1.out r2.out).mono ?_; rintro e w9 ⟨rfl, hb9⟩)
    | (go_at_call 14; refine (HX.out _).mono ?_; rintro e w12 ⟨rfl, hb12⟩))
  go_ret
  exact ⟨rfl, Below.next hA11 hb12⟩

set_option maxRecDepth 100000 in
set_option maxHeartbeats 400000 in
theorem pointsRows_any (w : World) (p : Pn) (hp : Ok8p p) : Calls Try.prog 4 #[plv p] w fun e w' => e = .returned (.bool true) ∧ Below w.heap.size w w' := by
  have H1 := hide (fun W => gRows p W hp)
  have H2 := hide (fun W => dRows p W hp)
  unfold GivesL at H1 H2
  have HX := hide anch13
  have WD := hide (rws_wd p)
  obtain ⟨pb, hA⟩ := pb_box (w := w) p
  clear hp
  generalize rwsL p = rs at *
  generalize erP p = x4 at *
  unfold plv plw at *
  obtain ⟨c0, c1, c2, c3, c4, c5, c6, c7⟩ := pb.cells
  have HPb := hide pb
  clear pb
  go_enter Try.func4, Try.ntmps4
  go_wp2_with (first
    | (go_at_call 15; refine (H1.out _).mono ?_; rintro e w1 ⟨v1, us1, rfl, hL1, hb1⟩; clear c0 c1 c2 c3 c4 c5 c6 c7; obtain ⟨c0, c1, c2, c3, c4, c5, c6, c7⟩ := (HPb.out.below hb1).cells)
    | (go_at_call 16; refine (H2.out _).mono ?_; rintro e w2 ⟨v2, us2, rfl, hL2, hb2⟩; have r1 := hide ((hL1.below hb2).rws WD.out.1 (by have := WD.out.2; omega)); have r2 := hide (hL2.rws WD.out.1 (by have := WD.out.2; omega)); have hA2 := Below.next (Below.next hA hb1) hb2; clear hL1 hL2)
    | (go_at_call 17; refine (Rows_quiet _ _ _ _ r1.out r2.out).mono ?_; rintro e w5 ⟨rfl, m5, rfl⟩; have hB5 := below_drewN hA2 m5)
    | (go_at_call 14; refine (HX.out _).mono ?_; rintro e w6 ⟨rfl, hb6⟩))
  go_ret
  exact ⟨rfl, Below.next hB5 hb6⟩

end Go.Proofs.Ytifilgmjpflekaa
