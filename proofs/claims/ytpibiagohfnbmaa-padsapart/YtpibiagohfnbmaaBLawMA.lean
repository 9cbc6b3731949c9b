import Derived.Test.YtpibiagohfnbmaaBPdsG
set_option linter.unusedVariables false
set_option linter.unusedSimpArgs false
set_option maxRecDepth 100000
set_option maxHeartbeats 4000000
namespace Go.Proofs.Ytpibiagohfnbmaa
open Go.RowKit Fld Pln Rnk
theorem an_vals19 : tdL 1 [7, 2013265922, 9] 1 2 = [1, 9] ∧ tdN 1 [7, 2013265922, 9] 1 2 = 3 ∧ tdE 1 [7, 2013265922, 9] 1 2 = 0 ∧ tdL 1 [7] 1 1 = [] ∧ tdN 1 [7] 1 1 = 0 ∧ tdE 1 [7] 1 1 = 7 := by decide +kernel
theorem anch19 : Ans 14 #[] (.bool true) := by
 intro w
 obtain ⟨e1, e2, e3, e4, e5, e6⟩ := an_vals19
 have R1 := rw_new w [7, 2013265922, 9] (by decide) (by decide)
 have H1 := hide (gTake 1 _ _ 1 2 _ R1 (by decide) (by decide))
 have H2 := hide (fun W => gTake 1 _ _ 1 1 _ (rw_new W [7] (by decide) (by decide)) (by decide) (by decide))
 rw [e1, e2, e3] at H1
 rw [e4, e5, e6] at H2
 unfold GivesP at H1 H2
 have HS := hide (fun W v (hv : Rw W v [1, 9]) => Same_dec v (.slice (some ⟨W.heap.size, 0, none⟩) 2 2) [1, 9] [1, 9] _ ((hv.below (alloc_below W (.cells (vals [1, 9]).toArray 49))).1) (rw_new W [1, 9] (by decide) (by decide)).1)
 have hA := alloc_below w (.cells (vals [7, 2013265922, 9]).toArray 49)
 clear R1 e1 e2 e3 e4 e5 e6
 have q1 : (vals [7, 2013265922, 9]).toArray = #[.int .u64 7, .int .u64 2013265922, .int .u64 9] := rfl
 have q2 : (vals [7]).toArray = #[.int .u64 7] := rfl
 have q3 : (vals [1, 9]).toArray = #[.int .u64 1, .int .u64 9] := rfl
 rw [q1] at H1 hA
 rw [q2] at H2
 rw [q3] at HS
 clear q1 q2 q3
 simp only [List.length_cons, List.length_nil, Nat.reduceAdd, decide_true] at H1 H2 HS
 go_enter Try.func14, Try.ntmps14
 go_upto_region 2 with (go_at_call 6; refine H1.out.mono ?_; rintro e w1 ⟨v1, rfl, hO1, hb1⟩)
 have hB1 := Below.next hA hb1
 have r1 := hide (rw_of_own (xs := [1, 9]) hO1 (by decide) (by decide))
 have hal1 := alloc_below w1 (.cells #[.int .u64 7] 49)
 obtain ⟨a1, k1, rfl⟩ := own_form hO1
 clear hO1 H1 hA
 go_wp2_with (first
  | (go_at_call 6; refine (H2.out _).mono ?_; rintro e w2 ⟨v2, rfl, hO2, hb2⟩; have hC2 := Below.next hal1 hb2; have hB2 := Below.next hB1 hC2; have r2 := hide (r1.out.below hC2); obtain ⟨a2, k2, rfl⟩ := own_form hO2; clear hO2)
  | (go_at_call 12; refine (HS.out _ _ r2.out).mono ?_; rintro e w3 ⟨rfl, m, hw⟩; rw [hw]; clear hw))
 go_ret
 exact ⟨rfl, Below.next hB2 (Below.next (alloc_below _ _) (drewN_below _ _))⟩
theorem padsTakes_any (w : World) (p : Pn) (v : Value) (tape : List Int) (a m : Int) (hp : Ok8p p) (h : Rw w v tape) (ha : -9223372036854775808 <= a ∧ a <= 9223372036854775807) (hm : -9223372036854775808 <= m ∧ m <= 9223372036854775807) :
 Calls Try.prog 3 #[plv p, v, .agg #[.int .i64 a, .int .i64 m]] w fun e w' => e = .returned (.bool true) ∧ Below w.heap.size w w' := by
 have hlen := h.len
 have HG1 := hide (fun W (hb : Below w.heap.size w W) => gTake p.f v tape a m W (h.below hb) ha hm)
 have HD1 := hide (fun W (hb : Below w.heap.size w W) => dTake19 p.f v tape a m W (h.below hb) ha hm)
 have HG2 := hide (fun W (hb : Below w.heap.size w W) => gBlocks p v tape a W hp (h.below hb) ha)
 have HD2 := hide (fun W (hb : Below w.heap.size w W) => dBlocks19 p v tape a W hp (h.below hb) ha)
 have HG3 := hide (fun W (hb : Below w.heap.size w W) => gRounds p v tape a W hp (h.below hb) ha)
 have HD3 := hide (fun W (hb : Below w.heap.size w W) => dRounds19 p v tape a W hp (h.below hb) ha)
 unfold GivesP at HG1 HD1
 unfold GivesQ at HG2 HD2
 have HR1 := hide (fun W base v n (hO : World.ownsRow W base 49 1 v n (vals (tdL p.f tape a m))) => rw_of_own hO (td_wd p.f hlen a m).1 (td_wd p.f hlen a m).2)
 have HR2 := hide (fun W lo v us (hM : Mtx W lo v us (pdL p tape a)) => hM.rws (pd_wd p hlen a).2 (by have := (pd_wd p hlen a).1; omega))
 have HSm : Hid (∀ W v1 v2, Rw W v1 (tdL p.f tape a m) -> Rw W v2 (tdL p.f tape a m) -> Calls Try.prog 12 #[v1, v2] W fun e w' => e = .returned (.bool true) ∧ Below W.heap.size W w') := fun W v1 v2 x1 x2 => Same_yes v1 v2 _ W x1.1 x2.1
 have HRw : Hid (∀ W v1 v2, Rws W v1 (pdL p tape a) -> Rws W v2 (pdL p tape a) -> Calls Try.prog 13 #[v1, v2] W fun e w' => e = .returned (.bool true) ∧ Below W.heap.size W w') := fun W v1 v2 x1 x2 => (Rows_quiet v1 v2 _ W x1 x2).mono fun e w' ⟨he, n, hw⟩ => ⟨he, by rw [hw]; exact drewN_below W n⟩
 have HX := hide anch19
 obtain ⟨ao, cap, rfl, _⟩ := h.spell
 clear h hp ha hm
 generalize tdL p.f tape a m = zs at *
 generalize tdN p.f tape a m = n1 at *
 generalize tdE p.f tape a m = e1 at *
 generalize pdL p tape a = xss at *
 generalize pdN p tape a = n2 at *
 generalize pdE p tape a = e2 at *
 generalize rdN19 p tape a = n3 at *
 generalize rdE19 p tape a = e3 at *
 generalize tape.length = n at *
 generalize zs.length = n4 at *
 generalize xss.length = n5 at *
 unfold plv plw at *
 go_enter Try.func3, Try.ntmps3
 go_upto_region 1 with fail
 generalize hW0 : World.alloc (World.alloc w _) _ = W0
 obtain ⟨pb, ⟨gl, q0, q1⟩, hB0⟩ := pb_arr p hW0
 clear hW0
 have HS := hide (fun W' (hb : Below W0.heap.size W0 W') => show W'.cell? ⟨w.heap.size, 0, none⟩ = some (.int .u8 p.f) ∧ W'.cell? ⟨w.heap.size, 1, none⟩ = some (.int .i64 p.n) ∧ W'.cell? ⟨w.heap.size, 2, none⟩ = some (.int .i64 p.k) ∧ W'.cell? ⟨w.heap.size, 3, none⟩ = some (.int .i64 p.t) ∧ W'.cell? ⟨w.heap.size, 4, none⟩ = some (.int .i64 p.s) ∧ W'.cell? ⟨w.heap.size, 5, none⟩ = some (.int .i64 p.e) ∧ W'.cell? ⟨w.heap.size, 6, none⟩ = some (.int .i64 p.d) ∧ W'.cell? ⟨w.heap.size, 7, none⟩ = some (.int .i64 p.w) ∧ W'.cell? ⟨w.heap.size + 1, 0, none⟩ = some (.int .i64 a) ∧ W'.cell? ⟨w.heap.size + 1, 1, none⟩ = some (.int .i64 m) from by
  obtain ⟨c0, c1, c2, c3, c4, c5, c6, c7⟩ := (pb.below hb).cells
  exact ⟨c0, c1, c2, c3, c4, c5, c6, c7, (hb.cell (p := ⟨w.heap.size + 1, 0, none⟩) gl).trans q0, (hb.cell (p := ⟨w.heap.size + 1, 1, none⟩) gl).trans q1⟩)
 clear pb gl q0 q1
 have hC0 := Below.refl W0.heap.size W0
 obtain ⟨c0, c1, c2, c3, c4, c5, c6, c7, g0, g1⟩ := HS.out _ hC0
 go_wp2_with (first
  | (go_at_call 6; refine (HG1.out _ hB0).mono ?_; rintro e w1 ⟨v1, rfl, hO1, hb1⟩; have hB1 := Below.next hB0 hb1; have hC1 := Below.next hC0 hb1; clear c0 c1 c2 c3 c4 c5 c6 c7 g0 g1; obtain ⟨c0, c1, c2, c3, c4, c5, c6, c7, g0, g1⟩ := HS.out _ hC1; have r1 := hide (HR1.out _ _ _ _ hO1); obtain ⟨a1, k1, rfl⟩ := own_form hO1; clear hO1)
  | (go_at_call 7; refine (HD1.out _ hB1).mono ?_; rintro e w2 ⟨v2, rfl, hO2, hb2⟩; have hB2 := Below.next hB1 hb2; have hC2 := Below.next hC1 hb2; clear c0 c1 c2 c3 c4 c5 c6 c7 g0 g1; obtain ⟨c0, c1, c2, c3, c4, c5, c6, c7, g0, g1⟩ := HS.out _ hC2; have r1b := hide (r1.out.below hb2); have r2 := hide (HR1.out _ _ _ _ hO2); obtain ⟨a2, k2, rfl⟩ := own_form hO2; clear hO2 r1)
  | (go_at_call 8; refine (HG2.out _ hB2).mono ?_; rintro e w3 ⟨v3, us3, rfl, hM3, hb3⟩; have hB3 := Below.next hB2 hb3; have hC3 := Below.next hC2 hb3; clear c0 c1 c2 c3 c4 c5 c6 c7 g0 g1; obtain ⟨c0, c1, c2, c3, c4, c5, c6, c7, g0, g1⟩ := HS.out _ hC3; have r1c := hide (r1b.out.below hb3); have r2b := hide (r2.out.below hb3); have r3 := hide (HR2.out _ _ _ _ hM3); obtain ⟨a3, k3, rfl⟩ := own_form hM3.row; clear hM3 r1b r2)
  | (go_at_call 9; refine (HD2.out _ hB3).mono ?_; rintro e w4 ⟨v4, us4, rfl, hM4, hb4⟩; have hB4 := Below.next hB3 hb4; have hC4 := Below.next hC3 hb4; clear c0 c1 c2 c3 c4 c5 c6 c7 g0 g1; obtain ⟨c0, c1, c2, c3, c4, c5, c6, c7, g0, g1⟩ := HS.out _ hC4; have r1d := hide (r1c.out.below hb4); have r2c := hide (r2b.out.below hb4); have r3b := hide (r3.out.below hb4); have r4 := hide (HR2.out _ _ _ _ hM4); obtain ⟨a4, k4, rfl⟩ := own_form hM4.row; clear hM4 r1c r2b r3)
  | (go_at_call 10; refine (HG3.out _ hB4).mono ?_; rintro e w5 ⟨rfl, hb5⟩; have hB5 := Below.next hB4 hb5; have hC5 := Below.next hC4 hb5; clear c0 c1 c2 c3 c4 c5 c6 c7 g0 g1; obtain ⟨c0, c1, c2, c3, c4, c5, c6, c7, g0, g1⟩ := HS.out _ hC5; skip)
  | (go_at_call 11; refine (HD3.out _ hB5).mono ?_; rintro e w6 ⟨rfl, hb6⟩; have hB6 := Below.next hB5 hb6; have hC6 := Below.next hC5 hb6; clear c0 c1 c2 c3 c4 c5 c6 c7 g0 g1; obtain ⟨c0, c1, c2, c3, c4, c5, c6, c7, g0, g1⟩ := HS.out _ hC6; have hbb := Below.next hb5 hb6; have r1e := hide (r1d.out.below hbb); have r2d := hide (r2c.out.below hbb); have r3c := hide (r3b.out.below hbb); have r4b := hide (r4.out.below hbb))
  | (go_at_call 12; refine (HSm.out _ _ _ r1e.out r2d.out).mono ?_; rintro e w7 ⟨rfl, hb7⟩; have r3d := hide (r3c.out.below hb7); have r4c := hide (r4b.out.below hb7))
  | (go_at_call 13; refine (HRw.out _ _ _ r3d.out r4c.out).mono ?_; rintro e w8 ⟨rfl, hb8⟩)
  | (go_at_call 14; refine (HX.out _).mono ?_; rintro e w9 ⟨rfl, hb9⟩))
 go_ret
 exact ⟨rfl, Below.next (Below.next (Below.next hB6 hb7) hb8) hb9⟩
end Go.Proofs.Ytpibiagohfnbmaa
