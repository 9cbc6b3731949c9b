/-
  The statements of layer 12: PlanTurns, PlanLeft walked.
-/
import Derived.Test.YtgjbfapmefpcjaaBLawNA
import Derived.Test.YtgjbfapmefpcjaaBPlrB
namespace Go.Proofs.Ytgjbfapmefpcjaa
open Go.RowKit Pln
set_option linter.unusedVariables false
set_option linter.unusedSimpArgs false

/-- A plan laid into a new block. -/
theorem pb_lay {w W : World} (q : Pn) (hW : w.alloc (.cells #[.int .u8 q.f, .int .i64 q.n, .int .i64 q.k, .int .i64 q.t, .int .i64 q.s, .int .i64 q.e, .int .i64 q.d, .int .i64 q.w] 24) = W) : Pb W w.heap.size q ∧ Below w.heap.size w W := by
  subst hW; exact ⟨pb_new w q, alloc_below _ _⟩

set_option maxRecDepth 100000 in
set_option maxHeartbeats 1000000 in
theorem planTurns_any (w : World) (p : Pn) (c : Int) (hp : Ok8p p) (hc : I64 c) : Calls Try.prog 4 #[plv p, .int .i64 c] w fun e w' => e = .returned (.bool true) ∧ Below w.heap.size w w' := by
  have H1 := hide (gWidest p hp)
  have H2 := hide (dWidest p hp)
  have H3 := hide (gWithout p c hp hc)
  have H4 := hide (dWithout p c hp hc)
  have HX := hide anch12
  clear hp hc
  generalize wiP p = q at *
  generalize wiE p = x at *
  generalize woP p c = r at *
  generalize woE p c = y at *
  obtain ⟨pb, hA⟩ := pb_box (w := w) p
  have PB0 := hide pb
  have HA0 := hide hA
  clear pb hA
  unfold plv plw at *
  go_enter Try.func4, Try.ntmps4
  go_upto_region 2 with (go_at_call 19; refine (H1.out _).mono ?_; rintro e w1 ⟨rfl, hb1⟩)
  generalize hW : World.alloc w1 _ = W1
  obtain ⟨q1, hC1⟩ := pb_lay q hW
  clear hW
  have PB1 := hide ((PB0.out.below hb1).below hC1)
  have HA1 := hide (Below.next (Below.next HA0.out hb1) hC1)
  have Q1 := hide q1
  clear hb1 hC1 q1 PB0 HA0
  obtain ⟨c0, c1, c2, c3, c4, c5, c6, c7⟩ := PB1.out.cells
  go_upto_region 3 with (go_at_call 20; refine (H2.out _).mono ?_; rintro e w2 ⟨rfl, hb2⟩)
  clear c0 c1 c2 c3 c4 c5 c6 c7
  generalize hW : World.alloc w2 _ = W2
  obtain ⟨q2, hC2⟩ := pb_lay q hW
  clear hW
  have PB2 := hide ((PB1.out.below hb2).below hC2)
  have HA2 := hide (Below.next (Below.next HA1.out hb2) hC2)
  have R1 := hide ((Q1.out.below hb2).below hC2)
  have Q2 := hide q2
  clear hb2 hC2 q2 PB1 HA1 Q1
  obtain ⟨c0, c1, c2, c3, c4, c5, c6, c7⟩ := PB2.out.cells
  go_upto_region 4 with (go_at_call 21; refine (H3.out _).mono ?_; rintro e w3 ⟨rfl, hb3⟩)
  clear c0 c1 c2 c3 c4 c5 c6 c7
  generalize hW : World.alloc w3 _ = W3
  obtain ⟨q3, hC3⟩ := pb_lay r hW
  clear hW
  have PB3 := hide ((PB2.out.below hb3).below hC3)
  have HA3 := hide (Below.next (Below.next HA2.out hb3) hC3)
  have S1 := hide ((R1.out.below hb3).below hC3)
  have S2 := hide ((Q2.out.below hb3).below hC3)
  have Q3 := hide q3
  clear hb3 hC3 q3 PB2 HA2 R1 Q2
  obtain ⟨c0, c1, c2, c3, c4, c5, c6, c7⟩ := PB3.out.cells
  go_upto_region 5 with (go_at_call 22; refine (H4.out _).mono ?_; rintro e w4 ⟨rfl, hb4⟩)
  clear c0 c1 c2 c3 c4 c5 c6 c7
  generalize hW : World.alloc w4 _ = W4
  obtain ⟨q4, hC4⟩ := pb_lay r hW
  clear hW
  have HA4 := hide (Below.next (Below.next HA3.out hb4) hC4)
  have T1 := hide ((S1.out.below hb4).below hC4)
  have T2 := hide ((S2.out.below hb4).below hC4)
  have T3 := hide ((Q3.out.below hb4).below hC4)
  clear hb4 hC4 PB3 HA3 S1 S2 Q3
  obtain ⟨c0, c1, c2, c3, c4, c5, c6, c7⟩ := T1.out.cells
  obtain ⟨d0, d1, d2, d3, d4, d5, d6, d7⟩ := T2.out.cells
  obtain ⟨e0, e1, e2, e3, e4, e5, e6, e7⟩ := T3.out.cells
  obtain ⟨f0, f1, f2, f3, f4, f5, f6, f7⟩ := q4.cells
  go_wp2_with (go_at_call 18; refine (HX.out _).mono ?_; rintro e w5 ⟨rfl, hb5⟩)
  go_ret
  exact ⟨rfl, Below.next HA4.out hb5⟩

theorem acE_zero {p : Pn} : acE p = 0 ↔ mayP p = true ∧ acc p := by
  cases hm : mayP p with
  | false => rw [acE_no hm]; simp
  | true =>
    rw [acE_yes hm, spare_acc]
    by_cases c : spare p < 0
    · rw [if_pos c]; constructor <;> (intro h; first | (cases h; done) | (have := h.2; omega))
    · rw [if_neg c]; exact ⟨fun _ => ⟨rfl, by omega⟩, fun _ => rfl⟩

set_option maxRecDepth 100000 in
set_option maxHeartbeats 1000000 in
theorem planLeft_any (w : World) (p : Pn) (c : Int) (hp : Ok8p p) (hc : 0 ≤ c ∧ c ≤ 255) : Calls Try.prog 7 #[plv p, .int .u8 c] w fun e w' => e = .returned (.bool true) ∧ Below w.heap.size w w' := by
  have H1 := hide (gAccept p hp)
  have H3 := hide (gWithout p c hp (by unfold I64; omega))
  have HX := hide anch12
  have HP := hide hp
  obtain ⟨hc0, hc1⟩ := hc
  obtain ⟨pb, hA⟩ := pb_box (w := w) p
  have PB0 := hide pb
  have HA0 := hide hA
  clear pb hA hp
  by_cases ha : acE p = 0
  · obtain ⟨hm, hac⟩ := acE_zero.1 ha
    rw [ha] at H1
    obtain ⟨⟨n0, n1⟩, _, _, _, ⟨e0, e1⟩, _, _⟩ := may_facts hm
    by_cases hb : c ≤ p.e ∧ c < p.n
    · obtain ⟨b0, b1⟩ := hb
      have hq : woP p c = { p with n := p.n - c, e := p.e - c } := by unfold woP; rw [if_pos ⟨hm, hc0, b1⟩, if_neg (by omega)]
      have hy : woE p c = 0 := by unfold woE; rw [if_pos ⟨hm, hc0, b1⟩]
      rw [hq, hy] at H3
      have hl := less_acc (fd := fdB) hm hac hc0 b0
      have hle : less p c = { p with n := p.n - c, e := p.e - c } := by unfold less; rw [show min c p.e = c by omega]
      rw [hle] at hl
      have hok : Ok8p { p with n := p.n - c, e := p.e - c } := by
        have := HP.out
        unfold Ok8p I64 at this ⊢
        dsimp only
        omega
      have H4 := hide (gAccept _ hok)
      rw [acE_zero.2 hl] at H4
      clear hm hac ha hq hy hl hle hok HP
      unfold plv plw at *
      dsimp only at H3 H4
      go_enter Try.func7, Try.ntmps7
      go_upto_region 3 with (go_at_call 16; refine (H1.out _).mono ?_; rintro e w1 ⟨rfl, hb1⟩; have PB1 := hide (PB0.out.below hb1); obtain ⟨c0, c1, c2, c3, c4, c5, c6, c7⟩ := PB1.out.cells)
      go_upto_region 4 with (go_at_call 21; refine (H3.out _).mono ?_; rintro e w3 ⟨rfl, hb3⟩)
      clear c0 c1 c2 c3 c4 c5 c6 c7
      generalize hW : World.alloc w3 _ = W3
      obtain ⟨q3, hC3⟩ := pb_lay { p with n := p.n - c, e := p.e - c } hW
      clear hW
      have PB3 := hide ((PB1.out.below hb3).below hC3)
      have HA3 := hide (Below.next (Below.next (Below.next HA0.out hb1) hb3) hC3)
      have Q3 := hide q3
      clear hb1 hb3 hC3 q3 PB1 HA0
      go_wp2_with (first
        | (go_at_call 18; refine (HX.out _).mono ?_; rintro e w5 ⟨rfl, hb5⟩; have PB5 := hide (PB3.out.below hb5); have Q5 := hide (Q3.out.below hb5); obtain ⟨c0, c1, c2, c3, c4, c5, c6, c7⟩ := PB5.out.cells; obtain ⟨d0, d1, d2, d3, d4, d5, d6, d7⟩ := Q5.out.cells; dsimp only at d0 d1 d2 d3 d4 d5 d6 d7)
        | (go_at_call 16; refine (H4.out _).mono ?_; rintro e w6 ⟨rfl, hb6⟩; clear c0 c1 c2 c3 c4 c5 c6 c7 d0 d1 d2 d3 d4 d5 d6 d7; obtain ⟨c0, c1, c2, c3, c4, c5, c6, c7⟩ := (PB5.out.below hb6).cells; obtain ⟨d0, d1, d2, d3, d4, d5, d6, d7⟩ := (Q5.out.below hb6).cells; dsimp only at d0 d1 d2 d3 d4 d5 d6 d7))
      go_ret
      exact ⟨rfl, Below.next (Below.next HA3.out hb5) hb6⟩
    · have hb2 : p.e < c ∨ (c ≤ p.e ∧ p.n ≤ c) := by omega
      clear hb hm hac ha H3 HP
      unfold plv plw at *
      rcases hb2 with hb | ⟨hb, hb3⟩
      all_goals
        go_enter Try.func7, Try.ntmps7
        go_wp2_with (first
          | (go_at_call 16; refine (H1.out _).mono ?_; rintro e w1 ⟨rfl, hb1⟩; have PB1 := hide (PB0.out.below hb1); obtain ⟨c0, c1, c2, c3, c4, c5, c6, c7⟩ := PB1.out.cells)
          | (go_at_call 18; refine (HX.out _).mono ?_; rintro e w2 ⟨rfl, hb2⟩))
        go_ret
        exact ⟨rfl, Below.next (Below.next HA0.out hb1) hb2⟩
  · generalize acE p = x at *
    clear H3 HP
    unfold plv plw at *
    go_enter Try.func7, Try.ntmps7
    go_wp2_with (first
      | (go_at_call 16; refine (H1.out _).mono ?_; rintro e w1 ⟨rfl, hb1⟩)
      | (go_at_call 18; refine (HX.out _).mono ?_; rintro e w2 ⟨rfl, hb2⟩))
    go_ret
    exact ⟨rfl, Below.next (Below.next HA0.out hb1) hb2⟩

end Go.Proofs.Ytgjbfapmefpcjaa
