/-
  The statements of layer 12: PlanWide walked.
-/
import Derived.Test.YtgjbfapmefpcjaaBLawNB
namespace Go.Proofs.Ytgjbfapmefpcjaa
open Go.RowKit Pln
set_option linter.unusedVariables false
set_option linter.unusedSimpArgs false

theorem wide_facts {p : Pn} (hm : mayP p = true) (hz : ¬ wide p (tpK p) = 0) : wiE p = 0 ∧ wiP p = kp p (wide p (tpK p)) ∧ wide p (tpK p) ≤ 64 ∧ acE (kp p (wide p (tpK p))) = 0 ∧ ∀ k, wide p (tpK p) < k → ¬ acE (kp p k) = 0 := by
  have ht := tpK_le hm
  refine ⟨by unfold wiE; rw [if_pos hm, if_neg hz], by unfold wiP wdP; rw [if_pos hm, if_neg hz], Nat.le_trans (wide_le _ _) ht.2.1, acE_zero.2 ⟨kp_may hm (by omega) (wide_le _ _), wide_acc p _ (by omega)⟩, fun k hk h => ?_⟩
  obtain ⟨h1, h2⟩ := acE_zero.1 h
  rcases Nat.lt_or_ge (tpK p) k with h3 | h3
  · rw [kp_no hm h3] at h1; cases h1
  · have := wide_most p (tpK p) k (by omega) h3 h2
    omega

set_option maxRecDepth 100000 in
set_option maxHeartbeats 1000000 in
theorem planWide_any (w : World) (p : Pn) (hp : Ok8p p) : Calls Try.prog 6 #[plv p] w fun e w' => e = .returned (.bool true) ∧ Below w.heap.size w w' := by
  have H1 := hide (gWidest p hp)
  have H2 := hide (dMayP p hp)
  have HX := hide anch12
  obtain ⟨pb, hA⟩ := pb_box (w := w) p
  have PB0 := hide pb
  have HA0 := hide hA
  clear pb hA
  cases hm : mayP p with
  | false =>
    have e1 : wiP p = zP := by unfold wiP; rw [hm]; rfl
    have e2 : wiE p = 2 := by unfold wiE; rw [hm]; rfl
    rw [e1, e2] at H1
    rw [hm] at H2
    clear hm e1 e2 hp
    unfold plv plw at *
    unfold zP at H1
    go_enter Try.func6, Try.ntmps6
    go_upto_region 2 with (go_at_call 19; refine (H1.out _).mono ?_; rintro e w1 ⟨rfl, hb1⟩)
    generalize hW : World.alloc w1 _ = W1
    obtain ⟨q1, hC1⟩ := pb_lay zP hW
    clear hW
    have PB1 := hide ((PB0.out.below hb1).below hC1)
    have HA1 := hide (Below.next (Below.next HA0.out hb1) hC1)
    have Q1 := hide q1
    clear hb1 hC1 q1
    obtain ⟨c0, c1, c2, c3, c4, c5, c6, c7⟩ := PB1.out.cells
    go_wp2_with (first
      | (go_at_call 18; refine (HX.out _).mono ?_; rintro e w3 ⟨rfl, hb3⟩; obtain ⟨d0, d1, d2, d3, d4, d5, d6, d7⟩ := (Q2.out.below hb3).cells; unfold zP at d0 d1 d2 d3 d4 d5 d6 d7; dsimp only at d0 d1 d2 d3 d4 d5 d6 d7)
      | (go_at_call 15; refine (H2.out _).mono ?_; rintro e w2 ⟨rfl, hb2⟩; clear c0 c1 c2 c3 c4 c5 c6 c7; have Q2 := hide (Q1.out.below hb2)))
    go_ret
    exact ⟨rfl, Below.next (Below.next HA1.out hb2) hb3⟩
  | true =>
    rw [hm] at H2
    by_cases hz : wide p (tpK p) = 0
    · have e1 : wiP p = zP := by unfold wiP wdP; rw [if_pos hm, if_pos hz]
      have e2 : wiE p = 120 := by unfold wiE; rw [if_pos hm, if_pos hz]
      rw [e1, e2] at H1
      have ht := tpK_le hm
      have hna : ¬ acE (kp p 1) = 0 := fun h => by
        obtain ⟨h1, h2⟩ := acE_zero.1 h
        have := wide_most p (tpK p) 1 (by omega) (by omega) h2
        omega
      have H4 := hide (gAccept (kp p 1) (kp_ok hp (by omega)))
      generalize acE (kp p 1) = x at *
      have hx : (x != 0) = true := bne_iff_ne.2 hna
      clear hm e1 e2 hp hz ht
      unfold plv plw at *
      unfold zP at H1
      unfold kp at H4
      dsimp only at H4
      go_enter Try.func6, Try.ntmps6
      go_upto_region 2 with (go_at_call 19; refine (H1.out _).mono ?_; rintro e w1 ⟨rfl, hb1⟩)
      generalize hW : World.alloc w1 _ = W1
      obtain ⟨q1, hC1⟩ := pb_lay zP hW
      clear hW
      have PB1 := hide ((PB0.out.below hb1).below hC1)
      have HA1 := hide (Below.next (Below.next HA0.out hb1) hC1)
      have hg1 : w.heap.size < w1.heap.size := (PB0.out.below hb1).lt
      have Q1 := hide q1
      clear hb1 hC1 q1
      obtain ⟨c0, c1, c2, c3, c4, c5, c6, c7⟩ := PB1.out.cells
      go_upto_region 6 with (go_at_call 15; refine (H2.out _).mono ?_; rintro e w2 ⟨rfl, hb2⟩; have Q2 := hide (Q1.out.below hb2); have PB2 := hide (PB1.out.below hb2); clear c0 c1 c2 c3 c4 c5 c6 c7; obtain ⟨c0, c1, c2, c3, c4, c5, c6, c7⟩ := PB2.out.cells; have fz := PB2.out.free)
      have P3 := hide (PB2.out.set (q := kp p 1) 2 (.int .i64 1) rfl)
      have Q3 := hide (Q2.out.other (g' := w.heap.size) (by omega) 2 (.int .i64 1))
      have HA3 := hide (below_set (k := 2) (v := .int .i64 1) (g := w.heap.size) (Below.next HA1.out hb2) (Nat.le_refl _))
      generalize w2.setCell ⟨w.heap.size, 2, none⟩ (.int .i64 1) = W3 at *
      clear c0 c1 c2 c3 c4 c5 c6 c7 fz
      go_wp2_with (first
        | (go_at_call 18; refine (HX.out _).mono ?_; rintro e w3 ⟨rfl, hb3⟩; obtain ⟨d0, d1, d2, d3, d4, d5, d6, d7⟩ := (Q3.out.below hb3).cells; unfold zP at d0 d1 d2 d3 d4 d5 d6 d7; dsimp only at d0 d1 d2 d3 d4 d5 d6 d7; obtain ⟨c0, c1, c2, c3, c4, c5, c6, c7⟩ := (P3.out.below hb3).cells; unfold kp at c0 c1 c2 c3 c4 c5 c6 c7; dsimp only at c0 c1 c2 c3 c4 c5 c6 c7)
        | (go_at_call 16; refine (H4.out _).mono ?_; rintro e w4 ⟨rfl, hb4⟩))
      go_ret
      exact ⟨rfl, Below.next (Below.next HA3.out hb3) hb4⟩
    · obtain ⟨f1, f2, f3, f4, f5⟩ := wide_facts hm hz
      rw [f1, f2] at H1
      have HK := hide (fun k (hk : k ≤ 64) => gAccept (kp p k) (kp_ok hp hk))
      have HN := hide f5
      have H5 := hide (gAccept _ (kp_ok hp f3))
      rw [f4] at H5
      generalize wide p (tpK p) = K at *
      clear hm hz hp f1 f2 f4 f5
      unfold plv plw at H1 H2 H5 ⊢
      unfold kp at H1 H5
      dsimp only at H1 H5
      go_enter Try.func6, Try.ntmps6
      go_upto_region 2 with (go_at_call 19; refine (H1.out _).mono ?_; rintro e w1 ⟨rfl, hb1⟩)
      generalize hW : World.alloc w1 _ = W1
      obtain ⟨q1, hC1⟩ := pb_lay (kp p K) hW
      clear hW
      have PB1 := hide ((PB0.out.below hb1).below hC1)
      have HA1 := hide (Below.next (Below.next HA0.out hb1) hC1)
      have Q1 := hide q1
      clear hb1 hC1 q1
      obtain ⟨c0, c1, c2, c3, c4, c5, c6, c7⟩ := PB1.out.cells
      go_upto_region 10 with (first
        | (go_at_call 15; refine (H2.out _).mono ?_; rintro e w2 ⟨rfl, hb2⟩; have Q2 := hide (Q1.out.below hb2); have PB2 := hide (PB1.out.below hb2); clear c0 c1 c2 c3 c4 c5 c6 c7; obtain ⟨d0, d1, d2, d3, d4, d5, d6, d7⟩ := Q2.out.cells; unfold kp at d0 d1 d2 d3 d4 d5 d6 d7; dsimp only at d0 d1 d2 d3 d4 d5 d6 d7)
        | (go_at_call 16; refine (H5.out _).mono ?_; rintro e w3 ⟨rfl, hb3⟩; have Q3 := hide (Q2.out.below hb3); have PB3 := hide (PB2.out.below hb3); clear d0 d1 d2 d3 d4 d5 d6 d7; obtain ⟨d0, d1, d2, d3, d4, d5, d6, d7⟩ := Q3.out.cells; unfold kp at d0 d1 d2 d3 d4 d5 d6 d7; dsimp only at d0 d1 d2 d3 d4 d5 d6 d7))
      generalize hW : World.alloc w3 _ = W4
      obtain ⟨q4, hC4⟩ := pb_lay (kp p K) hW
      clear hW d0 d1 d2 d3 d4 d5 d6 d7
      have PB4 := hide (PB3.out.below hC4)
      have HA4 := hide (Below.next (Below.next (Below.next HA1.out hb2) hb3) hC4)
      have hg : w.heap.size < w3.heap.size := PB3.out.lt
      generalize w3.heap.size = b at *
      have Q4 := hide q4
      obtain ⟨c0, c1, c2, c3, c4, c5, c6, c7⟩ := q4.cells
      have fz := q4.free
      unfold kp at c0 c1 c2 c3 c4 c5 c6 c7
      dsimp only at c0 c1 c2 c3 c4 c5 c6 c7
      clear q4 hC4
      have hK0 : (0 : Int) ≤ (K : Int) := by omega
      have hK1 : (K : Int) ≤ 64 := by omega
      have P5 := hide (Q4.out.set (q := kp p (K + 1)) 2 (.int .i64 ((K : Int) + 1)) (by unfold plw kp; simp))
      have PB5 := hide (PB4.out.other (g' := b) (by omega) 2 (.int .i64 ((K : Int) + 1)))
      have HA5 := hide (below_set (k := 2) (v := .int .i64 ((K : Int) + 1)) (g := b) HA4.out (by omega))
      go_wp2
      generalize W4.setCell ⟨b, 2, none⟩ (.int .i64 ((K : Int) + 1)) = W5 at *
      clear c0 c1 c2 c3 c4 c5 c6 c7 fz
      go_loopw [52] (fun _ wr => ∃ k : Nat, K < k ∧ k ≤ 65 ∧ Hid (Pb wr b (kp p k)) ∧ Hid (Pb wr w.heap.size p) ∧ Hid (Below w.heap.size w wr)) (fun _ wr => match wr.cell? ⟨b, 2, none⟩ with | some (.int _ n) => 66 - n.toNat | _ => 0)
      case atStart => exact ⟨K + 1, by omega, by omega, P5.out, PB5.out, HA5.out⟩
      case round =>
        obtain ⟨k, hk, hk5, R1, R2, RB⟩ := hrel
        obtain ⟨c0, c1, c2, c3, c4, c5, c6, c7⟩ := R1.out.cells
        unfold kp at c0 c1 c2 c3 c4 c5 c6 c7
        dsimp only at c0 c1 c2 c3 c4 c5 c6 c7
        rcases Nat.lt_or_ge k 65 with hk6 | hk6
        · have hna := HN.out k hk
          have H6 := hide (HK.out k (by omega))
          have hkI : (k : Int) ≤ 64 := by omega
          have hkP : (0 : Int) ≤ (k : Int) := by omega
          generalize acE (kp p k) = x at *
          unfold plv plw kp at H6
          dsimp only at H6
          go_wp2_with (go_at_call 16; refine (H6.out _).mono ?_; rintro e w6 ⟨rfl, hb6⟩; have S1 := hide (R1.out.below hb6); have S2 := hide (R2.out.below hb6); clear c0 c1 c2 c3 c4 c5 c6 c7; obtain ⟨c0, c1, c2, c3, c4, c5, c6, c7⟩ := S1.out.cells; have fz := S1.out.free; unfold kp at c0 c1 c2 c3 c4 c5 c6 c7; dsimp only at c0 c1 c2 c3 c4 c5 c6 c7)
          go_roundw
          case rel =>
            refine ⟨k + 1, by omega, by omega, S1.out.set (q := kp p (k + 1)) 2 _ (by unfold plw kp; simp), S2.out.other (by omega) _ _, ?_⟩
            exact below_set (Below.next RB.out hb6) (by omega)
          case measure =>
            have e2 : (w6.setCell ⟨b, 2, none⟩ (.int .i64 ((k : Int) + 1))).cell? ⟨b, 2, none⟩ = some (.int .i64 ((k : Int) + 1)) := (S1.out.set (q := { p with k := (k : Int) + 1 }) 2 (.int .i64 ((k : Int) + 1)) rfl).cells.2.2.1
            have e1 := R1.out.cells.2.2.1
            rw [e2, e1]
            unfold kp
            dsimp only
            omega
        · obtain rfl : k = 65 := by omega
          obtain ⟨d0, d1, d2, d3, d4, d5, d6, d7⟩ := R2.out.cells
          have fz := R1.out.free
          have T1 := hide (R1.out.set (q := p) 2 (.int .i64 p.k) rfl)
          have T2 := hide (R2.out.other (g' := b) (by omega) 2 (.int .i64 p.k))
          have TB := hide (below_set (k := 2) (v := .int .i64 p.k) (g := b) RB.out (by omega))
          go_upto_region 16 with fail
          generalize wr.setCell ⟨b, 2, none⟩ (.int .i64 p.k) = W7 at *
          clear c0 c1 c2 c3 c4 c5 c6 c7 d0 d1 d2 d3 d4 d5 d6 d7 fz
          go_wp2_with (go_at_call 18; refine (HX.out _).mono ?_; rintro e w8 ⟨rfl, hb8⟩; obtain ⟨c0, c1, c2, c3, c4, c5, c6, c7⟩ := (T1.out.below hb8).cells; obtain ⟨d0, d1, d2, d3, d4, d5, d6, d7⟩ := (T2.out.below hb8).cells)
          go_ret
          exact ⟨rfl, Below.next TB.out hb8⟩

end Go.Proofs.Ytgjbfapmefpcjaa
