/-
  Layer 12: the widest plan, a plan without some workers: the document's.
-/
import Derived.Test.YtgjbfapmefpcjaaBPlrA
import Derived.Test.YtgjbfapmefpcjaaBPlpC
namespace Go.Proofs.Ytgjbfapmefpcjaa
open Go.RowKit Pln
set_option linter.unusedVariables false
set_option linter.unusedSimpArgs false

/-- The best plan up to K = k. -/
def bsP (p : Pn) (k : Nat) : Pn := wdP p (min k (tpK p))
theorem bsP_step {p : Pn} (h : mayP p = true) (k : Nat) : bsP p (k + 1) = if acE (kp p (k + 1)) = 0 then kp p (k + 1) else bsP p k := by
  unfold bsP
  rcases Nat.lt_or_ge k (tpK p) with hk | hk
  · rw [show min (k + 1) (tpK p) = k + 1 by omega, show min k (tpK p) = k by omega]
    unfold wdP
    rw [kp_step h (by omega)]
    by_cases c : acE (kp p (k + 1)) = 0
    · rw [if_pos c, if_pos c, if_neg (by omega)]
    · rw [if_neg c, if_neg c]
  · rw [show min (k + 1) (tpK p) = tpK p by omega, show min k (tpK p) = tpK p by omega, acE_no (kp_no h (by omega))]
    rfl
theorem bsP_zero (p : Pn) : bsP p 0 = zP := by unfold bsP wdP; rw [Nat.zero_min]; rfl
theorem bsP_end {p : Pn} (h : mayP p = true) : bsP p 64 = wdP p (tpK p) := by
  unfold bsP; rw [Nat.min_eq_right (tpK_le h).2.1]

set_option maxRecDepth 100000 in
set_option maxHeartbeats 400000 in
theorem dWidest (p : Pn) (h : Ok8p p) : Ans 20 #[plv p] (.tuple #[plv (wiP p), .int .i64 (wiE p)]) := by
  intro w
  have HM := hide (dMayP p h)
  cases hm : mayP p with
  | false =>
    rw [hm] at HM
    have e1 : wiP p = zP := by unfold wiP; rw [hm]; rfl
    have e2 : wiE p = 2 := by unfold wiE; rw [hm]; rfl
    rw [e1, e2]
    clear hm h e1 e2
    obtain ⟨A, HR⟩ : ∃ A, Hid (plv zP = A) := ⟨_, rfl⟩
    rw [HR.out]
    unfold plv plw at HM ⊢
    go_enter Try.func20, Try.ntmps20
    go_upto_region 1 with fail
    generalize hW : World.alloc (World.alloc w _) _ = W
    obtain ⟨p2, p3, hB⟩ := pb_two p hW
    clear hW
    obtain ⟨c0, c1, c2, c3, c4, c5, c6, c7⟩ := p2.cells
    have H3 := hide p3
    have HB := hide hB
    clear p2 p3 hB
    go_wp2_with (go_at_call 15; refine (HM.out _).mono ?_; rintro e w1 ⟨rfl, hb1⟩; have P3 := hide (H3.out.below hb1); clear c0 c1 c2 c3 c4 c5 c6 c7; obtain ⟨d0, d1, d2, d3, d4, d5, d6, d7⟩ := P3.out.cells; have fz := P3.out.free)
    refine bodyPost_ret (res_ct (a := 2) (b := 3) (v := plv zP) rfl rfl rfl (load_plan (P3.out.set8 (q := zP)))) rfl ?_
    exact ⟨by rw [HR.out]; rfl, below_set8 (p := zP) (Below.next HB.out hb1) (by omega)⟩
  | true =>
    rw [hm] at HM
    have e1 : wiP p = wdP p (tpK p) := by unfold wiP; rw [if_pos hm]
    have e2 : wiE p = if wide p (tpK p) = 0 then 120 else 0 := by unfold wiE; rw [if_pos hm]
    have HE : Hid (wiE p = if (wdP p (tpK p)).k = 0 then 120 else 0) := by
      show _ = _
      rw [e2]
      unfold wdP
      by_cases c : wide p (tpK p) = 0
      · rw [if_pos c, if_pos c]; rfl
      · rw [if_neg c, if_neg c, if_neg]; unfold kp; dsimp only; omega
    rw [e1, ← bsP_end hm]
    rw [← bsP_end hm] at HE
    have HS := hide (bsP_step hm)
    have HZ := hide (bsP_zero p)
    have HA := hide (fun k (hk : k ≤ 64) => dAccept (kp p k) (kp_ok h hk))
    clear hm h e1 e2
    obtain ⟨A, HR⟩ : ∃ A, Hid (plv (bsP p 64) = A) := ⟨_, rfl⟩
    obtain ⟨E, HF⟩ : ∃ E, Hid (wiE p = E) := ⟨_, rfl⟩
    rw [HR.out, HF.out]
    unfold plv plw at HM ⊢
    go_enter Try.func20, Try.ntmps20
    go_upto_region 1 with fail
    generalize hW : World.alloc (World.alloc w _) _ = W
    obtain ⟨p2, p3, hB⟩ := pb_two p hW
    clear hW
    obtain ⟨c0, c1, c2, c3, c4, c5, c6, c7⟩ := p2.cells
    have H2 := hide p2
    have H3 := hide p3
    have HB := hide hB
    clear p2 p3 hB
    go_upto_region 4 with (go_at_call 15; refine (HM.out _).mono ?_; rintro e w1 ⟨rfl, hb1⟩; have P2 := hide (H2.out.below hb1); have P3 := hide (H3.out.below hb1); clear c0 c1 c2 c3 c4 c5 c6 c7)
    generalize hW4 : World.alloc w1 _ = W4
    have hA4 : Below w1.heap.size w1 W4 := hW4 ▸ alloc_below w1 _
    have HB4 := hide (Below.next (Below.next HB.out hb1) hA4)
    have Q4 : Hid (Pb W4 w1.heap.size (bsP p 0)) := by show Pb _ _ _; rw [HZ.out]; exact hW4 ▸ pb_new w1 zP
    have Q2 := hide (P2.out.below hA4)
    have Q3 := hide (P3.out.below hA4)
    have hg1 : w.heap.size + 1 < w1.heap.size := P3.out.lt
    clear hW4 hA4
    generalize w1.heap.size = b at *
    generalize hg : w.heap.size = g at *
    have HG := hide hg
    clear hg
    go_wp2
    go_loopw [5] (fun vi wr => ∃ k : Nat, k ≤ 64 ∧ vi = .int .i64 ((k : Int) + 1) ∧ Hid (∃ q, Pb wr g q ∧ ∃ j, q = { p with k := j }) ∧ Hid (Pb wr (g + 1) zP) ∧ Hid (Pb wr b (bsP p k)) ∧ Hid (Below g w wr)) (fun vi _ => 65 - (intOf vi).toNat)
    case atStart => exact ⟨0, by decide, rfl, ⟨p, Q2.out, p.k, rfl⟩, Q3.out, Q4.out, HB4.out⟩
    case round =>
      obtain ⟨k, hk, rfl, R2, R3, R4, RB⟩ := hrel
      rcases Nat.lt_or_ge k 64 with hk6 | hk6
      · obtain ⟨q, P2', j, hq⟩ := R2.out
        have HS1 := hide (HS.out k)
        have HK := hide (HA.out (k + 1) (by omega))
        obtain ⟨c0, c1, c2, c3, c4, c5, c6, c7⟩ := P2'.cells
        have fz := P2'.free
        have S2 := hide (P2'.set (q := kp p (k + 1)) 2 (.int .i64 ((k : Int) + 1)) (by subst hq; unfold plw kp; simp))
        have S3 := hide (R3.out.other (g' := g) (by omega) 2 (.int .i64 ((k : Int) + 1)))
        have S4 := hide (R4.out.other (g' := g) (by omega) 2 (.int .i64 ((k : Int) + 1)))
        have SB := hide (below_set (k := 2) (v := .int .i64 ((k : Int) + 1)) (g := g) RB.out (Nat.le_refl _))
        have hkI : (k : Int) + 1 ≤ 64 := by omega
        clear hq hk
        go_upto_region 8 with fail
        generalize wr.setCell ⟨g, 2, none⟩ (.int .i64 ((k : Int) + 1)) = W5 at *
        clear c0 c1 c2 c3 c4 c5 c6 c7 fz P2'
        obtain ⟨c0, c1, c2, c3, c4, c5, c6, c7⟩ := S2.out.cells
        unfold plv plw at HK
        by_cases hx : acE (kp p (k + 1)) = 0
        · rw [hx] at HK
          have HSU : Hid (bsP p (k + 1) = kp p (k + 1)) := HS1.out.trans (if_pos hx)
          clear hx HS1
          generalize hK1 : kp p (k + 1) = q at *
          have HK1 := hide hK1
          clear hK1
          go_wp2_with (go_at_call 17; refine (HK.out _).mono ?_; rintro e w2 ⟨rfl, hb2⟩; have T2 := hide (S2.out.below hb2); have T3 := hide (S3.out.below hb2); have T4 := hide (S4.out.below hb2); clear c0 c1 c2 c3 c4 c5 c6 c7; obtain ⟨c0, c1, c2, c3, c4, c5, c6, c7⟩ := T2.out.cells; obtain ⟨d0, d1, d2, d3, d4, d5, d6, d7⟩ := T4.out.cells; have fz := T4.out.free)
          go_roundw
          case rel =>
            refine ⟨k + 1, by omega, by go_num, ⟨q, T2.out.other8 (q := q) (g' := b) (by omega), ((k + 1 : Nat) : Int), HK1.out.symm⟩, T3.out.other8 (q := q) (g' := b) (by omega), ?_, ?_⟩
            · show Pb _ _ _
              rw [HSU.out]
              exact T4.out.set8 (q := q)
            · exact below_set8 (p := q) (SB.out.trans (hb2.mono (Nat.le_of_lt S2.out.lt))) (by omega)
          case measure => simp [intOf]; omega
        · have HSU : Hid (bsP p (k + 1) = bsP p k) := HS1.out.trans (if_neg hx)
          clear HS1
          generalize acE (kp p (k + 1)) = x at *
          generalize hK1 : kp p (k + 1) = q at *
          have HK1 := hide hK1
          clear hK1
          go_wp2_with (go_at_call 17; refine (HK.out _).mono ?_; rintro e w2 ⟨rfl, hb2⟩; have T2 := hide (S2.out.below hb2); have T3 := hide (S3.out.below hb2); have T4 := hide (S4.out.below hb2); clear c0 c1 c2 c3 c4 c5 c6 c7)
          go_roundw
          case rel =>
            refine ⟨k + 1, by omega, by go_num, ⟨q, T2.out, ((k + 1 : Nat) : Int), HK1.out.symm⟩, T3.out, ?_, ?_⟩
            · show Pb _ _ _
              rw [HSU.out]
              exact T4.out
            · exact SB.out.trans (hb2.mono (Nat.le_of_lt S2.out.lt))
          case measure => simp [intOf]; omega
      · obtain rfl : k = 64 := by omega
        generalize bsP p 64 = q at *
        obtain ⟨c0, c1, c2, c3, c4, c5, c6, c7⟩ := R4.out.cells
        obtain ⟨d0, d1, d2, d3, d4, d5, d6, d7⟩ := R3.out.cells
        have fz := R3.out.free
        by_cases hq : q.k = 0
        · have HQ := hide hq
          rw [hq] at c2
          clear hq
          go_wp2
          refine bodyPost_ret (res_ct (a := 2) (b := 3) (v := plv { q with k := 0 }) rfl rfl rfl (load_plan (R3.out.set8 (q := { q with k := 0 })))) rfl ?_
          refine ⟨?_, ?_⟩
          · have e3 : ({ q with k := 0 } : Pn) = q := by have := HQ.out; cases q; cases this; rfl
            rw [e3, ← HR.out, ← HF.out, HE.out, if_pos HQ.out]
            rfl
          · rw [HG.out]
            exact below_set8 (p := { q with k := 0 }) RB.out (by omega)
        · go_wp2
          refine bodyPost_ret (res_ct (a := 2) (b := 3) (v := plv q) rfl rfl rfl (load_plan (R3.out.set8 (q := q)))) rfl ?_
          refine ⟨?_, ?_⟩
          · rw [← HR.out, ← HF.out, HE.out, if_neg (by omega)]
            rfl
          · rw [HG.out]
            exact below_set8 (p := q) RB.out (by omega)

set_option maxRecDepth 100000 in
set_option maxHeartbeats 400000 in
theorem dWithout (p : Pn) (c : Int) (h : Ok8p p) (hc : I64 c) : Ans 22 #[plv p, .int .i64 c] (.tuple #[plv (woP p c), .int .i64 (woE p c)]) := by
  intro w
  have HM := hide (dMayP p h)
  cases hm : mayP p with
  | false =>
    rw [hm] at HM
    have e1 : woP p c = zP := by unfold woP; rw [if_neg]; intro h; rw [hm] at h; cases h.1
    have e2 : woE p c = 2 := by unfold woE; rw [if_neg]; intro h; rw [hm] at h; cases h.1
    rw [e1, e2]
    clear hm h e1 e2
    obtain ⟨A, HR⟩ : ∃ A, Hid (plv zP = A) := ⟨_, rfl⟩
    rw [HR.out]
    unfold plv plw at HM ⊢
    go_enter Try.func22, Try.ntmps22
    go_upto_region 1 with fail
    generalize hW : World.alloc (World.alloc w _) _ = W
    obtain ⟨p2, p3, hB⟩ := pb_two p hW
    clear hW
    obtain ⟨c0, c1, c2, c3, c4, c5, c6, c7⟩ := p2.cells
    have H3 := hide p3
    have HB := hide hB
    clear p2 p3 hB
    go_wp2_with (go_at_call 15; refine (HM.out _).mono ?_; rintro e w1 ⟨rfl, hb1⟩; have P3 := hide (H3.out.below hb1); clear c0 c1 c2 c3 c4 c5 c6 c7; obtain ⟨d0, d1, d2, d3, d4, d5, d6, d7⟩ := P3.out.cells; have fz := P3.out.free)
    refine bodyPost_ret (res_ct (a := 4) (b := 5) (v := plv zP) rfl rfl rfl (load_plan (P3.out.set8 (q := zP)))) rfl ?_
    exact ⟨by rw [HR.out]; rfl, below_set8 (p := zP) (Below.next HB.out hb1) (by omega)⟩
  | true =>
    rw [hm] at HM
    obtain ⟨⟨n0, n1⟩, _, _, _, ⟨e0, e1⟩, _, _⟩ := may_facts hm
    unfold I64 at hc
    obtain ⟨hc0, hc1⟩ := hc
    by_cases hb : 0 ≤ c ∧ c < p.n
    · have e1 : woP p c = { p with n := p.n - c, e := if p.e - c < 0 then 0 else p.e - c } := by unfold woP; rw [if_pos ⟨hm, hb⟩]
      have e2 : woE p c = 0 := by unfold woE; rw [if_pos ⟨hm, hb⟩]
      rw [e1, e2]
      obtain ⟨b0, b1⟩ := hb
      clear hm h e1 e2
      obtain ⟨A, HR⟩ : ∃ A, Hid (plv { p with n := p.n - c, e := if p.e - c < 0 then 0 else p.e - c } = A) := ⟨_, rfl⟩
      rw [HR.out]
      unfold plv plw at HM ⊢
      go_enter Try.func22, Try.ntmps22
      go_upto_region 1 with fail
      generalize hW : World.alloc (World.alloc w _) _ = W
      obtain ⟨p2, p3, hB⟩ := pb_two p hW
      clear hW
      obtain ⟨c0, c1, c2, c3, c4, c5, c6, c7⟩ := p2.cells
      have H2 := hide p2
      have H3 := hide p3
      have HB := hide hB
      clear p2 p3 hB
      go_upto_region 3 with (go_at_call 15; refine (HM.out _).mono ?_; rintro e w1 ⟨rfl, hb1⟩; have P2 := hide (H2.out.below hb1); have P3 := hide (H3.out.below hb1); clear c0 c1 c2 c3 c4 c5 c6 c7; obtain ⟨c0, c1, c2, c3, c4, c5, c6, c7⟩ := P2.out.cells; have fz := P2.out.free)
      go_upto_region 4 with fail
      have P4 := hide (P2.out.set (q := { p with n := p.n - c }) 1 (.int .i64 (p.n - c)) rfl)
      have R4 := hide (P3.out.other (g' := w.heap.size) (by omega) 1 (.int .i64 (p.n - c)))
      have hB4 := below_set (k := 1) (v := .int .i64 (p.n - c)) (g := w.heap.size) (Below.next HB.out hb1) (Nat.le_refl _)
      generalize w1.setCell ⟨w.heap.size, 1, none⟩ (.int .i64 (p.n - c)) = W4 at *
      clear c0 c1 c2 c3 c4 c5 c6 c7 fz
      obtain ⟨c0, c1, c2, c3, c4, c5, c6, c7⟩ := P4.out.cells
      have fz := P4.out.free
      dsimp only at c0 c1 c2 c3 c4 c5 c6 c7
      have H4 := hide hB4
      clear hB4
      by_cases hd : ¬ 0 < p.e - c
      · go_upto_region 5 with fail
        have P5 := hide (P4.out.set (q := { p with n := p.n - c, e := 0 }) 5 (.int .i64 (0)) rfl)
        have R5 := hide (R4.out.other (g' := w.heap.size) (by omega) 5 (.int .i64 (0)))
        have H5 := hide (below_set (k := 5) (v := .int .i64 (0)) (g := w.heap.size) H4.out (Nat.le_refl _))
        generalize W4.setCell ⟨w.heap.size, 5, none⟩ (.int .i64 (0)) = W5 at *
        clear c0 c1 c2 c3 c4 c5 c6 c7 fz
        obtain ⟨c0, c1, c2, c3, c4, c5, c6, c7⟩ := P5.out.cells
        obtain ⟨d0, d1, d2, d3, d4, d5, d6, d7⟩ := R5.out.cells
        have fz := R5.out.free
        dsimp only at c0 c1 c2 c3 c4 c5 c6 c7
        go_wp2
        refine bodyPost_ret (res_ct (a := 4) (b := 5) (v := plv { p with n := p.n - c, e := 0 }) rfl rfl rfl (load_plan (R5.out.set8 (q := { p with n := p.n - c, e := 0 })))) rfl ?_
        refine ⟨?_, below_set8 (p := { p with n := p.n - c, e := 0 }) H5.out (by omega)⟩
        rw [← HR.out, show (if p.e - c < 0 then 0 else p.e - c) = 0 by split <;> omega]
        rfl
      · go_upto_region 5 with fail
        have P5 := hide (P4.out.set (q := { p with n := p.n - c, e := p.e - c }) 5 (.int .i64 (p.e - c)) rfl)
        have R5 := hide (R4.out.other (g' := w.heap.size) (by omega) 5 (.int .i64 (p.e - c)))
        have H5 := hide (below_set (k := 5) (v := .int .i64 (p.e - c)) (g := w.heap.size) H4.out (Nat.le_refl _))
        generalize W4.setCell ⟨w.heap.size, 5, none⟩ (.int .i64 (p.e - c)) = W5 at *
        clear c0 c1 c2 c3 c4 c5 c6 c7 fz
        obtain ⟨c0, c1, c2, c3, c4, c5, c6, c7⟩ := P5.out.cells
        obtain ⟨d0, d1, d2, d3, d4, d5, d6, d7⟩ := R5.out.cells
        have fz := R5.out.free
        dsimp only at c0 c1 c2 c3 c4 c5 c6 c7
        go_wp2
        refine bodyPost_ret (res_ct (a := 4) (b := 5) (v := plv { p with n := p.n - c, e := p.e - c }) rfl rfl rfl (load_plan (R5.out.set8 (q := { p with n := p.n - c, e := p.e - c })))) rfl ?_
        refine ⟨?_, below_set8 (p := { p with n := p.n - c, e := p.e - c }) H5.out (by omega)⟩
        rw [← HR.out, if_neg (by omega)]
        rfl
    · have e1 : woP p c = zP := by unfold woP; rw [if_neg]; exact fun h => hb h.2
      have e2 : woE p c = 2 := by unfold woE; rw [if_neg]; exact fun h => hb h.2
      rw [e1, e2]
      clear hm h e1 e2
      have hb2 : c < 0 ∨ (0 ≤ c ∧ p.n ≤ c) := by omega
      clear hb
      rcases hb2 with hb | ⟨hb, hb3⟩
      all_goals
        obtain ⟨A, HR⟩ : ∃ A, Hid (plv zP = A) := ⟨_, rfl⟩
        rw [HR.out]
        unfold plv plw at HM ⊢
        go_enter Try.func22, Try.ntmps22
        go_upto_region 1 with fail
        generalize hW : World.alloc (World.alloc w _) _ = W
        obtain ⟨p2, p3, hB⟩ := pb_two p hW
        clear hW
        obtain ⟨c0, c1, c2, c3, c4, c5, c6, c7⟩ := p2.cells
        have H2 := hide p2
        have H3 := hide p3
        have HB := hide hB
        clear p2 p3 hB
        go_wp2_with (go_at_call 15; refine (HM.out _).mono ?_; rintro e w1 ⟨rfl, hb1⟩; have P2 := hide (H2.out.below hb1); have P3 := hide (H3.out.below hb1); clear c0 c1 c2 c3 c4 c5 c6 c7; obtain ⟨c0, c1, c2, c3, c4, c5, c6, c7⟩ := P2.out.cells; obtain ⟨d0, d1, d2, d3, d4, d5, d6, d7⟩ := P3.out.cells; have fz := P3.out.free)
        refine bodyPost_ret (res_ct (a := 4) (b := 5) (v := plv zP) rfl rfl rfl (load_plan (P3.out.set8 (q := zP)))) rfl ?_
        exact ⟨by rw [HR.out]; rfl, below_set8 (p := zP) (Below.next HB.out hb1) (by omega)⟩

end Go.Proofs.Ytgjbfapmefpcjaa
