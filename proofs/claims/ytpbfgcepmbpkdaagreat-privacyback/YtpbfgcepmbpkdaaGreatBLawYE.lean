/-
  The statements of layer 15: PrivacyBack walked.
-/
import Derived.Test.YtpbfgcepmbpkdaaGreatBunYH
import Derived.Test.YtpbfgcepmbpkdaaGreatBunYJ
import Derived.Test.YtpbfgcepmbpkdaaGreatBSamD
namespace Go.Proofs.YtpbfgcepmbpkdaaGreat
open Go.RowKit Fld Pln Shr
set_option linter.unusedVariables false
set_option linter.unusedSimpArgs false

/-- A plan, two cases and the first of them, boxed one behind the other. -/
theorem case_box2 (w : World) (p : Pn) (v1 v2 v3 v4 v5 v6 : Value) (T S : TypeId) : ∃ W1, ((w.alloc (.cells #[.int .u8 p.f, .int .i64 p.n, .int .i64 p.k, .int .i64 p.t, .int .i64 p.s, .int .i64 p.e, .int .i64 p.d, .int .i64 p.w] 24)).alloc (.cells #[v1, v2, v3, v4, v5, v6] T)).alloc (.cells #[v1, v2, v3] S) = W1 ∧ Below w.heap.size w W1 ∧ ∀ W, Below W1.heap.size W1 W → (W.cell? ⟨w.heap.size, 0, none⟩ = some (.int .u8 p.f) ∧ W.cell? ⟨w.heap.size, 1, none⟩ = some (.int .i64 p.n) ∧ W.cell? ⟨w.heap.size, 2, none⟩ = some (.int .i64 p.k) ∧ W.cell? ⟨w.heap.size, 3, none⟩ = some (.int .i64 p.t) ∧ W.cell? ⟨w.heap.size, 4, none⟩ = some (.int .i64 p.s) ∧ W.cell? ⟨w.heap.size, 5, none⟩ = some (.int .i64 p.e) ∧ W.cell? ⟨w.heap.size, 6, none⟩ = some (.int .i64 p.d) ∧ W.cell? ⟨w.heap.size, 7, none⟩ = some (.int .i64 p.w)) ∧ W.cell? ⟨w.heap.size + 1, 4, none⟩ = some v5 ∧ W.cell? ⟨w.heap.size + 1 + 1, 0, none⟩ = some v1 ∧ W.cell? ⟨w.heap.size + 1 + 1, 1, none⟩ = some v2 ∧ W.cell? ⟨w.heap.size + 1 + 1, 2, none⟩ = some v3 := by
  obtain ⟨pb, hA⟩ := pb_box (w := w) p
  refine ⟨_, rfl, Below.next (Below.next hA (alloc_below _ _)) (alloc_below _ _), fun W hb => ⟨(((pb.below (alloc_below _ _)).below (alloc_below _ _)).below hb).cells, ?_, ?_, ?_, ?_⟩⟩
  · exact (hb.cell (p := ⟨w.heap.size + 1, 4, none⟩) (by simp)).trans (((alloc_below _ _).cell (p := ⟨w.heap.size + 1, 4, none⟩) (by simp)).trans (by simp [go_sem]))
  · exact (hb.cell (p := ⟨w.heap.size + 1 + 1, 0, none⟩) (by simp)).trans (by simp [go_sem])
  · exact (hb.cell (p := ⟨w.heap.size + 1 + 1, 1, none⟩) (by simp)).trans (by simp [go_sem])
  · exact (hb.cell (p := ⟨w.heap.size + 1 + 1, 2, none⟩) (by simp)).trans (by simp [go_sem])
theorem tw_dec {p : Pn} {who : List Int} {dl pl pb ol : List (List Int)} (hz : twE p who dl pl ol = 0) (hb : twE p who dl pb ol = 0) (w1 : ∀ b ∈ dl, Wd b) (w2 : ∀ b ∈ pl, Wd b) (w2' : ∀ b ∈ pb, Wd b) (w3 : ∀ b ∈ ol, Wd b) : decide (twL p who dl pl ol = twL p who dl pb ol) = decide (pl = pb) :=
  decide_eq_decide.2 (tw_inj hz hb w1 w2 w2' w3)

set_option maxRecDepth 100000 in
set_option maxHeartbeats 4000000 in
theorem privacyBack_any (w : World) (p : Pn) (vw vd vp vo ve vf vg : Value) (who : List Int) (dl pl ol pb : List (List Int)) (hp : Ok8p p) (h3 : Lm iw 1 w vw who) (h1 : Rws w vd dl) (h2 : Rws w vp pl) (h4 : Rws w vo ol) (h5 : Rws w vf pb) : Calls Tryz.prog 6 #[plv p, vw, .agg #[vd, vp, vo, ve, vf, vg]] w fun e w' => e = .returned (.bool true) ∧ Below w.heap.size w w' := by
  have H1 := hide (fun W (hb : Below w.heap.size w W) => gTwin p vw vd vp vo who dl pl ol W hp (h3.below hb) (h1.below hb) (h2.below hb) (h4.below hb))
  have H2 := hide (fun W (hb : Below w.heap.size w W) => dTwin p vw vd vp vo who dl pl ol W hp (h3.below hb) (h1.below hb) (h2.below hb) (h4.below hb))
  have H3 := hide (fun W vt (hb : Below w.heap.size w W) (ht : Rws W vt (twL p who dl pl ol)) => gTwin p vw vo vt vd who ol (twL p who dl pl ol) dl W hp (h3.below hb) (h4.below hb) ht (h1.below hb))
  have H4 := hide (fun W (hb : Below w.heap.size w W) => gTwin p vw vd vf vo who dl pb ol W hp (h3.below hb) (h1.below hb) (h5.below hb) (h4.below hb))
  unfold GivesM at H1 H3 H4
  unfold GivesW at H2
  have HX := hide anch15
  have WD1 : Hid (∀ W lo v us, Mtx W lo v us (twL p who dl pl ol) → Rws W v (twL p who dl pl ol)) := fun W lo v us h => by
    obtain ⟨q1, q2⟩ := tw_wd (p := p) (who := who) h1.wordsH h2.wordsH h4.wordsH
    exact h.rws (getD_wd q1) (by omega)
  have WD2 : Hid (∀ W lo v us, Mtx W lo v us (twL p who dl pb ol) → Rws W v (twL p who dl pb ol)) := fun W lo v us h => by
    obtain ⟨q1, q2⟩ := tw_wd (p := p) (who := who) h1.wordsH h5.wordsH h4.wordsH
    exact h.rws (getD_wd q1) (by omega)
  have R2 := hide h2
  have R5 := hide h5
  by_cases hz : twE p who dl pl ol = 0
  · obtain ⟨y1, y2⟩ := tw_back hz h1.wordsH h2.wordsH h4.wordsH
    have WD3 : Hid (∀ W lo v us, Mtx W lo v us pl → Rws W v pl) := fun W lo v us h => by
      have hq := (tw_facts hz h1.wordsH h2.wordsH h4.wordsH)
      obtain ⟨q, wd, h'⟩ := hq
      have := may_facts h'.may
      exact h.rws (getD_wd h2.wordsH) (by have := h'.lp; omega)
    rw [y1, y2] at H3
    rw [hz] at H1
    have HD : Hid (twE p who dl pb ol = 0 → decide (twL p who dl pl ol = twL p who dl pb ol) = decide (pl = pb)) := fun hb => tw_dec hz hb h1.wordsH h2.wordsH h5.wordsH h4.wordsH
    obtain ⟨ad, cd, rfl, _, _, _⟩ := h1
    obtain ⟨ap, cp, rfl, _, _, _⟩ := h2
    obtain ⟨ao, co', rfl, _, _, _⟩ := h4
    obtain ⟨af, cf, rfl, _, _, _⟩ := h5
    obtain ⟨aw, cw, rfl, _⟩ := h3.spell
    clear hp h3 y1 y2 H2 hz
    generalize twL p who dl pl ol = r1 at *
    generalize twL p who dl pb ol = r2 at *
    generalize twE p who dl pb ol = e2 at *
    generalize dl.length = nd at *
    generalize ol.length = no at *
    generalize who.length = nw at *
    obtain ⟨np, Hnp⟩ : ∃ np, Hid (pl.length = np) := ⟨_, rfl⟩
    obtain ⟨nf, Hnf⟩ : ∃ nf, Hid (pb.length = nf) := ⟨_, rfl⟩
    rw [Hnp.out] at H1 R2 ⊢
    rw [Hnf.out] at H4 R5 ⊢
    rw [plan_eq] at *
    obtain ⟨W1, hW, hA, hS⟩ := case_box2 w p (.slice ad nd cd) (.slice ap np cp) (.slice ao no co') ve (.slice af nf cf) vg 46 28
    have HW := hide hW
    have HS := hide hS
    clear hW hS
    obtain ⟨⟨c0, c1, c2, c3, c4, c5, c6, c7⟩, d3, d0, d1, d2⟩ := HS.out _ (Below.refl _ _)
    go_enter Tryz.func6, Tryz.ntmps6
    go_upto_region 2 with fail
    rw [HW.out]
    go_upto_region 6 with (first
      | (go_at_call 8; refine (H1.out _ hA).mono ?_; rintro e w1 ⟨v1, us1, rfl, x1, hb1⟩; have hC1 := hb1; have hB1 := Below.next hA hC1; have R1 := hide (WD1.out _ _ _ _ x1); obtain ⟨a1, k1, rfl⟩ := own_form x1.row; clear x1; clear c0 c1 c2 c3 c4 c5 c6 c7 d0 d1 d2 d3; obtain ⟨⟨c0, c1, c2, c3, c4, c5, c6, c7⟩, d3, d0, d1, d2⟩ := HS.out _ hC1))
    go_upto_region 9 with (first
      | (go_at_call 8; refine (H3.out _ _ hB1 R1.out).mono ?_; rintro e w2 ⟨v2, us2, rfl, x2, hb2⟩; have hC2 := Below.next hC1 hb2; have hB2 := Below.next hA hC2; have RB := hide (WD3.out _ _ _ _ x2); obtain ⟨a2, k2, rfl⟩ := own_form x2.row; clear x2; rw [Hnp.out] at RB ⊢; clear c0 c1 c2 c3 c4 c5 c6 c7 d0 d1 d2 d3; obtain ⟨⟨c0, c1, c2, c3, c4, c5, c6, c7⟩, d3, d0, d1, d2⟩ := HS.out _ hC2)
      | (go_at_call 10; refine (Rows_h _ _ _ _ RB.out (R2.out.below hB2)).mono ?_; rintro e w3 ⟨rfl, hb3⟩; have hC3 := Below.next hC2 hb3; have hB3 := Below.next hA hC3; clear c0 c1 c2 c3 c4 c5 c6 c7 d0 d1 d2 d3; obtain ⟨⟨c0, c1, c2, c3, c4, c5, c6, c7⟩, d3, d0, d1, d2⟩ := HS.out _ hC3))
    go_upto_region 10 with (first
      | (go_at_call 8; refine (H4.out _ hB3).mono ?_; rintro e w4 ⟨v4, us4, rfl, x4, hb4⟩; have hC4 := Below.next hC3 hb4; have hB4 := Below.next hA hC4; have RU := hide (WD2.out _ _ _ _ x4); have RT := hide (((R1.out.below hb2).below hb3).below hb4); obtain ⟨a4, k4, rfl⟩ := own_form x4.row; clear x4; clear c0 c1 c2 c3 c4 c5 c6 c7 d0 d1 d2 d3; obtain ⟨⟨c0, c1, c2, c3, c4, c5, c6, c7⟩, d3, d0, d1, d2⟩ := HS.out _ hC4))
    clear H1 H3 H4 WD1 WD2 WD3 R1 RB HW
    by_cases he : e2 = 0
    · subst he
      have hD := HD.out rfl
      clear HD
      generalize hbv : decide (r1 = r2) = bv at *
      rw [eq_comm] at hD
      have H7 := hide (fun W (hb : Below w4.heap.size w4 W) => Rows_dec _ _ _ _ W (RT.out.below hb) (RU.out.below hb))
      have H8 := hide (fun W (hb : Below w.heap.size w W) => Rows_dec _ _ _ _ W (R2.out.below hb) (R5.out.below hb))
      rw [hbv] at H7
      rw [hD] at H8
      clear hbv hD RT RU R2 R5
      go_upto_region 12 with fail
      clear c0 c1 c2 c3 c4 c5 c6 c7 d0 d1 d2 d3
      have hdr : Below w4.heap.size w4 w4.drew := (Below.refl _ w4).drew
      have HS2 : Hid (∀ V, Below w4.heap.size w4 V → V.cell? ⟨w.heap.size + 1, 4, none⟩ = some (.slice af nf cf) ∧ V.cell? ⟨w.heap.size + 1 + 1, 1, none⟩ = some (.slice ap np cp)) := fun V hb => by
        obtain ⟨_, d3, _, d1, _⟩ := HS.out _ (Below.next hC4 hb)
        exact ⟨d3, d1⟩
      have hS0 := HS2.out _ hdr
      refine wp_region_held_drew (S := (fun V => V.cell? ⟨w.heap.size + 1, 4, none⟩ = some (.slice af nf cf) ∧ V.cell? ⟨w.heap.size + 1 + 1, 1, none⟩ = some (.slice ap np cp))) (by kernel_rfl) (by ((try dsimp only) <;> (first | with_reducible exact hS3 | with_reducible exact hS2 | with_reducible exact hS1 | with_reducible exact hS0))) (fun hHeld => ?_)
      refine wpAnyH_ready (rs := [0]) (by kernel_rfl) (by simp) ?_
      refine AllReadyH.cons (o := _) rfl (fun K hK => ?_) AllReadyH.nil
      try simp only [List.getElem_toArray, List.getElem_cons_succ, List.getElem_cons_zero]
      go_simp
      (first
            | (go_at_call 11; refine (HX.out _).mono ?_; rintro e w5 ⟨rfl, hb5⟩; have hC5 := Below.next hdr hb5; have hS1 := HS2.out _ hC5)
            | (go_at_call 10; with_reducible refine (H7.out _ hC5).mono ?_; rintro e w6 ⟨rfl, hb6⟩; have hC6 := Below.next hC5 hb6; have hB6 := Below.next hB4 hC6; have hS2 := HS2.out _ hC6)
            | (go_at_call 10; with_reducible refine (H8.out _ hB6).mono ?_; rintro e w7 ⟨rfl, hb7⟩; have hC7 := Below.next hC6 hb7; have hB7 := Below.next hB6 hb7; have hS3 := HS2.out _ hC7))
      first | (refine hK.out _ _ (by ((try dsimp only) <;> (first | with_reducible exact hS3 | with_reducible exact hS2 | with_reducible exact hS1 | with_reducible exact hS0))) (fun hHeld => ?_)) | (go_wp2_with fail; refine hK.out _ _ (by ((try dsimp only) <;> (first | with_reducible exact hS3 | with_reducible exact hS2 | with_reducible exact hS1 | with_reducible exact hS0))) (fun hHeld => ?_))
      clear hK K
      (try simp only [Act.put, List.getElem_toArray, List.getElem_cons_succ, List.getElem_cons_zero, List.setIfInBounds_toArray, List.set_cons_zero, List.set_cons_succ])
      (refine wpAnyH_take (i := 1) (oi := _) (v := ?v1) rfl (by kernel_rfl) (by kernel_rfl) (by kernel_rfl) (fun _ _ _ h => h) (Or.inl ⟨by rfl, ?hy1⟩) (by assumption) ?rest1; (case hy1 => (first | (intro w hSw; (try dsimp only at hSw); go_simp; done) | (intro w hSw; (try dsimp only at hSw); go_simp; with_reducible rfl))); (try simp only [Act.put, List.getElem_toArray, List.getElem_cons_succ, List.getElem_cons_zero, List.setIfInBounds_toArray, List.set_cons_zero, List.set_cons_succ]))
      (refine wpAnyH_take (i := 2) (oi := _) (v := ?v2) rfl (by kernel_rfl) (by kernel_rfl) (by kernel_rfl) (fun _ _ _ h => h) (Or.inl ⟨by rfl, ?hy2⟩) (by assumption) ?rest2; (case hy2 => (first | (intro w hSw; (try dsimp only at hSw); go_simp; done) | (intro w hSw; (try dsimp only at hSw); go_simp; with_reducible rfl))); (try simp only [Act.put, List.getElem_toArray, List.getElem_cons_succ, List.getElem_cons_zero, List.setIfInBounds_toArray, List.set_cons_zero, List.set_cons_succ]))
      (refine wpAnyH_take (i := 3) (oi := _) (v := ?v3) rfl (by kernel_rfl) (by kernel_rfl) (by kernel_rfl) (fun _ _ _ h => h) (Or.inl ⟨by rfl, ?hy3⟩) (by assumption) ?rest3; (case hy3 => (first | (intro w hSw; (try dsimp only at hSw); go_simp; done) | (intro w hSw; (try dsimp only at hSw); go_simp; with_reducible rfl))); (try simp only [Act.put, List.getElem_toArray, List.getElem_cons_succ, List.getElem_cons_zero, List.setIfInBounds_toArray, List.set_cons_zero, List.set_cons_succ]))
      (refine wpAnyH_take (i := 5) (oi := _) (v := ?v4) rfl (by kernel_rfl) (by kernel_rfl) (by kernel_rfl) (fun _ _ _ h => h) (Or.inl ⟨by rfl, ?hy4⟩) (by assumption) ?rest4; (case hy4 => (first | (intro w hSw; (try dsimp only at hSw); go_simp; done) | (intro w hSw; (try dsimp only at hSw); go_simp; with_reducible rfl))); (try simp only [Act.put, List.getElem_toArray, List.getElem_cons_succ, List.getElem_cons_zero, List.setIfInBounds_toArray, List.set_cons_zero, List.set_cons_succ]))
      (refine wpAnyH_take (i := 6) (oi := _) (v := ?v5) rfl (by kernel_rfl) (by kernel_rfl) (by kernel_rfl) (fun _ _ _ h => h) (Or.inl ⟨by rfl, ?hy5⟩) (by assumption) ?rest5; (case hy5 => (first | (intro w hSw; (try dsimp only at hSw); go_simp; done) | (intro w hSw; (try dsimp only at hSw); go_simp; with_reducible rfl))); (try simp only [Act.put, List.getElem_toArray, List.getElem_cons_succ, List.getElem_cons_zero, List.setIfInBounds_toArray, List.set_cons_zero, List.set_cons_succ]))
      (refine wpAnyH_take (i := 7) (oi := _) (v := ?v6) rfl (by kernel_rfl) (by kernel_rfl) (by kernel_rfl) (fun _ _ _ h => h) (Or.inl ⟨by rfl, ?hy6⟩) (by assumption) ?rest6; (case hy6 => (first | (intro w hSw; (try dsimp only at hSw); go_simp; done) | (intro w hSw; (try dsimp only at hSw); go_simp; with_reducible rfl))); (try simp only [Act.put, List.getElem_toArray, List.getElem_cons_succ, List.getElem_cons_zero, List.setIfInBounds_toArray, List.set_cons_zero, List.set_cons_succ]))
      (refine wpAnyH_take (i := 8) (oi := _) (v := ?v7) rfl (by kernel_rfl) (by kernel_rfl) (by kernel_rfl) (fun _ _ _ h => h) (Or.inl ⟨by rfl, ?hy7⟩) (by assumption) ?rest7; (case hy7 => (first | (intro w hSw; (try dsimp only at hSw); go_simp; done) | (intro w hSw; (try dsimp only at hSw); go_simp; with_reducible rfl))); (try simp only [Act.put, List.getElem_toArray, List.getElem_cons_succ, List.getElem_cons_zero, List.setIfInBounds_toArray, List.set_cons_zero, List.set_cons_succ]))
      (refine wpAnyH_take (i := 9) (oi := _) (v := ?v8) rfl (by kernel_rfl) (by kernel_rfl) (by kernel_rfl) (fun _ _ _ h => h) (Or.inl ⟨by rfl, ?hy8⟩) (by assumption) ?rest8; (case hy8 => (first | (intro w hSw; (try dsimp only at hSw); go_simp; done) | (intro w hSw; (try dsimp only at hSw); go_simp; with_reducible rfl))); (try simp only [Act.put, List.getElem_toArray, List.getElem_cons_succ, List.getElem_cons_zero, List.setIfInBounds_toArray, List.set_cons_zero, List.set_cons_succ]))
      refine wpAnyH_ready (rs := [4]) (by kernel_rfl) (by simp) ?_
      refine AllReadyH.cons (o := _) rfl (fun K hK => ?_) AllReadyH.nil
      try simp only [List.getElem_toArray, List.getElem_cons_succ, List.getElem_cons_zero]
      go_simp
      (first
            | (go_at_call 11; refine (HX.out _).mono ?_; rintro e w5 ⟨rfl, hb5⟩; have hC5 := Below.next hdr hb5; have hS1 := HS2.out _ hC5)
            | (go_at_call 10; with_reducible refine (H7.out _ hC5).mono ?_; rintro e w6 ⟨rfl, hb6⟩; have hC6 := Below.next hC5 hb6; have hB6 := Below.next hB4 hC6; have hS2 := HS2.out _ hC6)
            | (go_at_call 10; with_reducible refine (H8.out _ hB6).mono ?_; rintro e w7 ⟨rfl, hb7⟩; have hC7 := Below.next hC6 hb7; have hB7 := Below.next hB6 hb7; have hS3 := HS2.out _ hC7))
      first | (refine hK.out _ _ (by ((try dsimp only) <;> (first | with_reducible exact hS3 | with_reducible exact hS2 | with_reducible exact hS1 | with_reducible exact hS0))) (fun hHeld => ?_)) | (go_wp2_with fail; refine hK.out _ _ (by ((try dsimp only) <;> (first | with_reducible exact hS3 | with_reducible exact hS2 | with_reducible exact hS1 | with_reducible exact hS0))) (fun hHeld => ?_))
      clear hK K
      (try simp only [Act.put, List.getElem_toArray, List.getElem_cons_succ, List.getElem_cons_zero, List.setIfInBounds_toArray, List.set_cons_zero, List.set_cons_succ])
      refine wpAnyH_ready (rs := [10]) (by kernel_rfl) (by simp) ?_
      refine AllReadyH.cons (o := _) rfl (fun K hK => ?_) AllReadyH.nil
      try simp only [List.getElem_toArray, List.getElem_cons_succ, List.getElem_cons_zero]
      go_simp
      (first
            | (go_at_call 11; refine (HX.out _).mono ?_; rintro e w5 ⟨rfl, hb5⟩; have hC5 := Below.next hdr hb5; have hS1 := HS2.out _ hC5)
            | (go_at_call 10; with_reducible refine (H7.out _ hC5).mono ?_; rintro e w6 ⟨rfl, hb6⟩; have hC6 := Below.next hC5 hb6; have hB6 := Below.next hB4 hC6; have hS2 := HS2.out _ hC6)
            | (go_at_call 10; with_reducible refine (H8.out _ hB6).mono ?_; rintro e w7 ⟨rfl, hb7⟩; have hC7 := Below.next hC6 hb7; have hB7 := Below.next hB6 hb7; have hS3 := HS2.out _ hC7))
      first | (refine hK.out _ _ (by ((try dsimp only) <;> (first | with_reducible exact hS3 | with_reducible exact hS2 | with_reducible exact hS1 | with_reducible exact hS0))) (fun hHeld => ?_)) | (go_wp2_with fail; refine hK.out _ _ (by ((try dsimp only) <;> (first | with_reducible exact hS3 | with_reducible exact hS2 | with_reducible exact hS1 | with_reducible exact hS0))) (fun hHeld => ?_))
      clear hK K
      (try simp only [Act.put, List.getElem_toArray, List.getElem_cons_succ, List.getElem_cons_zero, List.setIfInBounds_toArray, List.set_cons_zero, List.set_cons_succ])
      (refine wpAnyH_take (i := 11) (oi := _) (v := ?v9) rfl (by kernel_rfl) (by kernel_rfl) (by kernel_rfl) (fun _ _ _ h => h) (Or.inl ⟨by rfl, ?hy9⟩) (by assumption) ?rest9; (case hy9 => (first | (intro w hSw; (try dsimp only at hSw); go_simp; done) | (intro w hSw; (try dsimp only at hSw); go_simp; with_reducible rfl))); (try simp only [Act.put, List.getElem_toArray, List.getElem_cons_succ, List.getElem_cons_zero, List.setIfInBounds_toArray, List.set_cons_zero, List.set_cons_succ]))
      (refine wpAnyH_take (i := 12) (oi := _) (v := ?v10) rfl (by kernel_rfl) (by kernel_rfl) (by kernel_rfl) (fun _ _ _ h => h) (Or.inl ⟨by rfl, ?hy10⟩) (by assumption) ?rest10; (case hy10 => (first | (intro w hSw; (try dsimp only at hSw); go_simp; done) | (intro w hSw; (try dsimp only at hSw); go_simp; with_reducible rfl))); (try simp only [Act.put, List.getElem_toArray, List.getElem_cons_succ, List.getElem_cons_zero, List.setIfInBounds_toArray, List.set_cons_zero, List.set_cons_succ]))
      (refine wpAnyH_take (i := 13) (oi := _) (v := ?v11) rfl (by kernel_rfl) (by kernel_rfl) (by kernel_rfl) (fun _ _ _ h => h) (Or.inl ⟨by rfl, ?hy11⟩) (by assumption) ?rest11; (case hy11 => (first | (intro w hSw; (try dsimp only at hSw); go_simp; done) | (intro w hSw; (try dsimp only at hSw); go_simp; with_reducible rfl))); (try simp only [Act.put, List.getElem_toArray, List.getElem_cons_succ, List.getElem_cons_zero, List.setIfInBounds_toArray, List.set_cons_zero, List.set_cons_succ]))
      refine wpAnyH_done (by kernel_rfl) ?_ _
      clear hS0 hS1 hS2 hS3
      go_wp2
      go_ret
      exact ⟨by cases bv <;> rfl, hB7⟩
    · clear HD
      go_wp2_with (first
        | (go_at_call 11; refine (HX.out _).mono ?_; rintro e w5 ⟨rfl, hb5⟩; have hB5 := Below.next hB4 hb5))
      go_ret
      exact ⟨rfl, hB5⟩
  · obtain ⟨ad, cd, rfl, _, _, _⟩ := h1
    obtain ⟨ap, cp, rfl, _, _, _⟩ := h2
    obtain ⟨ao, co', rfl, _, _, _⟩ := h4
    obtain ⟨af, cf, rfl, _, _, _⟩ := h5
    obtain ⟨aw, cw, rfl, _⟩ := h3.spell
    clear hp h3 H3 H4 WD1 WD2 R2 R5
    generalize twL p who dl pl ol = r1 at *
    generalize twE p who dl pl ol = e1 at *
    generalize dl.length = nd at *
    generalize ol.length = no at *
    generalize pl.length = np at *
    generalize pb.length = nf at *
    generalize who.length = nw at *
    rw [plan_eq] at *
    obtain ⟨W1, hW, hA, hS⟩ := case_box2 w p (.slice ad nd cd) (.slice ap np cp) (.slice ao no co') ve (.slice af nf cf) vg 46 28
    have HW := hide hW
    have HS := hide hS
    clear hW hS
    obtain ⟨⟨c0, c1, c2, c3, c4, c5, c6, c7⟩, d3, d0, d1, d2⟩ := HS.out _ (Below.refl _ _)
    go_enter Tryz.func6, Tryz.ntmps6
    go_upto_region 2 with fail
    rw [HW.out]
    go_wp2_with (first
      | (go_at_call 8; refine (H1.out _ hA).mono ?_; rintro e w1 ⟨v1, us1, rfl, x1, hb1⟩; have hC1 := hb1; have hB1 := Below.next hA hC1; obtain ⟨a1, k1, rfl⟩ := own_form x1.row; clear x1; clear c0 c1 c2 c3 c4 c5 c6 c7 d0 d1 d2 d3; obtain ⟨⟨c0, c1, c2, c3, c4, c5, c6, c7⟩, d3, d0, d1, d2⟩ := HS.out _ hC1)
      | (go_at_call 9; refine (H2.out _ hB1).mono ?_; rintro e w2 ⟨v2, rfl, x2, hb2⟩; have hB2 := Below.next hB1 hb2; obtain ⟨a2, k2, rfl, _⟩ := x2)
      | (go_at_call 11; refine (HX.out _).mono ?_; rintro e w5 ⟨rfl, hb5⟩; have hB5 := Below.next hB2 hb5))
    go_ret
    exact ⟨rfl, hB5⟩

end Go.Proofs.YtpbfgcepmbpkdaaGreat
