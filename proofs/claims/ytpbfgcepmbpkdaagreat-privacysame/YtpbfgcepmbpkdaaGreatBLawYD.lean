/-
  The statements of layer 15: PrivacySame walked.
-/
import Derived.Test.YtpbfgcepmbpkdaaGreatBunYH
import Derived.Test.YtpbfgcepmbpkdaaGreatBunYJ
import Derived.Test.YtpbfgcepmbpkdaaGreatBunYP
namespace Go.Proofs.YtpbfgcepmbpkdaaGreat
open Go.RowKit Fld Pln Shr
set_option linter.unusedVariables false
set_option linter.unusedSimpArgs false

theorem Rws.row_at {w : World} {a : Option Addr} {n c : Nat} {l : List (List Int)} (h : Rws w (.slice a n c) l) {j : Nat} (hj : j < l.length) : ∃ b off q, a = some ⟨b, off, none⟩ ∧ ∀ wr, Below w.heap.size w wr → wr.cell? ⟨b, off + j, none⟩ = some q ∧ Rw wr q (l.getD j []) := by
  obtain ⟨a', c', hv, _, _, hc⟩ := h
  cases hv
  obtain ⟨b, off, rfl, hl, hr⟩ := hc (by intro h0; rw [h0] at hj; simp at hj)
  obtain ⟨q, e, r⟩ := hr j hj
  exact ⟨b, off, q, rfl, fun wr hb => ⟨(hb.cell (p := ⟨b, off + j, none⟩) hl).trans e, r.below hb⟩⟩
/-- What PrivacySame compares. -/
theorem same_facts {p : Pn} {who : List Int} {dl pl ol : List (List Int)} (hz : twE p who dl pl ol = 0) (w1 : ∀ b ∈ dl, Wd b) (w2 : ∀ b ∈ pl, Wd b) (w3 : ∀ b ∈ ol, Wd b) : ∃ N : Nat, N ≤ 64 ∧ (allL p dl pl).length = N ∧ (allL p ol (twL p who dl pl ol)).length = N ∧ (seL p who dl pl).length = who.length ∧ ∀ k, k < who.length → ∃ j : Nat, j < N ∧ who.getD k 0 = (j : Int) ∧ (allL p ol (twL p who dl pl ol)).getD j [] = (allL p dl pl).getD j [] ∧ (seL p who dl pl).getD k [] = (allL p dl pl).getD j [] := by
  obtain ⟨z1, z2, s1, s2, e1, e2, e3⟩ := tw_same hz w1 w2 w3
  obtain ⟨wt, _⟩ := tw_wd (p := p) (who := who) w1 w2 w3
  obtain ⟨_, hw, _, _⟩ := tw_zero.1 hz
  obtain ⟨q, wd, hm, hf, _, _, _, _, _, _, _, _, _, on, o64, _⟩ := bk_facts z1 w1 w2
  refine ⟨(outL p).length, o64, by unfold allL; rw [if_pos z1, List.length_map], by unfold allL; rw [if_pos z2, List.length_map], by rw [e2, List.length_map], fun k hk => ?_⟩
  have hmem : who.getD k 0 ∈ who := getD_memA 0 hk
  obtain ⟨h0, h1⟩ := hw _ hmem
  refine ⟨(who.getD k 0).toNat, by rw [on]; omega, by omega, e3 _ hmem, ?_⟩
  rw [e2, List.getD_eq_getElem?_getD, List.getElem?_map, List.getElem?_eq_getElem hk]
  have : who.getD k 0 = who[k] := by rw [List.getD_eq_getElem?_getD, List.getElem?_eq_getElem hk]; rfl
  rw [this]; rfl

set_option maxRecDepth 100000 in
set_option maxHeartbeats 4000000 in
theorem privacySame_any (w : World) (p : Pn) (vw vd vp vo : Value) (who : List Int) (dl pl ol : List (List Int)) (hp : Ok8p p) (h3 : Lm iw 1 w vw who) (h1 : Rws w vd dl) (h2 : Rws w vp pl) (h4 : Rws w vo ol) : Calls Tryz.prog 5 #[plv p, vw, .agg #[vd, vp, vo]] w fun e w' => e = .returned (.bool true) ∧ Below w.heap.size w w' := by
  have H1 := hide (fun W (hb : Below w.heap.size w W) => gTwin p vw vd vp vo who dl pl ol W hp (h3.below hb) (h1.below hb) (h2.below hb) (h4.below hb))
  have H2 := hide (fun W (hb : Below w.heap.size w W) => dTwin p vw vd vp vo who dl pl ol W hp (h3.below hb) (h1.below hb) (h2.below hb) (h4.below hb))
  have H5 := hide (fun W (hb : Below w.heap.size w W) => dAll p vd vp dl pl W hp (h1.below hb) (h2.below hb))
  have H6 := hide (fun W vt (hb : Below w.heap.size w W) (ht : Rws W vt (twL p who dl pl ol)) => dAll p vo vt ol (twL p who dl pl ol) W hp (h4.below hb) ht)
  have H7 := hide (fun W (hb : Below w.heap.size w W) => gSeen p vw vd vp who dl pl W hp (h3.below hb) (h1.below hb) (h2.below hb))
  have H8 := hide (fun W vt (hb : Below w.heap.size w W) (ht : Rws W vt (twL p who dl pl ol)) => gSeen p vw vo vt who ol (twL p who dl pl ol) W hp (h3.below hb) (h4.below hb) ht)
  unfold GivesM at H1 H7 H8
  unfold GivesL at H5 H6
  unfold GivesW at H2
  have HX := hide anch15
  obtain ⟨t1, t2⟩ := tw_wd (p := p) (who := who) h1.wordsH h2.wordsH h4.wordsH
  have WD1 : Hid (∀ W lo v us, Mtx W lo v us (twL p who dl pl ol) → Rws W v (twL p who dl pl ol)) := fun W lo v us h => h.rws (getD_wd t1) (by omega)
  have W1' := h1.wordsH
  have W2' := h2.wordsH
  have W4' := h4.wordsH
  have R3 := hide h3
  obtain ⟨ad, cd, rfl, _, _, _⟩ := h1
  obtain ⟨ap, cp, rfl, _, _, _⟩ := h2
  obtain ⟨ao, co', rfl, _, _, _⟩ := h4
  have hwl := h3.len
  obtain ⟨aw, cw, rfl, _⟩ := h3.spell
  clear hp h3
  by_cases hz : twE p who dl pl ol = 0
  · obtain ⟨N, hN, l1, l2, l3, hF⟩ := same_facts hz W1' W2' W4'
    obtain ⟨z1, z2, s1, s2, e1, g1, g2⟩ := tw_same hz W1' W2' W4'
    have q1 := (ans_wd (p := p) W1' W2').2.1.1
    have q2 := (ans_wd (p := p) W4' t1).2.1.1
    have q3 := se_wd (p := p) (who := who) (fun i => getD_wd q1 i)
    have WD2 : Hid (∀ W lo hi v us, Lss W lo hi v us (allL p dl pl) → Rws W v (allL p dl pl)) := fun W lo hi v us h => h.rws (getD_wd q1) (by omega)
    have WD3 : Hid (∀ W lo hi v us, Lss W lo hi v us (allL p ol (twL p who dl pl ol)) → Rws W v (allL p ol (twL p who dl pl ol))) := fun W lo hi v us h => h.rws (getD_wd q2) (by omega)
    have WD4 : Hid (∀ W lo v us, Mtx W lo v us (seL p who dl pl) → Rws W v (seL p who dl pl)) := fun W lo v us h => h.rws (getD_wd q3.1) (by have := q3.2; omega)
    have HF := hide hF
    have L1 := hide l1
    have L2 := hide l2
    have L3 := hide l3
    rw [e1, s2] at H8
    rw [s1] at H7
    rw [z1] at H5
    rw [z2] at H6
    rw [hz] at H1
    clear H2 hz z1 z2 s1 s2 e1 q1 q2 q3 W1' W2' W4' t1 t2 l1 l2 l3 hF g1 g2
    generalize allL p ol (twL p who dl pl ol) = bl at *
    generalize twL p who dl pl ol = tl at *
    generalize allL p dl pl = al at *
    generalize seL p who dl pl = sl at *
    generalize dl.length = nd at *
    generalize pl.length = np at *
    generalize ol.length = no at *
    obtain ⟨nw, HNw⟩ : ∃ nw, Hid (who.length = nw) := ⟨_, rfl⟩
    rw [HNw.out] at H1 H7 H8 L3 R3 HF hwl ⊢
    rw [plan_eq] at *
    obtain ⟨W1, hW, hA, hS⟩ := case_box w p (.slice ad nd cd) (.slice ap np cp) (.slice ao no co') 28
    have HW := hide hW
    have HS := hide hS
    clear hW hS
    obtain ⟨⟨c0, c1, c2, c3, c4, c5, c6, c7⟩, d0, d1, d2⟩ := HS.out _ (Below.refl _ _)
    go_enter Tryz.func5, Tryz.ntmps5
    go_upto_region 1 with fail
    rw [HW.out]
    go_upto_region 5 with (first
      | (go_at_call 8; refine (H1.out _ hA).mono ?_; rintro e w1 ⟨v1, us1, rfl, x1, hb1⟩; have hC1 := hb1; have hB1 := Below.next hA hC1; have R1 := hide (WD1.out _ _ _ _ x1); obtain ⟨a1, k1, rfl⟩ := own_form x1.row; clear x1; clear c0 c1 c2 c3 c4 c5 c6 c7 d0 d1 d2; obtain ⟨⟨c0, c1, c2, c3, c4, c5, c6, c7⟩, d0, d1, d2⟩ := HS.out _ hC1))
    go_upto_region 9 with (first
      | (go_at_call 16; with_reducible refine (H5.out _ hB1).mono ?_; rintro e w2 ⟨v2, us2, rfl, x2, hb2⟩; have hC2 := Below.next hC1 hb2; have hB2 := Below.next hA hC2; have RL := hide (WD2.out _ _ _ _ _ x2); have R1b := hide (R1.out.below hb2); obtain ⟨a2, k2, rfl⟩ := own_form x2.row; clear x2; clear c0 c1 c2 c3 c4 c5 c6 c7 d0 d1 d2; obtain ⟨⟨c0, c1, c2, c3, c4, c5, c6, c7⟩, d0, d1, d2⟩ := HS.out _ hC2)
      | (go_at_call 16; with_reducible refine (H6.out _ _ hB2 R1b.out).mono ?_; rintro e w3 ⟨v3, us3, rfl, x3, hb3⟩; have hC3 := Below.next hC2 hb3; have hB3 := Below.next hA hC3; have RM := hide (WD3.out _ _ _ _ _ x3); obtain ⟨a3, k3, rfl⟩ := own_form x3.row; clear x3; clear c0 c1 c2 c3 c4 c5 c6 c7 d0 d1 d2; obtain ⟨⟨c0, c1, c2, c3, c4, c5, c6, c7⟩, d0, d1, d2⟩ := HS.out _ hC3)
      | (go_at_call 12; with_reducible refine (H7.out _ hB3).mono ?_; rintro e w4 ⟨v4, us4, rfl, x4, hb4⟩; have hC4 := Below.next hC3 hb4; have hB4 := Below.next hA hC4; have RA := hide (WD4.out _ _ _ _ x4); have R1c := hide ((R1b.out.below hb3).below hb4); obtain ⟨a4, k4, rfl⟩ := own_form x4.row; clear x4; clear c0 c1 c2 c3 c4 c5 c6 c7 d0 d1 d2; obtain ⟨⟨c0, c1, c2, c3, c4, c5, c6, c7⟩, d0, d1, d2⟩ := HS.out _ hC4)
      | (go_at_call 12; with_reducible refine (H8.out _ _ hB4 R1c.out).mono ?_; rintro e w5 ⟨v5, us5, rfl, x5, hb5⟩; have hB5 := Below.next hB4 hb5; have RB := hide (WD4.out _ _ _ _ x5); obtain ⟨a5, k5, rfl⟩ := own_form x5.row; clear x5))
    have QA := hide (RA.out.below hb5)
    rw [L3.out] at QA RB ⊢
    go_wp2_with (first
      | (go_at_call 10; refine (Rows_h _ _ _ _ QA.out RB.out).mono ?_; rintro e w6 ⟨rfl, hb6⟩; have hB6 := Below.next hB5 hb6))
    have Q1 := hide ((((RL.out.below hb3).below hb4).below hb5).below hb6)
    have Q2 := hide (((RM.out.below hb4).below hb5).below hb6)
    have Q3 := hide (QA.out.below hb6)
    have Q4 := hide (R3.out.below hB6)
    rw [L1.out] at Q1 ⊢
    rw [L2.out] at Q2 ⊢
    clear RL RM RA RB QA R1 R1b R1c R3 WD1 WD2 WD3 WD4 H1 H5 H6 H7 H8 HS HW hb1 hb2 hb3 hb4 hb5 hb6 hB1 hB2 hB3 hB4 hB5 hC1 hC2 hC3 hC4
    go_loopw [19] (fun vi wr => ∃ k : Nat, k ≤ nw ∧ vi = .int .i64 k ∧ Below w6.heap.size w6 wr) (fun vi _ => nw - (intOf vi).toNat)
    case atStart => exact ⟨0, Nat.zero_le _, rfl, Below.refl _ _⟩
    case round =>
      obtain ⟨k, hk, rfl, hB⟩ := hrel
      by_cases hlt : k < nw
      · obtain ⟨j, hj, ej, eb, es⟩ := HF.out k hlt
        obtain ⟨b1, o1, u1, rfl, f1⟩ := Q1.out.row_at (j := j) (by rw [L1.out]; exact hj)
        obtain ⟨b2, o2, u2, rfl, f2⟩ := Q2.out.row_at (j := j) (by rw [L2.out]; exact hj)
        obtain ⟨b3, o3, u3, rfl, f3⟩ := Q3.out.row_at (j := k) (by rw [L3.out]; exact hlt)
        obtain ⟨b4, o4, cw', hv4, _⟩ := Q4.out.form (by rw [HNw.out]; omega)
        rw [HNw.out] at hv4
        injection hv4 with hv4 _ hcv
        subst hv4 hcv
        have d4 := (lmi_cell Q4.out hB (k := k) (by rw [HNw.out]; exact hlt)).2
        rw [ej] at d4
        obtain ⟨d1, r1⟩ := f1 _ hB
        obtain ⟨d2, r2⟩ := f2 _ hB
        obtain ⟨d3, r3⟩ := f3 _ hB
        rw [eb] at r2
        rw [es] at r3
        have HS1 := hide (fun W (hb : Below wr.heap.size wr W) => Same_yes u1 u2 _ W ((r1.below hb).1) ((r2.below hb).1))
        have HS2 := hide (fun W (hb : Below wr.heap.size wr W) => Same_yes u3 u1 _ W ((r3.below hb).1) ((r1.below hb).1))
        obtain ⟨z1, y1, rfl, _⟩ := r1.spell
        obtain ⟨z2, y2, rfl, _⟩ := r2.spell
        obtain ⟨z3, y3, rfl, _⟩ := r3.spell
        have k0 : (0 : Int) ≤ (k : Int) := Int.natCast_nonneg _
        have k1 : (k : Int) < (nw : Int) := by omega
        have j0 : (0 : Int) ≤ (j : Int) := Int.natCast_nonneg _
        have j1 : (j : Int) < (N : Int) := by omega
        clear f1 f2 f3 r1 r2 r3 eb es ej
        generalize (al.getD j []).length = ln at *
        have HS3 : Hid (∀ V, Below wr.heap.size wr V → V.cell? ⟨b4, o4 + k, none⟩ = some (.int .i64 (j : Int)) ∧ V.cell? ⟨b1, o1 + j, none⟩ = some (.slice z1 ln y1) ∧ V.cell? ⟨b2, o2 + j, none⟩ = some (.slice z2 ln y2) ∧ V.cell? ⟨b3, o3 + k, none⟩ = some (.slice z3 ln y3)) := fun V hb => ⟨(hb.cell (p := ⟨b4, o4 + k, none⟩) (cell_in d4)).trans d4, (hb.cell (p := ⟨b1, o1 + j, none⟩) (cell_in d1)).trans d1, (hb.cell (p := ⟨b2, o2 + j, none⟩) (cell_in d2)).trans d2, (hb.cell (p := ⟨b3, o3 + k, none⟩) (cell_in d3)).trans d3⟩
        have hdr : Below wr.heap.size wr wr.drew := (Below.refl _ wr).drew
        have hS0 := HS3.out _ hdr
        clear d1 d2 d3 d4 Q1 Q2 Q3 Q4
        go_upto_region 14 with fail
        refine wp_region_held_drew (S := (fun V => V.cell? ⟨b4, o4 + k, none⟩ = some (.int .i64 (j : Int)) ∧ V.cell? ⟨b1, o1 + j, none⟩ = some (.slice z1 ln y1) ∧ V.cell? ⟨b2, o2 + j, none⟩ = some (.slice z2 ln y2) ∧ V.cell? ⟨b3, o3 + k, none⟩ = some (.slice z3 ln y3))) (by kernel_rfl) (by ((try dsimp only) <;> (first | with_reducible exact hS2 | with_reducible exact hS1 | with_reducible exact hS0))) (fun hHeld => ?_)
        (refine wpAnyH_take (i := 0) (oi := _) (v := ?v149) rfl (by kernel_rfl) (by kernel_rfl) (by kernel_rfl) (fun _ _ _ h => h) (Or.inl ⟨by rfl, ?hy149⟩) (by assumption) ?rest149; (case hy149 => (first | (intro w hSw; (try dsimp only at hSw); go_simp; done) | (intro w hSw; (try dsimp only at hSw); go_simp; with_reducible rfl))); (try simp only [Act.put, List.getElem_toArray, List.getElem_cons_succ, List.getElem_cons_zero, List.setIfInBounds_toArray, List.set_cons_zero, List.set_cons_succ]))
        (refine wpAnyH_take (i := 1) (oi := _) (v := ?v150) rfl (by kernel_rfl) (by kernel_rfl) (by kernel_rfl) (fun _ _ _ h => h) (Or.inl ⟨by rfl, ?hy150⟩) (by assumption) ?rest150; (case hy150 => (first | (intro w hSw; (try dsimp only at hSw); go_simp; done) | (intro w hSw; (try dsimp only at hSw); go_simp; with_reducible rfl))); (try simp only [Act.put, List.getElem_toArray, List.getElem_cons_succ, List.getElem_cons_zero, List.setIfInBounds_toArray, List.set_cons_zero, List.set_cons_succ]))
        (refine wpAnyH_take (i := 2) (oi := _) (v := ?v151) rfl (by kernel_rfl) (by kernel_rfl) (by kernel_rfl) (fun _ _ _ h => h) (Or.inl ⟨by rfl, ?hy151⟩) (by assumption) ?rest151; (case hy151 => (first | (intro w hSw; (try dsimp only at hSw); go_simp; done) | (intro w hSw; (try dsimp only at hSw); go_simp; with_reducible rfl))); (try simp only [Act.put, List.getElem_toArray, List.getElem_cons_succ, List.getElem_cons_zero, List.setIfInBounds_toArray, List.set_cons_zero, List.set_cons_succ]))
        (refine wpAnyH_take (i := 3) (oi := _) (v := ?v152) rfl (by kernel_rfl) (by kernel_rfl) (by kernel_rfl) (fun _ _ _ h => h) (Or.inl ⟨by rfl, ?hy152⟩) (by assumption) ?rest152; (case hy152 => (first | (intro w hSw; (try dsimp only at hSw); go_simp; done) | (intro w hSw; (try dsimp only at hSw); go_simp; with_reducible rfl))); (try simp only [Act.put, List.getElem_toArray, List.getElem_cons_succ, List.getElem_cons_zero, List.setIfInBounds_toArray, List.set_cons_zero, List.set_cons_succ]))
        (refine wpAnyH_take (i := 4) (oi := _) (v := ?v153) rfl (by kernel_rfl) (by kernel_rfl) (by kernel_rfl) (fun _ _ _ h => h) (Or.inl ⟨by rfl, ?hy153⟩) (by assumption) ?rest153; (case hy153 => (first | (intro w hSw; (try dsimp only at hSw); go_simp; done) | (intro w hSw; (try dsimp only at hSw); go_simp; with_reducible rfl))); (try simp only [Act.put, List.getElem_toArray, List.getElem_cons_succ, List.getElem_cons_zero, List.setIfInBounds_toArray, List.set_cons_zero, List.set_cons_succ]))
        (refine wpAnyH_take (i := 5) (oi := _) (v := ?v154) rfl (by kernel_rfl) (by kernel_rfl) (by kernel_rfl) (fun _ _ _ h => h) (Or.inl ⟨by rfl, ?hy154⟩) (by assumption) ?rest154; (case hy154 => (first | (intro w hSw; (try dsimp only at hSw); go_simp; done) | (intro w hSw; (try dsimp only at hSw); go_simp; with_reducible rfl))); (try simp only [Act.put, List.getElem_toArray, List.getElem_cons_succ, List.getElem_cons_zero, List.setIfInBounds_toArray, List.set_cons_zero, List.set_cons_succ]))
        (refine wpAnyH_take (i := 6) (oi := _) (v := ?v155) rfl (by kernel_rfl) (by kernel_rfl) (by kernel_rfl) (fun _ _ _ h => h) (Or.inl ⟨by rfl, ?hy155⟩) (by assumption) ?rest155; (case hy155 => (first | (intro w hSw; (try dsimp only at hSw); go_simp; done) | (intro w hSw; (try dsimp only at hSw); go_simp; with_reducible rfl))); (try simp only [Act.put, List.getElem_toArray, List.getElem_cons_succ, List.getElem_cons_zero, List.setIfInBounds_toArray, List.set_cons_zero, List.set_cons_succ]))
        (refine wpAnyH_take (i := 7) (oi := _) (v := ?v156) rfl (by kernel_rfl) (by kernel_rfl) (by kernel_rfl) (fun _ _ _ h => h) (Or.inl ⟨by rfl, ?hy156⟩) (by assumption) ?rest156; (case hy156 => (first | (intro w hSw; (try dsimp only at hSw); go_simp; done) | (intro w hSw; (try dsimp only at hSw); go_simp; with_reducible rfl))); (try simp only [Act.put, List.getElem_toArray, List.getElem_cons_succ, List.getElem_cons_zero, List.setIfInBounds_toArray, List.set_cons_zero, List.set_cons_succ]))
        (refine wpAnyH_take (i := 8) (oi := _) (v := ?v157) rfl (by kernel_rfl) (by kernel_rfl) (by kernel_rfl) (fun _ _ _ h => h) (Or.inl ⟨by rfl, ?hy157⟩) (by assumption) ?rest157; (case hy157 => (first | (intro w hSw; (try dsimp only at hSw); go_simp; done) | (intro w hSw; (try dsimp only at hSw); go_simp; with_reducible rfl))); (try simp only [Act.put, List.getElem_toArray, List.getElem_cons_succ, List.getElem_cons_zero, List.setIfInBounds_toArray, List.set_cons_zero, List.set_cons_succ]))
        (refine wpAnyH_take (i := 9) (oi := _) (v := ?v158) rfl (by kernel_rfl) (by kernel_rfl) (by kernel_rfl) (fun _ _ _ h => h) (Or.inl ⟨by rfl, ?hy158⟩) (by assumption) ?rest158; (case hy158 => (first | (intro w hSw; (try dsimp only at hSw); go_simp; done) | (intro w hSw; (try dsimp only at hSw); go_simp; with_reducible rfl))); (try simp only [Act.put, List.getElem_toArray, List.getElem_cons_succ, List.getElem_cons_zero, List.setIfInBounds_toArray, List.set_cons_zero, List.set_cons_succ]))
        (refine wpAnyH_take (i := 10) (oi := _) (v := ?v159) rfl (by kernel_rfl) (by kernel_rfl) (by kernel_rfl) (fun _ _ _ h => h) (Or.inl ⟨by rfl, ?hy159⟩) (by assumption) ?rest159; (case hy159 => (first | (intro w hSw; (try dsimp only at hSw); go_simp; done) | (intro w hSw; (try dsimp only at hSw); go_simp; with_reducible rfl))); (try simp only [Act.put, List.getElem_toArray, List.getElem_cons_succ, List.getElem_cons_zero, List.setIfInBounds_toArray, List.set_cons_zero, List.set_cons_succ]))
        (refine wpAnyH_take (i := 11) (oi := _) (v := ?v160) rfl (by kernel_rfl) (by kernel_rfl) (by kernel_rfl) (fun _ _ _ h => h) (Or.inl ⟨by rfl, ?hy160⟩) (by assumption) ?rest160; (case hy160 => (first | (intro w hSw; (try dsimp only at hSw); go_simp; done) | (intro w hSw; (try dsimp only at hSw); go_simp; with_reducible rfl))); (try simp only [Act.put, List.getElem_toArray, List.getElem_cons_succ, List.getElem_cons_zero, List.setIfInBounds_toArray, List.set_cons_zero, List.set_cons_succ]))
        (refine wpAnyH_take (i := 12) (oi := _) (v := ?v161) rfl (by kernel_rfl) (by kernel_rfl) (by kernel_rfl) (fun _ _ _ h => h) (Or.inl ⟨by rfl, ?hy161⟩) (by assumption) ?rest161; (case hy161 => (first | (intro w hSw; (try dsimp only at hSw); go_simp; done) | (intro w hSw; (try dsimp only at hSw); go_simp; with_reducible rfl))); (try simp only [Act.put, List.getElem_toArray, List.getElem_cons_succ, List.getElem_cons_zero, List.setIfInBounds_toArray, List.set_cons_zero, List.set_cons_succ]))
        (refine wpAnyH_take (i := 13) (oi := _) (v := ?v162) rfl (by kernel_rfl) (by kernel_rfl) (by kernel_rfl) (fun _ _ _ h => h) (Or.inl ⟨by rfl, ?hy162⟩) (by assumption) ?rest162; (case hy162 => (first | (intro w hSw; (try dsimp only at hSw); go_simp; done) | (intro w hSw; (try dsimp only at hSw); go_simp; with_reducible rfl))); (try simp only [Act.put, List.getElem_toArray, List.getElem_cons_succ, List.getElem_cons_zero, List.setIfInBounds_toArray, List.set_cons_zero, List.set_cons_succ]))
        refine wpAnyH_ready (rs := [14]) (by kernel_rfl) (by simp) ?_
        refine AllReadyH.cons (o := _) rfl (fun K hK => ?_) AllReadyH.nil
        try simp only [List.getElem_toArray, List.getElem_cons_succ, List.getElem_cons_zero]
        go_simp
        (first
              | (go_at_call 17; with_reducible refine (HS1.out _ hdr).mono ?_; rintro e w7 ⟨rfl, hb7⟩; have hC7 := Below.next hdr hb7; have hS1 := HS3.out _ hC7)
              | (go_at_call 17; with_reducible refine (HS2.out _ hC7).mono ?_; rintro e w8 ⟨rfl, hb8⟩; have hC8 := Below.next hC7 hb8; have hS2 := HS3.out _ hC8))
        first | (refine hK.out _ _ (by ((try dsimp only) <;> (first | with_reducible exact hS2 | with_reducible exact hS1 | with_reducible exact hS0))) (fun hHeld => ?_)) | (go_wp2_with fail; refine hK.out _ _ (by ((try dsimp only) <;> (first | with_reducible exact hS2 | with_reducible exact hS1 | with_reducible exact hS0))) (fun hHeld => ?_))
        clear hK K
        (try simp only [Act.put, List.getElem_toArray, List.getElem_cons_succ, List.getElem_cons_zero, List.setIfInBounds_toArray, List.set_cons_zero, List.set_cons_succ])
        (refine wpAnyH_take (i := 15) (oi := _) (v := ?v163) rfl (by kernel_rfl) (by kernel_rfl) (by kernel_rfl) (fun _ _ _ h => h) (Or.inl ⟨by rfl, ?hy163⟩) (by assumption) ?rest163; (case hy163 => (first | (intro w hSw; (try dsimp only at hSw); go_simp; done) | (intro w hSw; (try dsimp only at hSw); go_simp; with_reducible rfl))); (try simp only [Act.put, List.getElem_toArray, List.getElem_cons_succ, List.getElem_cons_zero, List.setIfInBounds_toArray, List.set_cons_zero, List.set_cons_succ]))
        (refine wpAnyH_take (i := 16) (oi := _) (v := ?v164) rfl (by kernel_rfl) (by kernel_rfl) (by kernel_rfl) (fun _ _ _ h => h) (Or.inl ⟨by rfl, ?hy164⟩) (by assumption) ?rest164; (case hy164 => (first | (intro w hSw; (try dsimp only at hSw); go_simp; done) | (intro w hSw; (try dsimp only at hSw); go_simp; with_reducible rfl))); (try simp only [Act.put, List.getElem_toArray, List.getElem_cons_succ, List.getElem_cons_zero, List.setIfInBounds_toArray, List.set_cons_zero, List.set_cons_succ]))
        (refine wpAnyH_take (i := 17) (oi := _) (v := ?v165) rfl (by kernel_rfl) (by kernel_rfl) (by kernel_rfl) (fun _ _ _ h => h) (Or.inl ⟨by rfl, ?hy165⟩) (by assumption) ?rest165; (case hy165 => (first | (intro w hSw; (try dsimp only at hSw); go_simp; done) | (intro w hSw; (try dsimp only at hSw); go_simp; with_reducible rfl))); (try simp only [Act.put, List.getElem_toArray, List.getElem_cons_succ, List.getElem_cons_zero, List.setIfInBounds_toArray, List.set_cons_zero, List.set_cons_succ]))
        (refine wpAnyH_take (i := 18) (oi := _) (v := ?v166) rfl (by kernel_rfl) (by kernel_rfl) (by kernel_rfl) (fun _ _ _ h => h) (Or.inl ⟨by rfl, ?hy166⟩) (by assumption) ?rest166; (case hy166 => (first | (intro w hSw; (try dsimp only at hSw); go_simp; done) | (intro w hSw; (try dsimp only at hSw); go_simp; with_reducible rfl))); (try simp only [Act.put, List.getElem_toArray, List.getElem_cons_succ, List.getElem_cons_zero, List.setIfInBounds_toArray, List.set_cons_zero, List.set_cons_succ]))
        (refine wpAnyH_take (i := 19) (oi := _) (v := ?v167) rfl (by kernel_rfl) (by kernel_rfl) (by kernel_rfl) (fun _ _ _ h => h) (Or.inl ⟨by rfl, ?hy167⟩) (by assumption) ?rest167; (case hy167 => (first | (intro w hSw; (try dsimp only at hSw); go_simp; done) | (intro w hSw; (try dsimp only at hSw); go_simp; with_reducible rfl))); (try simp only [Act.put, List.getElem_toArray, List.getElem_cons_succ, List.getElem_cons_zero, List.setIfInBounds_toArray, List.set_cons_zero, List.set_cons_succ]))
        (refine wpAnyH_take (i := 20) (oi := _) (v := ?v168) rfl (by kernel_rfl) (by kernel_rfl) (by kernel_rfl) (fun _ _ _ h => h) (Or.inl ⟨by rfl, ?hy168⟩) (by assumption) ?rest168; (case hy168 => (first | (intro w hSw; (try dsimp only at hSw); go_simp; done) | (intro w hSw; (try dsimp only at hSw); go_simp; with_reducible rfl))); (try simp only [Act.put, List.getElem_toArray, List.getElem_cons_succ, List.getElem_cons_zero, List.setIfInBounds_toArray, List.set_cons_zero, List.set_cons_succ]))
        (refine wpAnyH_take (i := 21) (oi := _) (v := ?v169) rfl (by kernel_rfl) (by kernel_rfl) (by kernel_rfl) (fun _ _ _ h => h) (Or.inl ⟨by rfl, ?hy169⟩) (by assumption) ?rest169; (case hy169 => (first | (intro w hSw; (try dsimp only at hSw); go_simp; done) | (intro w hSw; (try dsimp only at hSw); go_simp; with_reducible rfl))); (try simp only [Act.put, List.getElem_toArray, List.getElem_cons_succ, List.getElem_cons_zero, List.setIfInBounds_toArray, List.set_cons_zero, List.set_cons_succ]))
        (refine wpAnyH_take (i := 22) (oi := _) (v := ?v170) rfl (by kernel_rfl) (by kernel_rfl) (by kernel_rfl) (fun _ _ _ h => h) (Or.inl ⟨by rfl, ?hy170⟩) (by assumption) ?rest170; (case hy170 => (first | (intro w hSw; (try dsimp only at hSw); go_simp; done) | (intro w hSw; (try dsimp only at hSw); go_simp; with_reducible rfl))); (try simp only [Act.put, List.getElem_toArray, List.getElem_cons_succ, List.getElem_cons_zero, List.setIfInBounds_toArray, List.set_cons_zero, List.set_cons_succ]))
        (refine wpAnyH_take (i := 23) (oi := _) (v := ?v171) rfl (by kernel_rfl) (by kernel_rfl) (by kernel_rfl) (fun _ _ _ h => h) (Or.inl ⟨by rfl, ?hy171⟩) (by assumption) ?rest171; (case hy171 => (first | (intro w hSw; (try dsimp only at hSw); go_simp; done) | (intro w hSw; (try dsimp only at hSw); go_simp; with_reducible rfl))); (try simp only [Act.put, List.getElem_toArray, List.getElem_cons_succ, List.getElem_cons_zero, List.setIfInBounds_toArray, List.set_cons_zero, List.set_cons_succ]))
        (refine wpAnyH_take (i := 24) (oi := _) (v := ?v172) rfl (by kernel_rfl) (by kernel_rfl) (by kernel_rfl) (fun _ _ _ h => h) (Or.inl ⟨by rfl, ?hy172⟩) (by assumption) ?rest172; (case hy172 => (first | (intro w hSw; (try dsimp only at hSw); go_simp; done) | (intro w hSw; (try dsimp only at hSw); go_simp; with_reducible rfl))); (try simp only [Act.put, List.getElem_toArray, List.getElem_cons_succ, List.getElem_cons_zero, List.setIfInBounds_toArray, List.set_cons_zero, List.set_cons_succ]))
        (refine wpAnyH_take (i := 25) (oi := _) (v := ?v173) rfl (by kernel_rfl) (by kernel_rfl) (by kernel_rfl) (fun _ _ _ h => h) (Or.inl ⟨by rfl, ?hy173⟩) (by assumption) ?rest173; (case hy173 => (first | (intro w hSw; (try dsimp only at hSw); go_simp; done) | (intro w hSw; (try dsimp only at hSw); go_simp; with_reducible rfl))); (try simp only [Act.put, List.getElem_toArray, List.getElem_cons_succ, List.getElem_cons_zero, List.setIfInBounds_toArray, List.set_cons_zero, List.set_cons_succ]))
        (refine wpAnyH_take (i := 26) (oi := _) (v := ?v174) rfl (by kernel_rfl) (by kernel_rfl) (by kernel_rfl) (fun _ _ _ h => h) (Or.inl ⟨by rfl, ?hy174⟩) (by assumption) ?rest174; (case hy174 => (first | (intro w hSw; (try dsimp only at hSw); go_simp; done) | (intro w hSw; (try dsimp only at hSw); go_simp; with_reducible rfl))); (try simp only [Act.put, List.getElem_toArray, List.getElem_cons_succ, List.getElem_cons_zero, List.setIfInBounds_toArray, List.set_cons_zero, List.set_cons_succ]))
        (refine wpAnyH_take (i := 27) (oi := _) (v := ?v175) rfl (by kernel_rfl) (by kernel_rfl) (by kernel_rfl) (fun _ _ _ h => h) (Or.inl ⟨by rfl, ?hy175⟩) (by assumption) ?rest175; (case hy175 => (first | (intro w hSw; (try dsimp only at hSw); go_simp; done) | (intro w hSw; (try dsimp only at hSw); go_simp; with_reducible rfl))); (try simp only [Act.put, List.getElem_toArray, List.getElem_cons_succ, List.getElem_cons_zero, List.setIfInBounds_toArray, List.set_cons_zero, List.set_cons_succ]))
        refine wpAnyH_ready (rs := [28]) (by kernel_rfl) (by simp) ?_
        refine AllReadyH.cons (o := _) rfl (fun K hK => ?_) AllReadyH.nil
        try simp only [List.getElem_toArray, List.getElem_cons_succ, List.getElem_cons_zero]
        go_simp
        (first
              | (go_at_call 17; with_reducible refine (HS1.out _ hdr).mono ?_; rintro e w7 ⟨rfl, hb7⟩; have hC7 := Below.next hdr hb7; have hS1 := HS3.out _ hC7)
              | (go_at_call 17; with_reducible refine (HS2.out _ hC7).mono ?_; rintro e w8 ⟨rfl, hb8⟩; have hC8 := Below.next hC7 hb8; have hS2 := HS3.out _ hC8))
        first | (refine hK.out _ _ (by ((try dsimp only) <;> (first | with_reducible exact hS2 | with_reducible exact hS1 | with_reducible exact hS0))) (fun hHeld => ?_)) | (go_wp2_with fail; refine hK.out _ _ (by ((try dsimp only) <;> (first | with_reducible exact hS2 | with_reducible exact hS1 | with_reducible exact hS0))) (fun hHeld => ?_))
        clear hK K
        (try simp only [Act.put, List.getElem_toArray, List.getElem_cons_succ, List.getElem_cons_zero, List.setIfInBounds_toArray, List.set_cons_zero, List.set_cons_succ])
        (refine wpAnyH_take (i := 29) (oi := _) (v := ?v176) rfl (by kernel_rfl) (by kernel_rfl) (by kernel_rfl) (fun _ _ _ h => h) (Or.inl ⟨by rfl, ?hy176⟩) (by assumption) ?rest176; (case hy176 => (first | (intro w hSw; (try dsimp only at hSw); go_simp; done) | (intro w hSw; (try dsimp only at hSw); go_simp; with_reducible rfl))); (try simp only [Act.put, List.getElem_toArray, List.getElem_cons_succ, List.getElem_cons_zero, List.setIfInBounds_toArray, List.set_cons_zero, List.set_cons_succ]))
        (refine wpAnyH_take (i := 30) (oi := _) (v := ?v177) rfl (by kernel_rfl) (by kernel_rfl) (by kernel_rfl) (fun _ _ _ h => h) (Or.inl ⟨by rfl, ?hy177⟩) (by assumption) ?rest177; (case hy177 => (first | (intro w hSw; (try dsimp only at hSw); go_simp; done) | (intro w hSw; (try dsimp only at hSw); go_simp; with_reducible rfl))); (try simp only [Act.put, List.getElem_toArray, List.getElem_cons_succ, List.getElem_cons_zero, List.setIfInBounds_toArray, List.set_cons_zero, List.set_cons_succ]))
        refine wpAnyH_done (by kernel_rfl) ?_ _
        have hB9 := Below.next hB hC8
        clear hS0 hS1 hS2
        go_wp2_with fail
        go_roundw
        case rel => exact ⟨k + 1, by omega, by go_num, hB9⟩
        case measure => simp [intOf]; omega
      · have hB7 := Below.next hB6 hB
        clear Q1 Q2 Q3 Q4 hB
        go_wp2_with (first
          | (go_at_call 11; refine (HX.out _).mono ?_; rintro e w8 ⟨rfl, hb8⟩; have hB8 := Below.next hB7 hb8))
        go_ret
        exact ⟨rfl, hB8⟩
  · clear H5 H6 H7 H8 WD1 W1' W2' W4' t1 t2 R3
    generalize twL p who dl pl ol = r1 at *
    generalize twE p who dl pl ol = e1 at *
    generalize dl.length = nd at *
    generalize ol.length = no at *
    generalize pl.length = np at *
    generalize who.length = nw at *
    rw [plan_eq] at *
    obtain ⟨W1, hW, hA, hS⟩ := case_box w p (.slice ad nd cd) (.slice ap np cp) (.slice ao no co') 28
    have HW := hide hW
    have HS := hide hS
    clear hW hS
    obtain ⟨⟨c0, c1, c2, c3, c4, c5, c6, c7⟩, d0, d1, d2⟩ := HS.out _ (Below.refl _ _)
    go_enter Tryz.func5, Tryz.ntmps5
    go_upto_region 1 with fail
    rw [HW.out]
    go_wp2_with (first
      | (go_at_call 8; refine (H1.out _ hA).mono ?_; rintro e w1 ⟨v1, us1, rfl, x1, hb1⟩; have hC1 := hb1; have hB1 := Below.next hA hC1; obtain ⟨a1, k1, rfl⟩ := own_form x1.row; clear x1; clear c0 c1 c2 c3 c4 c5 c6 c7 d0 d1 d2; obtain ⟨⟨c0, c1, c2, c3, c4, c5, c6, c7⟩, d0, d1, d2⟩ := HS.out _ hC1)
      | (go_at_call 9; refine (H2.out _ hB1).mono ?_; rintro e w2 ⟨v2, rfl, x2, hb2⟩; have hB2 := Below.next hB1 hb2; obtain ⟨a2, k2, rfl, _⟩ := x2)
      | (go_at_call 11; refine (HX.out _).mono ?_; rintro e w5 ⟨rfl, hb5⟩; have hB5 := Below.next hB2 hb5))
    go_ret
    exact ⟨rfl, hB5⟩

end Go.Proofs.YtpbfgcepmbpkdaaGreat
