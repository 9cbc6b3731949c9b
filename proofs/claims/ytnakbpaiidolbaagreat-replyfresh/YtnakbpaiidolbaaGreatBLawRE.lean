import Derived.Test.YtnakbpaiidolbaaGreatBRplC
import Derived.Test.YtnakbpaiidolbaaGreatBunYR
import Derived.Test.YtnakbpaiidolbaaGreatBunO
import Derived.Test.YtnakbpaiidolbaaGreatBTkA
namespace Go.Proofs.YtnakbpaiidolbaaGreat
open Go.RowKit Fld Slp Pln Shr
set_option linter.unusedVariables false
set_option linter.unusedSimpArgs false
set_option maxRecDepth 100000 in
set_option maxHeartbeats 4000000 in
theorem replyFresh_any (w : World) (p : Pn) (vq vd vp : Value) (q : Pr) (dl pl : List (List Int)) (hp : Ok8p p) (hq : Pm w vq q) (h1 : Rws w vd dl) (h2 : Rws w vp pl) (hl1 : dl.length ≤ 5864062014634) (hl2 : pl.length ≤ 5864062014634) : Calls Tryz.prog 6 #[plv p, vq, .agg #[vd, vp]] w fun e w' => e = .returned (.bool true) ∧ Below w.heap.size w w' := by
 obtain ⟨vo, vu, rfl, ho, hu⟩ := hq.form
 obtain ⟨ao, ca, rfl, _⟩ := ho.spell
 obtain ⟨au, cu, rfl, _⟩ := hu.spell
 have HC1 := hide (fun W (hb : Below w.heap.size w W) => CopyRows_all vd dl W (h1.below hb) hl1)
 have HC2 := hide (fun W (hb : Below w.heap.size w W) => CopyRows_all vp pl W (h2.below hb) hl2)
 have HA := hide (fun W v1 v2 (hb : Below w.heap.size w W) x1 x2 => gPolysR p q _ v1 v2 dl pl W hp (hq.below hb) x1 x2)
 have HP := hide (fun W v1 (hb : Below w.heap.size w W) x1 => gResults p q _ v1 dl W hp (hq.below hb) x1)
 have HD := hide (fun W (hb : Below w.heap.size w W) => dResults16 p q _ vd dl W hp (hq.below hb) (h1.below hb))
 unfold GivesL11 at HA HP HD
 have HX := hide anch16
 unfold Ans at HX
 obtain ⟨q1, q2⟩ := cm_wd p q h1.wordsH h2.wordsH
 obtain ⟨q3, q4⟩ := rs_wd p q h1.wordsL
 have R1 := hide h1
 have R2 := hide h2
 have W1' := h1.wordsH
 have W2' := h2.wordsH
 have RD : Hid (∀ W lo hi v us, Lss W lo hi v us dl → Rws W v dl) := fun W lo hi v us h => h.rws (getD_wd W1') (by omega)
 have RP : Hid (∀ W lo hi v us, Lss W lo hi v us pl → Rws W v pl) := fun W lo hi v us h => h.rws (getD_wd W2') (by omega)
 have RB : Hid (∀ W lo hi v us, Lss W lo hi v us (rsL p q dl) → Rws W v (rsL p q dl)) := fun W lo hi v us h => h.rws q4 (by omega)
 have HB1 : Hid (Bwd (cmL p q dl pl)) := q2
 have HB2 : Hid (Bwd (rsL p q dl)) := q4
 have HAl : Hid ((cmL p q dl pl).length ≤ 64) := q1
 have HPl : Hid ((rsL p q dl).length ≤ 64) := q3
 obtain ⟨ad, cd, rfl, _, _, _⟩ := h1
 obtain ⟨ap, cp, rfl, _, _, _⟩ := h2
 clear hp q1 q2 q3 q4 W1' W2' ho hu hq
 generalize cmL p q dl pl = al at *
 generalize rsL p q dl = po at *
 generalize cmE p q dl pl = ea at *
 generalize rsE p q dl = e0 at *
 obtain ⟨nd, Hnd⟩ : ∃ nd, Hid (dl.length = nd) := ⟨_, rfl⟩
 obtain ⟨np, Hnp⟩ : ∃ np, Hid (pl.length = np) := ⟨_, rfl⟩
 rw [Hnd.out] at HC1 HD R1 hl1 ⊢
 rw [Hnp.out] at HC2 R2 hl2 ⊢
 rw [plan_eq] at *
 obtain ⟨W1, hW, hA, hS⟩ := psec_box w p q.inp (.slice ao q.ops.length ca) (.slice au q.outs.length cu) (.slice ad nd cd) (.slice ap np cp) 24 28 49
 have HW := hide hW
 have HS := hide hS
 clear hW hS
 go_enter Tryz.func6, Tryz.ntmps6
 go_upto_region 1 with fail
 rw [HW.out]
 have hdr : Below W1.heap.size W1 W1.drew := (Below.refl _ W1).drew
 have hS0 := (HS.out _ hdr).2.2
 have hB0 := Below.next hA hdr
 refine wp_region_held_drew (S := (fun V => V.cell? ⟨w.heap.size + 1 + 1, 0, none⟩ = some (.slice ad nd cd) ∧ V.cell? ⟨w.heap.size + 1 + 1, 1, none⟩ = some (.slice ap np cp))) (by kernel_rfl) (by ((try dsimp only) <;> (first | with_reducible exact hS2 | with_reducible exact hS1 | with_reducible exact hS0))) (fun hHeld => ?_)
 (refine tkY 0 ?_; (try simp only [ly0, ly1, ly2, ly3, ly4, ly5, ly6, ly7]))
 (refine tkY 1 ?_; (try simp only [ly0, ly1, ly2, ly3, ly4, ly5, ly6, ly7]))
 (refine tkY 3 ?_; (try simp only [ly0, ly1, ly2, ly3, ly4, ly5, ly6, ly7]))
 (refine tkY 4 ?_; (try simp only [ly0, ly1, ly2, ly3, ly4, ly5, ly6, ly7]))
 refine rd1 2 (fun K hK => ?_)
 (try simp only [ly0, ly1, ly2, ly3, ly4, ly5, ly6, ly7])
 go_simp
 (first | (go_at_call 24; with_reducible refine (HC2.out _ hB2).mono ?_; rintro e w3 ⟨v3, us3, rfl, x3, hb3⟩; have hC3 := Below.next hC2 hb3; have hB3 := Below.next hA hC3; have hS2 := (HS.out _ hC3).2.2; have RQ := hide (RP.out _ _ _ _ _ x3); have RO := hide (RO2.out.below hb3); obtain ⟨a3, c3, rfl⟩ := own_form x3.row; clear x3) | (go_at_call 24; with_reducible refine (HC1.out _ hB0).mono ?_; rintro e w2 ⟨v2, us2, rfl, x2, hb2⟩; have hC2 := Below.next hdr hb2; have hB2 := Below.next hA hC2; have hS1 := (HS.out _ hC2).2.2; have RO2 := hide (RD.out _ _ _ _ _ x2); obtain ⟨a2, c2, rfl⟩ := own_form x2.row; clear x2))
 first | (refine hK.out _ _ (by ((try dsimp only) <;> (first | with_reducible exact hS2 | with_reducible exact hS1 | with_reducible exact hS0))) (fun hHeld => ?_)) | (go_wp2_with fail; refine hK.out _ _ (by ((try dsimp only) <;> (first | with_reducible exact hS2 | with_reducible exact hS1 | with_reducible exact hS0))) (fun hHeld => ?_))
 clear hK K
 (try simp only [ly0, ly1, ly2, ly3, ly4, ly5, ly6, ly7])
 refine rd1 5 (fun K hK => ?_)
 (try simp only [ly0, ly1, ly2, ly3, ly4, ly5, ly6, ly7])
 go_simp
 (first | (go_at_call 24; with_reducible refine (HC2.out _ hB2).mono ?_; rintro e w3 ⟨v3, us3, rfl, x3, hb3⟩; have hC3 := Below.next hC2 hb3; have hB3 := Below.next hA hC3; have hS2 := (HS.out _ hC3).2.2; have RQ := hide (RP.out _ _ _ _ _ x3); have RO := hide (RO2.out.below hb3); obtain ⟨a3, c3, rfl⟩ := own_form x3.row; clear x3) | (go_at_call 24; with_reducible refine (HC1.out _ hB0).mono ?_; rintro e w2 ⟨v2, us2, rfl, x2, hb2⟩; have hC2 := Below.next hdr hb2; have hB2 := Below.next hA hC2; have hS1 := (HS.out _ hC2).2.2; have RO2 := hide (RD.out _ _ _ _ _ x2); obtain ⟨a2, c2, rfl⟩ := own_form x2.row; clear x2))
 first | (refine hK.out _ _ (by ((try dsimp only) <;> (first | with_reducible exact hS2 | with_reducible exact hS1 | with_reducible exact hS0))) (fun hHeld => ?_)) | (go_wp2_with fail; refine hK.out _ _ (by ((try dsimp only) <;> (first | with_reducible exact hS2 | with_reducible exact hS1 | with_reducible exact hS0))) (fun hHeld => ?_))
 clear hK K
 (try simp only [ly0, ly1, ly2, ly3, ly4, ly5, ly6, ly7])
 (refine tkY 6 ?_; (try simp only [ly0, ly1, ly2, ly3, ly4, ly5, ly6, ly7]))
 (refine tkY 7 ?_; (try simp only [ly0, ly1, ly2, ly3, ly4, ly5, ly6, ly7]))
 refine wpAnyH_done (by kernel_rfl) ?_ _
 clear hS0 hS1 hS2 HC1 HC2 RO2 RD RP
 rw [Hnd.out] at RO ⊢
 rw [Hnp.out] at RQ ⊢
 have HSw := hide (fun V (hb : Below w3.heap.size w3 V) => HS.out V (Below.next hC3 hb))
 obtain ⟨⟨c0, c1, c2', c3', c4, c5, c6, c7⟩, ⟨d0, d1, d2⟩, f0, f1⟩ := HSw.out _ (Below.refl _ _)
 go_upto_region 4 with (first
  | (go_at_call 16; refine (HA.out _ _ _ hB3 RO.out RQ.out).mono ?_; rintro e w4 ⟨v4, us4, rfl, x4', hb4⟩; have x4 := x4'.mtx; clear x4'; have HM4 := hide x4; obtain ⟨a4, c4'', rfl⟩ := own_form x4.row; have Ht4 : Hid (∀ i g, i < al.length → (us4.getD i nov).ownBlock = some g → g < w4.heap.size) := fun i g hi hg => own_top (HM4.out.each i hi) g hg; clear x4; clear c0 c1 c2' c3' c4 c5 c6 c7 d0 d1 d2 f0 f1; obtain ⟨⟨c0, c1, c2', c3', c4, c5, c6, c7⟩, ⟨d0, d1, d2⟩, f0, f1⟩ := HSw.out _ hb4)
  | (go_at_call 9; refine (HP.out _ _ (Below.next hB3 hb4) (RO.out.below hb4)).mono ?_; rintro e w5 ⟨v5, us5, rfl, x5', hb5⟩; have x5 := x5'.mtx; clear x5'; have HM5 := hide x5; have HN4 := hide (HM4.out.below hb5); obtain ⟨a5, c5'', rfl⟩ := own_form x5.row; have hB5 := Below.next hb4 hb5; clear x5))
 have hs4 := hb4.size
 have hs5 := hb5.size
 clear HM4 HA c0 c1 c2' c3' c4 c5 c6 c7 d0 d1 d2 f0 f1 HW HS
 obtain ⟨na, HNa⟩ : ∃ na, Hid (al.length = na) := ⟨_, rfl⟩
 obtain ⟨nq0, HNq⟩ : ∃ nq0, Hid (po.length = nq0) := ⟨_, rfl⟩
 rw [HNa.out] at HN4 HAl Ht4 ⊢
 rw [HNq.out] at HM5 HPl ⊢
 have ha64 := HAl.out
 have hq1000 := HPl.out
 go_wp2_with fail
 go_loopw [13] (fun vi wr => ∃ (i : Nat) (zss : List (List Int)), i ≤ na ∧ vi = .int .i64 i ∧ Hid (Bwd zss ∧ zss.length = na) ∧ Hid (Mtx wr w3.heap.size (.slice a4 na c4'') us4 zss) ∧ Hid (Mtx wr w4.heap.size (.slice a5 nq0 c5'') us5 po) ∧ Below w3.heap.size w3 wr) (fun vi _ => na - (intOf vi).toNat)
 case atStart => exact ⟨0, al, Nat.zero_le _, rfl, ⟨HB1.out, HNa.out⟩, HN4, HM5, hB5⟩
 case round =>
  clear HN4 HM5 hB5
  obtain ⟨i, zss, hi, rfl, HZ, HM, HQ, hB⟩ := hrel
  by_cases hlt : i < na
  · obtain ⟨G, cg, hv, _, hGt, hcg⟩ := HM.out.spell (by rw [HZ.out.2]; omega)
    rw [HZ.out.2] at hv hcg
    injection hv with hv _ hcv
    subst hv hcv
    have hcell := HM.out.cell (i := i) (by rw [HZ.out.2]; exact hlt)
    have hE := HM.out.each i (by rw [HZ.out.2]; exact hlt)
    have hws := HZ.out.1 i
    have hsz3 := hB.size
    have hsp := hide (Spoil_own _ _ w3.heap.size _ (2 : Int) wr (by omega) (by omega) hE hws.2 hws.1 hsz3)
    have hR : Hid (∀ w' zs, wr.grownBy w' (us4.getD i nov).ownBlock → Ws zs → w'.ownsRow w3.heap.size 58 1 (us4.getD i nov) (zss.getD i []).length (vals zs) → (Bwd (zss.set i zs) ∧ (zss.set i zs).length = na) ∧ Mtx w' w3.heap.size (.slice (some ⟨G, 0, none⟩) na c4'') us4 (zss.set i zs) ∧ Mtx w' w4.heap.size (.slice a5 nq0 c5'') us5 po ∧ Below w3.heap.size w3 w') := fun w' zs hg hz hO => by
     have hzl := own_len hO
     refine ⟨⟨HZ.out.1.set ⟨by rw [hzl]; exact hws.1, hz⟩, by rw [List.length_set]; exact HZ.out.2⟩, HM.out.spoilt (by rw [HZ.out.2]; exact hlt) hg hO, HQ.out.far hg (fun g hg' => Ht4.out i g hlt hg') (Nat.le_refl _), hB.grown hg hsz3 (fun g hg' => own_base hE g hg')⟩
    obtain ⟨a6, c6', hu6⟩ := own_form hE
    have Hu6 := hide hu6
    rw [hu6] at hcell hsp hR
    have ii0 : (0 : Int) ≤ (i : Int) := by omega
    have ii1 : (i : Int) < (na : Int) := by omega
    clear hE hws HZ HM HQ hu6
    generalize (zss.getD i []).length = m6 at *
    go_wp2_with (go_at_call 25; refine hsp.out.mono ?_; rintro e wA ⟨rfl, hgA, zs, hz, hO⟩; obtain ⟨t1, t2, t3, t4⟩ := hR.out _ _ hgA hz hO)
    have T1 := hide t1
    have T2 := hide t2
    have T3 := hide t3
    clear t1 t2 t3 hO hgA hz hR
    go_roundw
    case rel => exact ⟨i + 1, _, by omega, by go_num, T1, T2, T3, t4⟩
    case measure => simp [intOf]; omega
  · obtain rfl : i = na := by omega
    clear HZ HM
    go_wp2_with fail
    go_loopw [14] (fun vi wr => ∃ (i : Nat) (zss : List (List Int)), i ≤ nq0 ∧ vi = .int .i64 i ∧ Hid (Bwd zss ∧ zss.length = nq0) ∧ Hid (Mtx wr w4.heap.size (.slice a5 nq0 c5'') us5 zss) ∧ Below w3.heap.size w3 wr) (fun vi _ => nq0 - (intOf vi).toNat)
    case atStart => exact ⟨0, po, Nat.zero_le _, rfl, ⟨HB2.out, HNq.out⟩, HQ, hB⟩
    case round =>
     clear HQ hB
     obtain ⟨i, zss, hi, rfl, HZ, HM, hB⟩ := hrel
     by_cases hlt : i < nq0
     · obtain ⟨G, cg, hv, hGl, hGt, hcg⟩ := HM.out.spell (by rw [HZ.out.2]; omega)
       rw [HZ.out.2] at hv hcg
       injection hv with hv _ hcv
       subst hv hcv
       have hcell := HM.out.cell (i := i) (by rw [HZ.out.2]; exact hlt)
       have hE := HM.out.each i (by rw [HZ.out.2]; exact hlt)
       have hws := HZ.out.1 i
       have hsz3 := hB.size
       have hsp := hide (Spoil_own _ _ w4.heap.size _ (3 : Int) wr (by omega) (by omega) hE hws.2 hws.1 (by omega))
       have hR : Hid (∀ w' zs, wr.grownBy w' (us5.getD i nov).ownBlock → Ws zs → w'.ownsRow w4.heap.size 58 1 (us5.getD i nov) (zss.getD i []).length (vals zs) → (Bwd (zss.set i zs) ∧ (zss.set i zs).length = nq0) ∧ Mtx w' w4.heap.size (.slice (some ⟨G, 0, none⟩) nq0 c5'') us5 (zss.set i zs) ∧ Below w3.heap.size w3 w') := fun w' zs hg hz hO => by
        have hzl := own_len hO
        refine ⟨⟨HZ.out.1.set ⟨by rw [hzl]; exact hws.1, hz⟩, by rw [List.length_set]; exact HZ.out.2⟩, HM.out.spoilt (by rw [HZ.out.2]; exact hlt) hg hO, hB.grown hg hsz3 (fun g hg' => Nat.le_trans hs4 (own_base hE g hg'))⟩
       obtain ⟨a6, c6', hu6⟩ := own_form hE
       have Hu6 := hide hu6
       rw [hu6] at hcell hsp hR
       have ii0 : (0 : Int) ≤ (i : Int) := by omega
       have ii1 : (i : Int) < (nq0 : Int) := by omega
       clear hE hws HZ HM hu6
       generalize (zss.getD i []).length = m6 at *
       go_wp2_with (go_at_call 25; refine hsp.out.mono ?_; rintro e wA ⟨rfl, hgA, zs, hz, hO⟩; obtain ⟨t1, t2, t4⟩ := hR.out _ _ hgA hz hO)
       have T1 := hide t1
       have T2 := hide t2
       clear t1 t2 hO hgA hz hR
       go_roundw
       case rel => exact ⟨i + 1, _, by omega, by go_num, T1, T2, t4⟩
       case measure => simp [intOf]; omega
     · obtain rfl : i = nq0 := by omega
       clear HZ HM
       obtain ⟨⟨c0, c1, c2', c3', c4, c5, c6, c7⟩, ⟨d0, d1, d2⟩, f0, f1⟩ := HSw.out _ hB
       go_wp2_with (first
        | (go_at_call 9; refine (HP.out _ _ (Below.next hB3 hB) (RO.out.below hB)).mono ?_; rintro e w6 ⟨v6, us6, rfl, x6, hb6⟩; have hC6 := Below.next hB hb6; have R6 := hide (RB.out _ _ _ _ _ x6); obtain ⟨a6, k6, rfl⟩ := own_form x6.row; clear x6; clear c0 c1 c2' c3' c4 c5 c6 c7 d0 d1 d2 f0 f1; obtain ⟨⟨c0, c1, c2', c3', c4, c5, c6, c7⟩, ⟨d0, d1, d2⟩, f0, f1⟩ := HSw.out _ hC6)
        | (go_at_call 10; refine (HD.out _ (Below.next hB3 hC6)).mono ?_; rintro e w7 ⟨v7, us7, rfl, x7, hb7⟩; have hC7 := Below.next hC6 hb7; have R7 := hide (RB.out _ _ _ _ _ x7); obtain ⟨a7, k7, rfl⟩ := own_form x7.row; clear x7; clear c0 c1 c2' c3' c4 c5 c6 c7 d0 d1 d2 f0 f1; obtain ⟨⟨c0, c1, c2', c3', c4, c5, c6, c7⟩, ⟨d0, d1, d2⟩, f0, f1⟩ := HSw.out _ hC7)
        | (go_at_call 15; refine (HX.out _).mono ?_; rintro e w8 ⟨rfl, hb8⟩; have hC8 := Below.next hC7 hb8; clear c0 c1 c2' c3' c4 c5 c6 c7 d0 d1 d2 f0 f1; obtain ⟨⟨c0, c1, c2', c3', c4, c5, c6, c7⟩, ⟨d0, d1, d2⟩, f0, f1⟩ := HSw.out _ hC8)
        | (go_at_call 14; with_reducible refine (Rows_h _ _ _ _ ((((R6.out.below hb7).below hb8).below hb9).below hb10) (((R7.out.below hb8).below hb9).below hb10)).mono ?_; rintro e w11 ⟨rfl, hb11⟩; have hC11 := Below.next hC10 hb11; clear c0 c1 c2' c3' c4 c5 c6 c7 d0 d1 d2 f0 f1)
        | (go_at_call 14; with_reducible refine (Rows_h _ _ _ _ (RQ.out.below hC9) (R2.out.below (Below.next hB3 hC9))).mono ?_; rintro e w10 ⟨rfl, hb10⟩; have hC10 := Below.next hC9 hb10; clear c0 c1 c2' c3' c4 c5 c6 c7 d0 d1 d2 f0 f1; obtain ⟨⟨c0, c1, c2', c3', c4, c5, c6, c7⟩, ⟨d0, d1, d2⟩, f0, f1⟩ := HSw.out _ hC10)
        | (go_at_call 14; with_reducible refine (Rows_h _ _ _ _ (RO.out.below hC8) (R1.out.below (Below.next hB3 hC8))).mono ?_; rintro e w9 ⟨rfl, hb9⟩; have hC9 := Below.next hC8 hb9; clear c0 c1 c2' c3' c4 c5 c6 c7 d0 d1 d2 f0 f1; obtain ⟨⟨c0, c1, c2', c3', c4, c5, c6, c7⟩, ⟨d0, d1, d2⟩, f0, f1⟩ := HSw.out _ hC9))
       go_ret
       exact ⟨rfl, Below.next hB3 hC11⟩
end Go.Proofs.YtnakbpaiidolbaaGreat
