import Derived.Test.YtjhididlcdepdaaGreatBRgdG
import Derived.Test.YtjhididlcdepdaaGreatBRgdF
set_option linter.unusedVariables false
set_option linter.unusedSimpArgs false
set_option maxRecDepth 100000
set_option maxHeartbeats 4000000
namespace Go.Proofs.YtjhididlcdepdaaGreat
open Go.RowKit Fld Pln
theorem Mtx.low8 {w w' : World} {lo mid : Nat} {v : Value} {us : List Value} {l : List (List Int)} {r : Option Nat} (h : Mtx w lo v us l) (hg : w.grownBy w' r) (hv : ∀ g, v.ownBlock = some g -> g < mid) (hu : ∀ i g, i < l.length -> (us.getD i nov).ownBlock = some g -> g < mid) (hr : ∀ g, r = some g -> mid <= g) : Mtx w' lo v us l :=
 ⟨own_kept h.row hg (fun g hgb hc => by have := hv g hgb; have := hr g hc; omega), fun i hi => own_kept (h.each i hi) hg (fun g hgb hc => by have := hu i g hi hgb; have := hr g hc; omega), h.dif⟩
theorem rps_both {us ws : List Rq} (h : rps ws = rps us) (k : Nat) : (ws.getD k zRq).1 = (us.getD k zRq).1 ∧ (ws.getD k zRq).2.2 = (us.getD k zRq).2.2 := by
 have := rps_at ws k
 rw [h, rps_at] at this
 unfold rpO at this
 injection this with h1 h2
 exact ⟨h1.symm, h2.symm⟩
theorem ne_kindsS : (29 : Nat) ≠ 64 := by decide
theorem regFresh_any (p : Pn) (n : Int) (v : Value) (us : List Rq) (w : World) (hp : Ok8p p) (h : Rpl w v us) :
 Calls Tryz.prog 7 #[plv p, .int .i64 n, v] w fun e w' => e = .returned (.bool true) ∧ Below w.heap.size w w' := by
 have HC := hide (fun W (hb : Below w.heap.size w W) => dCopies v us W (h.below hb))
 have HG : Hid (∀ W v' ws, Rpl W v' ws -> rps ws = rps us -> GivesRc 8 #[plv p, .int .i64 n, v'] W (rcR p n (rps us)) (rcP p n (rps us)) (rcW p n (rps us)) (rcE p n (rps us))) := fun W v' ws hR e => by
  have := gRecover p n v' ws W hp hR
  rw [e] at this
  exact this
 have HG2 := hide (fun W (hb : Below w.heap.size w W) => dRecover p n v us W hp (h.below hb))
 unfold GivesRc at HG
 unfold GivesRd at HG2
 have HW := hide (rc_wd p n h.wd)
 generalize rcR p n (rps us) = cR at *
 generalize rcP p n (rps us) = cP at *
 generalize rcW p n (rps us) = cW at *
 generalize rcE p n (rps us) = ce at *
 have HL := hide h
 have hlen := h.big
 have HFm := hide (fun k (hk : k < us.length) => h.one hk)
 have HX := hide anch18
 obtain ⟨ao, cap, rfl, hcap⟩ := h.spell
 obtain ⟨pb, hA⟩ := pb_box (w := w) p
 have HPb := hide pb
 clear pb h hp
 rw [plan_eq8] at *
 go_enter Tryz.func7, Tryz.ntmps7
 go_upto_region 2 with (go_at_call 24; refine (HC.out _ hA).mono ?_; rintro e w1 ⟨v1, ws, rfl, hRo, hEq, hb1⟩)
 have hwl : ws.length = us.length := by rw [<- rps_len ws, hEq, rps_len]
 have HRp := hide (hRo.rpl (by rw [hwl]; exact hlen))
 have HBo := hide (rps_both hEq)
 have HCs := hide (fun W (hb : Below w1.heap.size w1 W) => HG.out W v1 ws (HRp.out.below hb) hEq)
 have HFm2 := hide (fun k (hk : k < us.length) => HRp.out.one (i := k) (by rw [hwl]; exact hk))
 have hB1 := Below.next hA hb1
 have HP1 := hide (HPb.out.below hb1)
 obtain ⟨la, lc, rfl, _⟩ := HRp.out.spell
 rw [hwl] at HRp HCs ⊢
 clear hRo hEq HC HPb HG hA
 obtain ⟨c0, c1, c2, c3, c4, c5, c6, c7⟩ := HP1.out.cells
 go_upto_region 3 with (go_at_call 8; refine (HCs.out _ (Below.refl _ _)).mono ?_; rintro e w2 ⟨vr, vq, va, rfl, hRc, hb2⟩; obtain ⟨x1, y1, x2, y2, x3, y3, rfl, rfl, rfl⟩ := hRc.form)
 have ha2 := alloc_below w2 (.cells #[.slice x1 cR.length y1, .slice x2 cP.length y2, .slice x3 cW.length y3] 29)
 have n2 := heap_alloc_new w2 (.cells #[.slice x1 cR.length y1, .slice x2 cP.length y2, .slice x3 cW.length y3] 29)
 generalize w2.alloc (.cells #[.slice x1 cR.length y1, .slice x2 cP.length y2, .slice x3 cW.length y3] 29) = W3 at *
 obtain ⟨mid, us1, us2, hmid, hm1, hm2, hv2, hu2⟩ := (hRc.below ha2).all
 have hB3 := Below.next hb2 ha2
 have HM1 := hide hm1
 have HM2 := hide hm2
 have HV2 := hide hv2
 have HU2 := hide hu2
 have HN := hide n2
 generalize w2.heap.size = g2 at *
 have hmt : mid <= W3.heap.size ∨ cR.length = 0 := by
  by_cases h0 : cR.length = 0
  · exact .inr h0
  · obtain ⟨G, cg, _, hGl, hGt, _⟩ := hm1.spell (by omega)
    exact .inl (by omega)
 clear hRc n2 c0 c1 c2 c3 c4 c5 c6 c7 ha2 hb2 hm1 hm2 hv2 hu2
 obtain ⟨na, HNa⟩ : ∃ na, Hid (cR.length = na) := ⟨_, rfl⟩
 obtain ⟨nq, HNq⟩ : ∃ nq, Hid (cP.length = nq) := ⟨_, rfl⟩
 have HB1 : Hid (Bwd cR) := HW.out.r
 have HB2 : Hid (Bwd cP) := HW.out.p
 have hna : na <= 1000 := by rw [<- HNa.out]; exact HW.out.lr
 have hnq : nq <= 1000 := by rw [<- HNq.out]; exact HW.out.lp
 rw [HNa.out] at HM1 HN hmt ⊢
 rw [HNq.out] at HM2 HN HV2 HU2 ⊢
 go_wp2_with fail
 go_loopw [10] (fun vi wr => ∃ (i : Nat) (zss : List (List Int)), i <= na ∧ vi = .int .i64 i ∧ Hid (Bwd zss ∧ zss.length = na) ∧ Hid (Mtx wr mid (.slice x1 na y1) us1 zss) ∧ Hid (Mtx wr w1.heap.size (.slice x2 nq y2) us2 cP) ∧ Hid (wr.heap[g2]? = some (.cells #[.slice x1 na y1, .slice x2 nq y2, .slice x3 cW.length y3] 29 (0, 0))) ∧ W3.heap.size <= wr.heap.size ∧ Below w1.heap.size w1 wr) (fun vi _ => na - (intOf vi).toNat)
 case atStart => exact ⟨0, cR, Nat.zero_le _, rfl, ⟨HB1.out, HNa.out⟩, HM1, HM2, HN, Nat.le_refl _, hB3⟩
 case round =>
  clear HM1 HM2 hB3 HN
  obtain ⟨i, zss, hi, rfl, HZ, HM, HQ, HN, hsz, hB⟩ := hrel
  obtain ⟨z0, z1, z2⟩ := cell3 HN.out
  by_cases hlt : i < na
  · obtain ⟨G, cg, hv, _, hGt, hcg⟩ := HM.out.spell (by rw [HZ.out.2]; omega)
    rw [HZ.out.2] at hv hcg
    injection hv with hv _ hcv
    subst hv hcv
    have hcell := HM.out.cell (i := i) (by rw [HZ.out.2]; exact hlt)
    have hE := HM.out.each i (by rw [HZ.out.2]; exact hlt)
    have hws := HZ.out.1 i
    have hsz3 := hB.size
    have hsp := hide (Spoil_own _ _ mid _ (4 : Int) wr (by omega) (by omega) hE hws.2 hws.1 (by omega))
    have hR : Hid (∀ w' zs, wr.grownBy w' (us1.getD i nov).ownBlock -> Ws zs -> w'.ownsRow mid 64 1 (us1.getD i nov) (zss.getD i []).length (vals zs) -> (Bwd (zss.set i zs) ∧ (zss.set i zs).length = na) ∧ Mtx w' mid (.slice (some ⟨G, 0, none⟩) na y1) us1 (zss.set i zs) ∧ Mtx w' w1.heap.size (.slice x2 nq y2) us2 cP ∧ w'.heap[g2]? = some (.cells #[.slice (some ⟨G, 0, none⟩) na y1, .slice x2 nq y2, .slice x3 cW.length y3] 29 (0, 0)) ∧ W3.heap.size <= w'.heap.size ∧ Below w1.heap.size w1 w') := fun w' zs hg hz hO => by
     have hzl := own_len hO
     refine ⟨⟨HZ.out.1.set ⟨by rw [hzl]; exact hws.1, hz⟩, by rw [List.length_set]; exact HZ.out.2⟩, HM.out.spoilt (by rw [HZ.out.2]; exact hlt) hg hO, HQ.out.low8 hg HV2.out (fun j g hj => HU2.out j g (by rw [<- HNq.out]; exact hj)) (fun g hg' => own_base hE g hg'), blk_grown HN.out hE ne_kindsS hg, Nat.le_trans hsz hg.size, hB.grown hg hsz3 (fun g hg' => Nat.le_trans hmid (own_base hE g hg'))⟩
    obtain ⟨a6, c6', hu6⟩ := own_form hE
    have Hu6 := hide hu6
    rw [hu6] at hcell hsp hR
    have ii0 : (0 : Int) <= (i : Int) := by omega
    have ii1 : (i : Int) < (na : Int) := by omega
    clear hE hws HZ HM HQ hu6 hmt
    generalize (zss.getD i []).length = m6 at *
    go_wp2_with (go_at_call 25; refine hsp.out.mono ?_; rintro e wA ⟨rfl, hgA, zs, hz, hO⟩; obtain ⟨t1, t2, t3, t4, t5, t6⟩ := hR.out _ _ hgA hz hO)
    have T1 := hide t1
    have T2 := hide t2
    have T3 := hide t3
    have T4 := hide t4
    clear t1 t2 t3 t4 hO hgA hz hR
    go_roundw
    case rel => exact ⟨i + 1, _, by omega, by go_num, T1, T2, T3, T4, t5, t6⟩
    case measure => simp [intOf]; omega
  · obtain rfl : i = na := by omega
    clear HZ HM hmt
    go_wp2_with fail
    go_loopw [11] (fun vi wr => ∃ (j : Nat) (zss : List (List Int)), j <= nq ∧ vi = .int .i64 j ∧ Hid (Bwd zss ∧ zss.length = nq) ∧ Hid (Mtx wr w1.heap.size (.slice x2 nq y2) us2 zss) ∧ Hid (wr.heap[g2]? = some (.cells #[.slice x1 i y1, .slice x2 nq y2, .slice x3 cW.length y3] 29 (0, 0))) ∧ Below w1.heap.size w1 wr) (fun vi _ => nq - (intOf vi).toNat)
    case atStart => exact ⟨0, cP, Nat.zero_le _, rfl, ⟨HB2.out, HNq.out⟩, HQ, HN, hB⟩
    case round =>
     clear HQ HN hB z0 z1 z2
     obtain ⟨j, zss, hj, rfl, HZ, HM, HN, hB⟩ := hrel
     obtain ⟨z0, z1, z2⟩ := cell3 HN.out
     by_cases hlt : j < nq
     · obtain ⟨G, cg, hv, _, hGt, hcg⟩ := HM.out.spell (by rw [HZ.out.2]; omega)
       rw [HZ.out.2] at hv hcg
       injection hv with hv _ hcv
       subst hv hcv
       have hcell := HM.out.cell (i := j) (by rw [HZ.out.2]; exact hlt)
       have hE := HM.out.each j (by rw [HZ.out.2]; exact hlt)
       have hws := HZ.out.1 j
       have hsz3 := hB.size
       have hsp := hide (Spoil_own _ _ w1.heap.size _ (5 : Int) wr (by omega) (by omega) hE hws.2 hws.1 hsz3)
       have hR : Hid (∀ w' zs, wr.grownBy w' (us2.getD j nov).ownBlock -> Ws zs -> w'.ownsRow w1.heap.size 64 1 (us2.getD j nov) (zss.getD j []).length (vals zs) -> (Bwd (zss.set j zs) ∧ (zss.set j zs).length = nq) ∧ Mtx w' w1.heap.size (.slice (some ⟨G, 0, none⟩) nq y2) us2 (zss.set j zs) ∧ w'.heap[g2]? = some (.cells #[.slice x1 i y1, .slice (some ⟨G, 0, none⟩) nq y2, .slice x3 cW.length y3] 29 (0, 0)) ∧ Below w1.heap.size w1 w') := fun w' zs hg hz hO => by
        have hzl := own_len hO
        refine ⟨⟨HZ.out.1.set ⟨by rw [hzl]; exact hws.1, hz⟩, by rw [List.length_set]; exact HZ.out.2⟩, HM.out.spoilt (by rw [HZ.out.2]; exact hlt) hg hO, blk_grown HN.out hE ne_kindsS hg, hB.grown hg hsz3 (fun g hg' => own_base hE g hg')⟩
       obtain ⟨a6, c6', hu6⟩ := own_form hE
       have Hu6 := hide hu6
       rw [hu6] at hcell hsp hR
       have ii0 : (0 : Int) <= (j : Int) := by omega
       have ii1 : (j : Int) < (nq : Int) := by omega
       clear hE hws HZ HM hu6
       generalize (zss.getD j []).length = m6 at *
       go_wp2_with (go_at_call 25; refine hsp.out.mono ?_; rintro e wA ⟨rfl, hgA, zs, hz, hO⟩; obtain ⟨t1, t2, t4, t6⟩ := hR.out _ _ hgA hz hO)
       have T1 := hide t1
       have T2 := hide t2
       have T4 := hide t4
       clear t1 t2 t4 hO hgA hz hR
       go_roundw
       case rel => exact ⟨j + 1, _, by omega, by go_num, T1, T2, T4, t6⟩
       case measure => simp [intOf]; omega
     · obtain rfl : j = nq := by omega
       clear HZ HM
       go_wp2_with fail
       go_loopw [12] (fun vi wr => ∃ k : Nat, k <= us.length ∧ vi = .int .i64 k ∧ Below w1.heap.size w1 wr) (fun vi _ => us.length - (intOf vi).toNat)
       case atStart => exact ⟨0, Nat.zero_le _, rfl, hB⟩
       case round =>
        clear hB HN z0 z1 z2
        obtain ⟨k, hk, rfl, hB⟩ := hrel
        by_cases hlt : k < us.length
        · obtain ⟨b, off, cp', heq, _, _⟩ := HL.out.lm.form (by omega)
          cases heq
          obtain ⟨b2, off2, cp2, heq, _, _⟩ := HRp.out.lm.form (by omega)
          rw [hwl] at heq
          cases heq
          have hBw := Below.next hB1 hB
          have hR1 := HL.out.row _ (getD_inQ hlt)
          have hR2 := HRp.out.row _ (getD_inQ (us := ws) (i := k) (by omega))
          have HCl := hide (fun V (hb : Below wr.heap.size wr V) => And.intro (HL.out.cell (Below.next hBw hb) hlt) (HRp.out.cell (Below.next hB hb) (k := k) (by omega)))
          rw [(HBo.out k).2] at hR2
          rw [(HBo.out k).1] at HCl
          have HSm := hide (fun V (hb : Below wr.heap.size wr V) => Same_yes _ _ _ V (hR1.below (Below.next hBw hb)).1 (hR2.below (Below.next hB hb)).1)
          obtain ⟨a9, c9, h9⟩ := HFm.out k hlt
          obtain ⟨a8, c8, h8⟩ := HFm2.out k hlt
          rw [(HBo.out k).2] at h8
          rw [h9, h8] at HCl HSm
          clear hR1 hR2 h9 h8
          generalize (us.getD k zRq).1 = i9 at *
          generalize (us.getD k zRq).2.2.length = m9 at *
          have hdr : Below wr.heap.size wr wr.drew := (Below.refl _ wr).drew
          have HSs : Hid (∀ V, Below wr.heap.size wr V -> V.cell? ⟨b, off + k * 2, none⟩ = some (.int .i64 i9) ∧ V.cell? ⟨b, off + k * 2 + 1, none⟩ = some (.slice a9 m9 c9) ∧ V.cell? ⟨b2, off2 + k * 2, none⟩ = some (.int .i64 i9) ∧ V.cell? ⟨b2, off2 + k * 2 + 1, none⟩ = some (.slice a8 m9 c8)) := fun V hb => ⟨(HCl.out V hb).1.1, (HCl.out V hb).1.2.1, (HCl.out V hb).2.1, (HCl.out V hb).2.2.1⟩
          have hS0 := HSs.out _ hdr
          have k0 : (0 : Int) <= (k : Int) := by omega
          have k1 : (k : Int) < (us.length : Int) := by omega
          clear HCl HFm HFm2 HBo HL HCs HX HW HG2
          go_upto_region 14 with fail
          refine wp_region_held_drew (S := (fun V => V.cell? ⟨b, off + k * 2, none⟩ = some (.int .i64 i9) ∧ V.cell? ⟨b, off + k * 2 + 1, none⟩ = some (.slice a9 m9 c9) ∧ V.cell? ⟨b2, off2 + k * 2, none⟩ = some (.int .i64 i9) ∧ V.cell? ⟨b2, off2 + k * 2 + 1, none⟩ = some (.slice a8 m9 c8))) (by kernel_rfl) (by ((try dsimp only) <;> (first | with_reducible exact hS1 | with_reducible exact hS0))) (fun hHeld => ?_)
          refine tkY 0 ?_
          refine tkY 1 ?_
          refine tkY 2 ?_
          refine tkY 3 ?_
          refine tkY 4 ?_
          refine tkY 5 ?_
          refine tkY 6 ?_
          refine tkY 7 ?_
          refine tkY 8 ?_
          refine tkY 9 ?_
          refine rd1 10 (fun K hK => ?_)
          (try simp only [ly0, ly1, ly2, ly3, ly4, ly5, ly6, ly7])
          go_simp
          (go_at_call 21; refine (HSm.out _ hdr).mono ?_; rintro e w5 ⟨rfl, hb5⟩; have hC5 := Below.next hdr hb5; have hS1 := HSs.out _ hC5)
          first | refine hK.out _ _ ?k17 (fun hHeld => ?_) | (go_wp2_with fail; refine hK.out _ _ ?k17 (fun hHeld => ?_))
          case k17 => ((try dsimp only) <;> (first | with_reducible exact hS1 | with_reducible exact hS0))
          clear hK K
          (try simp only [ly0, ly1, ly2, ly3, ly4, ly5, ly6, ly7])
          refine tkY 11 ?_
          refine tkY 12 ?_
          refine tkY 13 ?_
          refine tkY 14 ?_
          refine tkY 15 ?_
          refine tkY 16 ?_
          refine tkY 17 ?_
          refine tkY 18 ?_
          refine tkY 19 ?_
          refine tkY 20 ?_
          refine tkY 21 ?_
          refine tkY 22 ?_
          refine tkY 23 ?_
          refine tkY 24 ?_
          refine wpAnyH_done (by kernel_rfl) ?_ _
          have hD := Below.next hB hC5
          clear hS0 hS1 HSs HSm
          go_wp2_with fail
          go_roundw
          case rel => exact ⟨k + 1, by omega, by go_num, hD⟩
          case measure => simp [intOf]; omega
        · obtain rfl : k = us.length := by omega
          clear HFm HFm2 HBo HL
          obtain ⟨c0, c1, c2, c3, c4, c5, c6, c7⟩ := (HP1.out.below hB).cells
          go_upto_region 17 with (go_at_call 8; refine (HCs.out _ hB).mono ?_; rintro e w5 ⟨vr, vq, va, rfl, hRc, hb5⟩; obtain ⟨u1, t1, u2, t2, u3, t3, rfl, rfl, rfl⟩ := hRc.form)
          have ha5 := alloc_below w5 (.cells #[.slice u1 cR.length t1, .slice u2 cP.length t2, .slice u3 cW.length t3] 29)
          have n5 := heap_alloc_new w5 (.cells #[.slice u1 cR.length t1, .slice u2 cP.length t2, .slice u3 cW.length t3] 29)
          generalize w5.alloc (.cells #[.slice u1 cR.length t1, .slice u2 cP.length t2, .slice u3 cW.length t3] 29) = W6 at *
          have HR5 := hide (hRc.below ha5)
          have hC6 := Below.next (Below.next hB hb5) ha5
          have HN5 := hide n5
          generalize w5.heap.size = g5 at *
          clear hRc n5 ha5 c0 c1 c2 c3 c4 c5 c6 c7 HCs hb5
          obtain ⟨c0, c1, c2, c3, c4, c5, c6, c7⟩ := (HP1.out.below hC6).cells
          go_upto_region 18 with (go_at_call 9; refine (HG2.out _ (Below.next hB1 hC6)).mono ?_; rintro e w7 ⟨vr, vq, va, rfl, ⟨q1, q2, q3⟩, hb7⟩; have Q1 := hide q1; have Q2 := hide q2; have Q3 := hide q3; obtain ⟨s1, r1, rfl, _, _, _⟩ := q1; obtain ⟨s2, r2, rfl, _, _, _⟩ := q2; obtain ⟨s3, r3, rfl, _⟩ := q3.spell; clear q3)
          have ha7 := alloc_below w7 (.cells #[.slice s1 cR.length r1, .slice s2 cP.length r2, .slice s3 cW.length r3] 29)
          have n7 := heap_alloc_new w7 (.cells #[.slice s1 cR.length r1, .slice s2 cP.length r2, .slice s3 cW.length r3] 29)
          generalize w7.alloc (.cells #[.slice s1 cR.length r1, .slice s2 cP.length r2, .slice s3 cW.length r3] 29) = W8 at *
          have P1 := hide (Q1.out.below ha7)
          have P2 := hide (Q2.out.below ha7)
          have P3 := hide (Q3.out.below ha7)
          have hb68 := Below.next hb7 ha7
          have hC8 := Below.next hC6 hb68
          have HN7 := hide n7
          have HN6 := hide (blk8 HN5.out hb68)
          generalize w7.heap.size = g7 at *
          have HSm : Hid (∀ V, Below W8.heap.size W8 V -> Calls Tryz.prog 12 #[.agg #[.slice u1 cR.length t1, .slice u2 cP.length t2, .slice u3 cW.length t3], .agg #[.slice s1 cR.length r1, .slice s2 cP.length r2, .slice s3 cW.length r3]] V fun e w' => e = .returned (.bool true) ∧ Below V.heap.size V w') := fun V hb => by
           obtain ⟨q1, q2, q3⟩ := (HR5.out.below (Below.next hb68 hb)).reads8 HW.out
           exact dSame18 _ _ _ _ _ _ _ _ _ V q1 (P1.out.below hb) q2 (P2.out.below hb) q3 (P3.out.below hb)
          clear n7 ha7 hb7 Q1 Q2 Q3 HR5 HW c0 c1 c2 c3 c4 c5 c6 c7 HN5
          go_wp2_with (first
           | (go_at_call 13; refine (HX.out _).mono ?_; rintro e w9 ⟨rfl, hb9⟩; obtain ⟨z0, z1, z2⟩ := cell3 (blk8 HN6.out hb9); obtain ⟨o0, o1, o2⟩ := cell3 (blk8 HN7.out hb9))
           | (go_at_call 12; refine (HSm.out _ hb9).mono ?_; rintro e w10 ⟨rfl, hb10⟩))
          go_ret
          exact ⟨by simp, Below.next (Below.next (Below.next hB1 hC8) hb9) hb10⟩
end Go.Proofs.YtjhididlcdepdaaGreat
