import Derived.Test.YthialdipnhggnaaBLawUC
import Derived.Deep.CutBlock
set_option linter.unusedVariables false
set_option linter.unusedSimpArgs false
set_option maxRecDepth 100000
set_option maxHeartbeats 4000000
namespace Go.Proofs.Ythialdipnhggnaa
open Go.RowKit Fld
theorem journalPlays_any (v : Value) (ss : List Sq3) (w : World) (h : Scr3 w v ss) : Calls Try.prog 4 #[v] w fun e w' => e = .returned (.bool true) ∧ Below w.heap.size w w' := by
 obtain ⟨ao, cap, rfl, hcap⟩ := h.lm.spell
 have hlen := h.len
 have HS := hide h
 have ga := hide (fun W => anch23 W)
 clear h
 have HN := hide (fun W => gNew22 W)
 have HD := hide (fun W => dNew22 W)
 go_enter Try.func4, Try.ntmps4
 go_wp2_with (first
  | (go_at_call 13; refine (HN.out _).mono ?_; rintro e w1 ⟨rfl, hn1, hb1⟩; have HN1 := hide hn1; clear hn1)
  | (go_at_call 14; refine (HD.out _).mono ?_; rintro e w2 ⟨rfl, hb2⟩; have HT := hide (two_newD HN1.out hb1 hb2); clear HN1 hb1 hb2))
 obtain ⟨gt, hgt⟩ : ∃ gt, w2.heap.size = gt := ⟨_, rfl⟩
 rw [hgt] at HT ⊢
 clear hgt HN HD
 generalize w2.alloc (.cells #[.slice none 0 0, .int .i64 (-1), .bool false, .int .i64 0] 35) = w3 at *
 go_loopw [5] (fun vi wr => ∃ (k : Nat) (E : Dsk), k <= ss.length ∧ vi = .int .i64 k ∧ E.n <= 100000 * k ∧ Hid (TwoD w wr w.heap.size w.heap.size gt E)) (fun vi _ => ss.length - (intOf vi).toNat)
 case atStart => exact ⟨0, _, Nat.zero_le _, rfl, Nat.zero_le _, HT⟩
 case round =>
  clear HT
  obtain ⟨k, E, hk, rfl, hEn, HE⟩ := hrel
  by_cases hlt : k < ss.length
  · obtain ⟨b, off, cap', hv, _, _⟩ := HS.out.lm.form (by omega)
    injection hv with hv1 hv2 hv3
    subst hv1 hv3
    obtain ⟨c0, c1, c2⟩ := HS.out.sq HE.out.low hlt
    have HOk := hide (HS.out.ok _ (List.getElem_mem hlt))
    have hM1 := stp3_n E ss[k]
    have ii0 : (0 : Int) <= (k : Int) := by omega
    have ii1 : (k : Int) < (ss.length : Int) := by omega
    have hEb : E.n + 100000 < 4611686018427387904 := by omega
    have HAl := hide (HE.out.below (alloc_below wr (.cells #[.int .u8 ss[k].c, ss[k].u, .int .i64 ss[k].n] 38)))
    have HBx := hide (bx3_new wr ss[k])
    generalize hs : ss[k] = s at *
    obtain ⟨E', HE'⟩ : ∃ E', Hid (stp3 E s = E') := ⟨_, rfl⟩
    rw [HE'.out] at hM1
    obtain ⟨sc, su, sbs, sn⟩ := s
    dsimp only at *
    have hrb : Rb w su sbs := HOk.out.rb
    have hcc : 0 <= sc ∧ sc <= 255 := HOk.out.c
    have hnn : -9223372036854775808 <= sn ∧ sn <= 9223372036854775807 := HOk.out.n
    have hln : sbs.length <= 140737488351232 := HOk.out.len
    clear HOk
    obtain ⟨ua, uc, rfl, huc⟩ := hrb.spell
    obtain ⟨x0, x1, x2⟩ := HBx.out.cells
    dsimp only at *
    clear HS HE hs huc
    go_upto_block 2 with fail
    generalize wr.alloc (.cells #[.int .u8 sc, .slice ua sbs.length uc, .int .i64 sn] 38) = W0 at *
    go_cut [7, 8, 9, 10] from 25 to 83 (fun v7 v8 v9 v10 wx => Hid (TwoD w wx w.heap.size w.heap.size gt E'))
    case first =>
     have hbd : Below W0.heap.size W0 W0.drew := (Below.refl _ W0).drew
     by_cases h0 : sc = 0
     · subst h0
       have e : E' = apN23 sum8 E sbs := by rw [<- HE'.out]; unfold stp3; rw [if_pos rfl]
       subst e
       have HT0 := hide (HAl.out.below hbd)
       have HX0 := hide (HBx.out.below hbd)
       obtain ⟨vp, hp⟩ := HT0.out.p
       obtain ⟨vd, hd⟩ := HT0.out.d
       have hS0 := HX0.out.cells.2.1
       have HA := hide (gAppend hp HT0.out.sz hEb (hrb.below HT0.out.low))
       have HB := hide (fun W2 v2 (m2 : Mv W0.drew W2 w.heap.size vp v2) => dAppend (hd.mv hp m2) (Nat.le_trans HT0.out.sz m2.kq.size) hEb (hrb.below (HT0.out.low.trans (hp.mvb m2 HT0.out.sz))) hln)
       have HT := hide (fun W2 v2 n2 (m2 : Mv W0.drew W2 w.heap.size vp v2) W3 u3 (n3 : Dy W3 w.heap.size gt u3 (apN23 sum8 E sbs)) (m3 : Mv W2 W3 gt vd u3) => two_step2 (w := w) hp hd HT0.out.low HT0.out.sz n2 m2 n3 m3)
       have HX2 := hide (fun W2 v2 (m2 : Mv W0.drew W2 w.heap.size vp v2) => (HX0.out.hd hp m2).cells.2.1)
       have HX3 := hide (fun W2 v2 (m2 : Mv W0.drew W2 w.heap.size vp v2) W3 u3 (m3 : Mv W2 W3 gt vd u3) => ((HX0.out.hd hp m2).dy (hd.mv hp m2) m3).cells.2.1)
       clear HT0 HX0 hp hd hrb HBx HAl
       go_upto_region 8 with fail
       refine wp_region_held_drew (S := (fun V => V.cell? ⟨wr.heap.size, 1, none⟩ = some (.slice ua sbs.length uc))) (by kernel_rfl) (by ((try dsimp only) <;> (first | with_reducible exact hS0 | with_reducible exact hS2 | with_reducible exact hS3))) (fun hHeld => ?_)
       refine tkY 0 ?_
       refine tkY 1 ?_
       refine tkY 2 ?_
       refine tkY 4 ?_
       refine tkY 5 ?_
       refine rd1 3 (fun K hK => ?_)
       (try simp only [ly0, ly1, ly2, ly3, ly4, ly5, ly6, ly7])
       go_simp
       (first
        | (go_at_call 15; refine HA.out.mono ?_; rintro e w2 ⟨v2, rfl, hn2, hm2⟩; have hS2 := HX2.out _ _ hm2; have HB2 := hide (HB.out _ _ hm2))
        | (go_at_call 16; refine HB2.out.mono ?_; rintro e w3 ⟨u3, rfl, hn3, hm3⟩; have hS3 := HX3.out _ _ hm2 _ _ hm3; have HT3 := hide (HT.out _ _ hn2 hm2 _ _ hn3 hm3)))
       first | refine hK.out _ _ ?k5 (fun hHeld => ?_) | (go_wp2_with fail; refine hK.out _ _ ?k5 (fun hHeld => ?_))
       case k5 => ((try dsimp only) <;> (first | with_reducible exact hS0 | with_reducible exact hS2 | with_reducible exact hS3))
       clear hK K
       (try simp only [ly0, ly1, ly2, ly3, ly4, ly5, ly6, ly7])
       refine rd1 6 (fun K hK => ?_)
       (try simp only [ly0, ly1, ly2, ly3, ly4, ly5, ly6, ly7])
       go_simp
       (first
        | (go_at_call 15; refine HA.out.mono ?_; rintro e w2 ⟨v2, rfl, hn2, hm2⟩; have hS2 := HX2.out _ _ hm2; have HB2 := hide (HB.out _ _ hm2))
        | (go_at_call 16; refine HB2.out.mono ?_; rintro e w3 ⟨u3, rfl, hn3, hm3⟩; have hS3 := HX3.out _ _ hm2 _ _ hm3; have HT3 := hide (HT.out _ _ hn2 hm2 _ _ hn3 hm3)))
       first | refine hK.out _ _ ?k6 (fun hHeld => ?_) | (go_wp2_with fail; refine hK.out _ _ ?k6 (fun hHeld => ?_))
       case k6 => ((try dsimp only) <;> (first | with_reducible exact hS0 | with_reducible exact hS2 | with_reducible exact hS3))
       clear hK K
       (try simp only [ly0, ly1, ly2, ly3, ly4, ly5, ly6, ly7])
       refine tkY 7 ?_
       refine wpAnyH_done (by kernel_rfl) ?_ _
       clear hS0 hS2 hS3
       go_wp2
       go_meet
       exact HT3
     · by_cases h1 : sc = 1
       · subst h1
         have e : E' = opN23 sum8 E := by rw [<- HE'.out]; unfold stp3; rw [if_neg (by dsimp only; decide), if_pos rfl]
         subst e
         obtain ⟨vp, hp⟩ := HAl.out.p
         obtain ⟨vd, hd⟩ := HAl.out.d
         have hEc : E.n < 4611686018427387904 := by omega
         have hrl : (opR23 sum8 E).length <= 5864062014634 := by
          obtain ⟨es0, hd0⟩ := hd
          exact rd23_len hd0.o.ok
         have HA := hide (gOpen hp HAl.out.sz hEc)
         have HB := hide (fun W2 v2 (m2 : Mv W0 W2 w.heap.size vp v2) => dOpen (hd.mv hp m2) (Nat.le_trans HAl.out.sz m2.kq.size) hEc)
         have HT := hide (fun W2 v2 n2 (m2 : Mv W0 W2 w.heap.size vp v2) W3 u3 (n3 : Dy W3 w.heap.size gt u3 (opN23 sum8 E)) (m3 : Mv W2 W3 gt vd u3) => two_step2 (w := w) hp hd HAl.out.low HAl.out.sz n2 m2 n3 m3)
         have HRl := hide (fun W2 v2 (m2 : Mv W0 W2 w.heap.size vp v2) lv es (hl : Rl W2 W0.heap.size lv es) W3 u3 (m3 : Mv W2 W3 gt vd u3) => hl.mvd hd m3)
         have HSm := hide (fun x y W (b1 : Bl W x (opR23 sum8 E)) (b2 : Bl W y (opR23 sum8 E)) => dSame22 x y (opR23 sum8 E) W b1 b2 (by omega))
         clear hp hd hrb HBx HAl hrl
         go_wp2_with (first
          | (go_at_call 17; refine HA.out.mono ?_; rintro e w2 ⟨v2, l2, e2, rfl, hn2, hm2, hr2, hq2⟩; have HB2 := hide (HB.out _ _ hm2))
          | (go_at_call 18; refine HB2.out.mono ?_; rintro e w3 ⟨u3, l3, e3, rfl, hn3, hm3, hr3, hq3⟩; have HT3 := hide (HT.out _ _ hn2 hm2 _ _ hn3 hm3); have HS3 := hide (HSm.out _ _ _ (hq2 ▸ (HRl.out _ _ hm2 _ _ hr2 _ _ hm3).bl) (hq3 ▸ hr3.bl)))
          | (go_at_call 9; refine HS3.out.mono ?_; rintro e w4 ⟨rfl, hb4⟩; have HT4 := hide (HT3.out.below hb4)))
         go_meet
         exact HT4
       · by_cases h2 : sc = 2
         · subst h2
           have e : E' = fuN E sn := by rw [<- HE'.out]; unfold stp3; rw [if_neg (by dsimp only; decide), if_neg (by dsimp only; decide), if_pos rfl]
           subst e
           have HT0 := hide (HAl.out.below hbd)
           have HX0 := hide (HBx.out.below hbd)
           obtain ⟨vp, hp⟩ := HT0.out.p
           obtain ⟨vd, hd⟩ := HT0.out.d
           have hS0 := HX0.out.cells.2.2
           have HA := hide (gFuse hp sn hnn.2)
           have HB := hide (fun W2 v2 (m2 : Mv W0.drew W2 w.heap.size vp v2) => dFuseY (hd.mv hp m2) sn hnn.2)
           have HT := hide (fun W2 v2 n2 (m2 : Mv W0.drew W2 w.heap.size vp v2) W3 u3 (n3 : Dy W3 w.heap.size gt u3 (fuN E sn)) (m3 : Mv W2 W3 gt vd u3) => two_step2 (w := w) hp hd HT0.out.low HT0.out.sz n2 m2 n3 m3)
           have HX2 := hide (fun W2 v2 (m2 : Mv W0.drew W2 w.heap.size vp v2) => (HX0.out.hd hp m2).cells.2.2)
           have HX3 := hide (fun W2 v2 (m2 : Mv W0.drew W2 w.heap.size vp v2) W3 u3 (m3 : Mv W2 W3 gt vd u3) => ((HX0.out.hd hp m2).dy (hd.mv hp m2) m3).cells.2.2)
           clear HT0 HX0 hp hd hrb HBx HAl
           generalize fuE sn = er at *
           go_upto_region 16 with fail
           refine wp_region_held_drew (S := (fun V => V.cell? ⟨wr.heap.size, 2, none⟩ = some (.int .i64 sn))) (by kernel_rfl) (by ((try dsimp only) <;> (first | with_reducible exact hS0 | with_reducible exact hS2 | with_reducible exact hS3))) (fun hHeld => ?_)
           refine tkY 0 ?_
           refine tkY 1 ?_
           refine tkY 2 ?_
           refine tkY 4 ?_
           refine tkY 5 ?_
           refine rd1 3 (fun K hK => ?_)
           (try simp only [ly0, ly1, ly2, ly3, ly4, ly5, ly6, ly7])
           go_simp
           (first
            | (go_at_call 19; refine HA.out.mono ?_; rintro e w2 ⟨rfl, hn2, hm2⟩; have hS2 := HX2.out _ _ hm2; have HB2 := hide (HB.out _ _ hm2))
            | (go_at_call 20; refine HB2.out.mono ?_; rintro e w3 ⟨u3, rfl, hn3, hm3⟩; have hS3 := HX3.out _ _ hm2 _ _ hm3; have HT3 := hide (HT.out _ _ hn2 hm2 _ _ hn3 hm3)))
           first | refine hK.out _ _ ?k7 (fun hHeld => ?_) | (go_wp2_with fail; refine hK.out _ _ ?k7 (fun hHeld => ?_))
           case k7 => ((try dsimp only) <;> (first | with_reducible exact hS0 | with_reducible exact hS2 | with_reducible exact hS3))
           clear hK K
           (try simp only [ly0, ly1, ly2, ly3, ly4, ly5, ly6, ly7])
           refine rd1 6 (fun K hK => ?_)
           (try simp only [ly0, ly1, ly2, ly3, ly4, ly5, ly6, ly7])
           go_simp
           (first
            | (go_at_call 19; refine HA.out.mono ?_; rintro e w2 ⟨rfl, hn2, hm2⟩; have hS2 := HX2.out _ _ hm2; have HB2 := hide (HB.out _ _ hm2))
            | (go_at_call 20; refine HB2.out.mono ?_; rintro e w3 ⟨u3, rfl, hn3, hm3⟩; have hS3 := HX3.out _ _ hm2 _ _ hm3; have HT3 := hide (HT.out _ _ hn2 hm2 _ _ hn3 hm3)))
           first | refine hK.out _ _ ?k8 (fun hHeld => ?_) | (go_wp2_with fail; refine hK.out _ _ ?k8 (fun hHeld => ?_))
           case k8 => ((try dsimp only) <;> (first | with_reducible exact hS0 | with_reducible exact hS2 | with_reducible exact hS3))
           clear hK K
           (try simp only [ly0, ly1, ly2, ly3, ly4, ly5, ly6, ly7])
           refine tkY 7 ?_
           refine wpAnyH_done (by kernel_rfl) ?_ _
           clear hS0 hS2 hS3
           go_wp2
           go_meet
           exact HT3
         · by_cases h3 : sc = 3
           · subst h3
             have e : E' = mdN E := by rw [<- HE'.out]; unfold stp3; rw [if_neg (by dsimp only; decide), if_neg (by dsimp only; decide), if_neg (by dsimp only; decide), if_pos rfl]
             subst e
             obtain ⟨vp, hp⟩ := HAl.out.p
             obtain ⟨vd, hd⟩ := HAl.out.d
             have HA := hide (gMend hp)
             have HB := hide (fun W2 (m2 : Mv W0 W2 w.heap.size vp vp) => dMendY (hd.mv hp m2))
             have HT := hide (fun W2 n2 (m2 : Mv W0 W2 w.heap.size vp vp) W3 (n3 : Dy W3 w.heap.size gt vd (mdN E)) (m3 : Mv W2 W3 gt vd vd) => two_step2 (w := w) hp hd HAl.out.low HAl.out.sz n2 m2 n3 m3)
             clear hp hd hrb HBx HAl
             go_wp2_with (first
              | (go_at_call 21; refine HA.out.mono ?_; rintro e w2 ⟨rfl, hn2, hm2⟩; have HB2 := hide (HB.out _ hm2))
              | (go_at_call 22; refine HB2.out.mono ?_; rintro e w3 ⟨rfl, hn3, hm3⟩; have HT3 := hide (HT.out _ hn2 hm2 _ hn3 hm3)))
             go_meet
             exact HT3
           · by_cases h4 : sc = 4
             · subst h4
               have e : E' = wrN22 E (blkc (sn % 256)) := by rw [<- HE'.out]; unfold stp3; rw [if_neg (by dsimp only; decide), if_neg (by dsimp only; decide), if_neg (by dsimp only; decide), if_neg (by dsimp only; decide), if_pos rfl]
               subst e
               have hb256 : 0 <= sn % 256 ∧ sn % 256 <= 255 := by omega
               have HP1 := hide (HAl.out.below hbd)
               obtain ⟨vp, hp⟩ := HP1.out.p
               obtain ⟨vd, hd⟩ := HP1.out.d
               have HPp := hide hp
               have HDd := hide hd
               have HX1 := hide (HBx.out.below hbd)
               have hS0 := HX1.out.cells.2.2
               have hEc : E.n < 4611686018427387904 := by omega
               have HBk := hide (fun W => dBlock (sn % 256) hb256 W)
               have HRb := hide (fun W b x (ho : World.ownsRow W b 5 1 x 32 (valb (blkc (sn % 256)))) => rb_of_own (show World.ownsRow W b 5 1 x (blkc (sn % 256)).length (valb (blkc (sn % 256))) from by rw [blkc_len]; exact ho) (blkc_by hb256) (by rw [blkc_len]; decide))
               have HWr := hide (fun W v (h : Hd W w.heap.size w.heap.size v E) (hz : w.heap.size <= W.heap.size) u (hu : Rb W u (blkc (sn % 256))) => gWrite22 h hz hEc hu)
               have HWd := hide (fun W v (h : Dy W w.heap.size gt v E) (hz : w.heap.size <= W.heap.size) u (hu : Rb W u (blkc (sn % 256))) => dWriteY h hz hEc hu)
               clear hp hd hrb HBx HAl
               generalize blkc (sn % 256) = bs at *
               generalize wrE22 E bs = er at *
               generalize wrN22 E bs = E' at *
               go_upto_region 22 with fail
               refine wp_region_held_drew (S := (fun V => V.cell? ⟨wr.heap.size, 2, none⟩ = some (.int .i64 sn))) (by kernel_rfl) (by ((try dsimp only) <;> (first | with_reducible exact hS0 | with_reducible exact hS2 | with_reducible exact hS3 | with_reducible exact hS4 | with_reducible exact hS5))) (fun hHeld => ?_)
               refine tkY 0 ?_
               refine tkY 1 ?_
               refine tkY 2 ?_
               refine tkY 3 ?_
               refine tkY 6 ?_
               refine tkY 7 ?_
               refine tkY 8 ?_
               refine rd1 4 (fun K hK => ?_)
               (try simp only [ly0, ly1, ly2, ly3, ly4, ly5, ly6, ly7])
               go_simp
               (go_at_call 24; refine (HBk.out _).mono ?_; rintro e w2 ⟨u2, rfl, ho2, hb2⟩; have HP2 := hide (HP1.out.below hb2); have HPp2 := hide (HPp.out.below hb2); have HDd2 := hide (HDd.out.below hb2); have HX2 := hide (HX1.out.below hb2); have hS2 := HX2.out.cells.2.2; have HA2 := hide (HWr.out _ _ HPp2.out HP2.out.sz _ (HRb.out _ _ _ ho2)); obtain ⟨a2, k2, hv2, _⟩ := own_spellO ho2; subst hv2; clear ho2 hb2)
               first | refine hK.out _ _ ?k9 (fun hHeld => ?_) | (go_wp2_with fail; refine hK.out _ _ ?k9 (fun hHeld => ?_))
               case k9 => ((try dsimp only) <;> (first | with_reducible exact hS0 | with_reducible exact hS2 | with_reducible exact hS3 | with_reducible exact hS4 | with_reducible exact hS5))
               clear hK K
               (try simp only [ly0, ly1, ly2, ly3, ly4, ly5, ly6, ly7])
               refine rd1 5 (fun K hK => ?_)
               (try simp only [ly0, ly1, ly2, ly3, ly4, ly5, ly6, ly7])
               go_simp
               (go_at_call 23; refine HA2.out.mono ?_; rintro e w3 ⟨v3, rfl, hn3, hm3⟩; have HD3 := hide (HDd2.out.mv HPp2.out hm3); have HL3 := hide (HP2.out.low.trans (HPp2.out.mvb hm3 HP2.out.sz)); have HZ3 := hide (Nat.le_trans HP2.out.sz hm3.kq.size); have HX3 := hide (HX2.out.hd HPp2.out hm3); have hS3 := HX3.out.cells.2.2; have HN3 := hide hn3; clear hn3 hm3)
               first | refine hK.out _ _ ?k10 (fun hHeld => ?_) | (go_wp2_with fail; refine hK.out _ _ ?k10 (fun hHeld => ?_))
               case k10 => ((try dsimp only) <;> (first | with_reducible exact hS0 | with_reducible exact hS2 | with_reducible exact hS3 | with_reducible exact hS4 | with_reducible exact hS5))
               clear hK K
               (try simp only [ly0, ly1, ly2, ly3, ly4, ly5, ly6, ly7])
               refine rd1 9 (fun K hK => ?_)
               (try simp only [ly0, ly1, ly2, ly3, ly4, ly5, ly6, ly7])
               go_simp
               (go_at_call 24; refine (HBk.out _).mono ?_; rintro e w4 ⟨u4, rfl, ho4, hb4⟩; have HN4 := hide (HN3.out.below hb4); have HD4 := hide (HD3.out.below hb4); have HL4 := hide (HL3.out.trans (hb4.mono HZ3.out)); have HZ4 := hide (Nat.le_trans HZ3.out hb4.size); have HX4 := hide (HX3.out.below hb4); have hS4 := HX4.out.cells.2.2; have HA4 := hide (HWd.out _ _ HD4.out HZ4.out _ (HRb.out _ _ _ ho4)); obtain ⟨a4, k4, hv4, _⟩ := own_spellO ho4; subst hv4; clear ho4 hb4)
               first | refine hK.out _ _ ?k11 (fun hHeld => ?_) | (go_wp2_with fail; refine hK.out _ _ ?k11 (fun hHeld => ?_))
               case k11 => ((try dsimp only) <;> (first | with_reducible exact hS0 | with_reducible exact hS2 | with_reducible exact hS3 | with_reducible exact hS4 | with_reducible exact hS5))
               clear hK K
               (try simp only [ly0, ly1, ly2, ly3, ly4, ly5, ly6, ly7])
               refine rd1 10 (fun K hK => ?_)
               (try simp only [ly0, ly1, ly2, ly3, ly4, ly5, ly6, ly7])
               go_simp
               (go_at_call 25; refine HA4.out.mono ?_; rintro e w5 ⟨v5, rfl, hn5, hm5⟩; have hS5 := (HX4.out.dy HD4.out hm5).cells.2.2; have HT5 := hide (show TwoD w w5 w.heap.size w.heap.size gt E' from ⟨⟨v3, HN4.out.mvy HD4.out hm5⟩, ⟨v5, hn5⟩, HL4.out.trans (HD4.out.mvb hm5 HZ4.out), Nat.le_trans HZ4.out hm5.kq.size⟩); clear hn5 hm5)
               first | refine hK.out _ _ ?k12 (fun hHeld => ?_) | (go_wp2_with fail; refine hK.out _ _ ?k12 (fun hHeld => ?_))
               case k12 => ((try dsimp only) <;> (first | with_reducible exact hS0 | with_reducible exact hS2 | with_reducible exact hS3 | with_reducible exact hS4 | with_reducible exact hS5))
               clear hK K
               (try simp only [ly0, ly1, ly2, ly3, ly4, ly5, ly6, ly7])
               refine tkY 11 ?_
               refine wpAnyH_done (by kernel_rfl) ?_ _
               clear hS0 hS2 hS3 hS4 hS5
               go_wp2
               go_meet
               exact HT5
             · have e : E' = E := by rw [<- HE'.out]; unfold stp3; rw [if_neg h0, if_neg h1, if_neg h2, if_neg h3, if_neg h4]
               subst e
               go_wp2
               go_meet
               exact HAl
    case rest =>
     have HP := hide (fun W (hb : Below wc.heap.size wc W) => hcut.out.below hb)
     have hbd : Below wc.heap.size wc wc.drew := (Below.refl _ wc).drew
     obtain ⟨vd, es, hd⟩ := hcut.out.d
     obtain ⟨vp, hp⟩ := hcut.out.p
     have hlen2 := hp.o.ok.len
     have HBl := hide (fun W (hb : Below wc.heap.size wc W) => gBlocks22 (hp.below hb))
     have HBd := hide (fun W (hb : Below wc.heap.size wc W) => (hd.below hb).bl)
     have HSm := hide (fun W x y (h1 : Bl W x E'.l) (h2 : Bl W y E'.l) => dSame22 x y E'.l W h1 h2 (by omega))
     have HC := hide (fun W (hb : Below wc.heap.size wc W) => (hd.below hb).cells.1)
     obtain ⟨au, cu, rfl, _⟩ := hd.spell
     have hS0 : wc.drew.cell? ⟨gt, 0, none⟩ = some (.slice au E'.l.length cu) := HC.out _ hbd
     have HB0 := hide hbd
     clear hd hp hlen2 hcut hbd
     go_upto_region 24 with fail
     refine wp_region_held_drew (S := (fun V => V.cell? ⟨gt, 0, none⟩ = some (.slice au E'.l.length cu))) (by kernel_rfl) (by ((try dsimp only) <;> (first | with_reducible exact hS0 | with_reducible exact hS1 | with_reducible exact hS2))) (fun hHeld => ?_)
     refine tkY 0 ?_
     refine tkY 2 ?_
     refine tkY 3 ?_
     refine rd1 1 (fun K hK => ?_)
     (try simp only [ly0, ly1, ly2, ly3, ly4, ly5, ly6, ly7])
     go_simp
     (go_at_call 26; refine (HBl.out _ HB0.out).mono ?_; rintro e w6 ⟨v6, r6, c6, rfl, hT6, hb6⟩; obtain ⟨a6, k6, hv6, _⟩ := own_spellO hT6.row; subst hv6; have hB6 := Below.next HB0.out hb6; have hS1 := HC.out _ hB6; have HB6 := hide hB6; have HS6 := hide (HSm.out _ _ _ hT6.bl (HBd.out _ hB6)); clear hT6 hb6 hB6)
     first | refine hK.out _ _ ?k13 (fun hHeld => ?_) | (go_wp2_with fail; refine hK.out _ _ ?k13 (fun hHeld => ?_))
     case k13 => ((try dsimp only) <;> (first | with_reducible exact hS0 | with_reducible exact hS1 | with_reducible exact hS2))
     clear hK K
     (try simp only [ly0, ly1, ly2, ly3, ly4, ly5, ly6, ly7])
     refine rd1 4 (fun K hK => ?_)
     (try simp only [ly0, ly1, ly2, ly3, ly4, ly5, ly6, ly7])
     go_simp
     (go_at_call 9; refine HS6.out.mono ?_; rintro e w7 ⟨rfl, hb7⟩; have hB7 := Below.next HB6.out hb7; have hS2 := HC.out _ hB7; have HT7 := hide (HP.out _ hB7); clear hb7 hB7)
     first | refine hK.out _ _ ?k14 (fun hHeld => ?_) | (go_wp2_with fail; refine hK.out _ _ ?k14 (fun hHeld => ?_))
     case k14 => ((try dsimp only) <;> (first | with_reducible exact hS0 | with_reducible exact hS1 | with_reducible exact hS2))
     clear hK K
     (try simp only [ly0, ly1, ly2, ly3, ly4, ly5, ly6, ly7])
     refine tkY 5 ?_
     refine wpAnyH_done (by kernel_rfl) ?_ _
     clear hS0 hS1 hS2
     go_wp2
     go_roundw
     case rel => exact ⟨k + 1, E', by omega, by go_num, by omega, HT7⟩
     case measure => simp [intOf]; omega
  · obtain rfl : k = ss.length := by omega
    have HP := hide (fun W (hb : Below wr.heap.size wr W) => HE.out.below hb)
    clear HS
    go_wp2_with (go_at_call 12; refine (ga.out _).mono ?_; rintro e w5 ⟨rfl, hb5⟩; have HT5 := hide (HP.out _ hb5))
    go_ret
    exact ⟨by simp, HT5.out.low⟩
end Go.Proofs.Ythialdipnhggnaa
