import Derived.Test.YtnakbpaiidolbaaGreatBunHC
import Derived.Test.YtnakbpaiidolbaaGreatBTkA
namespace Go.Proofs.YtnakbpaiidolbaaGreat
open Go.RowKit Fld Pln Shr
set_option linter.unusedVariables false
set_option linter.unusedSimpArgs false
end Go.Proofs.YtnakbpaiidolbaaGreat
namespace Go.Proofs.YtnakbpaiidolbaaGreat
open Go.RowKit Fld Pln Shr
set_option linter.unusedVariables false
set_option linter.unusedSimpArgs false
theorem lm_one (V : World) (i : Int) (T : TypeId) : Lm iw 1 (V.alloc (.cells #[.int .i64 i] T)) (.slice (some ⟨V.heap.size, 0, none⟩) 1 1) [i] := by
 refine ⟨_, _, rfl, ⟨by simp, by simp, fun h => by cases h⟩, fun _ => ⟨_, _, rfl, by simp, fun k x hx j u hu => ?_⟩⟩
 have hk : k = 0 := by have := (List.getElem?_eq_some_iff.1 hx).1; simp at this; omega
 subst hk
 have hx : i = x := by simpa using hx
 subst hx
 have hj : j = 0 := by have := (List.getElem?_eq_some_iff.1 hu).1; rw [iw_len] at this; omega
 subst hj
 have hu : Value.int .i64 i = u := by simpa [iw] using hu
 subst hu
 simp [go_sem]
set_option maxRecDepth 100000 in
set_option maxHeartbeats 1600000 in
theorem gShare (p : Pn) (vd vp : Value) (dl pl : List (List Int)) (i : Int) (w : World) (hp : Ok8p p) (h1 : Rws w vd dl) (h2 : Rws w vp pl) : Gives 39 #[plv p, vd, vp, .int .i64 i] w (shaL p dl pl i) (bkE p dl pl [i]) := by
 obtain ⟨pb, hA⟩ := pb_box (w := w) p
 have HK := hide (fun W vw (hb : Below w.heap.size w W) hL => gCheckBlocks p vd vp vw dl pl [i] W hp (h1.below hb) (h2.below hb) hL)
 have HS := hide (fun W' (hb : Below (w.alloc (.cells #[.int .u8 p.f, .int .i64 p.n, .int .i64 p.k, .int .i64 p.t, .int .i64 p.s, .int .i64 p.e, .int .i64 p.d, .int .i64 p.w] 24)).heap.size _ W') => (pb.below hb).cells)
 obtain ⟨c0, c1, c2, c3, c4, c5, c6, c7⟩ := pb.cells
 have HO := hide (fun V T => lm_one V i T)
 by_cases hz : bkE p dl pl [i] = 0
 · obtain ⟨q, wd, hm, hf, hbe, hbw, hdl, hpl, hbl, ie, inn, i64', oe, on, o64, d0, hwho⟩ := bk_facts hz h1.wordsH h2.wordsH
   have hlen : dl.length + pl.length ≤ 64 := by rw [List.length_append] at hbl; omega
   have hnm : nmd p [i] = [co (outL p) i.toNat] := rfl
   have hnel : El q (co (outL p) i.toNat) := oe.co hf.pos _
   have hne : Els q [co (outL p) i.toNat] := fun x hx => by rw [List.mem_singleton.1 hx]; exact hnel
   have HL : Hid (shaL p dl pl i = shr q (innL p) p.w.toNat (dl ++ pl) (co (outL p) i.toNat)) := by
    show _ = _
    unfold shaL
    rw [if_pos hz, pOf_eq hf]
   rw [HL.out, hz]
   rw [hz] at HK
   have HC := hide (fun W b (hb : Below w.heap.size w W) hT => cat_blocks vd vp dl pl w W b h1 h2 hb d0 (by omega) hT)
   have HI := hide (fun W => gInner p W hp hm)
   have HN := hide (fun W vw hL => gNamed p vw [i] W hp hm hL hwho (by simp))
   rw [hnm] at HN
   have HR := hide (fun W v base n (hO : World.ownsRow W base 58 1 v n (vals (innL p))) => rw_of_own hO (by omega) (els_words ie hf.top))
   have HR2 := hide (fun W v base n (hO : World.ownsRow W base 58 1 v n (vals [co (outL p) i.toNat])) => rw_of_own hO (by simp) (els_words hne hf.top))
   have HM := hide (fun W vb vx vz x1 x2 x3 => gMoved p q wd vb vx vz (dl ++ pl) (innL p) [co (outL p) i.toNat] W hm hf x1 x2 x3 hbw hbe hbl ie inn i64' hne (by simp))
   rw [show [co (outL p) i.toNat].map (shr q (innL p) p.w.toNat (dl ++ pl)) = [shr q (innL p) p.w.toNat (dl ++ pl) (co (outL p) i.toNat)] from rfl] at HM
   obtain ⟨ad, cd, rfl, _, _, _⟩ := h1
   obtain ⟨ap, cp, rfl, _, _, _⟩ := h2
   clear hz hm hf hbe hbw hbl ie inn oe on pb hp HL hdl hpl hnm hnel hne hwho
   generalize shr q (innL p) p.w.toNat (dl ++ pl) (co (outL p) i.toNat) = res at *
   generalize innL p = xs at *
   generalize co (outL p) i.toNat = z at *
   generalize hbb : dl ++ pl = bl at *
   clear hbb
   generalize dl.length = nd at *
   generalize pl.length = np at *
   rw [plan_eq] at *
   show Calls _ _ _ _ _
   go_enter Tryz.func39, Tryz.ntmps39
   go_upto_region 1 with fail
   generalize w.alloc (.cells #[.int .u8 p.f, .int .i64 p.n, .int .i64 p.k, .int .i64 p.t, .int .i64 p.s, .int .i64 p.e, .int .i64 p.d, .int .i64 p.w] 24) = W0 at *
   go_upto_region 4 with (go_at_call 66; refine (HK.out _ _ (Below.next hA (alloc_below W0 _)) (HO.out _ _)).mono ?_; rintro e w1 ⟨rfl, hb1⟩; have hC1 := Below.next (alloc_below W0 _) hb1; have hB1 := Below.next hA hC1)
   clear c0 c1 c2 c3 c4 c5 c6 c7 HK hb1
   have hdr : Below w1.heap.size w1 w1.drew := (Below.refl _ w1).drew
   have hS0 := HS.out _ (Below.next hC1 hdr)
   have hal : ∀ ob, Below w1.heap.size w1 (w1.alloc ob).drew := fun ob => (alloc_below w1 ob).drew
   have hal2 : ∀ ob ob2, Below w1.heap.size w1 ((w1.alloc ob).alloc ob2).drew := fun ob ob2 => (Below.next (alloc_below w1 ob) (alloc_below _ ob2)).drew
   have hS1 := fun ob => HS.out _ (Below.next hC1 (hal ob))
   have hS2 := fun ob ob2 => HS.out _ (Below.next hC1 (hal2 ob ob2))
   have hT1 := hide (fun T => (two_new w1 ad ap nd np cd cp T).below (Below.refl _ _).drew)
   have hT2 := hide (fun T ob => (two_new w1 ad ap nd np cd cp T).below (alloc_below _ ob).drew)
   have hT3 : Hid (∀ T ob, Two (w1.heap.size + 1) (.slice ad nd cd) (.slice ap np cp) ((w1.alloc ob).alloc (.cells #[.slice ad nd cd, .slice ap np cp] T)).drew) := fun T ob => by
    have := (two_new (w1.alloc ob) ad ap nd np cd cp T).below (Below.refl _ _).drew
    have e : (w1.alloc ob).heap.size = w1.heap.size + 1 := by simp
    rw [e] at this
    exact this
   have hL2 : Hid (∀ T ob, Lm iw 1 ((w1.alloc ob).alloc (.cells #[.int .i64 i] T)).drew (.slice (some ⟨w1.heap.size + 1, 0, none⟩) 1 1) [i]) := fun T ob => by
    have := (lm_one (w1.alloc ob) i T).below (Below.refl _ _).drew
    have e : (w1.alloc ob).heap.size = w1.heap.size + 1 := by simp
    rw [e] at this
    exact this
   have hL3 := hide (fun T ob => (lm_one w1 i T).below (alloc_below _ ob).drew)
   refine wp_region_held_drew (S := (fun V => V.cell? ⟨w.heap.size, 0, none⟩ = some (.int .u8 p.f) ∧ V.cell? ⟨w.heap.size, 1, none⟩ = some (.int .i64 p.n) ∧ V.cell? ⟨w.heap.size, 2, none⟩ = some (.int .i64 p.k) ∧ V.cell? ⟨w.heap.size, 3, none⟩ = some (.int .i64 p.t) ∧ V.cell? ⟨w.heap.size, 4, none⟩ = some (.int .i64 p.s) ∧ V.cell? ⟨w.heap.size, 5, none⟩ = some (.int .i64 p.e) ∧ V.cell? ⟨w.heap.size, 6, none⟩ = some (.int .i64 p.d) ∧ V.cell? ⟨w.heap.size, 7, none⟩ = some (.int .i64 p.w))) (by kernel_rfl) (by ((try dsimp only) <;> (first | with_reducible exact hS6 | with_reducible exact hS5 | with_reducible exact hS4b _ | with_reducible exact hS4 | with_reducible exact hS3b _ | with_reducible exact hS3 | with_reducible exact hS2 _ _ | with_reducible exact hS1 _ | with_reducible exact hS0))) (fun hHeld => ?_)
   (refine tkY 0 ?_; (try simp only [ly0, ly1, ly2, ly3, ly4, ly5, ly6, ly7]))
   (refine tkY 1 ?_; (try simp only [ly0, ly1, ly2, ly3, ly4, ly5, ly6, ly7]))
   (refine tkY 2 ?_; (try simp only [ly0, ly1, ly2, ly3, ly4, ly5, ly6, ly7]))
   (refine tkY 5 ?_; (try simp only [ly0, ly1, ly2, ly3, ly4, ly5, ly6, ly7]))
   (refine tkY 7 ?_; (try simp only [ly0, ly1, ly2, ly3, ly4, ly5, ly6, ly7]))
   (refine tkY 8 ?_; (try simp only [ly0, ly1, ly2, ly3, ly4, ly5, ly6, ly7]))
   refine wpAnyH_ready (rs := [3, 9]) (by kernel_rfl) (by simp) ?_
   refine AllReadyH.cons (o := _) rfl (fun K hK => ?way1x0) (AllReadyH.cons (o := _) rfl (fun K hK => ?way1x1) AllReadyH.nil)
   case' way1x0 =>
    (try simp only [ly0, ly1, ly2, ly3, ly4, ly5, ly6, ly7])
    go_simp
    refine hK.out _ _ (by ((try dsimp only) <;> (first | with_reducible exact hS6 | with_reducible exact hS5 | with_reducible exact hS4b _ | with_reducible exact hS4 | with_reducible exact hS3b _ | with_reducible exact hS3 | with_reducible exact hS2 _ _ | with_reducible exact hS1 _ | with_reducible exact hS0))) (fun hHeld => ?_)
    clear hK K
    (try simp only [ly0, ly1, ly2, ly3, ly4, ly5, ly6, ly7])
    refine wpAnyH_ready (rs := [4, 9]) (by kernel_rfl) (by simp) ?_
    refine AllReadyH.cons (o := _) rfl (fun K hK => ?way2x0) (AllReadyH.cons (o := _) rfl (fun K hK => ?way2x1) AllReadyH.nil)
    case' way2x0 =>
     (try simp only [ly0, ly1, ly2, ly3, ly4, ly5, ly6, ly7])
     go_simp
     (go_at_call 68; (first | (with_reducible refine (HC.out _ _ (Below.next hB1 (hal _)) (hT1.out _)).mono ?_; rintro e w3 ⟨v3, rfl, r3, hb3⟩; have hC3 := Below.next (Below.next hC1 (hal _)) hb3) | (with_reducible refine (HC.out _ _ (Below.next hB1 (hal2 _ _)) (hT2.out _ _)).mono ?_; rintro e w3 ⟨v3, rfl, r3, hb3⟩; have hC3 := Below.next (Below.next hC1 (hal2 _ _)) hb3; have hL := (hL2.out _ _).below hb3) | (with_reducible refine (HC.out _ _ (Below.next hB1 (hal2 _ _)) (hT3.out _ _)).mono ?_; rintro e w3 ⟨v3, rfl, r3, hb3⟩; have hC3 := Below.next (Below.next hC1 (hal2 _ _)) hb3; have hL := (hL3.out _ _).below hb3)); have hB3 := Below.next hA hC3; have hS3 := HS.out _ hC3; have hS3b := fun ob => HS.out _ (Below.next hC3 (alloc_below w3 ob)))
     first | (refine hK.out _ _ (by ((try dsimp only) <;> (first | with_reducible exact hS6 | with_reducible exact hS5 | with_reducible exact hS4b _ | with_reducible exact hS4 | with_reducible exact hS3b _ | with_reducible exact hS3 | with_reducible exact hS2 _ _ | with_reducible exact hS1 _ | with_reducible exact hS0))) (fun hHeld => ?_)) | (go_wp2_with fail; refine hK.out _ _ (by ((try dsimp only) <;> (first | with_reducible exact hS6 | with_reducible exact hS5 | with_reducible exact hS4b _ | with_reducible exact hS4 | with_reducible exact hS3b _ | with_reducible exact hS3 | with_reducible exact hS2 _ _ | with_reducible exact hS1 _ | with_reducible exact hS0))) (fun hHeld => ?_))
     clear hK K
     (try simp only [ly0, ly1, ly2, ly3, ly4, ly5, ly6, ly7])
     refine wpAnyH_ready (rs := [6, 9]) (by kernel_rfl) (by simp) ?_
     refine AllReadyH.cons (o := _) rfl (fun K hK => ?way3x0) (AllReadyH.cons (o := _) rfl (fun K hK => ?way3x1) AllReadyH.nil)
     case' way3x0 =>
      (try simp only [ly0, ly1, ly2, ly3, ly4, ly5, ly6, ly7])
      go_simp
      (go_at_call 70; (first | (with_reducible refine (HI.out w3).mono ?_; rintro e w4 ⟨v4, rfl, o4, hb4⟩; have hb4 := hb4; (try have hL := hL.below hb4)) | (with_reducible refine (HI.out (w3.alloc _)).mono ?_; rintro e w4 ⟨v4, rfl, o4, hb4'⟩; have hL := (lm_one w3 i _).below hb4'; have hb4 := Below.next (alloc_below w3 _) hb4')); have hC4 := Below.next hC3 hb4; have hB4 := Below.next hA hC4; have hS4 := HS.out _ hC4; have hS4b := fun ob => HS.out _ (Below.next hC4 (alloc_below w4 ob)); have r4 := HR.out _ _ _ _ o4; obtain ⟨a4, k4, rfl⟩ := own_form o4)
      first | (refine hK.out _ _ (by ((try dsimp only) <;> (first | with_reducible exact hS6 | with_reducible exact hS5 | with_reducible exact hS4b _ | with_reducible exact hS4 | with_reducible exact hS3b _ | with_reducible exact hS3 | with_reducible exact hS2 _ _ | with_reducible exact hS1 _ | with_reducible exact hS0))) (fun hHeld => ?_)) | (go_wp2_with fail; refine hK.out _ _ (by ((try dsimp only) <;> (first | with_reducible exact hS6 | with_reducible exact hS5 | with_reducible exact hS4b _ | with_reducible exact hS4 | with_reducible exact hS3b _ | with_reducible exact hS3 | with_reducible exact hS2 _ _ | with_reducible exact hS1 _ | with_reducible exact hS0))) (fun hHeld => ?_))
      clear hK K
      (try simp only [ly0, ly1, ly2, ly3, ly4, ly5, ly6, ly7])
      refine rd1 9 (fun K hK => ?_)
      (try simp only [ly0, ly1, ly2, ly3, ly4, ly5, ly6, ly7])
      go_simp
      refine hK.out _ _ (by ((try dsimp only) <;> (first | with_reducible exact hS6 | with_reducible exact hS5 | with_reducible exact hS4b _ | with_reducible exact hS4 | with_reducible exact hS3b _ | with_reducible exact hS3 | with_reducible exact hS2 _ _ | with_reducible exact hS1 _ | with_reducible exact hS0))) (fun hHeld => ?_)
      clear hK K
      (try simp only [ly0, ly1, ly2, ly3, ly4, ly5, ly6, ly7])
      refine rd1 10 (fun K hK => ?_)
      (try simp only [ly0, ly1, ly2, ly3, ly4, ly5, ly6, ly7])
      go_simp
      (go_at_call 80; (first | (with_reducible refine (HN.out w4 _ hL).mono ?_; rintro e w5 ⟨v5, rfl, o5, hb5⟩; have hb5 := hb5) | (with_reducible refine (HN.out (w4.alloc _) _ (lm_one w4 i _)).mono ?_; rintro e w5 ⟨v5, rfl, o5, hb5'⟩; have hb5 := Below.next (alloc_below w4 _) hb5')); have hC5 := Below.next hC4 hb5; have hB5 := Below.next hA hC5; have hS5 := HS.out _ hC5; have r5 := HR2.out _ _ _ _ o5; have r4b := r4.below hb5; have r3b := (r3.below hb4).below hb5; obtain ⟨a5, k5, rfl⟩ := own_form o5; have r3c := r3b; obtain ⟨ab2, cb2, rfl, _⟩ := r3b)
      first | (refine hK.out _ _ (by ((try dsimp only) <;> (first | with_reducible exact hS6 | with_reducible exact hS5 | with_reducible exact hS4b _ | with_reducible exact hS4 | with_reducible exact hS3b _ | with_reducible exact hS3 | with_reducible exact hS2 _ _ | with_reducible exact hS1 _ | with_reducible exact hS0))) (fun hHeld => ?_)) | (go_wp2_with fail; refine hK.out _ _ (by ((try dsimp only) <;> (first | with_reducible exact hS6 | with_reducible exact hS5 | with_reducible exact hS4b _ | with_reducible exact hS4 | with_reducible exact hS3b _ | with_reducible exact hS3 | with_reducible exact hS2 _ _ | with_reducible exact hS1 _ | with_reducible exact hS0))) (fun hHeld => ?_))
      clear hK K
      (try simp only [ly0, ly1, ly2, ly3, ly4, ly5, ly6, ly7])
      refine rd1 11 (fun K hK => ?_)
      (try simp only [ly0, ly1, ly2, ly3, ly4, ly5, ly6, ly7])
      go_simp
      (go_at_call 79; refine (HM.out _ _ _ _ r3c r4b r5).mono ?_; rintro e w6 ⟨v6, us6, rfl, y6, hb6⟩; have hC6 := Below.next hC5 hb6; have hB6 := Below.next hA hC6; have hS6 := HS.out _ hC6; obtain ⟨G, cg, rfl, _, _, hcg⟩ := y6.spell (by simp); have d6 := y6.cell (i := 0) (by simp); have e6 := y6.each 0 (by simp); obtain ⟨a6, k6, hu6⟩ := own_form e6; rw [hu6] at d6 e6; have HE6 := hide (own_mono e6 hB5.size); clear e6 hu6 y6)
      first | (refine hK.out _ _ (by ((try dsimp only) <;> (first | with_reducible exact hS6 | with_reducible exact hS5 | with_reducible exact hS4b _ | with_reducible exact hS4 | with_reducible exact hS3b _ | with_reducible exact hS3 | with_reducible exact hS2 _ _ | with_reducible exact hS1 _ | with_reducible exact hS0))) (fun hHeld => ?_)) | (go_wp2_with fail; refine hK.out _ _ (by ((try dsimp only) <;> (first | with_reducible exact hS6 | with_reducible exact hS5 | with_reducible exact hS4b _ | with_reducible exact hS4 | with_reducible exact hS3b _ | with_reducible exact hS3 | with_reducible exact hS2 _ _ | with_reducible exact hS1 _ | with_reducible exact hS0))) (fun hHeld => ?_))
      clear hK K
      (try simp only [ly0, ly1, ly2, ly3, ly4, ly5, ly6, ly7])
      (refine tkY 12 ?_; (try simp only [ly0, ly1, ly2, ly3, ly4, ly5, ly6, ly7]))
      refine rd1 13 (fun K hK => ?_)
      (try simp only [ly0, ly1, ly2, ly3, ly4, ly5, ly6, ly7])
      go_simp
      refine hK.out _ _ (by ((try dsimp only) <;> (first | with_reducible exact hS6 | with_reducible exact hS5 | with_reducible exact hS4b _ | with_reducible exact hS4 | with_reducible exact hS3b _ | with_reducible exact hS3 | with_reducible exact hS2 _ _ | with_reducible exact hS1 _ | with_reducible exact hS0))) (fun hHeld => ?_)
      clear hK K
      (try simp only [ly0, ly1, ly2, ly3, ly4, ly5, ly6, ly7])
      (refine tkY 14 ?_; (try simp only [ly0, ly1, ly2, ly3, ly4, ly5, ly6, ly7]))
      (refine tkY 15 ?_; (try simp only [ly0, ly1, ly2, ly3, ly4, ly5, ly6, ly7]))
      refine wpAnyH_done (by kernel_rfl) ?_ _
     case' way3x1 =>
      (try simp only [ly0, ly1, ly2, ly3, ly4, ly5, ly6, ly7])
      go_simp
      refine hK.out _ _ (by ((try dsimp only) <;> (first | with_reducible exact hS6 | with_reducible exact hS5 | with_reducible exact hS4b _ | with_reducible exact hS4 | with_reducible exact hS3b _ | with_reducible exact hS3 | with_reducible exact hS2 _ _ | with_reducible exact hS1 _ | with_reducible exact hS0))) (fun hHeld => ?_)
      clear hK K
      (try simp only [ly0, ly1, ly2, ly3, ly4, ly5, ly6, ly7])
      refine rd1 6 (fun K hK => ?_)
      (try simp only [ly0, ly1, ly2, ly3, ly4, ly5, ly6, ly7])
      go_simp
      (go_at_call 70; (first | (with_reducible refine (HI.out w3).mono ?_; rintro e w4 ⟨v4, rfl, o4, hb4⟩; have hb4 := hb4; (try have hL := hL.below hb4)) | (with_reducible refine (HI.out (w3.alloc _)).mono ?_; rintro e w4 ⟨v4, rfl, o4, hb4'⟩; have hL := (lm_one w3 i _).below hb4'; have hb4 := Below.next (alloc_below w3 _) hb4')); have hC4 := Below.next hC3 hb4; have hB4 := Below.next hA hC4; have hS4 := HS.out _ hC4; have hS4b := fun ob => HS.out _ (Below.next hC4 (alloc_below w4 ob)); have r4 := HR.out _ _ _ _ o4; obtain ⟨a4, k4, rfl⟩ := own_form o4)
      first | (refine hK.out _ _ (by ((try dsimp only) <;> (first | with_reducible exact hS6 | with_reducible exact hS5 | with_reducible exact hS4b _ | with_reducible exact hS4 | with_reducible exact hS3b _ | with_reducible exact hS3 | with_reducible exact hS2 _ _ | with_reducible exact hS1 _ | with_reducible exact hS0))) (fun hHeld => ?_)) | (go_wp2_with fail; refine hK.out _ _ (by ((try dsimp only) <;> (first | with_reducible exact hS6 | with_reducible exact hS5 | with_reducible exact hS4b _ | with_reducible exact hS4 | with_reducible exact hS3b _ | with_reducible exact hS3 | with_reducible exact hS2 _ _ | with_reducible exact hS1 _ | with_reducible exact hS0))) (fun hHeld => ?_))
      clear hK K
      (try simp only [ly0, ly1, ly2, ly3, ly4, ly5, ly6, ly7])
      refine rd1 10 (fun K hK => ?_)
      (try simp only [ly0, ly1, ly2, ly3, ly4, ly5, ly6, ly7])
      go_simp
      (go_at_call 80; (first | (with_reducible refine (HN.out w4 _ hL).mono ?_; rintro e w5 ⟨v5, rfl, o5, hb5⟩; have hb5 := hb5) | (with_reducible refine (HN.out (w4.alloc _) _ (lm_one w4 i _)).mono ?_; rintro e w5 ⟨v5, rfl, o5, hb5'⟩; have hb5 := Below.next (alloc_below w4 _) hb5')); have hC5 := Below.next hC4 hb5; have hB5 := Below.next hA hC5; have hS5 := HS.out _ hC5; have r5 := HR2.out _ _ _ _ o5; have r4b := r4.below hb5; have r3b := (r3.below hb4).below hb5; obtain ⟨a5, k5, rfl⟩ := own_form o5; have r3c := r3b; obtain ⟨ab2, cb2, rfl, _⟩ := r3b)
      first | (refine hK.out _ _ (by ((try dsimp only) <;> (first | with_reducible exact hS6 | with_reducible exact hS5 | with_reducible exact hS4b _ | with_reducible exact hS4 | with_reducible exact hS3b _ | with_reducible exact hS3 | with_reducible exact hS2 _ _ | with_reducible exact hS1 _ | with_reducible exact hS0))) (fun hHeld => ?_)) | (go_wp2_with fail; refine hK.out _ _ (by ((try dsimp only) <;> (first | with_reducible exact hS6 | with_reducible exact hS5 | with_reducible exact hS4b _ | with_reducible exact hS4 | with_reducible exact hS3b _ | with_reducible exact hS3 | with_reducible exact hS2 _ _ | with_reducible exact hS1 _ | with_reducible exact hS0))) (fun hHeld => ?_))
      clear hK K
      (try simp only [ly0, ly1, ly2, ly3, ly4, ly5, ly6, ly7])
      refine rd1 11 (fun K hK => ?_)
      (try simp only [ly0, ly1, ly2, ly3, ly4, ly5, ly6, ly7])
      go_simp
      (go_at_call 79; refine (HM.out _ _ _ _ r3c r4b r5).mono ?_; rintro e w6 ⟨v6, us6, rfl, y6, hb6⟩; have hC6 := Below.next hC5 hb6; have hB6 := Below.next hA hC6; have hS6 := HS.out _ hC6; obtain ⟨G, cg, rfl, _, _, hcg⟩ := y6.spell (by simp); have d6 := y6.cell (i := 0) (by simp); have e6 := y6.each 0 (by simp); obtain ⟨a6, k6, hu6⟩ := own_form e6; rw [hu6] at d6 e6; have HE6 := hide (own_mono e6 hB5.size); clear e6 hu6 y6)
      first | (refine hK.out _ _ (by ((try dsimp only) <;> (first | with_reducible exact hS6 | with_reducible exact hS5 | with_reducible exact hS4b _ | with_reducible exact hS4 | with_reducible exact hS3b _ | with_reducible exact hS3 | with_reducible exact hS2 _ _ | with_reducible exact hS1 _ | with_reducible exact hS0))) (fun hHeld => ?_)) | (go_wp2_with fail; refine hK.out _ _ (by ((try dsimp only) <;> (first | with_reducible exact hS6 | with_reducible exact hS5 | with_reducible exact hS4b _ | with_reducible exact hS4 | with_reducible exact hS3b _ | with_reducible exact hS3 | with_reducible exact hS2 _ _ | with_reducible exact hS1 _ | with_reducible exact hS0))) (fun hHeld => ?_))
      clear hK K
      (try simp only [ly0, ly1, ly2, ly3, ly4, ly5, ly6, ly7])
      (refine tkY 12 ?_; (try simp only [ly0, ly1, ly2, ly3, ly4, ly5, ly6, ly7]))
      refine rd1 13 (fun K hK => ?_)
      (try simp only [ly0, ly1, ly2, ly3, ly4, ly5, ly6, ly7])
      go_simp
      refine hK.out _ _ (by ((try dsimp only) <;> (first | with_reducible exact hS6 | with_reducible exact hS5 | with_reducible exact hS4b _ | with_reducible exact hS4 | with_reducible exact hS3b _ | with_reducible exact hS3 | with_reducible exact hS2 _ _ | with_reducible exact hS1 _ | with_reducible exact hS0))) (fun hHeld => ?_)
      clear hK K
      (try simp only [ly0, ly1, ly2, ly3, ly4, ly5, ly6, ly7])
      (refine tkY 14 ?_; (try simp only [ly0, ly1, ly2, ly3, ly4, ly5, ly6, ly7]))
      (refine tkY 15 ?_; (try simp only [ly0, ly1, ly2, ly3, ly4, ly5, ly6, ly7]))
      refine wpAnyH_done (by kernel_rfl) ?_ _
    case' way2x1 =>
     (try simp only [ly0, ly1, ly2, ly3, ly4, ly5, ly6, ly7])
     go_simp
     refine hK.out _ _ (by ((try dsimp only) <;> (first | with_reducible exact hS6 | with_reducible exact hS5 | with_reducible exact hS4b _ | with_reducible exact hS4 | with_reducible exact hS3b _ | with_reducible exact hS3 | with_reducible exact hS2 _ _ | with_reducible exact hS1 _ | with_reducible exact hS0))) (fun hHeld => ?_)
     clear hK K
     (try simp only [ly0, ly1, ly2, ly3, ly4, ly5, ly6, ly7])
     refine rd1 4 (fun K hK => ?_)
     (try simp only [ly0, ly1, ly2, ly3, ly4, ly5, ly6, ly7])
     go_simp
     (go_at_call 68; (first | (with_reducible refine (HC.out _ _ (Below.next hB1 (hal _)) (hT1.out _)).mono ?_; rintro e w3 ⟨v3, rfl, r3, hb3⟩; have hC3 := Below.next (Below.next hC1 (hal _)) hb3) | (with_reducible refine (HC.out _ _ (Below.next hB1 (hal2 _ _)) (hT2.out _ _)).mono ?_; rintro e w3 ⟨v3, rfl, r3, hb3⟩; have hC3 := Below.next (Below.next hC1 (hal2 _ _)) hb3; have hL := (hL2.out _ _).below hb3) | (with_reducible refine (HC.out _ _ (Below.next hB1 (hal2 _ _)) (hT3.out _ _)).mono ?_; rintro e w3 ⟨v3, rfl, r3, hb3⟩; have hC3 := Below.next (Below.next hC1 (hal2 _ _)) hb3; have hL := (hL3.out _ _).below hb3)); have hB3 := Below.next hA hC3; have hS3 := HS.out _ hC3; have hS3b := fun ob => HS.out _ (Below.next hC3 (alloc_below w3 ob)))
     first | (refine hK.out _ _ (by ((try dsimp only) <;> (first | with_reducible exact hS6 | with_reducible exact hS5 | with_reducible exact hS4b _ | with_reducible exact hS4 | with_reducible exact hS3b _ | with_reducible exact hS3 | with_reducible exact hS2 _ _ | with_reducible exact hS1 _ | with_reducible exact hS0))) (fun hHeld => ?_)) | (go_wp2_with fail; refine hK.out _ _ (by ((try dsimp only) <;> (first | with_reducible exact hS6 | with_reducible exact hS5 | with_reducible exact hS4b _ | with_reducible exact hS4 | with_reducible exact hS3b _ | with_reducible exact hS3 | with_reducible exact hS2 _ _ | with_reducible exact hS1 _ | with_reducible exact hS0))) (fun hHeld => ?_))
     clear hK K
     (try simp only [ly0, ly1, ly2, ly3, ly4, ly5, ly6, ly7])
     refine rd1 6 (fun K hK => ?_)
     (try simp only [ly0, ly1, ly2, ly3, ly4, ly5, ly6, ly7])
     go_simp
     (go_at_call 70; (first | (with_reducible refine (HI.out w3).mono ?_; rintro e w4 ⟨v4, rfl, o4, hb4⟩; have hb4 := hb4; (try have hL := hL.below hb4)) | (with_reducible refine (HI.out (w3.alloc _)).mono ?_; rintro e w4 ⟨v4, rfl, o4, hb4'⟩; have hL := (lm_one w3 i _).below hb4'; have hb4 := Below.next (alloc_below w3 _) hb4')); have hC4 := Below.next hC3 hb4; have hB4 := Below.next hA hC4; have hS4 := HS.out _ hC4; have hS4b := fun ob => HS.out _ (Below.next hC4 (alloc_below w4 ob)); have r4 := HR.out _ _ _ _ o4; obtain ⟨a4, k4, rfl⟩ := own_form o4)
     first | (refine hK.out _ _ (by ((try dsimp only) <;> (first | with_reducible exact hS6 | with_reducible exact hS5 | with_reducible exact hS4b _ | with_reducible exact hS4 | with_reducible exact hS3b _ | with_reducible exact hS3 | with_reducible exact hS2 _ _ | with_reducible exact hS1 _ | with_reducible exact hS0))) (fun hHeld => ?_)) | (go_wp2_with fail; refine hK.out _ _ (by ((try dsimp only) <;> (first | with_reducible exact hS6 | with_reducible exact hS5 | with_reducible exact hS4b _ | with_reducible exact hS4 | with_reducible exact hS3b _ | with_reducible exact hS3 | with_reducible exact hS2 _ _ | with_reducible exact hS1 _ | with_reducible exact hS0))) (fun hHeld => ?_))
     clear hK K
     (try simp only [ly0, ly1, ly2, ly3, ly4, ly5, ly6, ly7])
     refine rd1 10 (fun K hK => ?_)
     (try simp only [ly0, ly1, ly2, ly3, ly4, ly5, ly6, ly7])
     go_simp
     (go_at_call 80; (first | (with_reducible refine (HN.out w4 _ hL).mono ?_; rintro e w5 ⟨v5, rfl, o5, hb5⟩; have hb5 := hb5) | (with_reducible refine (HN.out (w4.alloc _) _ (lm_one w4 i _)).mono ?_; rintro e w5 ⟨v5, rfl, o5, hb5'⟩; have hb5 := Below.next (alloc_below w4 _) hb5')); have hC5 := Below.next hC4 hb5; have hB5 := Below.next hA hC5; have hS5 := HS.out _ hC5; have r5 := HR2.out _ _ _ _ o5; have r4b := r4.below hb5; have r3b := (r3.below hb4).below hb5; obtain ⟨a5, k5, rfl⟩ := own_form o5; have r3c := r3b; obtain ⟨ab2, cb2, rfl, _⟩ := r3b)
     first | (refine hK.out _ _ (by ((try dsimp only) <;> (first | with_reducible exact hS6 | with_reducible exact hS5 | with_reducible exact hS4b _ | with_reducible exact hS4 | with_reducible exact hS3b _ | with_reducible exact hS3 | with_reducible exact hS2 _ _ | with_reducible exact hS1 _ | with_reducible exact hS0))) (fun hHeld => ?_)) | (go_wp2_with fail; refine hK.out _ _ (by ((try dsimp only) <;> (first | with_reducible exact hS6 | with_reducible exact hS5 | with_reducible exact hS4b _ | with_reducible exact hS4 | with_reducible exact hS3b _ | with_reducible exact hS3 | with_reducible exact hS2 _ _ | with_reducible exact hS1 _ | with_reducible exact hS0))) (fun hHeld => ?_))
     clear hK K
     (try simp only [ly0, ly1, ly2, ly3, ly4, ly5, ly6, ly7])
     refine rd1 11 (fun K hK => ?_)
     (try simp only [ly0, ly1, ly2, ly3, ly4, ly5, ly6, ly7])
     go_simp
     (go_at_call 79; refine (HM.out _ _ _ _ r3c r4b r5).mono ?_; rintro e w6 ⟨v6, us6, rfl, y6, hb6⟩; have hC6 := Below.next hC5 hb6; have hB6 := Below.next hA hC6; have hS6 := HS.out _ hC6; obtain ⟨G, cg, rfl, _, _, hcg⟩ := y6.spell (by simp); have d6 := y6.cell (i := 0) (by simp); have e6 := y6.each 0 (by simp); obtain ⟨a6, k6, hu6⟩ := own_form e6; rw [hu6] at d6 e6; have HE6 := hide (own_mono e6 hB5.size); clear e6 hu6 y6)
     first | (refine hK.out _ _ (by ((try dsimp only) <;> (first | with_reducible exact hS6 | with_reducible exact hS5 | with_reducible exact hS4b _ | with_reducible exact hS4 | with_reducible exact hS3b _ | with_reducible exact hS3 | with_reducible exact hS2 _ _ | with_reducible exact hS1 _ | with_reducible exact hS0))) (fun hHeld => ?_)) | (go_wp2_with fail; refine hK.out _ _ (by ((try dsimp only) <;> (first | with_reducible exact hS6 | with_reducible exact hS5 | with_reducible exact hS4b _ | with_reducible exact hS4 | with_reducible exact hS3b _ | with_reducible exact hS3 | with_reducible exact hS2 _ _ | with_reducible exact hS1 _ | with_reducible exact hS0))) (fun hHeld => ?_))
     clear hK K
     (try simp only [ly0, ly1, ly2, ly3, ly4, ly5, ly6, ly7])
     (refine tkY 12 ?_; (try simp only [ly0, ly1, ly2, ly3, ly4, ly5, ly6, ly7]))
     refine rd1 13 (fun K hK => ?_)
     (try simp only [ly0, ly1, ly2, ly3, ly4, ly5, ly6, ly7])
     go_simp
     refine hK.out _ _ (by ((try dsimp only) <;> (first | with_reducible exact hS6 | with_reducible exact hS5 | with_reducible exact hS4b _ | with_reducible exact hS4 | with_reducible exact hS3b _ | with_reducible exact hS3 | with_reducible exact hS2 _ _ | with_reducible exact hS1 _ | with_reducible exact hS0))) (fun hHeld => ?_)
     clear hK K
     (try simp only [ly0, ly1, ly2, ly3, ly4, ly5, ly6, ly7])
     (refine tkY 14 ?_; (try simp only [ly0, ly1, ly2, ly3, ly4, ly5, ly6, ly7]))
     (refine tkY 15 ?_; (try simp only [ly0, ly1, ly2, ly3, ly4, ly5, ly6, ly7]))
     refine wpAnyH_done (by kernel_rfl) ?_ _
   case' way1x1 =>
    (try simp only [ly0, ly1, ly2, ly3, ly4, ly5, ly6, ly7])
    go_simp
    refine hK.out _ _ (by ((try dsimp only) <;> (first | with_reducible exact hS6 | with_reducible exact hS5 | with_reducible exact hS4b _ | with_reducible exact hS4 | with_reducible exact hS3b _ | with_reducible exact hS3 | with_reducible exact hS2 _ _ | with_reducible exact hS1 _ | with_reducible exact hS0))) (fun hHeld => ?_)
    clear hK K
    (try simp only [ly0, ly1, ly2, ly3, ly4, ly5, ly6, ly7])
    refine rd1 3 (fun K hK => ?_)
    (try simp only [ly0, ly1, ly2, ly3, ly4, ly5, ly6, ly7])
    go_simp
    refine hK.out _ _ (by ((try dsimp only) <;> (first | with_reducible exact hS6 | with_reducible exact hS5 | with_reducible exact hS4b _ | with_reducible exact hS4 | with_reducible exact hS3b _ | with_reducible exact hS3 | with_reducible exact hS2 _ _ | with_reducible exact hS1 _ | with_reducible exact hS0))) (fun hHeld => ?_)
    clear hK K
    (try simp only [ly0, ly1, ly2, ly3, ly4, ly5, ly6, ly7])
    refine rd1 4 (fun K hK => ?_)
    (try simp only [ly0, ly1, ly2, ly3, ly4, ly5, ly6, ly7])
    go_simp
    (go_at_call 68; (first | (with_reducible refine (HC.out _ _ (Below.next hB1 (hal _)) (hT1.out _)).mono ?_; rintro e w3 ⟨v3, rfl, r3, hb3⟩; have hC3 := Below.next (Below.next hC1 (hal _)) hb3) | (with_reducible refine (HC.out _ _ (Below.next hB1 (hal2 _ _)) (hT2.out _ _)).mono ?_; rintro e w3 ⟨v3, rfl, r3, hb3⟩; have hC3 := Below.next (Below.next hC1 (hal2 _ _)) hb3; have hL := (hL2.out _ _).below hb3) | (with_reducible refine (HC.out _ _ (Below.next hB1 (hal2 _ _)) (hT3.out _ _)).mono ?_; rintro e w3 ⟨v3, rfl, r3, hb3⟩; have hC3 := Below.next (Below.next hC1 (hal2 _ _)) hb3; have hL := (hL3.out _ _).below hb3)); have hB3 := Below.next hA hC3; have hS3 := HS.out _ hC3; have hS3b := fun ob => HS.out _ (Below.next hC3 (alloc_below w3 ob)))
    first | (refine hK.out _ _ (by ((try dsimp only) <;> (first | with_reducible exact hS6 | with_reducible exact hS5 | with_reducible exact hS4b _ | with_reducible exact hS4 | with_reducible exact hS3b _ | with_reducible exact hS3 | with_reducible exact hS2 _ _ | with_reducible exact hS1 _ | with_reducible exact hS0))) (fun hHeld => ?_)) | (go_wp2_with fail; refine hK.out _ _ (by ((try dsimp only) <;> (first | with_reducible exact hS6 | with_reducible exact hS5 | with_reducible exact hS4b _ | with_reducible exact hS4 | with_reducible exact hS3b _ | with_reducible exact hS3 | with_reducible exact hS2 _ _ | with_reducible exact hS1 _ | with_reducible exact hS0))) (fun hHeld => ?_))
    clear hK K
    (try simp only [ly0, ly1, ly2, ly3, ly4, ly5, ly6, ly7])
    refine rd1 6 (fun K hK => ?_)
    (try simp only [ly0, ly1, ly2, ly3, ly4, ly5, ly6, ly7])
    go_simp
    (go_at_call 70; (first | (with_reducible refine (HI.out w3).mono ?_; rintro e w4 ⟨v4, rfl, o4, hb4⟩; have hb4 := hb4; (try have hL := hL.below hb4)) | (with_reducible refine (HI.out (w3.alloc _)).mono ?_; rintro e w4 ⟨v4, rfl, o4, hb4'⟩; have hL := (lm_one w3 i _).below hb4'; have hb4 := Below.next (alloc_below w3 _) hb4')); have hC4 := Below.next hC3 hb4; have hB4 := Below.next hA hC4; have hS4 := HS.out _ hC4; have hS4b := fun ob => HS.out _ (Below.next hC4 (alloc_below w4 ob)); have r4 := HR.out _ _ _ _ o4; obtain ⟨a4, k4, rfl⟩ := own_form o4)
    first | (refine hK.out _ _ (by ((try dsimp only) <;> (first | with_reducible exact hS6 | with_reducible exact hS5 | with_reducible exact hS4b _ | with_reducible exact hS4 | with_reducible exact hS3b _ | with_reducible exact hS3 | with_reducible exact hS2 _ _ | with_reducible exact hS1 _ | with_reducible exact hS0))) (fun hHeld => ?_)) | (go_wp2_with fail; refine hK.out _ _ (by ((try dsimp only) <;> (first | with_reducible exact hS6 | with_reducible exact hS5 | with_reducible exact hS4b _ | with_reducible exact hS4 | with_reducible exact hS3b _ | with_reducible exact hS3 | with_reducible exact hS2 _ _ | with_reducible exact hS1 _ | with_reducible exact hS0))) (fun hHeld => ?_))
    clear hK K
    (try simp only [ly0, ly1, ly2, ly3, ly4, ly5, ly6, ly7])
    refine rd1 10 (fun K hK => ?_)
    (try simp only [ly0, ly1, ly2, ly3, ly4, ly5, ly6, ly7])
    go_simp
    (go_at_call 80; (first | (with_reducible refine (HN.out w4 _ hL).mono ?_; rintro e w5 ⟨v5, rfl, o5, hb5⟩; have hb5 := hb5) | (with_reducible refine (HN.out (w4.alloc _) _ (lm_one w4 i _)).mono ?_; rintro e w5 ⟨v5, rfl, o5, hb5'⟩; have hb5 := Below.next (alloc_below w4 _) hb5')); have hC5 := Below.next hC4 hb5; have hB5 := Below.next hA hC5; have hS5 := HS.out _ hC5; have r5 := HR2.out _ _ _ _ o5; have r4b := r4.below hb5; have r3b := (r3.below hb4).below hb5; obtain ⟨a5, k5, rfl⟩ := own_form o5; have r3c := r3b; obtain ⟨ab2, cb2, rfl, _⟩ := r3b)
    first | (refine hK.out _ _ (by ((try dsimp only) <;> (first | with_reducible exact hS6 | with_reducible exact hS5 | with_reducible exact hS4b _ | with_reducible exact hS4 | with_reducible exact hS3b _ | with_reducible exact hS3 | with_reducible exact hS2 _ _ | with_reducible exact hS1 _ | with_reducible exact hS0))) (fun hHeld => ?_)) | (go_wp2_with fail; refine hK.out _ _ (by ((try dsimp only) <;> (first | with_reducible exact hS6 | with_reducible exact hS5 | with_reducible exact hS4b _ | with_reducible exact hS4 | with_reducible exact hS3b _ | with_reducible exact hS3 | with_reducible exact hS2 _ _ | with_reducible exact hS1 _ | with_reducible exact hS0))) (fun hHeld => ?_))
    clear hK K
    (try simp only [ly0, ly1, ly2, ly3, ly4, ly5, ly6, ly7])
    refine rd1 11 (fun K hK => ?_)
    (try simp only [ly0, ly1, ly2, ly3, ly4, ly5, ly6, ly7])
    go_simp
    (go_at_call 79; refine (HM.out _ _ _ _ r3c r4b r5).mono ?_; rintro e w6 ⟨v6, us6, rfl, y6, hb6⟩; have hC6 := Below.next hC5 hb6; have hB6 := Below.next hA hC6; have hS6 := HS.out _ hC6; obtain ⟨G, cg, rfl, _, _, hcg⟩ := y6.spell (by simp); have d6 := y6.cell (i := 0) (by simp); have e6 := y6.each 0 (by simp); obtain ⟨a6, k6, hu6⟩ := own_form e6; rw [hu6] at d6 e6; have HE6 := hide (own_mono e6 hB5.size); clear e6 hu6 y6)
    first | (refine hK.out _ _ (by ((try dsimp only) <;> (first | with_reducible exact hS6 | with_reducible exact hS5 | with_reducible exact hS4b _ | with_reducible exact hS4 | with_reducible exact hS3b _ | with_reducible exact hS3 | with_reducible exact hS2 _ _ | with_reducible exact hS1 _ | with_reducible exact hS0))) (fun hHeld => ?_)) | (go_wp2_with fail; refine hK.out _ _ (by ((try dsimp only) <;> (first | with_reducible exact hS6 | with_reducible exact hS5 | with_reducible exact hS4b _ | with_reducible exact hS4 | with_reducible exact hS3b _ | with_reducible exact hS3 | with_reducible exact hS2 _ _ | with_reducible exact hS1 _ | with_reducible exact hS0))) (fun hHeld => ?_))
    clear hK K
    (try simp only [ly0, ly1, ly2, ly3, ly4, ly5, ly6, ly7])
    (refine tkY 12 ?_; (try simp only [ly0, ly1, ly2, ly3, ly4, ly5, ly6, ly7]))
    refine rd1 13 (fun K hK => ?_)
    (try simp only [ly0, ly1, ly2, ly3, ly4, ly5, ly6, ly7])
    go_simp
    refine hK.out _ _ (by ((try dsimp only) <;> (first | with_reducible exact hS6 | with_reducible exact hS5 | with_reducible exact hS4b _ | with_reducible exact hS4 | with_reducible exact hS3b _ | with_reducible exact hS3 | with_reducible exact hS2 _ _ | with_reducible exact hS1 _ | with_reducible exact hS0))) (fun hHeld => ?_)
    clear hK K
    (try simp only [ly0, ly1, ly2, ly3, ly4, ly5, ly6, ly7])
    (refine tkY 14 ?_; (try simp only [ly0, ly1, ly2, ly3, ly4, ly5, ly6, ly7]))
    (refine tkY 15 ?_; (try simp only [ly0, ly1, ly2, ly3, ly4, ly5, ly6, ly7]))
    refine wpAnyH_done (by kernel_rfl) ?_ _
   all_goals
    go_wp2
    go_ret2
    exact ⟨_, rfl, HE6.out, hB6⟩
 · have ht : (bkE p dl pl [i] != 0) = true := bne_iff_ne.2 hz
   have HL : Hid (shaL p dl pl i = []) := by show _ = _; unfold shaL; rw [if_neg hz]
   rw [HL.out]
   obtain ⟨ad, cd, rfl, _, _, _⟩ := h1
   obtain ⟨ap, cp, rfl, _, _, _⟩ := h2
   clear hz HL pb hp
   generalize bkE p dl pl [i] = e0 at *
   generalize dl.length = nd at *
   generalize pl.length = np at *
   rw [plan_eq] at *
   apply Gives.none
   go_enter Tryz.func39, Tryz.ntmps39
   go_upto_region 1 with fail
   generalize w.alloc (.cells #[.int .u8 p.f, .int .i64 p.n, .int .i64 p.k, .int .i64 p.t, .int .i64 p.s, .int .i64 p.e, .int .i64 p.d, .int .i64 p.w] 24) = W0 at *
   go_wp2_with (go_at_call 66; refine (HK.out _ _ (Below.next hA (alloc_below W0 _)) (HO.out _ _)).mono ?_; rintro e w1 ⟨rfl, hb1⟩; have hC1 := Below.next (alloc_below W0 _) hb1; have hB1 := Below.next hA hC1)
   go_ret2
   exact ⟨rfl, hB1⟩
end Go.Proofs.YtnakbpaiidolbaaGreat
