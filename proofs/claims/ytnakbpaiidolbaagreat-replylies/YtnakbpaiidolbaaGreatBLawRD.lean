import Derived.Test.YtnakbpaiidolbaaGreatBRplC
import Derived.Test.YtnakbpaiidolbaaGreatBRplB
import Derived.Test.YtnakbpaiidolbaaGreatBunAU
import Derived.Test.YtnakbpaiidolbaaGreatBTkA
namespace Go.Proofs.YtnakbpaiidolbaaGreat
open Go.RowKit Fld Slp Pln Shr
set_option linter.unusedVariables false
set_option linter.unusedSimpArgs false
theorem row_elem {w W : World} {v : Value} {xs : List Int} (h : Row w v xs) (hB : Below w.heap.size w W) {i : Nat} (hi : i < xs.length) : ∃ b off cap, v = .slice (some ⟨b, off, none⟩) xs.length cap ∧ W.cell? ⟨b, off + i, none⟩ = some (.int .u64 (co xs i)) := by
 obtain ⟨ao, cap, rfl, _, _, hc⟩ := h
 obtain ⟨b, off, rfl, hbl, hcell⟩ := hc (by intro e; rw [e] at hi; simp at hi)
 exact ⟨b, off, cap, rfl, (hB.cell (p := ⟨b, off + i, none⟩) hbl).trans (hcell i hi)⟩
theorem rws_elem {w W : World} {v : Value} {l : List (List Int)} (h : Rws w v l) (hB : Below w.heap.size w W) {i : Nat} (hi : i < l.length) : ∃ b off cap u, v = .slice (some ⟨b, off, none⟩) l.length cap ∧ W.cell? ⟨b, off + i, none⟩ = some u ∧ Rw W u (l.getD i []) := by
 obtain ⟨ao, cap, rfl, _, _, hc⟩ := h
 obtain ⟨b, off, rfl, hbl, hcell⟩ := hc (by intro e; rw [e] at hi; simp at hi)
 obtain ⟨u, hu, hr⟩ := hcell i hi
 exact ⟨b, off, cap, u, rfl, (hB.cell (p := ⟨b, off + i, none⟩) hbl).trans hu, hr.below hB⟩
set_option maxRecDepth 100000 in
set_option maxHeartbeats 4000000 in
theorem replyLies_any (w : World) (p : Pn) (vq vd vp : Value) (q : Pr) (dl pl : List (List Int)) (hp : Ok8p p) (hq : Pm w vq q) (h1 : Rws w vd dl) (h2 : Rws w vp pl) : Calls Tryz.prog 5 #[plv p, vq, .agg #[vd, vp]] w fun e w' => e = .returned (.bool true) ∧ Below w.heap.size w w' := by
 obtain ⟨vo, vu, rfl, ho, hu⟩ := hq.form
 obtain ⟨ao, ca, rfl, _⟩ := ho.spell
 obtain ⟨au, cu, rfl, _⟩ := hu.spell
 have HPo := hide (fun W (hb : Below w.heap.size w W) => gPolysR p q _ vd vp dl pl W hp (hq.below hb) (h1.below hb) (h2.below hb))
 have HF := hide (fun W (hb : Below w.heap.size w W) => dFits16 p q _ W hp (hq.below hb))
 have HBd := hide (fun W (hb : Below w.heap.size w W) => dBad14 p vd vp dl pl W hp (h1.below hb) (h2.below hb))
 have HDg := hide (dDegree p hp)
 have HRs := hide (fun W (hb : Below w.heap.size w W) => gResults p q _ vd dl W hp (hq.below hb) (h1.below hb))
 have HEv := hide (fun t v xs W (hc : 0 ≤ t ∧ t ≤ 18446744073709551615) (hr : Rw W v xs) => dEval_any p.f t v xs W hc hr)
 have HHo := hide (fun W (n : Int) (hb : Below w.heap.size w W) => gHonest p q _ vd vp dl pl n W hp (hq.below hb) (h1.below hb) (h2.below hb))
 unfold GivesL11 at HPo HRs
 unfold Gives at HHo
 unfold Ans at HDg
 have HX := hide anch16
 unfold Ans at HX
 have W1' := h1.wordsH
 have W2' := h2.wordsH
 obtain ⟨q1, q2⟩ := cm_wd p q W1' W2'
 have WD1 : Hid (∀ W lo hi v us, Lss W lo hi v us (cmL p q dl pl) → Rws W v (cmL p q dl pl)) := fun W lo hi v us h => h.rws q2 (by omega)
 obtain ⟨q3, q4⟩ := rs_wd p q h1.wordsL
 have WD2 : Hid (∀ W lo hi v us, Lss W lo hi v us (rsL p q dl) → Rws W v (rsL p q dl)) := fun W lo hi v us h => h.rws q4 (by omega)
 have HWr : Hid (∀ k i, 0 ≤ co ((rsL p q dl).getD k []) i ∧ co ((rsL p q dl).getD k []) i ≤ 18446744073709551615) := fun k i => co_word (q4 k).2 i
 have WD3 : Hid (∀ n W base m v, World.ownsRow W base 58 1 v m (vals (hnL p q dl pl n)) → Row W v (hnL p q dl pl n)) := fun n W base m v h => ((hn_wd p q n W1' W2').row h).1
 have HCl : Hid ((cmL p q dl pl).length ≤ 64) := q1
 have HOl := hide (Lm.len hu)
 obtain ⟨ad, cd, rfl, _, _, _⟩ := h1
 obtain ⟨ap, cp, rfl, _, _, _⟩ := h2
 clear ho hu hq hp q1 q2 q3 q4
 generalize dl.length = nd at *
 generalize pl.length = np at *
 obtain ⟨W1, hW, hA, hS⟩ := psec_box w p q.inp (.slice ao q.ops.length ca) (.slice au q.outs.length cu) (.slice ad nd cd) (.slice ap np cp) 24 28 49
 have HW := hide hW
 have HS := hide hS
 clear hW hS
 rw [plan_eq] at *
 obtain ⟨⟨c0, c1, c2, c3, c4, c5, c6, c7⟩, ⟨d0, d1, d2⟩, f0, f1⟩ := HS.out _ (Below.refl _ _)
 cases hf : fitQ p q with
 | false =>
  obtain ⟨e1, e2⟩ := cm_no (dl := dl) (pl := pl) hf
  rw [e1, e2] at HPo
  rw [e2] at WD1
  rw [ftQ_no hf] at HF
  clear hf e1 e2 HBd HDg HRs HEv HHo WD2 WD3 HWr HCl HOl
  go_enter Tryz.func5, Tryz.ntmps5
  go_upto_region 1 with fail
  rw [HW.out]
  go_wp2_with (first
   | (go_at_call 16; refine (HPo.out _ hA).mono ?_; rintro e w1 ⟨v1, us1, rfl, x1, hb1⟩; have hB1 := Below.next hA hb1; have R1 := hide (WD1.out _ _ _ _ _ x1); obtain ⟨a1, k1, rfl⟩ := own_form x1.row; clear x1; clear c0 c1 c2 c3 c4 c5 c6 c7 d0 d1 d2 f0 f1; obtain ⟨⟨c0, c1, c2, c3, c4, c5, c6, c7⟩, ⟨d0, d1, d2⟩, f0, f1⟩ := HS.out _ hb1)
   | (go_at_call 12; refine (HF.out _ hB1).mono ?_; rintro e w2 ⟨rfl, hb2⟩; have hC2 := Below.next hb1 hb2; have hB2 := Below.next hA hC2; clear c0 c1 c2 c3 c4 c5 c6 c7 d0 d1 d2 f0 f1; obtain ⟨⟨c0, c1, c2, c3, c4, c5, c6, c7⟩, ⟨d0, d1, d2⟩, f0, f1⟩ := HS.out _ hC2)
   | (go_at_call 15; refine (HX.out _).mono ?_; rintro e w9 ⟨rfl, hb9⟩; have hC9 := Below.next hC2 hb9; have hB9 := Below.next hA hC9; clear c0 c1 c2 c3 c4 c5 c6 c7 d0 d1 d2 f0 f1; obtain ⟨⟨c0, c1, c2, c3, c4, c5, c6, c7⟩, ⟨d0, d1, d2⟩, f0, f1⟩ := HS.out _ hC9))
  go_ret
  exact ⟨rfl, hB9⟩
 | true =>
  rw [ftQ_yes hf] at HF
  by_cases hz : bkE p dl pl [] = 0
  · by_cases hc : cmE p q dl pl = 0
    · have hm := (fit_facts hf).1
      have L := lies_facts W1' W2' hf hz hc
      have HOu := hide (fun W => dOuter p W hm)
      rw [plan_eq] at HOu
      have hrs := rs_of_bk hf hz
      have hdg := dgV_yes hm
      obtain ⟨g0, g1⟩ := dg_bound hm
      rw [hc] at HPo
      rw [hz] at HBd
      rw [hrs] at HRs
      rw [hdg] at HDg
      have HOw : Hid (∀ W base m v, World.ownsRow W base 58 1 v m (vals (outL p)) → Row W v (outL p)) := fun W base m v h => (out_row hm h)
      have HOn : Hid ((outL p).length = p.n.toNat) := out_len p
      have HOe : Hid (∀ n, 0 ≤ co (outL p) n ∧ co (outL p) n ≤ 18446744073709551615) := fun n => out_word hm n
      obtain ⟨kn, hkn⟩ : ∃ kn : Nat, p.k = kn ∧ kn ≤ 64 := ⟨p.k.toNat, by have := may_facts hm; omega, by have := may_facts hm; omega⟩
      obtain ⟨nn, hnn⟩ : ∃ nn : Nat, p.n = nn ∧ nn ≤ 64 := ⟨p.n.toNat, by have := may_facts hm; omega, by have := may_facts hm; omega⟩
      obtain ⟨hkn, hk64⟩ := hkn
      obtain ⟨hnn, hn64⟩ := hnn
      have HKN : Hid (p.k = (kn : Int)) := hkn
      have HNN : Hid (p.n = (nn : Int)) := hnn
      have HKt : Hid (p.k.toNat = kn) := by show _ = _; omega
      have HNt : Hid (p.n.toNat = nn) := by show _ = _; omega
      have Llen := hide L.len
      have Lrlen : Hid ((rsL p q dl).length = kn) := by show _ = _; rw [L.rlen]; exact HKt.out
      have Llow := hide L.low
      have Ldata : Hid (∀ i k : Nat, i < q.outs.length → k < kn → valE p.f (k : Int) ((cmL p q dl pl).getD i []) = co ((rsL p q dl).getD k []) i) := fun i k hi hk => L.data i k hi (by rw [HKt.out]; exact hk)
      have Lrows : Hid (∀ k : Nat, k < kn → ((rsL p q dl).getD k []).length = q.outs.length) := fun k hk => L.rows k (by rw [HKt.out]; exact hk)
      have Lhon : Hid (∀ n : Nat, n < nn → hnE p q dl pl (n : Int) = 0 ∧ (hnL p q dl pl (n : Int)).length = q.outs.length) := fun n hn => L.hon n (by rw [HNt.out]; exact hn)
      have Lwork : Hid (∀ n i : Nat, n < nn → i < q.outs.length → valE p.f (co (outL p) n) ((cmL p q dl pl).getD i []) = co (hnL p q dl pl (n : Int)) i) := fun n i hn hi => L.work n i (by rw [HNt.out]; exact hn) hi
      rw [HNt.out] at HOn
      clear hf hz hc hm L hrs hdg hkn hnn W1' W2' HKt HNt
      generalize cmL p q dl pl = cs at *
      generalize rsL p q dl = rs at *
      generalize outL p = ol at *
      generalize dg p = D at *
      generalize erP p = eP at *
      have hm64 : q.outs.length ≤ 64 := by have := Llen.out; have := HCl.out; omega
      have tk : ((kn : Int) != p.k) = false := by rw [HKN.out]; simp
      go_enter Tryz.func5, Tryz.ntmps5
      go_upto_region 1 with fail
      rw [HW.out]
      go_upto_region 10 with (first
       | (go_at_call 16; refine (HPo.out _ hA).mono ?_; rintro e w1 ⟨v1, us1, rfl, x1, hb1⟩; have hB1 := Below.next hA hb1; have R1 := hide (WD1.out _ _ _ _ _ x1); obtain ⟨a1, k1, rfl⟩ := own_form x1.row; clear x1; clear c0 c1 c2 c3 c4 c5 c6 c7 d0 d1 d2 f0 f1; obtain ⟨⟨c0, c1, c2, c3, c4, c5, c6, c7⟩, ⟨d0, d1, d2⟩, f0, f1⟩ := HS.out _ hb1)
       | (go_at_call 12; refine (HF.out _ hB1).mono ?_; rintro e w2 ⟨rfl, hb2⟩; have hC2 := Below.next hb1 hb2; have hB2 := Below.next hA hC2; clear c0 c1 c2 c3 c4 c5 c6 c7 d0 d1 d2 f0 f1; obtain ⟨⟨c0, c1, c2, c3, c4, c5, c6, c7⟩, ⟨d0, d1, d2⟩, f0, f1⟩ := HS.out _ hC2)
       | (go_at_call 20; refine (HBd.out _ hB2).mono ?_; rintro e w3 ⟨rfl, hb3⟩; have hC3 := Below.next hC2 hb3; have hB3 := Below.next hA hC3; clear c0 c1 c2 c3 c4 c5 c6 c7 d0 d1 d2 f0 f1; obtain ⟨⟨c0, c1, c2, c3, c4, c5, c6, c7⟩, ⟨d0, d1, d2⟩, f0, f1⟩ := HS.out _ hC3)
       | (go_at_call 21; refine (HDg.out _).mono ?_; rintro e w4 ⟨rfl, hb4⟩; have hC4 := Below.next hC3 hb4; have hB4 := Below.next hA hC4; clear c0 c1 c2 c3 c4 c5 c6 c7 d0 d1 d2 f0 f1; obtain ⟨⟨c0, c1, c2, c3, c4, c5, c6, c7⟩, ⟨d0, d1, d2⟩, f0, f1⟩ := HS.out _ hC4)
       | (go_at_call 9; refine (HRs.out _ hB4).mono ?_; rintro e w5 ⟨v5, us5, rfl, x5, hb5⟩; have hC5 := Below.next hC4 hb5; have hB5 := Below.next hA hC5; have R5 := hide (WD2.out _ _ _ _ _ x5); obtain ⟨a5, k5, rfl⟩ := own_form x5.row; clear x5; rw [Llen.out, Lrlen.out]; clear c0 c1 c2 c3 c4 c5 c6 c7 d0 d1 d2 f0 f1; obtain ⟨⟨c0, c1, c2, c3, c4, c5, c6, c7⟩, ⟨d0, d1, d2⟩, f0, f1⟩ := HS.out _ hC5))
      have HC := hide ((((R1.out.below hb2).below hb3).below hb4).below hb5)
      have HR := R5
      rw [Llen.out] at HC
      rw [Lrlen.out] at HR
      clear R1 R5 HPo HF HBd HDg HRs WD1 WD2 HW hb1 hb2 hb3 hb4 hb5 hB1 hB2 hB3 hB4 hC2 hC3 hC4 c0 c1 c2 c3 c4 c5 c6 c7 d0 d1 d2 f0 f1
      go_wp2
      go_loopw [13] (fun vi wr => ∃ i : Nat, i ≤ q.outs.length ∧ vi = .int .i64 i ∧ Below w5.heap.size w5 wr) (fun vi _ => q.outs.length - (intOf vi).toNat)
      case atStart => exact ⟨0, Nat.zero_le _, rfl, Below.refl _ _⟩
      case round =>
       obtain ⟨i, hi, rfl, hB⟩ := hrel
       obtain ⟨w6, rfl⟩ : ∃ w6, w6 = wr := ⟨wr, rfl⟩
       by_cases hlt : i < q.outs.length
       · obtain ⟨b, off, cap, u, hv, hcu, hru⟩ := rws_elem HC.out hB (i := i) (by rw [Llen.out]; exact hlt)
         injection hv with hv1 hv2 hv3
         subst hv1 hv3
         clear hv2
         obtain ⟨au', cu', rfl, _⟩ := hru.spell
         obtain ⟨l1, l2⟩ := Llow.out i hlt
         have HEi : Hid (∀ k : Nat, k < kn → ∀ W, Below w6.heap.size w6 W → Calls Tryz.prog 22 #[.int .u8 p.f, .slice au' (cs.getD i []).length cu', .int .u64 (k : Int)] W fun e w' => ∃ x, e = .returned (.tuple #[.int .u64 (co (rs.getD k []) i), .int .i64 x]) ∧ Below W.heap.size W w') := fun k hk W hb => by
          have h := HEv.out (k : Int) _ (cs.getD i []) W ⟨by omega, by omega⟩ (hru.below hb)
          rw [Ldata.out i k hlt hk] at h
          exact h.mono fun e w' ⟨h1, h2⟩ => ⟨_, h1, h2⟩
         have i0 : (0 : Int) ≤ (i : Int) := by omega
         have i1 : (i : Int) < (q.outs.length : Int) := by omega
         have hCw := Below.next hC5 hB
         have HQc : Hid (∀ V, Below w6.heap.size w6 V → V.cell? ⟨b, off + i, none⟩ = some (.slice au' (cs.getD i []).length cu')) := fun V hb => (hb.cell (World.block_lt_of_cell? _ _ hcu)).trans hcu
         clear hru
         generalize (cs.getD i []).length = ln at *
         have l3 : ¬ D < (ln : Int) - 1 := by omega
         go_wp2
         go_loopw [14] (fun vk wr => ∃ k : Nat, k ≤ kn ∧ vk = .int .i64 k ∧ Below w6.heap.size w6 wr) (fun vk _ => kn - (intOf vk).toNat)
         case atStart => exact ⟨0, Nat.zero_le _, rfl, Below.refl _ _⟩
         case round =>
          clear hcu
          obtain ⟨k, hk, rfl, hB'⟩ := hrel
          have hCk := Below.next hCw hB'
          have hBk := Below.next hB hB'
          obtain ⟨⟨c0, c1, c2, c3, c4, c5, c6, c7⟩, ⟨d0, d1, d2⟩, f0, f1⟩ := HS.out _ hCk
          by_cases hkl : k < kn
          · have k2 : (k : Int) < p.k := by rw [HKN.out]; omega
            have hw64 : IntKind.u64.wrap (k : Int) = (k : Int) := by unfold IntKind.wrap; simp [IntKind.signed, IntKind.bits]; omega
            have hdr : Below wr.heap.size wr wr.drew := (Below.refl _ wr).drew
            have hE0 := Below.next hB' hdr
            have hS0 : wr.drew.cell? ⟨w.heap.size, 0, none⟩ = some (.int .u8 p.f) ∧ wr.drew.cell? ⟨b, off + i, none⟩ = some (.slice au' ln cu') := ⟨(HS.out _ (Below.next hCw hE0)).1.1, HQc.out _ hE0⟩
            have HEk := hide (HEi.out k hkl)
            have Hr : Hid (∀ V, Below w6.heap.size w6 V → ∃ br offr capr b2 off2 c2, (a5 = some ⟨br, offr, none⟩ ∧ k5 = capr) ∧ V.cell? ⟨br, offr + k, none⟩ = some (.slice (some ⟨b2, off2, none⟩) q.outs.length c2) ∧ V.cell? ⟨b2, off2 + i, none⟩ = some (.int .u64 (co (rs.getD k []) i))) := fun V hb => by
             obtain ⟨br, offr, capr, ur, hvr, hcr, hrr⟩ := rws_elem HR.out (Below.next hB hb) (i := k) (by rw [Lrlen.out]; exact hkl)
             injection hvr with g1 _ g3
             obtain ⟨b2, off2, c2, e2, hc2⟩ := row_elem hrr.1 (Below.refl _ _) (i := i) (by rw [Lrows.out k hkl]; exact hlt)
             rw [Lrows.out k hkl] at e2
             subst e2
             exact ⟨br, offr, capr, b2, off2, c2, ⟨g1, g3⟩, hcr, hc2⟩
            generalize co (rs.getD k []) i = y at *
            go_upto_region 18 with fail
            clear c0 c1 c2 c3 c4 c5 c6 c7 d0 d1 d2 f0 f1
            refine wp_region_held_drew (S := (fun V => V.cell? ⟨w.heap.size, 0, none⟩ = some (.int .u8 p.f) ∧ V.cell? ⟨b, off + i, none⟩ = some (.slice au' ln cu'))) (by kernel_rfl) (by ((try dsimp only) <;> (first | with_reducible exact hS1 | with_reducible exact hS0))) (fun hHeld => ?_)
            (refine tkY 0 ?_; (try simp only [ly0, ly1, ly2, ly3, ly4, ly5, ly6, ly7]))
            (refine tkY 1 ?_; (try simp only [ly0, ly1, ly2, ly3, ly4, ly5, ly6, ly7]))
            (refine tkY 2 ?_; (try simp only [ly0, ly1, ly2, ly3, ly4, ly5, ly6, ly7]))
            (refine tkY 3 ?_; (try simp only [ly0, ly1, ly2, ly3, ly4, ly5, ly6, ly7]))
            (refine tkY 4 ?_; (try simp only [ly0, ly1, ly2, ly3, ly4, ly5, ly6, ly7]))
            (refine tkY 5 ?_; (try simp only [ly0, ly1, ly2, ly3, ly4, ly5, ly6, ly7]))
            (refine tkY 6 ?_; (try simp only [ly0, ly1, ly2, ly3, ly4, ly5, ly6, ly7]))
            (refine tkY 7 ?_; (try simp only [ly0, ly1, ly2, ly3, ly4, ly5, ly6, ly7]))
            refine rd1 8 (fun K hK => ?_)
            (try simp only [ly0, ly1, ly2, ly3, ly4, ly5, ly6, ly7])
            go_simp
            (go_at_call 22; refine (HEk.out _ hE0).mono ?_; rintro e w7 ⟨x7, rfl, hb7⟩; have hE7 := Below.next hE0 hb7; have hS1 : w7.cell? ⟨w.heap.size, 0, none⟩ = some (.int .u8 p.f) ∧ w7.cell? ⟨b, off + i, none⟩ = some (.slice au' ln cu') := ⟨(HS.out _ (Below.next hCw hE7)).1.1, HQc.out _ hE7⟩)
            first | (refine hK.out _ _ (by ((try dsimp only) <;> (first | with_reducible exact hS1 | with_reducible exact hS0))) (fun hHeld => ?_)) | (go_wp2_with fail; refine hK.out _ _ (by ((try dsimp only) <;> (first | with_reducible exact hS1 | with_reducible exact hS0))) (fun hHeld => ?_))
            clear hK K
            (try simp only [ly0, ly1, ly2, ly3, ly4, ly5, ly6, ly7])
            (refine tkY 9 ?_; (try simp only [ly0, ly1, ly2, ly3, ly4, ly5, ly6, ly7]))
            (refine tkY 10 ?_; (try simp only [ly0, ly1, ly2, ly3, ly4, ly5, ly6, ly7]))
            (refine tkY 11 ?_; (try simp only [ly0, ly1, ly2, ly3, ly4, ly5, ly6, ly7]))
            (refine tkY 12 ?_; (try simp only [ly0, ly1, ly2, ly3, ly4, ly5, ly6, ly7]))
            (refine tkY 13 ?_; (try simp only [ly0, ly1, ly2, ly3, ly4, ly5, ly6, ly7]))
            refine wpAnyH_done (by kernel_rfl) ?_ _
            obtain ⟨br, offr, capr, b2, off2, c2', ⟨g1, g3⟩, r1, r2⟩ := Hr.out _ hE7
            subst g1 g3
            have ht9 : (y != y) = false := by simp
            have k0 : (0 : Int) ≤ (k : Int) := by omega
            have k1 : (k : Int) < (kn : Int) := by omega
            clear hS0 hS1 Hr
            go_wp2
            go_roundw
            case rel => exact ⟨k + 1, by omega, by go_num, hE7⟩
            case measure => simp [intOf]; omega
          · obtain rfl : k = kn := by omega
            have k2 : ¬ (k : Int) < p.k := by rw [HKN.out]; omega
            go_wp2
            go_roundw
            case rel => exact ⟨i + 1, by omega, by go_num, hBk⟩
            case measure => simp [intOf]; omega
       · obtain rfl : i = q.outs.length := by omega
         have hCw := Below.next hC5 hB
         obtain ⟨⟨c0, c1, c2, c3, c4, c5, c6, c7⟩, ⟨d0, d1, d2⟩, f0, f1⟩ := HS.out _ hCw
         go_upto_region 22 with (go_at_call 23; refine (HOu.out _).mono ?_; rintro e w8 ⟨v8, rfl, x8, hb8⟩; have R8 := hide (HOw.out _ _ _ _ x8); obtain ⟨a8, k8, rfl⟩ := own_form x8; clear x8)
         clear c0 c1 c2 c3 c4 c5 c6 c7 d0 d1 d2 f0 f1 HOu HOw HKN HR Ldata Lrows Lrlen HWr Llow
         rw [HOn.out] at R8 ⊢
         have hB8 := Below.next hB hb8
         have hC8 := Below.next hCw hb8
         go_wp2
         go_loopw [18] (fun vn wr => ∃ n : Nat, n ≤ nn ∧ vn = .int .i64 n ∧ Below w8.heap.size w8 wr) (fun vn _ => nn - (intOf vn).toNat)
         case atStart => exact ⟨0, Nat.zero_le _, rfl, Below.refl _ _⟩
         case round =>
          obtain ⟨n, hn, rfl, hB'⟩ := hrel
          have hCn := Below.next hC8 hB'
          have hBn := Below.next hA hCn
          obtain ⟨⟨c0, c1, c2, c3, c4, c5, c6, c7⟩, ⟨d0, d1, d2⟩, f0, f1⟩ := HS.out _ hCn
          by_cases hnl : n < nn
          · have n2 : (n : Int) < p.n := by rw [HNN.out]; omega
            have n0 : (0 : Int) ≤ (n : Int) := by omega
            have n1 : (n : Int) < (nn : Int) := by omega
            obtain ⟨o1, o2⟩ := Lhon.out n hnl
            have HHn := hide (HHo.out wr (n : Int) hBn)
            rw [o1] at HHn
            have WDn := hide (WD3.out (n : Int))
            have HLn : Hid ((hnL p q dl pl (n : Int)).length = q.outs.length) := o2
            have HWn := hide (fun i => Lwork.out n i hnl)
            clear o1 o2
            generalize hnL p q dl pl (n : Int) = hs at *
            go_upto_region 28 with (go_at_call 18; refine HHn.out.mono ?_; rintro e w9 ⟨v9, rfl, x9, hb9⟩; have R9 := hide (WDn.out _ _ _ _ x9); obtain ⟨a9, k9, rfl⟩ := own_form x9; clear x9; rw [HLn.out])
            rw [HLn.out] at R9
            clear c0 c1 c2 c3 c4 c5 c6 c7 d0 d1 d2 f0 f1 HHn WDn
            have hB9 := Below.next hB' hb9
            have hC9 := Below.next hCn hb9
            go_wp2
            go_loopw [21] (fun vi wr => ∃ i : Nat, i ≤ q.outs.length ∧ vi = .int .i64 i ∧ Below w9.heap.size w9 wr) (fun vi _ => q.outs.length - (intOf vi).toNat)
            case atStart => exact ⟨0, Nat.zero_le _, rfl, Below.refl _ _⟩
            case round =>
             obtain ⟨i, hi, rfl, hBi⟩ := hrel
             have hE8 := Below.next hB9 hBi
             have hE5 := Below.next hB8 hE8
             have hCi := Below.next hC9 hBi
             by_cases hlt : i < q.outs.length
             · have hdr : Below wr.heap.size wr wr.drew := (Below.refl _ wr).drew
               obtain ⟨b, off, cap, u, hv, hcu, hru⟩ := rws_elem HC.out (Below.next hE5 hdr) (i := i) (by rw [Llen.out]; exact hlt)
               injection hv with hv1 hv2 hv3
               subst hv1 hv3
               clear hv2
               obtain ⟨au', cu', rfl, _⟩ := hru.spell
               obtain ⟨bo, offo, capo, hvo, hco⟩ := row_elem R8.out (Below.next hE8 hdr) (i := n) (by rw [HOn.out]; exact hnl)
               injection hvo with ho1 ho2 ho3
               subst ho1 ho3
               clear ho2
               have HEi := hide (HEv.out (co ol n) _ (cs.getD i []) wr.drew (HOe.out n) hru)
               rw [HWn.out i hlt] at HEi
               have i0 : (0 : Int) ≤ (i : Int) := by omega
               have i1 : (i : Int) < (q.outs.length : Int) := by omega
               have hS0 : wr.drew.cell? ⟨w.heap.size, 0, none⟩ = some (.int .u8 p.f) ∧ wr.drew.cell? ⟨b, off + i, none⟩ = some (.slice au' (cs.getD i []).length cu') ∧ wr.drew.cell? ⟨bo, offo + n, none⟩ = some (.int .u64 (co ol n)) := ⟨(HS.out _ (Below.next hCi hdr)).1.1, hcu, hco⟩
               have HSc : Hid (∀ V, Below wr.drew.heap.size wr.drew V → V.cell? ⟨w.heap.size, 0, none⟩ = some (.int .u8 p.f) ∧ V.cell? ⟨b, off + i, none⟩ = some (.slice au' (cs.getD i []).length cu') ∧ V.cell? ⟨bo, offo + n, none⟩ = some (.int .u64 (co ol n))) := fun V hb => ⟨(HS.out _ (Below.next (Below.next hCi hdr) hb)).1.1, (hb.cell (World.block_lt_of_cell? _ _ hcu)).trans hcu, (hb.cell (World.block_lt_of_cell? _ _ hco)).trans hco⟩
               have Hx : Hid (∀ V, Below w9.heap.size w9 V → ∃ bx offx capx, (a9 = some ⟨bx, offx, none⟩ ∧ k9 = capx) ∧ V.cell? ⟨bx, offx + i, none⟩ = some (.int .u64 (co hs i))) := fun V hb => by
                obtain ⟨bx, offx, capx, hvx, hcx⟩ := row_elem R9.out hb (i := i) (by rw [HLn.out]; exact hlt)
                injection hvx with g1 _ g3
                exact ⟨bx, offx, capx, ⟨g1, g3⟩, hcx⟩
               clear hcu hco hru
               generalize co hs i = y at *
               generalize co ol n = z at *
               generalize er p.f (cs.getD i []) [z] = ez at *
               generalize (cs.getD i []).length = ln at *
               go_upto_region 31 with fail
               refine wp_region_held_drew (S := (fun V => V.cell? ⟨w.heap.size, 0, none⟩ = some (.int .u8 p.f) ∧ V.cell? ⟨b, off + i, none⟩ = some (.slice au' ln cu') ∧ V.cell? ⟨bo, offo + n, none⟩ = some (.int .u64 z))) (by kernel_rfl) (by ((try dsimp only) <;> (first | with_reducible exact hS1 | with_reducible exact hS0))) (fun hHeld => ?_)
               (refine tkY 0 ?_; (try simp only [ly0, ly1, ly2, ly3, ly4, ly5, ly6, ly7]))
               (refine tkY 1 ?_; (try simp only [ly0, ly1, ly2, ly3, ly4, ly5, ly6, ly7]))
               (refine tkY 2 ?_; (try simp only [ly0, ly1, ly2, ly3, ly4, ly5, ly6, ly7]))
               (refine tkY 3 ?_; (try simp only [ly0, ly1, ly2, ly3, ly4, ly5, ly6, ly7]))
               (refine tkY 4 ?_; (try simp only [ly0, ly1, ly2, ly3, ly4, ly5, ly6, ly7]))
               (refine tkY 5 ?_; (try simp only [ly0, ly1, ly2, ly3, ly4, ly5, ly6, ly7]))
               (refine tkY 6 ?_; (try simp only [ly0, ly1, ly2, ly3, ly4, ly5, ly6, ly7]))
               (refine tkY 7 ?_; (try simp only [ly0, ly1, ly2, ly3, ly4, ly5, ly6, ly7]))
               (refine tkY 8 ?_; (try simp only [ly0, ly1, ly2, ly3, ly4, ly5, ly6, ly7]))
               (refine tkY 9 ?_; (try simp only [ly0, ly1, ly2, ly3, ly4, ly5, ly6, ly7]))
               refine rd1 10 (fun K hK => ?_)
               (try simp only [ly0, ly1, ly2, ly3, ly4, ly5, ly6, ly7])
               go_simp
               (go_at_call 22; refine HEi.out.mono ?_; rintro e w7 ⟨rfl, hb7⟩; have hS1 := HSc.out _ hb7)
               first | (refine hK.out _ _ (by ((try dsimp only) <;> (first | with_reducible exact hS1 | with_reducible exact hS0))) (fun hHeld => ?_)) | (go_wp2_with fail; refine hK.out _ _ (by ((try dsimp only) <;> (first | with_reducible exact hS1 | with_reducible exact hS0))) (fun hHeld => ?_))
               clear hK K
               (try simp only [ly0, ly1, ly2, ly3, ly4, ly5, ly6, ly7])
               (refine tkY 11 ?_; (try simp only [ly0, ly1, ly2, ly3, ly4, ly5, ly6, ly7]))
               (refine tkY 12 ?_; (try simp only [ly0, ly1, ly2, ly3, ly4, ly5, ly6, ly7]))
               (refine tkY 13 ?_; (try simp only [ly0, ly1, ly2, ly3, ly4, ly5, ly6, ly7]))
               (refine tkY 14 ?_; (try simp only [ly0, ly1, ly2, ly3, ly4, ly5, ly6, ly7]))
               (refine tkY 15 ?_; (try simp only [ly0, ly1, ly2, ly3, ly4, ly5, ly6, ly7]))
               refine wpAnyH_done (by kernel_rfl) ?_ _
               have hE7 := Below.next (Below.next hBi hdr) hb7
               obtain ⟨bx, offx, capx, ⟨g1, g3⟩, r1⟩ := Hx.out _ hE7
               subst g1 g3
               have ht9 : (y != y) = false := by simp
               clear hS0 hS1 Hx HSc
               go_wp2
               go_roundw
               case rel => exact ⟨i + 1, by omega, by go_num, hE7⟩
               case measure => simp [intOf]; omega
             · obtain rfl : i = q.outs.length := by omega
               go_wp2
               go_roundw
               case rel => exact ⟨n + 1, by omega, by go_num, hE8⟩
               case measure => simp [intOf]; omega
          · obtain rfl : n = nn := by omega
            have n2 : ¬ (n : Int) < p.n := by rw [HNN.out]; omega
            go_wp2_with (go_at_call 15; refine (HX.out _).mono ?_; rintro e w11 ⟨rfl, hb11⟩)
            go_ret
            exact ⟨rfl, Below.next hBn hb11⟩
    · have h4 : cmE p q dl pl = 4 ∧ 4096 ≤ p.d * (p.k + p.t - 1) := by
       rcases cm_four W1' W2' hf hz with h | h
       · exact absurd h hc
       · exact h
      obtain ⟨h4a, h4b⟩ := h4
      have hm := (fit_facts hf).1
      obtain ⟨g0, g1⟩ := dg_bound hm
      obtain ⟨b1, b2, b3, b4⟩ : 1 ≤ p.k ∧ 0 ≤ p.t ∧ p.k + p.t ≤ 64 ∧ 0 ≤ p.d := by have h := may_facts hm; omega
      obtain ⟨b5, b6⟩ : p.k ≤ 64 ∧ p.d ≤ 1024 := by have h := may_facts hm; omega
      obtain ⟨D, hD⟩ : ∃ D, p.d * (p.k + p.t - 1) = D := ⟨_, rfl⟩
      rw [show dg p = D from hD] at g0 g1
      rw [hD] at h4b
      rw [h4a] at HPo
      rw [hz] at HBd
      clear hf hz hc h4a hm HDg HRs HEv HHo WD2 WD3 HWr HOl W1' W2'
      generalize cmL p q dl pl = cs at *
      generalize cs.length = lc at *
      go_enter Tryz.func5, Tryz.ntmps5
      go_upto_region 1 with fail
      rw [HW.out]
      go_wp2_with (first
       | (go_at_call 16; refine (HPo.out _ hA).mono ?_; rintro e w1 ⟨v1, us1, rfl, x1, hb1⟩; have hB1 := Below.next hA hb1; have R1 := hide (WD1.out _ _ _ _ _ x1); obtain ⟨a1, k1, rfl⟩ := own_form x1.row; clear x1; clear c0 c1 c2 c3 c4 c5 c6 c7 d0 d1 d2 f0 f1; obtain ⟨⟨c0, c1, c2, c3, c4, c5, c6, c7⟩, ⟨d0, d1, d2⟩, f0, f1⟩ := HS.out _ hb1)
       | (go_at_call 12; refine (HF.out _ hB1).mono ?_; rintro e w2 ⟨rfl, hb2⟩; have hC2 := Below.next hb1 hb2; have hB2 := Below.next hA hC2; clear c0 c1 c2 c3 c4 c5 c6 c7 d0 d1 d2 f0 f1; obtain ⟨⟨c0, c1, c2, c3, c4, c5, c6, c7⟩, ⟨d0, d1, d2⟩, f0, f1⟩ := HS.out _ hC2)
       | (go_at_call 20; refine (HBd.out _ hB2).mono ?_; rintro e w3 ⟨rfl, hb3⟩; have hC3 := Below.next hC2 hb3; have hB3 := Below.next hA hC3; clear c0 c1 c2 c3 c4 c5 c6 c7 d0 d1 d2 f0 f1; obtain ⟨⟨c0, c1, c2, c3, c4, c5, c6, c7⟩, ⟨d0, d1, d2⟩, f0, f1⟩ := HS.out _ hC3)
       | (go_at_call 15; refine (HX.out _).mono ?_; rintro e w9 ⟨rfl, hb9⟩; have hC9 := Below.next hC3 hb9; have hB9 := Below.next hA hC9; clear c0 c1 c2 c3 c4 c5 c6 c7 d0 d1 d2 f0 f1; obtain ⟨⟨c0, c1, c2, c3, c4, c5, c6, c7⟩, ⟨d0, d1, d2⟩, f0, f1⟩ := HS.out _ hC9))
      go_ret
      exact ⟨rfl, hB9⟩
  · obtain ⟨e1, e2⟩ := cm_bad hf hz
    rw [e1, e2] at HPo
    rw [e2] at WD1
    have ht : (bkE p dl pl [] != 0) = true := bne_iff_ne.2 hz
    clear hf e1 e2 hz HDg HRs HEv HHo WD2 WD3 HWr HCl HOl
    generalize bkE p dl pl [] = er at *
    go_enter Tryz.func5, Tryz.ntmps5
    go_upto_region 1 with fail
    rw [HW.out]
    go_wp2_with (first
     | (go_at_call 16; refine (HPo.out _ hA).mono ?_; rintro e w1 ⟨v1, us1, rfl, x1, hb1⟩; have hB1 := Below.next hA hb1; have R1 := hide (WD1.out _ _ _ _ _ x1); obtain ⟨a1, k1, rfl⟩ := own_form x1.row; clear x1; clear c0 c1 c2 c3 c4 c5 c6 c7 d0 d1 d2 f0 f1; obtain ⟨⟨c0, c1, c2, c3, c4, c5, c6, c7⟩, ⟨d0, d1, d2⟩, f0, f1⟩ := HS.out _ hb1)
     | (go_at_call 12; refine (HF.out _ hB1).mono ?_; rintro e w2 ⟨rfl, hb2⟩; have hC2 := Below.next hb1 hb2; have hB2 := Below.next hA hC2; clear c0 c1 c2 c3 c4 c5 c6 c7 d0 d1 d2 f0 f1; obtain ⟨⟨c0, c1, c2, c3, c4, c5, c6, c7⟩, ⟨d0, d1, d2⟩, f0, f1⟩ := HS.out _ hC2)
     | (go_at_call 20; refine (HBd.out _ hB2).mono ?_; rintro e w3 ⟨rfl, hb3⟩; have hC3 := Below.next hC2 hb3; have hB3 := Below.next hA hC3; clear c0 c1 c2 c3 c4 c5 c6 c7 d0 d1 d2 f0 f1; obtain ⟨⟨c0, c1, c2, c3, c4, c5, c6, c7⟩, ⟨d0, d1, d2⟩, f0, f1⟩ := HS.out _ hC3)
     | (go_at_call 15; refine (HX.out _).mono ?_; rintro e w9 ⟨rfl, hb9⟩; have hC9 := Below.next hC3 hb9; have hB9 := Below.next hA hC9; clear c0 c1 c2 c3 c4 c5 c6 c7 d0 d1 d2 f0 f1; obtain ⟨⟨c0, c1, c2, c3, c4, c5, c6, c7⟩, ⟨d0, d1, d2⟩, f0, f1⟩ := HS.out _ hC9))
    go_ret
    exact ⟨rfl, hB9⟩
end Go.Proofs.YtnakbpaiidolbaaGreat
