/-
  InterpFresh's walk: what is handed in stays, and what is answered is new memory.
-/
import Derived.Test.YtdonfilofdfpbabBLawIA
import Derived.Test.YtdonfilofdfpbabBTreO
namespace Go.Proofs.Ytdonfilofdfpbab
open Go.RowKit Fld
set_option linter.unusedVariables false

set_option maxRecDepth 100000 in
set_option maxHeartbeats 1000000 in
theorem ifresh_any (f : Int) (v1 v2 : Value) (xs ys : List Int) (x : Int) (w : World) (h1 : Rw w v1 xs) (h2 : Rw w v2 ys) (hx : 0 ≤ x ∧ x ≤ 18446744073709551615) :
    Calls Try.prog 3 #[.int .u8 f, .agg #[v1, v2], .int .u64 x] w fun e w' => e = .returned (.bool true) ∧ Below w.heap.size w w' := by
  obtain ⟨hal, hbx⟩ := box2 w v1 v2 23
  have HAL := hide hal
  have g1 := h1.below hal
  have g2 := h2.below hal
  have W1 : Hid (Wd xs) := ⟨h1.len, h1.words⟩
  have W2 : Hid (Wd ys) := ⟨h2.len, h2.words⟩
  have H1 := hide g1
  have H2 := hide g2
  have ga := hide (fun W => anch7 W)
  have WP := hide (thrL_wd f (ys := ys) h1.len)
  have WW := hide (wtsL_wd f h1.len)
  have WB := hide (basL_wd f x h1.len)
  have WC := hide (fun i => chgL_wd f (xs := xs) (zs := ys) i)
  have LC := hide (chgL_len f (xs := xs) (zs := ys))
  have DV := hide (fun W (hb : Below (w.alloc (.cells #[v1, v2] 23)).heap.size (w.alloc (.cells #[v1, v2] 23)) W) => dThrough f v1 v2 xs ys W (g1.below hb) (g2.below hb))
  have HQ := hide hbx
  have HX := hide hx
  obtain ⟨a1, k1, e1, _⟩ := h1.spell
  obtain ⟨a2, k2, e2, _⟩ := h2.spell
  subst e1 e2
  clear h1 h2 g1 g2 hbx hal hx
  obtain ⟨w0, hw0⟩ : ∃ w0, w.alloc (.cells #[.slice a1 xs.length k1, .slice a2 ys.length k2] 23) = w0 := ⟨_, rfl⟩
  have hs0 : w0.heap.size = w.heap.size + 1 := by rw [← hw0]; simp
  go_enter Try.func3, Try.ntmps3
  go_wp2_with fail
  rw [hw0] at HQ HAL H1 H2 DV
  clear hw0
  have hbd : Below w0.heap.size w0 w0.drew := (Below.refl _ w0).drew
  have hS0 := HQ.out _ hbd
  have hc1 := hide (Copy_any _ xs w0.drew (H1.out.1.below hbd))
  go_region_held3 (fun W' => W'.cell? ⟨w.heap.size, 0, none⟩ = some (.slice a1 xs.length k1) ∧ W'.cell? ⟨w.heap.size, 1, none⟩ = some (.slice a2 ys.length k2)) (first | with_reducible exact hS2 | with_reducible exact hS1 | with_reducible exact hS0) (first
    | (go_at_call 4; refine (Copy_any _ ys w1 (H2.out.1.below hB1)).mono ?_; rintro e w2 ⟨vb, rfl, ob, hb2⟩; have hB2 := Below.next hB1 hb2; have hS2 := HQ.out _ hB2)
    | (go_at_call 4; refine hc1.out.mono ?_; rintro e w1 ⟨va, rfl, oa, hb1⟩; have hB1 := Below.next hbd hb1; have hS1 := HQ.out _ hB1))
  have OA := hide (own_below oa hb2)
  have OB := hide ob
  have RA := hide (W1.out.row OA.out)
  have RB := hide (W2.out.row OB.out)
  have GP := hide (fun W (ha : Rw W va xs) (hb : Rw W vb ys) => iThrough f va vb xs ys W ha hb)
  have GW := hide (fun W (hb : Below w2.heap.size w2 W) => iWeights f va xs W (RA.out.below hb))
  have GB := hide (fun W (hb : Below w2.heap.size w2 W) => iBasis f x va xs W HX.out (RA.out.below hb))
  have GC := hide (fun W (hb : Below w2.heap.size w2 W) => iChange f va vb xs ys W (RA.out.below hb) (RB.out.below hb))
  unfold Gives at GP GW GB DV
  unfold GivesL at GC
  have BA := hB2
  have sb1 := hb1.size
  have sb2 := hb2.size
  have sb0 := hbd.size
  clear oa ob hb1 hb2 hS0 hS1 hS2 hB1 hB2 hbd hc1
  generalize bad f xs ys ys.length = e1 at *
  generalize bad f xs [] xs.length = e2 at *
  generalize bad f xs [x] xs.length = e3 at *
  generalize bac f xs ys = e4 at *
  generalize thrL f xs ys = P at *
  generalize wtsL f xs = V at *
  generalize basL f xs x = Z at *
  generalize chgL f xs ys = rss at *
  go_wp2_with fail
  refine (GP.out _ RA.out RB.out).mono ?_; rintro e w3 ⟨vp, rfl, op, b3⟩
  have B3 := b3
  go_wp2_with fail
  refine (GW.out _ B3).mono ?_; rintro e w4 ⟨vv, rfl, ov, b4⟩
  have B4 := Below.next B3 b4
  go_wp2_with fail
  refine (GB.out _ B4).mono ?_; rintro e w5 ⟨vz, rfl, oz, b5⟩
  have B5 := Below.next B4 b5
  go_wp2_with fail
  refine (GC.out _ B5).mono ?_; rintro e w6 ⟨vc, us6, rfl, hL6, b6⟩
  have B6 := Below.next B5 b6
  have z3 := b3.size
  have z4 := b4.size
  have z5 := b5.size
  have z6 := b6.size
  clear GW GB GC
  have HPo : Hid (w6.ownsRow w2.heap.size 24 1 vp P.length (vals P)) := own_below (own_below (own_below op b4) b5) b6
  have HPb : Hid (∀ g, vp.ownBlock = some g → w2.heap.size ≤ g ∧ g < w3.heap.size) := fun g hg => op.lt g hg
  have HV' : Hid (∀ W, Kq (Sb w2.heap.size w3.heap.size w6.heap.size) w6 W → W.ownsRow w3.heap.size 24 1 vv V.length (vals V)) := fun W hk =>
    hk.own (own_below (own_below ov b5) b6) (fun g hg => .inr ⟨(ov.lt g hg).1, by have := (ov.lt g hg).2; omega⟩)
  have HVb : Hid (∀ g, vv.ownBlock = some g → w3.heap.size ≤ g ∧ g < w4.heap.size) := fun g hg => ov.lt g hg
  have HZ : Hid (∀ W, Kq (Sb w2.heap.size w4.heap.size w6.heap.size) w6 W → W.ownsRow w4.heap.size 24 1 vz Z.length (vals Z)) := fun W hk =>
    hk.own (own_below oz b6) (fun g hg => .inr ⟨(oz.lt g hg).1, by have := (oz.lt g hg).2; omega⟩)
  have HZb : Hid (∀ g, vz.ownBlock = some g → w4.heap.size ≤ g ∧ g < w5.heap.size) := fun g hg => oz.lt g hg
  have HR : Hid (∀ W, Kq (Sb w2.heap.size w5.heap.size w6.heap.size) w6 W → Lss W w5.heap.size w6.heap.size vc us6 rss) := fun W hk =>
    hk.lss hL6 (fun j h1 h2 => .inr ⟨by omega, h2⟩)
  have HE : Hid (∀ W, Kq (fun j => j < w2.heap.size) w6 W → Rw W va xs ∧ Rw W vb ys ∧ Below w0.heap.size w0 W) := fun W hk =>
    ⟨W1.out.row (hk.own (own_below OA.out B6) (fun g hg => (OA.out.lt g hg).2)), W2.out.row (hk.own (own_below OB.out B6) (fun g hg => (OB.out.lt g hg).2)),
      Below.next BA (Below.trans B6 (hk.below (fun j hj => hj)))⟩
  obtain ⟨ap, cp, rfl⟩ := own_form op
  obtain ⟨av, cv, rfl⟩ := own_form ov
  obtain ⟨az, cz, rfl⟩ := own_form oz
  obtain ⟨ar, cr, rfl⟩ := own_form hL6.row
  clear op ov oz hL6 b3 b4 b5 b6 B3 B4 B5 B6 OA OB RA RB BA
  have hs1 := hide (Spoil_mark _ _ _ P 1 w6 (by decide) (by decide) HPo.out WP.out.1 (by omega))
  go_wp2_with fail
  refine hs1.out.mono ?_; rintro e w7 ⟨rfl, hg7⟩
  have HK7 : Hid (Kq (Sb w2.heap.size w3.heap.size w6.heap.size) w6 w7) := by
    refine grown_kq hg7 (fun j hj => hj.lt (by omega) (by omega)) (fun g hg hs => ?_)
    have := HPb.out g hg
    rcases hs with hs | hs <;> omega
  have z7 := HK7.out.size
  have hs2 := hide (Spoil_mark _ _ _ V 2 w7 (by decide) (by decide) (HV'.out _ HK7.out) WW.out.1 (by omega))
  clear hs1 hg7 HPo HPb HV'
  go_wp2_with fail
  refine hs2.out.mono ?_; rintro e w8 ⟨rfl, hg8⟩
  have HK8 : Hid (Kq (Sb w2.heap.size w4.heap.size w6.heap.size) w6 w8) := by
    refine (HK7.out.mono (fun j hj => hj.sub z4 (Nat.le_refl _))).trans (grown_kq hg8 (fun j hj => hj.lt (by omega) (by omega)) (fun g hg hs => ?_))
    have := HVb.out g hg
    rcases hs with hs | hs <;> omega
  have z8 := HK8.out.size
  have hs3 := hide (Spoil_mark _ _ _ Z 3 w8 (by decide) (by decide) (HZ.out _ HK8.out) WB.out.1 (by omega))
  clear hs2 hg8 HVb HZ HK7
  go_wp2_with fail
  refine hs3.out.mono ?_; rintro e w9 ⟨rfl, hg9⟩
  have HK9 : Hid (Kq (Sb w2.heap.size w5.heap.size w6.heap.size) w6 w9) := by
    refine (HK8.out.mono (fun j hj => hj.sub z5 (Nat.le_refl _))).trans (grown_kq hg9 (fun j hj => hj.lt (by omega) (by omega)) (fun g hg hs => ?_))
    have := HZb.out g hg
    rcases hs with hs | hs <;> omega
  have z9 := HK9.out.size
  have HLR := hide (HR.out _ HK9.out)
  have HKL : Hid (Kq (fun j => j < w2.heap.size) w6 w9) := HK9.out.mono (fun j hj => .inl hj)
  clear hs3 hg9 HZb HK8 HK9 HR
  obtain ⟨R, hRq⟩ : ∃ R, rss.length = R := ⟨_, rfl⟩
  have HRQ := hide hRq
  have hR2 := LC.out
  rw [hRq] at HLR hR2 ⊢
  clear hRq LC
  go_wp2
  go_loopw [18] (fun vi wr => ∃ (i : Nat) (rs : List (List Int)), i ≤ R ∧ vi = .int .i64 i ∧ Hid (rs.length = R) ∧ Hid (∀ i, Wd (rs.getD i [])) ∧ Hid (Lss wr w5.heap.size w6.heap.size (.slice ar R cr) us6 rs) ∧ Hid (Kq (fun j => j < w2.heap.size) w6 wr)) (fun vi _ => R - (intOf vi).toNat)
  case atStart => exact ⟨0, rss, Nat.zero_le _, rfl, HRQ, WC, HLR, HKL⟩
  case round =>
    clear HLR HKL WC HRQ
    obtain ⟨i, rs, hi, rfl, HRQ, HWR, HLR, HK⟩ := hrel
    have hks := HK.out.size
    by_cases hlt : i < R
    · obtain ⟨gr, capr, er, hgr, d1, o1⟩ := HLR.out.at2 (k := i) (by rw [HRQ.out]; exact hlt)
      rw [HRQ.out] at er
      cases er
      have hsp := hide (Spoil_own _ _ _ _ 4 wr (by decide) (by decide) o1 (HWR.out i).ws (HWR.out i).1 (by omega))
      have hub : Hid (∀ g, (us6.getD i nov).ownBlock = some g → w5.heap.size ≤ g) := fun g hg => HLR.out.from_ i g hg
      obtain ⟨aq, cq, eq⟩ := own_form o1
      have HEQ := hide eq
      rw [eq] at d1 hsp
      obtain ⟨nk, hnk⟩ : ∃ nk, (rs.getD i []).length = nk := ⟨_, rfl⟩
      rw [hnk] at d1 hsp HEQ
      have HNK := hide hnk
      have i0 : (0 : Int) ≤ (i : Int) := by omega
      have i1 : (i : Int) < (R : Int) := by omega
      clear hnk o1 eq
      go_wp2_with (go_at_call 9; refine hsp.out.mono ?_; rintro e w14 ⟨rfl, hg14, zs, hzs, ozs⟩)
      have hzl := own_len ozs
      have HLR2 : Hid (Lss w14 w5.heap.size w6.heap.size (.slice (some ⟨gr, 0, none⟩) R cr) us6 (rs.set i zs)) := HLR.out.over (by rw [HRQ.out]; exact hlt) (by rw [HEQ.out]; exact hg14) (by rw [HEQ.out, HNK.out]; exact ozs)
      have HRQ2 : Hid ((rs.set i zs).length = R) := by show _ = _; rw [List.length_set]; exact HRQ.out
      have HWR2 : Hid (∀ j, Wd ((rs.set i zs).getD j [])) := fun j => by
        rw [getD_set _ _ _ _ _ (by rw [HRQ.out]; exact hlt)]
        split
        · exact ⟨by rw [hzl, ← HNK.out]; exact (HWR.out i).1, hzs⟩
        · exact HWR.out j
      rw [HEQ.out] at hub
      have HK2 : Hid (Kq (fun j => j < w2.heap.size) w6 w14) := by
        refine HK.out.trans (grown_kq hg14 (fun j hj => by omega) (fun g hg hs => ?_))
        have := hub.out g hg
        omega
      clear hg14 ozs hzs HLR HK hub hsp d1 HWR HRQ
      go_roundw
      case rel => exact ⟨i + 1, _, by omega, by go_num, HRQ2, HWR2, HLR2, HK2⟩
      case measure => simp [intOf]; omega
    · obtain ⟨ra, rb, BW⟩ := HE.out _ HK.out
      have BW := hide BW
      have ra := hide ra
      have rb := hide rb
      clear HLR HK HWR HRQ HE
      go_wp2_with fail
      refine (GP.out _ ra.out rb.out).mono ?_; rintro e w15 ⟨vw, rfl, ow, b15⟩
      obtain ⟨q1, q2⟩ := HQ.out _ (Below.next BW.out b15)
      go_wp2_with fail
      refine (DV.out _ (Below.next BW.out b15)).mono ?_; rintro e w16 ⟨vx, rfl, ox, b16⟩
      have R15 := hide (WP.out.row (own_below ow b16)).1
      have R16 := hide (WP.out.row ox).1
      have B16 := Below.next b15 b16
      clear ow ox b15 b16 q1 q2
      go_wp2_with fail
      refine (ga.out _).mono ?_; rintro e w17 ⟨rfl, b17⟩
      have B17 := Below.next B16 b17
      have R15 := hide (R15.out.below b17)
      have R16 := hide (R16.out.below b17)
      obtain ⟨q1, q2⟩ := HQ.out _ (Below.next BW.out B17)
      clear b17 B16
      go_wp2_with fail
      refine (Same_yes _ _ xs _ (ra.out.below B17).1 (H1.out.below (Below.next BW.out B17)).1).mono ?_; rintro e w18 ⟨rfl, b18⟩
      have B18 := Below.next B17 b18
      have R15 := hide (R15.out.below b18)
      have R16 := hide (R16.out.below b18)
      obtain ⟨q3, q4⟩ := HQ.out _ (Below.next BW.out B18)
      clear b18 B17
      go_wp2_with fail
      refine (Same_yes _ _ ys _ (rb.out.below B18).1 (H2.out.below (Below.next BW.out B18)).1).mono ?_; rintro e w19 ⟨rfl, b19⟩
      have B19 := Below.next B18 b19
      have R15 := hide (R15.out.below b19)
      have R16 := hide (R16.out.below b19)
      clear b19 B18
      go_wp2_with fail
      refine (Same_yes _ _ P _ R15.out R16.out).mono ?_; rintro e w21 ⟨rfl, b21⟩
      have B21 := Below.next HAL.out (Below.next BW.out (Below.next B19 b21))
      clear b21 B19
      go_wp2
      go_ret
      exact ⟨by simp, B21⟩

end Go.Proofs.Ytdonfilofdfpbab
