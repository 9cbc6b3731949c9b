/-
  Euclid: the document's own Modulo.
-/
import Derived.Test.YtdgcnockccjdjaaBEucK
namespace Go.Proofs.Ytdgcnockccjdjaa
open Go.RowKit Fld
set_option linter.unusedVariables false

set_option maxRecDepth 100000 in
set_option maxHeartbeats 400000 in
theorem rModulo_any (f : Int) (va vm : Value) (a m : List Int) (w : World) (h1 : Rw w va a) (h2 : Rw w vm m) :
    Calls Try.prog 16 #[.int .u8 f, va, vm] w fun e w' => ∃ v' i ok, e = .returned (.tuple #[v', .bool ok, .int .i64 (moE f a m)]) ∧ Rw w' v' i ∧ MoE f a m i ok ∧ Below w.heap.size w w' := by
  have hk := hide (rbad_any f va vm a m w h1 h2)
  by_cases he : chE f a m = 0
  · obtain ⟨p, wd, hf, i1, i2, la, lm⟩ := chE_zero he
    have e1 := els_of i1 h1.words
    have e2 := els_of i2 h2.words
    have ht := hide (rTrim_any vm m w h2)
    have nm := tr_len m
    have WT := hide (wd_els (e2.tr hf.pos) hf.top (show (tr m).length ≤ 17592186043904 by omega))
    by_cases hn : tr m = []
    · have hE : moE f a m = 5 := by unfold moE; rw [if_pos he, if_pos hn]
      have HP : Hid (MoE f a m [] false) := ⟨fun _ => ⟨rfl, rfl⟩, fun h0 => by rw [hE] at h0; cases h0⟩
      rw [hE]
      rw [he] at hk
      rw [hn] at ht WT
      clear h1 h2 hf he e1 e2 hn hE nm
      go_enter Try.func16, Try.ntmps16
      go_wp2_with fail
      refine hk.out.mono ?_; rintro e w1 ⟨rfl, hw⟩; rw [hw]; clear hw
      go_wp2_with fail
      refine ht.out.mono ?_; rintro e w1 ⟨u1, rfl, hO1, hb1⟩
      obtain ⟨a1, k1, rfl, _⟩ := (WT.out.row hO1).spell
      clear hO1
      go_wp2
      go_ret3
      exact ⟨_, _, _, rfl, rw0 _, HP.out, hb1⟩
    have hE : moE f a m = 0 := by unfold moE; rw [if_pos he, if_neg hn]
    have HP : Hid (∀ i ok, Mo p a m i ok → MoE f a m i ok) := fun i ok hv => ⟨fun h0 => absurd hE h0, fun _ => by rw [pOf_eq hf]; exact hv⟩
    have hpos := List.length_pos_iff.2 hn
    have bz : (((tr m).length : Int) == 0) = false := beq_eq_false_iff_ne.2 (by omega)
    rw [hE]
    rw [he] at hk
    by_cases hone : (tr m).length = 1
    · have HM := hide (HP.out _ _ (mo_one (a := a) hf.md e2 hone))
      have b1 : (((tr m).length : Int) == 1) = true := beq_iff_eq.2 (by omega)
      clear h1 h2 hf he e1 e2 hn hE hpos HP
      go_enter Try.func16, Try.ntmps16
      go_wp2_with fail
      refine hk.out.mono ?_; rintro e w1 ⟨rfl, hw⟩; rw [hw]; clear hw
      go_wp2_with fail
      refine ht.out.mono ?_; rintro e w1 ⟨u1, rfl, hO1, hb1⟩
      obtain ⟨a1, k1, rfl, _⟩ := (WT.out.row hO1).spell
      clear hO1
      rw [hone] at *
      go_wp2
      go_ret3
      exact ⟨_, _, _, rfl, rw0 _, HM.out, hb1⟩
    have b1 : (((tr m).length : Int) == 1) = false := beq_eq_false_iff_ne.2 (by omega)
    have tm := Tm.tr hf.pos e2
    have hE1 : divE f a (tr m) = 0 := by rw [div_ok hf e1 tm (by omega) (by omega), if_neg hn]
    have HD1 := hide (fun W v (hb : Below w.heap.size w W) (hr : Rw W v (tr m)) => dDivMod_any f va v a (tr m) W (h1.below hb) hr)
    unfold PartsD at HD1
    rw [hE1] at HD1
    have HV1 : Hid (∀ Q R, DvE f a (tr m) Q R → Dv p a (tr m) Q R ∧ Wd R ∧ R.length ≤ 2048 ∧ Els p R) := fun Q R hs => by
      have hd := hs.dv hf hE1
      have := hd.rg.2.2.1
      rw [tr_tr] at this
      exact ⟨hd, (dv_wd hf.md hf.top tm.1 hd (by omega) (by omega)).2, by omega, hd.rg.2.1.1⟩
    have HG := hide (fun W v1 v2 R (r1 : Rw W v1 R) (r2 : Rw W v2 (tr m)) => rGCD_any f v1 v2 R (tr m) W r1 r2)
    have HGz : Hid (∀ R, R.length ≤ 2048 → Els p R → chE f R (tr m) = 0) := fun R lr er' => chE_yes hf er' tm.1 lr (by omega)
    have HGc : Hid (∀ R G, R.length ≤ 2048 → Els p R → GcE f R (tr m) G → Gc p R (tr m) G) := fun R G lr er' hg => by have := hg.2 (HGz.out R lr er'); rw [pOf_eq hf] at this; exact this
    have HNo : Hid (∀ Q R G, Dv p a (tr m) Q R → Gc p R (tr m) G → G.length ≠ 1 → MoE f a m [] false) := fun Q R G hd hg hl => HP.out _ _ (mo_none hf.md e2 hn hd hg hl)
    have HPa := hide (fun W v1 v2 R (r1 : Rw W v1 (tr m)) (r2 : Rw W v2 R) => rPartial_any f v1 v2 (tr m) R 1 W r1 r2)
    have HPz : Hid (∀ R, R.length ≤ 2048 → Els p R → stE f (tr m) R 1 = 0) := fun R lr er' => by unfold stE; rw [if_neg (by decide)]; exact chE_yes hf tm.1 er' (by omega) lr
    have HRow : Hid (∀ R G B, R.length ≤ 2048 → Els p R → Gc p R (tr m) G → G.length = 1 → PtE f (tr m) R 1 B → ∃ A c, Fnd p 1 (tr m) R A B ∧ B.x = [c] ∧ El p c ∧ c ≠ 0) := fun R G B lr er' hg hl hp => by
      obtain ⟨A, hv⟩ := hp.2 (HPz.out R lr er')
      rw [pOf_eq hf] at hv
      have hv : Fnd p 1 (tr m) R A B := hv
      obtain ⟨c, hc⟩ := row_el hf.md er' tm.1 (by rw [tr_tr]; omega) hg hl hv
      exact ⟨A, c, hv, hc⟩
    have hP := hide (fun W => rP_yes f p wd W hf)
    have hp2 : 2 ≤ p := by have := hf.md.bounds; omega
    have HTu := hide (fun W c (hc : El p c) => rTurned_any p c W hf.top hp2 hc)
    have HSc : Hid (∀ W v R A B c, Fnd p 1 (tr m) R A B → R.length ≤ 2048 → Els p R → El p c → Rw W v B.v → Calls Try.prog 34 #[.int .u8 f, .int .u64 (inv p c), v] W fun e w' => ∃ v' Z, e = .returned (.tuple #[v', .int .i64 0]) ∧ Rw w' v' Z ∧ Tm p Z ∧ Z.length ≤ 4096 ∧ pl p Z = qm (pl p [inv p c]) (pl p B.v) ∧ Below W.heap.size W w') := fun W v R A B c hv lr er' hc hr => by
      have hie := inv_el (p := p) (a := c) hf.pos
      have hl := hv.made hf.md tm.1 er'
      rw [tr_tr] at hl
      have ht := (hv.tm hf.md tm.1 er').2.2.1
      have hsf := scl_facts hf hie ht.1 (by omega)
      have hc := dScale_any f (inv p c) v B.v W (elWord hie hf.top) hr
      unfold Gives at hc
      rw [hsf.1] at hc
      have hlen : (sclL f (inv p c) B.v).length ≤ 4096 := by
        unfold sclL
        rw [hsf.1, if_pos rfl]
        exact Nat.le_trans (tr_len _) (by rw [sm_len]; simp; omega)
      exact hc.mono fun e w' ⟨v', he, hO, hb⟩ => ⟨v', _, he, (sclL_wd f (inv p c) B.v).row hO, hsf.2.tm.1, hlen, hsf.2.tm.2, hb⟩
    have HD2 := hide (fun W v1 v2 Z (r1 : Rw W v1 Z) (r2 : Rw W v2 (tr m)) => dDivMod_any f v1 v2 Z (tr m) W r1 r2)
    unfold PartsD at HD2
    have HE2 : Hid (∀ Z, Tm p Z → Z.length ≤ 4096 → divE f Z (tr m) = 0) := fun Z tz lz => by rw [div_ok hf tz.1 tm lz (by omega), if_neg hn]
    have HYes : Hid (∀ Q R A B c Z Q2 V, Dv p a (tr m) Q R → Els p R → Fnd p 1 (tr m) R A B → B.x = [c] → El p c → c ≠ 0 → Tm p Z → Z.length ≤ 4096 → pl p Z = qm (pl p [inv p c]) (pl p B.v) → DvE f Z (tr m) Q2 V → MoE f a m V true ∧ Wd V) := fun Q R A B c Z Q2 V hd er' hv hx hc h0 tz lz ez hs => by
      have hd2 := hs.dv hf (HE2.out Z tz lz)
      exact ⟨HP.out _ _ (mo_ref hf.md hd (mo_row hf.md er' tm.1 hv hx hc h0 ez) hd2), (dv_wd hf.md hf.top tm.1 hd2 lz (by omega)).2⟩
    clear h1 h2 hf he e1 e2 hn hE hpos HP tm hE1 hp2
    go_enter Try.func16, Try.ntmps16
    go_wp2_with fail
    refine hk.out.mono ?_; rintro e w1 ⟨rfl, hw⟩; rw [hw]; clear hw
    go_wp2_with fail
    refine ht.out.mono ?_; rintro e w1 ⟨u1, rfl, hO1, hb1⟩
    have RM := hide (WT.out.row hO1)
    obtain ⟨a1, k1, rfl, _⟩ := RM.out.spell
    clear hO1
    go_wp2_with fail
    refine (HD1.out _ _ hb1 RM.out).mono ?_; rintro e w2 ⟨vq, vr, Q, R, rfl, hS, hOq, hOr, hb2⟩
    obtain ⟨hdv, hwr, lr, er'⟩ := HV1.out Q R hS
    have RR := hide (hwr.row hOr)
    have RM := hide (RM.out.below hb2)
    have hb3 := Below.next hb1 hb2
    clear hOq hOr hS
    go_wp2_with fail
    have HG1 := hide (HG.out _ _ _ R RR.out RM.out)
    rw [HGz.out R lr er'] at HG1
    refine HG1.out.mono ?_; rintro e w4 ⟨vg, G, rfl, RG, hge, hb4⟩
    have hgc := HGc.out R G lr er' hge
    obtain ⟨xg, yg, rfl, _⟩ := RG.spell
    have RR := hide (RR.out.below hb4)
    have RM := hide (RM.out.below hb4)
    have hb5 := Below.next hb3 hb4
    clear HG1 RG
    by_cases hgl : G.length = 1
    · have bg : ((G.length : Int) != 1) = false := by rw [hgl]; rfl
      go_wp2_with fail
      have HP1 := hide (HPa.out _ _ _ R RM.out RR.out)
      rw [HPz.out R lr er'] at HP1
      refine HP1.out.mono ?_; rintro e w6 ⟨d0, d1, d2, B, rfl, RB, hpt, hb6⟩
      obtain ⟨A, c, hv, hx, hc, hc0⟩ := HRow.out R G B lr er' hgc hgl hpt
      have RM := hide (RM.out.below hb6)
      have hb7 := Below.next hb5 hb6
      obtain ⟨x4, y4, rfl, hy4⟩ := RB.1.spell
      obtain ⟨x6, y6, rfl, _⟩ := RB.2.2.spell
      obtain ⟨b, off, rfl, hbl, hcl⟩ : ∃ b o, x4 = some ⟨b, o, none⟩ ∧ b < w6.heap.size ∧ w6.cell? ⟨b, o, none⟩ = some (.int .u64 c) := by
        have h3 := RB.1
        rw [hx] at h3
        obtain ⟨⟨a, cc, he, _, _, hcc⟩, _⟩ := h3
        cases he
        obtain ⟨b, o, h3, h4, h5⟩ := hcc (by simp)
        exact ⟨b, o, h3, h4, h5 0 (by simp)⟩
      have HCell : Hid (∀ W, Below w6.heap.size w6 W → W.cell? ⟨b, off, none⟩ = some (.int .u64 c)) := fun W hb => (hb.cell (p := ⟨b, off, none⟩) hbl).trans hcl
      have HRv := hide RB.2.2
      have e : B.x.length = 1 := by rw [hx]; rfl
      rw [e]
      rw [e] at hy4
      clear RB HP1 hcl
      go_wp2_with fail
      have hb0 : Below w6.heap.size w6 w6.drew := drew_below w6
      have hS0 := HCell.out _ hb0
      go_region_held3 (fun w' => w'.cell? ⟨b, off, none⟩ = some (.int .u64 c)) (first | with_reducible exact hS3 | with_reducible exact hS0) (first
        | (go_at_call 36; refine (hP.out _).mono ?_; rintro e w1 ⟨rfl, hw⟩; rw [hw]; clear hw)
        | (go_at_call 35; refine (HTu.out _ c hc).mono ?_; rintro e w1 ⟨rfl, hw⟩; rw [hw]; clear hw)
        | (go_at_call 34; refine (HSc.out _ _ R A B c hv lr er' hc (HRv.out.below hb0)).mono ?_; rintro e w8 ⟨v', Z, rfl, RZ, tz, lz, ez, hb8⟩; have hB8 := Below.next hb0 hb8; have hS3 := HCell.out _ hB8; have HRZ := hide RZ; clear RZ))
      have RM := hide (RM.out.below hB8)
      have hb9 := Below.next hb7 hB8
      go_wp2_with fail
      have HD3 := hide (HD2.out _ _ _ Z HRZ.out RM.out)
      rw [HE2.out Z tz lz] at HD3
      refine HD3.out.mono ?_; rintro e w10 ⟨vq2, vr2, Q2, V, rfl, hS2, hOq, hOr, hb10⟩
      have HY := hide (HYes.out Q R A B c Z Q2 V hdv er' hv hx hc hc0 tz lz ez hS2)
      have HRV := hide (HY.out.2.row hOr)
      clear hOq hOr HD3
      go_wp2
      go_ret3
      exact ⟨_, V, _, rfl, HRV.out, HY.out.1, Below.next hb9 hb10⟩
    · have bg : ((G.length : Int) != 1) = true := bne_iff_ne.2 (by omega)
      have HZ := hide (HNo.out Q R G hdv hgc hgl)
      go_wp2
      go_ret3
      exact ⟨_, _, _, rfl, rw0 _, HZ.out, hb5⟩
  · have ht : (chE f a m != 0) = true := bne_iff_ne.2 he
    have hE : moE f a m = chE f a m := by unfold moE; rw [if_neg he]
    have HP : Hid (MoE f a m [] false) := ⟨fun _ => ⟨rfl, rfl⟩, fun h0 => by rw [hE] at h0; exact absurd h0 he⟩
    rw [hE]
    clear h1 h2 he hE
    generalize chE f a m = e0 at *
    go_enter Try.func16, Try.ntmps16
    go_wp2_with (go_at_call 27; refine hk.out.mono ?_; rintro e w1 ⟨rfl, hw⟩; rw [hw]; clear hw)
    go_ret3
    exact ⟨_, _, _, rfl, rw0 _, HP.out, Below.refl _ _⟩

end Go.Proofs.Ytdgcnockccjdjaa
