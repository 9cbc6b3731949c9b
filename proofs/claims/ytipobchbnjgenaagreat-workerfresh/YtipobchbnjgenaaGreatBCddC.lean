import Derived.Test.YtipobchbnjgenaaGreatBCddB
import Derived.Test.YtipobchbnjgenaaGreatBCdcG
set_option linter.unusedVariables false
set_option linter.unusedSimpArgs false
set_option maxRecDepth 100000
set_option maxHeartbeats 4000000
namespace Go.Proofs.YtipobchbnjgenaaGreat
open Go.RowKit Fld
theorem rb_cut {w : World} {v : Value} {bs : List Int} (h : Rb w v bs) (i n : Nat) (hn : 0 < n) (hl : i + n <= bs.length) : ∃ b o c, Rb w (.slice (some ⟨b, o, none⟩) n c) ((bs.drop i).take n) ∧ ∀ W : World, (Instr.slice 30 v (some (.int .i64 (i : Int))) (some (.int .i64 ((i + n : Nat) : Int))) none).run Tryz.prog W = .ok (.slice (some ⟨b, o, none⟩) n c) W := by
 obtain ⟨i0, hi0, hz0, hz1, hz2⟩ := info_parts b8_info
 obtain ⟨b, off, cap, rfl, hcap, _⟩ := h.form (by omega)
 refine ⟨b, off + i, cap - i, h.cut hl (by omega), fun W => ?_⟩
 have ea : (⟨b, off, none⟩ : Addr).add i = ⟨b, off + i, none⟩ := by unfold Addr.add; split <;> simp_all
 have h0 : (0 : Int) <= (i : Int) := by omega
 have h1 : (i : Int) <= ((i + n : Nat) : Int) := by omega
 have h2 : ((i + n : Nat) : Int) <= (cap : Int) := by omega
 have h3 : ¬ cap = i := by omega
 have h4 : i + n - i = n := by omega
 simp only [Instr.slice, Instr.sliceBounds, Instr.sliceBound]
 simp [asIntOf, run_underlying Tryz.underlying30, sizeOf, typeInfo, hi0, hz1, h0, h3, h4, ea, show ¬ cap < i + n by omega, show ¬ n < 0 by omega]
 rw [if_pos ⟨by omega, by omega⟩, if_pos (by omega), show ((i : Int) + (n : Int)).toNat - i = n by omega]
theorem doc_cuts {W : World} {p c L : Nat} {is : List Int} (h : Rb W (.slice (some ⟨p, 0, none⟩) L c) is) (h9 : 9 <= is.length) : ∃ a9 n9 c9 p1 o1 k1 p5 o5 k5,
 Rb W (.slice a9 n9 c9) (is.drop 9) ∧ Rb W (.slice (some ⟨p1, o1, none⟩) 4 k1) ((is.drop 1).take 4) ∧ Rb W (.slice (some ⟨p5, o5, none⟩) 4 k5) ((is.drop 5).take 4) ∧
 (∀ W' : World, (Instr.slice 30 (.slice (some ⟨p, 0, none⟩) L c) (some (.int .i64 9)) none none).run Tryz.prog W' = .ok (.slice a9 n9 c9) W') ∧
 (∀ W' : World, (Instr.slice 30 (.slice (some ⟨p, 0, none⟩) L c) (some (.int .i64 1)) (some (.int .i64 5)) none).run Tryz.prog W' = .ok (.slice (some ⟨p1, o1, none⟩) 4 k1) W') ∧
 (∀ W' : World, (Instr.slice 30 (.slice (some ⟨p, 0, none⟩) L c) (some (.int .i64 5)) (some (.int .i64 9)) none).run Tryz.prog W' = .ok (.slice (some ⟨p5, o5, none⟩) 4 k5) W') := by
 obtain ⟨v9, hv9, hs9⟩ := byte_from (p := p) (k := 9) ⟨h, fun _ => ⟨_, _, _, rfl⟩⟩ h9
 obtain ⟨p1, o1, k1, hc1, hs1⟩ := rb_cut h 1 4 (by decide) (by omega)
 obtain ⟨p5, o5, k5, hc5, hs5⟩ := rb_cut h 5 4 (by decide) (by omega)
 obtain ⟨a9, c9, e9, _⟩ := hv9.1.spell
 subst e9
 exact ⟨_, _, _, p1, o1, k1, p5, o5, k5, hv9.1, hc1, hc5, hs9, hs1, hs5⟩
def miR (is : List Int) : Mg := ⟨is.getD 0 0, tk8 ((is.drop 1).take 4), tk8 ((is.drop 5).take 4), rlFo (is.drop 9), rlLo (is.drop 9)⟩
theorem miR_wd {is : List Int} (hb : By is) : Mgd (miR is) := by
 obtain ⟨a, b, c, d⟩ := mi_wd hb
 refine ⟨a, b, c, ?_⟩
 show 0 <= rlFo (is.drop 9) ∧ rlFo (is.drop 9) <= 255
 unfold rlFo
 by_cases h : rlE (is.drop 9) = 0
 · rw [if_pos h]; exact d
 · rw [if_neg h]; exact ⟨by decide, by decide⟩
theorem mb_zero {w : World} {b : Nat} {m : Mg} {s : Value} (h : Mb w b m s) : Mb (set5m w b 0 0 0 0 (.slice none 0 0)) b mg0 (.slice none 0 0) ∧ Below b w (set5m w b 0 0 0 0 (.slice none 0 0)) := mb_set5 h mg0 (.slice none 0 0)
theorem mw_by {m : Mg} : By (mwL sum8 m) ∧ (mwL sum8 m).length <= 140737488500000 := by
 unfold mwL
 cases h : mgM m with
 | true => rw [if_pos rfl]; exact ⟨slF_by _ (mgI_by h), by rw [slF_len]; have := mgI_len h; omega⟩
 | false => rw [if_neg (by decide)]; exact ⟨By.nil, by simp⟩
theorem mwE_zero {m : Mg} (h : mwE m = 0) : mgM m = true ∧ mwL sum8 m = slF sum8 (mgI m) := by
 cases hm : mgM m with
 | true => exact ⟨rfl, by unfold mwL; rw [if_pos hm]⟩
 | false => unfold mwE at h; rw [hm] at h; cases h
theorem miR_miM {is : List Int} (h : rlE (is.drop 9) = 0) : miR is = miM is := by
 unfold miR miM
 rw [(rl_yes h).1, (rl_yes h).2.1]
theorem doc_yes {bs : List Int} (hb : By bs) (hu : usE sum8 bs = 0) (hn : 12 + usN bs = bs.length) (h9 : 9 <= (usL sum8 bs).length) (hl : rlE ((usL sum8 bs).drop 9) = 0) (hg : mwE (miR (usL sum8 bs)) = 0) (hz : mwL sum8 (miR (usL sum8 bs)) = bs) : mrE sum8 bs = 0 ∧ mrM sum8 bs = miR (usL sum8 bs) := by
 obtain ⟨hm, hw⟩ := mwE_zero hg
 rw [hw] at hz
 rw [miR_miM hl] at hm hz ⊢
 exact mr_good hu hn (by rw [miK_again sum8_bd hb hu hn h9 hl hm]; exact decide_eq_true hz)
theorem doc_no {bs : List Int} (hb : By bs) (hu : usE sum8 bs = 0) (hn : 12 + usN bs = bs.length) (h9 : 9 <= (usL sum8 bs).length) (h : rlE ((usL sum8 bs).drop 9) ≠ 0 ∨ mwE (miR (usL sum8 bs)) ≠ 0 ∨ mwL sum8 (miR (usL sum8 bs)) ≠ bs) : mrE sum8 bs = 8 ∧ mrM sum8 bs = mg0 := by
 have key : miK (usL sum8 bs) = false := by
  cases hk : miK (usL sum8 bs) with
  | false => rfl
  | true =>
   obtain ⟨_, k2, k3, k4⟩ := miK_facts hk
   have hR := miR_miM k2
   rcases h with h | h | h
   · exact absurd k2 h
   · rw [hR] at h; unfold mwE at h; rw [if_pos k3] at h; exact absurd rfl h
   · rw [hR] at h; unfold mwL at h; rw [if_pos k3] at h
     have := miK_again sum8_bd hb hu hn h9 k2 k3
     rw [hk] at this
     exact absurd (of_decide_eq_true this.symm) h
 have e := mr_bad hu (.inr key)
 exact ⟨e, mrM_no (by omega)⟩
theorem dRead_x (v : Value) (bs : List Int) (w : World) (h : Rb w v bs) (is : List Int) (hu : usE sum8 bs = 0) (hn : 12 + usN bs = bs.length) (his : usL sum8 bs = is) (h9 : 9 <= is.length) :
 GivesMsg 30 #[v] w (mrM sum8 bs) (mrE sum8 bs) := by
 unfold GivesMsg
 obtain ⟨hM0, hB0⟩ := mz_box w
 have HU := hide (rUnseal v bs _ (h.below hB0))
 unfold GivesU at HU
 have hYo := usL_ok h.by
 rw [hu, (us_yes hu).2, hn, his] at HU
 rw [his] at hYo
 have HY := hide hYo.1
 have HYl := hide (show is.length <= 140737488500000 by have := hYo.2; omega)
 have h0 := h
 obtain ⟨ao, cap, rfl, _⟩ := h0.spell
 clear h0
 have HR9 := hide (fun W u (hr : Rb W u (is.drop 9)) => rReadList u _ W hr)
 unfold GivesR8 at HR9
 have HT := hide (fun W u (hr : Rb W u ((is.drop 1).take 4)) => rTaken u _ W hr (by rw [List.length_take]; omega))
 have HT5 := hide (fun W u (hr : Rb W u ((is.drop 5).take 4)) => rTaken u _ W hr (by rw [List.length_take]; omega))
 have t1 := tk8_bd ((hYo.1.drop 1).take 4)
 have t5 := tk8_bd ((hYo.1.drop 5).take 4)
 rw [List.length_take, List.length_drop, Nat.min_eq_left (by omega), show (256 : Int) ^ 4 = 4294967296 by decide] at t1 t5
 have wr0 : IntKind.i64.wrap (tk8 ((is.drop 1).take 4)) = tk8 ((is.drop 1).take 4) := by rw [IntKind.wrap_i64]; omega
 have wv0 : IntKind.i64.wrap (tk8 ((is.drop 5).take 4)) = tk8 ((is.drop 5).take 4) := by rw [IntKind.wrap_i64]; omega
 have HW := hide (fun W s (hm : Mw W (miR is) s) => dWriteM (miR is) s W hm)
 unfold GivesB at HW
 have HYes := hide (doc_yes h.by hu hn (by rw [his]; exact h9))
 have HNo := hide (doc_no h.by hu hn (by rw [his]; exact h9))
 rw [his] at HYes HNo
 have HZ := hide (mw_by (m := miR is))
 have HRb := hide (fun W (hb : Below w.heap.size w W) => h.below hb)
 obtain ⟨k, HK⟩ : ∃ k, Hid (is.getD 0 0 = k) := ⟨_, rfl⟩
 have HD := hide (fun (W : World) (p c : Nat) (hr : Rb W (.slice (some ⟨p, 0, none⟩) is.length c) is) => doc_cuts hr h9)
 have HB := hide (fun (W : World) (p c : Nat) (hr : Rb W (.slice (some ⟨p, 0, none⟩) is.length c) is) => (hr.at_ (k := 0) (by omega)).2.1)
 rw [HK.out] at HB
 have HL : Hid (0 < is.length) := Nat.lt_of_lt_of_le (by decide) h9
 have i9 : (9 : Int) <= (is.length : Int) := by omega
 have hmR : miR is = ⟨k, tk8 ((is.drop 1).take 4), tk8 ((is.drop 5).take 4), rlFo (is.drop 9), rlLo (is.drop 9)⟩ := by unfold miR; rw [HK.out]
 have HMw : Hid (∀ (W : World) base x, W.ownsRow base 83 1 x (rlLo (is.drop 9)).length (vals (rlLo (is.drop 9))) -> Mw W (miR is) x) := fun W base x ho => ⟨miR_wd hYo.1, rlLo_row (hYo.1.drop 9) ho⟩
 generalize mrM sum8 bs = M at *
 generalize mrE sum8 bs = E at *
 rw [hmR] at HMw HW HYes HNo HZ
 clear hYo h hmR h9 hu hn his
 obtain ⟨L, HLe⟩ : ∃ L, Hid (is.length = L) := ⟨_, rfl⟩
 rw [HLe.out] at HU HD HB HL i9 HYl
 generalize rlFo (is.drop 9) = f at *
 generalize rlLo (is.drop 9) = xs at *
 generalize rlSo (is.drop 9) = so at *
 generalize rlE (is.drop 9) = le at *
 generalize is.drop 9 = R9 at *
 generalize (is.drop 1).take 4 = R1 at *
 generalize (is.drop 5).take 4 = R5 at *
 generalize tk8 R1 = r at *
 generalize tk8 R5 = v at *
 generalize mwE ⟨k, r, v, f, xs⟩ = g at *
 generalize mwL sum8 ⟨k, r, v, f, xs⟩ = zs at *
 go_enter Tryz.func30, Tryz.ntmps30
 go_upto_region 7 with (first
  | (go_at_call 62; refine HU.out.mono ?_; rintro e w1 ⟨v1, rfl, ho1, hb1⟩; obtain ⟨p, c1, hv1, hp0, _⟩ := ho1.form HL.out; subst hv1; have hpl : p < w1.heap.size := own_top ho1 p rfl; have hr1 := rb_of_own ho1 HY.out (by rw [HLe.out]; exact HYl.out); obtain ⟨a9, n9, c9, p1, o1, k1, p5, o5, k5, hv9, hv1, hv5, hs9, hs1, hs5⟩ := HD.out _ _ _ hr1)
  | (go_at_call 63; refine (HR9.out _ _ hv9).mono ?_; rintro e w2 ⟨v2, rfl, ho2, hb2⟩; obtain ⟨a2, c2, hv2⟩ := own_form ho2; subst hv2))
 have HB2 := Below.next hB0 hb1
 have HBs := hide (Nat.lt_of_lt_of_le hM0.lt hb1.size)
 have HB2' := hide (HB2.trans (hb2.mono HB2.size))
 have HSd : Hid (∀ W, Below w2.heap.size w2 W -> W.cell? ⟨p, 0, none⟩ = some (.int .u8 k)) := fun W hb => ((Below.next hb2 hb).cell (p := ⟨p, 0, none⟩) hpl).trans (by have := HB.out _ _ _ hr1; rw [Nat.add_zero] at this; exact this)
 have HT1 := hide (fun W (hb : Below w2.heap.size w2 W) => HT.out W _ (hv1.below (Below.next hb2 hb)))
 have HT2 := hide (fun W (hb : Below w2.heap.size w2 W) => HT5.out W _ (hv5.below (Below.next hb2 hb)))
 have HO2 := hide ho2
 have HM2 : Hid (∀ W, Below w2.heap.size w2 W -> Mb W w.heap.size mg0 (.slice none 0 0)) := fun W hb => (((hM0.below hb1).below hb2).below hb)
 have i0 : (0 : Int) < (L : Int) := by omega
 have i1 : ¬ L = 0 := by omega
 have i2 : 0 < L := HL.out
 clear HT HT5 HD HB hr1 hv9 hv1 hv5 hs9 HU HR9 hb1 hb2 ho1 hpl ho2 HB2 hp0
 go_cut [10] from 41 to 54 (fun v10 wx => v10 = .pointer (some ⟨w2.heap.size, 0, none⟩) ∧ Mb wx w2.heap.size ⟨k, r, v, f, xs⟩ (.slice a2 xs.length c2) ∧ Below w2.heap.size w2 wx)
 case first =>
  have hq0 := hide (Below.refl w2.heap.size w2).drew
  have hq1 := hide (alloc_below w2 (.cells #[.int .u8 0, .int .i64 0, .int .i64 0, .int .u8 0, .slice none 0 0] 74)).drew
  have hS0 := HSd.out _ hq0.out
  have hS1 := HSd.out _ hq1.out
  have hq2 := hide (alloc_below w2 (.cells #[.int .u8 k, .int .i64 r, .int .i64 v, .int .u8 f, .slice a2 xs.length c2] 74)).drew
  have hS2 := HSd.out _ hq2.out
  go_region_held3 (fun W' => W'.cell? ⟨p, 0, none⟩ = some (.int .u8 k)) (first | with_reducible exact hS2 | with_reducible exact hS1 | with_reducible exact hS0) (first
   | (go_at_call_of 64 (Value.slice (some ⟨p1, o1, none⟩) 4 k1); (first | refine (HT1.out _ hq0.out).mono ?_ | refine (HT1.out _ hq1.out).mono ?_); rintro e w4 ⟨rfl, hw4⟩; rw [hw4]; clear hw4 w4)
   | (go_at_call_of 64 (Value.slice (some ⟨p5, o5, none⟩) 4 k5); (first | refine (HT2.out _ hq0.out).mono ?_ | refine (HT2.out _ hq1.out).mono ?_); rintro e w4 ⟨rfl, hw4⟩; rw [hw4]; clear hw4 w4))
  all_goals
   go_wp2_with fail
   go_meet
   exact ⟨rfl, mb_new w2 ⟨k, r, v, f, xs⟩ _, hq2.out⟩
 case rest =>
  obtain ⟨rfl, hMx, hBx⟩ := hcut
  have hmw := HMw.out _ _ _ (own_below HO2.out hBx)
  obtain ⟨x0, x1, x2, x3, x4⟩ := hMx.cells
  have HMx := hide (fun W (hb : Below wc.heap.size wc W) => hMx.below hb)
  have HBc := hide (HB2'.out.trans (hBx.mono HB2'.out.size))
  have HMr := hide (fun W (hb : Below wc.heap.size wc W) => HM2.out W (Below.next hBx hb))
  clear HT1 HT2 HSd HM2 HMw hMx
  by_cases hle : le = 0
  · subst hle
    by_cases hg : g = 0
    · subst hg
      by_cases hz : zs = bs
      · obtain ⟨rfl, rfl⟩ := HYes.out rfl rfl hz
        have HS := hide (fun W u (hr : Rb W u zs) (hb : Below w.heap.size w W) => rSame8 u _ _ _ W hr (HRb.out W hb))
        rw [decide_eq_true hz] at HS
        clear HYes HNo hz
        go_wp2_with (first
         | (go_at_call 35; refine (HW.out _ _ hmw).mono ?_; rintro e w5 ⟨v5, rfl, ho5, hb5⟩; have hB5 := Below.next HBc.out hb5; have hr5 := rb_of_own ho5 HZ.out.1 HZ.out.2; obtain ⟨a5, c5, hv5⟩ := own_form ho5; subst hv5; have hX5 := HMx.out _ hb5; have hR5 := HMr.out _ hb5; obtain ⟨y0, y1, y2, y3, y4⟩ := hX5.cells; obtain ⟨z0, z1, z2, z3, z4⟩ := hR5.cells; have q := hR5.free)
         | (go_at_call 13; refine (HS.out _ _ hr5 hB5).mono ?_; rintro e w6 ⟨rfl, hw6⟩; rw [hw6]; clear hw6 w6))
        have hX6 := mb_set5 hR5 ⟨k, r, v, f, xs⟩ (.slice a2 xs.length c2)
        unfold set5m at hX6
        refine bodyPost_ret (res_ct rfl rfl rfl (load_msg hX6.1)) rfl ?_
        have hs := HBs.out
        have hO6 := rg_own (rg_own (rg_own (rg_own (rg_own (own_below (own_below HO2.out hBx) hb5) hs 0 (.int .u8 k)) hs 1 (.int .i64 r)) hs 2 (.int .i64 v)) hs 3 (.int .u8 f)) hs 4 (.slice a2 xs.length c2)
        exact ⟨_, rfl, own_mono hO6 (Nat.le_of_lt hs), hB5.trans hX6.2⟩
      · obtain ⟨rfl, rfl⟩ := HNo.out (.inr (.inr hz))
        have HS := hide (fun W u (hr : Rb W u zs) (hb : Below w.heap.size w W) => rSame8 u _ _ _ W hr (HRb.out W hb))
        rw [decide_eq_false hz] at HS
        clear HYes HNo hz
        go_wp2_with (first
         | (go_at_call 35; refine (HW.out _ _ hmw).mono ?_; rintro e w5 ⟨v5, rfl, ho5, hb5⟩; have hB5 := Below.next HBc.out hb5; have hr5 := rb_of_own ho5 HZ.out.1 HZ.out.2; obtain ⟨a5, c5, hv5⟩ := own_form ho5; subst hv5; have hX5 := HMx.out _ hb5; have hR5 := HMr.out _ hb5; obtain ⟨y0, y1, y2, y3, y4⟩ := hX5.cells; obtain ⟨z0, z1, z2, z3, z4⟩ := hR5.cells; have q := hR5.free)
         | (go_at_call 13; refine (HS.out _ _ hr5 hB5).mono ?_; rintro e w6 ⟨rfl, hw6⟩; rw [hw6]; clear hw6 w6))
        have hX6 := mb_zero hR5
        unfold set5m at hX6
        refine bodyPost_ret (res_ct rfl rfl rfl (load_msg hX6.1)) rfl ?_
        exact ⟨_, rfl, World.ownsRow_nil _ _ _ _, hB5.trans hX6.2⟩
    · obtain ⟨rfl, rfl⟩ := HNo.out (.inr (.inl hg))
      have hg' : (g != 0) = true := bne_iff_ne.2 hg
      clear HYes HNo hg
      go_wp2_with (first
       | (go_at_call 35; refine (HW.out _ _ hmw).mono ?_; rintro e w5 ⟨v5, rfl, ho5, hb5⟩; have hB5 := Below.next HBc.out hb5; have hr5 := rb_of_own ho5 HZ.out.1 HZ.out.2; obtain ⟨a5, c5, hv5⟩ := own_form ho5; subst hv5; have hX5 := HMx.out _ hb5; have hR5 := HMr.out _ hb5; obtain ⟨y0, y1, y2, y3, y4⟩ := hX5.cells; obtain ⟨z0, z1, z2, z3, z4⟩ := hR5.cells; have q := hR5.free))
      have hX6 := mb_zero hR5
      unfold set5m at hX6
      refine bodyPost_ret (res_ct rfl rfl rfl (load_msg hX6.1)) rfl ?_
      exact ⟨_, rfl, World.ownsRow_nil _ _ _ _, hB5.trans hX6.2⟩
  · obtain ⟨rfl, rfl⟩ := HNo.out (.inl hle)
    have hl' : (le != 0) = true := bne_iff_ne.2 hle
    clear HYes HNo hle
    go_wp2_with (first
     | (go_at_call 35; refine (HW.out _ _ hmw).mono ?_; rintro e w5 ⟨v5, rfl, ho5, hb5⟩; have hB5 := Below.next HBc.out hb5; have hr5 := rb_of_own ho5 HZ.out.1 HZ.out.2; obtain ⟨a5, c5, hv5⟩ := own_form ho5; subst hv5; have hX5 := HMx.out _ hb5; have hR5 := HMr.out _ hb5; obtain ⟨y0, y1, y2, y3, y4⟩ := hX5.cells; obtain ⟨z0, z1, z2, z3, z4⟩ := hR5.cells; have q := hR5.free))
    have hX6 := mb_zero hR5
    unfold set5m at hX6
    refine bodyPost_ret (res_ct rfl rfl rfl (load_msg hX6.1)) rfl ?_
    exact ⟨_, rfl, World.ownsRow_nil _ _ _ _, hB5.trans hX6.2⟩
theorem GivesMsg.of {N : Nat} {args : Array Value} {w : World} {m n : Mg} {a b : Int} (h : GivesMsg N args w m a) (hm : m = n) (ha : a = b) : GivesMsg N args w n b := by subst hm ha; exact h
theorem dRead_a (v : Value) (bs : List Int) (w : World) (h : Rb w v bs) (hu : usE sum8 bs ≠ 0) : GivesMsg 30 #[v] w mg0 (usE sum8 bs) := by
 unfold GivesMsg
 obtain ⟨hM0, hB0⟩ := mz_box w
 have HU := hide (rUnseal v bs _ (h.below hB0))
 unfold GivesU at HU
 have hu' : (usE sum8 bs != 0) = true := bne_iff_ne.2 hu
 obtain ⟨ao, cap, rfl, _⟩ := h.spell
 clear h hu
 generalize usE sum8 bs = ee at *
 generalize usSo sum8 bs = so at *
 generalize usL sum8 bs = is at *
 go_enter Tryz.func30, Tryz.ntmps30
 go_wp2_with (go_at_call 62; refine HU.out.mono ?_; rintro e w1 ⟨v1, rfl, ho1, hb1⟩; obtain ⟨a1, c1, hv1⟩ := own_form ho1; subst hv1; have hR5 := hM0.below hb1; obtain ⟨z0, z1, z2, z3, z4⟩ := hR5.cells; have q := hR5.free; have hB5 := Below.next hB0 hb1)
 have hX6 := mb_zero hR5
 unfold set5m at hX6
 refine bodyPost_ret (res_ct rfl rfl rfl (load_msg hX6.1)) rfl ?_
 exact ⟨_, rfl, World.ownsRow_nil _ _ _ _, hB5.trans hX6.2⟩
theorem dRead_b (v : Value) (bs : List Int) (w : World) (h : Rb w v bs) (hu : usE sum8 bs = 0) (hn : 12 + usN bs ≠ bs.length ∨ (12 + usN bs = bs.length ∧ (usL sum8 bs).length < 9)) : GivesMsg 30 #[v] w mg0 8 := by
 unfold GivesMsg
 obtain ⟨hM0, hB0⟩ := mz_box w
 have HU := hide (rUnseal v bs _ (h.below hB0))
 unfold GivesU at HU
 rw [hu, (us_yes hu).2] at HU
 obtain ⟨ao, cap, rfl, _⟩ := h.spell
 clear h hu
 generalize usL sum8 bs = is at *
 generalize 12 + usN bs = so at *
 rcases hn with hn | ⟨rfl, hn⟩
 · have hn' : ((so : Int) != (bs.length : Int)) = true := bne_iff_ne.2 (by omega)
   clear hn
   go_enter Tryz.func30, Tryz.ntmps30
   go_wp2_with (go_at_call 62; refine HU.out.mono ?_; rintro e w1 ⟨v1, rfl, ho1, hb1⟩; obtain ⟨a1, c1, hv1⟩ := own_form ho1; subst hv1; have hR5 := hM0.below hb1; obtain ⟨z0, z1, z2, z3, z4⟩ := hR5.cells; have q := hR5.free; have hB5 := Below.next hB0 hb1)
   have hX6 := mb_zero hR5
   unfold set5m at hX6
   refine bodyPost_ret (res_ct rfl rfl rfl (load_msg hX6.1)) rfl ?_
   exact ⟨_, rfl, World.ownsRow_nil _ _ _ _, hB5.trans hX6.2⟩
 · have hn' : (is.length : Int) < 9 := by omega
   clear hn
   generalize is.length = L at *
   go_enter Tryz.func30, Tryz.ntmps30
   go_wp2_with (go_at_call 62; refine HU.out.mono ?_; rintro e w1 ⟨v1, rfl, ho1, hb1⟩; obtain ⟨a1, c1, hv1⟩ := own_form ho1; subst hv1; have hR5 := hM0.below hb1; obtain ⟨z0, z1, z2, z3, z4⟩ := hR5.cells; have q := hR5.free; have hB5 := Below.next hB0 hb1)
   have hX6 := mb_zero hR5
   unfold set5m at hX6
   refine bodyPost_ret (res_ct rfl rfl rfl (load_msg hX6.1)) rfl ?_
   exact ⟨_, rfl, World.ownsRow_nil _ _ _ _, hB5.trans hX6.2⟩
theorem dReadM (v : Value) (bs : List Int) (w : World) (h : Rb w v bs) : GivesMsg 30 #[v] w (mrM sum8 bs) (mrE sum8 bs) := by
 by_cases hu : usE sum8 bs = 0
 · by_cases hn : 12 + usN bs = bs.length
   · by_cases h9 : 9 <= (usL sum8 bs).length
     · exact dRead_x v bs w h _ hu hn rfl h9
     · have e := mr_bad hu (.inr (show miK (usL sum8 bs) = false from decide_eq_false (fun h => h9 h.1)))
       exact (dRead_b v bs w h hu (.inr ⟨hn, by omega⟩)).of (mrM_no (by omega)).symm e.symm
   · have e := mr_bad hu (.inl hn)
     exact (dRead_b v bs w h hu (.inl hn)).of (mrM_no (by omega)).symm e.symm
 · have e := mr_unseal hu
   exact (dRead_a v bs w h hu).of (mrM_no (by omega)).symm e.symm
theorem mw_own {W : World} {base : Nat} {x : Value} {m : Mg} (hm : Mgd m) (hw : ∀ a ∈ m.l, 0 <= a ∧ a <= 18446744073709551615) (hl : m.l.length <= 4096) (ho : W.ownsRow base 83 1 x m.l.length (vals m.l)) : Mw W m x := ⟨hm, row_of_own ho rfl (by omega) hw⟩
theorem mg0_own {W : World} {base : Nat} {x : Value} (ho : W.ownsRow base 83 1 x mg0.l.length (vals mg0.l)) : Mw W mg0 x := mw_own ⟨by decide, by decide, by decide, by decide⟩ (by intro a ha; cases ha) (by decide) ho
theorem mrM_own {W : World} {base : Nat} {x : Value} {bs : List Int} (hb : By bs) (ho : W.ownsRow base 83 1 x (mrM sum8 bs).l.length (vals (mrM sum8 bs).l)) : Mw W (mrM sum8 bs) x := by
 by_cases h : mrE sum8 bs = 0
 · have e : mrM sum8 bs = miM (usL sum8 bs) := by unfold mrM; rw [if_pos h]
   obtain ⟨_, _, hk⟩ := mrE_zero h
   have hY := (usL_ok hb).1
   rw [e] at ho ⊢
   exact ⟨mi_wd hY, mi_row hY (miK_facts hk).2.1 ho⟩
 · rw [mrM_no h] at ho ⊢
   exact mg0_own ho
end Go.Proofs.YtipobchbnjgenaaGreat
