import Derived.Test.YtaikhiodpieghaaBWirL
set_option linter.unusedVariables false
set_option linter.unusedSimpArgs false
set_option maxRecDepth 100000
set_option maxHeartbeats 4000000
namespace Go.Proofs.Ytaikhiodpieghaa
open Go.RowKit Fld
theorem rBytes (v : Value) (bs : List Int) (w : World) (h : Rb w v bs) (hl : bs.length <= 140737488351232) :
 Calls Try.prog 46 #[v] w fun e w' => ∃ v', e = .returned v' ∧ w'.ownsRow w.heap.size 5 1 v' bs.length (valb bs) ∧ Below w.heap.size w w' := by
 obtain ⟨i0, hi0, hz0, hz1, hz2⟩ := info_parts u8_info
 have hown : (w.alloc (.cells #[] 5)).ownsRow w.heap.size 5 1 (.slice (some ⟨w.heap.size, 0, none⟩) 0 0) 0 (valb []) := own_empty w 5
 have hB := alloc_below w (.cells #[] 5)
 obtain ⟨ao, cap, rfl, _⟩ := h.spell
 cases ao with
 | none =>
  obtain ⟨hn0, hc0, hb0⟩ := h.none_
  subst hb0 hc0
  clear h hn0 hl
  go_enter Try.func46, Try.ntmps46
  go_wp2
  go_ret
  exact ⟨_, rfl, hown, hB⟩
 | some ad =>
  have HN := hide (h.news_alloc (.cells #[] 5))
  have HL : Hid ((valb bs).length = bs.length * 1) := by show _ = _; rw [valb_length, Nat.mul_one]
  have HV1 := hide (valb_one bs)
  clear h
  go_enter Try.func46, Try.ntmps46
  go_wp2_with (at_builtin; refine wpList_append_own _ rfl _ _ _ rfl w.heap.size 5 i0 _ 1 1 Try.underlying27 hi0 hz0 hz1 hz2 rfl (by omega) _ 0 (valb []) rfl hown ad bs.length cap (valb bs) rfl HL.out HN.out HV1.out (by unfold maxLen; omega) (by omega) (by simp) ?_; intro v' w1 hown1 hgrow _)
  go_ret
  exact ⟨_, rfl, by simpa [valb] using hown1, hB.grown hgrow (by simp) (fun k hk => by cases hk; exact Nat.le_refl _)⟩
theorem rSeal (v : Value) (bs : List Int) (w : World) (h : Rb w v bs) : GivesB 21 #[v] w (slE bs) (slL sum8 bs) := by
 unfold GivesB
 rcases slE_or bs with ⟨hl, e1, e2⟩ | ⟨hl, e1, e2⟩
 · rw [e1, e2]
   obtain ⟨ao, cap, rfl, _⟩ := h.spell
   clear h e1 e2
   go_enter Try.func21, Try.ntmps21
   go_wp2
   go_ret2
   exact ⟨_, rfl, World.ownsRow_nil _ _ _ _, Below.refl _ _⟩
 · rw [e1, e2, slF_len]
   clear e1 e2
   obtain ⟨i0, hi0, hz0, hz1, hz2⟩ := info_parts u8_info
   have hy := h.by
   have HR := hide h
   obtain ⟨ao, cap, rfl, _⟩ := h.spell
   have HH : Hid (wd8 (bs.length : Int) 4 ++ bs = hd8 bs) := rfl
   have HF : Hid (hd8 bs ++ wd8 (sum8 (hd8 bs)) 8 = slF sum8 bs) := rfl
   have HHb := hide (hd8_by hy)
   have HHl := hide (hd8_len bs)
   have hsb := sum8_bd (hd8 bs)
   obtain ⟨hd, HD⟩ : ∃ hd, Hid (hd8 bs = hd) := ⟨_, rfl⟩
   obtain ⟨zs, HZ⟩ : ∃ zs, Hid (slF sum8 bs = zs) := ⟨_, rfl⟩
   rw [HD.out] at HH HF HHb HHl hsb
   rw [HZ.out] at HF ⊢
   clear h hy HD HZ
   have HA : Hid (valb (wd8 (bs.length : Int) 4) ++ valb bs = valb hd) := by show _ = _; rw [valb_app, HH.out]
   have HG : Hid (valb hd ++ valb (wd8 (sum8 hd) 8) = valb zs) := by show _ = _; rw [valb_app, HF.out]
   have HW8 : Hid ((valb (wd8 (sum8 hd) 8)).length = 8 * 1) := by show _ = _; rw [valb_length, wd8_len]
   have HW1 := hide (valb_one (wd8 (sum8 hd) 8))
   have HWb := hide (wd8_by (sum8 hd) 8)
   have HWl := hide (wd8_len (sum8 hd) 8)
   obtain ⟨n, HN⟩ : ∃ n, Hid (bs.length = n) := ⟨_, rfl⟩
   rw [HN.out] at hl HR HA HHl ⊢
   cases ao with
   | none =>
    obtain ⟨hn0, hc0, hb0⟩ := HR.out.none_
    subst hn0 hc0 hb0
    have HA2 : Hid (valb (wd8 (0 : Nat) 4) = valb hd) := by show _ = _; have := HA.out; simpa [valb] using this
    go_enter Try.func21, Try.ntmps21
    go_wp2_with (first
     | (at_builtin; refine wpList_append_own _ rfl _ _ _ rfl w.heap.size 5 i0 _ 1 1 Try.underlying27 hi0 hz0 hz1 hz2 rfl (by omega) _ 4 _ rfl (own_below ho5 hb7) ⟨g7, 0, none⟩ 8 c7 (valb (wd8 (sum8 hd) 8)) rfl HW8.out hr7.news HW1.out (by unfold maxLen; omega) (by omega) (by have := hB7.size; omega) ?_; intro v8 w8 ho8 hg8 _; have hB8 := hB7.grown hg8 (by have := hB7.size; omega) (own_base ho5))
     | (at_builtin; refine wpList_append_own_none rfl _ _ _ rfl w.heap.size 5 i0 1 Try.underlying27 hi0 _ 4 _ rfl ho4 rfl ?_; have ho5 := ho4; rw [HA2.out] at ho5; have hr5 := rb_of_own ho5 HHb.out (by rw [HHl.out]; omega))
     | (go_at_call 37; refine (rSum _ hd w4 hr5).mono ?_; rintro e w6 ⟨rfl, hw6⟩; subst hw6)
     | (go_at_call 19; refine (rWide 8 (sum8 hd) w6 hsb (by decide)).mono ?_; rintro e w7 ⟨v7, rfl, ho7, hb7⟩; have hr7 := rb_of_own ho7 HWb.out (by rw [HWl.out]; omega); obtain ⟨g7, c7, hv7, _⟩ := ho7.form (by omega); subst hv7; have hB7 := Below.next hB4 hb7)
     | (go_at_call 19; refine (rWide 4 ((0 : Nat) : Int) w ⟨by omega, by omega⟩ (by decide)).mono ?_; rintro e w4 ⟨v4, rfl, ho4, hB4⟩; obtain ⟨a4, c4, hv4⟩ := own_form ho4; subst hv4))
    go_ret2
    rw [HG.out] at ho8
    exact ⟨_, rfl, ho8, hB8⟩
   | some ad =>
    have HV1 := hide (valb_one bs)
    have HVl : Hid ((valb bs).length = n * 1) := by show _ = _; rw [valb_length, HN.out, Nat.mul_one]
    go_enter Try.func21, Try.ntmps21
    go_wp2_with (first
     | (at_builtin; refine wpList_append_own _ rfl _ _ _ rfl w.heap.size 5 i0 _ 1 1 Try.underlying27 hi0 hz0 hz1 hz2 rfl (by omega) _ (4 + n) _ rfl (own_below ho5 hb7) ⟨g7, 0, none⟩ 8 c7 (valb (wd8 (sum8 hd) 8)) rfl HW8.out hr7.news HW1.out (by unfold maxLen; omega) (by omega) (by have := hB7.size; omega) ?_; intro v8 w8 ho8 hg8 _; have hB8 := hB7.grown hg8 (by have := hB7.size; omega) (own_base ho5))
     | (at_builtin; refine wpList_append_own _ rfl _ _ _ rfl w.heap.size 5 i0 _ 1 1 Try.underlying27 hi0 hz0 hz1 hz2 rfl (by omega) _ 4 _ rfl ho4 ad n cap (valb bs) rfl HVl.out (HR.out.below hB4).news HV1.out (by unfold maxLen; omega) (by omega) (by have := hB4.size; omega) ?_; intro v5 w5 ho5 hg5 _; have hB5 := hB4.grown hg5 (by have := hB4.size; omega) (own_base ho4); rw [HA.out] at ho5; have hr5 := rb_of_own ho5 HHb.out (by rw [HHl.out]; omega); obtain ⟨a5, c5, hv5⟩ := own_form ho5; subst hv5)
     | (go_at_call 37; refine (rSum _ hd w5 hr5).mono ?_; rintro e w6 ⟨rfl, hw6⟩; subst hw6)
     | (go_at_call 19; refine (rWide 8 (sum8 hd) w6 hsb (by decide)).mono ?_; rintro e w7 ⟨v7, rfl, ho7, hb7⟩; have hr7 := rb_of_own ho7 HWb.out (by rw [HWl.out]; omega); obtain ⟨g7, c7, hv7, _⟩ := ho7.form (by omega); subst hv7; have hB7 := Below.next hB5 hb7)
     | (go_at_call 19; refine (rWide 4 (n : Int) w ⟨by omega, by omega⟩ (by decide)).mono ?_; rintro e w4 ⟨v4, rfl, ho4, hB4⟩; obtain ⟨a4, c4, hv4⟩ := own_form ho4; subst hv4))
    go_ret2
    rw [HG.out] at ho8
    exact ⟨_, rfl, by have e : 4 + n + 8 = 12 + n := by omega
                      rw [e] at ho8; exact ho8, hB8⟩
theorem rUnseal (v : Value) (bs : List Int) (w : World) (h : Rb w v bs) : GivesU 27 #[v] w bs := by
 unfold GivesU
 have HC := hide (rReadCount v bs w h)
 have hy := h.by
 have hlen := h.len
 rcases us_cases sum8 bs with ⟨hc, he⟩ | ⟨hc, hn, he⟩ | ⟨hc, hn, hl, he⟩ | ⟨hc, hn, hl, hs, he⟩ | ⟨hc, hn, hl, hs, he⟩
 · obtain ⟨e1, e2⟩ := us_no he hc
   rw [he, e1, e2]
   rw [rcN_no' hc] at HC
   have hcc : rcE bs = 7 ∨ rcE bs = 8 := by have := rcE_or bs; omega
   obtain ⟨ao, cap, rfl, _⟩ := h.spell
   clear he e1 e2 hy hc h
   generalize rcS bs = sz at *
   rcases hcc with hcc | hcc
   all_goals
    rw [hcc] at HC ⊢
    clear hcc
    go_enter Try.func27, Try.ntmps27
    go_wp2_with (go_at_call 45; refine HC.out.mono ?_; rintro e w1 ⟨rfl, hw1⟩; subst hw1)
    go_quiet (fail)
    go_wp2
    go_ret3
    exact ⟨_, rfl, World.ownsRow_nil _ _ _ _, below_drewN (Below.refl _ _) nq⟩
 · obtain ⟨e1, e2⟩ := us_no he (by decide)
   rw [he, e1, e2]
   rw [rcN_usN hy hc, hc] at HC
   obtain ⟨ao, cap, rfl, _⟩ := h.spell
   have hn2 : (1048576 : Int) < ((usN bs : Nat) : Int) := by omega
   clear he e1 e2 hy hc h hn
   generalize ((usN bs : Nat) : Int) = n at *
   generalize rcS bs = sz at *
   go_enter Try.func27, Try.ntmps27
   go_wp2_with (go_at_call 45; refine HC.out.mono ?_; rintro e w1 ⟨rfl, hw1⟩; subst hw1)
   go_quiet (fail)
   go_wp2
   go_ret3
   exact ⟨_, rfl, World.ownsRow_nil _ _ _ _, below_drewN (Below.refl _ _) nq⟩
 · obtain ⟨e1, e2⟩ := us_no he (by decide)
   rw [he, e1, e2]
   rw [rcN_usN hy hc, hc] at HC
   obtain ⟨ao, cap, rfl, _⟩ := h.spell
   clear he e1 e2 hy hc h
   generalize usN bs = n at *
   generalize rcS bs = sz at *
   go_enter Try.func27, Try.ntmps27
   go_wp2_with (go_at_call 45; refine HC.out.mono ?_; rintro e w1 ⟨rfl, hw1⟩; subst hw1)
   go_quiet (fail)
   go_wp2
   go_ret3
   exact ⟨_, rfl, World.ownsRow_nil _ _ _ _, below_drewN (Below.refl _ _) nq⟩
 all_goals
  rw [rcN_usN hy hc, hc] at HC
  obtain ⟨b, off, cap, rfl, hcp, _⟩ := h.form (by omega)
  have HR := hide h
  have HT : Hid (∀ q, Calls Try.prog 29 #[.slice (some ⟨b, off + (4 + usN bs), none⟩) (12 + usN bs - (4 + usN bs)) (cap - (4 + usN bs))] (w.drewN q) fun e w' => e = .returned (.int .u64 (tk8 ((bs.drop (4 + usN bs)).take 8))) ∧ w' = w.drewN q) := fun q => by
   rw [show 12 + usN bs - (4 + usN bs) = 8 by omega]
   exact rTaken _ _ (w.drewN q) ((h.cut (o := 4 + usN bs) (n := 8) (c := cap - (4 + usN bs)) (by omega) (by omega)).below (below_drewN (Below.refl _ w) q)) (by rw [List.length_take]; omega)
  have HS := hide (fun q => rSum _ _ (w.drewN q) ((h.take (k := 4 + usN bs) (by omega)).below (below_drewN (Below.refl _ w) q)))
  have hll : ((bs.drop 4).take (usN bs)).length <= 140737488351232 := by rw [List.length_take]; omega
  have HB := hide (fun W (hb : Below w.heap.size w W) => rBytes _ _ W ((h.cut (o := 4) (n := usN bs) (c := cap - 4) (by omega) (by omega)).below hb) hll)
  have HLL : Hid (((bs.drop 4).take (usN bs)).length = usN bs) := by show _ = _; rw [List.length_take, List.length_drop]; omega
 · obtain ⟨e1, e2⟩ := us_no he (by decide)
   rw [he, e1, e2]
   clear he e1 e2 hy hc h HB HLL hll
   generalize usN bs = n at *
   generalize rcS bs = sz at *
   have hne : ¬ cap = 4 + n := by omega
   generalize tk8 ((bs.drop (4 + n)).take 8) = t at *
   generalize sum8 (bs.take (4 + n)) = s at *
   go_enter Try.func27, Try.ntmps27
   go_wp2_with (go_at_call 45; refine HC.out.mono ?_; rintro e w1 ⟨rfl, hw1⟩; subst hw1)
   go_quiet (first
    | (go_at_call 29; exact Calls.quiet_of_same (HT.out _))
    | (go_at_call 37; exact Calls.quiet_of_same (HS.out _)))
   go_wp2
   go_ret3
   exact ⟨_, rfl, World.ownsRow_nil _ _ _ _, below_drewN (Below.refl _ _) nq⟩
 · obtain ⟨e1, e2⟩ := us_yes he
   rw [he, e1, e2, HLL.out]
   rw [HLL.out] at HB
   rw [hs] at HT
   clear he e1 e2 hy hc h hll hs
   generalize usN bs = n at *
   generalize rcS bs = sz at *
   have hne : ¬ cap = 4 + n := by omega
   generalize sum8 (bs.take (4 + n)) = s at *
   have HSz : Hid (((12 + n : Nat) : Int) = 12 + (n : Int)) := by show _ = _; omega
   rw [HSz.out]
   have hne4 : ¬ cap = 4 := by omega
   go_enter Try.func27, Try.ntmps27
   go_wp2_with (go_at_call 45; refine HC.out.mono ?_; rintro e w1 ⟨rfl, hw1⟩; subst hw1)
   go_quiet (first
    | (go_at_call 29; exact Calls.quiet_of_same (HT.out _))
    | (go_at_call 37; exact Calls.quiet_of_same (HS.out _)))
   have hbq := below_drewN (Below.refl w1.heap.size w1) nq
   go_wp2_with (go_at_call 46; refine (HB.out _ hbq).mono ?_; rintro e w8 ⟨v8, rfl, ho8, hb8⟩)
   go_ret3
   exact ⟨_, rfl, own_mono ho8 hbq.size, Below.next hbq hb8⟩
end Go.Proofs.Ytaikhiodpieghaa
