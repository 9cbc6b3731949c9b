import Derived.Test.YtaikhiodpieghaaBCddC
set_option linter.unusedVariables false
set_option linter.unusedSimpArgs false
set_option maxRecDepth 100000
set_option maxHeartbeats 4000000
namespace Go.Proofs.Ytaikhiodpieghaa
open Go.RowKit Fld
def anM : Mg := ⟨2, 1, 2, 1, [5]⟩
theorem an_vals20 : mwE anM = 0 ∧ (mwL sum8 anM).length = 30 ∧ mrE sum8 (mwL sum8 anM) = 0 ∧ mrM sum8 (mwL sum8 anM) = anM ∧ mrE sum8 [] = 7 ∧ mrM sum8 [] = mg0 := by
 have hm : mgM anM = true := by decide
 have e : mwL sum8 anM = slF sum8 (mgI anM) := by unfold mwL; rw [if_pos hm]
 obtain ⟨r1, r2⟩ := mr_of_mw sum8_bd hm (by decide)
 have hu : usE sum8 [] = 7 := by unfold usE; rw [if_pos (by decide)]; decide
 have h7 : mrE sum8 [] = 7 := by rw [mr_unseal (by rw [hu]; decide), hu]
 refine ⟨by decide, ?_, by rw [e]; exact r1, by rw [e]; exact r2, h7, mrM_no (by rw [h7]; decide)⟩
 rw [e, slF_len]; decide
theorem mw_own {W : World} {base : Nat} {x : Value} {m : Mg} (hm : Mgd m) (hw : ∀ a ∈ m.l, 0 <= a ∧ a <= 18446744073709551615) (hl : m.l.length <= 4096) (ho : W.ownsRow base 48 1 x m.l.length (vals m.l)) : Mw W m x := ⟨hm, row_of_own ho rfl (by omega) hw⟩
theorem mg0_own {W : World} {base : Nat} {x : Value} (ho : W.ownsRow base 48 1 x mg0.l.length (vals mg0.l)) : Mw W mg0 x := mw_own ⟨by decide, by decide, by decide, by decide⟩ (by intro a ha; cases ha) (by decide) ho
theorem mrM_own {W : World} {base : Nat} {x : Value} {bs : List Int} (hb : By bs) (ho : W.ownsRow base 48 1 x (mrM sum8 bs).l.length (vals (mrM sum8 bs).l)) : Mw W (mrM sum8 bs) x := by
 by_cases h : mrE sum8 bs = 0
 · have e : mrM sum8 bs = miM (usL sum8 bs) := by unfold mrM; rw [if_pos h]
   obtain ⟨_, _, hk⟩ := mrE_zero h
   have hY := (usL_ok hb).1
   rw [e] at ho ⊢
   exact ⟨mi_wd hY, mi_row hY (miK_facts hk).2.1 ho⟩
 · rw [mrM_no h] at ho ⊢
   exact mg0_own ho
theorem anch20 : Ans 14 #[] (.bool true) := by
 intro w
 obtain ⟨e1, e2, e3, e4, e5, e6⟩ := an_vals20
 have hr := row_one w 5 (by decide) 48
 have hA := alloc_below w (.cells #[.int .u64 5] 48)
 have z1 : (w.alloc (.cells #[.int .u64 5] 48)).heap.size = w.heap.size + 1 := by simp
 obtain ⟨hM, hB⟩ := mb_box (w := w.alloc (.cells #[.int .u64 5] 48)) anM (.slice (some ⟨w.heap.size, 0, none⟩) 1 1)
 rw [z1] at hM
 have hB0 : Below w.heap.size w _ := Below.next hA hB
 have hmw : Mw _ anM (.slice (some ⟨w.heap.size, 0, none⟩) 1 1) := ⟨⟨by decide, by decide, by decide, by decide⟩, hr.below hB⟩
 have HW := hide (gWrite anM _ _ hmw)
 unfold GivesB at HW
 rw [e1, e2] at HW
 have HR := hide (fun W u (hr : Rb W u (mwL sum8 anM)) => gReadM u _ W hr)
 have HR0 := hide (fun W => gReadM (.slice none 0 0) [] W (rb_nil W))
 unfold GivesMsg at HR HR0
 rw [e3, e4] at HR
 rw [e5, e6] at HR0
 have HZ := hide (mw_by (m := anM))
 have HS := hide (fun W s t (h1 : Mw W anM s) (h2 : Mw W anM t) => dSameM anM anM s t W h1 h2)
 rw [mgS_self] at HS
 have HMb := hide (fun W hb => hM.below (w' := W) hb)
 have HMw := hide (fun W hb => hmw.below (w' := W) hb)
 have HN := hide (fun W base x (ho : World.ownsRow W base 48 1 x 1 (vals anM.l)) => mw_own (m := anM) ⟨by decide, by decide, by decide, by decide⟩ (by decide) (by decide) ho)
 obtain ⟨c0, c1, c2, c3, c4⟩ := hM.cells
 clear e1 e2 e3 e4 e5 e6 hr z1 hM hmw hA hB
 generalize mwL sum8 anM = zs at *
 unfold mgv mgc anM at *
 unfold mg0 at HR0
 dsimp only at *
 simp only [List.length_cons, List.length_nil, Nat.reduceAdd] at HR HR0 HS
 go_enter Try.func14, Try.ntmps14
 go_wp2_with (first
  | (go_at_call 7; refine HW.out.mono ?_; rintro e w1 ⟨v1, rfl, ho1, hb1⟩; have hr1 := rb_of_own ho1 HZ.out.1 HZ.out.2; obtain ⟨a1, k1, hv1⟩ := own_form ho1; subst hv1)
  | (go_at_call_of 15 (Value.slice none 0 0); refine (HR0.out _).mono ?_; rintro e w3 ⟨v3, rfl, ho3, hb3⟩; obtain ⟨a3, k3, hv3⟩ := own_form ho3; subst hv3; have hn2 := mb_new w2 ⟨2, 1, 2, 1, [5]⟩ (.slice a2 1 k2); have hb4 := alloc_below w3 (.cells #[.int .u8 0, .int .i64 0, .int .i64 0, .int .u8 0, .slice a3 0 k3] 26); have hC2 := alloc_below w2 (.cells #[.int .u8 2, .int .i64 1, .int .i64 2, .int .u8 1, .slice a2 1 k2] 26); have hC := Below.next (Below.next (Below.next (Below.next hb1 hb2) hC2) hb3) hb4; obtain ⟨y0, y1, y2, y3, y4⟩ := (HMb.out _ hC).cells; obtain ⟨x0, x1, x2, x3, x4⟩ := ((hn2.below hb3).below hb4).cells; have hm4 := HMw.out _ hC; have hn4 := HN.out _ _ _ (own_below (own_below (own_below ho2 hC2) hb3) hb4))
  | (go_at_call 15; refine (HR.out _ _ hr1).mono ?_; rintro e w2 ⟨v2, rfl, ho2, hb2⟩; obtain ⟨a2, k2, hv2⟩ := own_form ho2; subst hv2)
  | (go_at_call 13; refine (HS.out _ _ _ hm4 hn4).mono ?_; rintro e w5 ⟨rfl, hb5⟩))
 go_ret
 exact ⟨rfl, Below.next (Below.next hB0 hC) hb5⟩
theorem creads_any (u : Value) (bs : List Int) (w : World) (h : Rb w u bs) :
 Calls Try.prog 4 #[u] w fun e w' => e = .returned (.bool true) ∧ Below w.heap.size w w' := by
 have H1 := hide (gReadM u bs w h)
 have H2 := hide (fun W (hb : Below w.heap.size w W) => dReadM u bs W (h.below hb))
 unfold GivesMsg at H1 H2
 have HO := hide (fun W base x (ho : World.ownsRow W base 48 1 x (mrM sum8 bs).l.length (vals (mrM sum8 bs).l)) => mrM_own h.by ho)
 have HS := hide (fun W s t (h1 : Mw W (mrM sum8 bs) s) (h2 : Mw W (mrM sum8 bs) t) => dSameM _ _ s t W h1 h2)
 rw [mgS_self] at HS
 have ga := hide (fun W => anch20 W)
 have HBx := hide (fun W s => mb_box (w := W) (mrM sum8 bs) s)
 obtain ⟨ao, cap, rfl, _⟩ := h.spell
 clear h
 unfold mgv mgc at H1 H2 HS
 generalize mrM sum8 bs = m at *
 generalize mrE sum8 bs = er at *
 generalize m.l.length = n at *
 go_enter Try.func4, Try.ntmps4
 go_wp2_with (first
  | (go_at_call 15; refine H1.out.mono ?_; rintro e w1 ⟨v1, rfl, ho1, hb1⟩; obtain ⟨a1, k1, hv1⟩ := own_form ho1; subst hv1; obtain ⟨hM1, hA1⟩ := HBx.out w1 (.slice a1 n k1); have hB1 := Below.next hb1 hA1; have ho1 := own_below ho1 hA1)
  | (go_at_call 16; refine (H2.out _ hB1).mono ?_; rintro e w2 ⟨v2, rfl, ho2, hb2⟩; obtain ⟨a2, k2, hv2⟩ := own_form ho2; subst hv2; obtain ⟨hM2, hA2⟩ := HBx.out w2 (.slice a2 n k2); have hB2 := Below.next (Below.next hB1 hb2) hA2; have hw1 := HO.out _ _ _ (own_below (own_below ho1 hb2) hA2); have hw2 := HO.out _ _ _ (own_below ho2 hA2); obtain ⟨x0, x1, x2, x3, x4⟩ := ((hM1.below hb2).below hA2).cells; obtain ⟨y0, y1, y2, y3, y4⟩ := hM2.cells)
  | (go_at_call 13; refine (HS.out _ _ _ hw1 hw2).mono ?_; rintro e w3 ⟨rfl, hb3⟩; have hB3 := Below.next hB2 hb3)
  | (go_at_call 14; refine (ga.out _).mono ?_; rintro e w4 ⟨rfl, hb4⟩; have hB4 := Below.next hB3 hb4))
 go_ret
 exact ⟨by simp, hB4⟩
end Go.Proofs.Ytaikhiodpieghaa
