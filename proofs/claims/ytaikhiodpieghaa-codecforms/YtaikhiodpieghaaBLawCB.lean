import Derived.Test.YtaikhiodpieghaaBLawCA
set_option linter.unusedVariables false
set_option linter.unusedSimpArgs false
set_option maxRecDepth 100000
set_option maxHeartbeats 4000000
namespace Go.Proofs.Ytaikhiodpieghaa
open Go.RowKit Fld
theorem cforms_any (u : Value) (bs : List Int) (w : World) (h : Rb w u bs) :
 Calls Try.prog 6 #[u] w fun e w' => e = .returned (.bool true) ∧ Below w.heap.size w w' := by
 have H1 := hide (gReadM u bs w h)
 unfold GivesMsg at H1
 have ga := hide (fun W => anch20 W)
 have HRb := hide (fun W (hb : Below w.heap.size w W) => h.below hb)
 have hyb := h.by
 have hlen := h.len
 obtain ⟨ao, cap, rfl, _⟩ := h.spell
 clear h
 by_cases he : mrE sum8 bs = 0
 · obtain ⟨hm, hw⟩ := mw_of_mr hyb he
   have e1 : mwE (mrM sum8 bs) = 0 := by unfold mwE; rw [if_pos hm]
   have e2 : mwL sum8 (mrM sum8 bs) = bs := by unfold mwL; rw [if_pos hm]; exact hw
   have HO := hide (fun W base x (ho : World.ownsRow W base 48 1 x (mrM sum8 bs).l.length (vals (mrM sum8 bs).l)) => mrM_own hyb ho)
   have HW := hide (fun W s (hm : Mw W (mrM sum8 bs) s) => gWrite _ s W hm)
   unfold GivesB at HW
   rw [e1, e2] at HW
   have HM := hide (fun W s (hm : Mw W (mrM sum8 bs) s) => gMayM _ s W hm)
   rw [hm] at HM
   have HBx := hide (fun W s => mb_box (w := W) (mrM sum8 bs) s)
   have HS := hide (fun W v1 v2 (r1 : Rb W v1 bs) (r2 : Rb W v2 bs) => rSame8 v1 v2 bs bs W r1 r2)
   rw [decide_eq_true rfl] at HS
   have HY := hide hyb
   have HYl := hide hlen
   rw [he] at H1
   clear hm hw e1 e2 he hyb hlen
   unfold mgv mgc at H1 HW HM
   generalize mrM sum8 bs = m at *
   generalize m.l.length = n at *
   obtain ⟨L, HL⟩ : ∃ L, Hid (bs.length = L) := ⟨_, rfl⟩
   rw [HL.out] at H1 HRb HYl HW ⊢
   go_enter Try.func6, Try.ntmps6
   go_wp2_with (first
    | (go_at_call 15; refine H1.out.mono ?_; rintro e w1 ⟨v1, rfl, ho1, hb1⟩; obtain ⟨a1, k1, hv1⟩ := own_form ho1; subst hv1; obtain ⟨hM1, hA1⟩ := HBx.out w1 (.slice a1 n k1); have hB1 := Below.next hb1 hA1; have hw1 := HO.out _ _ _ (own_below ho1 hA1); obtain ⟨x0, x1, x2, x3, x4⟩ := hM1.cells)
    | (go_at_call 7; refine (HW.out _ _ hw1).mono ?_; rintro e w2 ⟨v2, rfl, ho2, hb2⟩; have hB2 := Below.next hB1 hb2; have hr2 := rb_of_own ho2 HY.out (by rw [HL.out]; exact HYl.out); obtain ⟨a2, k2, hv2⟩ := own_form ho2; subst hv2; have hM2 := hM1.below hb2; have hw2 := hw1.below hb2)
    | (go_at_call 14; refine (ga.out _).mono ?_; rintro e w3 ⟨rfl, hb3⟩; have hB3 := Below.next hB2 hb3; have hr3 := hr2.below hb3; have hw3 := hw2.below hb3; obtain ⟨y0, y1, y2, y3, y4⟩ := (hM2.below hb3).cells)
    | (go_at_call 9; refine (HS.out _ _ _ (HRb.out _ hB3) hr3).mono ?_; rintro e w4 ⟨rfl, hw4⟩; rw [hw4]; clear hw4 w4)
    | (go_at_call 10; refine (HM.out _ _ hw3).mono ?_; rintro e w5 ⟨rfl, hb5⟩))
   go_ret
   exact ⟨rfl, Below.next hB3 hb5⟩
 · have e1 := mrM_no he
   have hne : (mrE sum8 bs != 0) = true := bne_iff_ne.2 he
   have HS := hide (fun W s (hm : Mw W mg0 s) => dSameM mg0 mg0 s (.slice none 0 0) W hm (mw_nil W))
   rw [mgS_self] at HS
   have HO := hide (fun W base x (ho : World.ownsRow W base 48 1 x 0 (vals [])) => mg0_own ho)
   have HBx := hide (fun W s => mb_box (w := W) mg0 s)
   rw [e1] at H1
   clear e1 he hyb hlen
   unfold mgv mgc at H1 HS
   unfold mg0 at *
   dsimp only at *
   simp only [List.length_nil] at H1
   generalize mrE sum8 bs = er at *
   go_enter Try.func6, Try.ntmps6
   go_wp2_with (first
    | (go_at_call 15; refine H1.out.mono ?_; rintro e w1 ⟨v1, rfl, ho1, hb1⟩; obtain ⟨a1, k1, hv1⟩ := own_form ho1; subst hv1; obtain ⟨hM1, hA1⟩ := HBx.out w1 (.slice a1 0 k1); have hB1 := Below.next hb1 hA1; have hw1 := HO.out _ _ _ (own_below ho1 hA1))
    | (go_at_call 14; refine (ga.out _).mono ?_; rintro e w3 ⟨rfl, hb3⟩; have hB3 := Below.next hB1 hb3; have hw3 := hw1.below hb3; obtain ⟨y0, y1, y2, y3, y4⟩ := (hM1.below hb3).cells)
    | (go_at_call 13; refine (HS.out _ _ hw3).mono ?_; rintro e w4 ⟨rfl, hb4⟩))
   go_ret
   exact ⟨rfl, Below.next hB3 hb4⟩
end Go.Proofs.Ytaikhiodpieghaa
