/-
  The statements of layer 15: PrivacyTwins walked.
-/
import Derived.Test.YtpbfgcepmbpkdaaGreatBunYH
import Derived.Test.YtpbfgcepmbpkdaaGreatBunYJ
namespace Go.Proofs.YtpbfgcepmbpkdaaGreat
open Go.RowKit Fld Pln Shr
set_option linter.unusedVariables false
set_option linter.unusedSimpArgs false

set_option maxRecDepth 100000 in
set_option maxHeartbeats 1000000 in
theorem privacyTwins_any (w : World) (p : Pn) (vw vd vp vo : Value) (who : List Int) (dl pl ol : List (List Int)) (hp : Ok8p p) (h3 : Lm iw 1 w vw who) (h1 : Rws w vd dl) (h2 : Rws w vp pl) (h4 : Rws w vo ol) : Calls Tryz.prog 3 #[plv p, vw, .agg #[vd, vp, vo]] w fun e w' => e = .returned (.bool true) ∧ Below w.heap.size w w' := by
  have H1 := hide (fun W (hb : Below w.heap.size w W) => gTwin p vw vd vp vo who dl pl ol W hp (h3.below hb) (h1.below hb) (h2.below hb) (h4.below hb))
  have H2 := hide (fun W (hb : Below w.heap.size w W) => dTwin p vw vd vp vo who dl pl ol W hp (h3.below hb) (h1.below hb) (h2.below hb) (h4.below hb))
  unfold GivesM at H1
  unfold GivesW at H2
  have HX := hide anch15
  obtain ⟨q1, q2⟩ := tw_wd (p := p) (who := who) h1.wordsH h2.wordsH h4.wordsH
  have WD1 : Hid (∀ W lo v us, Mtx W lo v us (twL p who dl pl ol) → Rws W v (twL p who dl pl ol)) := fun W lo v us h => h.rws (getD_wd q1) (by omega)
  obtain ⟨ad, cd, rfl, _, _, _⟩ := h1
  obtain ⟨ap, cp, rfl, _, _, _⟩ := h2
  obtain ⟨ao, co', rfl, _, _, _⟩ := h4
  obtain ⟨aw, cw, rfl, _⟩ := h3.spell
  clear hp q1 q2 h3
  generalize twL p who dl pl ol = r1 at *
  generalize twE p who dl pl ol = e1 at *
  generalize dl.length = nd at *
  generalize pl.length = np at *
  generalize ol.length = no at *
  generalize who.length = nw at *
  rw [plan_eq] at *
  obtain ⟨W1, hW, hA, hS⟩ := case_box w p (.slice ad nd cd) (.slice ap np cp) (.slice ao no co') 28
  have HW := hide hW
  have HS := hide hS
  clear hW hS
  obtain ⟨⟨c0, c1, c2, c3, c4, c5, c6, c7⟩, d0, d1, d2⟩ := HS.out _ (Below.refl _ _)
  go_enter Tryz.func3, Tryz.ntmps3
  go_upto_region 1 with fail
  rw [HW.out]
  go_upto_region 3 with (first
    | (go_at_call 8; refine (H1.out _ hA).mono ?_; rintro e w1 ⟨v1, us1, rfl, x1, hb1⟩; have hC1 := hb1; have hB1 := Below.next hA hC1; have R1 := hide (WD1.out _ _ _ _ x1); obtain ⟨a1, k1, rfl⟩ := own_form x1.row; clear x1; clear c0 c1 c2 c3 c4 c5 c6 c7 d0 d1 d2; obtain ⟨⟨c0, c1, c2, c3, c4, c5, c6, c7⟩, d0, d1, d2⟩ := HS.out _ hC1)
    | (go_at_call 9; refine (H2.out _ hB1).mono ?_; rintro e w2 ⟨v2, rfl, x2, hb2⟩; have hB2 := Below.next hB1 hb2; have Q1 := hide (R1.out.below hb2); have Q2 := hide x2; obtain ⟨a2, k2, rfl, _⟩ := x2))
  clear R1 WD1 H1 H2 c0 c1 c2 c3 c4 c5 c6 c7 d0 d1 d2 HS HW
  go_wp2_with (first
    | (go_at_call 10; refine (Rows_h _ _ _ _ Q1.out Q2.out).mono ?_; rintro e w7 ⟨rfl, hb7⟩; have hB7 := Below.next hB2 hb7)
    | (go_at_call 11; refine (HX.out _).mono ?_; rintro e w10 ⟨rfl, hb10⟩; have hB10 := Below.next hB7 hb10))
  go_ret
  exact ⟨rfl, hB10⟩

end Go.Proofs.YtpbfgcepmbpkdaaGreat
