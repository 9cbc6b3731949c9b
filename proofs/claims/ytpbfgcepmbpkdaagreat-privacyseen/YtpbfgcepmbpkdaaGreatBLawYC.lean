/-
  The statements of layer 15: PrivacySeen walked.
-/
import Derived.Test.YtpbfgcepmbpkdaaGreatBunYH
import Derived.Test.YtpbfgcepmbpkdaaGreatBunYJ
namespace Go.Proofs.YtpbfgcepmbpkdaaGreat
open Go.RowKit Fld Pln Shr
set_option linter.unusedVariables false
set_option linter.unusedSimpArgs false

theorem see_wd {p : Pn} {who : List Int} {dl pl : List (List Int)} (w1 : ∀ b ∈ dl, Wd b) (w2 : ∀ b ∈ pl, Wd b) : (∀ b ∈ seL p who dl pl, Wd b) ∧ (seL p who dl pl).length ≤ 64 := se_wd (fun i => getD_wd (ans_wd (p := p) w1 w2).2.1.1 i)

set_option maxRecDepth 100000 in
set_option maxHeartbeats 1000000 in
theorem privacySeen_any (w : World) (p : Pn) (vw vd vp vo : Value) (who : List Int) (dl pl ol : List (List Int)) (hp : Ok8p p) (h3 : Lm iw 1 w vw who) (h1 : Rws w vd dl) (h2 : Rws w vp pl) (h4 : Rws w vo ol) : Calls Tryz.prog 4 #[plv p, vw, .agg #[vd, vp, vo]] w fun e w' => e = .returned (.bool true) ∧ Below w.heap.size w w' := by
  have H1 := hide (fun W (hb : Below w.heap.size w W) => gSeen p vw vd vp who dl pl W hp (h3.below hb) (h1.below hb) (h2.below hb))
  have H2 := hide (fun W (hb : Below w.heap.size w W) => dSeen p vw vd vp who dl pl W hp (h3.below hb) (h1.below hb) (h2.below hb))
  have H3 := hide (fun W (hb : Below w.heap.size w W) => gWays p vw who W hp (h3.below hb))
  have H4 := hide (fun W (hb : Below w.heap.size w W) => dWays p vw who W hp (h3.below hb))
  unfold GivesM at H1
  unfold GivesW at H2
  have HX := hide anch15
  obtain ⟨q1, q2⟩ := see_wd (p := p) (who := who) h1.wordsH h2.wordsH
  have WD1 : Hid (∀ W lo v us, Mtx W lo v us (seL p who dl pl) → Rws W v (seL p who dl pl)) := fun W lo v us h => h.rws (getD_wd q1) (by omega)
  obtain ⟨ad, cd, rfl, _, _, _⟩ := h1
  obtain ⟨ap, cp, rfl, _, _, _⟩ := h2
  obtain ⟨ao, co', rfl, _, _, _⟩ := h4
  obtain ⟨aw, cw, rfl, _⟩ := h3.spell
  clear hp q1 q2 h3
  generalize seL p who dl pl = r1 at *
  generalize seE p who dl pl = e1 at *
  generalize wyV p who = r2 at *
  generalize wyE p who = e2 at *
  generalize dl.length = nd at *
  generalize pl.length = np at *
  generalize ol.length = no at *
  generalize who.length = nw at *
  rw [plan_eq] at *
  obtain ⟨W1, hW, hA, hS⟩ := case_box w p (.slice ad nd cd) (.slice ap np cp) (.slice ao no co') 28
  have HW := hide hW
  have HS := hide hS
  clear hW hS
  obtain ⟨⟨c0, c1, c2, c3, c4, c5, c6, c7⟩, d0, d1, d2⟩ := HS.out _ (Below.refl _ _)
  go_enter Tryz.func4, Tryz.ntmps4
  go_upto_region 1 with fail
  rw [HW.out]
  go_upto_region 5 with (first
    | (go_at_call 12; refine (H1.out _ hA).mono ?_; rintro e w1 ⟨v1, us1, rfl, x1, hb1⟩; have hC1 := hb1; have hB1 := Below.next hA hC1; have R1 := hide (WD1.out _ _ _ _ x1); obtain ⟨a1, k1, rfl⟩ := own_form x1.row; clear x1; clear c0 c1 c2 c3 c4 c5 c6 c7 d0 d1 d2; obtain ⟨⟨c0, c1, c2, c3, c4, c5, c6, c7⟩, d0, d1, d2⟩ := HS.out _ hC1)
    | (go_at_call 13; refine (H2.out _ hB1).mono ?_; rintro e w2 ⟨v2, rfl, x2, hb2⟩; have hC2 := Below.next hC1 hb2; have hB2 := Below.next hA hC2; have R2 := hide x2; obtain ⟨a2, k2, rfl, _⟩ := x2; clear c0 c1 c2 c3 c4 c5 c6 c7 d0 d1 d2; obtain ⟨⟨c0, c1, c2, c3, c4, c5, c6, c7⟩, d0, d1, d2⟩ := HS.out _ hC2)
    | (go_at_call 14; refine (H3.out _ hB2).mono ?_; rintro e w3 ⟨rfl, hb3⟩; have hC3 := Below.next hC2 hb3; have hB3 := Below.next hA hC3; clear c0 c1 c2 c3 c4 c5 c6 c7 d0 d1 d2; obtain ⟨⟨c0, c1, c2, c3, c4, c5, c6, c7⟩, d0, d1, d2⟩ := HS.out _ hC3)
    | (go_at_call 15; refine (H4.out _ hB3).mono ?_; rintro e w4 ⟨rfl, hb4⟩; have hB4 := Below.next hB3 hb4))
  have Q1 := hide (((R1.out.below hb2).below hb3).below hb4)
  have Q2 := hide ((R2.out.below hb3).below hb4)
  clear R1 R2 WD1 H1 H2 H3 H4 c0 c1 c2 c3 c4 c5 c6 c7 d0 d1 d2 HS HW
  go_wp2_with (first
    | (go_at_call 10; refine (Rows_h _ _ _ _ Q1.out Q2.out).mono ?_; rintro e w7 ⟨rfl, hb7⟩; have hB7 := Below.next hB4 hb7)
    | (go_at_call 11; refine (HX.out _).mono ?_; rintro e w10 ⟨rfl, hb10⟩; have hB10 := Below.next hB7 hb10))
  go_ret
  exact ⟨rfl, hB10⟩

end Go.Proofs.YtpbfgcepmbpkdaaGreat
