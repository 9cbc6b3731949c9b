/-
  The statements of layer 14: what is answered, as words; a plan and what is shared, boxed; ShareAll walked.
-/
import Derived.Test.YtnjcljnijgkoiaaGreatBLawHA
import Derived.Test.YtnjcljnijgkoiaaGreatBunHD
import Derived.Test.YtnjcljnijgkoiaaGreatBunHF
namespace Go.Proofs.YtnjcljnijgkoiaaGreat
open Go.RowKit Fld Pln Shr
set_option linter.unusedVariables false
set_option linter.unusedSimpArgs false

theorem shr_wd {q : Int} {wd : Bool} {f : Int} (hf : Fi f q wd) (xs : List Int) {n : Nat} (hn : n ≤ 1000) (bl : List (List Int)) (x : Int) : Wd (shr q xs n bl x) := wd_els (shr_els hf.pos _ _ _ _) hf.top (by rw [shr_len]; omega)
/-- What is answered are words, and not too many. -/
theorem ans_wd {p : Pn} {dl pl : List (List Int)} (w1 : ∀ b ∈ dl, Wd b) (w2 : ∀ b ∈ pl, Wd b) : ((∀ b ∈ polL p dl pl, Wd b) ∧ (polL p dl pl).length ≤ 1000) ∧ ((∀ b ∈ allL p dl pl, Wd b) ∧ (allL p dl pl).length ≤ 1000) ∧ ∀ i, Wd (shaL p dl pl i) := by
  refine ⟨?_, ?_, fun i => ?_⟩
  · unfold polL
    by_cases hz : bkE p dl pl [] = 0
    · obtain ⟨q, wd, hm, hf, hbe, hbw, hdl, hpl, hbl, ie, inn, i64', oe, on, o64, d0, _⟩ := bk_facts hz w1 w2
      obtain ⟨_, _, _, _, _, _, w0, w1'⟩ := may_facts hm
      rw [if_pos hz, pOf_eq hf]
      refine ⟨fun b hb => ?_, by rw [pys_len]; omega⟩
      obtain ⟨e1, e2⟩ := pys_facts hf.md ie inn hbe p.w.toNat b hb
      exact wd_els e1 hf.top (by omega)
    · rw [if_neg hz]; exact ⟨fun b hb => (by cases hb), by simp⟩
  · unfold allL
    by_cases hz : bkE p dl pl [] = 0
    · obtain ⟨q, wd, hm, hf, hbe, hbw, hdl, hpl, hbl, ie, inn, i64', oe, on, o64, d0, _⟩ := bk_facts hz w1 w2
      obtain ⟨_, _, _, _, _, _, w0, w1'⟩ := may_facts hm
      rw [if_pos hz, pOf_eq hf]
      refine ⟨fun b hb => ?_, by rw [List.length_map]; omega⟩
      obtain ⟨x, _, rfl⟩ := List.mem_map.1 hb
      exact shr_wd hf _ (by omega) _ _
    · rw [if_neg hz]; exact ⟨fun b hb => (by cases hb), by simp⟩
  · unfold shaL
    by_cases hz : bkE p dl pl [i] = 0
    · obtain ⟨q, wd, hm, hf, _⟩ := bk_facts hz w1 w2
      obtain ⟨_, _, _, _, _, _, w0, w1'⟩ := may_facts hm
      rw [if_pos hz, pOf_eq hf]
      exact shr_wd hf _ (by omega) _ _
    · rw [if_neg hz]; exact wd_nil
set_option maxRecDepth 100000 in
set_option maxHeartbeats 1000000 in
theorem shareAll_any (w : World) (p : Pn) (vd vp : Value) (dl pl : List (List Int)) (i : Int) (hp : Ok8p p) (h1 : Rws w vd dl) (h2 : Rws w vp pl) : Calls Tryz.prog 3 #[plv p, .agg #[vd, vp], .int .i64 i] w fun e w' => e = .returned (.bool true) ∧ Below w.heap.size w w' := by
  have H1 := hide (fun W (hb : Below w.heap.size w W) => gPolys p vd vp dl pl W hp (h1.below hb) (h2.below hb))
  have H2 := hide (fun W (hb : Below w.heap.size w W) => dPolys p vd vp dl pl W hp (h1.below hb) (h2.below hb))
  have H3 := hide (fun W (hb : Below w.heap.size w W) => gAll p vd vp dl pl W hp (h1.below hb) (h2.below hb))
  have H4 := hide (fun W (hb : Below w.heap.size w W) => dAll p vd vp dl pl W hp (h1.below hb) (h2.below hb))
  have H5 := hide (fun W (hb : Below w.heap.size w W) => gShare p vd vp dl pl i W hp (h1.below hb) (h2.below hb))
  have H6 := hide (fun W (hb : Below w.heap.size w W) => dShare p vd vp dl pl i W hp (h1.below hb) (h2.below hb))
  unfold GivesM at H1 H3
  unfold GivesL at H2 H4
  unfold Gives at H5 H6
  have HX := hide anch14
  obtain ⟨⟨q1, q2⟩, ⟨q3, q4⟩, q5⟩ := ans_wd (p := p) h1.wordsH h2.wordsH
  have WD1 : Hid (∀ W lo v us, Mtx W lo v us (polL p dl pl) → Rws W v (polL p dl pl)) := fun W lo v us h => h.rws (getD_wd q1) (by omega)
  have WD2 : Hid (∀ W lo hi v us, Lss W lo hi v us (polL p dl pl) → Rws W v (polL p dl pl)) := fun W lo hi v us h => h.rws (getD_wd q1) (by omega)
  have WD3 : Hid (∀ W lo v us, Mtx W lo v us (allL p dl pl) → Rws W v (allL p dl pl)) := fun W lo v us h => h.rws (getD_wd q3) (by omega)
  have WD4 : Hid (∀ W lo hi v us, Lss W lo hi v us (allL p dl pl) → Rws W v (allL p dl pl)) := fun W lo hi v us h => h.rws (getD_wd q3) (by omega)
  have WD5 : Hid (∀ W base n v, World.ownsRow W base 51 1 v n (vals (shaL p dl pl i)) → Row W v (shaL p dl pl i)) := fun W base n v h => ((q5 i).row h).1
  obtain ⟨ad, cd, rfl, _, _, _⟩ := h1
  obtain ⟨ap, cp, rfl, _, _, _⟩ := h2
  clear hp q1 q2 q3 q4 q5
  generalize polL p dl pl = r1 at *
  generalize allL p dl pl = r2 at *
  generalize shaL p dl pl i = r3 at *
  generalize bkE p dl pl [] = e1 at *
  generalize bkE p dl pl [i] = e2 at *
  generalize dl.length = nd at *
  generalize pl.length = np at *
  rw [plan_eq] at *
  obtain ⟨W1, hW, hA, hS⟩ := sec_box w p (.slice ad nd cd) (.slice ap np cp) 27
  have HW := hide hW
  have HS := hide hS
  clear hW hS
  obtain ⟨⟨c0, c1, c2, c3, c4, c5, c6, c7⟩, d0, d1⟩ := HS.out _ (Below.refl _ _)
  go_enter Tryz.func3, Tryz.ntmps3
  go_upto_region 1 with fail
  rw [HW.out]
  go_upto_region 7 with (first
    | (go_at_call 7; refine (H1.out _ hA).mono ?_; rintro e w1 ⟨v1, us1, rfl, x1, hb1⟩; have hC1 := hb1; have hB1 := Below.next hA hC1; have R1 := hide (WD1.out _ _ _ _ x1); obtain ⟨a1, k1, rfl⟩ := own_form x1.row; clear x1; clear c0 c1 c2 c3 c4 c5 c6 c7 d0 d1; obtain ⟨⟨c0, c1, c2, c3, c4, c5, c6, c7⟩, d0, d1⟩ := HS.out _ hC1)
    | (go_at_call 8; refine (H2.out _ hB1).mono ?_; rintro e w2 ⟨v2, us2, rfl, x2, hb2⟩; have hC2 := Below.next hC1 hb2; have hB2 := Below.next hA hC2; have R2 := hide (WD2.out _ _ _ _ _ x2); obtain ⟨a2, k2, rfl⟩ := own_form x2.row; clear x2; clear c0 c1 c2 c3 c4 c5 c6 c7 d0 d1; obtain ⟨⟨c0, c1, c2, c3, c4, c5, c6, c7⟩, d0, d1⟩ := HS.out _ hC2)
    | (go_at_call 9; refine (H3.out _ hB2).mono ?_; rintro e w3 ⟨v3, us3, rfl, x3, hb3⟩; have hC3 := Below.next hC2 hb3; have hB3 := Below.next hA hC3; have R3 := hide (WD3.out _ _ _ _ x3); obtain ⟨a3, k3, rfl⟩ := own_form x3.row; clear x3; clear c0 c1 c2 c3 c4 c5 c6 c7 d0 d1; obtain ⟨⟨c0, c1, c2, c3, c4, c5, c6, c7⟩, d0, d1⟩ := HS.out _ hC3)
    | (go_at_call 10; refine (H4.out _ hB3).mono ?_; rintro e w4 ⟨v4, us4, rfl, x4, hb4⟩; have hC4 := Below.next hC3 hb4; have hB4 := Below.next hA hC4; have R4 := hide (WD4.out _ _ _ _ _ x4); obtain ⟨a4, k4, rfl⟩ := own_form x4.row; clear x4; clear c0 c1 c2 c3 c4 c5 c6 c7 d0 d1; obtain ⟨⟨c0, c1, c2, c3, c4, c5, c6, c7⟩, d0, d1⟩ := HS.out _ hC4)
    | (go_at_call 11; refine (H5.out _ hB4).mono ?_; rintro e w5 ⟨v5, rfl, x5, hb5⟩; have hC5 := Below.next hC4 hb5; have hB5 := Below.next hA hC5; have R5 := hide (WD5.out _ _ _ _ x5); obtain ⟨a5, k5, rfl⟩ := own_form x5; clear x5; clear c0 c1 c2 c3 c4 c5 c6 c7 d0 d1; obtain ⟨⟨c0, c1, c2, c3, c4, c5, c6, c7⟩, d0, d1⟩ := HS.out _ hC5)
    | (go_at_call 12; refine (H6.out _ hB5).mono ?_; rintro e w6 ⟨v6, rfl, x6, hb6⟩; have hC6 := Below.next hC5 hb6; have hB6 := Below.next hA hC6; have R6 := hide (WD5.out _ _ _ _ x6); obtain ⟨a6, k6, rfl⟩ := own_form x6; clear x6; clear c0 c1 c2 c3 c4 c5 c6 c7 d0 d1; obtain ⟨⟨c0, c1, c2, c3, c4, c5, c6, c7⟩, d0, d1⟩ := HS.out _ hC6))
  have Q1 := hide (((((R1.out.below hb2).below hb3).below hb4).below hb5).below hb6)
  have Q2 := hide ((((R2.out.below hb3).below hb4).below hb5).below hb6)
  have Q3 := hide (((R3.out.below hb4).below hb5).below hb6)
  have Q4 := hide ((R4.out.below hb5).below hb6)
  have Q5 := hide (R5.out.below hb6)
  clear R1 R2 R3 R4 R5 WD1 WD2 WD3 WD4 WD5 H1 H2 H3 H4 H5 H6 c0 c1 c2 c3 c4 c5 c6 c7 d0 d1 HS HW hb1 hb2 hb3 hb4 hb5 hb6 hB1 hB2 hB3 hB4 hB5 hC1 hC2 hC3 hC4 hC5 hC6
  go_wp2_with (first
    | (go_at_call 13; with_reducible refine (Rows_h _ _ _ _ (Q3.out.below hb7) (Q4.out.below hb7)).mono ?_; rintro e w8 ⟨rfl, hb8⟩; have hB8 := Below.next hB7 hb8)
    | (go_at_call 13; with_reducible refine (Rows_h _ _ _ _ Q1.out Q2.out).mono ?_; rintro e w7 ⟨rfl, hb7⟩; have hB7 := Below.next hB6 hb7)
    | (go_at_call 14; refine (Same_yes _ _ _ _ ((Q5.out.below hb7).below hb8) ((R6.out.below hb7).below hb8)).mono ?_; rintro e w9 ⟨rfl, hb9⟩; have hB9 := Below.next hB8 hb9)
    | (go_at_call 15; refine (HX.out _).mono ?_; rintro e w10 ⟨rfl, hb10⟩; have hB10 := Below.next hB9 hb10))
  go_ret
  exact ⟨rfl, hB10⟩

end Go.Proofs.YtnjcljnijgkoiaaGreat
