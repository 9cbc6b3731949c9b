/-
  PolyBack's walk.
-/
import Derived.Test.YtdegpefhegmamaaLawPA
import Derived.Test.YtdegpefhegmamaaPolN
namespace Go.Proofs.Ytdegpefhegmamaa
open Go.RowKit Fld
set_option linter.unusedVariables false

theorem back_facts {f p : Int} {wd : Bool} {xs ys A B : List Int} (h : Fi f p wd) (hx : Els p xs) (hy : Els p ys) (l1 : xs.length ≤ 4096) (l2 : ys.length ≤ 4096) (hd : Dv p xs ys A B) :
    mulE f A ys = 0 ∧ er f (mulL f A ys) B = 0 ∧ addL f (mulL f A ys) B = tr xs ∧ (tr B).length < (tr ys).length ∧ Wd A ∧ Wd B := by
  have hp := h.pos
  have hlen : A.length + (tr ys).length - 1 ≤ 4096 := by
    by_cases hA : A = []
    · have := tr_len ys; rw [hA]; simp; omega
    · have := hd.len h.md hy hA; omega
  have hal : A.length ≤ 4096 := by have := hd.2.2.2.2.1; omega
  obtain ⟨h1, h2, h3, h4, h5, h6⟩ := hd
  have hbl : B.length ≤ 4096 := by have := tr_len ys; omega
  have e1 : mulE f A ys = 0 := by
    unfold mulE
    rw [er_yes h (allIn_of h1) (allIn_of hy) hal l2, if_pos rfl, if_neg (by rw [h3]; omega)]
  have eM : mulL f A ys = prd p (tr A) (tr ys) := by unfold mulL; rw [if_pos e1, pOf_eq h]
  have iM := is_prd h.md (h1.tr hp) (hy.tr hp) (tr_tr A) (tr_tr ys)
  rw [cv_tr, ← eM] at iM
  have lM := mulL_len f A ys
  have e2 : er f (mulL f A ys) B = 0 := er_yes h (allIn_of iM.1) (allIn_of h2) lM hbl
  refine ⟨e1, e2, ?_, by rw [h4]; exact h5, wd_els h1 h.top (by omega), wd_els h2 h.top (by omega)⟩
  have eA : addL f (mulL f A ys) B = tr (sm p 1 (mulL f A ys) B) := by unfold addL; rw [if_pos e2, pOf_eq h]
  rw [eA]
  exact ((is_add hp (mulL f A ys) B).al ((iM.2.2.add (Al.refl p (co B))).trans h6)).only hp (is_tr hp hx)

set_option maxRecDepth 100000 in
set_option maxHeartbeats 1000000 in
theorem pback_any (f : Int) (v1 v2 : Value) (xs ys : List Int) (w : World) (h1 : Rw w v1 xs) (h2 : Rw w v2 ys) :
    Calls Try.prog 8 #[.int .u8 f, v1, v2] w fun e w' => e = .returned (.bool true) ∧ Below w.heap.size w w' := by
  have gd := hide (pDivMod_any f v1 v2 xs ys w h1 h2)
  unfold Parts at gd
  have gb := hide (fun W (hb : Below w.heap.size w W) => rBad_any f v1 v2 xs ys W (h1.below hb) (h2.below hb))
  have gt := hide (fun W (hb : Below w.heap.size w W) => rTrim_any v2 ys W (h2.below hb))
  have ga := hide (fun W => anch3 W)
  have n2 := tr_len ys
  have l2 := h2.len
  have RT := hide (fun W u n base (hO : World.ownsRow W base 34 1 u n (vals (tr ys))) => rw_of_own hO (by omega) (fun x hx => h2.words x (by rw [← take_tr_len] at hx; exact List.mem_of_mem_take hx)))
  by_cases he : er f xs ys = 0
  · obtain ⟨p, wd, h, i1, i2, m1, m2⟩ := er_zero he
    rw [he] at gb
    by_cases ez : tr ys = []
    · have hE : divE f xs ys = 5 := by unfold divE; rw [if_pos he, if_pos ez]
      rw [hE] at gd
      rw [ez] at gt RT
      clear h1 h2 h hE
      go_enter Try.func8, Try.ntmps8
      go_wp2_with (first
        | (go_at_call 24; refine gd.out.mono ?_; rintro e w1 ⟨vq, vr, A, B, b, rfl, hS, hOq, hOr, hbb, hwb, hb1⟩; clear hOq hOr hS)
        | (go_at_call 28; refine (gb.out _ hb1).mono ?_; rintro e w2 ⟨rfl, hw⟩; rw [hw]; clear hw)
        | (go_at_call 11; refine (gt.out _ hb1).mono ?_; rintro e w3 ⟨u3, rfl, hO3, hb3⟩; obtain ⟨ao, cap, rfl, _⟩ := (RT.out _ _ _ _ hO3).spell; clear hO3)
        | (go_at_call 23; refine (ga.out _).mono ?_; rintro e w4 ⟨rfl, hb4⟩))
      go_ret
      exact ⟨rfl, Below.next (Below.next hb1 hb3) hb4⟩
    · have hE : divE f xs ys = 0 := by unfold divE; rw [if_pos he, if_neg ez]
      have hx := els_of i1 h1.words
      have hy := els_of i2 h2.words
      have HF := hide (fun A B (hS : DvE f xs ys A B) => back_facts (A := A) (B := B) h hx hy m1 m2 (by have := hS.2 hE; rw [pOf_eq h] at this; exact this))
      rw [hE] at gd
      have hpos := List.length_pos_iff.2 ez
      have bz : (((tr ys).length : Int) == 0) = false := beq_eq_false_iff_ne.2 (by omega)
      have GM := hide (fun W v A (hr : Rw W v A) (hb : Below w.heap.size w W) (he' : mulE f A ys = 0) => by
        have := pMul_any f v v2 A ys W hr (h2.below hb)
        rw [he'] at this; exact this)
      have GA := hide (fun W v u M B (hr : Rw W v M) (hs : Rw W u B) (he' : er f M B = 0) => by
        have := pAdd_any f v u M B W hr hs
        rw [he'] at this; exact this)
      have GD := hide (fun W u B (hr : Rw W u B) => Degree_any u B W hr)
      have GD2 := hide (fun W (hb : Below w.heap.size w W) => Degree_any v2 ys W (h2.below hb))
      have gx := hide (fun W (hb : Below w.heap.size w W) => rTrim_any v1 xs W (h1.below hb))
      have RX := hide (fun W u n base (hO : World.ownsRow W base 34 1 u n (vals (tr xs))) => rw_of_own hO (by have := tr_len xs; omega) (els_words (hx.tr h.pos) h.top))
      have HM := hide (fun A => mulL_wd f A ys)
      unfold Gives at GM GA
      clear h1 h2 h hE hx hy ez he
      go_enter Try.func8, Try.ntmps8
      go_wp2_with fail
      refine gd.out.mono ?_; rintro e w1 ⟨vq, vr, A, B, b, rfl, hS, hOq, hOr, hbb, hwb, hb1⟩
      obtain ⟨f1, f2, f3, f4, f5, f6⟩ := HF.out A B hS
      have HMA := hide (HM.out A)
      have ga1 := hide (fun W v hr hb => GM.out W v A hr hb f1)
      have rq := hide (f5.row hOq)
      have rr := hide (f6.row hOr)
      have gad := hide (fun W v u hr hs => GA.out W v u (mulL f A ys) B hr hs f2)
      rw [f3] at gad
      have hdl : ((tr B).length : Int) - 1 < ((tr ys).length : Int) - 1 := by omega
      clear hS hOq hOr f1 f2 f3 f4 f5 f6 HF HM GM GA
      generalize mulL f A ys = M at *
      go_wp2_with fail
      refine (gb.out _ hb1).mono ?_; rintro e w2 ⟨rfl, hw⟩; rw [hw]; clear hw
      go_wp2_with fail
      refine (gt.out _ hb1).mono ?_; rintro e w3 ⟨u3, rfl, hO3, hb⟩
      obtain ⟨ao, cap, rfl, _⟩ := (RT.out _ _ _ _ hO3).spell
      have hb3 := Below.next hb1 hb
      have rq3 := hide (rq.out.below hb)
      have rr3 := hide (rr.out.below hb)
      clear hO3 hb rq rr
      go_wp2_with fail
      refine (ga1.out _ _ rq3.out hb3).mono ?_; rintro e w4 ⟨u4, rfl, hO4, hb⟩
      have hb4 := Below.next hb3 hb
      have rm4 := hide (HMA.out.row hO4)
      have rr4 := hide (rr3.out.below hb)
      clear hO4 hb rr3 rq3
      go_wp2_with fail
      refine (gad.out _ _ _ rm4.out rr4.out).mono ?_; rintro e w5 ⟨u5, rfl, hO5, hb⟩
      have hb5 := Below.next hb4 hb
      have rs5 := hide (RX.out _ _ _ _ hO5)
      have rr5 := hide (rr4.out.below hb)
      clear hO5 hb rr4 rm4
      go_wp2_with fail
      refine (ga.out _).mono ?_; rintro e w6 ⟨rfl, hb⟩
      have hb6 := Below.next hb5 hb
      have rs6 := hide (rs5.out.below hb)
      have rr6 := hide (rr5.out.below hb)
      clear hb rs5 rr5
      go_wp2_with fail
      refine (GD.out _ _ _ rr6.out).mono ?_; rintro e w7 ⟨rfl, hb⟩
      have hb7 := Below.next hb6 hb
      have rs7 := hide (rs6.out.below hb)
      clear hb rs6 rr6
      go_wp2_with fail
      refine (GD2.out _ hb7).mono ?_; rintro e w8 ⟨rfl, hb⟩
      have hb8 := Below.next hb7 hb
      have rs8 := hide (rs7.out.below hb)
      clear hb rs7
      go_wp2_with fail
      refine (gx.out _ hb8).mono ?_; rintro e w9 ⟨u9, rfl, hO9, hb⟩
      have hb9 := Below.next hb8 hb
      have rs9 := hide (rs8.out.below hb)
      have rt9 := hide (RX.out _ _ _ _ hO9)
      clear hb rs8 hO9
      go_wp2_with fail
      refine (Same_yes u5 u9 (tr xs) _ rs9.out.1 rt9.out.1).mono ?_; rintro e w10 ⟨rfl, hb⟩
      have hb10 := Below.next hb9 hb
      go_wp2
      go_ret
      exact ⟨rfl, hb10⟩
  · have hE : divE f xs ys = er f xs ys := by unfold divE; rw [if_neg he]
    rw [hE] at gd
    have hz : (er f xs ys != 0) = true := bne_iff_ne.2 he
    clear h1 h2 hE he gt RT
    generalize er f xs ys = e0 at *
    go_enter Try.func8, Try.ntmps8
    go_wp2_with (first
      | (go_at_call 24; refine gd.out.mono ?_; rintro e w1 ⟨vq, vr, A, B, b, rfl, hS, hOq, hOr, hbb, hwb, hb1⟩; clear hOq hOr hS)
      | (go_at_call 28; refine (gb.out _ hb1).mono ?_; rintro e w2 ⟨rfl, hw⟩; rw [hw]; clear hw)
      | (go_at_call 23; refine (ga.out _).mono ?_; rintro e w4 ⟨rfl, hb4⟩))
    go_ret
    exact ⟨rfl, Below.next hb1 hb4⟩

end Go.Proofs.Ytdegpefhegmamaa
