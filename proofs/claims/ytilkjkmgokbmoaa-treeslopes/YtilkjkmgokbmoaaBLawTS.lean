/-
  TreeSlopes' walk.
-/
import Derived.Test.YtilkjkmgokbmoaaBLawTB
namespace Go.Proofs.Ytilkjkmgokbmoaa
open Go.RowKit Fld
set_option linter.unusedVariables false

theorem mul_facts2 {f p : Int} {wd : Bool} (h : Fi f p wd) {xs ys : List Int} (hx : Els p xs) (hy : Els p ys) (l : xs.length + ys.length ≤ 2001) :
    mulE f xs ys = 0 ∧ Tm p (mulL f xs ys) ∧ pl p (mulL f xs ys) = qm (pl p xs) (pl p ys) ∧ (mulL f xs ys).length ≤ xs.length + ys.length - 1 := by
  have he := er_yes h (allIn_of hx) (allIn_of hy) (by omega) (by omega)
  have n1 := tr_len xs
  have n2 := tr_len ys
  have h0 : mulE f xs ys = 0 := by unfold mulE; rw [if_pos he, if_neg (by omega)]
  have e : mulL f xs ys = prd p (tr xs) (tr ys) := by unfold mulL; rw [h0, if_pos rfl, pOf_eq h]
  have hi := (is_prd h.md (hx.tr h.pos) (hy.tr h.pos) (tr_tr xs) (tr_tr ys)).tm
  refine ⟨h0, by rw [e]; exact hi.1, by rw [e, hi.2, ← pl_tr p xs, ← pl_tr p ys]; rfl, ?_⟩
  rw [e]; unfold prd; split
  · simp
  · rw [mk_len]; omega
theorem add_facts2 {f p : Int} {wd : Bool} (h : Fi f p wd) {xs ys : List Int} (hx : Els p xs) (hy : Els p ys) (l1 : xs.length ≤ 4096) (l2 : ys.length ≤ 4096) :
    Tm p (addL f xs ys) ∧ pl p (addL f xs ys) = qa (pl p xs) (pl p ys) := by
  have he := er_yes h (allIn_of hx) (allIn_of hy) l1 l2
  have e : addL f xs ys = tr (sm p 1 xs ys) := by unfold addL; rw [if_pos he, pOf_eq h]
  have hi := (is_add h.pos xs ys).tm
  exact ⟨by rw [e]; exact hi.1, by rw [e]; exact hi.2⟩
theorem slope_facts {f p : Int} {wd : Bool} (h : Fi f p wd) {xs : List Int} (hx : Els p xs) (l : xs.length ≤ 2048) : chk f [xs] = 0 ∧ slpL f xs = slp p xs := by
  have he : chk f [xs] = 0 := chk_ok (fun i hi => by
    have : i = 0 := by simp at hi; omega
    subst this
    show inF f xs = true
    rw [inF_yes h]; exact allIn_of hx) (fun i hi => by
    have : i = 0 := by simp at hi; omega
    subst this
    exact l)
  exact ⟨he, by unfold slpL; rw [if_pos he, pOf_eq h]⟩
/-- The slope of a product, as the calls reckon it. -/
theorem slope_prod {f p : Int} {wd : Bool} (h : Fi f p wd) {xs ys : List Int} (hx : Els p xs) (hy : Els p ys) (l : xs.length + ys.length ≤ 1000) :
    chk f [mulL f xs ys] = 0 ∧ chk f [xs] = 0 ∧ chk f [ys] = 0 ∧ slpL f (mulL f xs ys) = addL f (mulL f (slpL f xs) ys) (mulL f xs (slpL f ys)) := by
  have hp := h.pos
  have m := mul_facts2 h hx hy (by omega)
  have sm := slope_facts h m.2.1.1 (by omega)
  have sx := slope_facts h hx (by omega)
  have sy := slope_facts h hy (by omega)
  have lx := slp_len p xs
  have ly := slp_len p ys
  have tx := (is_slp hp xs).tm
  have ty := (is_slp hp ys).tm
  have tm := (is_slp hp (mulL f xs ys)).tm
  refine ⟨sm.1, sx.1, sy.1, ?_⟩
  rw [sm.2, sx.2, sy.2]
  have a := mul_facts2 h tx.1.1 hy (by omega)
  have b := mul_facts2 h hx ty.1.1 (by omega)
  have s := add_facts2 h a.2.1.1 b.2.1.1 (by omega) (by omega)
  refine tm.1.only hp s.1 ?_
  rw [s.2, a.2.2.1, b.2.2.1, slp_mul hp m.2.2.1]
theorem slope_none : chk 0 [[]] = 2 := by decide

set_option maxRecDepth 100000 in
set_option maxHeartbeats 400000 in
theorem tslopes_any (f : Int) (v1 v2 : Value) (xs ys : List Int) (w : World) (h1 : Rw w v1 xs) (h2 : Rw w v2 ys) :
    Calls Try.prog 7 #[.int .u8 f, v1, v2] w fun e w' => e = .returned (.bool true) ∧ Below w.heap.size w w' := by
  have hk := hide (rBad_any f v1 v2 xs ys w h1 h2)
  have ga := hide (fun W => anch6 W)
  have l1 := h1.len
  have l2 := h2.len
  have HN := hide (fun W => tSlope_any 0 (.slice none 0 0) [] W (rw0 W))
  unfold Gives at HN
  rw [slope_none] at HN
  by_cases hgo : er f xs ys = 0 ∧ xs.length + ys.length ≤ 1000
  · obtain ⟨he, hl⟩ := hgo
    obtain ⟨p, wd, h, i1, i2, m1, m2⟩ := er_zero he
    have F := slope_prod h (els_of i1 h1.words) (els_of i2 h2.words) hl
    have HF := hide F.2.2.2
    have c1 := hide (fun W (hb : Below w.heap.size w W) => dMul_any f v1 v2 xs ys W (h1.below hb) (h2.below hb))
    have c2 := hide (fun W u (r : Rw W u (mulL f xs ys)) => tSlope_any f u _ W r)
    have c3 := hide (fun W (hb : Below w.heap.size w W) => tSlope_any f v1 xs W (h1.below hb))
    have c4 := hide (fun W (hb : Below w.heap.size w W) => tSlope_any f v2 ys W (h2.below hb))
    have c5 := hide (fun W u (r : Rw W u (slpL f xs)) (hb : Below w.heap.size w W) => dMul_any f u v2 _ ys W r (h2.below hb))
    have c6 := hide (fun W u (r : Rw W u (slpL f ys)) (hb : Below w.heap.size w W) => dMul_any f v1 u xs _ W (h1.below hb) r)
    have c7 := hide (fun W u1 u2 (r1 : Rw W u1 (mulL f (slpL f xs) ys)) (r2 : Rw W u2 (mulL f xs (slpL f ys))) => dAdd_any f u1 u2 _ _ W r1 r2)
    unfold Gives at c1 c2 c3 c4 c5 c6 c7
    rw [F.1] at c2
    rw [F.2.1] at c3
    rw [F.2.2.1] at c4
    have wm := hide (mulL_wd f xs ys)
    have ws := hide (slpL_wd f (mulL f xs ys))
    have wx := hide (slpL_wd f xs)
    have wy := hide (slpL_wd f ys)
    have wa := hide (mulL_wd f (slpL f xs) ys)
    have wb := hide (mulL_wd f xs (slpL f ys))
    have wt := hide (addL_wd f (mulL f (slpL f xs) ys) (mulL f xs (slpL f ys)))
    rw [he] at hk
    obtain ⟨a1, k1, rfl, _⟩ := h1.spell
    obtain ⟨a2, k2, rfl, _⟩ := h2.spell
    clear h1 h2 h i1 i2 he F
    generalize mulE f xs ys = e1 at *
    generalize mulE f (slpL f xs) ys = e2 at *
    generalize mulE f xs (slpL f ys) = e3 at *
    generalize er f (mulL f (slpL f xs) ys) (mulL f xs (slpL f ys)) = e4 at *
    generalize addL f (mulL f (slpL f xs) ys) (mulL f xs (slpL f ys)) = S at *
    generalize mulL f (slpL f xs) ys = A at *
    generalize mulL f xs (slpL f ys) = B at *
    generalize slpL f (mulL f xs ys) = M' at *
    generalize mulL f xs ys = M at *
    generalize slpL f xs = X' at *
    generalize slpL f ys = Y' at *
    go_enter Try.func7, Try.ntmps7
    go_wp2_with fail
    refine hk.out.mono ?_; rintro e w0 ⟨rfl, hw⟩; rw [hw]; clear hw
    go_wp2_with fail
    refine (c1.out _ (Below.refl _ _)).mono ?_; rintro e w1 ⟨u1, rfl, hO1, hb1⟩
    have R1 := hide (wm.out.row hO1)
    go_wp2_with fail
    refine (c2.out _ _ R1.out).mono ?_; rintro e w2 ⟨u2, rfl, hO2, hb2⟩
    have hB2 := Below.next hb1 hb2
    have R2 := hide (ws.out.row hO2)
    go_wp2_with fail
    refine (c3.out _ hB2).mono ?_; rintro e w3 ⟨u3, rfl, hO3, hb3⟩
    have hB3 := Below.next hB2 hb3
    have R3 := hide (wx.out.row hO3)
    go_wp2_with fail
    refine (c4.out _ hB3).mono ?_; rintro e w4 ⟨u4, rfl, hO4, hb4⟩
    have hB4 := Below.next hB3 hb4
    have R4 := hide (wy.out.row hO4)
    go_wp2_with fail
    refine (c5.out _ _ (R3.out.below hb4) hB4).mono ?_; rintro e w5 ⟨u5, rfl, hO5, hb5⟩
    have hB5 := Below.next hB4 hb5
    have R5 := hide (wa.out.row hO5)
    go_wp2_with fail
    refine (c6.out _ _ (R4.out.below hb5) hB5).mono ?_; rintro e w6 ⟨u6, rfl, hO6, hb6⟩
    have hB6 := Below.next hB5 hb6
    have R6 := hide (wb.out.row hO6)
    go_wp2_with fail
    refine (c7.out _ _ _ (R5.out.below hb6) R6.out).mono ?_; rintro e w7 ⟨u7, rfl, hO7, hb7⟩
    have hB7 := Below.next hB6 hb7
    have R7 := hide (wt.out.row hO7)
    have R2' := hide (((((R2.out.below hb3).below hb4).below hb5).below hb6).below hb7)
    rw [HF.out] at R2'
    clear hO1 hO2 hO3 hO4 hO5 hO6 hO7
    go_wp2_with fail
    refine (ga.out _).mono ?_; rintro e w8 ⟨rfl, hb8⟩
    go_wp2_with (go_at_call 13; refine (Same_yes _ _ _ _ (R2'.out.below hb8).1 (R7.out.below hb8).1).mono ?_; rintro e w9 ⟨rfl, hb9⟩)
    go_ret
    exact ⟨rfl, Below.next (Below.next hB7 hb8) hb9⟩
  · obtain ⟨a1, k1, rfl, _⟩ := h1.spell
    obtain ⟨a2, k2, rfl, _⟩ := h2.spell
    clear h1 h2
    by_cases he : er f xs ys = 0
    · have hl : 1000 < xs.length + ys.length := by
        apply Nat.lt_of_not_le; intro hc; exact hgo ⟨he, hc⟩
      rw [he] at hk
      clear hgo he
      have hli : (1000 : Int) < (xs.length : Int) + (ys.length : Int) := by omega
      go_enter Try.func7, Try.ntmps7
      go_wp2_with fail
      refine hk.out.mono ?_; rintro e w0 ⟨rfl, hw⟩; rw [hw]; clear hw
      go_wp2_with (first
        | (go_at_call 20; refine (HN.out _).mono ?_; rintro e w1 ⟨u1, rfl, _, hb1⟩)
        | (go_at_call 15; refine (ga.out _).mono ?_; rintro e w4 ⟨rfl, hb4⟩))
      go_ret
      exact ⟨rfl, Below.next hb1 hb4⟩
    · have ht : (er f xs ys != 0) = true := bne_iff_ne.2 he
      clear hgo he
      generalize er f xs ys = e0 at *
      go_enter Try.func7, Try.ntmps7
      go_wp2_with fail
      refine hk.out.mono ?_; rintro e w0 ⟨rfl, hw⟩; rw [hw]; clear hw
      go_wp2_with (first
        | (go_at_call 20; refine (HN.out _).mono ?_; rintro e w1 ⟨u1, rfl, _, hb1⟩)
        | (go_at_call 15; refine (ga.out _).mono ?_; rintro e w4 ⟨rfl, hb4⟩))
      go_ret
      exact ⟨rfl, Below.next hb1 hb4⟩

end Go.Proofs.Ytilkjkmgokbmoaa
