/-
  TreeRemainders' walk.
-/
import Derived.Test.YtilkjkmgokbmoaaBTreH
namespace Go.Proofs.Ytilkjkmgokbmoaa
open Go.RowKit Fld
set_option linter.unusedVariables false

theorem RmE.wd {f : Int} {P : List Int} {xss rss : List (List Int)} (h : RmE f P xss rss) : (∀ i, Wd (rss.getD i [])) ∧ rss.length ≤ 2048 := by
  by_cases he : rmE f P xss = 0
  · obtain ⟨h1, h2, _⟩ := rmE_zero he
    obtain ⟨a1, a2⟩ := h.2 he
    refine ⟨fun i => ?_, by omega⟩
    by_cases hi : i < xss.length
    · obtain ⟨q, hq⟩ := a2 i hi
      obtain ⟨hin, hl⟩ := chk_zero h1 (List.mem_cons_of_mem _ (getD_mem hi))
      obtain ⟨p, wd, hf, hal⟩ := inF_fi hin
      rw [pOf_eq hf] at hq
      exact dv_words hf hl hq
    · rw [List.getD_eq_getElem?_getD, List.getElem?_eq_none (by omega)]; exact wd_nil
  · rw [h.1 he]; exact ⟨fun i => by simpa using wd_nil, by simp⟩
theorem slp_len (p : Int) (xs : List Int) : (slp p xs).length ≤ xs.length - 1 := by
  unfold slp
  have := tr_len (mk (xs.length - 1) (fun i => (((i : Int) + 1) * co xs (i + 1)) % p))
  rw [mk_len] at this; exact this
theorem slpL_wd (f : Int) (xs : List Int) : Wd (slpL f xs) := by
  unfold slpL
  by_cases he : chk f [xs] = 0
  · obtain ⟨p, wd, hf, _, hl⟩ := chk_one he
    rw [if_pos he, pOf_eq hf]
    have := slp_len p xs
    exact wd_els (is_slp hf.pos xs).1 hf.top (by omega)
  · rw [if_neg he]; exact wd_nil
theorem Rows_any (v1 v2 : Value) (xss : List (List Int)) (w : World) (h1 : Rws w v1 xss) (h2 : Rws w v2 xss) :
    Calls Try.prog 14 #[v1, v2] w fun e w' => e = .returned (.bool true) ∧ Below w.heap.size w w' :=
  (Rows_quiet v1 v2 xss w h1 h2).mono fun e w' ⟨he, m, hw⟩ => ⟨he, by rw [hw]; exact drewN_below w m⟩
theorem Rws.words {w : World} {v : Value} {xss : List (List Int)} (h : Rws w v xss) : ∀ i, ∀ x ∈ xss.getD i [], 0 ≤ x ∧ x ≤ 18446744073709551615 := by
  intro i x hx
  obtain ⟨ao, cap, _, _, _, hc⟩ := h
  by_cases hi : i < xss.length
  · obtain ⟨b, off, _, _, hcell⟩ := hc (by intro e; rw [e] at hi; simp at hi)
    obtain ⟨u, _, hr⟩ := hcell i hi
    exact hr.words x hx
  · rw [List.getD_eq_getElem?_getD, List.getElem?_eq_none (by omega)] at hx; cases hx

set_option maxRecDepth 100000 in
set_option maxHeartbeats 400000 in
theorem trems_any (f : Int) (vp vm : Value) (P : List Int) (xss : List (List Int)) (w : World) (hp : Rw w vp P) (hm : Rws w vm xss) (hl : xss.length ≤ 5864062014634) :
    Calls Try.prog 5 #[.int .u8 f, vp, vm] w fun e w' => e = .returned (.bool true) ∧ Below w.heap.size w w' := by
  have c1 := hide (tRemainders_any f vp vm P xss w hp hm hl)
  have c2 := hide (fun W (hb : Below w.heap.size w W) => dRemainders_any f vp vm P xss W (hp.below hb) (hm.below hb))
  have c3 := hide (fun W (hb : Below w.heap.size w W) => tSlope_any f vp P W (hp.below hb))
  have c4 := hide (fun W (hb : Below w.heap.size w W) => dSlope_any f vp P W (hp.below hb))
  have HO := hide (fun rss sss h k => RmE.only (f := f) (P := P) (rss := rss) (sss := sss) hm.words h k)
  have WS := hide (slpL_wd f P)
  obtain ⟨a1, c1', rfl, _⟩ := hp.spell
  obtain ⟨a2, c2', rfl, _⟩ := hm
  unfold GivesR at c1 c2
  unfold Gives at c3 c4
  clear hp
  generalize rmE f P xss = e0 at *
  generalize chk f [P] = e1 at *
  go_enter Try.func5, Try.ntmps5
  go_wp2_with fail
  refine c1.out.mono ?_; rintro e w1 ⟨v1, us1, rss, rfl, hS1, hL1, hb1⟩
  go_wp2_with fail
  refine (c2.out _ hb1).mono ?_; rintro e w2 ⟨v2, us2, sss, rfl, hS2, hL2, hb2⟩
  have hB2 := Below.next hb1 hb2
  have : sss = rss := HO.out _ _ hS2 hS1
  subst this
  go_wp2_with fail
  refine (c3.out _ hB2).mono ?_; rintro e w3 ⟨v3, rfl, hO3, hb3⟩
  have hB3 := Below.next hB2 hb3
  go_wp2_with fail
  refine (c4.out _ hB3).mono ?_; rintro e w4 ⟨v4, rfl, hO4, hb4⟩
  have hB4 := Below.next hB3 hb4
  have hw := hide hS1.wd
  have r1 := hide ((((hL1.below hb2).below hb3).below hb4).rws hw.out.1 (by have := hw.out.2; omega))
  have r2 := hide (((hL2.below hb3).below hb4).rws hw.out.1 (by have := hw.out.2; omega))
  have s1 := hide (fun W (hb : Below w4.heap.size w4 W) => ((WS.out.row (own_below hO3 hb4)).below hb).1)
  have s2 := hide (fun W (hb : Below w4.heap.size w4 W) => ((WS.out.row hO4).below hb).1)
  have HR := hide (Rows_any _ _ _ _ r1.out r2.out)
  clear hL1 hL2 hO3 hO4 hS1 hS2
  go_wp2_with (first
    | (go_at_call 14; refine HR.out.mono ?_; rintro e w5 ⟨rfl, hb5⟩)
    | (go_at_call 13; refine (Same_yes _ _ _ _ (s1.out _ hb5) (s2.out _ hb5)).mono ?_; rintro e w6 ⟨rfl, hb6⟩))
  go_ret
  exact ⟨rfl, Below.next (Below.next hB4 hb5) hb6⟩

end Go.Proofs.Ytilkjkmgokbmoaa
