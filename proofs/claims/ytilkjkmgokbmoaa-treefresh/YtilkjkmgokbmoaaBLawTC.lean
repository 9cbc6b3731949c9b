/-
  TreeTrees' walk.
-/
import Derived.Test.YtilkjkmgokbmoaaBTreN
namespace Go.Proofs.Ytilkjkmgokbmoaa
open Go.RowKit Fld
set_option linter.unusedVariables false

theorem TallE.wd {f : Int} {xs : List Int} {N : Nat} (h : TallE f xs N) (hN : 0 < N) : chk f [xs] = 0 ∧ N ≤ 12 ∧ ∀ k, (∀ i, Wd ((tre (pOf f) xs k).getD i [])) ∧ (tre (pOf f) xs k).length ≤ 2048 := by
  by_cases he : chk f [xs] = 0
  · obtain ⟨p, wd, hf, _, hl⟩ := chk_one he
    refine ⟨he, (h.1 he).le hl, fun k => ⟨?_, ?_⟩⟩
    · rw [pOf_eq hf]; exact lvl_wd hf.md hf.top xs _ hl
    · rw [show (tre (pOf f) xs k).length = _ from lvl_len _ xs (2 ^ k)]
      apply Nat.le_of_not_lt; intro hcon
      have := (cn_lt (Nat.pow_pos (by decide))).1 hcon
      have := Nat.le_mul_of_pos_right 2048 (Nat.pow_pos (n := k) (show 0 < 2 by decide))
      omega
  · have := h.2 he; omega
/-- A level for reading. -/
theorem Lvs.reads {w : World} {f : Int} {xs : List Int} {lo N : Nat} {cut : Nat → Nat} {v : Value} {vs : List Value} {uss : Nat → List Value} (h : Lvs w lo cut v vs uss (tre (pOf f) xs) N) (hT : TallE f xs N) {k : Nat} (hk : k < N) :
    ∃ g cap, v = .slice (some ⟨g, 0, none⟩) N cap ∧ g < w.heap.size ∧ w.cell? ⟨g, k, none⟩ = some (vs.getD k nov) ∧ Rws w (vs.getD k nov) (tre (pOf f) xs k) := by
  obtain ⟨g, cap, hv, _, hg⟩ := h.row.form (by omega)
  subst hv
  have hw := (hT.wd (by omega)).2.2 k
  exact ⟨g, cap, rfl, hg, h.level hk, (h.each k hk).rws hw.1 (by omega)⟩
theorem Lvs.spelt {w : World} {lo N : Nat} {cut : Nat → Nat} {v : Value} {vs : List Value} {uss : Nat → List Value} {A : Nat → List (List Int)} (h : Lvs w lo cut v vs uss A N) : ∃ a c, v = .slice a N c := own_form h.row

set_option maxRecDepth 100000 in
set_option maxHeartbeats 400000 in
theorem ttrees_any (f : Int) (v : Value) (xs : List Int) (w : World) (h1 : Rw w v xs) :
    Calls Try.prog 3 #[.int .u8 f, v] w fun e w' => e = .returned (.bool true) ∧ Below w.heap.size w w' := by
  have c1 := hide (tZero_any f v xs w h1)
  have c2 := hide (fun W (hb : Below w.heap.size w W) => dZero_any f v xs W (h1.below hb))
  have c3 := hide (fun W (hb : Below w.heap.size w W) => tTree_any f v xs W (h1.below hb))
  have c4 := hide (fun W (hb : Below w.heap.size w W) => dTree_any f v xs W (h1.below hb))
  have ga := hide (fun W => anch6 W)
  have WZ := hide (zeroL_wd f xs)
  unfold Gives at c1 c2
  unfold GivesT at c3 c4
  obtain ⟨a1, k1, rfl, _⟩ := h1.spell
  clear h1
  generalize zeroL f xs = Z at *
  obtain ⟨e1, HE1⟩ : ∃ e1, Hid (chk f [xs] = e1) := ⟨_, rfl⟩
  rw [HE1.out] at c1 c2 c3 c4
  go_enter Try.func3, Try.ntmps3
  go_wp2_with fail
  refine c1.out.mono ?_; rintro e w1 ⟨u1, rfl, hO1, hb1⟩
  go_wp2_with fail
  refine (c2.out _ hb1).mono ?_; rintro e w2 ⟨u2, rfl, hO2, hb2⟩
  have hB2 := Below.next hb1 hb2
  go_wp2_with fail
  refine (c3.out _ hB2).mono ?_; rintro e w3 ⟨u3, cut3, vs3, uss3, N, rfl, hV3, hT3, _, hb3⟩
  have hB3 := Below.next hB2 hb3
  go_wp2_with fail
  refine (c4.out _ hB3).mono ?_; rintro e w4 ⟨u4, cut4, vs4, uss4, N4, rfl, hV4, hT4, _, hb4⟩
  have hB4 := Below.next hB3 hb4
  have : N4 = N := hT4.only hT3
  subst this
  have r1 := hide (WZ.out.row (own_below (own_below (own_below hO1 hb2) hb3) hb4)).1
  have r2 := hide (WZ.out.row (own_below (own_below hO2 hb3) hb4)).1
  have HV3 := hide (fun W (hb : Below w4.heap.size w4 W) => (hV3.below hb4).below hb)
  have HV4 := hide (fun W (hb : Below w4.heap.size w4 W) => hV4.below hb)
  have HT := hide hT3
  have hN12 : N4 ≤ 12 := by
    by_cases h0 : 0 < N4
    · exact (hT3.wd h0).2.1
    · omega
  obtain ⟨a3, k3, rfl⟩ := hV3.spelt
  obtain ⟨a4, k4, rfl⟩ := hV4.spelt
  clear hO1 hO2 hV3 hV4 hT3 hT4
  go_wp2_with (go_at_call 13; refine (Same_yes _ _ _ _ r1.out r2.out).mono ?_; rintro e w5 ⟨rfl, hb5⟩)
  go_loopw [14] (fun vi wr => ∃ k : Nat, k ≤ N4 ∧ vi = .int .i64 k ∧ Below w4.heap.size w4 wr) (fun vi _ => N4 - (intOf vi).toNat)
  case atStart => exact ⟨0, Nat.zero_le _, rfl, hb5⟩
  case round =>
    clear hb5
    obtain ⟨k, hk, rfl, hB⟩ := hrel
    by_cases hlt : k < N4
    · obtain ⟨g3, cap3, e3, hg3, d3, R3⟩ := (HV3.out wr hB).reads HT.out hlt
      obtain ⟨g4, cap4, e4, hg4, d4, R4⟩ := (HV4.out wr hB).reads HT.out hlt
      cases e3
      cases e4
      have HRo := hide (fun n => Rows_quiet _ _ _ (wr.drewN n) (R3.below (drewN_below wr n)) (R4.below (drewN_below wr n)))
      obtain ⟨z3, y3, hz3, _⟩ := R3
      obtain ⟨z4, y4, hz4, _⟩ := R4
      rw [hz3] at d3 HRo
      rw [hz4] at d4 HRo
      have k0 : (0 : Int) ≤ (k : Int) := by omega
      have k2 : (k : Int) < (N4 : Int) := by omega
      generalize (tre (pOf f) xs k).length = ln at *
      clear HV3 HV4 hz3 hz4
      go_wp2_with fail
      go_quiet ((first
        | (go_at_call 14; exact Calls.quiet_of (HRo.out _))))
      have hB2 := below_drewN hB nq
      clear hB
      go_wp2
      go_roundw
      case rel => exact ⟨k + 1, by omega, by go_num, hB2⟩
      case measure => simp [intOf]; omega
    · clear HV3 HV4
      go_wp2_with (go_at_call 15; refine (ga.out _).mono ?_; rintro e w8 ⟨rfl, hb8⟩)
      go_ret
      exact ⟨rfl, Below.next (Below.next hB4 hB) hb8⟩

end Go.Proofs.Ytilkjkmgokbmoaa
