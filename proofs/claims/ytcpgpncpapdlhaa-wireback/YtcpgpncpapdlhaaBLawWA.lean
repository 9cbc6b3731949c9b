/-
  The statements of layer 8: anchored; WireCounts, WireLists and WireSeals walked.
-/
import Derived.Test.YtcpgpncpapdlhaaBWirO
import Derived.Test.YtcpgpncpapdlhaaBWirM
import Derived.Test.YtcpgpncpapdlhaaBunW
namespace Go.Proofs.Ytcpgpncpapdlhaa
open Go.RowKit Fld
set_option linter.unusedVariables false

/-- Bytes that may lie in memory. -/
def Ok8 (bs : List Int) : Prop := By bs ∧ bs.length ≤ 2097152
theorem Ok8.rb {w : World} {base n : Nat} {v : Value} {bs : List Int} {T : TypeId} (h : Ok8 bs) (ho : w.ownsRow base T 1 v n (valb bs)) : Rb w v bs := rb_of_own ho h.1 (by have := h.2; omega)
theorem ctL_ok (n : Int) : Ok8 (ctL n) := by
  rcases ctE_or n with ⟨_, _, _, e⟩ | ⟨_, _, e⟩
  · rw [e]; exact ⟨wd8_by _ _, by rw [wd8_len]; omega⟩
  · rw [e]; exact ⟨By.nil, by simp⟩
theorem lsF_ok {f : Int} {l : List Int} (h : lsE f l = 0) : Ok8 (lsF f l) := by
  obtain ⟨hi, hl⟩ := lsE_zero h
  have hf := inW_field hi
  refine ⟨lsF_by hf l, ?_⟩
  rw [lsF_len]
  have := Nat.mul_le_mul hl (show wF f ≤ 8 by have := wF_or hf; omega)
  omega
theorem lsL_ok (f : Int) (l : List Int) : Ok8 (lsL f l) := by
  unfold lsL
  by_cases h : lsE f l = 0
  · rw [if_pos h]; exact lsF_ok h
  · rw [if_neg h]; exact ⟨By.nil, by simp⟩
theorem slL_ok {bs : List Int} (hb : By bs) : Ok8 (slL sum8 bs) := by
  rcases slE_or bs with ⟨_, _, e⟩ | ⟨hl, _, e⟩
  · rw [e]; exact ⟨By.nil, by simp⟩
  · rw [e]; exact ⟨slF_by _ hb, by rw [slF_len]; omega⟩
theorem usL_ok {bs : List Int} (hb : By bs) : Ok8 (usL sum8 bs) := by
  by_cases h : usE sum8 bs = 0
  · refine ⟨?_, by rw [usL_len h]; have := (usE_zero h).2.1; omega⟩
    unfold usL; rw [if_pos h]; exact (hb.drop 4).take _
  · unfold usL; rw [if_neg h]; exact ⟨By.nil, by simp⟩
theorem rlLo_ok {bs : List Int} (hb : By bs) : (rlLo bs).length ≤ 4096 ∧ ∀ x ∈ rlLo bs, 0 ≤ x ∧ x ≤ 18446744073709551615 := by
  by_cases h : rlE bs = 0
  · obtain ⟨_, hf, _, hn, _, _⟩ := rlE_zero h
    have hq := wF_or hf
    unfold rlLo; rw [if_pos h]
    exact ⟨by rw [rlX_len]; exact hn, rdL_words (by omega) _ _ (hb.drop 5)⟩
  · unfold rlLo; rw [if_neg h]; exact ⟨by simp, fun x hx => by cases hx⟩
theorem rlLo_row {bs : List Int} (hb : By bs) {w : World} {base : Nat} {v : Value} (ho : w.ownsRow base 32 1 v (rlLo bs).length (vals (rlLo bs))) : Row w v (rlLo bs) := row_of_own ho rfl (by have := (rlLo_ok hb).1; omega) (rlLo_ok hb).2

theorem rb_lit (w : World) (T : TypeId) (bs : List Int) (hb : By bs) (hl : bs.length ≤ 2097152) : Rb (w.alloc (.cells (valb bs).toArray T)) (.slice (some ⟨w.heap.size, 0, none⟩) bs.length bs.length) bs := by
  refine ⟨_, _, rfl, ⟨Nat.le_refl _, by omega, fun h => by cases h⟩, hb, fun _ => ⟨w.heap.size, 0, rfl, by simp, fun i hi => ?_⟩⟩
  rw [cell_of_row _ w.heap.size (0 + i) (valb bs).toArray T (0, 0) (heap_alloc_new w _), Nat.zero_add]
  simpa using valb_at bs i hi

set_option maxRecDepth 100000 in
set_option maxHeartbeats 400000 in
theorem anch8 (w : World) : Calls Try.prog 25 #[] w fun e w' => e = .returned (.bool true) ∧ Below w.heap.size w w' := by
  have HL := hide (wList 1 _ [1] _ ⟨by decide, by decide⟩ (row_one w 1 (by decide) 32))
  unfold GivesB at HL
  have e1 : lsE 1 [1] = 0 := by decide
  have e2 : lsL 1 [1] = [1, 0, 0, 0, 1, 0, 0, 0, 1] := by decide
  rw [e1, e2] at HL
  have hB1 := alloc_below w (.cells #[.int .u64 1] 32)
  have HC := hide (fun W T => wReadCount _ [128, 0, 0, 0] _ (rb_lit W T [128, 0, 0, 0] (by unfold By; decide) (by decide)))
  have f1 : rcE [128, 0, 0, 0] = 8 := by decide
  have f2 : rcN [128, 0, 0, 0] = 0 := by decide
  have f3 : rcS [128, 0, 0, 0] = 0 := by decide
  rw [f1, f2, f3] at HC
  have HO : Hid (∀ W base v, World.ownsRow W base 5 1 v 9 (valb [1, 0, 0, 0, 1, 0, 0, 0, 1]) → Rb W v [1, 0, 0, 0, 1, 0, 0, 0, 1]) := fun W base v ho => rb_of_own ho (by unfold By; decide) (by decide)
  have HS := hide (fun W v T (hr : Rb W v [1, 0, 0, 0, 1, 0, 0, 0, 1]) => rSame8 v _ _ [1, 0, 0, 0, 1, 0, 0, 0, 1] (W.alloc (.cells (valb [1, 0, 0, 0, 1, 0, 0, 0, 1]).toArray T)) (hr.below (alloc_below W _)) (rb_lit W T [1, 0, 0, 0, 1, 0, 0, 0, 1] (by unfold By; decide) (by decide)))
  have HM := hide (fun W => wSum (.slice none 0 0) [] W (rb_nil W))
  have g1 : sum8 [] = 14695981039346656037 := rfl
  rw [g1] at HM
  clear e1 e2 f1 f2 f3 g1
  go_enter Try.func25, Try.ntmps25
  go_wp2_with (first
    | (go_at_call 16; refine HL.out.mono ?_; rintro e w2 ⟨v2, rfl, ho2, hb2⟩; have hB2 := Below.next hB1 hb2)
    | (go_at_call 11; refine (HC.out _ _).mono ?_; rintro e w3 ⟨rfl, hb3⟩; have hb3' := Below.next (alloc_below w2 _) hb3; have hB3 := Below.next hB2 hb3'; have hr3 := (HO.out _ _ _ ho2).below hb3'; obtain ⟨a2, c2, hv2⟩ := own_form ho2; subst hv2)
    | (go_at_call 15; refine (HS.out _ _ _ hr3).mono ?_; rintro e w4 ⟨rfl, hw4⟩; subst hw4)
    | (go_at_call 13; refine (HM.out _).mono ?_; rintro e w5 ⟨rfl, hw5⟩; subst hw5))
  go_ret
  exact ⟨by simp, hB3.alloc hB3.size _⟩

set_option maxRecDepth 100000 in
set_option maxHeartbeats 1000000 in
theorem wcounts_any (v : Value) (bs : List Int) (n : Int) (w : World) (h : Rb w v bs) (hn : -9223372036854775808 ≤ n ∧ n ≤ 9223372036854775807) :
    Calls Try.prog 3 #[v, .int .i64 n] w fun e w' => e = .returned (.bool true) ∧ Below w.heap.size w w' := by
  have H1 := hide (fun W => wCount n W hn)
  have H2 := hide (fun W => rCount n W hn)
  unfold GivesB at H1 H2
  have H3 := hide (fun W (hb : Below w.heap.size w W) => wReadCount v bs W (h.below hb))
  have H4 := hide (fun W (hb : Below w.heap.size w W) => rReadCount v bs W (h.below hb))
  have H5 := hide (fun W (hb : Below w.heap.size w W) => wSum v bs W (h.below hb))
  have H6 := hide (fun W (hb : Below w.heap.size w W) => rSum v bs W (h.below hb))
  have HO := hide (fun W base u m (ho : World.ownsRow W base 5 1 u m (valb (ctL n))) => (ctL_ok n).rb ho)
  have HS := hide (fun W u1 u2 (r1 : Rb W u1 (ctL n)) (r2 : Rb W u2 (ctL n)) => rSame8 u1 u2 _ _ W r1 r2)
  rw [decide_eq_true rfl] at HS
  obtain ⟨ao, cap, rfl, _⟩ := h.spell
  clear h
  generalize ctE n = e1 at *
  generalize ctL n = l1 at *
  generalize rcN bs = e2 at *
  generalize rcS bs = e3 at *
  generalize rcE bs = e4 at *
  generalize sum8 bs = e5 at *
  go_enter Try.func3, Try.ntmps3
  go_wp2_with (first
    | (go_at_call 9; refine (H1.out _).mono ?_; rintro e w1 ⟨v1, rfl, ho1, hb1⟩)
    | (go_at_call 10; refine (H2.out _).mono ?_; rintro e w2 ⟨v2, rfl, ho2, hb2⟩; have hB2 := Below.next hb1 hb2)
    | (go_at_call 11; refine (H3.out _ hB2).mono ?_; rintro e w3 ⟨rfl, hb3⟩; have hB3 := Below.next hB2 hb3; have r1 := HO.out _ _ _ _ (own_below (own_below ho1 hb2) hb3); have r2 := HO.out _ _ _ _ (own_below ho2 hb3); obtain ⟨a1, c1, hv1⟩ := own_form ho1; obtain ⟨a2, c2, hv2⟩ := own_form ho2; subst hv1 hv2)
    | (go_at_call 12; refine (H4.out _ hB3).mono ?_; rintro e w4 ⟨rfl, hw4⟩; subst hw4)
    | (go_at_call 13; refine (H5.out _ hB3).mono ?_; rintro e w5 ⟨rfl, hw5⟩; subst hw5)
    | (go_at_call 14; refine (H6.out _ hB3).mono ?_; rintro e w6 ⟨rfl, hw6⟩; subst hw6)
    | (go_at_call 15; refine (HS.out _ _ _ r1 r2).mono ?_; rintro e w7 ⟨rfl, hw7⟩; subst hw7))
  go_ret
  exact ⟨by simp, hB3⟩

set_option maxRecDepth 100000 in
set_option maxHeartbeats 1000000 in
theorem wlists_any (f : Int) (u : Value) (l : List Int) (v : Value) (bs : List Int) (w : World) (hf : 0 ≤ f ∧ f ≤ 255) (hl : Row w u l) (h : Rb w v bs) :
    Calls Try.prog 4 #[.int .u8 f, u, v] w fun e w' => e = .returned (.bool true) ∧ Below w.heap.size w w' := by
  have H1 := hide (wList f u l w hf hl)
  have H2 := hide (fun W (hb : Below w.heap.size w W) => rList f u l W hf (hl.below hb))
  unfold GivesB at H1 H2
  have H3 := hide (fun W (hb : Below w.heap.size w W) => wReadList v bs W (h.below hb))
  have H4 := hide (fun W (hb : Below w.heap.size w W) => rReadList v bs W (h.below hb))
  unfold GivesR8 at H3 H4
  have HO := hide (fun W base x m (ho : World.ownsRow W base 5 1 x m (valb (lsL f l))) => (lsL_ok f l).rb ho)
  have HS := hide (fun W u1 u2 (r1 : Rb W u1 (lsL f l)) (r2 : Rb W u2 (lsL f l)) => rSame8 u1 u2 _ _ W r1 r2)
  rw [decide_eq_true rfl] at HS
  have HR := hide (fun W base x (ho : World.ownsRow W base 32 1 x (rlLo bs).length (vals (rlLo bs))) => rlLo_row h.by ho)
  have HY := hide (fun W u1 u2 (r1 : Row W u1 (rlLo bs)) (r2 : Row W u2 (rlLo bs)) => Same_yes u1 u2 _ W r1 r2)
  obtain ⟨ao, cap, rfl, _⟩ := h.spell
  obtain ⟨ao2, cap2, rfl, _⟩ := hl
  clear h
  generalize lsE f l = e1 at *
  generalize lsL f l = l1 at *
  generalize rlFo bs = e2 at *
  generalize rlLo bs = l2 at *
  generalize rlSo bs = e3 at *
  generalize rlE bs = e4 at *
  go_enter Try.func4, Try.ntmps4
  go_wp2_with (first
    | (go_at_call 16; refine H1.out.mono ?_; rintro e w1 ⟨v1, rfl, ho1, hb1⟩)
    | (go_at_call 17; refine (H2.out _ hb1).mono ?_; rintro e w2 ⟨v2, rfl, ho2, hb2⟩; have hB2 := Below.next hb1 hb2)
    | (go_at_call 18; refine (H3.out _ hB2).mono ?_; rintro e w3 ⟨v3, rfl, ho3, hb3⟩; have hB3 := Below.next hB2 hb3)
    | (go_at_call 19; refine (H4.out _ hB3).mono ?_; rintro e w4 ⟨v4, rfl, ho4, hb4⟩; have hB4 := Below.next hB3 hb4; have r1 := HO.out _ _ _ _ (own_below (own_below (own_below ho1 hb2) hb3) hb4); have r2 := HO.out _ _ _ _ (own_below (own_below ho2 hb3) hb4); have r3 := HR.out _ _ _ (own_below ho3 hb4); have r4 := HR.out _ _ _ ho4; obtain ⟨a1, c1, hv1⟩ := own_form ho1; obtain ⟨a2, c2, hv2⟩ := own_form ho2; obtain ⟨a3, c3, hv3⟩ := own_form ho3; obtain ⟨a4, c4, hv4⟩ := own_form ho4; subst hv1 hv2 hv3 hv4)
    | (go_at_call 15; refine (HS.out _ _ _ r1 r2).mono ?_; rintro e w7 ⟨rfl, hw7⟩; subst hw7)
    | (go_at_call 20; refine (HY.out _ _ _ r3 r4).mono ?_; rintro e w8 ⟨rfl, hb8⟩; have hB8 := Below.next hB4 hb8))
  go_ret
  exact ⟨by simp, hB8⟩

set_option maxRecDepth 100000 in
set_option maxHeartbeats 1000000 in
theorem wseals_any (v : Value) (as8 : List Int) (u : Value) (bs : List Int) (w : World) (ha : Rb w v as8) (h : Rb w u bs) :
    Calls Try.prog 5 #[v, u] w fun e w' => e = .returned (.bool true) ∧ Below w.heap.size w w' := by
  have H1 := hide (wSeal v as8 w ha)
  have H2 := hide (fun W (hb : Below w.heap.size w W) => rSeal v as8 W (ha.below hb))
  unfold GivesB at H1 H2
  have H3 := hide (fun W (hb : Below w.heap.size w W) => wUnseal u bs W (h.below hb))
  have H4 := hide (fun W (hb : Below w.heap.size w W) => rUnseal u bs W (h.below hb))
  unfold GivesU at H3 H4
  have HO := hide (fun W base x m (ho : World.ownsRow W base 5 1 x m (valb (slL sum8 as8))) => (slL_ok ha.by).rb ho)
  have HS := hide (fun W u1 u2 (r1 : Rb W u1 (slL sum8 as8)) (r2 : Rb W u2 (slL sum8 as8)) => rSame8 u1 u2 _ _ W r1 r2)
  have HR := hide (fun W base x m (ho : World.ownsRow W base 5 1 x m (valb (usL sum8 bs))) => (usL_ok h.by).rb ho)
  have HY := hide (fun W u1 u2 (r1 : Rb W u1 (usL sum8 bs)) (r2 : Rb W u2 (usL sum8 bs)) => rSame8 u1 u2 _ _ W r1 r2)
  rw [decide_eq_true rfl] at HS HY
  have ga := hide (fun W => anch8 W)
  obtain ⟨ao, cap, rfl, _⟩ := h.spell
  obtain ⟨ao2, cap2, rfl, _⟩ := ha.spell
  clear h ha
  generalize slE as8 = e1 at *
  generalize slL sum8 as8 = l1 at *
  generalize usL sum8 bs = l2 at *
  generalize usSo sum8 bs = e3 at *
  generalize usE sum8 bs = e4 at *
  go_enter Try.func5, Try.ntmps5
  go_wp2_with (first
    | (go_at_call 21; refine H1.out.mono ?_; rintro e w1 ⟨v1, rfl, ho1, hb1⟩)
    | (go_at_call 22; refine (H2.out _ hb1).mono ?_; rintro e w2 ⟨v2, rfl, ho2, hb2⟩; have hB2 := Below.next hb1 hb2)
    | (go_at_call 23; refine (H3.out _ hB2).mono ?_; rintro e w3 ⟨v3, rfl, ho3, hb3⟩; have hB3 := Below.next hB2 hb3)
    | (go_at_call 24; refine (H4.out _ hB3).mono ?_; rintro e w4 ⟨v4, rfl, ho4, hb4⟩; have hB4 := Below.next hB3 hb4; have r1 := HO.out _ _ _ _ (own_below (own_below (own_below ho1 hb2) hb3) hb4); have r2 := HO.out _ _ _ _ (own_below (own_below ho2 hb3) hb4); have r3 := HR.out _ _ _ _ (own_below ho3 hb4); have r4 := HR.out _ _ _ _ ho4; obtain ⟨a1, c1, hv1⟩ := own_form ho1; obtain ⟨a2, c2, hv2⟩ := own_form ho2; obtain ⟨a3, c3, hv3⟩ := own_form ho3; obtain ⟨a4, c4, hv4⟩ := own_form ho4; subst hv1 hv2 hv3 hv4; have Hs1 := hide (HS.out _ _ _ r1 r2); have Hs2 := hide (HY.out _ _ _ r3 r4))
    | (go_at_call_of 15 (Value.slice a1 l1.length c1); refine Hs1.out.mono ?_; rintro e w7 ⟨rfl, hw7⟩; rw [hw7]; clear hw7)
    | (go_at_call_of 15 (Value.slice a3 l2.length c3); refine Hs2.out.mono ?_; rintro e w8 ⟨rfl, hw8⟩; rw [hw8]; clear hw8)
    | (go_at_call 25; refine (ga.out _).mono ?_; rintro e w9 ⟨rfl, hb9⟩; have hB9 := Below.next hB4 hb9))
  go_ret
  exact ⟨by simp, hB9⟩

end Go.Proofs.Ytcpgpncpapdlhaa
