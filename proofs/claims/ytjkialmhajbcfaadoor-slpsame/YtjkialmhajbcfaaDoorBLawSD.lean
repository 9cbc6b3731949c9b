/-
  The statements of layer 9: SlpSame walked.
-/
import Derived.Test.YtjkialmhajbcfaaDoorBLawSA
import Derived.Test.YtjkialmhajbcfaaDoorBSlxL
namespace Go.Proofs.YtjkialmhajbcfaaDoor
open Go.RowKit Fld Slp
set_option linter.unusedVariables false
set_option linter.unusedSimpArgs false

set_option maxRecDepth 100000 in
set_option maxHeartbeats 1000000 in
theorem same_not (w : World) (vp : Value) (p : Pr) (hp : Pm w vp p) (hT : Tb9 w) (hm : mayB p = false) : Calls Tryd.prog 7 #[vp] w fun e w' => e = .returned (.bool true) ∧ Below w.heap.size w w' := by
  have HP := hide hp
  have HT := hide hT
  clear hT
  obtain ⟨vo, vu, rfl, ho, hu⟩ := hp.form
  obtain ⟨ao, co, rfl, _⟩ := ho.spell
  obtain ⟨au, cu, rfl, _⟩ := hu.spell
  clear hp ho hu
  have hA := alloc_below w (.cells #[.int .i64 p.inp, .slice ao p.ops.length co, .slice au p.outs.length cu] 25)
  have hN := heap_alloc_new w (.cells #[.int .i64 p.inp, .slice ao p.ops.length co, .slice au p.outs.length cu] 25)
  have HM := hide (fun W' (hb : Below w.heap.size w W') => dMay _ p W' (HP.out.below hb))
  have HM2 := hide (fun W' (hb : Below w.heap.size w W') => sMay _ p W' (HP.out.below hb))
  have HA := hide (fun W' (hb : Below w.heap.size w W') => anch9 W' (HT.out.below hb))
  unfold Anch9 at HA
  rw [hm] at HM HM2
  clear hm
  go_enter Tryd.func7, Tryd.ntmps7
  go_wp2_with (first
    | (go_at_call 10; refine (HM.out _ hA).mono ?_; rintro e w2 ⟨rfl, hb2⟩; have hB2 := Below.next hA hb2; have n2 := (hb2.block _ (Array.getElem?_eq_some_iff.1 hN).1).trans hN)
    | (go_at_call 13; refine (HA.out _ hB2).mono ?_; rintro e w3 ⟨rfl, hb3⟩; have hB3 := Below.next hB2 hb3; obtain ⟨c0, c1, c2⟩ := cell3 ((hb3.block _ (Array.getElem?_eq_some_iff.1 n2).1).trans n2))
    | (go_at_call 9; refine (HM2.out _ hB3).mono ?_; rintro e w4 ⟨rfl, hb4⟩; have hB4 := Below.next hB3 hb4))
  go_ret
  exact ⟨rfl, hB4⟩

set_option maxRecDepth 100000 in
set_option maxHeartbeats 1000000 in
theorem same_yes (w : World) (vp : Value) (p : Pr) (hp : Pm w vp p) (hT : Tb9 w) (hm : mayB p = true) : Calls Tryd.prog 7 #[vp] w fun e w' => e = .returned (.bool true) ∧ Below w.heap.size w w' := by
  have HP := hide hp
  have HT := hide hT
  clear hT
  obtain ⟨⟨i0, i1, l1, l2⟩, hx1, hx2⟩ := mayB_iff.1 hm
  clear hx1 hx2
  obtain ⟨n, hn⟩ := Int.eq_ofNat_of_zero_le i0
  obtain ⟨eA1, eA2⟩ := after_hand hm
  obtain ⟨eB1, eB2⟩ := hand_after hm
  rw [hn, Int.toNat_natCast] at eA1 eA2
  have eA3 : aftP p (hand n) = p := by unfold aftP; rw [if_pos eA1, eA2]
  have eB3 : aftP (hand p.outs.length) p = p := by unfold aftP; rw [if_pos eB1, eB2]
  have h64 : n ≤ 64 := by omega
  obtain ⟨vo, vu, rfl, ho, hu⟩ := hp.form
  obtain ⟨ao, co, rfl, _⟩ := ho.spell
  obtain ⟨au, cu, rfl, _⟩ := hu.spell
  clear hp ho hu
  have hA := alloc_below w (.cells #[.int .i64 p.inp, .slice ao p.ops.length co, .slice au p.outs.length cu] 25)
  have hN := heap_alloc_new w (.cells #[.int .i64 p.inp, .slice ao p.ops.length co, .slice au p.outs.length cu] 25)
  have HM := hide (fun W' (hb : Below w.heap.size w W') => dMay _ p W' (HP.out.below hb))
  have HA := hide (fun W' (hb : Below w.heap.size w W') => anch9 W' (HT.out.below hb))
  unfold Anch9 at HA
  rw [hm] at HM
  have HX := hide (fun W' v (hb : Below w.heap.size w W') (h2 : Pm W' v (hand n)) => sAfter W' _ v p (hand n) (HP.out.below hb) h2)
  have HY := hide (fun W' v (hb : Below w.heap.size w W') (h2 : Pm W' v (hand p.outs.length)) => sAfter W' v _ (hand p.outs.length) p h2 (HP.out.below hb))
  have HXp := hide (fun W' v w' vo vu B (hb : Below w.heap.size w W') (h2 : Pm W' v (hand n)) ho hu => aft_pm (w' := w') (vo := vo) (vu := vu) (B := B) (HP.out.below hb) h2 ho hu)
  have HYp := hide (fun W' v w' vo vu B (hb : Below w.heap.size w W') (h2 : Pm W' v (hand p.outs.length)) ho hu => aft_pm (w' := w') (vo := vo) (vu := vu) (B := B) h2 (HP.out.below hb) ho hu)
  unfold IsAfter at HX HY
  rw [eA1, eA3] at HX
  rw [eB1, eB3] at HY
  rw [eA3] at HXp
  rw [eB3] at HYp
  have HS := hide (fun W' v (hb : Below w.heap.size w W') (h2 : Pm W' v p) => dSame v _ p p W' h2 (HP.out.below hb))
  unfold IsSame at HS
  have HPh := hide (fun W B u ho => pm_hand (W := W) (B := B) (u := u) h64 ho)
  have HPk := hide (fun W B u ho => pm_hand (W := W) (B := B) (u := u) l2 ho)
  have HN := hide hn
  clear hm eA1 eA2 eA3 eB1 eB2 eB3 i0 l1 hn
  go_enter Tryd.func7, Tryd.ntmps7
  go_upto_region 3 with (go_at_call 10; refine (HM.out _ hA).mono ?_; rintro e w2 ⟨rfl, hb2⟩; have hB2 := Below.next hA hb2; have n2 := (hb2.block _ (Array.getElem?_eq_some_iff.1 hN).1).trans hN; obtain ⟨c0, c1, c2⟩ := cell3 n2)
  go_cut [3, 4] from 20 to 26 (fun v3 v4 wx => ∃ b3 b4, v3 = .pointer (some ⟨b3, 0, none⟩) ∧ v4 = .pointer (some ⟨b4, 0, none⟩) ∧ Sm w wx p (.slice ao p.ops.length co) (.slice au p.outs.length cu) b3 b4 (.slice none 0 0) (.slice none 0 0) [] [])
  case first =>
    have HS0 : Hid (∀ W, Below w2.heap.size w2 W → W.cell? ⟨w.heap.size, 0, none⟩ = some (.int .i64 p.inp) ∧ W.cell? ⟨w.heap.size, 2, none⟩ = some (.slice au p.outs.length cu)) := fun W hb => ⟨(hb.cell (cell_in c0)).trans c0, (hb.cell (cell_in c2)).trans c2⟩
    have hS0 := HS0.out w2.drew (Below.refl _ w2).drew
    have hS1 := fun o => HS0.out _ (alloc_below w2 o).drew
    have hS2 := fun o1 o2 => HS0.out _ ((alloc_below w2 o1).trans ((alloc_below _ o2).mono (by simp))).drew
    clear c0 c1 c2
    go_region_held3 (fun W' => W'.cell? ⟨w.heap.size, 0, none⟩ = some (.int .i64 p.inp) ∧ W'.cell? ⟨w.heap.size, 2, none⟩ = some (.slice au p.outs.length cu)) (first | with_reducible exact hS0 | with_reducible exact hS1 _ | with_reducible exact hS2 _ _) (fail)
    all_goals
      go_wp2_with fail
      go_meet
    · exact ⟨_, _, rfl, rfl, sm_new1 n2 hB2⟩
    · exact ⟨_, _, rfl, rfl, sm_new2 n2 hB2⟩
  case rest =>
    obtain ⟨b3, b4, rfl, rfl, D0⟩ := hcut
    have HD := hide D0
    clear D0 n2 hB2 c0 c1 c2 hb2 HM
    go_wp2_with fail
    go_loopw [5] (fun vi wr => ∃ (i : Nat) (ua : Value), (i : Int) ≤ p.inp ∧ vi = .int .i64 i ∧ Hid (Sm w wr p (.slice ao p.ops.length co) (.slice au p.outs.length cu) b3 b4 ua (.slice none 0 0) ((List.range i).map (fun j : Nat => (j : Int))) [])) (fun vi _ => n - (intOf vi).toNat)
    case atStart => exact ⟨0, _, by have := HN.out; omega, rfl, HD⟩
    case round =>
      clear HD
      obtain ⟨i, ua, hi, rfl, F⟩ := hrel
      obtain ⟨c0, c1, c2⟩ := cell3 F.out.bp
      by_cases hlt : (i : Int) < p.inp
      · obtain ⟨ta, tc, rfl⟩ := own_slice F.out.ra
        obtain ⟨a', c', W', hr, y, z, F4⟩ := F.out.appA (i : Int) (by rw [hands_len]; have := HN.out; omega)
        have HF4 := hide F4
        clear F4
        have d2 := (cell3 F.out.ba).2.2
        rw [hands_len] at d2 hr y HF4
        have hnx := hide (hands_next i)
        rw [← hnx.out] at HF4
        go_wp2_with (at_builtin; refine Lib.wpList_append_run _ rfl _ _ _ _ rfl _ _ rfl rfl _ _ hr ?_)
        go_roundw
        case rel => exact ⟨i + 1, _, by omega, by go_num, HF4⟩
        case measure => have := HN.out; simp [intOf]; omega
      · obtain rfl : i = n := by have := HN.out; omega
        go_wp2_with fail
        go_loopw [6] (fun vi wr => ∃ (j : Nat) (ub : Value), j ≤ p.outs.length ∧ vi = .int .i64 j ∧ Hid (Sm w wr p (.slice ao p.ops.length co) (.slice au p.outs.length cu) b3 b4 ua ub ((List.range i).map (fun j : Nat => (j : Int))) ((List.range j).map (fun j : Nat => (j : Int))))) (fun vi _ => p.outs.length - (intOf vi).toNat)
        case atStart => exact ⟨0, _, Nat.zero_le _, rfl, F⟩
        case round =>
          clear F c0 c1 c2
          obtain ⟨j, ub, hj, rfl, F⟩ := hrel
          obtain ⟨c0, c1, c2⟩ := cell3 F.out.bp
          by_cases hlj : j < p.outs.length
          · obtain ⟨ta, tc, rfl⟩ := own_slice F.out.rb
            obtain ⟨a', c', W', hr, y, z, F4⟩ := F.out.appB (j : Int) (by rw [hands_len]; omega)
            have HF4 := hide F4
            clear F4
            have d2 := (cell3 F.out.bb).2.2
            rw [hands_len] at d2 hr y
            have hnx := hide (hands_next j)
            rw [← hnx.out] at HF4
            have hl9 := hide (hands_len j)
            rw [hl9.out] at HF4
            have hj1 : (j : Int) < (p.outs.length : Int) := by omega
            go_wp2_with (at_builtin; refine Lib.wpList_append_run _ rfl _ _ _ _ rfl _ _ rfl rfl _ _ hr ?_)
            go_roundw
            case rel => exact ⟨j + 1, _, by omega, by go_num, HF4⟩
            case measure => simp [intOf]; omega
          · obtain rfl : j = p.outs.length := by omega
            have hx := HPh.out _ _ _ F.out.ra
            rw [← HN.out] at hx
            have HX1 := hide hx
            have HF := hide F.out
            obtain ⟨ta, tc, hta⟩ := own_slice F.out.ra
            obtain ⟨tb, td, htb⟩ := own_slice F.out.rb
            rw [hands_len] at hta htb
            subst hta htb
            obtain ⟨a0, a1, a2⟩ := cell3 F.out.ba
            clear hx
            go_wp2_with (first
              | (go_at_call 18; refine (HX.out _ _ HF.out.bl HX1.out).mono ?_; clear HX; rintro e w3 ⟨v3, u3, rfl, ho3, hu3, hb3⟩; have HP3 := hide (HXp.out _ _ _ _ _ _ HF.out.bl HX1.out ho3 hu3); obtain ⟨eo, fo, rfl⟩ := own_slice ho3; obtain ⟨eu, fu, rfl⟩ := own_slice hu3; have hA3 := alloc_below w3 (.cells #[.int .i64 p.inp, .slice eo p.ops.length fo, .slice eu p.outs.length fu] 25); have n3 := heap_alloc_new w3 (.cells #[.int .i64 p.inp, .slice eo p.ops.length fo, .slice eu p.outs.length fu] 25); have HF3 := hide ((HF.out.below hb3).below hA3); obtain ⟨p0, p1, p2⟩ := cell3 HF3.out.bp; obtain ⟨q0, q1, q2⟩ := cell3 HF3.out.bb; have HY1 := hide (HPk.out _ _ _ HF3.out.rb); clear ho3 hu3)
              | (go_at_call 18; refine (HY.out _ _ HF3.out.bl HY1.out).mono ?_; rintro e w5 ⟨v5, u5, rfl, ho5, hu5, hb5⟩; have HP5 := hide (HYp.out _ _ _ _ _ _ HF3.out.bl HY1.out ho5 hu5); obtain ⟨go, io, rfl⟩ := own_slice ho5; obtain ⟨gu, iu, rfl⟩ := own_slice hu5; have hA5 := alloc_below w5 (.cells #[.int .i64 p.inp, .slice go p.ops.length io, .slice gu p.outs.length iu] 25); have n5 := heap_alloc_new w5 (.cells #[.int .i64 p.inp, .slice go p.ops.length io, .slice gu p.outs.length iu] 25); have HF5 := hide ((HF3.out.below hb5).below hA5); have n4 := (hA5.block _ (Nat.lt_of_lt_of_le (Array.getElem?_eq_some_iff.1 n3).1 hb5.size)).trans ((hb5.block _ (Array.getElem?_eq_some_iff.1 n3).1).trans n3); clear ho5 hu5)
              | (go_at_call 13; refine (HA.out _ HF5.out.bl).mono ?_; rintro e w6 ⟨rfl, hb6⟩; have HF6 := hide (HF5.out.below hb6); have n6 := (hb6.block _ (Array.getElem?_eq_some_iff.1 n4).1).trans n4; have m6 := (hb6.block _ (Array.getElem?_eq_some_iff.1 n5).1).trans n5; obtain ⟨x0, x1, x2⟩ := cell3 n6; obtain ⟨y0, y1, y2⟩ := cell3 HF6.out.bp; have HP6 := hide ((((HP3.out.below hA3).below hb5).below hA5).below hb6); have HQ6 := hide ((HP5.out.below hA5).below hb6))
              | (go_at_call 12; with_reducible refine Calls.mono (HS.out _ _ HF6.out.bl HP6.out) ?_; rintro e w7 ⟨r7, rfl, hr7, hb7⟩; obtain rfl : r7 = true := (by simpa using hr7); clear hr7; have HF7 := hide (HF6.out.below hb7); obtain ⟨s0, s1, s2⟩ := cell3 ((hb7.block _ (Array.getElem?_eq_some_iff.1 m6).1).trans m6); obtain ⟨t0, t1, t2⟩ := cell3 HF7.out.bp; have HQ7 := hide (HQ6.out.below hb7))
              | (go_at_call 12; with_reducible refine Calls.mono (HS.out _ _ HF7.out.bl HQ7.out) ?_; rintro e w8 ⟨r8, rfl, hr8, hb8⟩; obtain rfl : r8 = true := (by simpa using hr8); clear hr8; have HF8 := hide (HF7.out.below hb8)))
            go_ret
            exact ⟨rfl, HF8.out.bl⟩

theorem same_any (w : World) (vp : Value) (p : Pr) (hp : Pm w vp p) (hT : Tb9 w) : Calls Tryd.prog 7 #[vp] w fun e w' => e = .returned (.bool true) ∧ Below w.heap.size w w' := by
  cases hm : mayB p with
  | false => exact same_not w vp p hp hT hm
  | true => exact same_yes w vp p hp hT hm

end Go.Proofs.YtjkialmhajbcfaaDoor
