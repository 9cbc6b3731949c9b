/-
  The statements of layer 13: PointsFree walked.
-/
import Derived.Test.YtifilgmjpflekaaBLawQA
import Derived.Test.YtifilgmjpflekaaBPntF
import Derived.Test.YtifilgmjpflekaaBPntK
import Derived.Test.YtifilgmjpflekaaBByA
namespace Go.Proofs.Ytifilgmjpflekaa
open Go.RowKit Fld Pln Rnk
set_option linter.unusedVariables false
set_option linter.unusedSimpArgs false

theorem turn_map {row : Int → List Int} {ws : List Int} {a b : Nat} (ha : a < ws.length) (hb : b < ws.length) : swp [] (ws.map row) a b = (swp 0 ws a b).map row := swp_map 0 [] row ws ha hb
theorem tmod_nat {x : Int} {N : Nat} (h0 : 0 ≤ x) (hN : 0 < N) : ∃ a : Nat, a < N ∧ x.tmod (N : Int) = (a : Int) := by
  refine ⟨(x % (N : Int)).toNat, ?_, ?_⟩
  · have := Int.emod_lt_of_pos x (show (0 : Int) < N by omega)
    have := Int.emod_nonneg x (show (N : Int) ≠ 0 by omega)
    omega
  · rw [Int.tmod_eq_emod_of_nonneg h0]
    have := Int.emod_nonneg x (show (N : Int) ≠ 0 by omega)
    omega

theorem rws_take {w : World} {ao : Option Addr} {n cap k : Nat} {xss : List (List Int)} (h : Rws w (.slice ao n cap) xss) (hk : k ≤ xss.length) : Rws w (.slice ao k cap) (xss.take k) := by
  obtain ⟨ao', cap', e, h2, h3, h4⟩ := h
  cases e
  have hl : (xss.take k).length = k := by rw [List.length_take]; omega
  refine ⟨ao, cap, by rw [hl], by omega, by omega, fun hne => ?_⟩
  obtain ⟨b, off, e, hb, hc⟩ := h4 (by intro e; subst e; simp at hne)
  refine ⟨b, off, e, hb, fun i hi => ?_⟩
  rw [hl] at hi
  obtain ⟨u, hu, hr⟩ := hc i (by omega)
  refine ⟨u, hu, ?_⟩
  rw [List.getD_eq_getElem?_getD, List.getElem?_take_of_lt hi, ← List.getD_eq_getElem?_getD]; exact hr
/-- The rows' last entries, each a piece of its row. -/
theorem pads_rws {w8 wr : World} {lo K T N M : Nat} {v8 v11 : Value} {us pus : List Value} {ws : List Int} {row : Int → List Int} (hT : Mtx w8 lo v8 us (ws.map row)) (hw : ∀ i, Wd ((ws.map row).getD i [])) (hl : ws.length = N) (hM : M ≤ N) (hM2 : M ≤ 64) (rl : ∀ z, (row z).length = K + T)
    (hO : wr.ownsRow w8.heap.size 26 1 v11 M pus) (hV : ∀ j, j < M → ∃ g cp, us.getD j nov = .slice (some ⟨g, 0, none⟩) (K + T) cp ∧ pus.getD j nov = .slice (some ⟨g, K, none⟩) T (cp - K)) (hB : Below w8.heap.size w8 wr) :
    Rws wr v11 ((ws.take M).map (fun z => (row z).drop K)) := by
  have hlen : ((ws.take M).map (fun z => (row z).drop K)).length = M := by rw [List.length_map, List.length_take]; omega
  have hpl : pus.length = M := by have := hO.1; omega
  rcases hO.2 with ⟨rfl, h0⟩ | ⟨g, cap, cur, rfl, h2, h3, h4, h5, h6, h7⟩
  · have : (ws.take M).map (fun z => (row z).drop K) = [] := List.length_eq_zero_iff.1 (by omega)
    rw [this]
    exact rws_nil wr
  · refine ⟨_, cap, by rw [hlen], by omega, by omega, fun hne => ⟨g, 0, rfl, own_top hO g rfl, fun i hi => ?_⟩⟩
    rw [hlen] at hi
    obtain ⟨gi, cp, e1, e2⟩ := hV i hi
    refine ⟨pus.getD i nov, ?_, ?_⟩
    · rw [Nat.zero_add]
      have := hO.cellAt i (by omega)
      rw [this, List.getD_eq_getElem?_getD, List.getElem?_eq_getElem (by omega)]; rfl
    · have hE := (hw i).row (hT.each i (by rw [List.length_map]; omega))
      rw [e1, map_row (by omega)] at hE
      have := (hE.piece (k := K) (m := T) (by rw [rl]; exact Nat.le_refl _)).below hB
      rw [e2]
      rw [map_row (by rw [List.length_take]; omega), co_take, if_pos hi]
      rw [Nat.zero_add] at this
      have e3 : ((row (co ws i)).drop K).take T = (row (co ws i)).drop K := List.take_of_length_le (by rw [List.length_drop, rl]; omega)
      rw [e3] at this
      exact this

set_option maxRecDepth 100000 in
set_option maxHeartbeats 2000000 in
theorem pointsFree_any (w : World) (p : Pn) (v1 : Value) (bs : List Int) (hp : Ok8p p) (h1 : Rb w v1 bs) : Calls Try.prog 6 #[plv p, v1] w fun e w' => e = .returned (.bool true) ∧ Below w.heap.size w w' := by
  have H1 := hide (fun W => gRows p W hp)
  have HM := hide (dMayP p hp)
  unfold GivesL at H1
  have HX := hide anch13
  have WD := hide (rws_wd p)
  obtain ⟨pb, hA⟩ := pb_box (w := w) p
  have hbl := h1.len
  obtain ⟨a1, cap1, rfl, _⟩ := h1.spell
  have HB := hide h1
  clear hp h1
  cases hm : mayP p with
  | false =>
    rw [hm] at HM
    rw [erP_no hm] at H1
    clear hm WD
    generalize rwsL p = rs at *
    generalize bs.length = nb at *
    unfold plv plw at *
    obtain ⟨c0, c1, c2, c3, c4, c5, c6, c7⟩ := pb.cells
    have HPb := hide pb
    clear pb
    go_enter Try.func6, Try.ntmps6
    go_wp2_with (first
      | (go_at_call 15; refine (H1.out _).mono ?_; rintro e w1 ⟨v1, us1, rfl, hL1, hb1⟩; clear c0 c1 c2 c3 c4 c5 c6 c7; obtain ⟨c0, c1, c2, c3, c4, c5, c6, c7⟩ := (HPb.out.below hb1).cells)
      | (go_at_call 18; refine (HM.out _).mono ?_; rintro e w6 ⟨rfl, hb6⟩; have hB6 := Below.next hb1 hb6)
      | (go_at_call 14; refine (HX.out _).mono ?_; rintro e w7 ⟨rfl, hb7⟩))
    go_ret
    exact ⟨rfl, Below.next (Below.next hA hB6) hb7⟩
  | true =>
    rw [hm] at HM
    rw [erP_yes hm] at H1
    obtain ⟨⟨n0, n1⟩, ⟨k0, k1⟩, ⟨t0, t1⟩, _⟩ := may_facts hm
    obtain ⟨q, wd, hf⟩ := may_field hm
    have hq0 := hf.pos
    have hq1 := hf.top
    have hrs := rwsL_map hm hf
    obtain ⟨K, hK⟩ : ∃ K : Nat, p.k.toNat = K := ⟨_, rfl⟩
    obtain ⟨T, hT⟩ : ∃ T : Nat, p.t.toNat = T := ⟨_, rfl⟩
    obtain ⟨N, hN⟩ : ∃ N : Nat, p.n.toNat = N := ⟨_, rfl⟩
    have ek : p.k = (K : Int) := by omega
    have et : p.t = (T : Int) := by omega
    have en : p.n = (N : Int) := by omega
    have F1 := hide (fun ws (hw : Wrk p q ws) n hn => free_whole hm hf hw (n := n) hn)
    have F2 := hide (fun ws (hw : Wrk p q ws) n hn => free_pads hm hf hw (n := n) hn)
    have RL : Hid (∀ z, (bsl q (innL p) z).length = K + T) := fun z => by rw [bsl_len, inn_len hm, hK, hT]
    have RE := hide (fun z => bsl_els hq0 (innL p) z)
    have W0 := hide (Wrk.first hm hf)
    have WL := hide (fun ws (hw : Wrk p q ws) => hw.len)
    have WP := hide (fun (ws vs : List Int) (hw : Wrk p q ws) (hp : vs.Perm ws) => hw.perm hp)
    have HR := hide (fun v c l W h1 h2 h3 h4 h5 h6 => dRank p.f q wd v l c W hf h1 h2 h3 h4 h5 h6)
    rw [hK, hT] at F1 F2
    rw [hN] at WL
    obtain ⟨row, hrow⟩ : ∃ row : Int → List Int, ∀ z, row z = bsl q (innL p) z := ⟨_, fun _ => rfl⟩
    have hfun : (fun z => bsl q (innL p) z) = row := funext fun z => (hrow z).symm
    have hfun2 : (fun z => (bsl q (innL p) z).drop K) = fun z => (row z).drop K := funext fun z => by rw [hrow]
    rw [hfun] at hrs F1
    rw [hfun2] at F2
    simp only [← hrow] at RL RE
    rw [hrs] at H1 WD
    have hw0 := WL.out _ W0.out
    clear hfun hfun2 hrow hrs hm hf
    generalize Wrk p q = Wk at *
    generalize outL p = zs0 at *
    have hl0 : (zs0.map row).length = N := by rw [List.length_map]; exact hw0
    have HCr := hide (fun v W (h1 : Rws W v (zs0.map row)) => CopyRows_all v (zs0.map row) W h1 (by rw [hl0]; omega))
    have WD2 : Hid (∀ (ws : List Int), ∀ i, Wd ((ws.map row).getD i [])) := fun ws i => by
      rcases Nat.lt_or_ge i ws.length with h | h
      · rw [map_row h]
        exact wd_els (RE.out _) hq1 (by rw [RL.out]; omega)
      · rw [List.getD_eq_getElem?_getD, List.getElem?_eq_none (by rw [List.length_map]; exact h)]; exact wd_nil
    obtain ⟨pf, pn, pk, pt, ps, pe, pw, pd⟩ := p
    simp only at ek et en
    subst ek et en
    unfold plv plw at *
    obtain ⟨c0, c1, c2, c3, c4, c5, c6, c7⟩ := pb.cells
    have HPb := hide pb
    clear pb hK hT hN
    dsimp only at *
    obtain ⟨nb, HNb⟩ : ∃ nb, Hid (bs.length = nb) := ⟨_, rfl⟩
    rw [HNb.out] at HB hbl ⊢
    go_enter Try.func6, Try.ntmps6
    go_upto_region 7 with (first
      | (go_at_call 15; refine (H1.out _).mono ?_; rintro e w1 ⟨v1, us1, rfl, hL1, hb1⟩; obtain ⟨a2, k2, rfl⟩ := own_form hL1.row; rw [hl0]; clear c0 c1 c2 c3 c4 c5 c6 c7; obtain ⟨c0, c1, c2, c3, c4, c5, c6, c7⟩ := (HPb.out.below hb1).cells)
      | (go_at_call 18; refine (HM.out _).mono ?_; rintro e w6 ⟨rfl, hb6⟩; have hB6 := Below.next hb1 hb6; clear c0 c1 c2 c3 c4 c5 c6 c7; obtain ⟨c0, c1, c2, c3, c4, c5, c6, c7⟩ := (HPb.out.below hB6).cells; have r1 := hide ((hL1.below hb6).rws (WD2.out zs0) (by rw [hl0]; omega)); rw [hl0] at r1)
      | (go_at_call 21; refine (HCr.out _ _ r1.out).mono ?_; rintro e w7 ⟨v7, us7, rfl, hL7, hb7⟩; have hB7 := Below.next hB6 hb7; clear c0 c1 c2 c3 c4 c5 c6 c7; obtain ⟨G, CAP, rfl, hGl, hGt, hGc⟩ := hL7.mtx.spell (by rw [hl0]; omega); rw [hl0] at hGc ⊢; have HM7 := hide hL7.mtx; rw [hl0] at HM7))
    have HBt : Hid (∀ W, Below w6.heap.size w6 W → ∀ i, i + 1 < nb → ∃ b off x y, a1 = some ⟨b, off, none⟩ ∧ W.cell? ⟨b, off + i, none⟩ = some (.int .u8 x) ∧ W.cell? ⟨b, off + (i + 1), none⟩ = some (.int .u8 y) ∧ (0 ≤ x ∧ x ≤ 255) ∧ (0 ≤ y ∧ y ≤ 255)) := fun W hb i hi => by
      have hBw := HB.out.below (Below.next hA (Below.next hB6 hb))
      obtain ⟨b, off, cp, e, _, _⟩ := hBw.form (by rw [HNb.out]; omega)
      cases e
      obtain ⟨_, g1, g2⟩ := hBw.at_ (k := i) (by rw [HNb.out]; omega)
      obtain ⟨_, g3, g4⟩ := hBw.at_ (k := i + 1) (by rw [HNb.out]; omega)
      exact ⟨b, off, _, _, rfl, g1, g3, g2, g4⟩
    have HA6 := hide (Below.next hA hB6)
    have HS := hide (fun W' (hb : Below w6.heap.size w6 W') => (HPb.out.below (Below.next hB6 hb)).cells)
    have hN0 : ¬ (N : Int) = 0 := by omega
    clear H1 HM HCr hL1 hL7 r1 hb1 hb6 hB6 hB7 HPb HB hA hl0 WD
    go_wp2_with fail
    go_loopw [8] (fun v8 wr => ∃ (i : Nat) (ws : List Int) (us : List Value), v8 = .int .i64 i ∧ i ≤ nb + 1 ∧ Hid (Wk ws) ∧ Hid (Mtx wr w6.heap.size (.slice (some ⟨G, 0, none⟩) N CAP) us (ws.map row)) ∧ Below w6.heap.size w6 wr) (fun v8 _ => nb + 1 - (intOf v8).toNat)
    case atStart => exact ⟨0, zs0, us7, rfl, by omega, W0, HM7, hb7⟩
    case round =>
      clear W0 HM7 hb7
      obtain ⟨i, ws, us, rfl, hi, HW, HT, hB⟩ := hrel
      by_cases hlt : i + 1 < nb
      · obtain ⟨b, off, x, y, rfl, d1, d2, ⟨x0, x1⟩, y0, y1⟩ := HBt.out wr hB i hlt
        obtain ⟨c0, c1, c2, c3, c4, c5, c6, c7⟩ := HS.out wr hB
        obtain ⟨A, hA0, ha⟩ := tmod_nat (N := N) x0 (by omega)
        obtain ⟨B, hB0, hb⟩ := tmod_nat (N := N) y0 (by omega)
        have i0 : (0 : Int) ≤ (i : Int) := Int.natCast_nonneg _
        have i1 : (i : Int) + 1 < (nb : Int) := by omega
        have i2 : (i : Int) < (nb : Int) := by omega
        have i3 : (0 : Int) ≤ (i : Int) + 1 := by omega
        go_upto_region 10 with fail
        go_quiet (fail)
        have hB2 := below_drewN hB nq
        have HT2 := hide (HT.out.below (below_drewN (Below.refl _ wr) nq))
        have hwl := WL.out ws HW.out
        have hml : (ws.map row).length = N := by rw [List.length_map]; exact hwl
        clear d1 d2 c0 c1 c2 c3 c4 c5 c6 c7 ha hb x0 x1 y0 y1 HT hB
        generalize wr.drewN nq = wz at *
        have hr0 : ∀ z, 0 < (row z).length := fun z => by rw [RL.out]; omega
        obtain ⟨ga, ka, hua, _, _, _, _⟩ := HT2.out.one (i := A) (by omega) (by rw [map_row (by omega)]; exact hr0 _)
        obtain ⟨gb, kb, hub, _, _, _, _⟩ := HT2.out.one (i := B) (by omega) (by rw [map_row (by omega)]; exact hr0 _)
        rw [map_row (by omega), RL.out] at hua hub
        have d1 := HT2.out.cell (i := A) (by omega)
        have d2 := HT2.out.cell (i := B) (by omega)
        rw [hua] at d1
        rw [hub] at d2
        have f1 := HT2.out.free A
        have f2 := HT2.out.free B
        have HT3 := hide (HT2.out.turn hml.symm (a := A) (b := B) (by omega) (by omega) hub hua)
        rw [turn_map (by omega) (by omega)] at HT3
        have HW3 := hide (WP.out ws _ HW.out (swp_perm 0 ws (a := A) (b := B) (by omega) (by omega)))
        have HB3 : Hid (Below w6.heap.size w6 (((wz.setCell ⟨G, A, none⟩ (.slice (some ⟨gb, 0, none⟩) (K + T) kb)).setCell ⟨G, B, none⟩ (.slice (some ⟨ga, 0, none⟩) (K + T) ka)).drew)) := ((hB2.setCell (p := ⟨G, A, none⟩) hGl _).setCell (p := ⟨G, B, none⟩) hGl _).drew
        have a0 : (0 : Int) ≤ (A : Int) := Int.natCast_nonneg _
        have b0 : (0 : Int) ≤ (B : Int) := Int.natCast_nonneg _
        have aN : (A : Int) < (N : Int) := by omega
        have bN : (B : Int) < (N : Int) := by omega
        clear hua hub hml HT2 hr0 hwl HW i0 i1 i2 i3
        generalize swp 0 ws A B = ws3 at *
        generalize swp nov us A B = us3 at *
        generalize K + T = KT at *
        go_upto_region 11 with fail
        by_cases hin : A = B
        · subst hin
          rw [d1] at d2
          injection d2 with d2
          injection d2 with d4 _ d5
          injection d4 with d4
          injection d4 with d4 _ _
          subst d4 d5
          go_region
          go_wp2
          go_roundw
          case rel => exact ⟨i + 2, ws3, us3, by go_num, by omega, HW3, HT3.out.drew, HB3.out⟩
          case measure => simp [intOf]; omega
        · have hin2 : ¬ B = A := fun e => hin e.symm
          go_region
          go_wp2
          go_roundw
          case rel => exact ⟨i + 2, ws3, us3, by go_num, by omega, HW3, HT3.out.drew, HB3.out⟩
          case measure => simp [intOf]; omega
      · clear HBt
        go_wp2_with fail
        obtain ⟨w8, rfl⟩ : ∃ w8, w8 = wr := ⟨wr, rfl⟩
        have hwl := WL.out ws HW.out
        have hml : (ws.map row).length = N := by rw [List.length_map]; exact hwl
        obtain ⟨M, HMm⟩ : ∃ M, Hid (min T N = M) := ⟨_, rfl⟩
        have hM1 : M ≤ T := by rw [← HMm.out]; omega
        have hM2 : M ≤ N := by rw [← HMm.out]; omega
        have HS8 := hide (fun W' (hb' : Below w8.heap.size w8 W') => HS.out W' (Below.next hB hb'))
        have HU : Hid (∀ k, k < N → ∃ g cp, us.getD k nov = .slice (some ⟨g, 0, none⟩) (K + T) cp ∧ K + T ≤ cp ∧ g < w8.heap.size ∧ w8.cell? ⟨G, k, none⟩ = some (.slice (some ⟨g, 0, none⟩) (K + T) cp) ∧ ∀ m, m < K + T → w8.cell? ⟨g, m, none⟩ = some (.int .u64 (mx (ws.map row) k m))) := fun k hk => by
          obtain ⟨g, cp, h1, _, h3, h4, h5⟩ := HT.out.one (i := k) (by omega) (by rw [map_row (by omega), RL.out]; omega)
          rw [map_row (by omega), RL.out] at h1 h4 h5
          have := HT.out.cell (i := k) (by omega)
          rw [h1] at this
          exact ⟨g, cp, h1, h4, h3, this, h5⟩
        have hGw : G < w8.heap.size := by
          have := HT.out.cell (i := 0) (by omega)
          exact cell_lt this
        obtain ⟨i1', hi1, hz1a, hz1b, hz1c⟩ := info_parts sl_info
        go_loopw [11, 12] (fun v11 v12 wp => ∃ (k : Nat) (pus : List Value), v12 = .int .i64 k ∧ k ≤ M ∧ Hid (wp.ownsRow w8.heap.size 26 1 v11 k pus) ∧ Hid (∀ j, j < k → ∃ g cp, us.getD j nov = .slice (some ⟨g, 0, none⟩) (K + T) cp ∧ pus.getD j nov = .slice (some ⟨g, K, none⟩) T (cp - K)) ∧ Below w8.heap.size w8 wp) (fun _ v12 _ => M - (intOf v12).toNat)
        case atStart => exact ⟨0, [], rfl, Nat.zero_le _, World.ownsRow_nil _ _ _ _, fun j hj => by omega, Below.refl _ _⟩
        case round =>
          obtain ⟨k, pus, rfl, hk, HO, HV, hBp⟩ := hrel
          by_cases hkM : k < M
          · obtain ⟨g, cp, hug, hcp, hgl, d1, _⟩ := HU.out k (by omega)
            have hcG := d1
            have d1 := (hBp.cell (p := ⟨G, k, none⟩) hGw).trans d1
            obtain ⟨c0, c1, c2, c3, c4, c5, c6, c7⟩ := HS8.out wr hBp
            have k0 : (0 : Int) ≤ (k : Int) := Int.natCast_nonneg _
            have kT : (k : Int) < (T : Int) := by omega
            have kN : (k : Int) < (N : Int) := by omega
            have Hug := hide hug
            clear hug
            go_upto_region 16 with fail
            go_quiet (fail)
            have hB9 := below_drewN hBp nq
            have HO9 := hide (own_below HO.out (below_drewN (Below.refl _ wr) nq))
            have d2 : (wr.drewN nq).cell? ⟨G, k, none⟩ = _ := d1
            clear c0 c1 c2 c3 c4 c5 c6 c7 d1 HO hBp
            generalize wr.drewN nq = wz at *
            go_upto_region 18 with fail
            have hS0 := And.intro (HS8.out _ hB9.drew) (show wz.drew.cell? ⟨G, k, none⟩ = _ from d2)
            have hS1 := fun ob => And.intro (HS8.out _ ((Below.next hB9 (alloc_below wz ob)).drew)) (show (wz.alloc ob).drew.cell? ⟨G, k, none⟩ = _ from ((alloc_below wz ob).cell (p := ⟨G, k, none⟩) (Nat.lt_of_lt_of_le hGw hB9.size)).trans d2)
            have hK0 : (0 : Int) ≤ (K : Int) := Int.natCast_nonneg _
            have hK1 : (K : Int) ≤ (K : Int) + (T : Int) := by omega
            have hK2 : (K : Int) + (T : Int) ≤ (cp : Int) := by omega
            have hK3 : ¬ cp = K := by omega
            have hsz := hB9.size
            go_region_held3 (fun W' => (W'.cell? ⟨w.heap.size, 0, none⟩ = some (.int .u8 pf) ∧ W'.cell? ⟨w.heap.size, 1, none⟩ = some (.int .i64 (N : Int)) ∧ W'.cell? ⟨w.heap.size, 2, none⟩ = some (.int .i64 (K : Int)) ∧ W'.cell? ⟨w.heap.size, 3, none⟩ = some (.int .i64 (T : Int)) ∧ W'.cell? ⟨w.heap.size, 4, none⟩ = some (.int .i64 ps) ∧ W'.cell? ⟨w.heap.size, 5, none⟩ = some (.int .i64 pe) ∧ W'.cell? ⟨w.heap.size, 6, none⟩ = some (.int .i64 pd) ∧ W'.cell? ⟨w.heap.size, 7, none⟩ = some (.int .i64 pw)) ∧ W'.cell? ⟨G, k, none⟩ = some (.slice (some ⟨g, 0, none⟩) (K + T) cp)) (first | with_reducible exact hS0 | with_reducible exact hS1 _ | with_reducible exact hS2) (first
              | (refine step_append_lies _ (by rfl) _ _ _ (by rfl) w8.heap.size 26 i1' _ 1 24 Try.underlying39 hi1 hz1a hz1b hz1c rfl (by omega) u11 k _ (by rfl) ((HO9.out.alloc _).drew) ⟨wz.heap.size, 0, none⟩ 1 1 [.slice (some ⟨g, K, none⟩) T (cp - K)] (by rfl) (by rfl) (World.news_of_block (cs := #[.slice (some ⟨g, K, none⟩) T (cp - K)]) (t := 26) (fr := (0, 0)) (heap_alloc_new wz _)) (by simp [Value.oneCell']) (by omega) (by unfold maxLen; omega) (by omega) (by simp; omega) (wz.heap.size + 1) (by simp) ?_; intro gg cap2 w9 hown9 hgrow hat hltg; have hB10 : Below w8.heap.size w8 w9 := ((Below.next hB9 (alloc_below wz _)).drew).grown hgrow (by simp; omega) (fun j e => own_base HO9.out j e); have hS2 := And.intro (HS8.out _ hB10) ((hB10.cell (p := ⟨G, k, none⟩) hGw).trans hcG)))
            have HO10 := hide hown9
            have hpl : pus.length = k := by have := HO9.out.1; omega
            have HV2 : Hid (∀ j, j < k + 1 → ∃ g' cp', us.getD j nov = .slice (some ⟨g', 0, none⟩) (K + T) cp' ∧ (pus ++ [Value.slice (some ⟨g, K, none⟩) T (cp - K)]).getD j nov = .slice (some ⟨g', K, none⟩) T (cp' - K)) := fun j hj => by
              rcases Nat.lt_or_eq_of_le (Nat.le_of_lt_succ hj) with h' | h'
              · obtain ⟨g', cp', q1, q2⟩ := HV.out j h'
                refine ⟨g', cp', q1, ?_⟩
                rw [List.getD_eq_getElem?_getD, List.getElem?_append_left (by omega), ← List.getD_eq_getElem?_getD]; exact q2
              · subst h'
                refine ⟨g, cp, Hug.out, ?_⟩
                rw [List.getD_eq_getElem?_getD, List.getElem?_append_right (by omega), hpl, Nat.sub_self]; rfl
            clear hown9 hgrow hat hltg HO9 hB9 hS0 hS1 hS2 d2
            go_wp2
            go_roundw
            case rel => exact ⟨k + 1, _, by go_num, by omega, HO10, HV2, hB10⟩
            case measure => simp [intOf]; omega
          · obtain rfl : k = M := by omega
            obtain ⟨n, Hn⟩ : ∃ n, Hid (min N (K + T) = n) := ⟨_, rfl⟩
            have hn1 : n ≤ N := by rw [← Hn.out]; omega
            have hn2 : n ≤ K + T := by rw [← Hn.out]; omega
            have hmin1 : min (N : Int) ((K : Int) + (T : Int)) = (n : Int) := by have := Hn.out; omega
            have hmin2 : min (T : Int) (N : Int) = (k : Int) := by have := HMm.out; omega
            have pr := pads_rws HT.out (WD2.out ws) hwl hM2 (by omega) RL.out HO.out HV.out hBp
            obtain ⟨a11, k11, rfl⟩ := own_form HO.out
            have pl : ((ws.take k).map (fun z => (row z).drop K)).length = k := by rw [List.length_map, List.length_take]; omega
            have HRp := hide (fun W (hb' : Below wr.heap.size wr W) => HR.out _ T ((ws.take k).map (fun z => (row z).drop K)) W (pr.below hb') (by rw [pl]; omega) (by omega) (fun j hj => by rw [pl] at hj; rw [map_row (by rw [List.length_take]; omega), List.length_drop, RL.out]; omega) (fun j hj => by rw [pl] at hj; rw [map_row (by rw [List.length_take]; omega)]; exact fun z hz => RE.out _ z (List.mem_of_mem_drop hz)) (F2.out ws HW.out k hM1))
            rw [pl] at HRp
            have lr := (rws_take (k := n) (HT.out.rws (WD2.out ws) (by rw [hml]; omega)) (by rw [hml]; exact hn1)).below hBp
            rw [← List.map_take] at lr
            have ll : ((ws.take n).map row).length = n := by rw [List.length_map, List.length_take]; omega
            have HRl := hide (fun W (hb' : Below wr.heap.size wr W) => HR.out _ (K + T) ((ws.take n).map row) W (lr.below hb') (by rw [ll]; omega) (by omega) (fun j hj => by rw [ll] at hj; rw [map_row (by rw [List.length_take]; omega), RL.out]) (fun j hj => by rw [ll] at hj; rw [map_row (by rw [List.length_take]; omega)]; exact RE.out _) (F1.out ws HW.out n hn2))
            rw [ll] at HRl
            have HS9 := hide (fun W' (hb' : Below wr.heap.size wr W') => HS8.out W' (Below.next hBp hb'))
            obtain ⟨c0, c1, c2, c3, c4, c5, c6, c7⟩ := HS8.out wr hBp
            have HAe := hide (Below.next (Below.next HA6.out hB) hBp)
            clear pr pl lr ll HR F1 F2 HT HW HO HV HU RL RE WD2 WP WL HS HS8 HA6 hBp hB
            clear hmin1 hmin2
            by_cases hMT : N < T
            · obtain rfl : k = N := by have := HMm.out; omega
              obtain rfl : n = k := by have := Hn.out; omega
              have q1 : (n : Int) < (T : Int) := by omega
              have q2 : ¬ (K : Int) + (T : Int) < (n : Int) := by omega
              have q3 : (0 : Int) ≤ (n : Int) := Int.natCast_nonneg _
              have q4 : (n : Int) ≤ (CAP : Int) := by omega
              clear Hn HMm
              go_upto_region 20 with fail
              have hS0 := HS9.out _ (Below.refl _ wr).drew
              go_region_held3 (fun W' => W'.cell? ⟨w.heap.size, 0, none⟩ = some (.int .u8 pf) ∧ W'.cell? ⟨w.heap.size, 1, none⟩ = some (.int .i64 (n : Int)) ∧ W'.cell? ⟨w.heap.size, 2, none⟩ = some (.int .i64 (K : Int)) ∧ W'.cell? ⟨w.heap.size, 3, none⟩ = some (.int .i64 (T : Int)) ∧ W'.cell? ⟨w.heap.size, 4, none⟩ = some (.int .i64 ps) ∧ W'.cell? ⟨w.heap.size, 5, none⟩ = some (.int .i64 pe) ∧ W'.cell? ⟨w.heap.size, 6, none⟩ = some (.int .i64 pd) ∧ W'.cell? ⟨w.heap.size, 7, none⟩ = some (.int .i64 pw)) (first | with_reducible exact hS3 | with_reducible exact hS2 | with_reducible exact hS1 | with_reducible exact hS0) (first
                | (go_at_call 14; refine (HX.out _).mono ?_; rintro e w11 ⟨rfl, hb11⟩; have hB11 : Below wr.heap.size wr w11 := (Below.refl _ wr).drew.trans hb11; have hS1 := HS9.out _ hB11)
                | (go_at_call 22; with_reducible refine (HRl.out _ hB12).mono ?_; rintro e w13 ⟨rfl, hb13⟩; have hB13 := Below.next hB12 hb13; have hS3 := HS9.out _ hB13)
                | (go_at_call 22; with_reducible refine (HRp.out _ hB11).mono ?_; rintro e w12 ⟨rfl, hb12⟩; have hB12 := Below.next hB11 hb12; have hS2 := HS9.out _ hB12))
              all_goals
                go_wp2
                go_ret
                exact ⟨rfl, Below.next HAe.out hB13⟩
            · obtain rfl : k = T := by have := HMm.out; omega
              have q1 : ¬ (N : Int) < (k : Int) := by omega
              by_cases hA : K + k < N
              · obtain rfl : n = K + k := by have := Hn.out; omega
                have q2 : (K : Int) + (k : Int) < (N : Int) := by omega
                have q3 : (0 : Int) ≤ (K : Int) + (k : Int) := by omega
                have q4 : (K : Int) + (k : Int) ≤ (CAP : Int) := by omega
                have q5 : ((K : Int) + (k : Int)).toNat = K + k := by omega
                clear Hn HMm
                go_upto_region 20 with fail
                have hS0 := HS9.out _ (Below.refl _ wr).drew
                go_region_held3 (fun W' => W'.cell? ⟨w.heap.size, 0, none⟩ = some (.int .u8 pf) ∧ W'.cell? ⟨w.heap.size, 1, none⟩ = some (.int .i64 (N : Int)) ∧ W'.cell? ⟨w.heap.size, 2, none⟩ = some (.int .i64 (K : Int)) ∧ W'.cell? ⟨w.heap.size, 3, none⟩ = some (.int .i64 (k : Int)) ∧ W'.cell? ⟨w.heap.size, 4, none⟩ = some (.int .i64 ps) ∧ W'.cell? ⟨w.heap.size, 5, none⟩ = some (.int .i64 pe) ∧ W'.cell? ⟨w.heap.size, 6, none⟩ = some (.int .i64 pd) ∧ W'.cell? ⟨w.heap.size, 7, none⟩ = some (.int .i64 pw)) (first | with_reducible exact hS3 | with_reducible exact hS2 | with_reducible exact hS1 | with_reducible exact hS0) (first
                  | (go_at_call 14; refine (HX.out _).mono ?_; rintro e w11 ⟨rfl, hb11⟩; have hB11 : Below wr.heap.size wr w11 := (Below.refl _ wr).drew.trans hb11; have hS1 := HS9.out _ hB11)
                  | (go_at_call 22; with_reducible refine (HRl.out _ hB12).mono ?_; rintro e w13 ⟨rfl, hb13⟩; have hB13 := Below.next hB12 hb13; have hS3 := HS9.out _ hB13)
                  | (go_at_call 22; with_reducible refine (HRp.out _ hB11).mono ?_; rintro e w12 ⟨rfl, hb12⟩; have hB12 := Below.next hB11 hb12; have hS2 := HS9.out _ hB12))
                all_goals
                  go_wp2
                  go_ret
                  exact ⟨rfl, Below.next HAe.out hB13⟩
              · obtain rfl : n = N := by have := Hn.out; omega
                have q2 : ¬ (K : Int) + (k : Int) < (n : Int) := by omega
                have q3 : (0 : Int) ≤ (n : Int) := Int.natCast_nonneg _
                have q4 : (n : Int) ≤ (CAP : Int) := by omega
                clear Hn HMm
                go_upto_region 20 with fail
                have hS0 := HS9.out _ (Below.refl _ wr).drew
                go_region_held3 (fun W' => W'.cell? ⟨w.heap.size, 0, none⟩ = some (.int .u8 pf) ∧ W'.cell? ⟨w.heap.size, 1, none⟩ = some (.int .i64 (n : Int)) ∧ W'.cell? ⟨w.heap.size, 2, none⟩ = some (.int .i64 (K : Int)) ∧ W'.cell? ⟨w.heap.size, 3, none⟩ = some (.int .i64 (k : Int)) ∧ W'.cell? ⟨w.heap.size, 4, none⟩ = some (.int .i64 ps) ∧ W'.cell? ⟨w.heap.size, 5, none⟩ = some (.int .i64 pe) ∧ W'.cell? ⟨w.heap.size, 6, none⟩ = some (.int .i64 pd) ∧ W'.cell? ⟨w.heap.size, 7, none⟩ = some (.int .i64 pw)) (first | with_reducible exact hS3 | with_reducible exact hS2 | with_reducible exact hS1 | with_reducible exact hS0) (first
                  | (go_at_call 14; refine (HX.out _).mono ?_; rintro e w11 ⟨rfl, hb11⟩; have hB11 : Below wr.heap.size wr w11 := (Below.refl _ wr).drew.trans hb11; have hS1 := HS9.out _ hB11)
                  | (go_at_call 22; with_reducible refine (HRl.out _ hB12).mono ?_; rintro e w13 ⟨rfl, hb13⟩; have hB13 := Below.next hB12 hb13; have hS3 := HS9.out _ hB13)
                  | (go_at_call 22; with_reducible refine (HRp.out _ hB11).mono ?_; rintro e w12 ⟨rfl, hb12⟩; have hB12 := Below.next hB11 hb12; have hS2 := HS9.out _ hB12))
                all_goals
                  go_wp2
                  go_ret
                  exact ⟨rfl, Below.next HAe.out hB13⟩

end Go.Proofs.Ytifilgmjpflekaa
