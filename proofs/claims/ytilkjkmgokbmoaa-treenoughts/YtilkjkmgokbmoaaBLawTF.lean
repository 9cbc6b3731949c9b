/-
  TreeNoughts' walk, where all is right.
-/
import Derived.Test.YtilkjkmgokbmoaaBLawTD
namespace Go.Proofs.Ytilkjkmgokbmoaa
open Go.RowKit Fld
set_option linter.unusedVariables false

theorem Lss.at_ {w : World} {lo hi : Nat} {v : Value} {us : List Value} {xss : List (List Int)} (h : Lss w lo hi v us xss) {k : Nat} (hk : k < xss.length) : ∃ g cap, v = .slice (some ⟨g, 0, none⟩) xss.length cap ∧ g < w.heap.size ∧ w.cell? ⟨g, k, none⟩ = some (us.getD k nov) ∧ w.ownsRow lo 48 1 (us.getD k nov) (xss.getD k []).length (vals (xss.getD k [])) := by
  obtain ⟨g, cap, hv, _, hg⟩ := h.row.form (by omega)
  subst hv
  exact ⟨g, cap, rfl, hg, h.list hk, h.each k hk⟩
theorem ret_bool {a b : Bool} (h : a = b) : Ending.returned (.bool a) = .returned (.bool b) := by rw [h]

set_option maxRecDepth 100000 in
set_option maxHeartbeats 1000000 in
theorem tnoughts_yes (f : Int) (v1 v2 : Value) (P xs : List Int) (y : Int) (w : World) (h1 : Rw w v1 P) (h2 : Rw w v2 xs) (hy : 0 ≤ y ∧ y ≤ 18446744073709551615) (he1 : er f P xs = 0) (he2 : er f [y] [] = 0) (hxl : xs.length ≤ 200) (hPl : P.length ≤ 200) :
    Calls Try.prog 6 #[.int .u8 f, .agg #[v1, v2], .int .u64 y] w fun e w' => e = .returned (.bool true) ∧ Below w.heap.size w w' := by
  obtain ⟨p, wd, h, i1, i2, _, _⟩ := er_zero he1
  obtain ⟨i0, hi0, hz0, hz1, hz2⟩ := info_parts sl_info
  have hPe := els_of i1 h1.words
  have hxe := els_of i2 h2.words
  have hye := er_one h he2 hy
  have F := nought_facts h hPe hxe hPl hxl
  have gb := hide (fun W (hb : Below w.heap.size w W) => rBad_any f v1 v2 P xs W (h1.below hb) (h2.below hb))
  have gc := hide (fun W T => rBad_any f (.slice (some ⟨W.heap.size, 0, none⟩) 1 1) (.slice none 0 0) [y] [] (W.alloc (.cells #[.int .u64 y] T)) (rw1 W y hy T) (rw0 _))
  have gz := hide (fun W (hb : Below w.heap.size w W) => tZero_any f v2 xs W (h2.below hb))
  have gt := hide (fun W (hb : Below w.heap.size w W) => tTree_any f v2 xs W (h2.below hb))
  have gv := hide (fun W (hb : Below w.heap.size w W) => tValues_any f v1 v2 P xs W (h1.below hb) (h2.below hb))
  have gr := hide (fun W u (hm : Rws W u (xs.map (fac p))) (hb : Below w.heap.size w W) => tRemainders_any f v1 u P (xs.map (fac p)) W (h1.below hb) hm (by rw [List.length_map]; omega))
  have gf := hide (fun W x (hx : El p x) => dFactor_any f p x wd W h hx)
  have ge := hide (fun W u (r : Rw W u (zl p xs)) => dEval_any f y u (zl p xs) W hy r)
  have ga := hide (fun W => anch6 W)
  have HB0 : Hid (∀ o nq, Below w.heap.size w ((w.alloc o).drewN nq)) := fun o nq => below_drewN (alloc_below w o) nq
  have hzf := zl_facts h.md xs
  have hel : er f (zl p xs) [y] = 0 := er_yes h (allIn_of hzf.1.1) (allIn_of (fun x hx => by rw [List.mem_singleton.1 hx]; exact hye)) (by rw [hzf.2.2]; omega) (by simp)
  have hve : valE f y (zl p xs) = vl p y (zl p xs) := by unfold valE; rw [if_pos hel, pOf_eq h]
  have hrt := zl_root h.md hye hxe
  have WZ : Hid (Wd (zl p xs)) := zl_wd h.md h.top xs (by omega)
  have WV : Hid (Wd (xs.map (fun x => vl p x P))) := by have := valsL_wd f P xs; rw [F.2.2.2.1] at this; exact this
  have WF : Hid (∀ i, Wd ((xs.map (fac p)).getD i [])) := fun i => by
    by_cases hi : i < xs.length
    · rw [List.getD_eq_getElem?_getD, List.getElem?_map, List.getElem?_eq_getElem hi]
      exact wd_els (fac_tm h.md).1 h.top (by simp [fac])
    · rw [List.getD_eq_getElem?_getD, List.getElem?_eq_none (by rw [List.length_map]; omega)]; exact wd_nil
  have WR : Hid (∀ rss, RmE f P (xs.map (fac p)) rss → rss = xs.map (fun x => tr [vl p x P]) ∧ ∀ i, Wd (rss.getD i [])) := fun rss hr => ⟨F.2.2.2.2.2 rss hr, hr.wd.1⟩
  have HZL : Hid ((zl p xs).length = xs.length + 1) := hzf.2.2
  have HTT : Hid (∀ N, TallE f xs N → Tall xs.length N) := fun N hT => hT.1 F.1
  have HPO := hide (pOf_eq h)
  unfold Gives at gz gv
  unfold GivesT at gt
  unfold GivesR at gr
  rw [he1] at gb
  rw [he2] at gc
  rw [F.1, F.2.2.1] at gz
  rw [F.1, HPO.out] at gt
  rw [F.2.1, F.2.2.2.1] at gv
  rw [F.2.2.2.2.1] at gr
  rw [hel, hve] at ge
  have hp0 := h.pos
  have HXE := hide hxe
  have hrt' := hide hrt
  have HR2 := hide h2
  obtain ⟨a1, c1, rfl, _⟩ := h1.spell
  obtain ⟨⟨a2, c2, rfl, hlen, hw, hc⟩, hcap2⟩ := h2
  clear h1 h i1 i2 he1 he2 hPe hxe hye F hel hve hzf hrt
  generalize vl p y (zl p xs) = V at *
  generalize hZq : zl p xs = Z at *
  have HZQ := hide hZq
  clear hZq
  go_enter Try.func6, Try.ntmps6
  go_wp2_with fail
  go_quiet (fail)
  have hb0 := HB0.out (.cells #[.slice a1 P.length c1, .slice a2 xs.length c2] 47) nq
  generalize (w.alloc (.cells #[.slice a1 P.length c1, .slice a2 xs.length c2] 47)).drewN nq = W1 at *
  go_wp2_with fail
  refine (gz.out _ hb0).mono ?_; rintro e w1 ⟨u1, rfl, hO1, hb1⟩
  have hB1 := Below.next hb0 hb1
  go_wp2_with fail
  refine (gt.out _ hB1).mono ?_; rintro e w2 ⟨u2, cut, vs, uss, N, rfl, hV, hT, _, hb2⟩
  have hB2 := Below.next hB1 hb2
  go_wp2_with fail
  refine (gb.out _ hB2).mono ?_; rintro e w3 ⟨rfl, hw3⟩; rw [hw3]; clear hw3
  go_wp2_with fail
  refine (gc.out _ _).mono ?_; rintro e w3 ⟨rfl, hw3⟩; rw [hw3]; clear hw3
  have hb3 := alloc_below w2 (.cells #[.int .u64 y] 48)
  have hB3 := Below.next hB2 hb3
  generalize w2.alloc (.cells #[.int .u64 y] 48) = w3 at *
  have RZ := hide (fun W (hb : Below w3.heap.size w3 W) => (WZ.out.row (own_below (own_below hO1 hb2) hb3)).below hb)
  have HV := hide (fun W (hb : Below w3.heap.size w3 W) => (hV.below hb3).below hb)
  have HT := hide (HTT.out N hT)
  obtain ⟨az, cz, rfl⟩ := own_form hO1
  obtain ⟨at', ct, rfl⟩ := hV.spelt
  have hN12 := HT.out.le (by omega)
  clear hO1 hV hT gz gt gb gc
  go_wp2
  go_loopw [14, 15, 16] (fun vb vo vi wr => ∃ (k : Nat) (b : Bool) (us : List Value), k ≤ xs.length ∧ vi = .int .i64 k ∧ vb = .bool b ∧ Hid (b = decide (y ∈ xs.take k)) ∧ Hid (Lss wr w3.heap.size wr.heap.size vo us ((xs.take k).map (fac p))) ∧ Below w3.heap.size w3 wr) (fun _ _ vi _ => xs.length - (intOf vi).toNat)
  case atStart => exact ⟨0, false, [], Nat.zero_le _, rfl, rfl, by show false = _; simp, Lss.nil _ _ _, Below.refl _ _⟩
  case round =>
    obtain ⟨k, b, us, hk, rfl, rfl, HBb, HL, hB⟩ := hrel
    have hBw := Below.next hB3 hB
    by_cases hlt : k < xs.length
    · obtain ⟨bb, off, rfl, hbl, hcell⟩ := hc (by intro h; rw [h] at hlt; simp at hlt)
      have hck := (hBw.cell (p := ⟨bb, off + k, none⟩) hbl).trans (hcell k hlt)
      have hfc := hide (gf.out wr (xs.getD k 0) (HXE.out.co hp0 k))
      have HS : Hid ((xs.take k).map (fac p) ++ [fac p (xs.getD k 0)] = (xs.take (k + 1)).map (fac p)) := by
        show _ = _
        rw [List.take_succ_eq_append_getElem hlt, List.map_append, List.getD_eq_getElem?_getD, List.getElem?_eq_getElem hlt]; rfl
      have HM := hide (mem_take_snoc (y := y) hlt)
      have hml : ((xs.take k).map (fac p)).length = k := by simp; omega
      generalize xs.getD k 0 = x at *
      generalize (xs.take k).map (fac p) = lss at *
      generalize hln : fac p x = fx at *
      have HLN := hide hln
      clear hln hcell hc gr gv ge gf
      cases b with
      | true =>
        have HB2 : Hid (true = decide (y ∈ xs.take (k + 1))) := by
          have := HBb.out
          show true = _
          exact (decide_eq_true (HM.out.2 (.inl (of_decide_eq_true this.symm)))).symm
        go_wp2_with (first
          | (go_at_call 23; refine hfc.out.mono ?_; rintro e w4 ⟨vr, rfl, hor, hb4⟩; obtain ⟨ar, cr, rfl⟩ := own_form hor; have HL4 := hide (HL.out.below hb4); have hsz4 := hb4.size; have hbs := hB.size)
          | (at_builtin; refine wpList_append_lies _ rfl _ _ _ rfl w3.heap.size 22 i0 _ 1 24 Try.underlying36 hi0 hz0 hz1 hz2 rfl (by omega) u15 lss.length us rfl (HL4.out.row.alloc _) ⟨w4.heap.size, 0, none⟩ 1 1 [.slice ar fx.length cr] rfl rfl (World.news_of_block (cs := #[.slice ar fx.length cr]) (t := 22) (fr := (0, 0)) (heap_alloc_new w4 _)) (by simp [Value.oneCell']) (by omega) (by unfold maxLen; omega) (by omega) (by simp; omega) (w4.heap.size + 1) (by simp) ?_; intro gg cap2 w5 hown5 hgrow hat hltg))
        have hB4 := Below.next hB hb4
        have R := hide (HL4.out.push (w := w3) (H := wr.heap.size) (Nat.le_refl _) hbs (Nat.le_refl _) hB4 hor hown5 hgrow)
        clear hown5 hgrow hat hltg HL HL4 hor
        rw [HS.out, hml] at R
        go_roundw
        case rel => exact ⟨k + 1, true, _, by omega, by go_num, rfl, HB2, R.out.1.here, R.out.2⟩
        case measure => simp [intOf]; omega
      | false =>
        have hnt : ¬ y ∈ xs.take k := of_decide_eq_false HBb.out.symm
        by_cases hxy : x = y
        · have HB2 : Hid (true = decide (y ∈ xs.take (k + 1))) := by
            show true = _
            exact (decide_eq_true (HM.out.2 (.inr hxy))).symm
          have hyx := hxy.symm
          clear hnt hxy
          subst hyx
          go_wp2_with (first
            | (go_at_call 23; refine hfc.out.mono ?_; rintro e w4 ⟨vr, rfl, hor, hb4⟩; obtain ⟨ar, cr, rfl⟩ := own_form hor; have HL4 := hide (HL.out.below hb4); have hsz4 := hb4.size; have hbs := hB.size)
            | (at_builtin; refine wpList_append_lies _ rfl _ _ _ rfl w3.heap.size 22 i0 _ 1 24 Try.underlying36 hi0 hz0 hz1 hz2 rfl (by omega) u15 lss.length us rfl (HL4.out.row.alloc _) ⟨w4.heap.size, 0, none⟩ 1 1 [.slice ar fx.length cr] rfl rfl (World.news_of_block (cs := #[.slice ar fx.length cr]) (t := 22) (fr := (0, 0)) (heap_alloc_new w4 _)) (by simp [Value.oneCell']) (by omega) (by unfold maxLen; omega) (by omega) (by simp; omega) (w4.heap.size + 1) (by simp) ?_; intro gg cap2 w5 hown5 hgrow hat hltg))
          have hB4 := Below.next hB hb4
          have R := hide (HL4.out.push (w := w3) (H := wr.heap.size) (Nat.le_refl _) hbs (Nat.le_refl _) hB4 hor hown5 hgrow)
          clear hown5 hgrow hat hltg HL HL4 hor
          rw [HS.out, hml] at R
          go_roundw
          case rel => exact ⟨k + 1, true, _, by omega, by go_num, rfl, HB2, R.out.1.here, R.out.2⟩
          case measure => simp [intOf]; omega
        · have HB2 : Hid (false = decide (y ∈ xs.take (k + 1))) := by
            show false = _
            refine (decide_eq_false (fun hm => ?_)).symm
            rcases HM.out.1 hm with a | a
            · exact hnt a
            · exact hxy a
          have hbe : (x == y) = false := beq_eq_false_iff_ne.2 hxy
          clear hnt
          go_wp2_with (first
            | (go_at_call 23; refine hfc.out.mono ?_; rintro e w4 ⟨vr, rfl, hor, hb4⟩; obtain ⟨ar, cr, rfl⟩ := own_form hor; have HL4 := hide (HL.out.below hb4); have hsz4 := hb4.size; have hbs := hB.size)
            | (at_builtin; refine wpList_append_lies _ rfl _ _ _ rfl w3.heap.size 22 i0 _ 1 24 Try.underlying36 hi0 hz0 hz1 hz2 rfl (by omega) u15 lss.length us rfl (HL4.out.row.alloc _) ⟨w4.heap.size, 0, none⟩ 1 1 [.slice ar fx.length cr] rfl rfl (World.news_of_block (cs := #[.slice ar fx.length cr]) (t := 22) (fr := (0, 0)) (heap_alloc_new w4 _)) (by simp [Value.oneCell']) (by omega) (by unfold maxLen; omega) (by omega) (by simp; omega) (w4.heap.size + 1) (by simp) ?_; intro gg cap2 w5 hown5 hgrow hat hltg))
          have hB4 := Below.next hB hb4
          have R := hide (HL4.out.push (w := w3) (H := wr.heap.size) (Nat.le_refl _) hbs (Nat.le_refl _) hB4 hor hown5 hgrow)
          clear hown5 hgrow hat hltg HL HL4 hor
          rw [HS.out, hml] at R
          go_roundw
          case rel => exact ⟨k + 1, false, _, by omega, by go_num, rfl, HB2, R.out.1.here, R.out.2⟩
          case measure => simp [intOf]; omega
    · obtain rfl : k = xs.length := by omega
      rw [List.take_length] at HBb HL
      clear hc gf
      have HV1 : Hid (b = true → V = 0) := fun hb => hrt'.out.2 (by have := HBb.out; rw [hb] at this; exact of_decide_eq_true this.symm)
      have HV2 : Hid (b = false → ¬ V = 0) := fun hb hv => by
        have := HBb.out; rw [hb] at this
        exact of_decide_eq_false this.symm (hrt'.out.1 hv)
      have hml : (xs.map (fac p)).length = xs.length := List.length_map _
      have RM := hide (fun W (hb : Below wr.heap.size wr W) => (HL.out.below hb).rws WF.out (by rw [hml]; omega))
      obtain ⟨am, cm, e15⟩ := own_form HL.out.row
      rw [hml] at e15
      subst e15
      rw [HZL.out] at RZ
      rw [HZL.out]
      have gev := hide (ge.out wr _ (RZ.out wr hB))
      clear ge HL hml
      have hVw : b = true ∧ V = 0 ∨ b = false ∧ (V == 0) = false := by
        cases b with
        | true => exact .inl ⟨rfl, HV1.out rfl⟩
        | false => exact .inr ⟨rfl, beq_eq_false_iff_ne.2 (HV2.out rfl)⟩
      rcases hVw with ⟨hb0', hV0⟩ | ⟨hb0', hV0⟩
      all_goals
        subst hb0'
        clear HBb HV1 HV2 hrt'
        go_wp2_with fail
        refine gev.out.mono ?_; rintro e w4 ⟨rfl, hb4⟩
        have hB4 := Below.next hBw hb4
        go_wp2_with fail
        refine (gr.out _ _ (RM.out _ hb4) hB4).mono ?_; rintro e w5 ⟨u5, us5, rss, rfl, hS5, hL5, hb5⟩
        have hB5 := Below.next hB4 hb5
        obtain ⟨hrs, hrw⟩ := WR.out rss hS5
        have HRS := hide hrs
        have HRW := hide hrw
        have hrl : rss.length = xs.length := by rw [hrs, List.length_map]
        obtain ⟨ar, cr, e5⟩ := own_form hL5.row
        rw [hrl] at e5
        subst e5
        clear hS5 hrs hrw
        go_wp2_with fail
        refine (gv.out _ hB5).mono ?_; rintro e w6 ⟨u6, rfl, hO6, hb6⟩
        have hB6 := Below.next hB5 hb6
        have hwl : (xs.map (fun x => vl p x P)).length = xs.length := List.length_map _
        rw [hwl] at hO6
        obtain ⟨aw, cw, e6⟩ := own_form hO6
        subst e6
        have HW6 := hide (fun W (hb : Below w6.heap.size w6 W) => own_below hO6 hb)
        have HL6 := hide (fun W (hb : Below w6.heap.size w6 W) => (hL5.below hb6).below hb)
        have HB36 := hide (Below.next (Below.next (Below.next hB hb4) hb5) hb6)
        clear hO6 hL5 gr gv gev RM hwl
        go_wp2
        go_loopw [23] (fun vi wr => ∃ k : Nat, k ≤ xs.length ∧ vi = .int .i64 k ∧ Below w6.heap.size w6 wr) (fun vi _ => xs.length - (intOf vi).toNat)
        case atStart => exact ⟨0, Nat.zero_le _, rfl, Below.refl _ _⟩
        case round =>
          clear hB
          obtain ⟨k, hk, rfl, hB⟩ := hrel
          by_cases hlt : k < xs.length
          · obtain ⟨gw, capw, ew, _, _⟩ := (HW6.out wr hB).form (by omega)
            cases ew
            obtain ⟨g5, cap5, e5, hg5, d5, o5⟩ := (HL6.out wr hB).at_ (k := k) (by rw [hrl]; exact hlt)
            rw [hrl] at e5
            cases e5
            have hcw : xs.length ≤ cw := by
              rcases (HW6.out wr hB).2 with ⟨h, _⟩ | ⟨_, _, _, h, _, _, h4, _⟩
              · cases h
              · cases h; exact h4
            have hvk : Hid (rss.getD k [] = tr [vl p (co xs k) P]) := by
              show _ = _
              rw [HRS.out, List.getD_eq_getElem?_getD, List.getElem?_map, co_at hlt, List.getElem?_eq_getElem hlt]; rfl
            have HTm : Hid (∀ W, Below wr.heap.size wr W → Rw W (.slice (some ⟨gw, k, none⟩) 1 (cw - k)) [vl p (co xs k) P]) := fun W hb => by
              have := (WV.out.row (HW6.out W (Below.next hB hb))).one (k := k) (by rw [List.length_map]; exact hlt)
              rw [co_map _ _ _ hlt, Nat.zero_add] at this; exact this
            have HRk : Hid (∀ W, Below wr.heap.size wr W → Rw W (us5.getD k nov) (tr [vl p (co xs k) P])) := fun W hb => by
              have := (HRW.out k).row (own_below o5 hb)
              rw [hvk.out] at this; exact this
            generalize vl p (co xs k) P = vk at *
            obtain ⟨z5, y5, hu5, _⟩ := (HRk.out wr (Below.refl _ _)).spell
            rw [hu5] at d5 HRk
            have k0 : (0 : Int) ≤ (k : Int) := by omega
            have k1 : (k : Int) < (xs.length : Int) := by omega
            have k2 : (k : Int) + 1 ≤ (cw : Int) := by omega
            have k3 : IntKind.i64.wrap ((k : Int) + 1) = (k : Int) + 1 := by rw [IntKind.wrap_i64]; omega
            have k4 : ((k : Int) + 1).toNat = k + 1 := by omega
            have k5 : ¬ cw = k := by omega
            have k6 : (k : Int) ≤ (k : Int) + 1 := by omega
            have k7 : (0 : Int) ≤ (k : Int) + 1 := by omega
            have HS5 : Hid (∀ W, Below wr.heap.size wr W → W.cell? ⟨g5, k, none⟩ = some (.slice z5 (tr [vk]).length y5)) := fun W hb => (hb.cell (p := ⟨g5, k, none⟩) hg5).trans d5
            have WT : Hid (∀ W v n base, World.ownsRow W base 48 1 v n (vals (tr [vk])) → Row W v (tr [vk])) := fun W v n base hO => by
              have hw := (HRk.out wr (Below.refl _ _)).words
              have hl := (HRk.out wr (Below.refl _ _)).len
              exact (rw_of_own hO hl hw).1
            clear o5 hvk hu5 HRS HRW
            go_wp2_with fail
            have hbd : Below wr.heap.size wr wr.drew := (Below.refl _ wr).drew
            have ht := hide (rTrim_any _ _ _ (HTm.out _ hbd))
            have hS0 := HS5.out _ hbd
            generalize tr [vk] = tv at *
            go_region_held3 (fun w' => w'.cell? ⟨g5, k, none⟩ = some (.slice z5 tv.length y5)) (first | with_reducible exact hS8 | with_reducible exact hS7 | with_reducible exact hS0) (first
              | (go_at_call 13; refine (Same_yes v7 _ tv _ (WT.out _ _ _ _ hO7) (HRk.out _ hB7).1).mono ?_; rintro e w8 ⟨rfl, hb8⟩; have hB8 := Below.next hB7 hb8; have hS8 := HS5.out _ hB8)
              | (go_at_call 25; refine ht.out.mono ?_; rintro e w7 ⟨v7, rfl, hO7, hb7⟩; have hB7 := Below.next hbd hb7; have hS7 := HS5.out _ hB7))
            have hB9 := Below.next hB hB8
            clear hS0 hS7 hS8 HS5 hO7 d5
            go_wp2
            go_roundw
            case rel => exact ⟨k + 1, by omega, by go_num, hB9⟩
            case measure => simp [intOf]; omega
          · clear HW6 HL6 HRS HRW WR
            go_wp2_with fail
            refine (ga.out _).mono ?_; rintro e w8 ⟨rfl, hb8⟩
            have hB8 := Below.next hB hb8
            have hB38 := Below.next HB36.out hB8
            have hBend := Below.next hB6 hB8
            cases N with
            | zero =>
              have hn0 : xs.length = 0 := by
                rcases HT.out with ⟨h, _⟩ | ⟨_, L, h, _⟩
                · exact h
                · omega
              rw [hn0]
              clear HV RZ
              go_wp2
              go_ret
              exact ⟨rfl, hBend⟩
            | succ L =>
              have hV8 := HV.out _ hB38
              have hpos := HT.out.top.1
              have hn0 : ¬ xs.length = 0 := by omega
              obtain ⟨gt', capt, et, _, _⟩ := hV8.row.form (by omega)
              cases et
              have d1 := hV8.level (i := L) (by omega)
              have hE := hV8.each L (by omega)
              rw [tre_top HT.out, HZQ.out] at hE
              obtain ⟨gl, capl, el, _, d2, o2⟩ := hE.at_ (k := 0) (by simp)
              rw [el] at d1
              have RT : Hid (Rw w8 ((uss L).getD 0 nov) Z) := WZ.out.row o2
              obtain ⟨zt, yt, hut, _⟩ := RT.out.spell
              rw [hut] at d2 RT
              have RZ8 := hide (RZ.out _ hB38)
              rw [HZL.out] at d2 RT
              clear HV RZ hV8 hE o2 hut
              simp only [List.length_singleton] at d1
              go_wp2_with (go_at_call 13; refine (Same_yes _ _ Z _ RT.out.1 RZ8.out.1).mono ?_; rintro e w9 ⟨rfl, hb9⟩)
              go_ret
              exact ⟨rfl, Below.next hBend hb9⟩

theorem tnoughts_any (f : Int) (v1 v2 : Value) (P xs : List Int) (y : Int) (w : World) (h1 : Rw w v1 P) (h2 : Rw w v2 xs) (hy : 0 ≤ y ∧ y ≤ 18446744073709551615) :
    Calls Try.prog 6 #[.int .u8 f, .agg #[v1, v2], .int .u64 y] w fun e w' => e = .returned (.bool true) ∧ Below w.heap.size w w' := by
  by_cases hgo : er f P xs = 0 ∧ er f [y] [] = 0 ∧ xs.length ≤ 200 ∧ P.length ≤ 200
  · exact tnoughts_yes f v1 v2 P xs y w h1 h2 hy hgo.1 hgo.2.1 hgo.2.2.1 hgo.2.2.2
  · exact tnoughts_no f v1 v2 P xs y w h1 h2 hy hgo

end Go.Proofs.Ytilkjkmgokbmoaa
