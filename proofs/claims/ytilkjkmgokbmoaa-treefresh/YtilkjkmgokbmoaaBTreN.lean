/-
  Layer 6: the document's tree.
-/
import Derived.Test.YtilkjkmgokbmoaaBLawTB
namespace Go.Proofs.Ytilkjkmgokbmoaa
open Go.RowKit Fld
set_option linter.unusedVariables false

/-- A piece of a list. -/
theorem Rw.mid {w : World} {b off n cap : Nat} {xs : List Int} (h : Rw w (.slice (some ⟨b, off, none⟩) n cap) xs) {k m : Nat} (hk : k + m ≤ xs.length) : Rw w (.slice (some ⟨b, off + k, none⟩) m (cap - k)) ((xs.drop k).take m) := by
  obtain ⟨⟨ao', cap', h1, h2, h3, h4⟩, a, q, c, h5, h6⟩ := h
  cases h1; cases h5
  have hl : ((xs.drop k).take m).length = m := by rw [List.length_take, List.length_drop]; omega
  refine ⟨⟨_, _, by rw [hl], by omega, fun x hx => h3 x (List.mem_of_mem_drop (List.mem_of_mem_take hx)), fun hne => ?_⟩, _, _, _, rfl, by omega⟩
  have hm : 0 < m := by rw [← hl]; exact List.length_pos_iff.2 hne
  obtain ⟨b', off', h7, hb, hc⟩ := h4 (by intro e; rw [e] at hk; simp at hk; omega)
  cases h7
  refine ⟨b, off + k, rfl, hb, fun i hi => ?_⟩
  rw [hl] at hi
  have := hc (k + i) (by omega)
  rw [show off + k + i = off + (k + i) by omega, this]
  rw [List.getD_eq_getElem?_getD, List.getD_eq_getElem?_getD, List.getElem?_take_of_lt hi, List.getElem?_drop]
theorem ck_mid {xs : List Int} {s k I m : Nat} (hI : k * s = I) (hm : m = min s (xs.length - I)) : (xs.drop I).take m = ck xs s k := by
  unfold ck
  rw [hI]
  by_cases h : s ≤ xs.length - I
  · rw [hm, Nat.min_eq_left h]
  · rw [List.take_of_length_le (by rw [List.length_drop]; omega), List.take_of_length_le (by rw [List.length_drop]; omega)]
theorem Lss.down {w : World} {lo lo' hi : Nat} {v : Value} {us : List Value} {xss : List (List Int)} (h : Lss w lo hi v us xss) (hl : lo' ≤ lo) : Lss w lo' hi v us xss :=
  ⟨own_mono h.row hl, fun i hi => own_mono (h.each i hi) hl, fun i g hg => Nat.le_trans hl (h.from_ i g hg), h.top, h.up⟩

set_option maxRecDepth 100000 in
set_option maxHeartbeats 800000 in
theorem dTree_any (f : Int) (v : Value) (xs : List Int) (w : World) (h1 : Rw w v xs) : GivesT 12 #[.int .u8 f, v] w (tre (pOf f) xs) (TallE f xs) (chk f [xs]) := by
  have hk := hide (tbad_one f v xs w h1)
  by_cases he : chk f [xs] = 0
  · obtain ⟨p, wd, h, i1, m1⟩ := chk_one he
    obtain ⟨i0, hi0, hz0, hz1, hz2⟩ := info_parts sl_info
    obtain ⟨i3, hi3, hz3, hz4, hz5⟩ := info_parts sl2_info
    have hx := els_of i1 h1.words
    have HZ : Hid (∀ s k W u, Rw W u (ck xs s k) → Calls Try.prog 10 #[.int .u8 f, u] W fun e w' => ∃ v', e = .returned (.tuple #[v', .int .i64 0]) ∧ w'.ownsRow W.heap.size 48 1 v' (zl p (ck xs s k)).length (vals (zl p (ck xs s k))) ∧ Below W.heap.size W w') := fun s k W u r => by
      have := dZero_any f u _ W r
      unfold Gives at this
      have hc : chk f [ck xs s k] = 0 := chk_ok (fun i hi => by
        have : i = 0 := by simp at hi; omega
        subst this
        show inF f (ck xs s k) = true
        rw [inF_yes h]; exact allIn_of (ck_els hx s k)) (fun i hi => by
        have : i = 0 := by simp at hi; omega
        subst this
        show (ck xs s k).length ≤ 2048
        have := ck_len xs s k; omega)
      rw [hc, show zeroL f (ck xs s k) = zl p (ck xs s k) by unfold zeroL; rw [if_pos hc, pOf_eq h]] at this
      exact this
    rw [he] at hk
    have HS : Hid (∀ N, Tall xs.length N → TallE f xs N) := fun N hN => ⟨fun _ => hN, fun hc => absurd he hc⟩
    rw [he, pOf_eq h]
    have HR := hide h1
    obtain ⟨a1, c1, rfl, hcap1⟩ := h1.spell
    have hao : Hid (0 < xs.length → ∃ b off, a1 = some ⟨b, off, none⟩) := fun hp => by
      obtain ⟨⟨ao, cap, hv, _, _, hc⟩, _⟩ := h1
      cases hv
      obtain ⟨b, off, e, _⟩ := hc (List.length_pos_iff.1 hp)
      exact ⟨b, off, e⟩
    clear h1 h i1 he hx
    show Calls _ _ _ _ _
    go_enter Try.func12, Try.ntmps12
    go_wp2_with (go_at_call 33; refine hk.out.mono ?_; rintro e w1 ⟨rfl, hw1⟩; rw [hw1]; clear hw1)
    go_loopw [7, 8] (fun vo vz wr => ∃ (j s : Nat) (cut : Nat → Nat) (vs : List Value) (uss : Nat → List Value), vz = .int .i64 s ∧ Hid (2 ^ j = s) ∧ s ≤ 4096 ∧ 0 < s ∧ Hid (Lvs wr w.heap.size cut vo vs uss (tre p xs) j) ∧ cut j ≤ wr.heap.size ∧ Below w.heap.size w wr ∧ Hid (∀ i, i < j → 1 < cn xs.length (2 ^ i)) ∧ j ≤ 4096) (fun _ vz _ => 2 * xs.length - (intOf vz).toNat)
    case atStart => exact ⟨0, 1, fun _ => w.heap.size, [], fun _ => [], rfl, hide (Nat.pow_zero 2), by omega, by omega, Lvs.nil _ _ _ _ (Nat.le_refl _), Nat.le_refl _, Below.refl _ _, fun i hi => by omega, by omega⟩
    case round =>
      clear hk
      obtain ⟨j, s, cut, vs, uss, rfl, HJ, hs, hs0, HV, hcj, hB, HG, hj⟩ := hrel
      by_cases hn : xs.length = 0
      · have hj0 : j = 0 := by
          apply Classical.byContradiction; intro hne
          have := HG.out 0 (by omega)
          rw [hn] at this; simp [cn] at this
        subst hj0
        have HT : Hid (TallE f xs 0) := HS.out 0 (.inl ⟨hn, rfl⟩)
        obtain ⟨av, cv, rfl⟩ := own_form HV.out.row
        rw [hn]
        clear HZ HR hao
        go_wp2
        go_ret2
        exact ⟨_, cut, vs, uss, 0, rfl, HV.out, HT.out, hcj, hB⟩
      · obtain ⟨b, off, rfl⟩ := hao.out (by omega)
        have hpos : 0 < xs.length := by omega
        obtain ⟨wj, HWJ⟩ : ∃ wj, Hid (wj = wr) := ⟨wr, hide rfl⟩
        obtain ⟨cc, HCC⟩ : ∃ cc, Hid (cn xs.length s = cc) := ⟨_, rfl⟩
        have hccp : 0 < cc := by rw [← HCC.out]; exact cn_pos hpos hs0
        have hcc : cc ≤ 2048 := by
          rw [← HCC.out]
          apply Nat.le_of_not_lt; intro hcon
          have := (cn_lt hs0).1 hcon
          have := Nat.le_mul_of_pos_right 2048 hs0
          omega
        have hcl : Hid (∀ k, k < cc ↔ k * s < xs.length) := fun k => by rw [← HCC.out]; exact cn_lt hs0
        have HVj : Hid (Lvs wj w.heap.size cut u7 vs uss (tre p xs) j) := by rw [HWJ.out]; exact HV.out
        have hBw : Below w.heap.size w wj := by rw [HWJ.out]; exact hB
        have hcw : cut j ≤ wj.heap.size := by rw [HWJ.out]; exact hcj
        have HRj : Hid (∀ W, Below wj.heap.size wj W → Rw W (.slice (some ⟨b, off, none⟩) xs.length c1) xs) := fun W hb => HR.out.below (Below.next hBw hb)
        have hbsj := hBw.size
        clear HV HR hao
        go_wp2
        go_loopw [9, 10] (fun vl vi wr => ∃ (k I : Nat) (us : List Value), k ≤ cc ∧ Hid (k * s = I) ∧ I ≤ 8192 ∧ vi = .int .i64 I ∧ Hid (Lss wr wj.heap.size wr.heap.size vl us (lvk p xs s k)) ∧ Below wj.heap.size wj wr) (fun _ vi _ => xs.length - (intOf vi).toNat)
        case atStart => exact ⟨0, 0, [], by omega, hide (Nat.zero_mul s), by omega, rfl, Lss.nil _ _ _, by rw [HWJ.out]; exact Below.refl _ _⟩
        case round =>
          obtain ⟨k, I, us, hk, HI, hI, rfl, HL, hBj⟩ := hrel
          have hkc := hcl.out k
          rw [HI.out] at hkc
          have hlk := lvk_len p xs s k
          by_cases hlt : I < xs.length
          · have hI2 : Hid ((k + 1) * s = I + s) := by show _ = _; rw [Nat.add_mul, HI.out, Nat.one_mul]
            have q0 : (0 : Int) ≤ (I : Int) := by omega
            have q1 : (I : Int) < (xs.length : Int) := by omega
            have q2 : (xs.length : Int) ≤ (c1 : Int) := by omega
            have q3 : ¬ c1 = I := by omega
            obtain ⟨E0, HE0⟩ : ∃ E0, Hid (I + s = E0) := ⟨_, rfl⟩
            have hE0 : (I : Int) + (s : Int) = (E0 : Int) := by have := HE0.out; omega
            have hk2 : k < cc := hkc.2 hlt
            have hI3 : I + s ≤ 8192 := by omega
            rw [HE0.out] at hI2 hI3
            have hIE2 : I < E0 := by have := HE0.out; omega
            rcases Nat.lt_trichotomy E0 xs.length with hc | hc | hc
            · have q4 : (E0 : Int) < (xs.length : Int) := by omega
              have q5 : (I : Int) ≤ (E0 : Int) := by omega
              have q6 : (E0 : Int) ≤ (c1 : Int) := by omega
              have hzc := hide (HZ.out s k wr (.slice (some ⟨b, off + I, none⟩) (E0 - I) (c1 - I)) (by
                have := (HRj.out wr hBj).mid (k := I) (m := E0 - I) (by omega)
                rw [ck_mid HI.out (by have := HE0.out; omega)] at this; exact this))
              have HLs := hide (lvk_snoc p xs s k)
              generalize lvk p xs s k = lss at *
              generalize zl p (ck xs s k) = zz at *
              clear HVj HRj HZ HG
              go_wp2_with (first
                | (go_at_call 10; refine hzc.out.mono ?_; rintro e w3 ⟨vr, rfl, hor, hb3⟩; obtain ⟨ar, cr, rfl⟩ := own_form hor; have HL3 := hide (HL.out.below hb3); have hsz3 := hb3.size; have hbs := hBj.size)
                | (at_builtin; refine wpList_append_lies _ rfl _ _ _ rfl wj.heap.size 22 i0 _ 1 24 Try.underlying36 hi0 hz0 hz1 hz2 rfl (by omega) u9 lss.length us rfl (HL3.out.row.alloc _) ⟨w3.heap.size, 0, none⟩ 1 1 [.slice ar zz.length cr] rfl rfl (World.news_of_block (cs := #[.slice ar zz.length cr]) (t := 22) (fr := (0, 0)) (heap_alloc_new w3 _)) (by simp [Value.oneCell']) (by omega) (by unfold maxLen; omega) (by omega) (by simp; omega) (w3.heap.size + 1) (by simp) ?_; intro gg cap2 w4 hown4 hgrow hat hltg))
              have hB3 := Below.next hBj hb3
              have R := hide (HL3.out.push (w := wj) (H := wr.heap.size) (Nat.le_refl _) hbs (Nat.le_refl _) hB3 hor hown4 hgrow)
              clear hown4 hgrow hat hltg HL HL3 hor
              rw [HLs.out, hlk] at R
              go_roundw
              case rel => exact ⟨k + 1, E0, _, by omega, hI2, by omega, by go_num, R.out.1.here, R.out.2⟩
              case measure => simp [intOf]; omega
            · have hE1 : (I : Int) + (s : Int) = (xs.length : Int) := by omega
              clear hE0
              subst hc
              have q5 : (I : Int) ≤ (xs.length : Int) := by omega
              have hzc := hide (HZ.out s k wr (.slice (some ⟨b, off + I, none⟩) (xs.length - I) (c1 - I)) (by
                have := (HRj.out wr hBj).mid (k := I) (m := xs.length - I) (by omega)
                rw [ck_mid HI.out (by have := HE0.out; omega)] at this; exact this))
              have HLs := hide (lvk_snoc p xs s k)
              generalize lvk p xs s k = lss at *
              generalize zl p (ck xs s k) = zz at *
              clear HVj HRj HZ HG
              go_wp2_with (first
                | (go_at_call 10; refine hzc.out.mono ?_; rintro e w3 ⟨vr, rfl, hor, hb3⟩; obtain ⟨ar, cr, rfl⟩ := own_form hor; have HL3 := hide (HL.out.below hb3); have hsz3 := hb3.size; have hbs := hBj.size)
                | (at_builtin; refine wpList_append_lies _ rfl _ _ _ rfl wj.heap.size 22 i0 _ 1 24 Try.underlying36 hi0 hz0 hz1 hz2 rfl (by omega) u9 lss.length us rfl (HL3.out.row.alloc _) ⟨w3.heap.size, 0, none⟩ 1 1 [.slice ar zz.length cr] rfl rfl (World.news_of_block (cs := #[.slice ar zz.length cr]) (t := 22) (fr := (0, 0)) (heap_alloc_new w3 _)) (by simp [Value.oneCell']) (by omega) (by unfold maxLen; omega) (by omega) (by simp; omega) (w3.heap.size + 1) (by simp) ?_; intro gg cap2 w4 hown4 hgrow hat hltg))
              have hB3 := Below.next hBj hb3
              have R := hide (HL3.out.push (w := wj) (H := wr.heap.size) (Nat.le_refl _) hbs (Nat.le_refl _) hB3 hor hown4 hgrow)
              clear hown4 hgrow hat hltg HL HL3 hor
              rw [HLs.out, hlk] at R
              go_roundw
              case rel => exact ⟨k + 1, xs.length, _, by omega, hI2, by omega, by go_num, R.out.1.here, R.out.2⟩
              case measure => simp [intOf]; omega
            · have q4 : (xs.length : Int) < (E0 : Int) := by omega
              have q5 : (I : Int) ≤ (xs.length : Int) := by omega
              have hzc := hide (HZ.out s k wr (.slice (some ⟨b, off + I, none⟩) (xs.length - I) (c1 - I)) (by
                have := (HRj.out wr hBj).mid (k := I) (m := xs.length - I) (by omega)
                rw [ck_mid HI.out (by have := HE0.out; omega)] at this; exact this))
              have HLs := hide (lvk_snoc p xs s k)
              generalize lvk p xs s k = lss at *
              generalize zl p (ck xs s k) = zz at *
              clear HVj HRj HZ HG
              go_wp2_with (first
                | (go_at_call 10; refine hzc.out.mono ?_; rintro e w3 ⟨vr, rfl, hor, hb3⟩; obtain ⟨ar, cr, rfl⟩ := own_form hor; have HL3 := hide (HL.out.below hb3); have hsz3 := hb3.size; have hbs := hBj.size)
                | (at_builtin; refine wpList_append_lies _ rfl _ _ _ rfl wj.heap.size 22 i0 _ 1 24 Try.underlying36 hi0 hz0 hz1 hz2 rfl (by omega) u9 lss.length us rfl (HL3.out.row.alloc _) ⟨w3.heap.size, 0, none⟩ 1 1 [.slice ar zz.length cr] rfl rfl (World.news_of_block (cs := #[.slice ar zz.length cr]) (t := 22) (fr := (0, 0)) (heap_alloc_new w3 _)) (by simp [Value.oneCell']) (by omega) (by unfold maxLen; omega) (by omega) (by simp; omega) (w3.heap.size + 1) (by simp) ?_; intro gg cap2 w4 hown4 hgrow hat hltg))
              have hB3 := Below.next hBj hb3
              have R := hide (HL3.out.push (w := wj) (H := wr.heap.size) (Nat.le_refl _) hbs (Nat.le_refl _) hB3 hor hown4 hgrow)
              clear hown4 hgrow hat hltg HL HL3 hor
              rw [HLs.out, hlk] at R
              go_roundw
              case rel => exact ⟨k + 1, E0, _, by omega, hI2, by omega, by go_num, R.out.1.here, R.out.2⟩
              case measure => simp [intOf]; omega
          · have hkk : k = cc := by omega
            have HLL : Hid (Lss wr wj.heap.size wr.heap.size u9 us (tre p xs j)) := by
              have e : tre p xs j = lvk p xs s k := by
                unfold tre lvl lvk; rw [HJ.out, HCC.out, hkk]
              rw [e]; exact HL.out
            have hlt2 : (tre p xs j).length = k := by rw [← hlk, show tre p xs j = lvk p xs s k by unfold tre lvl lvk; rw [HJ.out, HCC.out, hkk]]
            have HV2 := hide (HVj.out.below hBj)
            have hBB := Below.next hBw hBj
            have hbs := hBj.size
            have hrow := HLL.out.row
            rw [hlt2] at hrow
            obtain ⟨al, cl, rfl⟩ := own_form hrow
            have HKK := hide hkk
            clear HL hrow HVj HRj HZ hkc hkk hlt2
            by_cases hone : k = 1
            · have HT : Hid (TallE f xs (j + 1)) := HS.out _ (.inr ⟨hpos, j, rfl, by rw [HJ.out, HCC.out, ← HKK.out]; exact hone, HG.out⟩)
              subst hone
              go_wp2_with (at_builtin; refine wpList_append_lies _ rfl _ _ _ rfl w.heap.size 36 i3 _ 1 24 Try.underlying29 hi3 hz3 hz4 hz5 rfl (by omega) u7 j vs rfl (HV2.out.row.alloc _) ⟨wr.heap.size, 0, none⟩ 1 1 [.slice al 1 cl] rfl rfl (World.news_of_block (cs := #[.slice al 1 cl]) (t := 36) (fr := (0, 0)) (heap_alloc_new wr _)) (by simp [Value.oneCell']) (by omega) (by unfold maxLen; omega) (by omega) (by simp; omega) (wr.heap.size + 1) (by simp) ?_; intro gg cap2 w4 hown4 hgrow hat hltg)
              have R := hide (HV2.out.push (w := w) (H := w4.heap.size) (HLL.out.down hcw) (by have := hgrow.size; simp at this; omega) (by have := hgrow.size; simp at this; omega) (Nat.le_refl _) hBB hown4 hgrow)
              go_ret2
              exact ⟨_, _, _, _, j + 1, rfl, R.out.1, HT.out, by rw [if_neg (by omega)]; exact Nat.le_refl _, R.out.2.2⟩
            · have hgt : 1 < cn xs.length (2 ^ j) := by have := HKK.out; rw [HJ.out, HCC.out]; omega
              have HG2 : Hid (∀ i, i < j + 1 → 1 < cn xs.length (2 ^ i)) := fun i hi => by
                by_cases e : i = j
                · rw [e]; exact hgt
                · exact HG.out i (by omega)
              have hsn : s < xs.length := by
                have := (cn_lt (n := xs.length) (i := 1) (s := 2 ^ j) (Nat.pow_pos (by decide))).1 hgt
                rw [HJ.out] at this; omega
              have hj2 : j + 1 ≤ 4096 := by
                have h2 := Nat.lt_two_pow_self (n := j)
                rw [HJ.out] at h2; omega
              have HJ2 : Hid (2 ^ (j + 1) = 2 * s) := by show _ = _; rw [Nat.pow_succ, Nat.mul_comm, HJ.out]
              clear hgt
              go_wp2_with (at_builtin; refine wpList_append_lies _ rfl _ _ _ rfl w.heap.size 36 i3 _ 1 24 Try.underlying29 hi3 hz3 hz4 hz5 rfl (by omega) u7 j vs rfl (HV2.out.row.alloc _) ⟨wr.heap.size, 0, none⟩ 1 1 [.slice al k cl] rfl rfl (World.news_of_block (cs := #[.slice al k cl]) (t := 36) (fr := (0, 0)) (heap_alloc_new wr _)) (by simp [Value.oneCell']) (by omega) (by unfold maxLen; omega) (by omega) (by simp; omega) (wr.heap.size + 1) (by simp) ?_; intro gg cap2 w4 hown4 hgrow hat hltg)
              have R := hide (HV2.out.push (w := w) (H := w4.heap.size) (HLL.out.down hcw) (by have := hgrow.size; simp at this; omega) (by have := hgrow.size; simp at this; omega) (Nat.le_refl _) hBB hown4 hgrow)
              have hc9 : (fun i => if i ≤ j then cut i else w4.heap.size) (j + 1) ≤ w4.heap.size := by
                simp only
                rw [if_neg (by omega)]; exact Nat.le_refl _
              clear hown4 hgrow hat hltg HV2 HLL
              go_roundw
              case rel => exact ⟨j + 1, 2 * s, _, _, _, by go_num, HJ2, by omega, by omega, R.out.1, hc9, R.out.2.2, HG2, hj2⟩
              case measure => simp [intOf]; omega
  · have ht : (chk f [xs] != 0) = true := bne_iff_ne.2 he
    have HS : Hid (TallE f xs 0) := ⟨fun h => absurd h he, fun _ => rfl⟩
    obtain ⟨a1, c1, rfl, _⟩ := h1.spell
    clear h1 he
    show Calls _ _ _ _ _
    generalize chk f [xs] = e0 at *
    go_enter Try.func12, Try.ntmps12
    go_wp2_with (go_at_call 33; refine hk.out.mono ?_; rintro e w1 ⟨rfl, hw1⟩; rw [hw1]; clear hw1)
    go_ret2
    exact ⟨_, _, [], _, 0, rfl, Lvs.nil _ _ w.heap.size _ (Nat.le_refl _), HS.out, Nat.le_refl _, Below.refl _ _⟩

end Go.Proofs.Ytilkjkmgokbmoaa
