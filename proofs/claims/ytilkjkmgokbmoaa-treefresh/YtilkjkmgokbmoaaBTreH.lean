/-
  Layer 6: the remainders, the document's.
-/
import Derived.Test.YtilkjkmgokbmoaaBTreG
namespace Go.Proofs.Ytilkjkmgokbmoaa
open Go.RowKit Fld
set_option linter.unusedVariables false

theorem chk_cases (f : Int) (xss : List (List Int)) : chk f xss = 0 ∨ chk f xss = 2 ∨ chk f xss = 4 := by
  unfold chk; split
  · split
    · exact .inr (.inr rfl)
    · exact .inl rfl
  · exact .inr (.inl rfl)
def chkJ (a b : Int) : Int := if a = 2 then 2 else if b = 2 then 2 else if a = 4 then 4 else b
theorem chk_snoc (f : Int) (xss : List (List Int)) (ys : List Int) : chk f (xss ++ [ys]) = chkJ (chk f xss) (chk f [ys]) := by
  have e1 : (xss ++ [ys]).all (inF f) = (xss.all (inF f) && inF f ys) := by simp
  have e2 : (xss ++ [ys]).any (fun xs => decide (2048 < xs.length)) = (xss.any (fun xs => decide (2048 < xs.length)) || decide (2048 < ys.length)) := by simp
  have e3 : [ys].all (inF f) = inF f ys := by simp
  have e4 : [ys].any (fun xs => decide (2048 < xs.length)) = decide (2048 < ys.length) := by simp
  unfold chk
  rw [e1, e2, e3, e4]
  generalize xss.all (inF f) = p1
  generalize inF f ys = p2
  generalize xss.any (fun xs => decide (2048 < xs.length)) = p3
  generalize decide (2048 < ys.length) = p4
  cases p1 <;> cases p2 <;> cases p3 <;> cases p4 <;> decide
theorem take_snoc {xss : List (List Int)} {k : Nat} (h : k < xss.length) : xss.take (k + 1) = xss.take k ++ [xss.getD k []] := by
  rw [List.take_succ_eq_append_getElem h, List.getD_eq_getElem?_getD, List.getElem?_eq_getElem h]; rfl
theorem chk_take {f : Int} {P : List Int} {xss : List (List Int)} {k : Nat} (h : k < xss.length) : chk f (P :: xss.take (k + 1)) = chkJ (chk f (P :: xss.take k)) (chk f [xss.getD k []]) := by
  rw [take_snoc h, ← List.cons_append, chk_snoc]
theorem chk_stays {f : Int} {P : List Int} {xss : List (List Int)} {k : Nat} (h : chk f (P :: xss.take k) = 2) : ∀ j, k ≤ j → j ≤ xss.length → chk f (P :: xss.take j) = 2 := by
  intro j hj
  induction j with
  | zero => intro _; have : k = 0 := by omega
            subst this; exact h
  | succ j ih =>
    intro hl
    by_cases e : k = j + 1
    · rw [← e]; exact h
    · rw [chk_take (by omega), ih (by omega) (by omega)]; rfl

set_option maxRecDepth 100000 in
set_option maxHeartbeats 800000 in
theorem dRemainders_any (f : Int) (vp vm : Value) (P : List Int) (xss : List (List Int)) (w : World) (hp : Rw w vp P) (hm : Rws w vm xss) : GivesR 19 #[.int .u8 f, vp, vm] w (RmE f P xss) (rmE f P xss) := by
  have HB := hide (tbad_one f vp P w hp)
  obtain ⟨a1, c1, rfl, _⟩ := hp.spell
  obtain ⟨a2, c2, rfl, hlen, hcap, hcell⟩ := hm
  have HM : Hid (∀ k, k < xss.length → ∀ W u, Rw W u (xss.getD k []) → Calls Try.prog 33 #[.int .u8 f, u, .slice none 0 0] W fun e w' => e = .returned (.int .i64 (chk f [xss.getD k []])) ∧ w' = W) := fun k hk W u hu => tbad_one f u _ W hu
  obtain ⟨i0, hi0, hz0, hz1, hz2⟩ := info_parts sl_info
  have hpr := hide hp
  -- what the second loop calls
  have HD : Hid (chk f (P :: xss) = 0 → xss.length ≤ 2048 → ∃ p, pOf f = p ∧ (∀ k, k < xss.length → ∀ W u, Rw W u (xss.getD k []) → Rw W (.slice a1 P.length c1) P → PartsD 37 #[.int .u8 f, .slice a1 P.length c1, u] W (DvE f P (xss.getD k [])) (if tr (xss.getD k []) = [] then 5 else 0)) ∧
      (∀ k, k < xss.length → (∀ x ∈ xss.getD k [], 0 ≤ x ∧ x ≤ 18446744073709551615) → tr (xss.getD k []) ≠ [] → ∀ A B, DvE f P (xss.getD k []) A B → Dv p P (xss.getD k []) A B)) := fun he hl => by
    obtain ⟨hin, hPl⟩ := chk_zero he List.mem_cons_self
    obtain ⟨p, wd, h, hal⟩ := inF_fi hin
    have hPe := els_of hal hp.words
    refine ⟨p, pOf_eq h, fun k hk W u hu hv => ?_, fun k hk hw hne A B hd => ?_⟩
    · obtain ⟨hin2, hl2⟩ := chk_zero he (List.mem_cons_of_mem _ (getD_mem hk))
      rw [inF_yes h] at hin2
      have := dDivMod_any f _ u P (xss.getD k []) W hv hu
      rw [div_of h hPe (els_of hin2 hu.words) hPl hl2] at this
      exact this
    · obtain ⟨hin2, hl2⟩ := chk_zero he (List.mem_cons_of_mem _ (getD_mem hk))
      rw [inF_yes h] at hin2
      have e := div_of h hPe (els_of hin2 hw) hPl hl2
      rw [if_neg hne] at e
      have := hd.2 e
      rw [pOf_eq h] at this; exact this
  clear hp
  show Calls _ _ _ _ _
  go_enter Try.func19, Try.ntmps19
  go_wp2_with (go_at_call 33; refine HB.out.mono ?_; rintro e w1 ⟨rfl, hw1⟩; rw [hw1]; clear hw1)
  go_loopw [8, 9] (fun ve vi wr => ∃ k : Nat, k ≤ xss.length ∧ vi = .int .i64 k ∧ ve = .int .i64 (chk f (P :: xss.take k)) ∧ Below w.heap.size w wr) (fun _ vi _ => xss.length - (intOf vi).toNat)
  case atStart => exact ⟨0, Nat.zero_le _, rfl, by rw [List.take_zero], Below.refl _ _⟩
  case round =>
    clear HB
    obtain ⟨k, hk, rfl, rfl, hB⟩ := hrel
    by_cases hgo : k < xss.length ∧ chk f (P :: xss.take k) ≠ 2
    · obtain ⟨hlt, hne⟩ := hgo
      obtain ⟨b, off, rfl, hbl, hc⟩ := hcell (by intro e; rw [e] at hlt; simp at hlt)
      obtain ⟨u, hcu, hru⟩ := hc k hlt
      have hck := (hB.cell (p := ⟨b, off + k, none⟩) hbl).trans hcu
      have hbc := hide (HM.out k hlt wr u (hru.below hB))
      obtain ⟨au, cu, rfl, _⟩ := hru.spell
      have HS := hide (chk_take (f := f) (P := P) hlt)
      have hca := chk_cases f (P :: xss.take k)
      have hcb := chk_cases f [xss.getD k []]
      clear hc hcell hcu hru HM HD
      generalize chk f (P :: xss.take k) = a at *
      generalize chk f [xss.getD k []] = bb at *
      generalize (xss.getD k []).length = ln at *
      rcases hca with rfl | rfl | rfl
      · rcases hcb with rfl | rfl | rfl
        all_goals
          go_wp2_with (go_at_call 33; refine hbc.out.mono ?_; rintro e w1 ⟨rfl, hw1⟩; rw [hw1]; clear hw1)
          go_roundw
          case rel => exact ⟨k + 1, by omega, by go_num, by rw [HS.out]; rfl, hB⟩
          case measure => simp [intOf]; omega
      · exact absurd rfl hne
      · rcases hcb with rfl | rfl | rfl
        all_goals
          go_wp2_with (go_at_call 33; refine hbc.out.mono ?_; rintro e w1 ⟨rfl, hw1⟩; rw [hw1]; clear hw1)
          go_roundw
          case rel => exact ⟨k + 1, by omega, by go_num, by rw [HS.out]; rfl, hB⟩
          case measure => simp [intOf]; omega
    · have HE : Hid (chk f (P :: xss.take k) = chk f (P :: xss)) := by
        show _ = _
        by_cases h2 : chk f (P :: xss.take k) = 2
        · have := chk_stays h2 xss.length hk (Nat.le_refl _)
          rw [List.take_length] at this; rw [h2, this]
        · have : k = xss.length := by omega
          rw [this, List.take_length]
      have hkn : chk f (P :: xss) = 2 ∨ k = xss.length := by
        by_cases h2 : chk f (P :: xss.take k) = 2
        · left; rw [← HE.out]; exact h2
        · right; omega
      rw [HE.out]
      clear hgo HE HM
      have hcs := chk_cases f (P :: xss)
      by_cases h0 : chk f (P :: xss) = 0
      · obtain rfl : k = xss.length := by rcases hkn with h | h
                                          · rw [h0] at h; exact absurd h (by decide)
                                          · exact h
        by_cases hlong : 2048 < xss.length
        · have HR : Hid (rmE f P xss = 4) := by show _ = _; unfold rmE; rw [if_pos h0, if_pos hlong]
          have HS : Hid (RmE f P xss []) := ⟨fun _ => rfl, fun h => by rw [HR.out] at h; exact absurd h (by decide)⟩
          rw [h0]
          clear HD hcell hcs hkn h0
          go_wp2
          refine wp_loop_rounds 1 ?_
          rw [rounds_succ]
          go_wp2
          rw [HR.out]
          go_ret2
          exact ⟨_, [], [], rfl, HS.out, Lss.nil _ _ _, hB⟩
        · obtain ⟨p, HP0, HD1, HD2⟩ := HD.out h0 (by omega)
          have HP := hide HP0
          have hD := hide HD1
          have HDv := hide HD2
          have HE := hide h0
          rw [h0]
          clear HD HP0 HD1 HD2 hcs hkn h0
          go_wp2
          go_loopw [8, 11, 12] (fun ve vo vi wr => (∃ (k : Nat) (us : List Value) (rss : List (List Int)), k ≤ xss.length ∧ ve = .int .i64 0 ∧ vi = .int .i64 k ∧ rss.length = k ∧ Hid (Lss wr w.heap.size wr.heap.size vo us rss) ∧ Hid (∀ i, i < k → ∃ q, Dv p P (xss.getD i []) q (rss.getD i [])) ∧ Hid (∀ i, i < k → tr (xss.getD i []) ≠ []) ∧ Below w.heap.size w wr) ∨ (∃ (k : Nat), k ≤ xss.length ∧ ve = .int .i64 5 ∧ vi = .int .i64 k ∧ Hid (rmE f P xss = 5) ∧ Below w.heap.size w wr)) (fun _ _ vi _ => xss.length - (intOf vi).toNat)
          case atStart => exact .inl ⟨0, [], [], Nat.zero_le _, rfl, rfl, rfl, Lss.nil _ _ _, fun i hi => by omega, fun i hi => by omega, hB⟩
          case round =>
            clear hB
            rcases hrel with ⟨k, us, rss, hk, rfl, rfl, hrl, HL, HV, HT, hB⟩ | ⟨k, hk, rfl, rfl, HR, hB⟩
            · by_cases hlt : k < xss.length
              · obtain ⟨b, off, rfl, hbl, hc⟩ := hcell (by intro e; rw [e] at hlt; simp at hlt)
                obtain ⟨u, hcu, hru⟩ := hc k hlt
                have hck := (hB.cell (p := ⟨b, off + k, none⟩) hbl).trans hcu
                have hdc := hide (hD.out k hlt wr u (hru.below hB) (hpr.out.below hB))
                have hwd := hide hru.words
                obtain ⟨au, cu, rfl, _⟩ := hru.spell
                unfold PartsD at hdc
                clear hc hcell hcu hru
                by_cases hz : tr (xss.getD k []) = []
                · rw [if_pos hz] at hdc
                  have HE5 := hide (rmE_nought HE.out (by omega) hlt hz)
                  clear hz
                  generalize (xss.getD k []).length = ln at *
                  go_wp2_with (first
                    | (go_at_call 37; refine hdc.out.mono ?_; rintro e w3 ⟨vq, vr, A, B, rfl, hS, hoq, hor, hb3⟩; obtain ⟨ar, cr, rfl⟩ := own_form hor; have HL3 := hide (HL.out.below hb3); have hsz3 := hb3.size; have hbs := hB.size)
                    | (at_builtin; refine wpList_append_lies _ rfl _ _ _ rfl w.heap.size 22 i0 _ 1 24 Try.underlying36 hi0 hz0 hz1 hz2 rfl (by omega) u11 rss.length us rfl (HL3.out.row.alloc _) ⟨w3.heap.size, 0, none⟩ 1 1 [.slice ar B.length cr] rfl rfl (World.news_of_block (cs := #[.slice ar B.length cr]) (t := 22) (fr := (0, 0)) (heap_alloc_new w3 _)) (by simp [Value.oneCell']) (by omega) (by unfold maxLen; omega) (by omega) (by simp; omega) (w3.heap.size + 1) (by simp) ?_; intro gg cap2 w4 hown4 hgrow hat hltg))
                  have hB3 := Below.next hB hb3
                  have R := hide (HL3.out.push (w := w) (H := wr.heap.size) (Nat.le_refl _) hbs (Nat.le_refl _) hB3 hor hown4 hgrow)
                  clear hown4 hgrow hat hltg HL HL3 HV HT hor hoq hS
                  go_roundw
                  case rel => exact .inr ⟨k + 1, by omega, rfl, by go_num, HE5, R.out.2⟩
                  case measure => simp [intOf]; omega
                · rw [if_neg hz] at hdc
                  have HZ := hide hz
                  have hD2 := hide (HDv.out k hlt hwd.out hz)
                  clear hz
                  obtain ⟨ln, HLN⟩ : ∃ ln, Hid ((xss.getD k []).length = ln) := ⟨_, rfl⟩
                  rw [HLN.out] at hck hdc
                  go_wp2_with (first
                    | (go_at_call 37; refine hdc.out.mono ?_; rintro e w3 ⟨vq, vr, A, B, rfl, hS, hoq, hor, hb3⟩; obtain ⟨ar, cr, rfl⟩ := own_form hor; have HL3 := hide (HL.out.below hb3); have hsz3 := hb3.size; have hbs := hB.size)
                    | (at_builtin; refine wpList_append_lies _ rfl _ _ _ rfl w.heap.size 22 i0 _ 1 24 Try.underlying36 hi0 hz0 hz1 hz2 rfl (by omega) u11 rss.length us rfl (HL3.out.row.alloc _) ⟨w3.heap.size, 0, none⟩ 1 1 [.slice ar B.length cr] rfl rfl (World.news_of_block (cs := #[.slice ar B.length cr]) (t := 22) (fr := (0, 0)) (heap_alloc_new w3 _)) (by simp [Value.oneCell']) (by omega) (by unfold maxLen; omega) (by omega) (by simp; omega) (w3.heap.size + 1) (by simp) ?_; intro gg cap2 w4 hown4 hgrow hat hltg))
                  have hB3 := Below.next hB hb3
                  have R := hide (HL3.out.push (w := w) (H := wr.heap.size) (Nat.le_refl _) hbs (Nat.le_refl _) hB3 hor hown4 hgrow)
                  have HV2 := hide (rem_push hrl HV.out (hD2.out A B hS))
                  have HT2 : Hid (∀ i, i < k + 1 → tr (xss.getD i []) ≠ []) := fun i hi => by
                    by_cases e : i = k
                    · rw [e]; exact HZ.out
                    · exact HT.out i (by omega)
                  clear hown4 hgrow hat hltg HL HL3 HV HT hor hoq hS
                  have hrl2 : (rss ++ [B]).length = k + 1 := by simp [hrl]
                  rw [hrl] at R
                  go_roundw
                  case rel => exact .inl ⟨k + 1, _, _, by omega, rfl, by go_num, hrl2, R.out.1.here, HV2, HT2, R.out.2⟩
                  case measure => simp [intOf]; omega
              · obtain rfl : k = xss.length := by omega
                have HE0 := hide (rmE_ok HE.out (by omega) HT.out)
                clear hcell
                go_wp2
                rw [HE0.out]
                go_ret2
                exact ⟨_, us, rss, rfl, ⟨fun h => absurd HE0.out h, fun _ => ⟨hrl, by rw [HP.out]; exact HV.out⟩⟩, HL.out, hB⟩
            · have HS : Hid (RmE f P xss []) := ⟨fun _ => rfl, fun h => by rw [HR.out] at h; exact absurd h (by decide)⟩
              clear hcell
              by_cases hlt : k < xss.length
              · go_wp2
                rw [HR.out]
                go_ret2
                exact ⟨_, [], [], rfl, HS.out, Lss.nil _ _ _, hB⟩
              · go_wp2
                rw [HR.out]
                go_ret2
                exact ⟨_, [], [], rfl, HS.out, Lss.nil _ _ _, hB⟩
      · have HR : Hid (rmE f P xss = chk f (P :: xss)) := by show _ = _; unfold rmE; rw [if_neg h0]
        have HS : Hid (RmE f P xss []) := ⟨fun _ => rfl, fun h => by rw [HR.out] at h; exact absurd h h0⟩
        clear HD hcell
        generalize chk f (P :: xss) = ee at *
        rcases hcs with rfl | rfl | rfl
        · exact absurd rfl h0
        · clear h0 hkn
          by_cases hlt : k < xss.length
          all_goals
            by_cases hpos : 0 < xss.length
            all_goals
              go_wp2
              refine wp_loop_rounds 1 ?_
              rw [rounds_succ]
              go_wp2
              rw [HR.out]
              go_ret2
              exact ⟨_, [], [], rfl, HS.out, Lss.nil _ _ _, hB⟩
        · obtain rfl : k = xss.length := by rcases hkn with h | h
                                            · exact absurd h (by decide)
                                            · exact h
          clear h0 hkn
          by_cases hpos : 0 < xss.length
          all_goals
            go_wp2
            refine wp_loop_rounds 1 ?_
            rw [rounds_succ]
            go_wp2
            rw [HR.out]
            go_ret2
            exact ⟨_, [], [], rfl, HS.out, Lss.nil _ _ _, hB⟩

end Go.Proofs.Ytilkjkmgokbmoaa
