/-
  Layer 13: the document's Rank: independent rows are all counted.
-/
import Derived.Test.YtifilgmjpflekaaBPntM
import Derived.Test.YtifilgmjpflekaaBCpR
import Derived.Test.YtifilgmjpflekaaBunJ
import Derived.Test.YtifilgmjpflekaaBunW
import Derived.Deep.RegionWith
import Derived.Deep.CutRange
namespace Go.Proofs.Ytifilgmjpflekaa
open Go.RowKit Fld Rnk
set_option linter.unusedVariables false
set_option linter.unusedSimpArgs false

theorem Mtx.drew {w : World} {lo : Nat} {v : Value} {us : List Value} {l : List (List Int)} (h : Mtx w lo v us l) : Mtx w.drew lo v us l := h.below (Below.refl _ w).drew
theorem Mtx.free {w : World} {lo G r cap : Nat} {us : List Value} {l : List (List Int)} (h : Mtx w lo (.slice (some ⟨G, 0, none⟩) r cap) us l) (k : Nat) : w.frozen? ⟨G, k, none⟩ = false := by
  rcases h.row.2 with ⟨e, _⟩ | ⟨g', cap', cur, e, h2, h3, _⟩
  · cases e
  · cases e
    simp [World.frozen?, h3]
theorem eli_el {p : Int} {r c j n : Nat} {l : List (List Int)} (h : Eli p r c j n l) (hp : 0 < p) {k : Nat} (hk : k < r) (m : Nat) : El p (mx l k m) := (h.els k hk).co hp m

set_option maxRecDepth 100000 in
set_option maxHeartbeats 400000 in
theorem dRank (f p : Int) (wd : Bool) (v : Value) (l0 : List (List Int)) (c : Nat) (w : World) (h : Fi f p wd) (h1 : Rws w v l0) (hr : l0.length ≤ 64) (hc : c ≤ 64) (h2 : ∀ k, k < l0.length → (l0.getD k []).length = c) (h3 : ∀ k, k < l0.length → Els p (l0.getD k [])) (h4 : Ind p l0.length c (mx l0)) :
    Calls Try.prog 22 #[.int .u8 f, v] w fun e w' => e = .returned (.int .i64 l0.length) ∧ Below w.heap.size w w' := by
  have hp0 := h.pos
  have hp1 := h.top
  have hpb : 2048 < p := by rcases h with ⟨_, rfl, _⟩ | ⟨_, rfl, _⟩ <;> decide
  have HM := hide h.md
  have HP := hide (fun W => rP_yes f p wd W h)
  have HC := hide (fun W (hb : Below w.heap.size w W) => CopyRows_all v l0 W (h1.below hb) (by omega))
  have HE := hide (Eli.first rfl h2 h3 h4)
  obtain ⟨ao, cap, rfl, _⟩ := h1
  by_cases h0 : l0.length = 0
  · rw [h0] at HC ⊢
    clear HE h2 h3 h4 hr
    have hl0 : l0 = [] := List.length_eq_zero_iff.1 h0
    subst hl0
    clear h0
    go_enter Try.func22, Try.ntmps22
    go_wp2_with (first
      | (go_at_call 36; refine (HP.out _).mono ?_; rintro e w1 ⟨rfl, hw⟩; rw [hw]; clear hw)
      | (go_at_call 21; refine (HC.out _ (Below.refl _ _)).mono ?_; rintro e w2 ⟨v2, us, rfl, hL, hb2⟩; obtain ⟨a2, c2, rfl⟩ := own_form hL.row; rw [List.length_nil]; clear hL))
    refine wp_loop_rounds 1 ?_
    rw [rounds_succ]
    go_wp2
    go_ret
    exact ⟨rfl, hb2⟩
  · have hc0 : 0 < c := by
      rcases Nat.eq_zero_or_pos c with e | e
      · exact (ind_some (p := p) (by omega) h4 (a := 0) (by omega) (fun m hm => by omega)).elim
      · exact e
    generalize hrr : l0.length = r at *
    clear hrr h2 h3 h4
    have hr0 : (0 : Int) < (r : Int) := by omega
    go_enter Try.func22, Try.ntmps22
    go_wp2_with (first
      | (go_at_call 36; refine (HP.out _).mono ?_; rintro e w1 ⟨rfl, hw⟩; rw [hw]; clear hw)
      | (go_at_call 21; refine (HC.out _ (Below.refl _ _)).mono ?_; rintro e w2 ⟨v2, us0, rfl, hL, hb2⟩; obtain ⟨G, CAP, rfl, hGl, hGt, hGc⟩ := hL.mtx.spell (by rw [HE.out.len]; omega); have HM0 := hide hL.mtx; clear hL))
    rw [HE.out.len] at HM0 hGc ⊢
    clear HC HP
    go_loopw [7, 8] (fun v7 v8 wr => ∃ (n j : Nat) (us : List Value) (l : List (List Int)), v7 = .int .i64 n ∧ v8 = .int .i64 j ∧ j ≤ c ∧ Hid (Eli p r c j n l) ∧ Hid (Mtx wr w.heap.size (.slice (some ⟨G, 0, none⟩) r CAP) us l) ∧ Below w.heap.size w wr) (fun _ v8 _ => c - (intOf v8).toNat)
    case atStart => exact ⟨0, 0, us0, l0, rfl, rfl, Nat.zero_le _, HE, HM0, hb2⟩
    case round =>
      clear HE HM0 hb2
      obtain ⟨n, j, us, l, rfl, rfl, hj, HE, HX, hB⟩ := hrel
      have hnr := HE.out.le
      have hll := HE.out.len
      obtain ⟨g0, k0, hu0, _, _, _, _⟩ := HX.out.one (i := 0) (by omega) (by rw [HE.out.cols 0 (by omega)]; exact hc0)
      rw [HE.out.cols 0 (by omega)] at hu0
      have hcg0 := HX.out.cell (i := 0) (by omega)
      rw [hu0] at hcg0
      clear hll hu0
      by_cases hjc : j < c
      · go_wp2_with fail
        go_loopw [7, 9] (fun v7 v9 wx => ∃ i : Nat, v7 = .int .i64 n ∧ v9 = .int .i64 i ∧ n ≤ i ∧ i ≤ r ∧ Hid (∀ k, n ≤ k → k < i → mx l k j = 0) ∧ Hid (Mtx wx w.heap.size (.slice (some ⟨G, 0, none⟩) r CAP) us l) ∧ Below w.heap.size w wx) (fun _ v9 _ => r - (intOf v9).toNat)
        case atStart => exact ⟨n, rfl, rfl, Nat.le_refl _, hnr, fun k h1 h2 => by omega, HX, hB⟩
        case round =>
          clear HX hB hcg0
          obtain ⟨i, rfl, rfl, hni, hir, HZ, HX, hB⟩ := hrel
          by_cases hlt : i < r
          · have hl := HE.out.len
            obtain ⟨gi, ki, hui, _, _, _, hcc⟩ := HX.out.one (i := i) (by omega) (by rw [HE.out.cols i hlt]; exact hc0)
            rw [HE.out.cols i hlt] at hui hcc
            have c1 := HX.out.cell (i := i) (by omega)
            have c2 := hcc j hjc
            rw [hui] at c1
            clear hcc hl
            by_cases hz : mx l i j = 0
            · have HZ2 : Hid (∀ k, n ≤ k → k < i + 1 → mx l k j = 0) := fun k h1 h2 => by
                rcases Nat.lt_or_eq_of_le (Nat.le_of_lt_succ h2) with h3 | h3
                · exact HZ.out k h1 h3
                · rw [h3]; exact hz
              rw [hz] at c2
              clear HZ hz
              go_wp2
              go_roundw
              case rel => exact ⟨i + 1, rfl, by go_num, by omega, by omega, HZ2, HX, hB⟩
              case measure => simp [intOf]; omega
            · have hl := HE.out.len
              have hz2 : (mx l i j == 0) = false := beq_eq_false_iff_ne.2 hz
              obtain ⟨gn, kn, hun, _, _, _, _⟩ := HX.out.one (i := n) (by omega) (by rw [HE.out.cols n (by omega)]; exact hc0)
              rw [HE.out.cols n (by omega)] at hun
              have c3 := HX.out.cell (i := n) (by omega)
              rw [hun] at c3
              have f1 := HX.out.free i
              have f2 := HX.out.free n
              have HT := hide (HX.out.turn hl.symm (a := i) (b := n) (by omega) (by omega) hun hui)
              have HE2 := hide (HE.out.turn hni hlt)
              have HY : Hid (mx (swp [] l i n) n j = mx l i j) := by
                show _ = _
                unfold mx
                rw [swp_at _ _ (by omega) (by omega), if_pos rfl]
              have hni0 : (0 : Int) ≤ (n : Int) := Int.natCast_nonneg _
              have hii0 : (0 : Int) ≤ (i : Int) := Int.natCast_nonneg _
              have hnI : (n : Int) < (r : Int) := by omega
              have hiI : (i : Int) < (r : Int) := by omega
              obtain ⟨y, Hy⟩ : ∃ y, Hid (mx l i j = y) := ⟨_, rfl⟩
              rw [Hy.out] at c2 hz hz2 HY
              have HB2 : Hid (Below w.heap.size w (((wr.setCell ⟨G, i, none⟩ (.slice (some ⟨gn, 0, none⟩) c kn)).setCell ⟨G, n, none⟩ (.slice (some ⟨gi, 0, none⟩) c ki)).drew)) := ((hB.setCell (p := ⟨G, i, none⟩) hGl _).setCell (p := ⟨G, n, none⟩) hGl _).drew
              obtain ⟨us2, Hus⟩ : ∃ us2, Hid (swp nov us i n = us2) := ⟨_, rfl⟩
              obtain ⟨l2, Hl2⟩ : ∃ l2, Hid (swp [] l i n = l2) := ⟨_, rfl⟩
              rw [Hus.out, Hl2.out] at HT
              rw [Hl2.out] at HE2 HY
              clear hl HX HE HZ hui hun Hy Hus Hl2
              go_upto_region 11 with fail
              go_cut [] from 32 to 122 (fun wx => Hid (Mtx wx w.heap.size (.slice (some ⟨G, 0, none⟩) r CAP) us2 l2) ∧ Below w.heap.size w wx)
              case first =>
                by_cases hin : i = n
                · subst hin
                  rw [c1] at c3
                  injection c3 with c3
                  injection c3 with c4 _ c5
                  injection c4 with c4
                  injection c4 with c4 _ _
                  subst c4 c5
                  go_region
                  go_wp2_with fail
                  go_meet
                  exact ⟨HT.out.drew, HB2.out⟩
                · have hin2 : ¬ n = i := fun e => hin e.symm
                  go_region
                  go_wp2_with fail
                  go_meet
                  exact ⟨HT.out.drew, HB2.out⟩
              case rest =>
                obtain ⟨HT2, hB3⟩ := hcut
                clear HT HB2 c1 c2 c3 f1 f2 hB hir hlt
                have hnlt : n < r := by omega
                have hl2 := HE2.out.len
                obtain ⟨gm, km, hum, hgm0, hgm1, _, hcm⟩ := HT2.out.one (i := n) (by omega) (by rw [HE2.out.cols n hnlt]; exact hc0)
                rw [HE2.out.cols n hnlt] at hum hcm
                have c1 := HT2.out.cell (i := n) (by omega)
                rw [hum] at c1
                have c2 := hcm j hjc
                rw [HY.out] at c2
                have Hum := hide hum
                have hye : El p y := by rw [← HY.out]; exact eli_el HE2.out hp0 hnlt j
                have HTu := hide (fun W => rTurned_any p y W hp1 (by omega) hye)
                have HYu := hide (And.intro hye hz)
                have hdd : El p (inv p y) := pow_el hp0
                have HDD := hide hdd
                obtain ⟨dd, Hdd⟩ : ∃ dd, Hid (inv p y = dd) := ⟨_, rfl⟩
                rw [Hdd.out] at HTu HDD
                clear hcm hum hl2 hye hz2 hz hdd
                go_wp2_with (go_at_call 37; refine (HTu.out _).mono ?_; rintro e w3 ⟨rfl, hw⟩; rw [hw]; clear hw)
                clear c1 c2 HTu
                go_loopw [11] (fun v11 wk => ∃ (k : Nat) (l3 : List (List Int)), v11 = .int .i64 k ∧ n + 1 ≤ k ∧ k ≤ r ∧ Hid (Eli p r c j n l3) ∧ Hid (l3.getD n [] = l2.getD n []) ∧ Hid (∀ k', n < k' → k' < k → mx l3 k' j = 0) ∧ Hid (Mtx wk w.heap.size (.slice (some ⟨G, 0, none⟩) r CAP) us2 l3) ∧ Below w.heap.size w wk) (fun v11 _ => r - (intOf v11).toNat)
                case atStart => exact ⟨n + 1, l2, by go_num, Nat.le_refl _, hnlt, HE2, rfl, fun k' h1 h2 => by omega, HT2, hB3⟩
                case round =>
                  clear HT2 hB3
                  obtain ⟨k, l3, rfl, hnk, hkr, HE3, HN3, HZ3, HX3, hB⟩ := hrel
                  have hYn : Hid (mx l3 n j = y) := by
                    show _ = _
                    unfold mx at HY ⊢
                    rw [HN3.out]; exact HY.out
                  by_cases hk : k < r
                  · have hl3 := HE3.out.len
                    obtain ⟨gk, kk, huk, hgk0, hgk1, _, hck⟩ := HX3.out.one (i := k) (by omega) (by rw [HE3.out.cols k hk]; exact hc0)
                    rw [HE3.out.cols k hk] at huk hck
                    have c1 := HX3.out.cell (i := k) (by omega)
                    rw [huk] at c1
                    have c2 := hck j hjc
                    have hxe : El p (mx l3 k j) := eli_el HE3.out hp0 hk j
                    have hde := elWord HDD.out hp1
                    have HTi := hide (fun W => rTimes_any p (mx l3 k j) dd W hp1 hxe hde.1 hde.2)
                    obtain ⟨t, Ht⟩ : ∃ t, Hid (mul p (mx l3 k j) dd = t) := ⟨_, rfl⟩
                    have hte : El p t := by rw [← Ht.out]; exact mul_el hp0
                    rw [Ht.out] at HTi
                    have Huk := hide huk
                    have HM0 : Hid (Mtx wr w.heap.size (.slice (some ⟨G, 0, none⟩) r CAP) us2 (l3.set k (l3.getD k []))) := by
                      have e : l3.set k (l3.getD k []) = l3 := by
                        apply List.ext_getElem?
                        intro i
                        rw [List.getElem?_set]
                        by_cases e : k = i
                        · subst e
                          rw [if_pos rfl, if_pos (by omega), List.getD_eq_getElem?_getD, List.getElem?_eq_getElem (by omega)]; rfl
                        · rw [if_neg e]
                      show Mtx _ _ _ _ _
                      rw [e]; exact HX3.out
                    have hcl := HE3.out.cols k hk
                    clear hck huk hl3 hxe HX3 hde
                    go_wp2_with (go_at_call 38; refine (HTi.out _).mono ?_; rintro e w4 ⟨rfl, hw⟩; rw [hw]; clear hw)
                    clear c1 c2 HTi
                    go_loopw [13] (fun v13 wm => ∃ (m : Nat) (rw : List Int), v13 = .int .i64 m ∧ m ≤ c ∧ rw.length = c ∧ Hid (∀ m', m' < m → co rw m' = sub p (mx l3 k m') (mul p t (mx l3 n m'))) ∧ Hid (∀ m', m ≤ m' → m' < c → co rw m' = mx l3 k m') ∧ Hid (Mtx wm w.heap.size (.slice (some ⟨G, 0, none⟩) r CAP) us2 (l3.set k rw)) ∧ Below w.heap.size w wm) (fun v13 _ => c - (intOf v13).toNat)
                    case atStart => exact ⟨0, l3.getD k [], rfl, Nat.zero_le _, hcl, fun m' h => by omega, fun m' _ _ => rfl, HM0, hB⟩
                    case round =>
                      clear HM0 hB hcl
                      obtain ⟨m, rw, rfl, hmc, hrl, HD1, HD2, HX4, hB⟩ := hrel
                      have hl3 := HE3.out.len
                      have hset : ∀ i, (l3.set k rw).getD i [] = if i = k then rw else l3.getD i [] := fun i => Rnk.getD_set l3 [] rw (by omega) i
                      have c1 := HX4.out.cell (i := k) (by rw [List.length_set]; omega)
                      have c3 := HX4.out.cell (i := n) (by rw [List.length_set]; omega)
                      rw [Huk.out] at c1
                      rw [Hum.out] at c3
                      by_cases hm : m < c
                      · have d1 := HX4.out.at (i := k) (by rw [List.length_set]; omega) Huk.out (by rw [hset, if_pos rfl]; exact hrl) hm
                        have d2 := HX4.out.at (i := n) (by rw [List.length_set]; omega) Hum.out (by rw [hset, if_neg (by omega)]; exact HE3.out.cols n hnlt) hm
                        have e1 : mx (l3.set k rw) k m = mx l3 k m := by
                          show co ((l3.set k rw).getD k []) m = _
                          rw [hset, if_pos rfl]; exact HD2.out m (Nat.le_refl _) hm
                        have e2 : mx (l3.set k rw) n m = mx l3 n m := by
                          show co ((l3.set k rw).getD n []) m = _
                          rw [hset, if_neg (by omega)]; rfl
                        rw [e1] at d1
                        rw [e2] at d2
                        obtain ⟨d1, d1f⟩ := d1
                        obtain ⟨d2, _⟩ := d2
                        have xe := eli_el HE3.out hp0 hk m
                        have ye := eli_el HE3.out hp0 hnlt m
                        have yw := elWord ye hp1
                        have HTi := hide (fun W => rTimes_any p t (mx l3 n m) W hp1 hte yw.1 yw.2)
                        have HLe := hide (fun W => rLess_any p (mx l3 k m) (mul p t (mx l3 n m)) W hp1 xe (mul_el hp0))
                        have Hz : Hid (sub p (mx l3 k m) (mul p t (mx l3 n m)) = sub p (mx l3 k m) (mul p t (mx l3 n m))) := rfl
                        have HP4 := hide (fun nq => (HX4.out.below (below_drewN (Below.refl _ wr) nq)).put (k := k) (by rw [List.length_set]; omega) Huk.out (by rw [hset, if_pos rfl]; exact hrl.symm) m (sub p (mx l3 k m) (mul p t (mx l3 n m))))
                        have e5 : (l3.set k rw).set k (((l3.set k rw).getD k []).set m (sub p (mx l3 k m) (mul p t (mx l3 n m)))) = l3.set k (rw.set m (sub p (mx l3 k m) (mul p t (mx l3 n m)))) := by
                          rw [hset, if_pos rfl, List.set_set]
                        rw [e5] at HP4
                        have HD3 : Hid (∀ m', m' < m + 1 → co (rw.set m (sub p (mx l3 k m) (mul p t (mx l3 n m)))) m' = sub p (mx l3 k m') (mul p t (mx l3 n m'))) := fun m' h' => by
                          rw [co_set _ _ _ _ (by omega)]
                          by_cases e : m' = m
                          · rw [if_pos e, e]
                          · rw [if_neg e]; exact HD1.out m' (by omega)
                        have HD4 : Hid (∀ m', m + 1 ≤ m' → m' < c → co (rw.set m (sub p (mx l3 k m) (mul p t (mx l3 n m)))) m' = mx l3 k m') := fun m' h' h'' => by
                          rw [co_set _ _ _ _ (by omega), if_neg (by omega)]; exact HD2.out m' (by omega) h''
                        have hrl2 : (rw.set m (sub p (mx l3 k m) (mul p t (mx l3 n m)))).length = c := by rw [List.length_set]; exact hrl
                        have k0 : (0 : Int) ≤ (k : Int) := Int.natCast_nonneg _
                        have n0 : (0 : Int) ≤ (n : Int) := Int.natCast_nonneg _
                        have m0 : (0 : Int) ≤ (m : Int) := Int.natCast_nonneg _
                        have k1 : (k : Int) < (r : Int) := by omega
                        have n1 : (n : Int) < (r : Int) := by omega
                        have m1 : (m : Int) < (c : Int) := by omega
                        clear e1 e2 e5 hset hl3 xe ye yw HD1 HD2 HX4 Hz
                        generalize rw.set m (sub p (mx l3 k m) (mul p t (mx l3 n m))) = rw2 at *
                        generalize hz9 : sub p (mx l3 k m) (mul p t (mx l3 n m)) = z at *
                        clear hz9
                        generalize hz8 : mul p t (mx l3 n m) = q at *
                        clear hz8
                        generalize mx l3 k m = xx at *
                        generalize mx l3 n m = yy at *
                        go_upto_region 20 with fail
                        refine wp_region_last (by kernel_rfl) (by kernel_rfl) (by kernel_rfl) ?_
                        simp only [List.dropLast]
                        repeat (go_big_quiet_step (first
                          | (go_at_call 38; exact Calls.quiet_of_same (HTi.out _))
                          | (go_at_call 39; exact Calls.quiet_of_same (HLe.out _))))
                        refine wpQuiet_nil ?_
                        intro _ hw'
                        obtain ⟨nq, hw''⟩ := hw'
                        subst hw''
                        simp only [lastL]
                        go_wp2
                        have R1 := hide (HP4.out nq)
                        have R2 : Below w.heap.size w ((wr.drewN nq).setCell ⟨gk, m, none⟩ (.int .u64 z)) := (below_drewN hB nq).setCell (p := ⟨gk, m, none⟩) hgk0 _
                        go_roundw
                        case rel => exact ⟨m + 1, rw2, by go_num, by omega, hrl2, HD3, HD4, R1, R2⟩
                        case measure => simp [intOf]; omega
                      · have hmc2 : m = c := by omega
                        have HE5 := hide (HE3.out.off hp0 (k := k) (by omega) hk (t := t) hrl (fun m' h' => HD1.out m' (by omega)))
                        have HN5 : Hid ((l3.set k rw).getD n [] = l2.getD n []) := by show _ = _; rw [hset, if_neg (by omega)]; exact HN3.out
                        have HZ5 : Hid (∀ k', n < k' → k' < k + 1 → mx (l3.set k rw) k' j = 0) := fun k' h' h'' => by
                          show co ((l3.set k rw).getD k' []) j = 0
                          rw [hset]
                          by_cases e : k' = k
                          · rw [if_pos e, HD1.out j (by omega), hYn.out, ← Ht.out, ← Hdd.out]
                            exact off_zero HM.out (eli_el HE3.out hp0 hk j) HYu.out.1 HYu.out.2
                          · rw [if_neg e]; exact HZ3.out k' h' (by omega)
                        clear HE3 HN3 HZ3 HD1 HD2 hset hl3 Hdd Ht hYn HY
                        subst hmc2
                        go_wp2
                        go_roundw
                        case rel => exact ⟨k + 1, l3.set k rw, by go_num, by omega, by omega, HE5, HN5, HZ5, HX4, hB⟩
                        case measure => simp [intOf]; omega
                  · obtain rfl : k = r := by omega
                    have HE4 := hide (HE3.out.found hnlt (fun k' h1 h2 => HZ3.out k' h1 h2))
                    clear HE3 HZ3 HN3 hYn HE2
                    go_wp2
                    go_roundw
                    case rel => exact ⟨n + 1, j + 1, us2, l3, by go_num, by go_num, by omega, HE4, HX3, hB⟩
                    case measure => simp [intOf]; omega
          · obtain rfl : i = r := by omega
            have HE2 := hide (HE.out.none HZ.out)
            clear HE HZ
            go_wp2
            go_roundw
            case rel => exact ⟨n, j + 1, us, l, rfl, by go_num, by omega, HE2, HX, hB⟩
            case measure => simp [intOf]; omega
      · obtain rfl : j = c := by omega
        have hn := HE.out.all (by omega)
        have HN := hide hn
        clear hn
        go_wp2
        go_ret
        have e := HN.out
        subst e
        exact ⟨rfl, hB⟩

end Go.Proofs.Ytifilgmjpflekaa
