/-
  Layer 4: the document's own round product.
-/
import Derived.Test.YtcjgjgkoeokooaaDoorBFasR
namespace Go.Proofs.YtcjgjgkoeokooaaDoor
open Go.RowKit Fld
set_option linter.unusedVariables false

def rrL (p : Int) (N : Nat) (xs ys : List Int) (n j : Nat) : List Int := mk N (fun k => rr N xs ys n j k % p)
theorem rrL_len (p : Int) (N : Nat) (xs ys : List Int) (n j : Nat) : (rrL p N xs ys n j).length = N := mk_len _ _
theorem els_rrL {p : Int} (hp : 0 < p) (N : Nat) (xs ys : List Int) (n j : Nat) : Els p (rrL p N xs ys n j) := els_mk_mod hp _ _
theorem rrL_start (p : Int) (N : Nat) (xs ys : List Int) : rrL p N xs ys 0 0 = List.replicate N 0 := by
  apply ext_co (by rw [rrL_len]; simp)
  intro i hi
  rw [rrL_len] at hi
  unfold rrL
  rw [co_mk, if_pos hi, rr_start, co_nought, Int.zero_emod]
theorem rrL_next (p : Int) (N : Nat) (xs ys : List Int) (n : Nat) : rrL p N xs ys n ys.length = rrL p N xs ys (n + 1) 0 := by
  unfold rrL; congr 1; funext k; rw [rr_next]
theorem rrL_end (p : Int) (N : Nat) (xs ys : List Int) : rrL p N xs ys xs.length 0 = rdL p N xs ys := by
  unfold rrL rdL; congr 1; funext k; rw [rr_end]
theorem rrL_step {p : Int} {N : Nat} {xs ys : List Int} {n j : Nat} (hn : n < N) (hj : j < N) :
    (rrL p N xs ys n j).set ((n + j) % N) (add p (co (rrL p N xs ys n j) ((n + j) % N)) (mul p (co xs n) (co ys j))) = rrL p N xs ys n (j + 1) := by
  have hK : (n + j) % N < N := Nat.mod_lt _ (by omega)
  apply ext_co (by rw [List.length_set, rrL_len, rrL_len])
  intro i hi
  rw [List.length_set, rrL_len] at hi
  rw [co_set _ _ _ _ (by rw [rrL_len]; exact hK)]
  unfold rrL
  rw [co_mk, co_mk, co_mk, if_pos hi, if_pos hi, if_pos hK, rr_step hn hj hi]
  by_cases he : i = (n + j) % N
  · rw [if_pos he, if_pos he, he]
    unfold add mul
    rw [Int.add_emod, Int.emod_emod_of_dvd _ (Int.dvd_refl p), Int.emod_emod_of_dvd _ (Int.dvd_refl p), ← Int.add_emod]
  · rw [if_neg he, if_neg he]

set_option maxRecDepth 100000 in
set_option maxHeartbeats 400000 in
theorem dRound_any (f : Int) (v1 v2 : Value) (xs ys : List Int) (w : World) (h1 : Rw w v1 xs) (h2 : Rw w v2 ys) : Gives 19 #[.int .u8 f, v1, v2] w (rdM f xs ys) (rdE f xs ys) := by
  have hk := hide (fun W (hb : Below w.heap.size w W) => rBad_any f v1 v2 xs ys W (h1.below hb) (h2.below hb))
  have H1 := hide h1
  have H2 := hide h2
  have l1 := h1.len
  have l2 := h2.len
  obtain ⟨a1, c1, rfl, _⟩ := h1.spell
  obtain ⟨a2, c2, rfl, _⟩ := h2.spell
  by_cases he : er f xs ys = 0
  · rw [he] at hk
    cases hp : isP xs.length with
    | false =>
      have e1 : rdE f xs ys = 3 := by unfold rdE shE; rw [he, if_pos rfl, hp, if_neg (by simp)]
      have e2 : rdM f xs ys = [] := by unfold rdM; rw [e1]; rfl
      have HL := hide (fun W => rlog_no xs.length W hp)
      rw [e1, e2]
      apply Gives.none
      clear h1 h2 e1 e2 hp he H1 H2
      go_enter Tryd.func19, Tryd.ntmps19
      go_wp2_with (first
        | (go_at_call 31; refine (hk.out _ (Below.refl _ _)).mono ?_; rintro e w1 ⟨rfl, hw⟩; rw [hw]; clear hw)
        | (go_at_call 36; refine (HL.out _).mono ?_; rintro e w1 ⟨rfl, hw⟩; rw [hw]; clear hw))
      go_ret2
      exact ⟨rfl, Below.refl _ _⟩
    | true =>
      obtain ⟨L, hL, hl⟩ := isP_pow hp
      have HL := hide (fun W => rlog_yes xs.length L W hL hl)
      have L0 : (0 : Int) ≤ (L : Int) := Int.natCast_nonneg _
      by_cases hly : ys.length = xs.length
      · have e1 : rdE f xs ys = 0 := by unfold rdE shE; rw [he, if_pos rfl, hp, decide_eq_true hly]; rfl
        obtain ⟨p, wd, LL, gb, _, hB, _, _, _, i1, i2⟩ := rdE_zero e1
        have e2 : rdM f xs ys = rdL p xs.length xs ys := by unfold rdM; rw [if_pos e1, pOf_eq hB.fi]
        have hp0 := hB.fi.pos
        have hp1 := hB.fi.top
        have hle : xs.length ≤ 4096 := by rw [hl]; exact pow_le12 hL
        have hn1 : 1 ≤ xs.length := by rw [hl]; exact Nat.pow_pos (by decide)
        have hP := hide (fun W => rP_yes f p wd W hB.fi)
        have hxe := els_of i1 h1.words
        have hye := els_of i2 h2.words
        obtain ⟨N, HNn⟩ : ∃ N, Hid (xs.length = N) := ⟨_, rfl⟩
        have HYn : Hid (ys.length = N) := by show _ = _; rw [hly, HNn.out]
        have HSum := hide (fun W n j => rSum_any p (co (rrL p N xs ys n j) ((n + j) % N)) (mul p (co xs n) (co ys j)) W hp1 ((els_rrL hp0 N xs ys n j).co hp0 _) (mul_el hp0))
        have HTim := hide (fun W n j => rTimes_any p (co xs n) (co ys j) W hp1 (hxe.co hp0 n) (hye.co hp0 j).1 (elWord (hye.co hp0 j) hp1).2)
        have HSP := hide (fun n j (hn : n < N) (hj : j < N) => rrL_step (p := p) (xs := xs) (ys := ys) hn hj)
        have HKL := hide (fun n j => rrL_len p N xs ys n j)
        have HNX := hide (fun n => rrL_next p N xs ys n)
        have HST := hide (rrL_start p N xs ys)
        have HEN := hide (rrL_end p N xs ys)
        have hrl : (rdL p xs.length xs ys).length = xs.length := rdL_len _ _ _ _
        obtain ⟨i0, hi0, hz0, hz1, hz2⟩ := info_parts u64_info
        rw [e1, e2]
        show Calls _ _ _ _ _
        rw [hrl]
        obtain ⟨⟨_, _, hv1, _, _, hc1⟩, _⟩ := h1
        cases hv1
        obtain ⟨⟨_, _, hv2, _, _, hc2⟩, _⟩ := h2
        cases hv2
        rw [hly] at hk hc2 HNX
        rw [HNn.out] at hk HL hc1 hc2 HEN HNX hle hn1 l1
        clear e1 e2 hp he hB i1 i2 hl hxe hye hrl H1 H2
        rw [hly, HNn.out]
        clear hly l2
        go_enter Tryd.func19, Tryd.ntmps19
        go_wp2_with (first
          | (go_at_call 31; refine (hk.out _ (Below.refl _ _)).mono ?_; rintro e w1 ⟨rfl, hw⟩; rw [hw]; clear hw)
          | (go_at_call 36; refine (HL.out _).mono ?_; rintro e w1 ⟨rfl, hw⟩; rw [hw]; clear hw)
          | (go_at_call 24; refine (hP.out _).mono ?_; rintro e w1 ⟨rfl, hw⟩; rw [hw]; clear hw)
          | (at_make; refine wpList_make_full _ rfl _ _ 22 rfl w.heap.size 39 i0 (.int .u64 0) 1 Tryd.underlying22 hi0 hz0 hz1 .i64 .i64 _ _ N rfl rfl (by omega) (by omega) (by rw [hz2]; omega) (by unfold maxLen; omega) (Nat.le_refl _) ?_; intro w3 hown hgrow; have hO := own_made hown; have hB3 := below_grown_none hgrow; clear hown hgrow))
        rw [← HST.out] at hO
        go_loopw [11] (fun vk wr => ∃ k : Nat, k ≤ N ∧ vk = .int .i64 k ∧ wr.ownsRow w.heap.size 39 1 (.slice (some ⟨w.heap.size, 0, none⟩) N N) N (vals (rrL p N xs ys k 0)) ∧ Below w.heap.size w wr) (fun vk _ => N - (intOf vk).toNat)
        case atStart => exact ⟨0, Nat.zero_le _, rfl, hO, hB3⟩
        case round =>
          clear hO hB3
          obtain ⟨k, hk, rfl, hO, hB⟩ := hrel
          by_cases hlt : k < N
          · obtain ⟨b1, o1, rfl, hbl1, hcl1⟩ := hc1 (by intro h; have := HNn.out; rw [h] at this; simp at this; omega)
            obtain ⟨b2, o2, rfl, hbl2, hcl2⟩ := hc2 (by intro h; have := HYn.out; rw [h] at this; simp at this; omega)
            go_wp2_with fail
            go_loopw [12] (fun vj wr => ∃ j : Nat, j ≤ N ∧ vj = .int .i64 j ∧ wr.ownsRow w.heap.size 39 1 (.slice (some ⟨w.heap.size, 0, none⟩) N N) N (vals (rrL p N xs ys k j)) ∧ Below w.heap.size w wr) (fun vj _ => N - (intOf vj).toNat)
            case atStart => exact ⟨0, Nat.zero_le _, rfl, hO, hB⟩
            case round =>
              clear hO hB
              obtain ⟨j, hj, rfl, hO, hB⟩ := hrel
              by_cases hlj : j < N
              · have d1 := (hB.cell (p := ⟨b1, o1 + k, none⟩) hbl1).trans (hcl1 k hlt)
                have d2 := (hB.cell (p := ⟨b2, o2 + j, none⟩) hbl2).trans (hcl2 j hlj)
                have hs := hide (fun W => HSum.out W k j)
                have ht := hide (fun W => HTim.out W k j)
                have hp := hide (HSP.out k j hlt hlj)
                obtain ⟨K, hK, HK⟩ : ∃ K : Nat, ((k : Int) + (j : Int)) % (N : Int) = (K : Int) ∧ Hid ((k + j) % N = K) := ⟨(k + j) % N, by rw [← Int.natCast_add, ← Int.natCast_emod], hide rfl⟩
                have hKN : K < N := by rw [← HK.out]; exact Nat.mod_lt _ (by omega)
                rw [HK.out] at hs hp
                have d3 := own_cell hO (HKL.out k j) hKN
                have d4 := hO.frozenAt K
                have e1 : xs.getD k 0 = co xs k := rfl
                have e2 : ys.getD j 0 = co ys j := rfl
                have e3 : (rrL p N xs ys k j).getD K 0 = co (rrL p N xs ys k j) K := rfl
                rw [e1] at d1
                rw [e2] at d2
                rw [e3] at d3
                clear e1 e2 e3 hcl1 hcl2 hc1 hc2 HK
                generalize hz : co (rrL p N xs ys k j) K = z at *
                generalize co xs k = x at *
                generalize co ys j = y at *
                generalize hq : mul p x y = q at *
                generalize hr : add p z q = r at *
                have k0 : (0 : Int) ≤ (k : Int) := Int.natCast_nonneg _
                have j0 : (0 : Int) ≤ (j : Int) := Int.natCast_nonneg _
                have k1 : (k : Int) < (N : Int) := by omega
                have j1 : (j : Int) < (N : Int) := by omega
                have N1 : (N : Int) ≤ 4096 := by omega
                have N2 : ¬ (N : Int) = 0 := by omega
                have K0 : (0 : Int) ≤ (K : Int) := Int.natCast_nonneg _
                have K1 : (K : Int) < (N : Int) := by omega
                clear hq hr hz HSum HTim HSP
                have HO := hide hO
                clear hO
                go_wp2_with fail
                refine wp_region_last (by kernel_rfl) (by kernel_rfl) (by kernel_rfl) ?_
                simp only [List.dropLast]
                repeat (go_big_quiet_step (first
                    | (go_at_call 23; exact Calls.quiet_of_same (ht.out _))
                    | (go_at_call 32; exact Calls.quiet_of_same (hs.out _))))
                refine wpQuiet_nil ?_
                intro _ hw'
                obtain ⟨nq, hw''⟩ := hw'
                subst hw''
                simp only [lastL]
                go_wp2
                have R := hide (store_step (z := r) (k := K) HO.out hB (Nat.le_refl _) nq)
                rw [hp.out] at R
                go_roundw
                case rel => exact ⟨j + 1, by omega, by go_num, R.out.1, R.out.2⟩
                case measure => simp [intOf]; omega
              · obtain rfl : j = N := by omega
                rw [HNX.out k] at hO
                clear hc1 hc2 hcl1 hcl2
                go_wp2
                go_roundw
                case rel => exact ⟨k + 1, by omega, by go_num, hO, hB⟩
                case measure => simp [intOf]; omega
          · obtain rfl : k = N := by omega
            rw [HEN.out] at hO
            clear hc1 hc2
            have O := hide hO
            clear hO
            go_wp2
            go_ret2
            exact ⟨_, rfl, O.out, hB⟩
      · have e1 : rdE f xs ys = 3 := by unfold rdE shE; rw [he, if_pos rfl, hp, decide_eq_false hly]; rfl
        have e2 : rdM f xs ys = [] := by unfold rdM; rw [e1]; rfl
        have hne : ((xs.length : Int) != (ys.length : Int)) = true := bne_iff_ne.2 (by omega)
        rw [e1, e2]
        apply Gives.none
        clear h1 h2 e1 e2 hp he H1 H2 hl hly
        generalize xs.length = n1 at *
        generalize ys.length = n2 at *
        go_enter Tryd.func19, Tryd.ntmps19
        go_wp2_with (first
          | (go_at_call 31; refine (hk.out _ (Below.refl _ _)).mono ?_; rintro e w1 ⟨rfl, hw⟩; rw [hw]; clear hw)
          | (go_at_call 36; refine (HL.out _).mono ?_; rintro e w1 ⟨rfl, hw⟩; rw [hw]; clear hw))
        go_ret2
        exact ⟨rfl, Below.refl _ _⟩
  · have e1 : rdE f xs ys = er f xs ys := by unfold rdE shE; rw [if_neg he]
    have e2 : rdM f xs ys = [] := by unfold rdM; rw [e1, if_neg he]
    have ht : (er f xs ys != 0) = true := bne_iff_ne.2 he
    rw [e1, e2]
    clear h1 h2 e1 e2 he H1 H2
    generalize er f xs ys = e0 at *
    apply Gives.none
    go_enter Tryd.func19, Tryd.ntmps19
    go_wp2_with (go_at_call 31; refine (hk.out _ (Below.refl _ _)).mono ?_; rintro e w1 ⟨rfl, hw⟩; rw [hw]; clear hw)
    go_ret2
    exact ⟨rfl, Below.refl _ _⟩

end Go.Proofs.YtcjgjgkoeokooaaDoor
