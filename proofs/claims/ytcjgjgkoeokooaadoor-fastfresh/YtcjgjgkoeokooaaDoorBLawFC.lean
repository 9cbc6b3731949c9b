/-
  The statements' own lists for transforms.
-/
import Derived.Test.YtcjgjgkoeokooaaDoorBLawFA
namespace Go.Proofs.YtcjgjgkoeokooaaDoor
open Go.RowKit Fld
set_option linter.unusedVariables false

/-- Which field a number picks. -/
def pick (f : Int) : Int := f % 2 + 1
theorem pick_lb (f : Int) (h : 0 ≤ f) : ∃ p wd LL gb, Lb (pick f) p wd LL gb := by
  unfold pick
  by_cases h0 : f % 2 = 0
  · exact ⟨_, _, _, _, .inl ⟨by omega, rfl, rfl, rfl, rfl⟩⟩
  · exact ⟨_, _, _, _, .inr ⟨by omega, rfl, rfl, rfl, rfl⟩⟩
/-- The first n elements, by p. -/
def lsL (p : Int) (n : Nat) (xs : List Int) : List Int := mk n (fun i => co xs i % p)
theorem lsL_len (p : Int) (n : Nat) (xs : List Int) : (lsL p n xs).length = n := mk_len _ _
theorem els_lsL {p : Int} (hp : 0 < p) (n : Nat) (xs : List Int) : Els p (lsL p n xs) := els_mk_mod hp _ _
/-- As far as k. -/
def lsK (p : Int) (n : Nat) (xs : List Int) (k : Nat) : List Int := mk n (fun i => if i < k then co xs i % p else 0)
theorem lsK_len (p : Int) (n : Nat) (xs : List Int) (k : Nat) : (lsK p n xs k).length = n := mk_len _ _
theorem lsK_zero (p : Int) (n : Nat) (xs : List Int) : lsK p n xs 0 = List.replicate n 0 := by
  apply ext_co (by rw [lsK_len]; simp)
  intro i hi
  rw [lsK_len] at hi
  unfold lsK
  rw [co_mk, if_pos hi, if_neg (by omega), co_nought]
theorem lsK_step {p : Int} {n : Nat} {xs : List Int} {k : Nat} (hk : k < n) : (lsK p n xs k).set k (co xs k % p) = lsK p n xs (k + 1) := by
  apply ext_co (by rw [List.length_set, lsK_len, lsK_len])
  intro i hi
  rw [List.length_set, lsK_len] at hi
  rw [co_set _ _ _ _ (by rw [lsK_len]; exact hk)]
  unfold lsK
  rw [co_mk, co_mk, if_pos hi, if_pos hi]
  by_cases he : i = k
  · subst he; rw [if_pos rfl, if_pos (by omega)]
  · rw [if_neg he]
    by_cases h : i < k
    · rw [if_pos h, if_pos (by omega)]
    · rw [if_neg h, if_neg (by omega)]
theorem lsK_end {p : Int} {n : Nat} {xs : List Int} {k : Nat} (hk : n ≤ k ∨ xs.length ≤ k) : lsK p n xs k = lsL p n xs := by
  apply ext_co (by rw [lsK_len, lsL_len])
  intro i hi
  rw [lsK_len] at hi
  unfold lsK lsL
  rw [co_mk, co_mk, if_pos hi, if_pos hi]
  by_cases h : i < k
  · rw [if_pos h]
  · rw [if_neg h, co_out xs i (by omega), Int.zero_emod]

set_option maxRecDepth 100000 in
set_option maxHeartbeats 400000 in
theorem flist_any (f p : Int) (wd : Bool) (v : Value) (xs : List Int) (most : Nat) (w : World) (hf : 0 ≤ f ∧ f ≤ 255) (hF : Fi (pick f) p wd) (hm : most ≤ 9) (h1 : Rw w v xs) :
    Calls Tryd.prog 22 #[.int .u8 f, v, .int .i64 most] w fun e w' => ∃ (K g n : Nat), e = .returned (.tuple #[.int .u8 (pick f), .slice (some ⟨g, 0, none⟩) n n]) ∧ K ≤ most ∧ n = 2 ^ K ∧ OwnG w' g n (lsL p n xs) ∧ w.heap.size ≤ g ∧ Below w.heap.size w w' := by
  obtain ⟨i0, hi0, hz0, hz1, hz2⟩ := info_parts u64_info
  have hlen := h1.len
  obtain ⟨⟨a1, c1, rfl, _, hww, hcell⟩, _⟩ := h1
  have hP := hide (fun W => rP_yes (pick f) p wd W hF)
  have hp0 := hF.pos
  have hp1 := hF.top
  have f0 := hf.1
  have f1 := hf.2
  have hpk : f % 2 + 1 = pick f := rfl
  have pk0 : 0 ≤ pick f := by unfold pick; omega
  have pk1 : pick f ≤ 2 := by unfold pick; omega
  obtain ⟨MM, e1, e2, e3, e4, e5⟩ := pow_int (k := most) (by omega)
  have HMM := hide e3
  have ms0 : (0 : Int) ≤ (most : Int) := Int.natCast_nonneg _
  have ms1 : (most : Int) ≤ 9 := by omega
  have hWW := hide hww
  clear hF hf e3 hww
  generalize pick f = g0 at *
  go_enter Tryd.func22, Tryd.ntmps22
  go_wp2
  go_loop [9] (fun vn => ∃ (k n : Nat), k ≤ most ∧ Hid (n = 2 ^ k) ∧ vn = .int .i64 n) (fun vn => 8192 - (intOf vn).toNat)
  case atStart => exact ⟨0, 1, Nat.zero_le _, rfl, rfl⟩
  case round =>
    obtain ⟨k, n, hk, HN, rfl⟩ := hrel
    have hn9 : n ≤ 512 := by rw [HN.out]; exact Nat.pow_le_pow_right (n := 2) (by decide) (show k ≤ 9 by omega)
    have hn1 : 1 ≤ n := by rw [HN.out]; exact Nat.pow_pos (by decide)
    have n0 : (0 : Int) < (n : Int) := by omega
    have n1 : (n : Int) ≤ 512 := by omega
    by_cases hgo : 2 * n ≤ xs.length ∧ k < most
    · have c1 : 2 * (n : Int) ≤ (xs.length : Int) := by omega
      have c2 : (n : Int) < (MM : Int) := by
        have := pow_gt hgo.2
        have := HN.out
        have := HMM.out
        omega
      go_wp2
      go_round
      case rel => exact ⟨k + 1, 2 * n, by omega, by show _ = _; rw [HN.out, two_pow], by go_num⟩
      case measure => simp [intOf]; omega
    · have hstop : (¬ 2 * n ≤ xs.length) ∨ (2 * n ≤ xs.length ∧ k = most) := by
        by_cases h : 2 * n ≤ xs.length
        · exact .inr ⟨h, by
            by_cases h2 : k < most
            · exact absurd ⟨h, h2⟩ hgo
            · omega⟩
        · exact .inl h
      have HKM := hide hk
      rcases hstop with hs | ⟨hs, hkm⟩
      · have c1 : ¬ 2 * (n : Int) ≤ (xs.length : Int) := by omega
        clear hgo hk
        go_wp2_with (at_make; refine wpList_make_full _ rfl _ _ 22 rfl w.heap.size 39 i0 (.int .u64 0) 1 Tryd.underlying22 hi0 hz0 hz1 .i64 .i64 _ _ n rfl rfl (by omega) (by omega) (by rw [hz2]; omega) (by unfold maxLen; omega) (Nat.le_refl _) ?_; intro w3 hown hgrow; have hO := own_made hown; have hB3 := below_grown_none hgrow; clear hown hgrow)
        rw [← lsK_zero p n xs] at hO
        go_loopw [11] (fun vj wq => ∃ j : Nat, j ≤ n ∧ vj = .int .i64 j ∧ OwnG wq w.heap.size n (lsK p n xs j) ∧ Below w.heap.size w wq) (fun vj _ => n - (intOf vj).toNat)
        case atStart => exact ⟨0, Nat.zero_le _, rfl, hO, hB3⟩
        case round =>
          clear hO hB3
          obtain ⟨j, hj, rfl, hO, hB⟩ := hrel
          have j0 : (0 : Int) ≤ (j : Int) := Int.natCast_nonneg _
          by_cases hgo : j < n ∧ j < xs.length
          · obtain ⟨hjn, hjx⟩ := hgo
            obtain ⟨b, o, rfl, hbl, hcl⟩ := hcell (by intro h; rw [h] at hjx; simp at hjx)
            have d1 := (hB.cell (p := ⟨b, o + j, none⟩) hbl).trans (hcl j hjx)
            have d2 := hO.cell (lsK_len p n xs j) j hjn
            have d3 := hO.free j
            have ex : xs.getD j 0 = co xs j := rfl
            rw [ex] at d1
            have hxw : 0 ≤ co xs j ∧ co xs j ≤ 18446744073709551615 := by rw [co_at hjx]; exact hWW.out _ (List.getElem_mem hjx)
            have x0 := hxw.1
            have x1 := hxw.2
            have HST := hide (lsK_step (p := p) (xs := xs) hjn)
            have ht : (co xs j).tmod p = co xs j % p := Int.tmod_eq_emod_of_nonneg x0
            have j1 : (j : Int) < (n : Int) := by omega
            have j2 : (j : Int) < (xs.length : Int) := by omega
            have pn : ¬ p = 0 := by omega
            clear hcl ex hxw hcell
            obtain ⟨z, HZ⟩ : ∃ z, Hid (co xs j % p = z) := ⟨_, rfl⟩
            rw [HZ.out] at HST ht
            have hzw : IntKind.u64.wrap z = z := by rw [IntKind.wrap_u64]; have := HZ.out; have := Int.emod_nonneg (co xs j) pn; have := Int.emod_lt_of_pos (co xs j) hp0; omega
            clear HZ
            generalize co xs j = x at *
            generalize (lsK p n xs j).getD j 0 = y at *
            have HO := hide hO
            clear hO
            go_wp2_with fail
            refine wp_region_last (by kernel_rfl) (by kernel_rfl) (by kernel_rfl) ?_
            simp only [List.dropLast]
            repeat (go_big_quiet_step (first | (go_at_call 24; exact Calls.quiet_of_same (hP.out _))))
            refine wpQuiet_nil ?_
            intro _ hw'
            obtain ⟨nq, hw''⟩ := hw'
            subst hw''
            simp only [lastL]
            go_wp2
            have R := hide (store_step (z := z) (k := j) HO.out hB (Nat.le_refl _) nq)
            rw [HST.out] at R
            go_roundw
            case rel => exact ⟨j + 1, by omega, by go_num, R.out.1, R.out.2⟩
            case measure => simp [intOf]; omega
          · have HEnd := hide (lsK_end (p := p) (n := n) (xs := xs) (k := j) (by omega))
            rw [HEnd.out] at hO
            have HO := hide hO
            clear hO hcell
            by_cases hjn : j < n
            · have j1 : (j : Int) < (n : Int) := by omega
              have j2 : ¬ (j : Int) < (xs.length : Int) := by omega
              go_wp2
              go_ret2
              exact ⟨k, w.heap.size, n, rfl, HKM.out, HN.out, HO.out, Nat.le_refl _, hB⟩
            · have j1 : ¬ (j : Int) < (n : Int) := by omega
              go_wp2
              go_ret2
              exact ⟨k, w.heap.size, n, rfl, HKM.out, HN.out, HO.out, Nat.le_refl _, hB⟩
      · have c1 : 2 * (n : Int) ≤ (xs.length : Int) := by omega
        have c2 : ¬ (n : Int) < (MM : Int) := by
          have := HN.out
          have := HMM.out
          rw [hkm] at *
          omega
        clear hgo hk
        go_wp2_with (at_make; refine wpList_make_full _ rfl _ _ 22 rfl w.heap.size 39 i0 (.int .u64 0) 1 Tryd.underlying22 hi0 hz0 hz1 .i64 .i64 _ _ n rfl rfl (by omega) (by omega) (by rw [hz2]; omega) (by unfold maxLen; omega) (Nat.le_refl _) ?_; intro w3 hown hgrow; have hO := own_made hown; have hB3 := below_grown_none hgrow; clear hown hgrow)
        rw [← lsK_zero p n xs] at hO
        go_loopw [11] (fun vj wq => ∃ j : Nat, j ≤ n ∧ vj = .int .i64 j ∧ OwnG wq w.heap.size n (lsK p n xs j) ∧ Below w.heap.size w wq) (fun vj _ => n - (intOf vj).toNat)
        case atStart => exact ⟨0, Nat.zero_le _, rfl, hO, hB3⟩
        case round =>
          clear hO hB3
          obtain ⟨j, hj, rfl, hO, hB⟩ := hrel
          have j0 : (0 : Int) ≤ (j : Int) := Int.natCast_nonneg _
          by_cases hgo : j < n ∧ j < xs.length
          · obtain ⟨hjn, hjx⟩ := hgo
            obtain ⟨b, o, rfl, hbl, hcl⟩ := hcell (by intro h; rw [h] at hjx; simp at hjx)
            have d1 := (hB.cell (p := ⟨b, o + j, none⟩) hbl).trans (hcl j hjx)
            have d2 := hO.cell (lsK_len p n xs j) j hjn
            have d3 := hO.free j
            have ex : xs.getD j 0 = co xs j := rfl
            rw [ex] at d1
            have hxw : 0 ≤ co xs j ∧ co xs j ≤ 18446744073709551615 := by rw [co_at hjx]; exact hWW.out _ (List.getElem_mem hjx)
            have x0 := hxw.1
            have x1 := hxw.2
            have HST := hide (lsK_step (p := p) (xs := xs) hjn)
            have ht : (co xs j).tmod p = co xs j % p := Int.tmod_eq_emod_of_nonneg x0
            have j1 : (j : Int) < (n : Int) := by omega
            have j2 : (j : Int) < (xs.length : Int) := by omega
            have pn : ¬ p = 0 := by omega
            clear hcl ex hxw hcell
            obtain ⟨z, HZ⟩ : ∃ z, Hid (co xs j % p = z) := ⟨_, rfl⟩
            rw [HZ.out] at HST ht
            have hzw : IntKind.u64.wrap z = z := by rw [IntKind.wrap_u64]; have := HZ.out; have := Int.emod_nonneg (co xs j) pn; have := Int.emod_lt_of_pos (co xs j) hp0; omega
            clear HZ
            generalize co xs j = x at *
            generalize (lsK p n xs j).getD j 0 = y at *
            have HO := hide hO
            clear hO
            go_wp2_with fail
            refine wp_region_last (by kernel_rfl) (by kernel_rfl) (by kernel_rfl) ?_
            simp only [List.dropLast]
            repeat (go_big_quiet_step (first | (go_at_call 24; exact Calls.quiet_of_same (hP.out _))))
            refine wpQuiet_nil ?_
            intro _ hw'
            obtain ⟨nq, hw''⟩ := hw'
            subst hw''
            simp only [lastL]
            go_wp2
            have R := hide (store_step (z := z) (k := j) HO.out hB (Nat.le_refl _) nq)
            rw [HST.out] at R
            go_roundw
            case rel => exact ⟨j + 1, by omega, by go_num, R.out.1, R.out.2⟩
            case measure => simp [intOf]; omega
          · have HEnd := hide (lsK_end (p := p) (n := n) (xs := xs) (k := j) (by omega))
            rw [HEnd.out] at hO
            have HO := hide hO
            clear hO hcell
            by_cases hjn : j < n
            · have j1 : (j : Int) < (n : Int) := by omega
              have j2 : ¬ (j : Int) < (xs.length : Int) := by omega
              go_wp2
              go_ret2
              exact ⟨k, w.heap.size, n, rfl, HKM.out, HN.out, HO.out, Nat.le_refl _, hB⟩
            · have j1 : ¬ (j : Int) < (n : Int) := by omega
              go_wp2
              go_ret2
              exact ⟨k, w.heap.size, n, rfl, HKM.out, HN.out, HO.out, Nat.le_refl _, hB⟩

end Go.Proofs.YtcjgjgkoeokooaaDoor
