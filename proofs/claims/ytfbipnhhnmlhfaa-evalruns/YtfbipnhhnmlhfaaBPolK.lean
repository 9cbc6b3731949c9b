/-
  Polynomials: the document's own Mul and Scale.
-/
import Derived.Test.YtfbipnhhnmlhfaaBPolJ
import Derived.Test.YtfbipnhhnmlhfaaBQLast
namespace Go.Proofs.Ytfbipnhhnmlhfaa
open Go.RowKit Fld
set_option linter.unusedVariables false

/-- The rows before n, and of the row n the first j. -/
def rk (p : Int) (xs ys : List Int) (n j : Nat) : List Int := mk (xs.length + ys.length - 1) (fun i => rw' xs ys n j i % p)
theorem rk_len (p : Int) (xs ys : List Int) (n j : Nat) : (rk p xs ys n j).length = xs.length + ys.length - 1 := mk_len _ _
theorem els_rk {p : Int} (hp : 0 < p) (xs ys : List Int) (n j : Nat) : Els p (rk p xs ys n j) := els_mk_mod hp _ _
theorem rk_start (p : Int) (xs ys : List Int) (n : Nat) : rk p xs ys n 0 = pk p xs ys n := by unfold rk pk; congr 1; funext i; rw [rw_start]
theorem rk_end (p : Int) (xs ys : List Int) (n : Nat) : rk p xs ys n ys.length = pk p xs ys (n + 1) := by unfold rk pk; congr 1; funext i; rw [rw_end]
theorem rk_step {p : Int} {xs ys : List Int} {n j : Nat} (h : n + j < xs.length + ys.length - 1) : (rk p xs ys n j).set (n + j) (add p (co (rk p xs ys n j) (n + j)) (mul p (co xs n) (co ys j))) = rk p xs ys n (j + 1) := by
  apply ext_co (by rw [List.length_set, rk_len, rk_len])
  intro i hi
  rw [List.length_set, rk_len] at hi
  rw [co_set _ _ _ _ (by rw [rk_len]; exact h)]
  unfold rk
  rw [co_mk, co_mk, co_mk, if_pos hi, if_pos hi, if_pos h, rw_step]
  by_cases he : i = n + j
  · subst he
    rw [if_pos rfl, if_pos rfl]
    unfold add mul
    rw [Int.add_emod, Int.emod_emod_of_dvd _ (Int.dvd_refl p), Int.emod_emod_of_dvd _ (Int.dvd_refl p), ← Int.add_emod]
  · rw [if_neg he, if_neg he]

theorem store_step {w2 wr : World} {base g n cap k : Nat} {ys : List Int} {z : Int} {T : TypeId} (hO : wr.ownsRow base T 1 (.slice (some ⟨g, 0, none⟩) n cap) n (vals ys)) (hB : Below w2.heap.size w2 wr) (hg : w2.heap.size ≤ g) (nq : Nat) :
    ((wr.drewN nq).setCell ⟨g, k, none⟩ (.int .u64 z)).ownsRow base T 1 (.slice (some ⟨g, 0, none⟩) n cap) n (vals (ys.set k z)) ∧ Below w2.heap.size w2 ((wr.drewN nq).setCell ⟨g, k, none⟩ (.int .u64 z)) :=
  ⟨(spoil_step (own_below hO (below_drewN (Below.refl _ wr) nq)) (grown_refl _ _) (.inl rfl)).1, (below_drewN hB nq).setCell (p := ⟨g, k, none⟩) hg _⟩

set_option maxRecDepth 100000 in
set_option maxHeartbeats 400000 in
theorem dMul_any (f : Int) (v1 v2 : Value) (xs ys : List Int) (w : World) (h1 : Rw w v1 xs) (h2 : Rw w v2 ys) : Gives 46 #[.int .u8 f, v1, v2] w (mulL f xs ys) (mulE f xs ys) := by
  have hk := hide (fun W (hb : Below w.heap.size w W) => rBad_any f _ _ xs ys W (h1.below hb) (h2.below hb))
  by_cases he : er f xs ys = 0
  · obtain ⟨p, wd, h, i1, i2, m1, m2⟩ := er_zero he
    obtain ⟨i0, hi0, hz0, hz1, hz2⟩ := info_parts u64_info
    rw [he] at hk
    have t1 := hide (fun W (hb : Below w.heap.size w W) => rTrim_any _ xs W (h1.below hb))
    have t2 := hide (fun W (hb : Below w.heap.size w W) => rTrim_any _ ys W (h2.below hb))
    have n1 := tr_len xs
    have n2 := tr_len ys
    have X1 := (els_of i1 h1.words).tr h.pos
    have X2 := (els_of i2 h2.words).tr h.pos
    have Y1 := tr_tr xs
    have Y2 := tr_tr ys
    have R1 := hide (fun W u n base (hO : World.ownsRow W base 49 1 u n (vals (tr xs))) => rw_of_own hO (by omega) (els_words X1 h.top))
    have R2 := hide (fun W u n base (hO : World.ownsRow W base 49 1 u n (vals (tr ys))) => rw_of_own hO (by omega) (els_words X2 h.top))
    have HME : Hid (mulE f xs ys = if 4096 < (tr xs).length + (tr ys).length - 1 then 4 else 0) := by show _ = _; unfold mulE; rw [if_pos he]
    have HML : Hid (mulL f xs ys = if mulE f xs ys = 0 then prd p (tr xs) (tr ys) else []) := by show _ = _; unfold mulL; rw [pOf_eq h]
    rw [HML.out, HME.out]
    clear h1 h2 he HME HML
    generalize tr xs = zs at *
    generalize tr ys = us at *
    by_cases ez : zs = []
    · subst ez
      have HG : Hid (prd p [] us = []) := by show _ = _; unfold prd; rw [if_pos (.inl rfl)]
      have hn : ¬ 4096 < ([] : List Int).length + us.length - 1 := by simp; omega
      rw [if_neg hn, if_pos rfl, HG.out]
      apply Gives.none
      clear hn HG
      go_enter Try.func46, Try.ntmps46
      go_wp2_with fail
      refine (hk.out _ (Below.refl _ _)).mono ?_; rintro e w1 ⟨rfl, hw⟩; rw [hw]; clear hw
      go_wp2_with fail
      refine (t1.out _ (Below.refl _ _)).mono ?_; rintro e w1 ⟨u1, rfl, hO1, hb1⟩
      obtain ⟨a1, c1, rfl, _⟩ := (R1.out _ _ _ _ hO1).spell
      go_wp2_with fail
      refine (t2.out _ hb1).mono ?_; rintro e w2 ⟨u2, rfl, hO2, hb2⟩
      obtain ⟨a2, c2, rfl, _⟩ := (R2.out _ _ _ _ hO2).spell
      clear hO1 hO2
      go_wp2
      go_ret2
      exact ⟨rfl, Below.next hb1 hb2⟩
    by_cases eu : us = []
    · subst eu
      have pz := List.length_pos_iff.2 ez
      have bz : ((zs.length : Int) == 0) = false := beq_eq_false_iff_ne.2 (by omega)
      have HG : Hid (prd p zs [] = []) := by show _ = _; unfold prd; rw [if_pos (.inr rfl)]
      have hn : ¬ 4096 < zs.length + ([] : List Int).length - 1 := by simp; omega
      rw [if_neg hn, if_pos rfl, HG.out]
      apply Gives.none
      clear hn HG ez
      go_enter Try.func46, Try.ntmps46
      go_wp2_with fail
      refine (hk.out _ (Below.refl _ _)).mono ?_; rintro e w1 ⟨rfl, hw⟩; rw [hw]; clear hw
      go_wp2_with fail
      refine (t1.out _ (Below.refl _ _)).mono ?_; rintro e w1 ⟨u1, rfl, hO1, hb1⟩
      obtain ⟨a1, c1, rfl, _⟩ := (R1.out _ _ _ _ hO1).spell
      go_wp2_with fail
      refine (t2.out _ hb1).mono ?_; rintro e w2 ⟨u2, rfl, hO2, hb2⟩
      obtain ⟨a2, c2, rfl, _⟩ := (R2.out _ _ _ _ hO2).spell
      clear hO1 hO2
      go_wp2
      go_ret2
      exact ⟨rfl, Below.next hb1 hb2⟩
    have pz := List.length_pos_iff.2 ez
    have pu := List.length_pos_iff.2 eu
    have bz : ((zs.length : Int) == 0) = false := beq_eq_false_iff_ne.2 (by omega)
    have bu : ((us.length : Int) == 0) = false := beq_eq_false_iff_ne.2 (by omega)
    by_cases hm : 4096 < zs.length + us.length - 1
    · rw [if_pos hm, if_neg (by decide)]
      apply Gives.none
      clear ez eu
      go_enter Try.func46, Try.ntmps46
      go_wp2_with fail
      refine (hk.out _ (Below.refl _ _)).mono ?_; rintro e w1 ⟨rfl, hw⟩; rw [hw]; clear hw
      go_wp2_with fail
      refine (t1.out _ (Below.refl _ _)).mono ?_; rintro e w1 ⟨u1, rfl, hO1, hb1⟩
      obtain ⟨a1, c1, rfl, _⟩ := (R1.out _ _ _ _ hO1).spell
      go_wp2_with fail
      refine (t2.out _ hb1).mono ?_; rintro e w2 ⟨u2, rfl, hO2, hb2⟩
      obtain ⟨a2, c2, rfl, _⟩ := (R2.out _ _ _ _ hO2).spell
      clear hO1 hO2
      go_wp2
      go_ret2
      exact ⟨rfl, Below.next hb1 hb2⟩
    rw [if_neg hm, if_pos rfl]
    obtain ⟨N, HN⟩ : ∃ N, Hid (N = zs.length + us.length - 1) := ⟨_, rfl⟩
    have hN1 : N + 1 = zs.length + us.length := by have := HN.out; omega
    have hN2 : N ≤ 4096 := by have := HN.out; omega
    have HAL := hide (pk_all (p := p) ez eu)
    have HZ := hide (pk_zero p zs us)
    rw [← HN.out] at HZ
    have HLen : Hid ((prd p zs us).length = N) := by show _ = _; rw [prd_len p zs us ez eu, HN.out]
    have HTR : Hid (tr (prd p zs us) = prd p zs us) := (is_prd h.md X1 X2 Y1 Y2).2.1
    have HST := hide (fun n => rk_start p zs us n)
    have HEN := hide (fun n => rk_end p zs us n)
    have HSP := hide (fun n j (h : n + j < N) => rk_step (p := p) (xs := zs) (ys := us) (n := n) (j := j) (by rw [← HN.out]; exact h))
    have hp0 := h.pos
    have hp1 := h.top
    have hP := hide (fun W => rP_yes f p wd W h)
    have HSum := hide (fun W n j => rSum_any p (co (rk p zs us n j) (n + j)) (mul p (co zs n) (co us j)) W h.top ((els_rk h.pos zs us n j).co h.pos _) (mul_el h.pos))
    have HTim := hide (fun W n j => rTimes_any p (co zs n) (co us j) W h.top (X1.co h.pos n) (X2.co h.pos j).1 (elWord (X2.co h.pos j) h.top).2)
    have HPW := hide (els_words (els_prd h.pos zs us) h.top)
    have HKL : Hid (∀ n j, (rk p zs us n j).length = N) := fun n j => by rw [rk_len]; exact HN.out.symm
    clear ez eu h X1 X2 Y1 Y2 i1 i2 HN
    show Calls _ _ _ _ _
    go_enter Try.func46, Try.ntmps46
    go_wp2_with fail
    refine (hk.out _ (Below.refl _ _)).mono ?_; rintro e w1 ⟨rfl, hw⟩; rw [hw]; clear hw
    go_wp2_with fail
    refine (t1.out _ (Below.refl _ _)).mono ?_; rintro e w1 ⟨u1, rfl, hO1, hb1⟩
    have r1 := R1.out _ _ _ _ hO1
    go_wp2_with fail
    refine (t2.out _ hb1).mono ?_; rintro e w2 ⟨u2, rfl, hO2, hb2⟩
    have r1 := r1.below hb2
    have r2 := R2.out _ _ _ _ hO2
    have hB2 := Below.next hb1 hb2
    clear hO1 hO2 hb1 hb2 t1 t2 hk R1 R2
    obtain ⟨⟨a1, c1, rfl, _, _, hc1⟩, _⟩ := r1
    obtain ⟨⟨a2, c2, rfl, _, _, hc2⟩, _⟩ := r2
    have hs2 := hB2.size
    go_wp2_with (at_make; refine wpList_make_full _ rfl _ _ 26 rfl w.heap.size 49 i0 (.int .u64 0) 1 Try.underlying26 hi0 hz0 hz1 .i64 .i64 _ _ N rfl rfl (by omega) (by omega) (by rw [hz2]; omega) (by unfold maxLen; omega) hs2 ?_; intro w3 hown hgrow; have hO := own_made hown; have hB3 := below_grown_none hgrow; have hG3 := hgrow.size; clear hown)
    rw [← HZ.out] at hO
    clear hgrow
    go_loopw [10] (fun vk wr => ∃ k : Nat, k ≤ zs.length ∧ vk = .int .i64 k ∧ wr.ownsRow w.heap.size 49 1 (.slice (some ⟨w2.heap.size, 0, none⟩) N N) N (vals (pk p zs us k)) ∧ Below w2.heap.size w2 wr) (fun vk _ => zs.length - (intOf vk).toNat)
    case atStart => exact ⟨0, Nat.zero_le _, rfl, hO, hB3⟩
    case round =>
      clear hO hB3
      obtain ⟨k, hk, rfl, hO, hB⟩ := hrel
      by_cases hlt : k < zs.length
      · obtain ⟨b1, o1, rfl, hbl1, hcl1⟩ := hc1 (by intro h; rw [h] at hlt; simp at hlt)
        obtain ⟨b2, o2, rfl, hbl2, hcl2⟩ := hc2 (by intro h; rw [h] at pu; simp at pu)
        rw [← HST.out k] at hO
        go_wp2_with fail
        go_loopw [11] (fun vj wr => ∃ j : Nat, j ≤ us.length ∧ vj = .int .i64 j ∧ wr.ownsRow w.heap.size 49 1 (.slice (some ⟨w2.heap.size, 0, none⟩) N N) N (vals (rk p zs us k j)) ∧ Below w2.heap.size w2 wr) (fun vj _ => us.length - (intOf vj).toNat)
        case atStart => exact ⟨0, Nat.zero_le _, rfl, hO, hB⟩
        case round =>
          clear hO hB
          obtain ⟨j, hj, rfl, hO, hB⟩ := hrel
          by_cases hlj : j < us.length
          · have d1 := (hB.cell (p := ⟨b1, o1 + k, none⟩) hbl1).trans (hcl1 k hlt)
            have d2 := (hB.cell (p := ⟨b2, o2 + j, none⟩) hbl2).trans (hcl2 j hlj)
            have hkj : k + j < N := by omega
            have d3 := own_cell hO (HKL.out k j) hkj
            have d4 := hO.frozenAt (k + j)
            have hs := hide (fun W => HSum.out W k j)
            have ht := hide (fun W => HTim.out W k j)
            have hp := hide (HSP.out k j hkj)
            have e1 : zs.getD k 0 = co zs k := rfl
            have e2 : us.getD j 0 = co us j := rfl
            have e3 : (rk p zs us k j).getD (k + j) 0 = co (rk p zs us k j) (k + j) := rfl
            rw [e1] at d1
            rw [e2] at d2
            rw [e3] at d3
            clear e1 e2 e3 hcl1 hcl2 hc1 hc2
            generalize hz : co (rk p zs us k j) (k + j) = z at *
            generalize co zs k = x at *
            generalize co us j = y at *
            generalize hq : mul p x y = q at *
            generalize hr : add p z q = r at *
            have k0 : (0 : Int) ≤ (k : Int) := Int.natCast_nonneg _
            have j0 : (0 : Int) ≤ (j : Int) := Int.natCast_nonneg _
            have k1 : (k : Int) < (zs.length : Int) := by omega
            have j1 : (j : Int) < (us.length : Int) := by omega
            have kj0 : (0 : Int) ≤ (k : Int) + (j : Int) := by omega
            have kj1 : (k : Int) + (j : Int) < (N : Int) := by omega
            clear hq hr hz HSum HTim HSP
            have HO := hide hO
            clear hO
            go_wp2_with fail
            refine wp_region_last (by kernel_rfl) (by kernel_rfl) (by kernel_rfl) ?_
            simp only [List.dropLast]
            repeat (go_big_quiet_step (first
                | (go_at_call 23; exact Calls.quiet_of_same (hP.out _))
                | (go_at_call 35; exact Calls.quiet_of_same (ht.out _))
                | (go_at_call 33; exact Calls.quiet_of_same (hs.out _))))
            refine wpQuiet_nil ?_
            intro _ hw'
            obtain ⟨nq, hw''⟩ := hw'
            subst hw''
            simp only [lastL]
            go_wp2
            have R := hide (store_step (z := r) (k := k + j) HO.out hB (Nat.le_refl _) nq)
            rw [hp.out] at R
            go_roundw
            case rel => exact ⟨j + 1, by omega, by go_num, R.out.1, R.out.2⟩
            case measure => simp [intOf]; omega
          · obtain rfl : j = us.length := by omega
            rw [HEN.out k] at hO
            clear hc1 hc2 hcl1 hcl2
            go_wp2
            go_roundw
            case rel => exact ⟨k + 1, by omega, by go_num, hO, hB⟩
            case measure => simp [intOf]; omega
      · obtain rfl : k = zs.length := by omega
        rw [HAL.out] at hO
        have ht := hide (rTrim_any _ _ _ (rw_of_own hO (by rw [HLen.out]; omega) HPW.out))
        rw [HTR.out] at ht
        clear hc1 hc2
        go_wp2_with (go_at_call 22; refine ht.out.mono ?_; rintro e w5 ⟨v', rfl, hO5, hb5⟩)
        go_ret2
        have hB5 := hB2.trans (hB.mono hs2)
        exact ⟨_, rfl, own_mono hO5 hB5.size, Below.next hB5 hb5⟩
  · have ht : (er f xs ys != 0) = true := bne_iff_ne.2 he
    have HE : Hid (mulE f xs ys = er f xs ys) := by show _ = _; unfold mulE; rw [if_neg he]
    have HL : Hid (mulL f xs ys = []) := by show _ = _; unfold mulL; rw [HE.out, if_neg he]
    rw [HE.out, HL.out]
    clear h1 h2 he HE HL
    generalize er f xs ys = e0 at *
    apply Gives.none
    go_enter Try.func46, Try.ntmps46
    go_wp2_with (go_at_call 49; refine (hk.out _ (Below.refl _ _)).mono ?_; rintro e w1 ⟨rfl, hw⟩; rw [hw]; clear hw)
    go_ret2
    exact ⟨rfl, Below.refl _ _⟩

theorem scl_mul {f c p : Int} {wd : Bool} {xs : List Int} (h : Fi f p wd) (he : er f [c] xs = 0) (hc : El p c) (hx : Els p xs) (hl : xs.length ≤ 4096) : mulE f [c] xs = 0 ∧ mulL f [c] xs = sclL f c xs := by
  have n1 := tr_len [c]
  have n2 := tr_len xs
  have e1 : mulE f [c] xs = 0 := by
    unfold mulE; rw [if_pos he, if_neg (by simp at n1; omega)]
  refine ⟨e1, ?_⟩
  have hc' : Els p [c] := fun x hx => by rw [List.mem_singleton.1 hx]; exact hc
  unfold mulL sclL
  rw [if_pos e1, if_pos he, pOf_eq h]
  have i1 := is_prd h.md (hc'.tr h.pos) (hx.tr h.pos) (tr_tr _) (tr_tr _)
  rw [cv_tr] at i1
  exact i1.only h.pos (is_scale h.pos c xs)

end Go.Proofs.Ytfbipnhhnmlhfaa
