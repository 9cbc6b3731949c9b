/-
  Layer 4: products by transforms, by whatever is fast; powers.
-/
import Derived.Test.YtcjgjgkoeokooaaDoorBFasM
import Derived.Test.YtcjgjgkoeokooaaDoorBFasJ
namespace Go.Proofs.YtcjgjgkoeokooaaDoor
open Go.RowKit Fld
set_option linter.unusedVariables false

theorem Fi.lb {f p : Int} {wd : Bool} (h : Fi f p wd) : ∃ LL gb, Lb f p wd LL gb := by
  rcases h with ⟨a, b, c⟩ | ⟨a, b, c⟩
  · exact ⟨_, _, .inl ⟨a, b, c, rfl, rfl⟩⟩
  · exact ⟨_, _, .inr ⟨a, b, c, rfl, rfl⟩⟩
theorem els_over {p : Int} (hp : 0 < p) {n : Nat} {xs : List Int} (hx : Els p xs) : Els p (over n xs) := Els.of_co fun i hi => by rw [co_over]; exact hx.co hp i
theorem rdL_prd {p : Int} {N n : Nat} {xs ys : List Int} (h1 : xs ≠ []) (h2 : ys ≠ []) (hn : n + 1 = xs.length + ys.length) (hN : n ≤ N) : (rdL p N (over N xs) (over N ys)).take n = prd p xs ys := by
  have l1 := List.length_pos_iff.2 h1
  have l2 := List.length_pos_iff.2 h2
  apply ext_co (by rw [List.length_take, rdL_len, prd_len p xs ys h1 h2]; omega)
  intro i hi
  rw [List.length_take, rdL_len] at hi
  have hi2 : i < n := by omega
  rw [co_take, if_pos hi2]
  unfold rdL
  rw [co_mk, if_pos (by omega), rd_low (m := xs.length) (l := ys.length) (fun j hj => by rw [co_over]; exact co_out _ _ hj) (fun j hj => by rw [co_over]; exact co_out _ _ hj) (by omega)]
  unfold prd
  rw [if_neg (by intro h; rcases h with h | h; exact h1 h; exact h2 h), co_mk, if_pos (by omega)]
  congr 1
  exact cv_congr i (fun j _ => co_over _ _ _) (fun j _ => co_over _ _ _)

set_option maxRecDepth 100000 in
set_option maxHeartbeats 200000 in
theorem transforms_any (f p : Int) (wd : Bool) (v1 v2 : Value) (xs ys : List Int) (w : World) (h : Fi f p wd) (h1 : Rw w v1 xs) (h2 : Rw w v2 ys) (hx : Els p xs) (hy : Els p ys) (hl : xs.length + ys.length ≤ 4097) (e1 : xs ≠ []) (e2 : ys ≠ []) (hT : Tb w) :
    Calls Tryd.prog 50 #[.int .u8 f, v1, v2] w fun e w' => ∃ v', e = .returned v' ∧ Rw w' v' (prd p xs ys) ∧ Below w.heap.size w w' := by
  obtain ⟨LL, gb, hB⟩ := h.lb
  have l1 := List.length_pos_iff.2 e1
  have l2 := List.length_pos_iff.2 e2
  obtain ⟨n, hn⟩ : ∃ n, n + 2 = xs.length + ys.length := ⟨xs.length + ys.length - 2, by omega⟩
  obtain ⟨b1, b2⟩ := bitLen_spec (x := n) (by omega)
  have HLn := hide (fun W => Len_any n W (by omega))
  obtain ⟨K, HK⟩ : ∃ K, Hid (Lib.bitLen n = K) := ⟨_, rfl⟩
  rw [HK.out] at b1 b2 HLn
  obtain ⟨N, HN⟩ : ∃ N, Hid (2 ^ K = N) := ⟨2 ^ K, hide (Eq.refl (2 ^ K))⟩
  have hN12 := pow_le12 b2
  rw [HN.out] at b1 hN12
  obtain ⟨a1, c1, rfl, k1⟩ := h1.spell
  obtain ⟨a2, c2, rfl, k2⟩ := h2.spell
  have HP1 := hide (padded_any (.slice a1 xs.length c1) xs N w h1 (by omega) (by omega))
  have HP2 := hide (fun W (hb : Below w.heap.size w W) => padded_any (.slice a2 ys.length c2) ys N W (h2.below hb) (by omega) (by omega))
  have HR := hide (fun W g g2 (hO : OwnG W g N (over N xs)) (hO2 : OwnG W g2 N (over N ys)) hne hT hg hg2 hbg hbg2 => round_any f p wd LL gb K N (over N xs) (over N ys) W g g2 w.heap.size hB b2 HN.out.symm hO hO2 hne (els_over h.pos hx) (els_over h.pos hy) hT hg hg2 hbg hbg2)
  have HZ := hide (rdL_prd (p := p) (N := N) (n := n + 1) e1 e2 (by omega) (by omega))
  have HW : Hid (∀ x ∈ rdL p N (over N xs) (over N ys), 0 ≤ x ∧ x ≤ 18446744073709551615) := els_words (els_rdL h.pos _ _ _) h.top
  have HTb := hide hT
  have hT1 := hT.2
  have hpw : IntKind.i64.wrap (2 ^ K) = (N : Int) := by rw [wrap_pow K (by omega), ← cast_pow, HN.out]
  have hpw2 : (2 : Int) ^ K = (N : Int) := by rw [← cast_pow, HN.out]
  have K0 : (0 : Int) ≤ (K : Int) := by omega
  have K1 : (K : Int) ≤ 12 := by omega
  clear hB h1 h2 hx hy hT h b2
  go_enter Tryd.func50, Tryd.ntmps50
  have en : (xs.length : Int) + (ys.length : Int) - 1 = ((n + 1 : Nat) : Int) := by omega
  have en2 : ((n + 1 : Nat) : Int) - 1 = (n : Int) := by omega
  go_wp2_with fail
  refine (HLn.out _).mono ?_; rintro e w1 ⟨rfl, hw⟩; rw [hw]; clear hw
  go_wp2_with fail
  refine HP1.out.mono ?_; rintro e w1 ⟨rfl, o1, hs1, hb1⟩
  have O1 := hide o1
  clear o1
  go_wp2_with fail
  refine (HP2.out _ hb1).mono ?_; rintro e w2 ⟨rfl, o2, hs2, hb2⟩
  have O2 := hide o2
  have O1 := hide (own_below O1.out hb2)
  have hB2 := Below.next hb1 hb2
  clear o2 hb2
  go_wp2_with fail
  refine (HR.out w2 w.heap.size w1.heap.size O1.out O2.out (by omega) (HTb.out.below hB2) hT1 (by omega) (Nat.le_refl _) (by omega)).mono ?_; rintro e w3 ⟨rfl, o3, hb3⟩
  have hB3 := hB2.trans hb3
  have R3 := hide (show Rw w3 (.slice (some ⟨w.heap.size, 0, none⟩) N N) (rdL p N (over N xs) (over N ys)) from ⟨row_own o3 (by omega) HW.out, _, _, _, rfl, Nat.le_refl _⟩)
  have hln := own_len o3
  have HC := hide (cut_at w.heap.size 0 N N (n + 1) w3 (by omega) (by omega) (Nat.le_refl _))
  clear o3 O1 O2 hb3
  go_wp2_with (go_at_call 44; refine HC.out.mono ?_; rintro e w4 ⟨rfl, nq, rfl⟩)
  go_ret
  have hb4 := below_drewN (Below.refl w3.heap.size w3) nq
  refine ⟨_, rfl, ?_, Below.next hB3 hb4⟩
  rw [← HZ.out]
  exact (R3.out.below hb4).lower (by omega)

set_option maxRecDepth 100000 in
set_option maxHeartbeats 200000 in
theorem multiply_less (f p : Int) (wd : Bool) (v1 v2 : Value) (xs ys : List Int) (w : World) (h : Fi f p wd) (h1 : Rw w v1 xs) (h2 : Rw w v2 ys) (hx : Els p xs) (hy : Els p ys) (t1 : tr xs = xs) (t2 : tr ys = ys) (hl : xs.length + ys.length ≤ 4097 ∧ xs.length ≤ 4096 ∧ ys.length ≤ 4096) (hT : Tb w) (hc : xs.length < ys.length) :
    Calls Tryd.prog 30 #[.int .u8 f, v1, v2] w fun e w' => ∃ v', e = .returned v' ∧ Rw w' v' (prd p xs ys) ∧ Below w.heap.size w w' := by
  have HM := hide (mul_hv f p wd v1 v2 xs ys w h h1 h2 hx hy hl)
  have HH := hide (halves_any f p wd v1 v2 xs ys w h h1 h2 hx hy hl)
  have HT := hide (fun a b => transforms_any f p wd v1 v2 xs ys w h h1 h2 hx hy hl.1 a b hT)
  have HV1 := hide (fun zs (hv : HV p xs ys zs) => hv.only h.md hx hy t1 t2)
  have HRW := hide (fun W base v zs (hv : HV p xs ys zs) (hO : World.ownsRow W base 39 1 v zs.length (vals zs)) => hv_rw h.top hl.1 hv hO)
  unfold Hs at HH
  obtain ⟨a1, c1, rfl, k1⟩ := h1.spell
  obtain ⟨a2, c2, rfl, k2⟩ := h2.spell
  clear h1 h2 h hT hx hy t1 t2
  by_cases hf : xs.length ≤ 32
  · have hd : decide ((xs.length : Int) ≤ 32) = true := decide_eq_true (by omega)
    clear HT HH
    go_enter Tryd.func30, Tryd.ntmps30
    go_wp2_with (go_at_call 47; refine HM.out.mono ?_; rintro e w1 ⟨u, zs, rfl, hv, hO, hb⟩; have V := hide hv; have O := hide hO; clear hv hO)
    go_ret
    have := HV1.out _ V.out
    exact ⟨_, rfl, by rw [← this]; exact HRW.out _ _ _ _ V.out O.out, hb⟩
  have hd1 : decide ((xs.length : Int) ≤ 32) = false := decide_eq_false (by omega)
  by_cases hs : xs.length ≤ 64
  · have hd : decide ((xs.length : Int) ≤ 64) = true := decide_eq_true (by omega)
    clear HT HM
    go_enter Tryd.func30, Tryd.ntmps30
    go_wp2_with (go_at_call 29; refine HH.out.mono ?_; rintro e w1 ⟨u, zs, rfl, hv, hO, hb⟩; have V := hide hv; have O := hide hO; clear hv hO)
    go_ret
    have := HV1.out _ V.out
    exact ⟨_, rfl, by rw [← this]; exact HRW.out _ _ _ _ V.out O.out, hb⟩
  · have hd : decide ((xs.length : Int) ≤ 64) = false := decide_eq_false (by omega)
    have ht := hide (HT.out (take_ne (n := 1) (by decide) (by omega)) (take_ne (n := 1) (by decide) (by omega)))
    clear HH HM HT
    go_enter Tryd.func30, Tryd.ntmps30
    go_wp2_with (go_at_call 50; refine ht.out.mono ?_; rintro e w1 ⟨u, rfl, hr, hb⟩; have R := hide hr; clear hr)
    go_ret
    exact ⟨_, rfl, R.out, hb⟩

set_option maxRecDepth 100000 in
set_option maxHeartbeats 200000 in
theorem multiply_more (f p : Int) (wd : Bool) (v1 v2 : Value) (xs ys : List Int) (w : World) (h : Fi f p wd) (h1 : Rw w v1 xs) (h2 : Rw w v2 ys) (hx : Els p xs) (hy : Els p ys) (t1 : tr xs = xs) (t2 : tr ys = ys) (hl : xs.length + ys.length ≤ 4097 ∧ xs.length ≤ 4096 ∧ ys.length ≤ 4096) (hT : Tb w) (hc : ¬ xs.length < ys.length) :
    Calls Tryd.prog 30 #[.int .u8 f, v1, v2] w fun e w' => ∃ v', e = .returned v' ∧ Rw w' v' (prd p xs ys) ∧ Below w.heap.size w w' := by
  have HM := hide (mul_hv f p wd v1 v2 xs ys w h h1 h2 hx hy hl)
  have HH := hide (halves_any f p wd v1 v2 xs ys w h h1 h2 hx hy hl)
  have HT := hide (fun a b => transforms_any f p wd v1 v2 xs ys w h h1 h2 hx hy hl.1 a b hT)
  have HV1 := hide (fun zs (hv : HV p xs ys zs) => hv.only h.md hx hy t1 t2)
  have HRW := hide (fun W base v zs (hv : HV p xs ys zs) (hO : World.ownsRow W base 39 1 v zs.length (vals zs)) => hv_rw h.top hl.1 hv hO)
  unfold Hs at HH
  obtain ⟨a1, c1, rfl, k1⟩ := h1.spell
  obtain ⟨a2, c2, rfl, k2⟩ := h2.spell
  clear h1 h2 h hT hx hy t1 t2
  by_cases hf : ys.length ≤ 32
  · have hd : decide ((ys.length : Int) ≤ 32) = true := decide_eq_true (by omega)
    clear HT HH
    go_enter Tryd.func30, Tryd.ntmps30
    go_wp2_with (go_at_call 47; refine HM.out.mono ?_; rintro e w1 ⟨u, zs, rfl, hv, hO, hb⟩; have V := hide hv; have O := hide hO; clear hv hO)
    go_ret
    have := HV1.out _ V.out
    exact ⟨_, rfl, by rw [← this]; exact HRW.out _ _ _ _ V.out O.out, hb⟩
  have hd1 : decide ((ys.length : Int) ≤ 32) = false := decide_eq_false (by omega)
  by_cases hs : ys.length ≤ 64
  · have hd : decide ((ys.length : Int) ≤ 64) = true := decide_eq_true (by omega)
    clear HT HM
    go_enter Tryd.func30, Tryd.ntmps30
    go_wp2_with (go_at_call 29; refine HH.out.mono ?_; rintro e w1 ⟨u, zs, rfl, hv, hO, hb⟩; have V := hide hv; have O := hide hO; clear hv hO)
    go_ret
    have := HV1.out _ V.out
    exact ⟨_, rfl, by rw [← this]; exact HRW.out _ _ _ _ V.out O.out, hb⟩
  · have hd : decide ((ys.length : Int) ≤ 64) = false := decide_eq_false (by omega)
    have ht := hide (HT.out (take_ne (n := 1) (by decide) (by omega)) (take_ne (n := 1) (by decide) (by omega)))
    clear HH HM HT
    go_enter Tryd.func30, Tryd.ntmps30
    go_wp2_with (go_at_call 50; refine ht.out.mono ?_; rintro e w1 ⟨u, rfl, hr, hb⟩; have R := hide hr; clear hr)
    go_ret
    exact ⟨_, rfl, R.out, hb⟩

theorem multiply_any (f p : Int) (wd : Bool) (v1 v2 : Value) (xs ys : List Int) (w : World) (h : Fi f p wd) (h1 : Rw w v1 xs) (h2 : Rw w v2 ys) (hx : Els p xs) (hy : Els p ys) (t1 : tr xs = xs) (t2 : tr ys = ys) (hl : xs.length + ys.length ≤ 4097 ∧ xs.length ≤ 4096 ∧ ys.length ≤ 4096) (hT : Tb w) :
    Calls Tryd.prog 30 #[.int .u8 f, v1, v2] w fun e w' => ∃ v', e = .returned v' ∧ Rw w' v' (prd p xs ys) ∧ Below w.heap.size w w' := by
  by_cases hc : xs.length < ys.length
  · exact multiply_less f p wd v1 v2 xs ys w h h1 h2 hx hy t1 t2 hl hT hc
  · exact multiply_more f p wd v1 v2 xs ys w h h1 h2 hx hy t1 t2 hl hT hc

end Go.Proofs.YtcjgjgkoeokooaaDoor
