/-
  Layer 4: the document's own Power.
-/
import Derived.Test.YtcjgjgkoeokooaaDoorBFasS
import Derived.Test.YtcjgjgkoeokooaaDoorBLawPA
namespace Go.Proofs.YtcjgjgkoeokooaaDoor
open Go.RowKit Fld
set_option linter.unusedVariables false

theorem er_four {f : Int} {xs : List Int} (h : er f xs [] = 4) : 4096 < xs.length := by
  unfold er erb at h
  cases h1 : inF f xs <;> cases h2 : inF f [] <;> rw [h1, h2] at h <;> simp at h
  exact h
theorem er_not2 {f : Int} {xs : List Int} (h : er f xs [] ≠ 2) : er f xs [] = 0 ∨ er f xs [] = 4 := by
  have := erb_ne (inF f xs) (inF f []) xs.length ([] : List Int).length
  unfold er at h ⊢
  omega
theorem cp_single (c : Int) (m : Nat) : cp (co [c]) m = pt 0 (c ^ m) := by
  induction m with
  | zero => show pt 0 1 = _; rw [Int.pow_zero]
  | succ m ih =>
    show cv (cp (co [c]) m) (co [c]) = _
    rw [ih]
    funext k
    rw [cv_pt, if_pos (Nat.zero_le _), Nat.sub_zero]
    cases k with
    | zero => show c ^ m * c = c ^ (m + 1); rw [Int.pow_succ]
    | succ k => show c ^ m * 0 = 0; exact Int.mul_zero _
theorem pow_nz {p c : Int} {wd : Bool} (hm : Md p wd) (h : c % p ≠ 0) (m : Nat) : c ^ m % p ≠ 0 := by
  induction m with
  | zero =>
    rw [Int.pow_zero, Int.emod_eq_of_lt (by decide) (one_el hm).2]; decide
  | succ m ih =>
    intro h0
    rw [Int.pow_succ] at h0
    exact ih (no_div hm _ _ h h0)
theorem is_const {p c : Int} {wd : Bool} (hm : Md p wd) (hc : El p c) (h0 : c ≠ 0) (m : Nat) : Is p [pow p c (m : Int)] (cp (co [c]) m) := by
  have hp : 0 < p := by have := hm.bounds; omega
  have e : pow p c (m : Int) = c ^ m % p := by unfold pow; rw [Int.toNat_natCast]
  rw [e, cp_single]
  refine ⟨fun x hx => by rw [List.mem_singleton.1 hx]; exact emod_el hp _, tr_full (.inr (by
    show c ^ m % p ≠ 0
    exact pow_nz hm (by rw [hc.mod]; exact h0) m)), fun i => ?_⟩
  cases i with
  | zero => show c ^ m % p % p = c ^ m % p; exact Int.emod_emod_of_dvd _ (Int.dvd_refl p)
  | succ i => rfl
theorem cp_nil (m : Nat) : cp (co []) (m + 1) = fun _ => 0 := by
  funext k
  show cv (cp (co []) m) (co []) k = 0
  rw [cv_comm]
  exact cv_zero_left _ k _ (fun j _ => rfl)
theorem is_nil (p : Int) (m : Nat) : Is p [] (cp (co []) (m + 1)) := by
  rw [cp_nil]
  exact ⟨fun x hx => (by cases hx), rfl, fun i => rfl⟩
theorem mul_is {f p : Int} {wd : Bool} (h : Fi f p wd) {ts zs : List Int} {k m : Nat} (ht : Els p ts) (tt : tr ts = ts) (hz : Is p zs (cp (co ts) k)) (hk : k < m) (hd : (ts.length - 1) * m ≤ 4095) (h1 : 1 < ts.length) (h2 : ts.length ≤ 4096) :
    mulE f zs ts = 0 ∧ Is p (mulL f zs ts) (cp (co ts) (k + 1)) ∧ (mulL f zs ts).length ≤ 4096 := by
  have hl := is_cp_len h.pos hz
  have hk2 : (ts.length - 1) * (k + 1) ≤ (ts.length - 1) * m := Nat.mul_le_mul_left _ hk
  rw [Nat.mul_add, Nat.mul_one] at hk2
  have he := er_els h hz.1 ht (by omega) h2
  have e1 : mulE f zs ts = 0 := by unfold mulE; rw [if_pos he, if_neg (by rw [hz.2.1, tt]; omega)]
  have e2 : mulL f zs ts = prd p zs ts := by unfold mulL; rw [if_pos e1, pOf_eq h, hz.2.1, tt]
  have i := is_odd h.md hz ht tt
  exact ⟨e1, by rw [e2]; exact i, mulL_len f zs ts⟩

set_option maxRecDepth 100000 in
set_option maxHeartbeats 400000 in
theorem dPower_any (f n : Int) (v : Value) (xs : List Int) (w : World) (hn0 : -9223372036854775808 ≤ n) (hn1 : n ≤ 9223372036854775807) (h1 : Rw w v xs) : PowGets 21 #[.int .u8 f, v, .int .i64 n] w f xs n := by
  have hk := hide (fun W (hb : Below w.heap.size w W) => rBad_any f v (.slice none 0 0) xs [] W (h1.below hb) (rw0 W))
  have H1 := hide h1
  obtain ⟨a1, c1, rfl, _⟩ := h1.spell
  by_cases h2 : er f xs [] = 2
  · rw [h2] at hk
    apply PowGets.none (e0 := 2) (by unfold powE; rw [h2]; split <;> rfl) (by decide)
    clear h1 h2 H1
    go_enter Tryd.func21, Tryd.ntmps21
    go_wp2_with (go_at_call 31; refine (hk.out _ (Below.refl _ _)).mono ?_; rintro e w1 ⟨rfl, hw⟩; rw [hw]; clear hw)
    go_ret2
    exact ⟨rfl, Below.refl _ _⟩
  have h2b : (er f xs [] == 2) = false := beq_eq_false_iff_ne.2 h2
  by_cases hneg : n < 0
  · apply PowGets.none (e0 := 2) (by unfold powE; rw [if_pos hneg]) (by decide)
    clear h1 h2 H1
    generalize er f xs [] = e0 at *
    go_enter Tryd.func21, Tryd.ntmps21
    go_wp2_with (go_at_call 31; refine (hk.out _ (Below.refl _ _)).mono ?_; rintro e w1 ⟨rfl, hw⟩; rw [hw]; clear hw)
    go_ret2
    exact ⟨rfl, Below.refl _ _⟩
  rcases er_not2 h2 with he | he
  · obtain ⟨p, wd, h, i1, _, m1, _⟩ := er_zero he
    rw [he] at hk
    obtain ⟨m, rfl⟩ : ∃ m : Nat, n = m := ⟨n.toNat, by omega⟩
    have hxe := (els_of i1 h1.words).tr h.pos
    have hp0 := h.pos
    have hp1 := h.top
    have HTr := hide (fun W (hb : Below w.heap.size w W) => rTrim_any _ xs W (H1.out.below hb))
    have htl := tr_len xs
    have HT2 : Hid (tr (tr xs) = tr xs) := tr_tr xs
    have m0 : (0 : Int) ≤ (m : Int) := Int.natCast_nonneg _
    have x1 : (xs.length : Int) ≤ 4096 := by omega
    have hdm : decide ((m : Int) < 0) = false := decide_eq_false (by omega)
    have hdx : decide (4096 < (xs.length : Int)) = false := decide_eq_false (by omega)
    have hI : Hid (powE f xs (m : Int) = 0 → ∀ zs, Is p zs (cp (co (tr xs)) m) → PowIs f xs (m : Int) zs) := fun hE zs hz => by
      unfold PowIs
      rw [if_pos hE, pOf_eq h, Int.toNat_natCast, ← cp_tr]; exact hz
    have hEb : Hid (powE f xs (m : Int) = if 0 < (tr xs).length - 1 ∧ ((4095 / ((tr xs).length - 1) : Nat) : Int) < (m : Int) then 4 else 0) := by show _ = _; unfold powE; rw [if_neg hneg, if_pos he]
    have hTW : Hid (∀ x ∈ tr xs, 0 ≤ x ∧ x ≤ 18446744073709551615) := els_words hxe hp1
    clear h1 h2 h2b i1 he
    obtain ⟨ts, hts⟩ : ∃ ts, tr xs = ts := ⟨_, rfl⟩
    rw [hts] at hxe HTr htl HT2 hI hEb hTW
    have HX := hide hxe
    clear hxe hts
    by_cases hlen1 : ts.length ≤ 1
    · have hE : powE f xs (m : Int) = 0 := by rw [hEb.out, if_neg (by omega)]
      unfold PowGets
      rw [hE]
      have HI := hide (hI.out hE)
      clear hEb hI hE
      by_cases hlen0 : ts.length = 0
      · have ht0 : ts = [] := List.length_eq_zero_iff.1 hlen0
        subst ht0
        by_cases hm0 : 0 < m
        · have mm : (0 : Int) < (m : Int) := by omega
          obtain ⟨m', hm'⟩ : ∃ m', m = m' + 1 := ⟨m - 1, by omega⟩
          have HZ := hide (HI.out [] (by rw [hm']; exact is_nil p m'))
          clear hm'
          go_enter Tryd.func21, Tryd.ntmps21
          go_wp2_with fail
          refine (hk.out _ (Below.refl _ _)).mono ?_; rintro e w1 ⟨rfl, hw⟩; rw [hw]; clear hw
          go_wp2_with fail
          refine (HTr.out _ (Below.refl _ _)).mono ?_; rintro e w2 ⟨u, rfl, o2, hb2⟩
          obtain ⟨ao, cap, rfl⟩ := own_spell o2
          clear o2
          go_wp2
          go_ret2
          exact ⟨_, _, rfl, HZ.out, rw0 _, hb2⟩
        · have hm0' : m = 0 := by omega
          have hd : (([] : List Int).length - 1) * m ≤ 4095 := by rw [hm0']; omega
          have hmn : (m : Int) ≤ 0 := by omega
          obtain ⟨ts, hts⟩ : ∃ ts : List Int, [] = ts := ⟨_, rfl⟩
          have htl0 : ts.length = 0 := by rw [← hts]; rfl
          rw [hts] at HTr HX HT2 hTW HI hd
          have hte : (ts.length : Int) = 0 := by omega
          clear hts hlen0 hlen1
          go_enter Tryd.func21, Tryd.ntmps21
          go_wp2_with fail
          refine (hk.out _ (Below.refl _ _)).mono ?_; rintro e w1 ⟨rfl, hw⟩; rw [hw]; clear hw
          go_wp2_with fail
          refine (HTr.out _ (Below.refl _ _)).mono ?_; rintro e w2 ⟨u, rfl, o2, hb2⟩
          have RT := hide (rw_of_own o2 (by omega) hTW.out)
          obtain ⟨ao, cap, rfl⟩ := own_spell o2
          clear o2
          go_wp2_with fail
          go_loopw [9, 10] (fun vo vi wr => ∃ (k : Nat) (zs : List Int), k ≤ m ∧ vi = .int .i64 k ∧ Hid (Is p zs (cp (co ts) k)) ∧ Hid (Rw wr vo zs) ∧ Below w2.heap.size w2 wr) (fun _ vi _ => m - (intOf vi).toNat)
          case atStart => exact ⟨0, [1], Nat.zero_le _, rfl, is_one h.md, rw1 w2 1 (by decide) _, alloc_below _ _⟩
          case round =>
            obtain ⟨k, zs, hkm, rfl, HZs, HR, hB⟩ := hrel
            by_cases hlt : k < m
            · omega
            · obtain rfl : k = m := by omega
              go_wp2
              go_ret2
              exact ⟨_, _, rfl, HI.out _ HZs.out, HR.out, Below.next hb2 hB⟩
      · have hone : ts.length = 1 := by omega
        obtain ⟨c, hc⟩ : ∃ c, ts = [c] := List.length_eq_one_iff.1 hone
        subst hc
        have hce : El p c := HX.out c (List.mem_singleton.2 rfl)
        have hcn : c ≠ 0 := by
          have := last_ne HT2.out (by simp)
          exact this
        have hpw := hide (fun W => rPower_any p c (m : Int) W hp1 (by have := h.md.bounds; omega) hce m0 (by omega))
        have hP := hide (fun W => rP_yes f p wd W h)
        have HZ := hide (HI.out _ (is_const h.md hce hcn m))
        have HW : Hid (0 ≤ pow p c (m : Int) ∧ pow p c (m : Int) ≤ 18446744073709551615) := elWord (pow_el hp0) hp1
        clear HI hce hcn
        obtain ⟨q, HQ⟩ : ∃ q, Hid (pow p c (m : Int) = q) := ⟨_, rfl⟩
        rw [HQ.out] at hpw HZ HW
        have m2 : (m : Int) ≤ 9223372036854775807 := hn1
        have hw64 : IntKind.u64.wrap (m : Int) = (m : Int) := by rw [IntKind.wrap_u64]; omega
        go_enter Tryd.func21, Tryd.ntmps21
        go_wp2_with fail
        refine (hk.out _ (Below.refl _ _)).mono ?_; rintro e w1 ⟨rfl, hw⟩; rw [hw]; clear hw
        go_wp2_with fail
        refine (HTr.out _ (Below.refl _ _)).mono ?_; rintro e w2 ⟨u, rfl, o2, hb2⟩
        obtain ⟨g2, d1, hv⟩ : ∃ g, w2.cell? ⟨g, 0, none⟩ = some (.int .u64 c) ∧ ∃ cap, u = .slice (some ⟨g, 0, none⟩) 1 cap := by
          have hv : ∃ g cap, u = .slice (some ⟨g, 0, none⟩) 1 cap := by
            rcases o2.2 with ⟨_, h⟩ | ⟨g, cap, _, h, _⟩
            · cases h
            · exact ⟨g, cap, h⟩
          obtain ⟨g, cap, rfl⟩ := hv
          exact ⟨g, own_cell o2 rfl (by decide), cap, rfl⟩
        obtain ⟨cap, rfl⟩ := hv
        clear o2
        go_wp2_with fail
        go_region_with (first
          | (go_at_call 24; refine (hP.out _).mono ?_; rintro e w1 ⟨rfl, hw⟩; rw [hw]; clear hw)
          | (go_at_call 46; refine (hpw.out _).mono ?_; rintro e w1 ⟨rfl, hw⟩; rw [hw]; clear hw))
        all_goals
          go_wp2
          go_ret2
          exact ⟨_, _, rfl, HZ.out, rw1 w2.drew q HW.out _, (hb2.drew).alloc (Nat.le_trans hb2.size (Nat.le_refl _)) _⟩
    · have hlen2 : 1 < ts.length := by omega
      obtain ⟨Q, hQ⟩ : ∃ Q : Nat, (4095 : Int) / ((ts.length : Int) - 1) = (Q : Int) := ⟨4095 / (ts.length - 1), by
        have : (ts.length : Int) - 1 = ((ts.length - 1 : Nat) : Int) := by omega
        rw [this, Int.natCast_ediv]; rfl⟩
      have hQ2 : Q = 4095 / (ts.length - 1) := by
        have : (ts.length : Int) - 1 = ((ts.length - 1 : Nat) : Int) := by omega
        rw [this] at hQ
        have e : (4095 : Int) / ((ts.length - 1 : Nat) : Int) = ((4095 / (ts.length - 1) : Nat) : Int) := by rw [Int.natCast_ediv]; rfl
        omega
      have t0 : (1 : Int) < (ts.length : Int) := by omega
      have t3 : (0 : Int) < (ts.length : Int) - 1 := by omega
      have t2 : ¬ (ts.length : Int) - 1 = 0 := by omega
      by_cases hbig : Q < m
      · apply PowGets.none (e0 := 4) (by rw [hEb.out, if_pos ⟨by omega, by rw [← hQ2]; omega⟩]) (by decide)
        have q1 : (Q : Int) < (m : Int) := by omega
        clear hQ2 hI hEb
        go_enter Tryd.func21, Tryd.ntmps21
        go_wp2_with fail
        refine (hk.out _ (Below.refl _ _)).mono ?_; rintro e w1 ⟨rfl, hw⟩; rw [hw]; clear hw
        go_wp2_with fail
        refine (HTr.out _ (Below.refl _ _)).mono ?_; rintro e w2 ⟨u, rfl, o2, hb2⟩
        obtain ⟨ao, cap, rfl⟩ := own_spell o2
        clear o2
        go_wp2
        go_ret2
        exact ⟨rfl, hb2⟩
      · have hE : powE f xs (m : Int) = 0 := by rw [hEb.out, if_neg (by intro h; rw [← hQ2] at h; omega)]
        have q1 : (m : Int) ≤ (Q : Int) := by omega
        have hd : (ts.length - 1) * m ≤ 4095 := by
          have h3 : m ≤ 4095 / (ts.length - 1) := by omega
          have := (Nat.le_div_iff_mul_le (by omega)).1 h3
          rw [Nat.mul_comm]; exact this
        unfold PowGets
        rw [hE]
        have HI := hide (hI.out hE)
        have te0 : ((ts.length : Int) == 0) = false := beq_eq_false_iff_ne.2 (by omega)
        have te1 : ((ts.length : Int) == 1) = false := beq_eq_false_iff_ne.2 (by omega)
        clear hQ2 hI hEb hE
        go_enter Tryd.func21, Tryd.ntmps21
        go_wp2_with fail
        refine (hk.out _ (Below.refl _ _)).mono ?_; rintro e w1 ⟨rfl, hw⟩; rw [hw]; clear hw
        go_wp2_with fail
        refine (HTr.out _ (Below.refl _ _)).mono ?_; rintro e w2 ⟨u, rfl, o2, hb2⟩
        have RT := hide (rw_of_own o2 (by omega) hTW.out)
        obtain ⟨ao, cap, rfl⟩ := own_spell o2
        clear o2
        go_wp2_with fail
        clear hQ
        go_loopw [9, 10] (fun vo vi wr => ∃ (k : Nat) (zs : List Int), k ≤ m ∧ vi = .int .i64 k ∧ Hid (Is p zs (cp (co ts) k)) ∧ Hid (Rw wr vo zs) ∧ Below w2.heap.size w2 wr) (fun _ vi _ => m - (intOf vi).toNat)
        case atStart => exact ⟨0, [1], Nat.zero_le _, rfl, is_one h.md, rw1 w2 1 (by decide) _, alloc_below _ _⟩
        case round =>
          obtain ⟨k, zs, hkm, rfl, HZs, HR, hB⟩ := hrel
          by_cases hlt : k < m
          · have hts1 : 1 < ts.length := by omega
            obtain ⟨q1, q2, q3⟩ := mul_is h HX.out HT2.out HZs.out hlt hd hts1 (by omega)
            have hmul := hide (fun vo (hr : Rw wr vo zs) => dMul_any f vo _ zs ts wr hr (RT.out.below hB))
            unfold Gives at hmul
            rw [q1] at hmul
            have hm := hide (hmul.out _ HR.out)
            have I2 := hide q2
            have W2 := hide (mulL_wd f zs ts)
            have t1 : (1 : Int) < (ts.length : Int) := by omega
            have k1 : (k : Int) < (m : Int) := by omega
            clear q1 q2 q3 hmul
            generalize mulL f zs ts = us at *
            go_wp2_with (go_at_call 11; refine hm.out.mono ?_; rintro e w3 ⟨u3, rfl, o3, hb3⟩; have R3 := hide (W2.out.row o3); clear o3)
            go_roundw
            case rel => exact ⟨k + 1, us, by omega, by go_num, I2, R3, Below.next hB hb3⟩
            case measure => simp [intOf]; omega
          · obtain rfl : k = m := by omega
            go_wp2
            go_ret2
            exact ⟨_, _, rfl, HI.out _ HZs.out, HR.out, Below.next hb2 hB⟩
  · have hbig := er_four he
    rw [he] at hk
    apply PowGets.none (e0 := 4) (by unfold powE; rw [if_neg hneg, if_neg (by rw [he]; decide), he]) (by decide)
    have hlen := H1.out.len
    clear h1 h2 h2b he H1
    generalize xs.length = k at *
    go_enter Tryd.func21, Tryd.ntmps21
    go_wp2_with (go_at_call 31; refine (hk.out _ (Below.refl _ _)).mono ?_; rintro e w1 ⟨rfl, hw⟩; rw [hw]; clear hw)
    go_ret2
    exact ⟨rfl, Below.refl _ _⟩

end Go.Proofs.YtcjgjgkoeokooaaDoor
