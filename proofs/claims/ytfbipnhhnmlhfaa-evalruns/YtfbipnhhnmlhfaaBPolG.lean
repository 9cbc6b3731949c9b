/-
  Polynomials: a list grown by c times another, sums and products, in memory of the call's own.
-/
import Derived.Test.YtfbipnhhnmlhfaaBPolF
namespace Go.Proofs.Ytfbipnhhnmlhfaa
open Go.RowKit Fld
set_option linter.unusedVariables false

/-- ys, with c times the first k of xs added from the place off on. -/
def gr (p c : Int) (off : Nat) (xs ys : List Int) (k : Nat) : List Int := mk ys.length (fun i => if off ≤ i ∧ i < off + k then (co ys i + c * co xs (i - off)) % p else co ys i)
theorem gr_len (p c : Int) (off : Nat) (xs ys : List Int) (k : Nat) : (gr p c off xs ys k).length = ys.length := mk_len _ _
theorem co_gr (p c : Int) (off : Nat) (xs ys : List Int) (k i : Nat) : co (gr p c off xs ys k) i = if off ≤ i ∧ i < off + k ∧ i < ys.length then (co ys i + c * co xs (i - off)) % p else co ys i := by
  unfold gr
  rw [co_mk]
  by_cases h : i < ys.length
  · rw [if_pos h]
    by_cases h2 : off ≤ i ∧ i < off + k
    · rw [if_pos h2, if_pos ⟨h2.1, h2.2, h⟩]
    · rw [if_neg h2, if_neg (fun h3 => h2 ⟨h3.1, h3.2.1⟩)]
  · rw [if_neg h, if_neg (fun h3 => h h3.2.2), co_out _ _ (by omega)]
theorem gr_zero (p c : Int) (off : Nat) (xs ys : List Int) : gr p c off xs ys 0 = ys := ext_co (gr_len _ _ _ _ _ _) (fun i hi => by rw [co_gr, if_neg (by omega)])
theorem els_gr {p c : Int} (hp : 0 < p) {off : Nat} {xs ys : List Int} (hy : Els p ys) (k : Nat) : Els p (gr p c off xs ys k) := Els.of_co (fun i hi => by
  rw [co_gr]; split
  · exact emod_el hp _
  · exact hy.co hp i)
theorem co_set (ys : List Int) (k i : Nat) (z : Int) (hk : k < ys.length) : co (ys.set k z) i = if i = k then z else co ys i := set_getD ys k i z hk
theorem gr_step {p c z : Int} {off k : Nat} {xs ys : List Int} (hk : off + k < ys.length) (hz : z = (co ys (off + k) + c * co xs k) % p) : (gr p c off xs ys k).set (off + k) z = gr p c off xs ys (k + 1) := by
  apply ext_co (by rw [List.length_set, gr_len, gr_len])
  intro i hi
  rw [co_set _ _ _ _ (by rw [gr_len]; exact hk), co_gr, co_gr]
  by_cases he : i = off + k
  · subst he
    have e : off + k - off = k := by omega
    rw [if_pos rfl, if_pos (by omega), e, hz]
  · rw [if_neg he]
    by_cases h2 : off ≤ i ∧ i < off + k ∧ i < ys.length
    · rw [if_pos h2, if_pos (by omega)]
    · rw [if_neg h2, if_neg (by omega)]
theorem gr_at (p c : Int) (off : Nat) (xs ys : List Int) (k : Nat) : co (gr p c off xs ys k) (off + k) = co ys (off + k) := by rw [co_gr, if_neg (by omega)]
theorem grow_low {p c x y m : Int} (hm : m = mul p c x) (hy : El p y) (h : y < p - m) (hm0 : El p m) : y + m = (y + c * x) % p := by
  subst hm
  have : (y + c * x) % p = (y + mul p c x) % p := by unfold mul; rw [Int.add_emod y (c * x % p), Int.emod_emod_of_dvd _ (Int.dvd_refl p), ← Int.add_emod]
  rw [this, Int.emod_eq_of_lt (by have := hy.1; have := hm0.1; omega) (by omega)]
theorem grow_high {p c x y m : Int} (hm : m = mul p c x) (hy : El p y) (h : ¬ y < p - m) (hm0 : El p m) : y - (p - m) = (y + c * x) % p := by
  subst hm
  have : (y + c * x) % p = (y + mul p c x) % p := by unfold mul; rw [Int.add_emod y (c * x % p), Int.emod_emod_of_dvd _ (Int.dvd_refl p), ← Int.add_emod]
  rw [this, emod_sub_self _ _ (by omega) (by have := hy.2; have := hm0.2; omega)]; omega
theorem grown_below {a b c : World} {r : Option Nat} (h : a.grownBy b r) (hb : Below b.heap.size b c) : a.grownBy c r :=
  grown_trans h ⟨hb.os, hb.tape, hb.output, hb.size, fun j hj _ => hb.block j hj⟩

set_option maxRecDepth 100000 in
set_option maxHeartbeats 400000 in
theorem grow_any (f p c : Int) (wd : Bool) (v : Value) (xs ys : List Int) (w : World) (base g off n cap n2 cap2 : Nat) (h : Fi f p wd) (hc : El p c) (hr : Row w v xs) (hx : Els p xs)
    (hO : w.ownsRow base 49 1 (.slice (some ⟨g, 0, none⟩) n cap) n (vals ys)) (hy : Els p ys) (hfit : off + xs.length ≤ n) (hn2 : xs.length ≤ n2)
    (hfar : xs ≠ [] → ∀ b o m k, v = .slice (some ⟨b, o, none⟩) m k → b ≠ g) :
    Calls Try.prog 112 #[.int .u8 f, .slice (some ⟨g, off, none⟩) n2 cap2, .int .u64 c, v] w fun e w' => e = .returned (.tuple #[]) ∧
      w'.ownsRow base 49 1 (.slice (some ⟨g, 0, none⟩) n cap) n (vals (gr p c off xs ys xs.length)) ∧ w.grownBy w' (some g) := by
  obtain ⟨ao, cp, rfl, hlen, hw, hcell⟩ := hr
  have hp0 := h.pos
  have hp1 := h.top
  have HP := hide (fun W => Prime_yes f p wd W h)
  have HM := hide (fun W x (hx : El p x) => Mul_yes f p c x wd W h hc hx)
  have HX := hide hx
  have HY := hide hy
  have hyl := own_len hO
  clear h hx hy hw
  go_enter Try.func112, Try.ntmps112
  go_wp2_with (go_at_call 90; refine (HP.out _).mono ?_; rintro e w1 ⟨rfl, hb⟩)
  have hO1 := own_below hO hb
  have hG1 := grown_below (grown_refl w (some g)) hb
  clear hO hb HP
  go_loopw [22] (fun vk wr => ∃ k : Nat, k ≤ xs.length ∧ vk = .int .i64 k ∧ wr.ownsRow base 49 1 (.slice (some ⟨g, 0, none⟩) n cap) n (vals (gr p c off xs ys k)) ∧ w.grownBy wr (some g)) (fun vk _ => xs.length - (intOf vk).toNat)
  case atStart => exact ⟨0, Nat.zero_le _, rfl, by rw [gr_zero]; exact hO1, hG1⟩
  case round =>
    clear hO1 hG1
    obtain ⟨k, hk, rfl, hO, hG⟩ := hrel
    by_cases hlt : k < xs.length
    · have hxne : xs ≠ [] := by intro h; rw [h] at hlt; simp at hlt
      obtain ⟨b, o, rfl, hbl, hcl⟩ := hcell hxne
      have hne := hfar hxne b o _ _ rfl
      have hck := hG.cell (hcl k hlt) (by intro h; cases h; exact hne rfl)
      have hxe := HX.out.co hp0 k
      have hm := hide (fun W => HM.out W _ hxe)
      have hgl : (gr p c off xs ys k).length = n := by rw [gr_len]; exact hyl
      have hye := HY.out.co hp0 (off + k)
      have hat := gr_at p c off xs ys k
      have HST := hide (fun z (hz : z = (co ys (off + k) + c * co xs k) % p) => gr_step (p := p) (c := c) (z := z) (xs := xs) (show off + k < ys.length by omega) hz)
      have HA := hide (fun z W (hb : Below wr.heap.size wr W) => spoil_step (x := z) (k := off + k) (own_below hO hb) (grown_below hG hb) (.inl rfl))
      have HB := hide (fun W (hb : Below wr.heap.size wr W) => own_cell (k := off + k) (own_below hO hb) hgl (by omega))
      have HF := hide (fun W (hb : Below wr.heap.size wr W) => (own_below hO hb).frozenAt (off + k))
      have hme := mul_el (a := c) (b := co xs k) hp0
      obtain ⟨m, HMM⟩ : ∃ m, Hid (m = mul p c (co xs k)) := ⟨_, rfl⟩
      have hco : xs.getD k 0 = co xs k := rfl
      have hcg : (gr p c off xs ys k).getD (off + k) 0 = co ys (off + k) := hat
      have LO := hide (fun h => grow_low (x := co xs k) (y := co ys (off + k)) HMM.out hye h (by rw [HMM.out]; exact hme))
      have HI := hide (fun h => grow_high (x := co xs k) (y := co ys (off + k)) HMM.out hye h (by rw [HMM.out]; exact hme))
      rw [hco] at hck
      rw [← HMM.out] at hm hme
      rw [hcg] at HB
      have HR2 := hide (show ∀ z, z = (co ys (off + k) + c * co xs k) % p → _ from HST.out)
      clear hcl hcell hat hco hcg HST hO hG HX HY HM
      generalize hxx : co xs k = x at *
      generalize hyy : co ys (off + k) = y at *
      clear hxx hyy
      obtain ⟨y0, y1⟩ := hye
      obtain ⟨m0, m1⟩ := hme
      have k0 : (0 : Int) ≤ (k : Int) := Int.natCast_nonneg _
      have k1 : (k : Int) < (xs.length : Int) := by omega
      have hkn : k < n2 := by omega
      by_cases hlow : y < p - m
      · go_wp2_with (go_at_call 92; refine (hm.out _).mono ?_; rintro e w2 ⟨rfl, hb⟩; have hc2 := HB.out _ hb; have hf2 := HF.out _ hb)
        go_roundw
        case rel => exact ⟨k + 1, by omega, by go_num, by rw [← HR2.out _ (LO.out hlow)]; exact (HA.out _ _ hb).1, (HA.out _ _ hb).2⟩
        case measure => simp [intOf]; omega
      · go_wp2_with (go_at_call 92; refine (hm.out _).mono ?_; rintro e w2 ⟨rfl, hb⟩; have hc2 := HB.out _ hb; have hf2 := HF.out _ hb)
        go_roundw
        case rel => exact ⟨k + 1, by omega, by go_num, by rw [← HR2.out _ (HI.out (by omega))]; exact (HA.out _ _ hb).1, (HA.out _ _ hb).2⟩
        case measure => simp [intOf]; omega
    · obtain rfl : k = xs.length := by omega
      clear hcell
      go_wp2
      go_end0
      exact ⟨rfl, hO, hG⟩

theorem gr_sm {p c : Int} {xs ys : List Int} (hp : 0 < p) (hx : Els p xs) {N : Nat} (hN : N = max xs.length ys.length) : gr p c 0 ys (over N xs) ys.length = sm p c xs ys := by
  have hl : (over N xs).length = N := over_len (by omega)
  apply ext_co (by rw [gr_len, sm_len, hl]; omega)
  intro i hi
  rw [gr_len, hl] at hi
  have e : co (sm p c xs ys) i = (co xs i + c * co ys i) % p := by unfold sm; rw [co_mk, if_pos (by omega)]
  rw [co_gr, co_over, e, hl]
  by_cases h : i < ys.length
  · rw [if_pos (by omega), Nat.sub_zero]
  · rw [if_neg (by omega), co_out ys i (by omega), Int.mul_zero, Int.add_zero, (hx.co hp i).mod]
theorem row_far {w : World} {v : Value} {xs : List Int} {g : Nat} (h : Row w v xs) (hg : w.heap.size ≤ g) : xs ≠ [] → ∀ b o m k, v = .slice (some ⟨b, o, none⟩) m k → b ≠ g := by
  intro hne b o m k hv
  obtain ⟨ao, cap, rfl, _, _, hc⟩ := h
  obtain ⟨b', o', h1, h2, _⟩ := hc hne
  cases hv; cases h1; omega

set_option maxRecDepth 100000 in
set_option maxHeartbeats 400000 in
theorem sum_any (f p c : Int) (wd : Bool) (v1 v2 : Value) (xs ys : List Int) (w : World) (h : Fi f p wd) (hc : El p c) (h1 : Rw w v1 xs) (h2 : Rw w v2 ys) (hx : Els p xs) (hy : Els p ys) :
    Calls Try.prog 110 #[.int .u8 f, v1, .int .u64 c, v2] w fun e w' => ∃ v', e = .returned v' ∧
      w'.ownsRow w.heap.size 49 1 v' (sm p c xs ys).length (vals (sm p c xs ys)) ∧ Below w.heap.size w w' := by
  obtain ⟨i0, hi0, hz0, hz1, hz2⟩ := info_parts u64_info
  obtain ⟨a1, c1, rfl, k1⟩ := h1.spell
  obtain ⟨a2, c2, rfl, k2⟩ := h2.spell
  have l1 := h1.len
  have l2 := h2.len
  obtain ⟨N, HN⟩ : ∃ N, Hid (N = max xs.length ys.length) := ⟨_, rfl⟩
  have n1 : xs.length ≤ N := by have := HN.out; omega
  have n2 : ys.length ≤ N := by have := HN.out; omega
  have n3 : N ≤ 17592186043904 := by have := HN.out; omega
  have HMx : Hid (max (xs.length : Int) (ys.length : Int) = (N : Int)) := by show _ = _; have := HN.out; omega
  have H1 := hide (vals_one xs)
  have HW := hide (fun W (hb : Below w.heap.size w W) (hp : 0 < (vals xs).length) => row_news (h1.1.below hb) (by rw [vals_length] at hp; exact hp))
  have HG := hide (fun W g (hb : Below w.heap.size w W) (hg : w.heap.size ≤ g) (hO : W.ownsRow w.heap.size 49 1 (.slice (some ⟨g, 0, none⟩) N N) N (vals (over N xs))) =>
    grow_any f p c wd (.slice a2 ys.length c2) ys (over N xs) W w.heap.size g 0 N N N N h hc (h2.1.below hb) hy hO (Els.of_co fun i hi => by rw [co_over]; exact hx.co h.pos i) (by omega) n2 (row_far h2.1 hg))
  have HS := hide (splice_over N xs)
  have HL : Hid ((vals xs).length = Nat.min xs.length N) := by show _ = _; rw [vals_length]; exact (Nat.min_eq_left n1).symm
  have HV : Hid (0 + (vals xs).length ≤ (vals (List.replicate N 0)).length) := by show _ ≤ _; rw [vals_length, vals_length]; simp; exact n1
  have HE := hide (gr_sm (c := c) h.pos hx HN.out)
  have HSL : Hid ((sm p c xs ys).length = N) := by show _ = _; rw [sm_len]; exact HN.out.symm
  have HOL : Hid ((over N xs).length = N) := over_len n1
  obtain ⟨cs, HC⟩ : ∃ cs, Hid (vals xs = cs) := ⟨_, rfl⟩
  rw [HC.out] at H1 HL HW HS HV
  obtain ⟨zs, HZ⟩ : ∃ zs, Hid (over N xs = zs) := ⟨_, rfl⟩
  rw [HZ.out] at HG HS HE HOL
  rw [HSL.out]
  clear h1 h2 h hc hx hy
  have hcase : (xs.length < ys.length ∧ N = ys.length) ∨ (¬ xs.length < ys.length ∧ N = xs.length) := by have := HN.out; omega
  clear HN HMx
  rcases hcase with ⟨hlt, hN⟩ | ⟨hlt, hN⟩
  all_goals
    subst hN
    go_enter Try.func110, Try.ntmps110
    go_wp2_with (first
      | (at_make; refine wpList_make_full _ rfl _ _ 26 rfl w.heap.size 49 i0 (.int .u64 0) 1 Try.underlying26 hi0 hz0 hz1 .i64 .i64 _ _ ys.length rfl rfl (by omega) (by omega) (by rw [hz2]; omega) (by unfold maxLen; omega) (Nat.le_refl _) ?_; intro w2 hown hgrow; have hO := hide (own_made hown); have hB := below_grown_none hgrow; have hG2 := hgrow.size; clear hown)
      | (at_make; refine wpList_make_full _ rfl _ _ 26 rfl w.heap.size 49 i0 (.int .u64 0) 1 Try.underlying26 hi0 hz0 hz1 .i64 .i64 _ _ xs.length rfl rfl (by omega) (by omega) (by rw [hz2]; omega) (by unfold maxLen; omega) (Nat.le_refl _) ?_; intro w2 hown hgrow; have hO := hide (own_made hown); have hB := below_grown_none hgrow; have hG2 := hgrow.size; clear hown)
      | (refine wpList_copy_splice rfl _ _ _ _ rfl 49 Try.underlying26 u64_size _ _ _ _ _ _ rfl rfl w.heap.size 0 _ 49 (own_block hO.out) cs HL.out (fun hp => ⟨rfl, HW.out w2 hB hp⟩) HV.out H1.out w.heap.size w hB (Nat.le_refl _) ?_; intro w3 HG3 hB3; have HO3 := hide (own_of_block (Nat.le_refl _) (by rw [HS.out] at HG3; exact HG3.out) HOL.out n3))
      | (go_at_call 112; refine (HG.out _ _ hB3 (Nat.le_refl _) HO3.out).mono ?_; rintro e w4 ⟨rfl, hO4, hG4⟩))
    go_ret
    refine ⟨_, rfl, by rw [HE.out] at hO4; exact hO4, hB3.grown hG4 hB3.size (fun k hk => by cases hk; exact Nat.le_refl _)⟩

end Go.Proofs.Ytfbipnhhnmlhfaa
