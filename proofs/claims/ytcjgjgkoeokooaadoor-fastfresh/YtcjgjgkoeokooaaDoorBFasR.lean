/-
  Layer 4: the document's own transforms, there and back.
-/
import Derived.Test.YtcjgjgkoeokooaaDoorBFasQ
import Derived.Test.YtcjgjgkoeokooaaDoorBPolK
import Derived.Test.YtcjgjgkoeokooaaDoorBunR
namespace Go.Proofs.YtcjgjgkoeokooaaDoor
open Go.RowKit Fld
set_option linter.unusedVariables false

theorem pow_int {k : Nat} (hk : k ≤ 12) : ∃ M : Nat, IntKind.i64.wrap (2 ^ k) = (M : Int) ∧ (2 : Int) ^ k = (M : Int) ∧ M = 2 ^ k ∧ (0 : Int) ≤ (M : Int) ∧ (M : Int) ≤ 4096 := ⟨2 ^ k, by rw [wrap_pow k (by omega), cast_pow], (cast_pow k).symm, rfl, Int.natCast_nonneg _, by have := pow_le12 hk; omega⟩
theorem own_spell {w : World} {base n : Nat} {v : Value} {zs : List Int} {T : TypeId} (h : w.ownsRow base T 1 v n (vals zs)) : ∃ ao cap, v = .slice ao n cap := by
  rcases h.2 with ⟨rfl, rfl⟩ | ⟨g, cap, _, rfl, _⟩
  · exact ⟨_, _, rfl⟩
  · exact ⟨_, _, rfl⟩
theorem pow_inj {k L : Nat} (h : 2 ^ k = 2 ^ L) : k = L := by
  by_cases h1 : k < L
  · have := pow_gt h1; omega
  · by_cases h2 : L < k
    · have := pow_gt h2; omega
    · omega

set_option maxHeartbeats 200000 in
theorem rlog_yes (n L : Nat) (w : World) (hL : L ≤ 12) (hn : n = 2 ^ L) : Calls Tryd.prog 36 #[.int .i64 n] w fun e w' => e = .returned (.int .i64 L) ∧ w' = w := by
  have HN := hide hn
  clear hn
  go_enter Tryd.func36, Tryd.ntmps36
  go_wp2
  go_loop [3] (fun vk => ∃ k : Nat, k ≤ L ∧ vk = .int .i64 k) (fun vk => 13 - (intOf vk).toNat)
  case atStart => exact ⟨0, Nat.zero_le _, rfl⟩
  case round =>
    obtain ⟨k, hk, rfl⟩ := hrel
    obtain ⟨M, e1, e2, e3, e4, e5⟩ := pow_int (k := k) (by omega)
    have k0 : (0 : Int) ≤ (k : Int) := Int.natCast_nonneg _
    have k1 : (k : Int) ≤ 12 := by omega
    by_cases hlt : k < L
    · have hne : ((n : Int) == (M : Int)) = false := beq_eq_false_iff_ne.2 (by have := HN.out; have := pow_gt hlt; omega)
      clear e3
      go_wp2
      go_round
      case rel => exact ⟨k + 1, by omega, by go_num⟩
      case measure => simp [intOf]; omega
    · obtain rfl : k = L := by omega
      have hne : ((n : Int) == (M : Int)) = true := beq_iff_eq.2 (by have := HN.out; omega)
      clear e3
      go_wp2
      go_ret
      exact ⟨rfl, rfl⟩

set_option maxHeartbeats 200000 in
theorem rlog_no (n : Nat) (w : World) (hn : isP n = false) : Calls Tryd.prog 36 #[.int .i64 n] w fun e w' => e = .returned (.int .i64 (-1)) ∧ w' = w := by
  have HN : Hid (∀ k, k ≤ 12 → n ≠ 2 ^ k) := fun k hk e => by rw [e, pow_isP k (by omega)] at hn; cases hn
  clear hn
  go_enter Tryd.func36, Tryd.ntmps36
  go_wp2
  go_loop [3] (fun vk => ∃ k : Nat, k ≤ 13 ∧ vk = .int .i64 k) (fun vk => 13 - (intOf vk).toNat)
  case atStart => exact ⟨0, Nat.zero_le _, rfl⟩
  case round =>
    obtain ⟨k, hk, rfl⟩ := hrel
    by_cases hlt : k ≤ 12
    · obtain ⟨M, e1, e2, e3, e4, e5⟩ := pow_int (k := k) hlt
      have k0 : (0 : Int) ≤ (k : Int) := Int.natCast_nonneg _
      have k1 : (k : Int) ≤ 12 := by omega
      have hne : ((n : Int) == (M : Int)) = false := beq_eq_false_iff_ne.2 (by have := HN.out k hlt; omega)
      clear e3
      go_wp2
      go_round
      case rel => exact ⟨k + 1, by omega, by go_num⟩
      case measure => simp [intOf]; omega
    · obtain rfl : k = 13 := by omega
      go_wp2
      go_ret
      exact ⟨rfl, rfl⟩

theorem val_tf {f p r : Int} {wd : Bool} (h : Fi f p wd) {xs : List Int} (hx : Els p xs) (hl : xs.length ≤ 4096) (i : Nat) : valE f (pw p r i) xs = ev (r ^ i) xs.length (co xs) % p := by
  have he : er f xs [pw p r i] = 0 := er_els h hx (fun x hx => by rw [List.mem_singleton.1 hx]; exact pw_el h.md i) hl (by simp)
  unfold valE
  rw [if_pos he, pOf_eq h]
  unfold vl
  exact ev_arg (pw_mod h.md i) _ _

set_option maxRecDepth 100000 in
set_option maxHeartbeats 200000 in
theorem rvalues_any (f p r : Int) (wd : Bool) (v : Value) (xs : List Int) (w : World) (h : Fi f p wd) (h1 : Rw w v xs) (hx : Els p xs) (hl : xs.length ≤ 4096) (hr : El p r) :
    Calls Tryd.prog 38 #[.int .u8 f, v, .int .u64 r] w fun e w' => ∃ v', e = .returned v' ∧ w'.ownsRow w.heap.size 39 1 v' xs.length (vals (tf p r xs.length xs)) ∧ Below w.heap.size w w' := by
  obtain ⟨i0, hi0, hz0, hz1, hz2⟩ := info_parts u64_info
  obtain ⟨a1, c1, rfl, _⟩ := h1.spell
  have HPw := hide (rPowers_yes f p wd r xs.length w h hr hl)
  have HEv := hide (fun i W (hb : Below w.heap.size w W) => dEval_any f (pw p r i) _ xs W (elWord (pw_el h.md i) h.top) (h1.below hb))
  have HVl := hide (fun i => val_tf (r := r) h hx hl i)
  unfold tf
  obtain ⟨F, HF⟩ : ∃ F : Nat → Int, Hid (∀ i, ev (r ^ i) xs.length (co xs) % p = F i) := ⟨_, hide (fun _ => rfl)⟩
  have eF : (fun k => ev (r ^ k) xs.length (co xs) % p) = F := funext fun i => HF.out i
  rw [eF]
  have HVF : Hid (∀ i, valE f (pw p r i) xs = F i) := fun i => by rw [HVl.out, HF.out]
  clear h1 h hx hr eF HF HVl
  go_enter Tryd.func38, Tryd.ntmps38
  go_wp2_with fail
  refine HPw.out.mono ?_; rintro e w1 ⟨va, rfl, ra, hb1⟩
  obtain ⟨aa, ca, rfl, _, _, hcell⟩ := ra
  rw [pws_len] at hcell ⊢
  go_wp2_with fail
  go_loopw [9, 10] (fun vo vi wr => ∃ k : Nat, k ≤ xs.length ∧ vi = .int .i64 k ∧ wr.ownsRow w1.heap.size 39 1 vo k (vals (mk k F)) ∧ Below w1.heap.size w1 wr) (fun _ vi _ => xs.length - (intOf vi).toNat)
  case atStart => exact ⟨0, Nat.zero_le _, rfl, World.ownsRow_nil _ _ _ _, Below.refl _ _⟩
  case round =>
    obtain ⟨k, hk, rfl, hown, hB⟩ := hrel
    by_cases hlt : k < xs.length
    · obtain ⟨b, o, rfl, hbl, hcl⟩ := hcell (by intro h; have := pws_len p r xs.length; rw [h] at this; simp at this; omega)
      have d1 := (hB.cell (p := ⟨b, o + k, none⟩) hbl).trans (hcl k hlt)
      have e1 : (pws p r xs.length).getD k 0 = pw p r k := pws_at p r _ k hlt
      rw [e1] at d1
      have hev := hide (HEv.out k _ (Below.next hb1 hB))
      rw [HVF.out k] at hev
      obtain ⟨x, HX⟩ : ∃ x, Hid (F k = x) := ⟨_, rfl⟩
      rw [HX.out] at hev
      have hbs := hB.size
      have k0 : (0 : Int) ≤ (k : Int) := Int.natCast_nonneg _
      have k1 : (k : Int) < (xs.length : Int) := by omega
      clear e1 hcl hcell
      generalize pw p r k = t at *
      generalize er f xs [t] = e0 at *
      have HOwn := hide hown
      clear hown
      go_wp2_with fail
      refine hev.out.mono ?_; rintro e w2 ⟨rfl, hb2⟩
      have hB2 := Below.next hB hb2
      have hown2 := own_below HOwn.out hb2
      have hown3 := hown2
      have hbs2 := hB2.size
      generalize hq : mk k F = q at hown3
      have HQ := hide hq
      clear hq HOwn
      go_wp2_with (at_builtin; refine wpList_append_lies _ rfl _ _ _ rfl w1.heap.size 39 i0 _ 1 8 Tryd.underlying22 hi0 hz0 hz1 hz2 rfl (by omega) _ k _ rfl (hown3.alloc _) ⟨w2.heap.size, 0, none⟩ 1 1 [.int .u64 x] rfl rfl (World.news_of_block (cs := #[.int .u64 x]) (t := 39) (fr := (0, 0)) (heap_alloc_new w2 _)) (by simp [Value.oneCell']) (by omega) (by unfold maxLen; omega) (by omega) (by simp; omega) (w2.heap.size + 1) (by simp) ?_; intro gg cap2 w3 hown4 hgrow hat hltg)
      rw [← HQ.out] at hown4
      have R := hide (app_step hB2 hown2 hown4 hgrow HX.out)
      clear hown2 hown3 hown4 hgrow hat hltg
      go_roundw
      case rel => exact ⟨k + 1, by omega, by go_num, R.out.1, R.out.2⟩
      case measure => simp [intOf]; omega
    · obtain rfl : k = xs.length := by omega
      clear hcell
      have HO := hide hown
      clear hown
      go_wp2
      go_ret
      exact ⟨_, rfl, own_mono HO.out hb1.size, Below.next hb1 hB⟩

set_option maxHeartbeats 200000 in
theorem dTransform_any (f : Int) (v : Value) (xs : List Int) (w : World) (h1 : Rw w v xs) : Gives 15 #[.int .u8 f, v] w (trL f xs) (trE f xs) := by
  have hk := hide (fun W (hb : Below w.heap.size w W) => rBad_any f v (.slice none 0 0) xs [] W (h1.below hb) (rw0 W))
  obtain ⟨a1, c1, rfl, _⟩ := h1.spell
  by_cases he : er f xs [] = 0
  · rw [he] at hk
    cases hp : isP xs.length with
    | false =>
      have e1 : trE f xs = 3 := by unfold trE shE; rw [he, if_pos rfl, hp, if_neg (by decide)]
      have e2 : trL f xs = [] := by unfold trL; rw [e1]; rfl
      have HL := hide (fun W => rlog_no xs.length W hp)
      rw [e1, e2]
      apply Gives.none
      clear h1 e1 e2 hp he
      go_enter Tryd.func15, Tryd.ntmps15
      go_wp2_with (first
        | (go_at_call 31; refine (hk.out _ (Below.refl _ _)).mono ?_; rintro e w1 ⟨rfl, hw⟩; rw [hw]; clear hw)
        | (go_at_call 36; refine (HL.out _).mono ?_; rintro e w1 ⟨rfl, hw⟩; rw [hw]; clear hw))
      go_ret2
      exact ⟨rfl, Below.refl _ _⟩
    | true =>
      have e1 : trE f xs = 0 := by unfold trE shE; rw [he, if_pos rfl, hp, if_pos rfl]
      obtain ⟨p, wd, LL, gb, L, hB, hL, hl, i1⟩ := trE_zero e1
      have e2 : trL f xs = tf p (rv p gb L) xs.length xs := by unfold trL; rw [if_pos e1, pOf_eq hB.fi, rtOf_eq hB hL hl]
      have hLL := hB.le
      have HL := hide (fun W => rlog_yes xs.length L W hL hl)
      have HR := hide (fun W => rRoot_yes f p wd LL gb L W hB (by omega))
      have hle : xs.length ≤ 4096 := by rw [hl]; exact pow_le12 hL
      have HV := hide (rvalues_any f p (rv p gb L) wd _ xs w hB.fi h1 (els_of i1 h1.words) hle (rv_el hB.fi.pos))
      have htl : (tf p (rv p gb L) xs.length xs).length = xs.length := tf_len _ _ _ _
      rw [e1, e2]
      show Calls _ _ _ _ _
      rw [htl]
      clear h1 e1 e2 hp he hB i1 hl htl
      generalize tf p (rv p gb L) xs.length xs = ts at *
      generalize rv p gb L = r at *
      have L0 : (0 : Int) ≤ (L : Int) := Int.natCast_nonneg _
      go_enter Tryd.func15, Tryd.ntmps15
      go_wp2_with (first
        | (go_at_call 31; refine (hk.out _ (Below.refl _ _)).mono ?_; rintro e w1 ⟨rfl, hw⟩; rw [hw]; clear hw)
        | (go_at_call 36; refine (HL.out _).mono ?_; rintro e w1 ⟨rfl, hw⟩; rw [hw]; clear hw)
        | (go_at_call 37; refine (HR.out _).mono ?_; rintro e w1 ⟨rfl, hw⟩; rw [hw]; clear hw)
        | (go_at_call 38; refine HV.out.mono ?_; rintro e w2 ⟨u, rfl, o2, hb2⟩; have O2 := hide o2; clear o2))
      go_ret2
      exact ⟨_, rfl, O2.out, hb2⟩
  · have e1 : trE f xs = er f xs [] := by unfold trE shE; rw [if_neg he]
    have e2 : trL f xs = [] := by unfold trL; rw [e1, if_neg he]
    have ht : (er f xs [] != 0) = true := bne_iff_ne.2 he
    rw [e1, e2]
    clear h1 e1 e2 he
    generalize er f xs [] = e0 at *
    apply Gives.none
    go_enter Tryd.func15, Tryd.ntmps15
    go_wp2_with (go_at_call 31; refine (hk.out _ (Below.refl _ _)).mono ?_; rintro e w1 ⟨rfl, hw⟩; rw [hw]; clear hw)
    go_ret2
    exact ⟨rfl, Below.refl _ _⟩

set_option maxRecDepth 100000 in
set_option maxHeartbeats 200000 in
theorem dBack_any (f : Int) (v : Value) (xs : List Int) (w : World) (h1 : Rw w v xs) : Gives 17 #[.int .u8 f, v] w (bkL f xs) (trE f xs) := by
  have hk := hide (fun W (hb : Below w.heap.size w W) => rBad_any f v (.slice none 0 0) xs [] W (h1.below hb) (rw0 W))
  obtain ⟨a1, c1, rfl, _⟩ := h1.spell
  by_cases he : er f xs [] = 0
  · rw [he] at hk
    cases hp : isP xs.length with
    | false =>
      have e1 : trE f xs = 3 := by unfold trE shE; rw [he, if_pos rfl, hp, if_neg (by decide)]
      have e2 : bkL f xs = [] := by unfold bkL; rw [e1]; rfl
      have HL := hide (fun W => rlog_no xs.length W hp)
      rw [e1, e2]
      apply Gives.none
      clear h1 e1 e2 hp he
      go_enter Tryd.func17, Tryd.ntmps17
      go_wp2_with (first
        | (go_at_call 31; refine (hk.out _ (Below.refl _ _)).mono ?_; rintro e w1 ⟨rfl, hw⟩; rw [hw]; clear hw)
        | (go_at_call 36; refine (HL.out _).mono ?_; rintro e w1 ⟨rfl, hw⟩; rw [hw]; clear hw))
      go_ret2
      exact ⟨rfl, Below.refl _ _⟩
    | true =>
      have e1 : trE f xs = 0 := by unfold trE shE; rw [he, if_pos rfl, hp, if_pos rfl]
      obtain ⟨p, wd, LL, gb, L, hB, hL, hl, i1⟩ := trE_zero e1
      have e2 : bkL f xs = bk p (inv p (rv p gb L)) (inv p (xs.length : Int)) xs.length xs := by unfold bkL; rw [if_pos e1, pOf_eq hB.fi, rtOf_eq hB hL hl]
      have hLL := hB.le
      have hp0 := hB.fi.pos
      have hp1 := hB.fi.top
      have hp2 : 2 ≤ p := by have := hB.fi.md.bounds; omega
      have HL := hide (fun W => rlog_yes xs.length L W hL hl)
      have HR := hide (fun W => rRoot_yes f p wd LL gb L W hB (by omega))
      have HPr := hide (fun W => rP_yes f p wd W hB.fi)
      have hle : xs.length ≤ 4096 := by rw [hl]; exact pow_le12 hL
      have hre : El p (rv p gb L) := rv_el hp0
      have HT1 := hide (fun W => rTurned_any p (rv p gb L) W hp1 hp2 hre)
      have HT2 := hide (fun W => rTurned_any p (xs.length : Int) W hp1 hp2 (n_el hB.fi hle))
      have HV := hide (rvalues_any f p (inv p (rv p gb L)) wd _ xs w hB.fi h1 (els_of i1 h1.words) hle (inv_el hp0))
      have htl : (tf p (inv p (rv p gb L)) xs.length xs).length = xs.length := tf_len _ _ _ _
      have HE : Hid (Els p (tf p (inv p (rv p gb L)) xs.length xs)) := els_tf hp0 _ _ _
      have hce : El p (inv p (xs.length : Int)) := inv_el hp0
      have HM := hide (fun W x (hx : El p x) => rTimes_any p x (inv p (xs.length : Int)) W hp1 hx hce.1 (elWord hce hp1).2)
      have hbl : (bk p (inv p (rv p gb L)) (inv p (xs.length : Int)) xs.length xs).length = xs.length := bk_len _ _ _ _ _
      rw [e1, e2]
      show Calls _ _ _ _ _
      rw [hbl]
      unfold bk
      clear h1 e1 e2 hp he hB i1 hl hre hce hbl
      generalize tf p (inv p (rv p gb L)) xs.length xs = ts at *
      generalize inv p (rv p gb L) = r2 at *
      generalize rv p gb L = r at *
      generalize inv p (xs.length : Int) = c at *
      have L0 : (0 : Int) ≤ (L : Int) := Int.natCast_nonneg _
      have n0 : (0 : Int) ≤ (xs.length : Int) := Int.natCast_nonneg _
      have n1 : (xs.length : Int) ≤ 4096 := by omega
      go_enter Tryd.func17, Tryd.ntmps17
      go_wp2_with fail
      refine (hk.out _ (Below.refl _ _)).mono ?_; rintro e w1 ⟨rfl, hw⟩; rw [hw]; clear hw
      go_wp2_with fail
      refine (HL.out _).mono ?_; rintro e w1 ⟨rfl, hw⟩; rw [hw]; clear hw
      go_wp2_with fail
      refine (HR.out _).mono ?_; rintro e w1 ⟨rfl, hw⟩; rw [hw]; clear hw
      go_wp2_with fail
      refine (HPr.out _).mono ?_; rintro e w1 ⟨rfl, hw⟩; rw [hw]; clear hw
      go_wp2_with fail
      refine (HT1.out _).mono ?_; rintro e w1 ⟨rfl, hw⟩; rw [hw]; clear hw
      go_wp2_with fail
      refine HV.out.mono ?_; rintro e w2 ⟨u, rfl, o2, hb2⟩
      have O2 := hide o2
      obtain ⟨ao, cap, rfl⟩ := own_spell o2
      clear o2
      go_wp2_with fail
      refine (HT2.out _).mono ?_; rintro e w1 ⟨rfl, hw⟩; rw [hw]; clear hw
      go_wp2_with fail
      go_loopw [13] (fun vk wr => ∃ k : Nat, k ≤ xs.length ∧ vk = .int .i64 k ∧ wr.ownsRow w.heap.size 39 1 (.slice ao xs.length cap) xs.length (vals (sc p c ts k)) ∧ Below w.heap.size w wr) (fun vk _ => xs.length - (intOf vk).toNat)
      case atStart => exact ⟨0, Nat.zero_le _, rfl, by rw [sc_zero]; exact O2.out, hb2⟩
      case round =>
        clear O2 hb2
        obtain ⟨k, hk, rfl, hO, hB⟩ := hrel
        by_cases hlt : k < xs.length
        · have hv : ∃ g, ao = some ⟨g, 0, none⟩ ∧ w.heap.size ≤ g := by
            rcases hO.2 with ⟨h, h2⟩ | ⟨g, cap, _, h, hg, _⟩
            · omega
            · cases h; exact ⟨g, rfl, hg⟩
          obtain ⟨g, rfl, hg⟩ := hv
          have sl : (sc p c ts k).length = xs.length := by rw [sc_len, htl]
          have d1 := own_cell hO sl hlt
          have e1 : (sc p c ts k).getD k 0 = co ts k := sc_at (by omega)
          rw [e1] at d1
          have d2 := hO.frozenAt k
          have hm := hide (fun W => HM.out W _ (HE.out.co hp0 k))
          have HST := hide (sc_step (p := p) (c := c) (ys := ts) (k := k) (by omega))
          have HA := hide (store_step (z := mul p (co ts k) c) (k := k) hO hB hg 0)
          rw [HST.out] at HA
          clear e1 HST hO
          generalize mul p (co ts k) c = z at *
          generalize co ts k = y at *
          have k0 : (0 : Int) ≤ (k : Int) := Int.natCast_nonneg _
          have k1 : (k : Int) < (xs.length : Int) := by omega
          go_wp2_with (go_at_call 23; refine (hm.out _).mono ?_; rintro e w6 ⟨rfl, hw⟩; rw [hw]; clear hw)
          go_roundw
          case rel => exact ⟨k + 1, by omega, by go_num, HA.out.1, HA.out.2⟩
          case measure => simp [intOf]; omega
        · obtain rfl : k = xs.length := by omega
          have O := hide hO
          clear hO
          go_wp2
          go_ret2
          exact ⟨_, rfl, O.out, hB⟩
  · have e1 : trE f xs = er f xs [] := by unfold trE shE; rw [if_neg he]
    have e2 : bkL f xs = [] := by unfold bkL; rw [e1, if_neg he]
    have ht : (er f xs [] != 0) = true := bne_iff_ne.2 he
    rw [e1, e2]
    clear h1 e1 e2 he
    generalize er f xs [] = e0 at *
    apply Gives.none
    go_enter Tryd.func17, Tryd.ntmps17
    go_wp2_with (go_at_call 31; refine (hk.out _ (Below.refl _ _)).mono ?_; rintro e w1 ⟨rfl, hw⟩; rw [hw]; clear hw)
    go_ret2
    exact ⟨rfl, Below.refl _ _⟩

end Go.Proofs.YtcjgjgkoeokooaaDoor
