/-
  Polynomials: the document's own Into.
-/
import Derived.Test.YtdegpefhegmamaaLawPA
import Derived.Test.YtdegpefhegmamaaPolK
import Derived.Test.YtdegpefhegmamaaPolO
namespace Go.Proofs.Ytdegpefhegmamaa
open Go.RowKit Fld
set_option linter.unusedVariables false

theorem is_short {p : Int} (hp : 0 < p) {s : List Int} {F : Nat → Int} {n : Nat} (h : Is p s F) (hF : ∀ i, n ≤ i → F i = 0) : s.length ≤ n := by
  apply Nat.le_of_not_lt
  intro hc
  have hne : s ≠ [] := by intro e; rw [e] at hc; simp at hc
  have h1 := last_ne h.2.1 hne
  have h2 := h.2.2 (s.length - 1)
  rw [(h.1.co hp _).mod, hF _ (by omega), Int.zero_emod] at h2
  exact h1 h2

theorem into_room {p : Int} (hp : 0 < p) {zs us s : List Int} {k : Nat} (hk : k < zs.length) (hu : us.length ≤ 4096) (hlim : zs.length ≤ 1 ∨ us.length ≤ 1 ∨ (zs.length - 1) * (us.length - 1) < 4096)
    (hI : Is p s (into (co us) (zs.drop (k + 1)))) : s.length ≤ 4096 ∧ s.length + us.length - 1 ≤ 4096 := by
  have hL : (zs.drop (k + 1)).length = zs.length - (k + 1) := List.length_drop
  by_cases hz : zs.length - (k + 1) = 0
  · have e : zs.drop (k + 1) = [] := List.length_eq_zero_iff.1 (by omega)
    rw [e] at hI
    have := is_short hp (n := 0) hI (fun i _ => rfl)
    omega
  · have hs := is_short hp (n := ((zs.drop (k + 1)).length - 1) * (us.length - 1) + 1) hI (fun i hi => into_end (co us) (us.length - 1) (fun j hj => co_out _ _ (by omega)) _ i (by omega))
    rw [hL] at hs
    by_cases hu1 : us.length ≤ 1
    · have e : us.length - 1 = 0 := by omega
      rw [e, Nat.mul_zero] at hs
      omega
    · have h3 : (zs.length - 1) * (us.length - 1) < 4096 := by rcases hlim with h | h | h <;> omega
      have h4 := Nat.mul_le_mul_right (us.length - 1) (show zs.length - (k + 1) ≤ zs.length - 1 by omega)
      have h5 : (zs.length - (k + 1)) * (us.length - 1) = (zs.length - (k + 1) - 1) * (us.length - 1) + (us.length - 1) := by
        have e : zs.length - (k + 1) = (zs.length - (k + 1) - 1) + 1 := by omega
        rw [e, Nat.add_mul, Nat.one_mul, Nat.add_sub_cancel]
      omega

theorem into_step {f p : Int} {wd : Bool} {zs us s : List Int} {k : Nat} (h : Fi f p wd) (X1 : Els p zs) (X2 : Els p us) (hk : k < zs.length) (hu : us.length ≤ 4096) (hlim : zs.length ≤ 1 ∨ us.length ≤ 1 ∨ (zs.length - 1) * (us.length - 1) < 4096)
    (hI : Is p s (into (co us) (zs.drop (k + 1)))) : mulE f s us = 0 ∧ er f (mulL f s us) [co zs k] = 0 ∧ Is p (addL f (mulL f s us) [co zs k]) (into (co us) (zs.drop k)) := by
  obtain ⟨h1, h2⟩ := into_room h.pos hk hu hlim hI
  have e1 : mulE f s us = 0 := by
    have := tr_len us
    unfold mulE
    rw [er_yes h (allIn_of hI.1) (allIn_of X2) h1 hu, if_pos rfl, if_neg (by rw [hI.2.1]; omega)]
  have eM : mulL f s us = prd p (tr s) (tr us) := by unfold mulL; rw [if_pos e1, pOf_eq h]
  have iM := is_prd h.md (hI.1.tr h.pos) (X2.tr h.pos) (tr_tr s) (tr_tr us)
  rw [cv_tr, ← eM] at iM
  have hx : Els p [co zs k] := fun x hx => by rw [List.mem_singleton.1 hx]; exact X1.co h.pos k
  have e2 : er f (mulL f s us) [co zs k] = 0 := er_yes h (allIn_of iM.1) (allIn_of hx) (mulL_len f s us) (by simp)
  have eA : addL f (mulL f s us) [co zs k] = tr (sm p 1 (mulL f s us) [co zs k]) := by unfold addL; rw [if_pos e2, pOf_eq h]
  refine ⟨e1, e2, ?_⟩
  rw [eA]
  have iA := is_add h.pos (mulL f s us) [co zs k]
  exact ⟨iA.1, iA.2.1, into_al hk hI.2.2 (iA.2.2.trans (iM.2.2.add (Al.refl p (co [co zs k]))))⟩

theorem dAdd_lit (f x : Int) (v : Value) (M : List Int) (w : World) (hx : 0 ≤ x ∧ x ≤ 18446744073709551615) (h1 : Rw w v M) (he : er f M [x] = 0) (T : TypeId) :
    Calls Try.prog 14 #[.int .u8 f, v, .slice (some ⟨w.heap.size, 0, none⟩) 1 1] (w.alloc (.cells #[.int .u64 x] T)) fun e w' => ∃ v', e = .returned (.tuple #[v', .int .i64 0]) ∧
      w'.ownsRow w.heap.size 34 1 v' (addL f M [x]).length (vals (addL f M [x])) ∧ Below w.heap.size w w' := by
  have h := dAdd_any f v _ M [x] _ (h1.below (alloc_below _ _)) (rw1 w x hx T)
  unfold Gives at h
  rw [he] at h
  exact h.mono fun e w' ⟨v', he, hO, hb⟩ => ⟨v', he, own_mono hO (by simp), below_one hb⟩

set_option maxRecDepth 100000 in
set_option maxHeartbeats 1000000 in
theorem dInto_any (f : Int) (v1 v2 : Value) (xs ys : List Int) (w : World) (h1 : Rw w v1 xs) (h2 : Rw w v2 ys) : Gives 27 #[.int .u8 f, v1, v2] w (intoL f xs ys) (intoE f xs ys) := by
  have hk := hide (rBad_any f _ _ xs ys w h1 h2)
  by_cases he : er f xs ys = 0
  · obtain ⟨p, wd, h, i1, i2, m1, m2⟩ := er_zero he
    rw [he] at hk
    have t1 := hide (rTrim_any _ xs w h1)
    have t2 := hide (fun W (hb : Below w.heap.size w W) => rTrim_any _ ys W (h2.below hb))
    have n1 := tr_len xs
    have n2 := tr_len ys
    have X1 := (els_of i1 h1.words).tr h.pos
    have X2 := (els_of i2 h2.words).tr h.pos
    have R1 := hide (fun W u n base (hO : World.ownsRow W base 34 1 u n (vals (tr xs))) => rw_of_own hO (by omega) (els_words X1 h.top))
    have R2 := hide (fun W u n base (hO : World.ownsRow W base 34 1 u n (vals (tr ys))) => rw_of_own hO (by omega) (els_words X2 h.top))
    have HE : Hid (intoE f xs ys = if 4096 ≤ ((tr xs).length - 1) * ((tr ys).length - 1) then 4 else 0) := by show _ = _; unfold intoE; rw [if_pos he]
    have HL : Hid (intoL f xs ys = if intoE f xs ys = 0 then tr (mk ((tr xs).length * (tr ys).length + 1) (fun i => into (co (tr ys)) (tr xs) i % p)) else []) := by show _ = _; unfold intoL; rw [pOf_eq h]
    rw [HL.out, HE.out]
    clear HL HE he h1 h2
    generalize tr xs = zs at *
    generalize tr ys = us at *
    obtain ⟨D, hD, d1, d2, d3⟩ := deg_mul zs.length us.length (by omega) (by omega)
    by_cases hlim : 4096 ≤ D
    · have hn := d3.1 hlim
      rw [if_pos hn, if_neg (by decide)]
      apply Gives.none
      have g1 : 1 < zs.length := by
        apply Nat.lt_of_not_le; intro hc
        have e : zs.length - 1 = 0 := by omega
        rw [e, Nat.zero_mul] at hn; omega
      have g2 : 1 < us.length := by
        apply Nat.lt_of_not_le; intro hc
        have e : us.length - 1 = 0 := by omega
        rw [e, Nat.mul_zero] at hn; omega
      clear d3 h X1 X2 hn
      go_enter Try.func27, Try.ntmps27
      go_wp2_with fail
      refine hk.out.mono ?_; rintro e w1 ⟨rfl, hw⟩; rw [hw]; clear hw
      go_wp2_with fail
      refine t1.out.mono ?_; rintro e w1 ⟨u1, rfl, hO1, hb1⟩
      obtain ⟨a1, c1, rfl, _⟩ := (R1.out _ _ _ _ hO1).spell
      go_wp2_with fail
      refine (t2.out _ hb1).mono ?_; rintro e w2 ⟨u2, rfl, hO2, hb⟩
      obtain ⟨a2, c2, rfl, _⟩ := (R2.out _ _ _ _ hO2).spell
      have hb2 := Below.next hb1 hb
      clear hO1 hO2
      go_wp2
      go_ret2
      exact ⟨rfl, hb2⟩
    · have hn : ¬ 4096 ≤ (zs.length - 1) * (us.length - 1) := fun hc => hlim (d3.2 hc)
      rw [if_neg hn, if_pos rfl]
      have hlm : zs.length ≤ 1 ∨ us.length ≤ 1 ∨ (zs.length - 1) * (us.length - 1) < 4096 := .inr (.inr (by omega))
      have HFin := hide (fun s (hI : Is p s (into (co us) (zs.drop 0))) => (show Is p s (into (co us) zs) from hI).only h.pos (is_into h.pos zs us))
      have HStep := hide (fun s k (hk : k < zs.length) (hI : Is p s (into (co us) (zs.drop (k + 1)))) => into_step h X1 X2 hk (by omega) hlm hI)
      have HStart : Hid (Is p [] (into (co us) (zs.drop zs.length))) := ⟨fun x hx => (by cases hx), rfl, fun i => by rw [List.drop_length]; rfl⟩
      have GM := hide (fun W v u s (hr : Rw W v s) (hu : Rw W u us) (he' : mulE f s us = 0) => by
        have := dMul_any f v u s us W hr hu
        rw [he'] at this; exact this)
      unfold Gives at GM
      have HXw := hide (fun k => elWord (X1.co h.pos k) h.top)
      have GA := hide (fun W v M x (hx : 0 ≤ x ∧ x ≤ 18446744073709551615) (hr : Rw W v M) (he' : er f M [x] = 0) T => dAdd_lit f x v M W hx hr he' T)
      have HMw := hide (fun s => mulL_wd f s us)
      have HAw := hide (fun M x => addL_wd f M [x])
      have hcase : (¬ 1 < zs.length) ∨ (1 < zs.length ∧ ¬ 1 < us.length) ∨ (1 < zs.length ∧ 1 < us.length) := by omega
      clear d3 h X1 X2 hn hlm
      show Calls _ _ _ _ _
      rcases hcase with g1 | ⟨g1, g2⟩ | ⟨g1, g2⟩
      all_goals
        go_enter Try.func27, Try.ntmps27
        go_wp2_with fail
        refine hk.out.mono ?_; rintro e w1 ⟨rfl, hw⟩; rw [hw]; clear hw
        go_wp2_with fail
        refine t1.out.mono ?_; rintro e w1 ⟨u1, rfl, hO1, hb1⟩
        have r1 := R1.out _ _ _ _ hO1
        go_wp2_with fail
        refine (t2.out _ hb1).mono ?_; rintro e w2 ⟨u2, rfl, hO2, hb⟩
        have r2 := R2.out _ _ _ _ hO2
        have r1 := r1.below hb
        obtain ⟨a1, c1, rfl, _⟩ := r1.spell
        obtain ⟨a2, c2, rfl, _⟩ := r2.spell
        have hb2 := Below.next hb1 hb
        have hs2 := hb2.size
        have HR2 := hide r2
        obtain ⟨⟨a, c, hv, _, _, hcell⟩, _⟩ := r1
        cases hv
        clear hO1 hO2 r2 hb hb1 hk t1 t2
        go_wp2
        go_loopw [9, 10] (fun vs vi wr => ∃ (k : Nat) (s : List Int), k ≤ zs.length ∧ vi = .int .i64 ((k : Int) - 1) ∧ Hid (Is p s (into (co us) (zs.drop k))) ∧ Hid (Wd s) ∧ Hid (wr.ownsRow w.heap.size 34 1 vs s.length (vals s)) ∧ Below w2.heap.size w2 wr) (fun _ vi _ => (intOf vi + 1).toNat)
        case atStart => exact ⟨zs.length, [], Nat.le_refl _, rfl, HStart, wd_nil, World.ownsRow_nil _ _ _ _, Below.refl _ _⟩
        case round =>
          clear HStart
          obtain ⟨k, s, hk, rfl, HI, HW, HO, hB⟩ := hrel
          by_cases hpos : 0 < k
          · obtain ⟨k, rfl⟩ : ∃ j, k = j + 1 := ⟨k - 1, by omega⟩
            have ek : (((k + 1 : Nat) : Int) - 1) = (k : Int) := by omega
            rw [ek]
            clear ek
            have hkz : k < zs.length := by omega
            obtain ⟨b, o, rfl, hbl, hcl⟩ := hcell (by intro h; rw [h] at hkz; simp at hkz)
            have hck := hide (fun W (hb : Below w2.heap.size w2 W) => (hb.cell (p := ⟨b, o + k, none⟩) hbl).trans (hcl k hkz))
            have hco : zs.getD k 0 = co zs k := rfl
            rw [hco] at hck
            obtain ⟨f1, f2, f3⟩ := HStep.out s k hkz HI.out
            have gm := hide (fun v (hr : Rw wr v s) => GM.out wr v _ s hr (HR2.out.below hB) f1)
            have ga := hide (fun W v hr T => GA.out W v (mulL f s us) (co zs k) (HXw.out k) hr f2 T)
            have HI2 := hide f3
            have w1' := hide (HMw.out s)
            have w2' := hide (HAw.out (mulL f s us) (co zs k))
            have hr := hide (HW.out.row HO.out)
            have k0 : (0 : Int) ≤ (k : Int) := Int.natCast_nonneg _
            have k1 : (k : Int) < (zs.length : Int) := by omega
            clear f1 f2 f3 hco hcl hcell
            generalize mulL f s us = M at *
            generalize co zs k = x at *
            generalize addL f M [x] = N at *
            go_wp2_with (first
              | (go_at_call 18; refine (gm.out _ hr.out).mono ?_; rintro e w5 ⟨u5, rfl, hO5, hb5⟩; have hB5 := Below.next hB hb5; have hc5 := hck.out _ hB5; have r5 := hide (w1'.out.row hO5); clear hO5)
              | (go_at_call 14; refine (ga.out _ _ r5.out _).mono ?_; rintro e w6 ⟨u6, rfl, hO6, hb6⟩))
            go_roundw
            case rel => exact ⟨k, N, by omega, rfl, HI2, w2', own_mono hO6 (by have := hB5.size; omega), Below.next hB5 hb6⟩
            case measure => simp [intOf]
          · obtain rfl : k = 0 := by omega
            have HF := hide (HFin.out s HI.out)
            clear hcell
            go_wp2
            go_ret2
            exact ⟨_, rfl, by rw [← HF.out]; exact HO.out, hb2.trans (hB.mono hs2)⟩
  · have ht : (er f xs ys != 0) = true := bne_iff_ne.2 he
    have HE : Hid (intoE f xs ys = er f xs ys) := by show _ = _; unfold intoE; rw [if_neg he]
    have HL : Hid (intoL f xs ys = []) := by show _ = _; unfold intoL; rw [HE.out, if_neg he]
    rw [HE.out, HL.out]
    clear h1 h2 he HE HL
    generalize er f xs ys = e0 at *
    apply Gives.none
    go_enter Try.func27, Try.ntmps27
    go_wp2_with (go_at_call 28; refine hk.out.mono ?_; rintro e w1 ⟨rfl, hw⟩; rw [hw]; clear hw)
    go_ret2
    exact ⟨rfl, Below.refl _ _⟩

end Go.Proofs.Ytdegpefhegmamaa
