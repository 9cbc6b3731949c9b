/-
  FastBack's walk.
-/
import Derived.Test.YtcjgjgkoeokooaaDoorBLawFC
namespace Go.Proofs.YtcjgjgkoeokooaaDoor
open Go.RowKit Fld
set_option linter.unusedVariables false

theorem trE_yes {f p : Int} {wd : Bool} (h : Fi f p wd) {xs : List Int} (hx : Els p xs) {L : Nat} (hL : L ≤ 12) (hl : xs.length = 2 ^ L) : trE f xs = 0 := by
  have hle : xs.length ≤ 4096 := by rw [hl]; exact pow_le12 hL
  have he := er_els (ys := []) h hx (fun x hx => (by cases hx)) hle (by simp)
  unfold trE shE
  rw [if_pos he, hl, pow_isP L (by omega), if_pos rfl]
theorem rdE_yes {f p : Int} {wd : Bool} (h : Fi f p wd) {xs ys : List Int} (hx : Els p xs) (hy : Els p ys) {L : Nat} (hL : L ≤ 12) (hl : xs.length = 2 ^ L) (hly : ys.length = xs.length) : rdE f xs ys = 0 := by
  have hle : xs.length ≤ 4096 := by rw [hl]; exact pow_le12 hL
  have he := er_els h hx hy hle (by omega)
  unfold rdE shE
  rw [if_pos he, decide_eq_true hly, hl, pow_isP L (by omega)]; rfl
theorem trL_yes {f p : Int} {wd : Bool} {LL : Nat} {gb : Int} (h : Lb f p wd LL gb) {xs : List Int} (hx : Els p xs) {L n : Nat} (hL : L ≤ 12) (hl : xs.length = n) (hn : n = 2 ^ L) : trE f xs = 0 ∧ trL f xs = tf p (rv p gb L) n xs ∧ bkL f xs = bk p (inv p (rv p gb L)) (inv p (n : Int)) n xs := by
  have e := trE_yes h.fi hx hL (hl.trans hn)
  refine ⟨e, ?_, ?_⟩
  · unfold trL; rw [if_pos e, pOf_eq h.fi, rtOf_eq h hL (hl.trans hn), hl]
  · unfold bkL; rw [if_pos e, pOf_eq h.fi, rtOf_eq h hL (hl.trans hn), hl]
theorem fb_facts {f p : Int} {wd : Bool} {LL : Nat} {gb : Int} (h : Lb f p wd LL gb) {A : List Int} (hA : Els p A) {L n : Nat} (hL : L ≤ 12) (hl : A.length = n) (hn : n = 2 ^ L) :
    trE f A = 0 ∧ trE f (trL f A) = 0 ∧ bkL f (trL f A) = A ∧ trE f (bkL f A) = 0 ∧ trL f (bkL f A) = A ∧ (trL f A).length = n ∧ Els p (trL f A) := by
  have hp := h.fi.pos
  obtain ⟨rt, rc⟩ := rt_of h hL hn
  obtain ⟨e1, e2, e3⟩ := trL_yes h hA hL hl hn
  have l2 : (trL f A).length = n := by rw [e2, tf_len]
  have l3 : (bkL f A).length = n := by rw [e3, bk_len]
  have E2 : Els p (trL f A) := by rw [e2]; exact els_tf hp _ _ _
  have E3 : Els p (bkL f A) := by rw [e3]; exact els_bk hp _ _ _ _
  obtain ⟨q1, _, q3⟩ := trL_yes h E2 hL l2 hn
  obtain ⟨r1, r2, _⟩ := trL_yes h E3 hL l3 hn
  refine ⟨e1, q1, ?_, r1, ?_, l2, E2⟩
  · rw [q3, e2, bk_of h.fi.md rt rc (F := co A) (fun i hi => by rw [co_tf _ _ hi, Int.emod_emod_of_dvd _ (Int.dvd_refl p)]), ← hl]
    exact mk_self hp hA
  · rw [r2, e3, tf_bk h.fi.md rt rc, ← hl]
    exact mk_self hp hA
theorem fb_round {f p : Int} {wd : Bool} {LL : Nat} {gb : Int} (h : Lb f p wd LL gb) {A B : List Int} (hA : Els p A) (hB : Els p B) {L n : Nat} (hL : L ≤ 12) (hl : A.length = n) (hlb : B.length = n) (hn : n = 2 ^ L) :
    rdE f A B = 0 ∧ trE f (rdM f A B) = 0 ∧ (trL f (rdM f A B)).length = n ∧ (rdM f A B).length = n ∧ ∀ c, c < n → co (trL f (rdM f A B)) c = mul p (co (trL f A) c) (co (trL f B) c) := by
  have hp := h.fi.pos
  obtain ⟨rt, rc⟩ := rt_of h hL hn
  have e1 := rdE_yes h.fi hA hB hL (hl.trans hn) (hlb.trans hl.symm)
  have e2 : rdM f A B = rdL p n A B := by unfold rdM; rw [if_pos e1, pOf_eq h.fi, hl]
  have l2 : (rdM f A B).length = n := by rw [e2, rdL_len]
  have E2 : Els p (rdM f A B) := by rw [e2]; exact els_rdL hp _ _ _
  obtain ⟨q1, q2, _⟩ := trL_yes h E2 hL l2 hn
  obtain ⟨_, ta, _⟩ := trL_yes h hA hL hl hn
  obtain ⟨_, tb, _⟩ := trL_yes h hB hL hlb hn
  refine ⟨e1, q1, by rw [q2, tf_len], l2, fun c hc => ?_⟩
  rw [q2, ta, tb, co_tf _ _ hc, co_tf _ _ hc, co_tf _ _ hc, e2]
  unfold mul
  rw [← Int.mul_emod, ← ev_rd (rt_pow rt c) (fun j hj => co_out _ _ (by omega)) (fun j hj => co_out _ _ (by omega))]
  exact ev_low (fun i hi => by unfold rdL; rw [co_mk, if_pos hi, Int.emod_emod_of_dvd _ (Int.dvd_refl p)])

set_option maxRecDepth 100000 in
set_option maxHeartbeats 1000000 in
theorem fback_any (f : Int) (v1 v2 : Value) (xs ys : List Int) (w : World) (hf : 0 ≤ f ∧ f ≤ 255) (h1 : Rw w v1 xs) (h2 : Rw w v2 ys) (hT : Tb w) :
    Calls Tryd.prog 6 #[.int .u8 f, v1, v2] w fun e w' => e = .returned (.bool true) ∧ Below w.heap.size w w' := by
  obtain ⟨p, wd, LL, gb, hB⟩ := pick_lb f hf.1
  have hp0 := hB.fi.pos
  have hp1 := hB.fi.top
  have L1 := hide (flist_any f p wd v1 xs 9 w hf hB.fi (by decide) h1)
  have L2 := hide (fun W (hb : Below w.heap.size w W) => flist_any f p wd v2 ys 9 W hf hB.fi (by decide) (h2.below hb))
  have GT := hide (fun W v zs (r : Rw W v zs) (hb : Below w.heap.size w W) => fTransform_any (pick f) v zs W r (hT.below hb))
  have GB := hide (fun W v zs (r : Rw W v zs) (hb : Below w.heap.size w W) => fBack_any (pick f) v zs W r (hT.below hb))
  have GR := hide (fun W u v zs us (r : Rw W u zs) (s : Rw W v us) (hb : Below w.heap.size w W) => fRound_any (pick f) u v zs us W r s (hT.below hb))
  have ga := hide (fun W (hb : Below w.heap.size w W) => anch4 W (hT.below hb))
  have FF := hide (fun A (hA : Els p A) L n (hL : L ≤ 12) (hl : A.length = n) (hn : n = 2 ^ L) => fb_facts hB hA hL hl hn)
  have FR := hide (fun A B (hA : Els p A) (hb : Els p B) L n (hL : L ≤ 12) (hl : A.length = n) (hlb : B.length = n) (hn : n = 2 ^ L) => fb_round hB hA hb hL hl hlb hn)
  have hP := hide (fun W => rP_yes (pick f) p wd W hB.fi)
  have WT := hide (fun zs => trL_wd (pick f) zs)
  have WB := hide (fun zs => bkL_wd (pick f) zs)
  have WR := hide (fun zs us => rdM_wd (pick f) zs us)
  unfold Gives at GT GB GR
  obtain ⟨a1, c1, rfl, _⟩ := h1.spell
  obtain ⟨a2, c2, rfl, _⟩ := h2.spell
  clear h1 h2 hT hB
  generalize pick f = g at *
  go_enter Tryd.func6, Tryd.ntmps6
  go_wp2_with fail
  refine L1.out.mono ?_; rintro e w1 ⟨K1, b1, n, rfl, hK1, hn, o1, hs1, hb1⟩
  have HN := hide hn
  have hle : n ≤ 512 := by rw [hn]; exact Nat.pow_le_pow_right (n := 2) (by decide) hK1
  obtain ⟨A, HA⟩ : ∃ A, Hid (lsL p n xs = A) := ⟨_, rfl⟩
  have EA : Hid (Els p A) := by rw [← HA.out]; exact els_lsL hp0 n xs
  have LA : Hid (A.length = n) := by rw [← HA.out]; exact lsL_len p n xs
  rw [HA.out] at o1
  have RA := hide (rw_of_own o1 (by rw [LA.out]; omega) (els_words EA.out hp1))
  clear o1 hn HA
  go_wp2_with fail
  refine (L2.out _ hb1).mono ?_; rintro e w2 ⟨K2, b2, n2, rfl, hK2, hn2, o2, hs2, hb⟩
  have HN2 := hide hn2
  have hle2 : n2 ≤ 512 := by rw [hn2]; exact Nat.pow_le_pow_right (n := 2) (by decide) hK2
  obtain ⟨B, HB⟩ : ∃ B, Hid (lsL p n2 ys = B) := ⟨_, rfl⟩
  have EB : Hid (Els p B) := by rw [← HB.out]; exact els_lsL hp0 n2 ys
  have LB : Hid (B.length = n2) := by rw [← HB.out]; exact lsL_len p n2 ys
  rw [HB.out] at o2
  have RB := hide (rw_of_own o2 (by rw [LB.out]; omega) (els_words EB.out hp1))
  have RA := hide (RA.out.below hb)
  have hb2 := Below.next hb1 hb
  clear o2 hn2 HB hb hb1
  have F1 := hide (FF.out A EA.out K1 n (by omega) LA.out HN.out)
  have t1 := hide (GT.out _ _ _ RA.out hb2)
  rw [F1.out.1] at t1
  go_wp2_with fail
  refine t1.out.mono ?_; rintro e w3 ⟨u3, rfl, o3, hb⟩
  have RT := hide ((WT.out A).row o3)
  have RA := hide (RA.out.below hb)
  have RB := hide (RB.out.below hb)
  have hb3 := Below.next hb2 hb
  clear o3 hb hb2 t1
  have t2 := hide (GB.out _ _ _ RT.out hb3)
  rw [F1.out.2.1, F1.out.2.2.1] at t2
  go_wp2_with fail
  refine t2.out.mono ?_; rintro e w4 ⟨u4, rfl, o4, hb⟩
  have RU := hide (rw_of_own o4 (by rw [LA.out]; omega) (els_words EA.out hp1)).1
  have RT := hide (RT.out.below hb)
  have RA := hide (RA.out.below hb)
  have RB := hide (RB.out.below hb)
  have hb4 := Below.next hb3 hb
  clear o4 hb hb3 t2
  have t3 := hide (GB.out _ _ _ RA.out hb4)
  rw [F1.out.1] at t3
  go_wp2_with fail
  refine t3.out.mono ?_; rintro e w5 ⟨u5, rfl, o5, hb⟩
  have RV := hide ((WB.out A).row o5)
  have RU := hide (RU.out.below hb)
  have RT := hide (RT.out.below hb)
  have RA := hide (RA.out.below hb)
  have RB := hide (RB.out.below hb)
  have hb5 := Below.next hb4 hb
  clear o5 hb hb4 t3
  have t4 := hide (GT.out _ _ _ RV.out hb5)
  rw [F1.out.2.2.2.1, F1.out.2.2.2.2.1] at t4
  go_wp2_with fail
  refine t4.out.mono ?_; rintro e w6 ⟨u6, rfl, o6, hb⟩
  have RW := hide (rw_of_own o6 (by rw [LA.out]; omega) (els_words EA.out hp1)).1
  have RU := hide (RU.out.below hb)
  have RT := hide (RT.out.below hb)
  have RA := hide (RA.out.below hb)
  have RB := hide (RB.out.below hb)
  have hb6 := Below.next hb5 hb
  clear o6 hb hb5 t4 RV
  go_wp2_with fail
  refine (Same_yes u4 _ A _ RU.out RA.out.1).mono ?_; rintro e w7 ⟨rfl, hb⟩
  have RW := hide (RW.out.below hb)
  have RT := hide (RT.out.below hb)
  have RA := hide (RA.out.below hb)
  have RB := hide (RB.out.below hb)
  have hb7 := Below.next hb6 hb
  clear hb hb6 RU
  go_wp2_with fail
  refine (Same_yes u6 _ A _ RW.out RA.out.1).mono ?_; rintro e w8 ⟨rfl, hb⟩
  have RT := hide (RT.out.below hb)
  have RA := hide (RA.out.below hb)
  have RB := hide (RB.out.below hb)
  have hb8 := Below.next hb7 hb
  clear hb hb7 RW
  by_cases hnn : n2 = n
  · have LB2 : Hid (B.length = n) := by show _ = _; rw [LB.out, hnn]
    have F2 := hide (FF.out B EB.out K1 n (by omega) LB2.out HN.out)
    have F3 := hide (FR.out A B EA.out EB.out K1 n (by omega) LA.out LB2.out HN.out)
    have t5 := hide (GT.out _ _ _ RB.out hb8)
    rw [F2.out.1] at t5
    subst hnn
    go_wp2_with fail
    refine t5.out.mono ?_; rintro e w9 ⟨u9, rfl, o9, hb⟩
    have RS := hide ((WT.out B).row o9)
    have RT := hide (RT.out.below hb)
    have RA := hide (RA.out.below hb)
    have RB := hide (RB.out.below hb)
    have hb9 := Below.next hb8 hb
    clear o9 hb hb8 t5
    have t6 := hide (GR.out _ _ _ _ _ RA.out RB.out hb9)
    rw [F3.out.1] at t6
    go_wp2_with fail
    refine t6.out.mono ?_; rintro e w10 ⟨u10, rfl, o10, hb⟩
    have RR := hide ((WR.out A B).row o10)
    have RS := hide (RS.out.below hb)
    have RT := hide (RT.out.below hb)
    have hb10 := Below.next hb9 hb
    clear o10 hb hb9 t6 RA RB
    have t7 := hide (GT.out _ _ _ RR.out hb10)
    rw [F3.out.2.1] at t7
    go_wp2_with fail
    refine t7.out.mono ?_; rintro e w11 ⟨u11, rfl, o11, hb⟩
    have RX := hide ((WT.out _).row o11)
    have RS := hide (RS.out.below hb)
    have RT := hide (RT.out.below hb)
    have hb11 := Below.next hb10 hb
    clear o11 hb hb10 t7 RR
    have lT := F1.out.2.2.2.2.2.1
    have lS := F2.out.2.2.2.2.2.1
    have lX := F3.out.2.2.1
    have HX := hide F3.out.2.2.2.2
    have ET := hide F1.out.2.2.2.2.2.2
    have ES := hide F2.out.2.2.2.2.2.2
    obtain ⟨⟨at', ct, hvt, _, _, hct⟩, _⟩ := RT.out
    obtain ⟨⟨as', cs, hvs, _, _, hcs⟩, _⟩ := RS.out
    obtain ⟨⟨ax', cx, hvx, _, _, hcx⟩, _⟩ := RX.out
    subst hvt hvs hvx
    rw [lT] at hct ⊢
    rw [lS] at hcs ⊢
    rw [lX] at hcx ⊢
    have hn1 : 1 ≤ n2 := by rw [HN.out]; exact Nat.pow_pos (by decide)
    clear RT RS RX F1 F2 F3 FF FR
    go_wp2_with fail
    go_loopw [25] (fun vk wr => ∃ k : Nat, k ≤ n2 ∧ vk = .int .i64 k ∧ Below w11.heap.size w11 wr) (fun vk _ => n2 - (intOf vk).toNat)
    case atStart => exact ⟨0, Nat.zero_le _, rfl, Below.refl _ _⟩
    case round =>
      obtain ⟨k, hk, rfl, hB⟩ := hrel
      by_cases hlt : k < n2
      · obtain ⟨bt, ot, rfl, lt', gt⟩ := hct (by intro h; rw [h] at lT; simp at lT; omega)
        obtain ⟨bs, os, rfl, ls', gs⟩ := hcs (by intro h; rw [h] at lS; simp at lS; omega)
        obtain ⟨bx, ox, rfl, lx', gx⟩ := hcx (by intro h; rw [h] at lX; simp at lX; omega)
        have d1 := (hB.cell (p := ⟨bt, ot + k, none⟩) lt').trans (gt k hlt)
        have d2 := (hB.cell (p := ⟨bs, os + k, none⟩) ls').trans (gs k hlt)
        have d3 := (hB.cell (p := ⟨bx, ox + k, none⟩) lx').trans (gx k hlt)
        have et := ET.out.co hp0 k
        have es := ES.out.co hp0 k
        have ex : (trL g (rdM g A B)).getD k 0 = mul p (co (trL g A) k) (co (trL g B) k) := HX.out k hlt
        have ett : (trL g A).getD k 0 = co (trL g A) k := rfl
        have ess : (trL g B).getD k 0 = co (trL g B) k := rfl
        rw [ett] at d1
        rw [ess] at d2
        rw [ex] at d3
        have htm := hide (fun W => rTimes_any p (co (trL g A) k) (co (trL g B) k) W hp1 et es.1 (elWord es hp1).2)
        have k0 : (0 : Int) ≤ (k : Int) := Int.natCast_nonneg _
        have k1 : (k : Int) < (n2 : Int) := by omega
        clear gt gs gx hct hcs hcx et es ex ett ess
        generalize mul p (co (trL g A) k) (co (trL g B) k) = q at *
        generalize co (trL g A) k = x at *
        generalize co (trL g B) k = y at *
        go_wp2_with fail
        go_quiet (first
          | (go_at_call 24; exact Calls.quiet_of_same (hP.out _))
          | (go_at_call 23; exact Calls.quiet_of_same (htm.out _)))
        have hB2 := below_drewN hB nq
        clear hB
        go_wp2
        go_roundw
        case rel => exact ⟨k + 1, by omega, by go_num, hB2⟩
        case measure => simp [intOf]; omega
      · obtain rfl : k = n2 := by omega
        clear hct hcs hcx
        have hb12 := Below.next hb11 hB
        go_wp2_with fail
        refine (ga.out _ hb12).mono ?_; rintro e w13 ⟨rfl, hb⟩
        have hb13 := Below.next hb12 hb
        go_wp2
        go_ret
        exact ⟨rfl, hb13⟩
  · have hne : ((n : Int) != (n2 : Int)) = true := bne_iff_ne.2 (by omega)
    go_wp2_with fail
    refine (ga.out _ hb8).mono ?_; rintro e w9 ⟨rfl, hb⟩
    have hb9 := Below.next hb8 hb
    go_wp2
    go_ret
    exact ⟨rfl, hb9⟩

end Go.Proofs.YtcjgjgkoeokooaaDoor
