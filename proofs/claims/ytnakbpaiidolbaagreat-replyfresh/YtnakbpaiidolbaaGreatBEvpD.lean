import Derived.Test.YtnakbpaiidolbaaGreatBEvlC
import Derived.Test.YtnakbpaiidolbaaGreatBEvpC
import Derived.Test.YtnakbpaiidolbaaGreatBunYQ
namespace Go.Proofs.YtnakbpaiidolbaaGreat
open Go.RowKit Fld Slp
set_option linter.unusedVariables false
set_option linter.unusedSimpArgs false
theorem mk_map (us : List Int) (ys : List Int) : mk us.length (fun j => ys.getD (us.getD j 0).toNat 0) = us.map (fun v => ys.getD v.toNat 0) := by
 refine ext_co (by rw [mk_len]; simp) (fun i hi => ?_)
 rw [mk_len] at hi
 rw [co_mk, if_pos hi]
 unfold co
 rw [List.getD_eq_getElem?_getD, List.getD_eq_getElem?_getD, List.getD_eq_getElem?_getD, List.getElem?_map, List.getElem?_eq_getElem hi]
 simp
set_option maxRecDepth 100000 in
set_option maxHeartbeats 400000 in
theorem eComing (q : Pr) (vp va : Value) (ys : List Int) (w : World) (hp : Pm w vp q) (hm : mayB q = true) (hr : Rw w va ys) (hl : ys.length = q.inp.toNat + q.ops.length) :
 Calls Tryz.prog 51 #[vp, va] w fun e w' => ∃ v', e = .returned v' ∧ w'.ownsRow w.heap.size 58 1 v' q.outs.length (vals (q.outs.map (fun v => ys.getD v.toNat 0))) ∧ Below w.heap.size w w' := by
 obtain ⟨⟨j0, j1, l1, l2⟩, mo, mu⟩ := mayB_iff.1 hm
 have HOu : Hid (∀ j (hj : j < q.outs.length), 0 ≤ q.outs[j] ∧ q.outs[j].toNat < ys.length) := fun j hj => by
  have := may_out hm q.outs[j] (List.getElem_mem hj); rw [hl]; exact this
 have HMk := hide (mk_map q.outs ys)
 obtain ⟨vo, vu, rfl, ho, hu⟩ := hp.form
 obtain ⟨ao, co', rfl, _⟩ := ho.spell
 obtain ⟨au, cu, rfl, _⟩ := hu.spell
 obtain ⟨⟨ai, ci, hvi, hl2, hw, hc⟩, _⟩ := hr
 subst hvi
 have HU := hide hu
 have HC := hide hc
 clear ho hu hp hm mo mu hl j0 j1 hc
 generalize hF : (fun j : Nat => ys.getD (q.outs.getD j 0).toNat 0) = F at *
 have HF := hide hF
 clear hF
 rw [← HMk.out]
 clear HMk
 have hmk := fun W => makeU1 q.outs.length (by omega) W
 go_enter Tryz.func51, Tryz.ntmps51
 go_upto_region 2 with fail
 obtain ⟨n1, n2, hB0⟩ := alloc2 w (.cells #[.int .i64 q.inp, .slice ao q.ops.length co', .slice au q.outs.length cu] 28) (.cells (vals (List.replicate q.outs.length 0)).toArray 58)
 generalize ((w.alloc (.cells #[.int .i64 q.inp, .slice ao q.ops.length co', .slice au q.outs.length cu] 28)).alloc (.cells (vals (List.replicate q.outs.length 0)).toArray 58)) = W0 at *
 clear hmk
 obtain ⟨p0, p1, p2⟩ := cell3 n1
 have hO := own_of_block (base := w.heap.size + 1) (n := q.outs.length) (Nat.le_refl _) n2 (by simp) (by omega)
 clear n2
 go_wp2
 go_loopw [15] (fun vi wr => ∃ (k : Nat) (zs : List Int), k ≤ q.outs.length ∧ vi = .int .i64 k ∧ zs.length = q.outs.length ∧ Ow wr (w.heap.size + 1) q.outs.length zs ∧ Hid (∀ j, j < k → co zs j = F j) ∧ Below w.heap.size w wr) (fun vi _ => q.outs.length - (intOf vi).toNat)
 case atStart => exact ⟨0, _, Nat.zero_le _, rfl, by simp, hO, fun j hj => by omega, hB0⟩
 case round =>
  obtain ⟨k, zs, hk, rfl, hzl, hOw, HY, hB⟩ := hrel
  by_cases hlt : k < q.outs.length
  · obtain ⟨b, off, cp, heq, _, hbl⟩ := HU.out.form (by omega)
    cases heq
    have hcu := HU.out.int hB hlt
    obtain ⟨ho0, ho1⟩ := HOu.out k hlt
    obtain ⟨b2, off2, rfl, hbl2, hcell⟩ := HC.out (by intro h0; rw [h0] at ho1; simp at ho1)
    have HS : Hid (F k = ys.getD q.outs[k].toNat 0) := by
     show _ = _
     rw [← HF.out]
     show ys.getD (q.outs.getD k 0).toNat 0 = _
     rw [List.getD_eq_getElem?_getD (l := q.outs), List.getElem?_eq_getElem hlt]; rfl
    have hca := (hB.cell (p := ⟨b2, off2 + q.outs[k].toNat, none⟩) hbl2).trans (hcell _ ho1)
    have HT2 := hide (fill_step HY.out (by omega) HS.out)
    generalize q.outs[k] = o at *
    obtain ⟨i, rfl⟩ : ∃ i : Nat, o = i := ⟨o.toNat, by omega⟩
    simp only [Int.toNat_natCast] at *
    generalize ys.getD i 0 = y at *
    have k0 : (0 : Int) ≤ (k : Int) := by omega
    have k1 : (k : Int) < (q.outs.length : Int) := by omega
    have i1 : (i : Int) < (ys.length : Int) := by omega
    have hoc := hOw.cell k hlt
    have hfr := hOw.free k
    clear hcell HS ho1
    go_wp2
    have R1 := hOw.set k y
    have R3 := hB.setCell (p := ⟨w.heap.size + 1, k, none⟩) (Nat.le_succ _) (.int .u64 y)
    go_roundw
    case rel => exact ⟨k + 1, _, by omega, by go_num, by simpa using hzl, R1, HT2, R3⟩
    case measure => simp [intOf]; omega
  · obtain rfl : k = q.outs.length := by omega
    have HV : Hid (zs = mk q.outs.length F) := fill_end HY.out hzl
    go_wp2
    go_ret
    rw [HV.out] at hOw
    exact ⟨_, rfl, own_mono hOw (Nat.le_succ _), hB⟩
set_option maxHeartbeats 200000 in
theorem eGround (f : Int) (q : Pr) (vp : Value) (w : World) (hp : Pm w vp q) : Calls Tryz.prog 60 #[.int .u8 f, vp] w fun e w' => e = .returned (.bool (mayB q && inF f [])) ∧ Below w.heap.size w w' := by
 have HM := hide (fun W (hb : Below w.heap.size w W) => sMay vp q W (hp.below hb))
 have HI := hide (fun W => In_any f (.slice none 0 0) [] W (row0 W))
 obtain ⟨vo, vu, rfl, ho, hu⟩ := hp.form
 obtain ⟨ao, co', rfl, _⟩ := ho.spell
 obtain ⟨au, cu, rfl, _⟩ := hu.spell
 have hA := alloc_below w (.cells #[.int .i64 q.inp, .slice ao q.ops.length co', .slice au q.outs.length cu] 28)
 clear ho hu hp
 cases hm : mayB q with
 | false =>
  rw [hm] at HM
  clear hm
  go_enter Tryz.func60, Tryz.ntmps60
  go_wp2_with (go_at_call 88; refine (HM.out _ hA).mono ?_; rintro e w1 ⟨rfl, hb1⟩)
  go_ret
  exact ⟨rfl, Below.next hA hb1⟩
 | true =>
  rw [hm] at HM
  clear hm
  generalize inF f [] = r at *
  go_enter Tryz.func60, Tryz.ntmps60
  go_wp2_with (first
   | (go_at_call 88; refine (HM.out _ hA).mono ?_; rintro e w1 ⟨rfl, hb1⟩)
   | (go_at_call 90; refine (HI.out _).mono ?_; rintro e w2 ⟨rfl, hb2⟩))
  go_ret
  exact ⟨by simp, Below.next (Below.next hA hb1) hb2⟩
set_option maxHeartbeats 200000 in
theorem eCheckRow (f : Int) (q : Pr) (vp vi : Value) (xs : List Int) (w : World) (hp : Pm w vp q) (hr : Rw w vi xs) : Calls Tryz.prog 82 #[.int .u8 f, vp, vi] w fun e w' => e = .returned (.int .i64 (rwE f q xs)) ∧ Below w.heap.size w w' := by
 have HI := hide (fun W (hb : Below w.heap.size w W) => In_any f vi xs W (hr.below hb).1)
 obtain ⟨vo, vu, rfl, ho, hu⟩ := hp.form
 obtain ⟨ao, co', rfl, _⟩ := ho.spell
 obtain ⟨au, cu, rfl, _⟩ := hu.spell
 obtain ⟨ai, ci, rfl, hci⟩ := hr.spell
 have hA := alloc_below w (.cells #[.int .i64 q.inp, .slice ao q.ops.length co', .slice au q.outs.length cu] 28)
 have hN := heap_alloc_new w (.cells #[.int .i64 q.inp, .slice ao q.ops.length co', .slice au q.outs.length cu] 28)
 have hinb := hp.inb
 clear ho hu hp hr
 unfold rwE
 cases hi : inF f xs with
 | false =>
  rw [hi] at HI
  go_enter Tryz.func82, Tryz.ntmps82
  go_wp2_with (go_at_call 90; refine (HI.out _ hA).mono ?_; rintro e w1 ⟨rfl, hb1⟩)
  go_ret
  exact ⟨by simp, Below.next hA hb1⟩
 | true =>
  rw [hi] at HI
  by_cases he : (xs.length : Int) = q.inp
  · have ht : ((xs.length : Int) != q.inp) = false := by simp [he]
    have HE := hide he
    clear he
    go_enter Tryz.func82, Tryz.ntmps82
    go_wp2_with (go_at_call 90; refine (HI.out _ hA).mono ?_; rintro e w1 ⟨rfl, hb1⟩; obtain ⟨p0, p1, p2⟩ := cell3 ((hb1.block _ (Array.getElem?_eq_some_iff.1 hN).1).trans hN))
    go_ret
    exact ⟨rfl, Below.next hA hb1⟩
  · have ht : ((xs.length : Int) != q.inp) = true := by simp [he]
    have HE := hide he
    clear he
    go_enter Tryz.func82, Tryz.ntmps82
    go_wp2_with (go_at_call 90; refine (HI.out _ hA).mono ?_; rintro e w1 ⟨rfl, hb1⟩; obtain ⟨p0, p1, p2⟩ := cell3 ((hb1.block _ (Array.getElem?_eq_some_iff.1 hN).1).trans hN))
    go_ret
    exact ⟨rfl, Below.next hA hb1⟩
set_option maxHeartbeats 400000 in
theorem eSteps (f : Int) (q : Pr) (vp vi : Value) (xs : List Int) (w : World) (hp : Pm w vp q) (hr : Rw w vi xs) : Gives 50 #[.int .u8 f, vp, vi] w (stL f q xs) (evE f q xs) := by
 have HG := hide (fun W (hb : Below w.heap.size w W) => eGround f q vp W (hp.below hb))
 have HC := hide (fun W (hb : Below w.heap.size w W) => eCheckRow f q vp vi xs W (hp.below hb) (hr.below hb))
 have HV : Hid (mayB q = true → rwE f q xs = 0 → ∀ W (hb : Below w.heap.size w W), Calls Tryz.prog 83 #[elI f, vp, vi] W fun e w' => ∃ v', e = .returned v' ∧ w'.ownsRow W.heap.size 58 1 v' (rns (Rf f) q xs).length (vals (rns (Rf f) q xs)) ∧ Below W.heap.size W w') := fun hm he W hb => by
  obtain ⟨h1, h2⟩ := rwE_zero he
  obtain ⟨p, wd, hf, hi⟩ := inF_fi h1
  exact eValues f p wd q vp vi xs W hf (hp.below hb) hm (hr.below hb) (els_of hi hr.words) (by omega)
 obtain ⟨vo, vu, rfl, ho, hu⟩ := hp.form
 obtain ⟨ao, co', rfl, _⟩ := ho.spell
 obtain ⟨au, cu, rfl, _⟩ := hu.spell
 obtain ⟨ai, ci, rfl, hci⟩ := hr.spell
 have hA := alloc_below w (.cells #[.int .i64 q.inp, .slice ao q.ops.length co', .slice au q.outs.length cu] 28)
 have hN := heap_alloc_new w (.cells #[.int .i64 q.inp, .slice ao q.ops.length co', .slice au q.outs.length cu] 28)
 clear ho hu hp hr
 cases hg : (mayB q && inF f []) with
 | false =>
  have e1 : evE f q xs = 2 := evE_nof xs hg
  have e2 : stL f q xs = [] := by unfold stL; rw [e1]; rfl
  rw [e1, e2]
  rw [hg] at HG
  clear hg e1 e2
  apply Gives.none
  go_enter Tryz.func50, Tryz.ntmps50
  go_wp2_with (go_at_call 60; refine (HG.out _ hA).mono ?_; rintro e w1 ⟨rfl, hb1⟩)
  go_ret2
  exact ⟨rfl, Below.next hA hb1⟩
 | true =>
  obtain ⟨hm, e1⟩ := evE_yes xs hg
  rw [hg] at HG
  rw [e1]
  by_cases he : rwE f q xs = 0
  · have e2 : stL f q xs = rns (Rf f) q xs := by unfold stL; rw [e1, if_pos he]
    have HV2 := hide (HV.out hm he)
    rw [e2]
    rw [he] at HC ⊢
    clear e2 e1 hm hg HV he
    generalize rns (Rf f) q xs = zs at *
    unfold elI elv at HV2
    show Calls _ _ _ _ _
    go_enter Tryz.func50, Tryz.ntmps50
    go_wp2_with (first
     | (go_at_call 60; refine (HG.out _ hA).mono ?_; rintro e w1 ⟨rfl, hb1⟩; have hB1 := Below.next hA hb1; have n1 := (hb1.block _ (Array.getElem?_eq_some_iff.1 hN).1).trans hN; obtain ⟨p0, p1, p2⟩ := cell3 n1)
     | (go_at_call 82; refine (HC.out _ hB1).mono ?_; rintro e w2 ⟨rfl, hb2⟩; have hB2 := Below.next hB1 hb2; have n2 := (hb2.block _ (Array.getElem?_eq_some_iff.1 n1).1).trans n1; clear p0 p1 p2; obtain ⟨p0, p1, p2⟩ := cell3 n2)
     | (go_at_call 83; refine (HV2.out _ hB2).mono ?_; rintro e w3 ⟨v3, rfl, ho3, hb3⟩; have hB3 := Below.next hB2 hb3))
    go_ret2
    exact ⟨_, rfl, own_mono ho3 hB2.size, hB3⟩
  · have e2 : stL f q xs = [] := by unfold stL; rw [e1, if_neg he]
    rw [e2]
    have ht : (rwE f q xs != 0) = true := bne_iff_ne.2 he
    clear e2 e1 hm hg HV he
    generalize rwE f q xs = r at *
    apply Gives.none
    go_enter Tryz.func50, Tryz.ntmps50
    go_wp2_with (first
     | (go_at_call 60; refine (HG.out _ hA).mono ?_; rintro e w1 ⟨rfl, hb1⟩; have hB1 := Below.next hA hb1; have n1 := (hb1.block _ (Array.getElem?_eq_some_iff.1 hN).1).trans hN; obtain ⟨p0, p1, p2⟩ := cell3 n1)
     | (go_at_call 82; refine (HC.out _ hB1).mono ?_; rintro e w2 ⟨rfl, hb2⟩; have hB2 := Below.next hB1 hb2))
    go_ret2
    exact ⟨rfl, hB2⟩
set_option maxHeartbeats 400000 in
theorem eRun (f : Int) (q : Pr) (vp vi : Value) (xs : List Int) (w : World) (hp : Pm w vp q) (hr : Rw w vi xs) : Gives 27 #[.int .u8 f, vp, vi] w (ruL f q xs) (evE f q xs) := by
 have HS := hide (fun W (hb : Below w.heap.size w W) => eSteps f q vp vi xs W (hp.below hb) (hr.below hb))
 unfold Gives at HS
 have HC : Hid (evE f q xs = 0 → ∀ W B v' (hb : Below w.heap.size w W) (ho : W.ownsRow B 58 1 v' (rns (Rf f) q xs).length (vals (rns (Rf f) q xs))), Calls Tryz.prog 51 #[vp, v'] W fun e w' => ∃ v', e = .returned v' ∧ w'.ownsRow W.heap.size 58 1 v' (rnO (Rf f) q xs).length (vals (rnO (Rf f) q xs)) ∧ Below W.heap.size W w') := fun he W B v' hb ho => by
  obtain ⟨hm, h1, h2⟩ := evE_zero he
  obtain ⟨p, wd, hf, hi⟩ := inF_fi h1
  have hx := els_of hi hr.words
  obtain ⟨⟨j0, j1, l1, l2⟩, _, _⟩ := mayB_iff.1 hm
  have hl : (rns (Rf f) q xs).length = q.inp.toNat + q.ops.length := by unfold rns; rw [rnL_len]; omega
  rw [rnO_len]
  exact eComing q vp v' _ W (hp.below hb) hm (rw_of_own ho (by omega) (els_words (el_all hf q.ops xs hx) hf.top)) hl
 obtain ⟨vo, vu, rfl, ho, hu⟩ := hp.form
 obtain ⟨ao, co', rfl, _⟩ := ho.spell
 obtain ⟨au, cu, rfl, _⟩ := hu.spell
 obtain ⟨ai, ci, rfl, hci⟩ := hr.spell
 have hA := alloc_below w (.cells #[.int .i64 q.inp, .slice ao q.ops.length co', .slice au q.outs.length cu] 28)
 have hN := heap_alloc_new w (.cells #[.int .i64 q.inp, .slice ao q.ops.length co', .slice au q.outs.length cu] 28)
 clear ho hu hp hr
 by_cases he : evE f q xs = 0
 · have e1 : ruL f q xs = rnO (Rf f) q xs := by unfold ruL; rw [if_pos he]
   have e2 : stL f q xs = rns (Rf f) q xs := by unfold stL; rw [if_pos he]
   have HC2 := hide (HC.out he)
   rw [e1, he]
   rw [he, e2] at HS
   clear e1 e2 he HC
   generalize rnO (Rf f) q xs = zs at *
   generalize rns (Rf f) q xs = ys at *
   show Calls _ _ _ _ _
   go_enter Tryz.func27, Tryz.ntmps27
   go_wp2_with (first
    | (go_at_call 50; refine (HS.out _ hA).mono ?_; rintro e w1 ⟨v1, rfl, ho1, hb1⟩; have hB1 := Below.next hA hb1; have n1 := (hb1.block _ (Array.getElem?_eq_some_iff.1 hN).1).trans hN; obtain ⟨p0, p1, p2⟩ := cell3 n1)
    | (go_at_call 51; refine (HC2.out _ _ _ hB1 ho1).mono ?_; rintro e w2 ⟨v2, rfl, ho2, hb2⟩))
   go_ret2
   exact ⟨_, rfl, own_mono ho2 hB1.size, Below.next hB1 hb2⟩
 · have e1 : ruL f q xs = [] := by unfold ruL; rw [if_neg he]
   rw [e1]
   have ht : (evE f q xs != 0) = true := bne_iff_ne.2 he
   clear e1 he HC
   generalize evE f q xs = r at *
   apply Gives.none
   go_enter Tryz.func27, Tryz.ntmps27
   go_wp2_with (go_at_call 50; refine (HS.out _ hA).mono ?_; rintro e w1 ⟨v1, rfl, ho1, hb1⟩)
   go_ret2
   exact ⟨rfl, Below.next hA hb1⟩
end Go.Proofs.YtnakbpaiidolbaaGreat
