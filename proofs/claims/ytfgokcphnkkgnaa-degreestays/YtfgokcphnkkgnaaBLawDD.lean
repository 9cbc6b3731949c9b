/-
  The statements of layer 10: DegreeStays walked.
-/
import Derived.Test.YtfgokcphnkkgnaaBLawDA
import Derived.Test.YtfgokcphnkkgnaaBLawDB
namespace Go.Proofs.Ytfgokcphnkkgnaa
open Go.RowKit Fld Slp
set_option linter.unusedVariables false
set_option linter.unusedSimpArgs false

theorem tr_of {p : Pr} (hm : mayB p = true) : ofE (trP p) = ofE p ∧ ofV (trP p) = ofV p := by
  have e1 : cpO (trP p) = cpO p := by rw [cpO_cap, cpO_cap, tr_out hm]
  have e2 : ofE (trP p) = ofE p := by unfold ofE; rw [e1, tr_may hm, hm]
  refine ⟨e2, ?_⟩
  unfold ofV
  rw [e1, e2]
theorem tr_us {p : Pr} (hm : mayB p = true) : usL (trP p) = usL p := by
  unfold usL
  rw [if_pos hm, if_pos (tr_may hm)]
  have hin : (trP p).inp = p.inp := rfl
  rw [hin]
  unfold usJ
  congr 1
  apply List.filter_congr
  intro j hj
  exact tr_inp hm (List.mem_range.1 hj)

set_option maxRecDepth 100000 in
set_option maxHeartbeats 1000000 in
theorem degStays_no (w : World) (vp : Value) (p : Pr) (hp : Pm w vp p) (hm : mayB p = false) : Calls Try.prog 6 #[vp] w fun e w' => e = .returned (.bool true) ∧ Below w.heap.size w w' := by
  have HP := hide hp
  obtain ⟨vo, vu, rfl, ho, hu⟩ := hp.form
  obtain ⟨ao, co, rfl, _⟩ := ho.spell
  obtain ⟨au, cu, rfl, _⟩ := hu.spell
  clear hp ho hu
  have hA := alloc_below w (.cells #[.int .i64 p.inp, .slice ao p.ops.length co, .slice au p.outs.length cu] 25)
  have hN := heap_alloc_new w (.cells #[.int .i64 p.inp, .slice ao p.ops.length co, .slice au p.outs.length cu] 25)
  have HC := hide (fun W' (hb : Below w.heap.size w W') => gTrim _ p W' (HP.out.below hb))
  have HM := hide (fun W' (hb : Below w.heap.size w W') => dMay _ p W' (HP.out.below hb))
  have HX := hide (fun W' => anch10 W')
  unfold IsTrim at HC
  unfold Anch10 at HX
  have e1 : trE p = 2 := by unfold trE; rw [hm]; rfl
  rw [e1] at HC
  rw [hm] at HM
  clear e1 hm
  generalize trR p = r at *
  go_enter Try.func6, Try.ntmps6
  go_wp2_with (first
    | (go_at_call 15; refine (HC.out _ hA).mono ?_; rintro e w1 ⟨v1, u1, rfl, ho1, hu1, hb1⟩; obtain ⟨eo, fo, rfl⟩ := own_slice ho1; obtain ⟨eu, fu, rfl⟩ := own_slice hu1; have hB1 := Below.next hA hb1; have hA1 := alloc_below w1 (.cells #[.int .i64 r.inp, .slice eo r.ops.length fo, .slice eu r.outs.length fu] 25); have hB2 := Below.next hB1 hA1; obtain ⟨p0, p1, p2⟩ := cell3 ((hA1.block _ (Nat.lt_of_lt_of_le (Array.getElem?_eq_some_iff.1 hN).1 hb1.size)).trans ((hb1.block _ (Array.getElem?_eq_some_iff.1 hN).1).trans hN)); clear ho1 hu1)
    | (go_at_call 19; refine (HM.out _ hB2).mono ?_; rintro e w3 ⟨rfl, hb3⟩; have hB3 := Below.next hB2 hb3)
    | (go_at_call 12; refine (HX.out _).mono ?_; rintro e w6 ⟨rfl, hb6⟩; have hB6 := Below.next hB3 hb6))
  go_ret
  exact ⟨rfl, hB6⟩

set_option maxRecDepth 100000 in
set_option maxHeartbeats 1000000 in
theorem degStays_yes (w : World) (vp : Value) (p : Pr) (hp : Pm w vp p) (hm : mayB p = true) : Calls Try.prog 6 #[vp] w fun e w' => e = .returned (.bool true) ∧ Below w.heap.size w w' := by
  have HP := hide hp
  obtain ⟨vo, vu, rfl, ho, hu⟩ := hp.form
  obtain ⟨ao, co, rfl, _⟩ := ho.spell
  obtain ⟨au, cu, rfl, _⟩ := hu.spell
  clear hp ho hu
  have hA := alloc_below w (.cells #[.int .i64 p.inp, .slice ao p.ops.length co, .slice au p.outs.length cu] 25)
  have hN := heap_alloc_new w (.cells #[.int .i64 p.inp, .slice ao p.ops.length co, .slice au p.outs.length cu] 25)
  have HC := hide (fun W' (hb : Below w.heap.size w W') => gTrim _ p W' (HP.out.below hb))
  have HM := hide (fun W' (hb : Below w.heap.size w W') => dMay _ p W' (HP.out.below hb))
  have HF := hide (fun W' (hb : Below w.heap.size w W') => gOf _ p W' (HP.out.below hb))
  have HU := hide (fun W' (hb : Below w.heap.size w W') => gUses _ p W' (HP.out.below hb))
  have HX := hide (fun W' => anch10 W')
  have HPm := hide (fun w' B vo vu ho hu => tr_pm (w' := w') (vo := vo) (vu := vu) (B := B) HP.out ho hu)
  have e1 : trE p = 0 := by unfold trE; rw [if_pos hm]
  have e2 : trR p = trP p := by unfold trR; rw [if_pos hm]
  have hq := tr_may hm
  have e3 : trE (trP p) = 0 := by unfold trE; rw [if_pos hq]
  have e4 : trR (trP p) = trP p := by unfold trR; rw [if_pos hq]; exact tr_twice hm
  have e5 := tr_of hm
  have e6 := tr_us hm
  have e7 : usE p = 0 := by unfold usE; rw [if_pos hm]
  have e8 : usE (trP p) = 0 := by unfold usE; rw [if_pos hq]
  have HC2 := hide (fun W' v (h : Pm W' v (trP p)) => gTrim v (trP p) W' h)
  have HM2 := hide (fun W' v (h : Pm W' v (trP p)) => dMay v (trP p) W' h)
  have HF2 := hide (fun W' v (h : Pm W' v (trP p)) => gOf v (trP p) W' h)
  have HU2 := hide (fun W' v (h : Pm W' v (trP p)) => gUses v (trP p) W' h)
  have HPm2 := hide (fun w0 v (h : Pm w0 v (trP p)) w' B vo vu ho hu => tr_pm (w' := w') (vo := vo) (vu := vu) (B := B) h ho hu)
  have HS := hide (fun W' v1 v2 (h1 : Pm W' v1 (trP p)) (h2 : Pm W' v2 (trP p)) => dSame v1 v2 _ _ W' h1 h2)
  unfold IsTrim at HC HC2
  unfold IsOf at HF HF2
  unfold GivesI at HU HU2
  unfold Anch10 at HX
  unfold IsSame at HS
  rw [e1, e2] at HC
  rw [e2] at HPm
  rw [e3, e4] at HC2
  rw [e4] at HPm2
  rw [e5.1, e5.2] at HF2
  rw [e6, e8] at HU2
  rw [e7] at HU
  rw [hm] at HM
  rw [hq] at HM2
  have HLn := hide (usL_len p)
  have HLe : Hid (((trP p).ops.length : Int) ≤ (p.ops.length : Int)) := by
    show _ ≤ _
    have := (trS_len p p.ops.length).2
    show (((trS p p.ops.length).2.length : Nat) : Int) ≤ _
    omega
  clear e1 e2 e3 e4 e5 e6 e7 e8 hm hq
  generalize trP p = r at *
  generalize usL p = l at *
  generalize ofV p = d at *
  generalize ofE p = g at *
  have hle := HLe.out
  go_enter Try.func6, Try.ntmps6
  go_wp2_with (first
    | (go_at_call 15; with_reducible refine Calls.mono (HC2.out _ _ HQ3.out) ?_; rintro e w4 ⟨v4, u4, rfl, ho4, hu4, hb4⟩; have HP4 := hide (HPm2.out _ _ HQ3.out _ _ _ _ ho4 hu4); obtain ⟨go, io, rfl⟩ := own_slice ho4; obtain ⟨gu, iu, rfl⟩ := own_slice hu4; have hB4 := Below.next hB3 hb4; have hA4 := alloc_below w4 (.cells #[.int .i64 r.inp, .slice go r.ops.length io, .slice gu r.outs.length iu] 25); have s4 := heap_alloc_new w4 (.cells #[.int .i64 r.inp, .slice go r.ops.length io, .slice gu r.outs.length iu] 25); have hB5 := Below.next hB4 hA4; have hb35 := Below.next hb4 hA4; have n5 := (hb35.block _ (Array.getElem?_eq_some_iff.1 n3).1).trans n3; have k5 := (hb35.block _ (Array.getElem?_eq_some_iff.1 k3).1).trans k3; clear p0 p1 p2 y0 y1 y2; obtain ⟨p0, p1, p2⟩ := cell3 n5; have HQ5 := hide (HQ3.out.below hb35); have HR5 := hide (HP4.out.below hA4); clear ho4 hu4)
    | (go_at_call 15; with_reducible refine Calls.mono (HC.out _ hA) ?_; rintro e w1 ⟨v1, u1, rfl, ho1, hu1, hb1⟩; have HP1 := hide (HPm.out _ _ _ _ ho1 hu1); obtain ⟨eo, fo, rfl⟩ := own_slice ho1; obtain ⟨eu, fu, rfl⟩ := own_slice hu1; have hB1 := Below.next hA hb1; have hA1 := alloc_below w1 (.cells #[.int .i64 r.inp, .slice eo r.ops.length fo, .slice eu r.outs.length fu] 25); have k2 := heap_alloc_new w1 (.cells #[.int .i64 r.inp, .slice eo r.ops.length fo, .slice eu r.outs.length fu] 25); have hB2 := Below.next hB1 hA1; have n2 := (hA1.block _ (Nat.lt_of_lt_of_le (Array.getElem?_eq_some_iff.1 hN).1 hb1.size)).trans ((hb1.block _ (Array.getElem?_eq_some_iff.1 hN).1).trans hN); obtain ⟨p0, p1, p2⟩ := cell3 n2; clear ho1 hu1)
    | (go_at_call 19; with_reducible refine Calls.mono (HM2.out _ _ HQ10.out) ?_; rintro e w11 ⟨rfl, hb11⟩; have hB11 := Below.next hB10 hb11; have hb9b := Below.next hb10 hb11; have HQ11 := hide (HQ10.out.below hb11); have HR11 := hide (HR10.out.below hb11); have k11 := (hb11.block _ (Array.getElem?_eq_some_iff.1 k10).1).trans k10; have s11 := (hb11.block _ (Array.getElem?_eq_some_iff.1 s10).1).trans s10; clear y0 y1 y2; obtain ⟨y0, y1, y2⟩ := cell3 k11; obtain ⟨z0, z1, z2⟩ := cell3 s11)
    | (go_at_call 19; with_reducible refine Calls.mono (HM.out _ hB2) ?_; rintro e w3 ⟨rfl, hb3⟩; have hB3 := Below.next hB2 hb3; have n3 := (hb3.block _ (Array.getElem?_eq_some_iff.1 n2).1).trans n2; have k3 := (hb3.block _ (Array.getElem?_eq_some_iff.1 k2).1).trans k2; have HQ3 := hide ((HP1.out.below hA1).below hb3); clear p0 p1 p2; obtain ⟨p0, p1, p2⟩ := cell3 n3; obtain ⟨y0, y1, y2⟩ := cell3 k3)
    | (go_at_call 9; with_reducible refine Calls.mono (HF2.out _ _ HQ6.out) ?_; rintro e w7 ⟨rfl, hb7⟩; have hB7 := Below.next hB6 hb7; have n7 := (hb7.block _ (Array.getElem?_eq_some_iff.1 n6).1).trans n6; have k7 := (hb7.block _ (Array.getElem?_eq_some_iff.1 k6).1).trans k6; have s7 := (hb7.block _ (Array.getElem?_eq_some_iff.1 s6).1).trans s6; have HQ7 := hide (HQ6.out.below hb7); have HR7 := hide (HR6.out.below hb7); clear y0 y1 y2; obtain ⟨p0, p1, p2⟩ := cell3 n7)
    | (go_at_call 9; with_reducible refine Calls.mono (HF.out _ hB5) ?_; rintro e w6 ⟨rfl, hb6⟩; have hB6 := Below.next hB5 hb6; have n6 := (hb6.block _ (Array.getElem?_eq_some_iff.1 n5).1).trans n5; have k6 := (hb6.block _ (Array.getElem?_eq_some_iff.1 k5).1).trans k5; have s6 := (hb6.block _ (Array.getElem?_eq_some_iff.1 s4).1).trans s4; have HQ6 := hide (HQ5.out.below hb6); have HR6 := hide (HR5.out.below hb6); clear p0 p1 p2; obtain ⟨y0, y1, y2⟩ := cell3 k6)
    | (go_at_call 13; with_reducible refine Calls.mono (HU2.out _ _ HQ8.out) ?_; rintro e w9 ⟨v9, rfl, ho9, hb9⟩; obtain ⟨a9, c9, rfl⟩ := own_slice ho9; have HL9 := hide (lm_of_own iw_len (by decide) ho9 HLn.out); have HK9 := hide (HK8.out.below hb9); have hB9 := Below.next hB8 hb9; have n9 := (hb9.block _ (Array.getElem?_eq_some_iff.1 n8).1).trans n8; have k9 := (hb9.block _ (Array.getElem?_eq_some_iff.1 k8).1).trans k8; have s9 := (hb9.block _ (Array.getElem?_eq_some_iff.1 s8).1).trans s8; have HQ9 := hide (HQ8.out.below hb9); have HR9 := hide (HR8.out.below hb9); clear ho9 y0 y1 y2)
    | (go_at_call 13; with_reducible refine Calls.mono (HU.out _ hB7) ?_; rintro e w8 ⟨v8, rfl, ho8, hb8⟩; obtain ⟨a8, c8, rfl⟩ := own_slice ho8; have HK8 := hide (lm_of_own iw_len (by decide) ho8 HLn.out); have hB8 := Below.next hB7 hb8; have n8 := (hb8.block _ (Array.getElem?_eq_some_iff.1 n7).1).trans n7; have k8 := (hb8.block _ (Array.getElem?_eq_some_iff.1 k7).1).trans k7; have s8 := (hb8.block _ (Array.getElem?_eq_some_iff.1 s7).1).trans s7; have HQ8 := hide (HQ7.out.below hb8); have HR8 := hide (HR7.out.below hb8); clear ho8 p0 p1 p2; obtain ⟨y0, y1, y2⟩ := cell3 k8)
    | (go_at_call 12; refine (HX.out _).mono ?_; rintro e w10 ⟨rfl, hb10⟩; have hB10 := Below.next hB9 hb10; have n10 := (hb10.block _ (Array.getElem?_eq_some_iff.1 n9).1).trans n9; have k10 := (hb10.block _ (Array.getElem?_eq_some_iff.1 k9).1).trans k9; have s10 := (hb10.block _ (Array.getElem?_eq_some_iff.1 s9).1).trans s9; have HQ10 := hide (HQ9.out.below hb10); have HR10 := hide (HR9.out.below hb10); obtain ⟨y0, y1, y2⟩ := cell3 k10)
    | (go_at_call 17; refine (HS.out _ _ _ HQ11.out HR11.out).mono ?_; rintro e w12 ⟨r12, rfl, hr12, hb12⟩; obtain rfl : r12 = true := (by simpa using hr12); clear hr12; have hB12 := Below.next hB11 hb12; have hb9c := Below.next hb9b hb12; have k12 := (hb12.block _ (Array.getElem?_eq_some_iff.1 k11).1).trans k11; have n12 := (hb12.block _ (Nat.lt_of_lt_of_le (Array.getElem?_eq_some_iff.1 n10).1 hb11.size)).trans ((hb11.block _ (Array.getElem?_eq_some_iff.1 n10).1).trans n10); clear y0 y1 y2 z0 z1 z2)
    | (go_at_call 11; refine (dInts _ _ _ _ _ (HK9.out.below hb9c) (HL9.out.below hb9c)).mono ?_; rintro e w13 ⟨r13, rfl, hr13, hb13⟩; obtain rfl : r13 = true := hr13.2 rfl; clear hr13; have hB13 := Below.next hB12 hb13; obtain ⟨y0, y1, y2⟩ := cell3 ((hb13.block _ (Array.getElem?_eq_some_iff.1 k12).1).trans k12); obtain ⟨p0, p1, p2⟩ := cell3 ((hb13.block _ (Array.getElem?_eq_some_iff.1 n12).1).trans n12)))
  go_ret
  exact ⟨rfl, hB13⟩

theorem degStays_any (w : World) (vp : Value) (p : Pr) (hp : Pm w vp p) : Calls Try.prog 6 #[vp] w fun e w' => e = .returned (.bool true) ∧ Below w.heap.size w w' := by
  cases hm : mayB p with
  | false => exact degStays_no w vp p hp hm
  | true => exact degStays_yes w vp p hp hm

end Go.Proofs.Ytfgokcphnkkgnaa
