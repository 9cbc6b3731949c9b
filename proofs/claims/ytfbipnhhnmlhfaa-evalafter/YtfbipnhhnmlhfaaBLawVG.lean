/-
  The statements of layer 11: EvalAfter walked.
-/
import Derived.Test.YtfbipnhhnmlhfaaBLawVB
import Derived.Test.YtfbipnhhnmlhfaaBSlxK
import Derived.Test.YtfbipnhhnmlhfaaBAftM
import Derived.Test.YtfbipnhhnmlhfaaBTrmD
import Derived.Test.YtfbipnhhnmlhfaaBunC
namespace Go.Proofs.Ytfbipnhhnmlhfaa
open Go.RowKit Fld Slp
set_option linter.unusedVariables false
set_option linter.unusedSimpArgs false

theorem ev_run {f : Int} {q : Pr} {xs : List Int} (hm : mayB q = true) (hi : inF f xs = true) (hl : (xs.length : Int) = q.inp) : evE f q xs = 0 ∧ ruL f q xs = rnO (Rf f) q xs := by
  have h1 : evE f q xs = 0 := by unfold evE rwE; rw [if_pos hm, if_pos hi, if_pos hl]
  exact ⟨h1, by unfold ruL; rw [if_pos h1]⟩
/-- What EvalAfter says of the answers. -/
theorem after_facts {f : Int} {p q : Pr} {xs : List Int} (hw : ∀ x ∈ xs, 0 ≤ x ∧ x ≤ 18446744073709551615) (hE : aftE p q = 0) (hR : evE f q xs = 0) : ∃ Z, ((evE f p (ruL f q xs) = 0 ∧ ruL f p (ruL f q xs) = Z) ∧ (evE f (aftP p q) xs = 0 ∧ ruL f (aftP p q) xs = Z)) ∧ (evE f (trR (aftP p q)) xs = 0 ∧ ruL f (trR (aftP p q)) xs = Z) := by
  obtain ⟨hm, hq, hl, _⟩ := aftE_zero hE
  obtain ⟨_, h1, h2⟩ := evE_zero hR
  obtain ⟨P, wd, hf, hi⟩ := inF_fi h1
  obtain ⟨⟨j0, j1, _, _⟩, _, _⟩ := mayB_iff.1 hq
  have hx := els_of hi hw
  have eP : aftP p q = aftF p q := by unfold aftP; rw [if_pos hE]
  have hs := aft_may hE
  have e1 := (ev_run hq h1 h2).2
  have hall : Els P (rns (Rf f) q xs) := el_all hf q.ops xs hx
  have hel : Els P (rnO (Rf f) q xs) := fun x hx' => by
    obtain ⟨v, _, rfl⟩ := List.mem_map.1 hx'
    exact hall.co hf.pos v.toNat
  have hina : inF f (rnO (Rf f) q xs) = true := by rw [inF_yes hf]; exact allIn_of hel
  have er : trR (aftF p q) = trP (aftF p q) := by unfold trR; rw [if_pos hs]
  have hin : (aftF p q).inp = q.inp := rfl
  have hit : (trP (aftF p q)).inp = q.inp := rfl
  have r1 := ev_run hm hina (by rw [rnO_len]; exact hl)
  have r2 := ev_run hs h1 (by rw [hin]; exact h2)
  have r3 := ev_run (tr_may hs) h1 (by rw [hit]; exact h2)
  have a1 := aft_run (Rf f) hm hq hl xs (by omega)
  have a2 := tr_run (Rf f) hs xs (by rw [hin]; omega)
  rw [eP, er, e1]
  exact ⟨_, ⟨⟨r1.1, r1.2⟩, r2.1, r2.2.trans a1⟩, r3.1, r3.2.trans (a2.trans a1)⟩

theorem cells6 {W : World} {b : Nat} {a0 a1 a2 a3 a4 a5 : Value} {T : TypeId} {fz : Nat × Nat} (h : W.heap[b]? = some (.cells #[a0, a1, a2, a3, a4, a5] T fz)) : (W.cell? ⟨b, 0, none⟩ = some a0 ∧ W.cell? ⟨b, 1, none⟩ = some a1 ∧ W.cell? ⟨b, 2, none⟩ = some a2) ∧ (W.cell? ⟨b, 3, none⟩ = some a3 ∧ W.cell? ⟨b, 4, none⟩ = some a4 ∧ W.cell? ⟨b, 5, none⟩ = some a5) := by
  refine ⟨⟨?_, ?_, ?_⟩, ?_, ?_, ?_⟩ <;> (unfold World.cell?; simp [h])

set_option maxRecDepth 100000 in
set_option maxHeartbeats 1000000 in
theorem evalAfter_any (f : Int) (w : World) (c0 c1 c2 c3 c4 c5 vi : Value) (p q : Pr) (xs : List Int) (hf0 : 0 ≤ f) (hf1 : f ≤ 255) (hp : Pm w (.agg #[c0, c1, c2]) p) (hq : Pm w (.agg #[c3, c4, c5]) q) (hr : Rw w vi xs) : Calls Try.prog 7 #[.int .u8 f, .agg #[c0, c1, c2, c3, c4, c5], vi] w fun e w' => e = .returned (.bool true) ∧ Below w.heap.size w w' := by
  have HA := hide (fun W' (hb : Below w.heap.size w W') => dAfter W' _ _ p q (hp.below hb) (hq.below hb))
  have HPm := hide (fun w' B vo vu ho hu => aft_pm (w' := w') (vo := vo) (vu := vu) (B := B) hp hq ho hu)
  have HR1 := hide (fun W' (hb : Below w.heap.size w W') => eRun f q _ _ xs W' (hq.below hb) (hr.below hb))
  have HX := hide (fun W' => anch11 W')
  unfold IsAfter at HA
  unfold Gives at HR1
  unfold Anch11 at HX
  obtain ⟨⟨u1, u2⟩, _⟩ := ru_wd f q xs hr.words
  have HRp := hide (fun W' va (hb : Below w.heap.size w W') (ha : Rw W' va (ruL f q xs)) => eRun f p _ va _ W' (hp.below hb) ha)
  unfold Gives at HRp
  have HXs := hide hr
  have HW := hide hr.words
  have hU1 := hide u1
  have hU2 := hide u2
  clear u1 u2
  obtain ⟨vo, vu, he0, ho, hu⟩ := hp.form
  cases he0
  obtain ⟨xo, xu, he1, ho2, hu2⟩ := hq.form
  cases he1
  obtain ⟨ao, co', rfl, _⟩ := ho.spell
  obtain ⟨au, cu, rfl, _⟩ := hu.spell
  obtain ⟨bo, do', rfl, _⟩ := ho2.spell
  obtain ⟨bu, du, rfl, _⟩ := hu2.spell
  obtain ⟨ai, ci, rfl, hci⟩ := hr.spell
  have hA := alloc_below w (.cells #[.int .i64 p.inp, .slice ao p.ops.length co', .slice au p.outs.length cu, .int .i64 q.inp, .slice bo q.ops.length do', .slice bu q.outs.length du] 54)
  have hN := heap_alloc_new w (.cells #[.int .i64 p.inp, .slice ao p.ops.length co', .slice au p.outs.length cu, .int .i64 q.inp, .slice bo q.ops.length do', .slice bu q.outs.length du] 54)
  clear ho hu ho2 hu2 hp hq hr
  by_cases hE : aftE p q = 0 ∧ evE f q xs = 0
  · obtain ⟨hE, hR⟩ := hE
    obtain ⟨Z, ⟨⟨z1, z2⟩, z3, z4⟩, z5, z6⟩ := after_facts HW.out hE hR
    have HRs := hide (fun W' vs (hb : Below w.heap.size w W') (hs : Pm W' vs (aftP p q)) => eRun f (aftP p q) vs _ xs W' hs (HXs.out.below hb))
    have HTr := hide (fun W' vs (hs : Pm W' vs (aftP p q)) => dTrim vs (aftP p q) W' hs)
    have HTp := hide (fun W vs w' B vo vu (hs : Pm W vs (aftP p q)) ho hu => tr_pm (w := W) (v := vs) (w' := w') (vo := vo) (vu := vu) (B := B) hs ho hu)
    have HRt := hide (fun W' vt (hb : Below w.heap.size w W') (ht : Pm W' vt (trR (aftP p q))) => eRun f (trR (aftP p q)) vt _ xs W' ht (HXs.out.below hb))
    unfold Gives at HRs HRt
    unfold IsTrim at HTr
    have hZw : Hid (Z.length ≤ 64 ∧ ∀ x ∈ Z, 0 ≤ x ∧ x ≤ 18446744073709551615) := by
      have := (ru_wd f (aftP p q) xs HW.out).1
      rw [z4] at this; exact this
    rw [z1, z2] at HRp
    rw [z3, z4] at HRs
    rw [z5, z6] at HRt
    rw [hE] at HA
    rw [hR] at HR1
    clear hE hR z1 z2 z3 z4 z5 z6 HW
    generalize ruL f q xs = a at *
    generalize trE (aftP p q) = te at *
    generalize trR (aftP p q) = t at *
    generalize aftP p q = s at *
    go_enter Try.func7, Try.ntmps7
    go_upto_region 3 with (go_at_call 25; refine (HA.out _ hA).mono ?_; rintro e w1 ⟨v1, u1, rfl, ho1, hu1, hb1⟩; have HP1 := hide (HPm.out _ _ _ _ ho1 hu1); obtain ⟨eo, fo, rfl⟩ := own_slice ho1; obtain ⟨eu, fu, rfl⟩ := own_slice hu1)
    have hA2 := alloc_below w1 (.cells #[.int .i64 s.inp, .slice eo s.ops.length fo, .slice eu s.outs.length fu] 25)
    have m2 := heap_alloc_new w1 (.cells #[.int .i64 s.inp, .slice eo s.ops.length fo, .slice eu s.outs.length fu] 25)
    have HP2 := hide (HP1.out.below hA2)
    have hbA := Below.next hb1 hA2
    have hB2 := Below.next hA hbA
    have n2 := (hbA.block _ (Array.getElem?_eq_some_iff.1 hN).1).trans hN
    generalize w1.alloc (.cells #[.int .i64 s.inp, .slice eo s.ops.length fo, .slice eu s.outs.length fu] 25) = w2 at *
    generalize w1.heap.size = b1 at *
    clear ho1 hu1 HP1 hb1 hA2 hbA hA hN HA HPm
    have HN : Hid (∀ V, Below w2.heap.size w2 V → ((V.cell? ⟨w.heap.size, 0, none⟩ = some (.int .i64 p.inp) ∧ V.cell? ⟨w.heap.size, 1, none⟩ = some (.slice ao p.ops.length co') ∧ V.cell? ⟨w.heap.size, 2, none⟩ = some (.slice au p.outs.length cu)) ∧ (V.cell? ⟨w.heap.size, 3, none⟩ = some (.int .i64 q.inp) ∧ V.cell? ⟨w.heap.size, 4, none⟩ = some (.slice bo q.ops.length do') ∧ V.cell? ⟨w.heap.size, 5, none⟩ = some (.slice bu q.outs.length du))) ∧ (V.cell? ⟨b1, 0, none⟩ = some (.int .i64 s.inp) ∧ V.cell? ⟨b1, 1, none⟩ = some (.slice eo s.ops.length fo) ∧ V.cell? ⟨b1, 2, none⟩ = some (.slice eu s.outs.length fu))) := fun V hb => ⟨cells6 ((hb.block _ (Array.getElem?_eq_some_iff.1 n2).1).trans n2), cell3 ((hb.block _ (Array.getElem?_eq_some_iff.1 m2).1).trans m2)⟩
    obtain ⟨⟨⟨p0, p1, p2⟩, p3, p4, p5⟩, r0, r1, r2⟩ := HN.out _ (Below.refl _ _)
    go_upto_region 6 with (go_at_call 9; refine (HR1.out _ hB2).mono ?_; rintro e w3 ⟨v3, rfl, ho3, hb3⟩; have HR3 := hide (rw_of_own ho3 (by have := hU1.out; omega) hU2.out); obtain ⟨a3, c3, rfl⟩ := own_form ho3; have hB3 := Below.next hB2 hb3; clear p0 p1 p2 p3 p4 p5 r0 r1 r2; obtain ⟨⟨⟨p0, p1, p2⟩, p3, p4, p5⟩, r0, r1, r2⟩ := HN.out _ hb3)
    clear ho3 HR1
    go_upto_region 7 with (go_at_call 9; refine (HRp.out _ _ hB3 HR3.out).mono ?_; rintro e w4 ⟨v4, rfl, ho4, hb4⟩; have HR4 := hide (rw_of_own ho4 (by have := hZw.out.1; omega) hZw.out.2); obtain ⟨a4, c4, rfl⟩ := own_form ho4; have hB4 := Below.next hB3 hb4; have hb24 := Below.next hb3 hb4; clear p0 p1 p2 p3 p4 p5 r0 r1 r2; obtain ⟨⟨⟨p0, p1, p2⟩, p3, p4, p5⟩, r0, r1, r2⟩ := HN.out _ hb24)
    clear ho4 HRp
    go_upto_region 8 with (go_at_call 9; refine (HRs.out _ _ hB4 (HP2.out.below hb24)).mono ?_; rintro e w5 ⟨v5, rfl, ho5, hb5⟩; have HR5 := hide (rw_of_own ho5 (by have := hZw.out.1; omega) hZw.out.2); obtain ⟨a5, c5, rfl⟩ := own_form ho5; have hB5 := Below.next hB4 hb5; have hb25 := Below.next hb24 hb5; clear p0 p1 p2 p3 p4 p5 r0 r1 r2; obtain ⟨⟨⟨p0, p1, p2⟩, p3, p4, p5⟩, r0, r1, r2⟩ := HN.out _ hb25)
    clear ho5 HRs
    go_upto_region 9 with (go_at_call 26; refine (HTr.out _ _ (HP2.out.below hb25)).mono ?_; rintro e w6 ⟨v6, u6, rfl, ho6, hu6, hb6⟩; have HP6 := hide (HTp.out _ _ _ _ _ _ (HP2.out.below hb25) ho6 hu6); obtain ⟨go, io, rfl⟩ := own_slice ho6; obtain ⟨gu, iu, rfl⟩ := own_slice hu6)
    have hA7 := alloc_below w6 (.cells #[.int .i64 t.inp, .slice go t.ops.length io, .slice gu t.outs.length iu] 25)
    have m7 := heap_alloc_new w6 (.cells #[.int .i64 t.inp, .slice go t.ops.length io, .slice gu t.outs.length iu] 25)
    have HP7 := hide (HP6.out.below hA7)
    have hb57 := Below.next hb6 hA7
    have hB7 := Below.next hB5 hb57
    generalize w6.alloc (.cells #[.int .i64 t.inp, .slice go t.ops.length io, .slice gu t.outs.length iu] 25) = w7 at *
    generalize w6.heap.size = b6 at *
    obtain ⟨q0, q1, q2⟩ := cell3 m7
    clear ho6 hu6 HP6 hA7 m7 p0 p1 p2 p3 p4 p5 r0 r1 r2 HTr HTp
    go_wp2_with (first
      | (go_at_call 9; refine (HRt.out _ _ hB7 HP7.out).mono ?_; rintro e w8 ⟨v8, rfl, ho8, hb8⟩; have HR8 := hide (rw_of_own ho8 (by have := hZw.out.1; omega) hZw.out.2); have hB8 := Below.next hB7 hb8; have hb58 := Below.next hb57 hb8; clear ho8)
      | (go_at_call 14; refine (HX.out _).mono ?_; rintro e w9 ⟨rfl, hb9⟩; have hB9 := Below.next hB8 hb9; have hb59 := Below.next hb58 hb9; have hb49 := Below.next hb5 hb59)
      | (go_at_call 13; refine (Same_yes _ _ _ _ ((HR4.out.below hb49).below hb10).1 ((HR8.out.below hb9).below hb10).1).mono ?_; rintro e w11 ⟨rfl, hb11⟩; have hB11 := Below.next hB10 hb11)
      | (go_at_call 13; refine (Same_yes _ _ _ _ (HR4.out.below hb49).1 (HR5.out.below hb59).1).mono ?_; rintro e w10 ⟨rfl, hb10⟩; have hB10 := Below.next hB9 hb10))
    go_ret
    exact ⟨rfl, hB11⟩
  · have HZ : Hid (¬ (aftE p q = 0 ∧ evE f q xs = 0)) := hE
    clear hE HRp HW
    generalize ruL f q xs = a at *
    generalize aftP p q = s at *
    generalize aftE p q = ae at *
    generalize evE f q xs = ee at *
    by_cases h1 : ae = 0
    · have h2 : ¬ ee = 0 := fun h => HZ.out ⟨h1, h⟩
      subst h1
      have ht : (ee != 0) = true := bne_iff_ne.2 h2
      clear h2 HZ
      go_enter Try.func7, Try.ntmps7
      go_upto_region 3 with (go_at_call 25; refine (HA.out _ hA).mono ?_; rintro e w1 ⟨v1, u1, rfl, ho1, hu1, hb1⟩; obtain ⟨eo, fo, rfl⟩ := own_slice ho1; obtain ⟨eu, fu, rfl⟩ := own_slice hu1)
      have hA2 := alloc_below w1 (.cells #[.int .i64 s.inp, .slice eo s.ops.length fo, .slice eu s.outs.length fu] 25)
      have hbA := Below.next hb1 hA2
      have hB2 := Below.next hA hbA
      have n2 := (hbA.block _ (Array.getElem?_eq_some_iff.1 hN).1).trans hN
      generalize w1.alloc (.cells #[.int .i64 s.inp, .slice eo s.ops.length fo, .slice eu s.outs.length fu] 25) = w2 at *
      generalize w1.heap.size = b1 at *
      clear ho1 hu1 hb1 hA2 hbA hA hN HA HPm
      obtain ⟨⟨p0, p1, p2⟩, p3, p4, p5⟩ := cells6 n2
      go_wp2_with (first
        | (go_at_call 9; refine (HR1.out _ hB2).mono ?_; rintro e w3 ⟨v3, rfl, ho3, hb3⟩; have hB3 := Below.next hB2 hb3)
        | (go_at_call 14; refine (HX.out _).mono ?_; rintro e w9 ⟨rfl, hb9⟩; have hB9 := Below.next hB3 hb9))
      go_ret
      exact ⟨rfl, hB9⟩
    · have ht : (ae != 0) = true := bne_iff_ne.2 h1
      clear h1 HZ
      go_enter Try.func7, Try.ntmps7
      go_upto_region 3 with (go_at_call 25; refine (HA.out _ hA).mono ?_; rintro e w1 ⟨v1, u1, rfl, ho1, hu1, hb1⟩; obtain ⟨eo, fo, rfl⟩ := own_slice ho1; obtain ⟨eu, fu, rfl⟩ := own_slice hu1)
      have hA2 := alloc_below w1 (.cells #[.int .i64 s.inp, .slice eo s.ops.length fo, .slice eu s.outs.length fu] 25)
      have hbA := Below.next hb1 hA2
      have hB2 := Below.next hA hbA
      have n2 := (hbA.block _ (Array.getElem?_eq_some_iff.1 hN).1).trans hN
      generalize w1.alloc (.cells #[.int .i64 s.inp, .slice eo s.ops.length fo, .slice eu s.outs.length fu] 25) = w2 at *
      generalize w1.heap.size = b1 at *
      clear ho1 hu1 hb1 hA2 hbA hA hN HA HPm
      obtain ⟨⟨p0, p1, p2⟩, p3, p4, p5⟩ := cells6 n2
      go_wp2_with (first
        | (go_at_call 9; refine (HR1.out _ hB2).mono ?_; rintro e w3 ⟨v3, rfl, ho3, hb3⟩; have hB3 := Below.next hB2 hb3)
        | (go_at_call 14; refine (HX.out _).mono ?_; rintro e w9 ⟨rfl, hb9⟩; have hB9 := Below.next hB3 hb9))
      go_ret
      exact ⟨rfl, hB9⟩

end Go.Proofs.Ytfbipnhhnmlhfaa
