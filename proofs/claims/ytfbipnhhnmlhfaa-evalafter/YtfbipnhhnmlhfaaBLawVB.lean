/-
  The statements of layer 11: EvalRuns walked.
-/
import Derived.Test.YtfbipnhhnmlhfaaBLawVA
namespace Go.Proofs.Ytfbipnhhnmlhfaa
open Go.RowKit Fld Slp
set_option linter.unusedVariables false
set_option linter.unusedSimpArgs false

/-- What comes of Run and Steps are words. -/
theorem ru_wd (f : Int) (q : Pr) (xs : List Int) (hw : ∀ x ∈ xs, 0 ≤ x ∧ x ≤ 18446744073709551615) : ((ruL f q xs).length ≤ 64 ∧ ∀ x ∈ ruL f q xs, 0 ≤ x ∧ x ≤ 18446744073709551615) ∧ ((stL f q xs).length ≤ 320 ∧ ∀ x ∈ stL f q xs, 0 ≤ x ∧ x ≤ 18446744073709551615) := by
  by_cases he : evE f q xs = 0
  · obtain ⟨hm, h1, h2⟩ := evE_zero he
    obtain ⟨p, wd, hf, hi⟩ := inF_fi h1
    have hx := els_of hi hw
    obtain ⟨⟨j0, j1, l1, l2⟩, _, _⟩ := mayB_iff.1 hm
    have e1 : ruL f q xs = rnO (Rf f) q xs := by unfold ruL; rw [if_pos he]
    have e2 : stL f q xs = rns (Rf f) q xs := by unfold stL; rw [if_pos he]
    have hall : Els p (rns (Rf f) q xs) := el_all hf q.ops xs hx
    rw [e1, e2]
    refine ⟨⟨by rw [rnO_len]; omega, fun x hx' => ?_⟩, by unfold rns; rw [rnL_len]; omega, els_words hall hf.top⟩
    obtain ⟨v, _, rfl⟩ := List.mem_map.1 hx'
    exact elWord (hall.co hf.pos v.toNat) hf.top
  · have e1 : ruL f q xs = [] := by unfold ruL; rw [if_neg he]
    have e2 : stL f q xs = [] := by unfold stL; rw [if_neg he]
    rw [e1, e2]
    simp

set_option maxRecDepth 100000 in
set_option maxHeartbeats 1000000 in
theorem evalRuns_any (f : Int) (w : World) (vp vi : Value) (q : Pr) (xs : List Int) (hf0 : 0 ≤ f) (hf1 : f ≤ 255) (hp : Pm w vp q) (hr : Rw w vi xs) : Calls Try.prog 3 #[.int .u8 f, vp, vi] w fun e w' => e = .returned (.bool true) ∧ Below w.heap.size w w' := by
  have HA := hide (fun W' (hb : Below w.heap.size w W') => eRun f q _ _ xs W' (hp.below hb) (hr.below hb))
  have HB := hide (fun W' (hb : Below w.heap.size w W') => dRun f q _ _ xs W' (hp.below hb) (hr.below hb))
  have HC := hide (fun W' (hb : Below w.heap.size w W') => eSteps f q _ _ xs W' (hp.below hb) (hr.below hb))
  have HD := hide (fun W' (hb : Below w.heap.size w W') => dSteps f q _ _ xs W' (hp.below hb) (hr.below hb))
  have HX := hide (fun W' => anch11 W')
  unfold Gives at HA HB HC HD
  unfold Anch11 at HX
  obtain ⟨⟨u1, u2⟩, u3, u4⟩ := ru_wd f q xs hr.words
  have HU1 := hide u1
  have HU2 := hide u2
  have HU3 := hide u3
  have HU4 := hide u4
  clear u1 u2 u3 u4
  obtain ⟨vo, vu, rfl, ho, hu⟩ := hp.form
  obtain ⟨ao, co', rfl, _⟩ := ho.spell
  obtain ⟨au, cu, rfl, _⟩ := hu.spell
  obtain ⟨ai, ci, rfl, hci⟩ := hr.spell
  have hA := alloc_below w (.cells #[.int .i64 q.inp, .slice ao q.ops.length co', .slice au q.outs.length cu] 25)
  have hN := heap_alloc_new w (.cells #[.int .i64 q.inp, .slice ao q.ops.length co', .slice au q.outs.length cu] 25)
  clear ho hu hp hr
  generalize ruL f q xs = rs at *
  generalize stL f q xs = ss at *
  generalize evE f q xs = er at *
  go_enter Try.func3, Try.ntmps3
  go_wp2_with (first
    | (go_at_call 9; refine (HA.out _ hA).mono ?_; rintro e w1 ⟨v1, rfl, ho1, hb1⟩; have HR1 := hide (rw_of_own ho1 (by have := HU1.out; omega) HU2.out); have hB1 := Below.next hA hb1; have n1 := (hb1.block _ (Array.getElem?_eq_some_iff.1 hN).1).trans hN; obtain ⟨p0, p1, p2⟩ := cell3 n1; clear ho1)
    | (go_at_call 10; refine (HB.out _ hB1).mono ?_; rintro e w2 ⟨v2, rfl, ho2, hb2⟩; have HR2 := hide (rw_of_own ho2 (by have := HU1.out; omega) HU2.out); have hB2 := Below.next hB1 hb2; have n2 := (hb2.block _ (Array.getElem?_eq_some_iff.1 n1).1).trans n1; clear p0 p1 p2; obtain ⟨p0, p1, p2⟩ := cell3 n2; clear ho2)
    | (go_at_call 11; refine (HC.out _ hB2).mono ?_; rintro e w3 ⟨v3, rfl, ho3, hb3⟩; have HR3 := hide (rw_of_own ho3 (by have := HU3.out; omega) HU4.out); have hB3 := Below.next hB2 hb3; have n3 := (hb3.block _ (Array.getElem?_eq_some_iff.1 n2).1).trans n2; clear p0 p1 p2; obtain ⟨p0, p1, p2⟩ := cell3 n3; clear ho3)
    | (go_at_call 12; refine (HD.out _ hB3).mono ?_; rintro e w4 ⟨v4, rfl, ho4, hb4⟩; have HR4 := hide (rw_of_own ho4 (by have := HU3.out; omega) HU4.out); have hB4 := Below.next hB3 hb4; have hb14 := Below.next (Below.next hb2 hb3) hb4; have hb24 := Below.next hb3 hb4; clear ho4)
    | (go_at_call 13; refine (Same_yes _ _ _ _ ((HR3.out.below hb4).below hb5).1 (HR4.out.below hb5).1).mono ?_; rintro e w6 ⟨rfl, hb6⟩; have hB6 := Below.next hB5 hb6)
    | (go_at_call 13; refine (Same_yes _ _ _ _ (HR1.out.below hb14).1 (HR2.out.below hb24).1).mono ?_; rintro e w5 ⟨rfl, hb5⟩; have hB5 := Below.next hB4 hb5)
    | (go_at_call 14; refine (HX.out _).mono ?_; rintro e w7 ⟨rfl, hb7⟩; have hB7 := Below.next hB6 hb7))
  go_ret
  exact ⟨rfl, hB7⟩

end Go.Proofs.Ytfbipnhhnmlhfaa
