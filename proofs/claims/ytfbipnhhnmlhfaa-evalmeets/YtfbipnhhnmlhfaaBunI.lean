/- Texts laid together: LawVA, LawVB. -/
import Derived.Test.YtfbipnhhnmlhfaaBEvpD
import Derived.Test.YtfbipnhhnmlhfaaBEvrA
import Derived.Test.YtfbipnhhnmlhfaaBunW
namespace Go.Proofs.Ytfbipnhhnmlhfaa
open Go.RowKit Fld Slp
set_option linter.unusedVariables false
set_option linter.unusedSimpArgs false

/-- The program that the document fixes. -/
def anQ : Pr := ⟨1, [⟨3, 0, 0, 0⟩, ⟨4, 0, 0, 5⟩, ⟨1, 1, 2, 0⟩], [3]⟩
theorem an_run : evE 1 anQ [3] = 0 ∧ ruL 1 anQ [3] = [14] ∧ evE 1 anQ [] = 3 ∧ ruL 1 anQ [] = [] := by decide +kernel
theorem anq_pm {W : World} {b c : Nat} (h1 : W.heap[b]? = some (.cells (anQ.ops.flatMap opw).toArray 68 (0, 0))) (h2 : W.heap[c]? = some (.cells (anQ.outs.flatMap iw).toArray 3 (0, 0))) : Pm W (.agg #[.int .i64 1, .slice (some ⟨b, 0, none⟩) 3 3, .slice (some ⟨c, 0, none⟩) 1 1]) anQ := by
  have o1 := own_lit (s := 4) (n := 3) (anQ.ops.flatMap opw) h1 rfl (by decide)
  have o2 := own_lit (s := 1) (n := 1) (anQ.outs.flatMap iw) h2 rfl (by decide)
  refine ⟨⟨_, _, rfl, lm_of_own opw_len (by decide) o1 (by decide), lm_of_own iw_len (by decide) o2 (by decide)⟩, by decide, ?_, ?_⟩
  · intro o ho
    have : o = ⟨3, 0, 0, 0⟩ ∨ o = ⟨4, 0, 0, 5⟩ ∨ o = ⟨1, 1, 2, 0⟩ := by simpa [anQ] using ho
    rcases this with rfl | rfl | rfl <;> (unfold Ok4; decide)
  · intro x hx
    have : x = 3 := by simpa [anQ] using hx
    subst this
    decide
def Anch11 (w : World) : Prop := Calls Try.prog 14 #[] w fun e w' => e = .returned (.bool true) ∧ Below w.heap.size w w'

set_option maxRecDepth 100000 in
set_option maxHeartbeats 400000 in
theorem anch11 (w : World) : Anch11 w := by
  unfold Anch11
  go_enter Try.func14, Try.ntmps14
  go_upto_region 2 with fail
  obtain ⟨n1, n2, n3, hB⟩ := alloc3 w (.cells (anQ.ops.flatMap opw).toArray 68) (.cells (anQ.outs.flatMap iw).toArray 3) (.cells #[.int .i64 1, .slice (some ⟨w.heap.size, 0, none⟩) 3 3, .slice (some ⟨w.heap.size + 1, 0, none⟩) 1 1] 25)
  have HP := hide (anq_pm n1 n2)
  have e1 : (anQ.ops.flatMap opw).toArray = #[.int .u8 3, .int .i64 0, .int .i64 0, .int .u64 0, .int .u8 4, .int .i64 0, .int .i64 0, .int .u64 5, .int .u8 1, .int .i64 1, .int .i64 2, .int .u64 0] := rfl
  have e2 : (anQ.outs.flatMap iw).toArray = #[.int .i64 3] := rfl
  rw [e1, e2] at n1 n2 n3 hB HP
  clear e1 e2 n1 n2
  generalize ((w.alloc (.cells #[.int .u8 3, .int .i64 0, .int .i64 0, .int .u64 0, .int .u8 4, .int .i64 0, .int .i64 0, .int .u64 5, .int .u8 1, .int .i64 1, .int .i64 2, .int .u64 0] 68)).alloc (.cells #[.int .i64 3] 3)).alloc (.cells #[.int .i64 1, .slice (some ⟨w.heap.size, 0, none⟩) 3 3, .slice (some ⟨w.heap.size + 1, 0, none⟩) 1 1] 25) = w1 at *
  have hA1 := alloc_below w1 (.cells #[.int .u64 3] 49)
  have HA := hide (eRun 1 anQ _ _ [3] _ (HP.out.below hA1) (rw1 w1 3 (by decide) 49))
  have HF := hide (fun W (hb : Below w1.heap.size w1 W) => eRun 1 anQ _ _ [] W (HP.out.below hb) (rw0 W))
  unfold Gives at HA HF
  rw [an_run.1, an_run.2.1] at HA
  rw [an_run.2.2.1, an_run.2.2.2] at HF
  obtain ⟨p0, p1, p2⟩ := cell3 n3
  have HN := hide n3
  clear n3
  go_wp2_with (first
    | (go_at_call 9; refine (HF.out _ hb2').mono ?_; rintro e w3 ⟨v3, rfl, ho3, hb3⟩; have HR3 := hide (HR2.out.below (Below.next hb3 (alloc_below w3 (.cells #[.int .u64 14] 49)))); have HR4 := hide (rw1 w3 14 (by decide) 49))
    | (go_at_call 9; refine HA.out.mono ?_; rintro e w2 ⟨v2, rfl, ho2, hb2⟩; have hb2' := Below.next hA1 hb2; have HR2 := hide (rw_of_own ho2 (by decide) (by decide)); clear p0 p1 p2; obtain ⟨p0, p1, p2⟩ := cell3 ((hb2'.block _ (Array.getElem?_eq_some_iff.1 HN.out).1).trans HN.out))
    | (go_at_call 13; refine (Same_yes _ _ _ _ HR3.out.1 HR4.out.1).mono ?_; rintro e w5 ⟨rfl, hb5⟩))
  go_ret
  exact ⟨rfl, Below.next (Below.next (Below.next (Below.next hB hb2') hb3) (alloc_below w3 _)) hb5⟩

end Go.Proofs.Ytfbipnhhnmlhfaa

namespace Go.Proofs.Ytfbipnhhnmlhfaa
open Go.RowKit Fld Slp
set_option linter.unusedVariables false
set_option linter.unusedSimpArgs false

/-- What comes of Run and Steps are words. -/
theorem ru_wd (f : Int) (q : Pr) (xs : List Int) (hw : ∀ x ∈ xs, 0 ≤ x ∧ x ≤ 18446744073709551615) : ((ruL f q xs).length ≤ 64 ∧ ∀ x ∈ ruL f q xs, 0 ≤ x ∧ x ≤ 18446744073709551615) ∧ ((stL f q xs).length ≤ 320 ∧ ∀ x ∈ stL f q xs, 0 ≤ x ∧ x ≤ 18446744073709551615) := by
  by_cases he : evE f q xs = 0
  · obtain ⟨hm, h1, h2⟩ := evE_zero he
    obtain ⟨p, wd, hf, hi⟩ := inF_fi h1
    have hx := els_of hi hw
    obtain ⟨⟨j0, j1, l1, l2⟩, _, _⟩ := mayB_iff.1 hm
    have e1 : ruL f q xs = rnO (Rf f) q xs := by unfold ruL; rw [if_pos he]
    have e2 : stL f q xs = rns (Rf f) q xs := by unfold stL; rw [if_pos he]
    have hall : Els p (rns (Rf f) q xs) := el_all hf q.ops xs hx
    rw [e1, e2]
    refine ⟨⟨by rw [rnO_len]; omega, fun x hx' => ?_⟩, by unfold rns; rw [rnL_len]; omega, els_words hall hf.top⟩
    obtain ⟨v, _, rfl⟩ := List.mem_map.1 hx'
    exact elWord (hall.co hf.pos v.toNat) hf.top
  · have e1 : ruL f q xs = [] := by unfold ruL; rw [if_neg he]
    have e2 : stL f q xs = [] := by unfold stL; rw [if_neg he]
    rw [e1, e2]
    simp

set_option maxRecDepth 100000 in
set_option maxHeartbeats 1000000 in
theorem evalRuns_any (f : Int) (w : World) (vp vi : Value) (q : Pr) (xs : List Int) (hf0 : 0 ≤ f) (hf1 : f ≤ 255) (hp : Pm w vp q) (hr : Rw w vi xs) : Calls Try.prog 3 #[.int .u8 f, vp, vi] w fun e w' => e = .returned (.bool true) ∧ Below w.heap.size w w' := by
  have HA := hide (fun W' (hb : Below w.heap.size w W') => eRun f q _ _ xs W' (hp.below hb) (hr.below hb))
  have HB := hide (fun W' (hb : Below w.heap.size w W') => dRun f q _ _ xs W' (hp.below hb) (hr.below hb))
  have HC := hide (fun W' (hb : Below w.heap.size w W') => eSteps f q _ _ xs W' (hp.below hb) (hr.below hb))
  have HD := hide (fun W' (hb : Below w.heap.size w W') => dSteps f q _ _ xs W' (hp.below hb) (hr.below hb))
  have HX := hide (fun W' => anch11 W')
  unfold Gives at HA HB HC HD
  unfold Anch11 at HX
  obtain ⟨⟨u1, u2⟩, u3, u4⟩ := ru_wd f q xs hr.words
  have HU1 := hide u1
  have HU2 := hide u2
  have HU3 := hide u3
  have HU4 := hide u4
  clear u1 u2 u3 u4
  obtain ⟨vo, vu, rfl, ho, hu⟩ := hp.form
  obtain ⟨ao, co', rfl, _⟩ := ho.spell
  obtain ⟨au, cu, rfl, _⟩ := hu.spell
  obtain ⟨ai, ci, rfl, hci⟩ := hr.spell
  have hA := alloc_below w (.cells #[.int .i64 q.inp, .slice ao q.ops.length co', .slice au q.outs.length cu] 25)
  have hN := heap_alloc_new w (.cells #[.int .i64 q.inp, .slice ao q.ops.length co', .slice au q.outs.length cu] 25)
  clear ho hu hp hr
  generalize ruL f q xs = rs at *
  generalize stL f q xs = ss at *
  generalize evE f q xs = er at *
  go_enter Try.func3, Try.ntmps3
  go_wp2_with (first
    | (go_at_call 9; refine (HA.out _ hA).mono ?_; rintro e w1 ⟨v1, rfl, ho1, hb1⟩; have HR1 := hide (rw_of_own ho1 (by have := HU1.out; omega) HU2.out); have hB1 := Below.next hA hb1; have n1 := (hb1.block _ (Array.getElem?_eq_some_iff.1 hN).1).trans hN; obtain ⟨p0, p1, p2⟩ := cell3 n1; clear ho1)
    | (go_at_call 10; refine (HB.out _ hB1).mono ?_; rintro e w2 ⟨v2, rfl, ho2, hb2⟩; have HR2 := hide (rw_of_own ho2 (by have := HU1.out; omega) HU2.out); have hB2 := Below.next hB1 hb2; have n2 := (hb2.block _ (Array.getElem?_eq_some_iff.1 n1).1).trans n1; clear p0 p1 p2; obtain ⟨p0, p1, p2⟩ := cell3 n2; clear ho2)
    | (go_at_call 11; refine (HC.out _ hB2).mono ?_; rintro e w3 ⟨v3, rfl, ho3, hb3⟩; have HR3 := hide (rw_of_own ho3 (by have := HU3.out; omega) HU4.out); have hB3 := Below.next hB2 hb3; have n3 := (hb3.block _ (Array.getElem?_eq_some_iff.1 n2).1).trans n2; clear p0 p1 p2; obtain ⟨p0, p1, p2⟩ := cell3 n3; clear ho3)
    | (go_at_call 12; refine (HD.out _ hB3).mono ?_; rintro e w4 ⟨v4, rfl, ho4, hb4⟩; have HR4 := hide (rw_of_own ho4 (by have := HU3.out; omega) HU4.out); have hB4 := Below.next hB3 hb4; have hb14 := Below.next (Below.next hb2 hb3) hb4; have hb24 := Below.next hb3 hb4; clear ho4)
    | (go_at_call 13; refine (Same_yes _ _ _ _ ((HR3.out.below hb4).below hb5).1 (HR4.out.below hb5).1).mono ?_; rintro e w6 ⟨rfl, hb6⟩; have hB6 := Below.next hB5 hb6)
    | (go_at_call 13; refine (Same_yes _ _ _ _ (HR1.out.below hb14).1 (HR2.out.below hb24).1).mono ?_; rintro e w5 ⟨rfl, hb5⟩; have hB5 := Below.next hB4 hb5)
    | (go_at_call 14; refine (HX.out _).mono ?_; rintro e w7 ⟨rfl, hb7⟩; have hB7 := Below.next hB6 hb7))
  go_ret
  exact ⟨rfl, hB7⟩

end Go.Proofs.Ytfbipnhhnmlhfaa

