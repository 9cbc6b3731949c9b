/-
  The statements of layer 9: SlpAfters walked.
-/
import Derived.Test.YtjkialmhajbcfaaDoorBLawSA
import Derived.Test.YtjkialmhajbcfaaDoorBSlxK
namespace Go.Proofs.YtjkialmhajbcfaaDoor
open Go.RowKit Fld Slp
set_option linter.unusedVariables false
set_option linter.unusedSimpArgs false

set_option maxRecDepth 100000 in
set_option maxHeartbeats 1000000 in
theorem afters_any (w : World) (vp vq : Value) (p q : Pr) (hp : Pm w vp p) (hq : Pm w vq q) (hT : Tb9 w) : Calls Tryd.prog 5 #[vp, vq] w fun e w' => e = .returned (.bool true) ∧ Below w.heap.size w w' := by
  have HP := hide hp
  have HQ := hide hq
  have HT := hide hT
  clear hT
  obtain ⟨vo, vu, rfl, ho, hu⟩ := hp.form
  obtain ⟨xo, xu, rfl, go, gu⟩ := hq.form
  obtain ⟨ao, co, rfl, _⟩ := ho.spell
  obtain ⟨au, cu, rfl, _⟩ := hu.spell
  obtain ⟨bo, do_, rfl, _⟩ := go.spell
  obtain ⟨bu, du, rfl, _⟩ := gu.spell
  clear hp hq ho hu go gu
  obtain ⟨n1, n2, hB⟩ := alloc2 w (.cells #[.int .i64 p.inp, .slice ao p.ops.length co, .slice au p.outs.length cu] 25) (.cells #[.int .i64 q.inp, .slice bo q.ops.length do_, .slice bu q.outs.length du] 25)
  have HA := hide (fun W' (hb : Below w.heap.size w W') => anch9 W' (HT.out.below hb))
  have HX := hide (fun W' (hb : Below w.heap.size w W') => sAfter W' _ _ p q (HP.out.below hb) (HQ.out.below hb))
  have HD := hide (fun W' (hb : Below w.heap.size w W') => dAfter W' _ _ p q (HP.out.below hb) (HQ.out.below hb))
  have HPm := hide (fun w' B vo vu ho hu => aft_pm (w' := w') (vo := vo) (vu := vu) (B := B) HP.out HQ.out ho hu)
  unfold Anch9 at HA
  unfold IsAfter at HX HD
  have HS := hide (fun W' v1 v2 (h1 : Pm W' v1 (aftP p q)) (h2 : Pm W' v2 (aftP p q)) => dSame v1 v2 _ _ W' h1 h2)
  unfold IsSame at HS
  generalize aftP p q = r at *
  generalize aftE p q = er at *
  go_enter Tryd.func5, Tryd.ntmps5
  go_wp2_with (first
    | (go_at_call 18; refine (HX.out _ hB).mono ?_; rintro e w1 ⟨v1, u1, rfl, ho1, hu1, hb1⟩; have HP1 := hide (HPm.out _ _ _ _ ho1 hu1); obtain ⟨eo, fo, rfl⟩ := own_slice ho1; obtain ⟨eu, fu, rfl⟩ := own_slice hu1; have hB1 := Below.next hB hb1; have hA1 := alloc_below w1 (.cells #[.int .i64 r.inp, .slice eo r.ops.length fo, .slice eu r.outs.length fu] 25); have n3 := heap_alloc_new w1 (.cells #[.int .i64 r.inp, .slice eo r.ops.length fo, .slice eu r.outs.length fu] 25); have hB2 := Below.next hB1 hA1; obtain ⟨p0, p1, p2⟩ := cell3 ((hA1.block _ (Nat.lt_of_lt_of_le (Array.getElem?_eq_some_iff.1 n1).1 hb1.size)).trans ((hb1.block _ (Array.getElem?_eq_some_iff.1 n1).1).trans n1)); obtain ⟨q0, q1, q2⟩ := cell3 ((hA1.block _ (Nat.lt_of_lt_of_le (Array.getElem?_eq_some_iff.1 n2).1 hb1.size)).trans ((hb1.block _ (Array.getElem?_eq_some_iff.1 n2).1).trans n2)); clear ho1 hu1)
    | (go_at_call 19; refine (HD.out _ hB2).mono ?_; rintro e w3 ⟨v3, u3, rfl, ho3, hu3, hb3⟩; have HP3 := hide (HPm.out _ _ _ _ ho3 hu3); obtain ⟨go, io, rfl⟩ := own_slice ho3; obtain ⟨gu, iu, rfl⟩ := own_slice hu3; have hB3 := Below.next hB2 hb3; have hA3 := alloc_below w3 (.cells #[.int .i64 r.inp, .slice go r.ops.length io, .slice gu r.outs.length iu] 25); have hB4 := Below.next hB3 hA3; obtain ⟨x0, x1, x2⟩ := cell3 ((hA3.block _ (Nat.lt_of_lt_of_le (Array.getElem?_eq_some_iff.1 n3).1 hb3.size)).trans ((hb3.block _ (Array.getElem?_eq_some_iff.1 n3).1).trans n3)); clear ho3 hu3)
    | (go_at_call 12; refine (HS.out _ _ _ (((HP1.out.below hA1).below hb3).below hA3) (HP3.out.below hA3)).mono ?_; rintro e w5 ⟨r5, rfl, hr5, hb5⟩; obtain rfl : r5 = true := (by simpa using hr5); clear hr5; have hB5 := Below.next hB4 hb5)
    | (go_at_call 13; refine (HA.out _ hB5).mono ?_; rintro e w6 ⟨rfl, hb6⟩; have hB6 := Below.next hB5 hb6))
  go_ret
  exact ⟨rfl, hB6⟩

end Go.Proofs.YtjkialmhajbcfaaDoor
