/-
  The statements of layer 10: DegreeAfter walked.
-/
import Derived.Test.YtfgokcphnkkgnaaBLawDA
import Derived.Test.YtfgokcphnkkgnaaBSlxK
namespace Go.Proofs.Ytfgokcphnkkgnaa
open Go.RowKit Fld Slp
set_option linter.unusedVariables false
set_option linter.unusedSimpArgs false

theorem of_zero {p : Pr} (h : ofE p = 0) : mayB p = true ∧ dgO p ≤ 1024 ∧ cpO p = dgO p ∧ ofV p = (dgO p : Int) := by
  have e : ofV p = (cpO p : Int) := by unfold ofV; rw [if_pos h]
  unfold ofE at h
  by_cases hm : mayB p = true
  · rw [if_pos hm] at h
    by_cases hc : cpO p = 1025
    · rw [if_pos hc] at h; cases h
    · have h1 := cpO_cap p
      unfold cap9 at h1
      refine ⟨hm, by omega, by omega, ?_⟩
      rw [e]; omega
  · rw [if_neg hm] at h; cases h
theorem of_four {p : Pr} (hm : mayB p = true) (h : ¬ ofE p = 0) : ofE p = 4 ∧ 1024 < dgO p := by
  unfold ofE at h ⊢
  rw [if_pos hm] at h ⊢
  by_cases hc : cpO p = 1025
  · have h1 := cpO_cap p
    unfold cap9 at h1
    rw [if_pos hc]
    exact ⟨rfl, by omega⟩
  · rw [if_neg hc] at h; exact absurd rfl h

/-- Where a value of p goes in the program of both. -/
theorem aft_range {q : Pr} (hq : mayB q = true) {n i k : Nat} (hi : i ≤ n) (hk : k < q.outs.length + i) : 0 ≤ (aftAt q n).getD k 0 ∧ (aftAt q n).getD k 0 < q.inp + (q.ops.length : Int) + (i : Int) := by
  obtain ⟨⟨j0, j1, l2, l4⟩, qo, qu⟩ := mayB_iff.1 hq
  by_cases h : k < q.outs.length
  · rw [aft_low h]
    have := of_decide_eq_true (List.all_eq_true.1 qu q.outs[k] (List.getElem_mem h))
    omega
  · rw [aft_high h (by omega)]
    omega
theorem aft_may {p q : Pr} (hE : aftE p q = 0) : mayB (aftF p q) = true := by
  obtain ⟨hm, hq, hl, hlen⟩ := aftE_zero hE
  obtain ⟨⟨i0, i1, l1, l3⟩, mo, mu⟩ := mayB_iff.1 hm
  obtain ⟨⟨j0, j1, l2, l4⟩, qo, qu⟩ := mayB_iff.1 hq
  refine mayB_iff.2 ⟨⟨j0, j1, by unfold aftF; simp; omega, by unfold aftF; simp; omega⟩, ?_, ?_⟩
  · refine opsM_all _ 0 (fun j hj => ?_)
    rw [Nat.zero_add]
    have hin : (aftF p q).inp = q.inp := rfl
    rw [hin]
    by_cases h1 : j < q.ops.length
    · have e : (aftF p q).ops[j] = q.ops[j] := List.getElem_append_left h1
      rw [e]
      have := opsM_get q.inp q.ops 0 j h1 qo
      rw [Nat.zero_add] at this; exact this
    · obtain ⟨i, rfl⟩ : ∃ i, j = q.ops.length + i := ⟨j - q.ops.length, by omega⟩
      have hi : i < p.ops.length := by
        have : (aftF p q).ops.length = q.ops.length + p.ops.length := by unfold aftF; simp
        omega
      have e : (aftF p q).ops[q.ops.length + i] = shO (aftAt q p.ops.length) p.ops[i] := by
        have h2 : (aftF p q).ops[q.ops.length + i]? = some (shO (aftAt q p.ops.length) p.ops[i]) := by
          show (q.ops ++ p.ops.map (shO (aftAt q p.ops.length)))[q.ops.length + i]? = _
          rw [List.getElem?_append_right (by omega), Nat.add_sub_cancel_left, List.getElem?_map, List.getElem?_eq_getElem hi]; rfl
        rw [List.getElem?_eq_getElem hj] at h2
        exact Option.some.inj h2
      rw [e]
      have hop := opsM_get p.inp p.ops 0 i hi mo
      rw [Nat.zero_add] at hop
      unfold shO
      by_cases h4 : p.ops[i].k = 4
      · rw [if_pos h4]
        unfold opM at hop ⊢
        rw [if_neg (by omega), if_pos h4] at hop ⊢
        exact hop
      · rw [if_neg h4]
        unfold opM at hop ⊢
        by_cases hk : p.ops[i].k = 1 ∨ p.ops[i].k = 2 ∨ p.ops[i].k = 3
        · rw [if_pos hk, decide_eq_true_iff] at hop ⊢
          have q1 := aft_range hq (n := p.ops.length) (i := i) (k := p.ops[i].a.toNat) (Nat.le_of_lt hi) (by omega)
          have q2 := aft_range hq (n := p.ops.length) (i := i) (k := p.ops[i].b.toNat) (Nat.le_of_lt hi) (by omega)
          exact ⟨q1.1, by have := q1.2; dsimp only; omega, q2.1, by have := q2.2; dsimp only; omega, hop.2.2.2.2⟩
        · rw [if_neg hk, if_neg h4] at hop; cases hop
  · show (p.outs.map _).all _ = true
    rw [List.all_eq_true]
    intro x hx
    obtain ⟨v, hv, rfl⟩ := List.mem_map.1 hx
    have h1 := of_decide_eq_true (List.all_eq_true.1 mu v hv)
    have h2 := aft_range hq (n := p.ops.length) (i := p.ops.length) (k := v.toNat) (Nat.le_refl _) (by omega)
    have hln : (aftF p q).ops.length = q.ops.length + p.ops.length := by unfold aftF; simp
    refine decide_eq_true ⟨h2.1, ?_⟩
    have := h2.2
    show _ < q.inp + ((aftF p q).ops.length : Int)
    omega
/-- What the statement asks of the degrees. -/
theorem deg_after {p q : Pr} (hE : aftE p q = 0) (hp : ofE p = 0) (hq : ofE q = 0) : ∃ A B P : Nat, ofV p = (A : Int) ∧ ofV q = (B : Int) ∧ A ≤ 1024 ∧ B ≤ 1024 ∧ max A 1 * max B 1 = P ∧ ((ofE (aftF p q) = 4 ∧ 1024 < P) ∨ (ofE (aftF p q) = 0 ∧ ∃ C : Nat, ofV (aftF p q) = (C : Int) ∧ C ≤ P)) := by
  obtain ⟨hm, hm2, hl, hlen⟩ := aftE_zero hE
  obtain ⟨_, p1, p2, p3⟩ := of_zero hp
  obtain ⟨_, q1, q2, q3⟩ := of_zero hq
  have key := aft_out hm hm2 hl
  refine ⟨dgO p, dgO q, _, p3, q3, p1, q1, rfl, ?_⟩
  by_cases hs : ofE (aftF p q) = 0
  · obtain ⟨_, s1, s2, s3⟩ := of_zero hs
    exact .inr ⟨hs, dgO (aftF p q), s3, key⟩
  · obtain ⟨s1, s2⟩ := of_four (aft_may hE) hs
    exact .inl ⟨s1, by omega⟩

set_option maxRecDepth 100000 in
set_option maxHeartbeats 1000000 in
theorem degAfter_no (w : World) (vp vq : Value) (p q : Pr) (hp : Pm w vp p) (hq : Pm w vq q) (hE : ¬ aftE p q = 0) : Calls Try.prog 5 #[vp, vq] w fun e w' => e = .returned (.bool true) ∧ Below w.heap.size w w' := by
  have HP := hide hp
  have HQ := hide hq
  obtain ⟨vo, vu, rfl, ho, hu⟩ := hp.form
  obtain ⟨xo, xu, rfl, go, gu⟩ := hq.form
  obtain ⟨ao, co, rfl, _⟩ := ho.spell
  obtain ⟨au, cu, rfl, _⟩ := hu.spell
  obtain ⟨bo, do_, rfl, _⟩ := go.spell
  obtain ⟨bu, du, rfl, _⟩ := gu.spell
  clear hp hq ho hu go gu
  obtain ⟨n1, n2, hB⟩ := alloc2 w (.cells #[.int .i64 p.inp, .slice ao p.ops.length co, .slice au p.outs.length cu] 25) (.cells #[.int .i64 q.inp, .slice bo q.ops.length do_, .slice bu q.outs.length du] 25)
  have HD := hide (fun W' (hb : Below w.heap.size w W') => dAfter W' _ _ p q (HP.out.below hb) (HQ.out.below hb))
  have HX := hide (fun W' => anch10 W')
  unfold IsAfter at HD
  unfold Anch10 at HX
  have hd : (aftE p q != 0) = true := bne_iff_ne.2 hE
  clear hE
  generalize aftP p q = r at *
  generalize aftE p q = er at *
  go_enter Try.func5, Try.ntmps5
  go_wp2_with (first
    | (go_at_call 18; refine (HD.out _ hB).mono ?_; rintro e w1 ⟨v1, u1, rfl, ho1, hu1, hb1⟩; obtain ⟨eo, fo, rfl⟩ := own_slice ho1; obtain ⟨eu, fu, rfl⟩ := own_slice hu1; have hB1 := Below.next hB hb1; have hA1 := alloc_below w1 (.cells #[.int .i64 r.inp, .slice eo r.ops.length fo, .slice eu r.outs.length fu] 25); have hB2 := Below.next hB1 hA1; clear ho1 hu1)
    | (go_at_call 12; refine (HX.out _).mono ?_; rintro e w6 ⟨rfl, hb6⟩; have hB6 := Below.next hB2 hb6))
  go_ret
  exact ⟨rfl, hB6⟩

set_option maxRecDepth 100000 in
set_option maxHeartbeats 1000000 in
theorem degAfter_err1 (w : World) (vp vq : Value) (p q : Pr) (hp : Pm w vp p) (hq : Pm w vq q) (hE : aftE p q = 0) (h1 : ¬ ofE p = 0) : Calls Try.prog 5 #[vp, vq] w fun e w' => e = .returned (.bool true) ∧ Below w.heap.size w w' := by
  have HP := hide hp
  have HQ := hide hq
  obtain ⟨vo, vu, rfl, ho, hu⟩ := hp.form
  obtain ⟨xo, xu, rfl, go, gu⟩ := hq.form
  obtain ⟨ao, co, rfl, _⟩ := ho.spell
  obtain ⟨au, cu, rfl, _⟩ := hu.spell
  obtain ⟨bo, do_, rfl, _⟩ := go.spell
  obtain ⟨bu, du, rfl, _⟩ := gu.spell
  clear hp hq ho hu go gu
  obtain ⟨n1, n2, hB⟩ := alloc2 w (.cells #[.int .i64 p.inp, .slice ao p.ops.length co, .slice au p.outs.length cu] 25) (.cells #[.int .i64 q.inp, .slice bo q.ops.length do_, .slice bu q.outs.length du] 25)
  have HD := hide (fun W' (hb : Below w.heap.size w W') => dAfter W' _ _ p q (HP.out.below hb) (HQ.out.below hb))
  have HF := hide (fun W' (hb : Below w.heap.size w W') => gOf _ p W' (HP.out.below hb))
  have HG := hide (fun W' (hb : Below w.heap.size w W') => gOf _ q W' (HQ.out.below hb))
  have HH := hide (fun W' v (h : Pm W' v (aftP p q)) => gOf v (aftP p q) W' h)
  have HPm := hide (fun w' B vo vu ho hu => aft_pm (w' := w') (vo := vo) (vu := vu) (B := B) HP.out HQ.out ho hu)
  have HX := hide (fun W' => anch10 W')
  unfold IsAfter at HD
  unfold IsOf at HF HG HH
  unfold Anch10 at HX
  have hd : (ofE p != 0) = true := bne_iff_ne.2 h1
  rw [hE] at HD
  clear h1 hE
  generalize aftP p q = r at *
  generalize ofE p = g at *
  go_enter Try.func5, Try.ntmps5
  go_wp2_with (first
    | (go_at_call 18; refine (HD.out _ hB).mono ?_; rintro e w1 ⟨v1, u1, rfl, ho1, hu1, hb1⟩; have HP1 := hide (HPm.out _ _ _ _ ho1 hu1); obtain ⟨eo, fo, rfl⟩ := own_slice ho1; obtain ⟨eu, fu, rfl⟩ := own_slice hu1; have hB1 := Below.next hB hb1; have hA1 := alloc_below w1 (.cells #[.int .i64 r.inp, .slice eo r.ops.length fo, .slice eu r.outs.length fu] 25); have n3 := heap_alloc_new w1 (.cells #[.int .i64 r.inp, .slice eo r.ops.length fo, .slice eu r.outs.length fu] 25); have hB2 := Below.next hB1 hA1; have m1 := (hA1.block _ (Nat.lt_of_lt_of_le (Array.getElem?_eq_some_iff.1 n1).1 hb1.size)).trans ((hb1.block _ (Array.getElem?_eq_some_iff.1 n1).1).trans n1); have m2 := (hA1.block _ (Nat.lt_of_lt_of_le (Array.getElem?_eq_some_iff.1 n2).1 hb1.size)).trans ((hb1.block _ (Array.getElem?_eq_some_iff.1 n2).1).trans n2); obtain ⟨p0, p1, p2⟩ := cell3 m1; clear ho1 hu1)
    | (go_at_call 9; with_reducible refine Calls.mono (HH.out _ _ HP5.out) ?_; rintro e w6 ⟨rfl, hb6⟩; have hB6 := Below.next hB5 hb6)
    | (go_at_call 9; with_reducible refine Calls.mono (HG.out _ hB4) ?_; rintro e w5 ⟨rfl, hb5⟩; have hB5 := Below.next hB4 hb5; have HP5 := hide (((HP1.out.below hA1).below hb4).below hb5); obtain ⟨x0, x1, x2⟩ := cell3 ((hb5.block _ (Nat.lt_of_lt_of_le (Array.getElem?_eq_some_iff.1 n3).1 hb4.size)).trans ((hb4.block _ (Array.getElem?_eq_some_iff.1 n3).1).trans n3)))
    | (go_at_call 9; with_reducible refine Calls.mono (HF.out _ hB2) ?_; rintro e w4 ⟨rfl, hb4⟩; have hB4 := Below.next hB2 hb4; obtain ⟨q0, q1, q2⟩ := cell3 ((hb4.block _ (Array.getElem?_eq_some_iff.1 m2).1).trans m2))
    | (go_at_call 12; refine (HX.out _).mono ?_; rintro e w7 ⟨rfl, hb7⟩; have hB7 := Below.next hB6 hb7))
  go_ret
  exact ⟨rfl, hB7⟩

set_option maxRecDepth 100000 in
set_option maxHeartbeats 1000000 in
theorem degAfter_err2 (w : World) (vp vq : Value) (p q : Pr) (hp : Pm w vp p) (hq : Pm w vq q) (hE : aftE p q = 0) (h1 : ofE p = 0) (h2 : ¬ ofE q = 0) : Calls Try.prog 5 #[vp, vq] w fun e w' => e = .returned (.bool true) ∧ Below w.heap.size w w' := by
  have HP := hide hp
  have HQ := hide hq
  obtain ⟨vo, vu, rfl, ho, hu⟩ := hp.form
  obtain ⟨xo, xu, rfl, go, gu⟩ := hq.form
  obtain ⟨ao, co, rfl, _⟩ := ho.spell
  obtain ⟨au, cu, rfl, _⟩ := hu.spell
  obtain ⟨bo, do_, rfl, _⟩ := go.spell
  obtain ⟨bu, du, rfl, _⟩ := gu.spell
  clear hp hq ho hu go gu
  obtain ⟨n1, n2, hB⟩ := alloc2 w (.cells #[.int .i64 p.inp, .slice ao p.ops.length co, .slice au p.outs.length cu] 25) (.cells #[.int .i64 q.inp, .slice bo q.ops.length do_, .slice bu q.outs.length du] 25)
  have HD := hide (fun W' (hb : Below w.heap.size w W') => dAfter W' _ _ p q (HP.out.below hb) (HQ.out.below hb))
  have HF := hide (fun W' (hb : Below w.heap.size w W') => gOf _ p W' (HP.out.below hb))
  have HG := hide (fun W' (hb : Below w.heap.size w W') => gOf _ q W' (HQ.out.below hb))
  have HH := hide (fun W' v (h : Pm W' v (aftP p q)) => gOf v (aftP p q) W' h)
  have HPm := hide (fun w' B vo vu ho hu => aft_pm (w' := w') (vo := vo) (vu := vu) (B := B) HP.out HQ.out ho hu)
  have HX := hide (fun W' => anch10 W')
  unfold IsAfter at HD
  unfold IsOf at HF HG HH
  unfold Anch10 at HX
  have hd : (ofE q != 0) = true := bne_iff_ne.2 h2
  rw [hE] at HD
  rw [h1] at HF
  clear h1 h2 hE
  generalize aftP p q = r at *
  generalize ofE q = g at *
  go_enter Try.func5, Try.ntmps5
  go_wp2_with (first
    | (go_at_call 18; refine (HD.out _ hB).mono ?_; rintro e w1 ⟨v1, u1, rfl, ho1, hu1, hb1⟩; have HP1 := hide (HPm.out _ _ _ _ ho1 hu1); obtain ⟨eo, fo, rfl⟩ := own_slice ho1; obtain ⟨eu, fu, rfl⟩ := own_slice hu1; have hB1 := Below.next hB hb1; have hA1 := alloc_below w1 (.cells #[.int .i64 r.inp, .slice eo r.ops.length fo, .slice eu r.outs.length fu] 25); have n3 := heap_alloc_new w1 (.cells #[.int .i64 r.inp, .slice eo r.ops.length fo, .slice eu r.outs.length fu] 25); have hB2 := Below.next hB1 hA1; have m1 := (hA1.block _ (Nat.lt_of_lt_of_le (Array.getElem?_eq_some_iff.1 n1).1 hb1.size)).trans ((hb1.block _ (Array.getElem?_eq_some_iff.1 n1).1).trans n1); have m2 := (hA1.block _ (Nat.lt_of_lt_of_le (Array.getElem?_eq_some_iff.1 n2).1 hb1.size)).trans ((hb1.block _ (Array.getElem?_eq_some_iff.1 n2).1).trans n2); obtain ⟨p0, p1, p2⟩ := cell3 m1; clear ho1 hu1)
    | (go_at_call 9; with_reducible refine Calls.mono (HH.out _ _ HP5.out) ?_; rintro e w6 ⟨rfl, hb6⟩; have hB6 := Below.next hB5 hb6)
    | (go_at_call 9; with_reducible refine Calls.mono (HG.out _ hB4) ?_; rintro e w5 ⟨rfl, hb5⟩; have hB5 := Below.next hB4 hb5; have HP5 := hide (((HP1.out.below hA1).below hb4).below hb5); obtain ⟨x0, x1, x2⟩ := cell3 ((hb5.block _ (Nat.lt_of_lt_of_le (Array.getElem?_eq_some_iff.1 n3).1 hb4.size)).trans ((hb4.block _ (Array.getElem?_eq_some_iff.1 n3).1).trans n3)))
    | (go_at_call 9; with_reducible refine Calls.mono (HF.out _ hB2) ?_; rintro e w4 ⟨rfl, hb4⟩; have hB4 := Below.next hB2 hb4; obtain ⟨q0, q1, q2⟩ := cell3 ((hb4.block _ (Array.getElem?_eq_some_iff.1 m2).1).trans m2))
    | (go_at_call 12; refine (HX.out _).mono ?_; rintro e w7 ⟨rfl, hb7⟩; have hB7 := Below.next hB6 hb7))
  go_ret
  exact ⟨rfl, hB7⟩

set_option maxRecDepth 100000 in
set_option maxHeartbeats 1000000 in
theorem degAfter_ok (w : World) (vp vq : Value) (p q : Pr) (hp : Pm w vp p) (hq : Pm w vq q) (hE : aftE p q = 0) (h1 : ofE p = 0) (h2 : ofE q = 0) : Calls Try.prog 5 #[vp, vq] w fun e w' => e = .returned (.bool true) ∧ Below w.heap.size w w' := by
  have HP := hide hp
  have HQ := hide hq
  obtain ⟨vo, vu, rfl, ho, hu⟩ := hp.form
  obtain ⟨xo, xu, rfl, go, gu⟩ := hq.form
  obtain ⟨ao, co, rfl, _⟩ := ho.spell
  obtain ⟨au, cu, rfl, _⟩ := hu.spell
  obtain ⟨bo, do_, rfl, _⟩ := go.spell
  obtain ⟨bu, du, rfl, _⟩ := gu.spell
  clear hp hq ho hu go gu
  obtain ⟨n1, n2, hB⟩ := alloc2 w (.cells #[.int .i64 p.inp, .slice ao p.ops.length co, .slice au p.outs.length cu] 25) (.cells #[.int .i64 q.inp, .slice bo q.ops.length do_, .slice bu q.outs.length du] 25)
  have HD := hide (fun W' (hb : Below w.heap.size w W') => dAfter W' _ _ p q (HP.out.below hb) (HQ.out.below hb))
  have HF := hide (fun W' (hb : Below w.heap.size w W') => gOf _ p W' (HP.out.below hb))
  have HG := hide (fun W' (hb : Below w.heap.size w W') => gOf _ q W' (HQ.out.below hb))
  have HH := hide (fun W' v (h : Pm W' v (aftP p q)) => gOf v (aftP p q) W' h)
  have HPm := hide (fun w' B vo vu ho hu => aft_pm (w' := w') (vo := vo) (vu := vu) (B := B) HP.out HQ.out ho hu)
  have HX := hide (fun W' => anch10 W')
  unfold IsAfter at HD
  unfold IsOf at HF HG HH
  unfold Anch10 at HX
  obtain ⟨A, B, P, eA, eB, lA, lB, eP, hS⟩ := deg_after hE h1 h2
  have eR : aftP p q = aftF p q := by unfold aftP; rw [if_pos hE]
  rw [← eR] at hS
  rw [hE] at HD
  rw [h1, eA] at HF
  rw [h2, eB] at HG
  clear eA eB eR h1 h2 hE
  generalize aftP p q = r at *
  have hPp : P ≤ 1048576 := by rw [← eP]; exact Nat.le_trans (Nat.mul_le_mul (show max A 1 ≤ 1024 by omega) (show max B 1 ≤ 1024 by omega)) (by decide)
  have hxy : (A < 1 ∧ B < 1 ∧ P = 1) ∨ (A < 1 ∧ ¬ B < 1 ∧ P = B) ∨ (¬ A < 1 ∧ B < 1 ∧ P = A) ∨ (¬ A < 1 ∧ ¬ B < 1 ∧ A * B = P) := by
    by_cases h1 : A < 1 <;> by_cases h2 : B < 1
    · have e1 : max A 1 = 1 := by omega
      have e2 : max B 1 = 1 := by omega
      rw [e1, e2] at eP; omega
    · have e1 : max A 1 = 1 := by omega
      have e2 : max B 1 = B := by omega
      rw [e1, e2] at eP; omega
    · have e1 : max A 1 = A := by omega
      have e2 : max B 1 = 1 := by omega
      rw [e1, e2] at eP; omega
    · have e1 : max A 1 = A := by omega
      have e2 : max B 1 = B := by omega
      rw [e1, e2] at eP
      exact .inr (.inr (.inr ⟨h1, h2, eP⟩))
  clear eP
  have hP0 : (P : Int) ≤ 1048576 := by omega
  have hP1 : (0 : Int) ≤ (P : Int) := by omega
  rcases hS with ⟨hs1, hs2⟩ | ⟨hs1, C, hs2, hs3⟩
  · rw [hs1] at HH
    have hgt : (1024 : Int) < (P : Int) := by omega
    clear hs1 hs2
    generalize ofV r = c at *
    rcases hxy with ⟨h1, h2, h3⟩ | ⟨h1, h2, h3⟩ | ⟨h1, h2, h3⟩ | ⟨h1, h2, h3⟩
    · omega
    · omega
    · omega
    · have hA1 : ¬ (A : Int) < 1 := by omega
      have hB1 : ¬ (B : Int) < 1 := by omega
      have hAB : (A : Int) * (B : Int) = (P : Int) := by rw [← h3, Int.natCast_mul]
      clear h1 h2 h3
      go_enter Try.func5, Try.ntmps5
      go_wp2_with (first
    | (go_at_call 18; refine (HD.out _ hB).mono ?_; rintro e w1 ⟨v1, u1, rfl, ho1, hu1, hb1⟩; have HP1 := hide (HPm.out _ _ _ _ ho1 hu1); obtain ⟨eo, fo, rfl⟩ := own_slice ho1; obtain ⟨eu, fu, rfl⟩ := own_slice hu1; have hBx := Below.next hB hb1; have hAx := alloc_below w1 (.cells #[.int .i64 r.inp, .slice eo r.ops.length fo, .slice eu r.outs.length fu] 25); have n3 := heap_alloc_new w1 (.cells #[.int .i64 r.inp, .slice eo r.ops.length fo, .slice eu r.outs.length fu] 25); have hB2 := Below.next hBx hAx; have m1 := (hAx.block _ (Nat.lt_of_lt_of_le (Array.getElem?_eq_some_iff.1 n1).1 hb1.size)).trans ((hb1.block _ (Array.getElem?_eq_some_iff.1 n1).1).trans n1); have m2 := (hAx.block _ (Nat.lt_of_lt_of_le (Array.getElem?_eq_some_iff.1 n2).1 hb1.size)).trans ((hb1.block _ (Array.getElem?_eq_some_iff.1 n2).1).trans n2); obtain ⟨p0, p1, p2⟩ := cell3 m1; clear ho1 hu1)
    | (go_at_call 9; with_reducible refine Calls.mono (HH.out _ _ HP5.out) ?_; rintro e w6 ⟨rfl, hb6⟩; have hB6 := Below.next hB5 hb6)
    | (go_at_call 9; with_reducible refine Calls.mono (HG.out _ hB4) ?_; rintro e w5 ⟨rfl, hb5⟩; have hB5 := Below.next hB4 hb5; have HP5 := hide (((HP1.out.below hAx).below hb4).below hb5); obtain ⟨x0, x1, x2⟩ := cell3 ((hb5.block _ (Nat.lt_of_lt_of_le (Array.getElem?_eq_some_iff.1 n3).1 hb4.size)).trans ((hb4.block _ (Array.getElem?_eq_some_iff.1 n3).1).trans n3)))
    | (go_at_call 9; with_reducible refine Calls.mono (HF.out _ hB2) ?_; rintro e w4 ⟨rfl, hb4⟩; have hB4 := Below.next hB2 hb4; obtain ⟨q0, q1, q2⟩ := cell3 ((hb4.block _ (Array.getElem?_eq_some_iff.1 m2).1).trans m2))
    | (go_at_call 12; refine (HX.out _).mono ?_; rintro e w7 ⟨rfl, hb7⟩; have hB7 := Below.next hB6 hb7))
      go_ret
      exact ⟨rfl, hB7⟩
  · rw [hs1, hs2] at HH
    have hle : (C : Int) ≤ (P : Int) := by omega
    clear hs1 hs2
    rcases hxy with ⟨h1, h2, h3⟩ | ⟨h1, h2, h3⟩ | ⟨h1, h2, h3⟩ | ⟨h1, h2, h3⟩
    · subst h3
      have hA1 : (A : Int) < 1 := by omega
      have hB1 : (B : Int) < 1 := by omega
      have hle2 : (C : Int) ≤ 1 := by omega
      clear h1 h2 hs3 hle
      go_enter Try.func5, Try.ntmps5
      go_wp2_with (first
    | (go_at_call 18; refine (HD.out _ hB).mono ?_; rintro e w1 ⟨v1, u1, rfl, ho1, hu1, hb1⟩; have HP1 := hide (HPm.out _ _ _ _ ho1 hu1); obtain ⟨eo, fo, rfl⟩ := own_slice ho1; obtain ⟨eu, fu, rfl⟩ := own_slice hu1; have hBx := Below.next hB hb1; have hAx := alloc_below w1 (.cells #[.int .i64 r.inp, .slice eo r.ops.length fo, .slice eu r.outs.length fu] 25); have n3 := heap_alloc_new w1 (.cells #[.int .i64 r.inp, .slice eo r.ops.length fo, .slice eu r.outs.length fu] 25); have hB2 := Below.next hBx hAx; have m1 := (hAx.block _ (Nat.lt_of_lt_of_le (Array.getElem?_eq_some_iff.1 n1).1 hb1.size)).trans ((hb1.block _ (Array.getElem?_eq_some_iff.1 n1).1).trans n1); have m2 := (hAx.block _ (Nat.lt_of_lt_of_le (Array.getElem?_eq_some_iff.1 n2).1 hb1.size)).trans ((hb1.block _ (Array.getElem?_eq_some_iff.1 n2).1).trans n2); obtain ⟨p0, p1, p2⟩ := cell3 m1; clear ho1 hu1)
    | (go_at_call 9; with_reducible refine Calls.mono (HH.out _ _ HP5.out) ?_; rintro e w6 ⟨rfl, hb6⟩; have hB6 := Below.next hB5 hb6)
    | (go_at_call 9; with_reducible refine Calls.mono (HG.out _ hB4) ?_; rintro e w5 ⟨rfl, hb5⟩; have hB5 := Below.next hB4 hb5; have HP5 := hide (((HP1.out.below hAx).below hb4).below hb5); obtain ⟨x0, x1, x2⟩ := cell3 ((hb5.block _ (Nat.lt_of_lt_of_le (Array.getElem?_eq_some_iff.1 n3).1 hb4.size)).trans ((hb4.block _ (Array.getElem?_eq_some_iff.1 n3).1).trans n3)))
    | (go_at_call 9; with_reducible refine Calls.mono (HF.out _ hB2) ?_; rintro e w4 ⟨rfl, hb4⟩; have hB4 := Below.next hB2 hb4; obtain ⟨q0, q1, q2⟩ := cell3 ((hb4.block _ (Array.getElem?_eq_some_iff.1 m2).1).trans m2))
    | (go_at_call 12; refine (HX.out _).mono ?_; rintro e w7 ⟨rfl, hb7⟩; have hB7 := Below.next hB6 hb7))
      go_ret
      exact ⟨rfl, hB7⟩
    · subst h3
      have hA1 : (A : Int) < 1 := by omega
      have hB1 : ¬ (P : Int) < 1 := by omega
      clear h1 h2 hs3
      go_enter Try.func5, Try.ntmps5
      go_wp2_with (first
    | (go_at_call 18; refine (HD.out _ hB).mono ?_; rintro e w1 ⟨v1, u1, rfl, ho1, hu1, hb1⟩; have HP1 := hide (HPm.out _ _ _ _ ho1 hu1); obtain ⟨eo, fo, rfl⟩ := own_slice ho1; obtain ⟨eu, fu, rfl⟩ := own_slice hu1; have hBx := Below.next hB hb1; have hAx := alloc_below w1 (.cells #[.int .i64 r.inp, .slice eo r.ops.length fo, .slice eu r.outs.length fu] 25); have n3 := heap_alloc_new w1 (.cells #[.int .i64 r.inp, .slice eo r.ops.length fo, .slice eu r.outs.length fu] 25); have hB2 := Below.next hBx hAx; have m1 := (hAx.block _ (Nat.lt_of_lt_of_le (Array.getElem?_eq_some_iff.1 n1).1 hb1.size)).trans ((hb1.block _ (Array.getElem?_eq_some_iff.1 n1).1).trans n1); have m2 := (hAx.block _ (Nat.lt_of_lt_of_le (Array.getElem?_eq_some_iff.1 n2).1 hb1.size)).trans ((hb1.block _ (Array.getElem?_eq_some_iff.1 n2).1).trans n2); obtain ⟨p0, p1, p2⟩ := cell3 m1; clear ho1 hu1)
    | (go_at_call 9; with_reducible refine Calls.mono (HH.out _ _ HP5.out) ?_; rintro e w6 ⟨rfl, hb6⟩; have hB6 := Below.next hB5 hb6)
    | (go_at_call 9; with_reducible refine Calls.mono (HG.out _ hB4) ?_; rintro e w5 ⟨rfl, hb5⟩; have hB5 := Below.next hB4 hb5; have HP5 := hide (((HP1.out.below hAx).below hb4).below hb5); obtain ⟨x0, x1, x2⟩ := cell3 ((hb5.block _ (Nat.lt_of_lt_of_le (Array.getElem?_eq_some_iff.1 n3).1 hb4.size)).trans ((hb4.block _ (Array.getElem?_eq_some_iff.1 n3).1).trans n3)))
    | (go_at_call 9; with_reducible refine Calls.mono (HF.out _ hB2) ?_; rintro e w4 ⟨rfl, hb4⟩; have hB4 := Below.next hB2 hb4; obtain ⟨q0, q1, q2⟩ := cell3 ((hb4.block _ (Array.getElem?_eq_some_iff.1 m2).1).trans m2))
    | (go_at_call 12; refine (HX.out _).mono ?_; rintro e w7 ⟨rfl, hb7⟩; have hB7 := Below.next hB6 hb7))
      go_ret
      exact ⟨rfl, hB7⟩
    · subst h3
      have hA1 : ¬ (P : Int) < 1 := by omega
      have hB1 : (B : Int) < 1 := by omega
      clear h1 h2 hs3
      go_enter Try.func5, Try.ntmps5
      go_wp2_with (first
    | (go_at_call 18; refine (HD.out _ hB).mono ?_; rintro e w1 ⟨v1, u1, rfl, ho1, hu1, hb1⟩; have HP1 := hide (HPm.out _ _ _ _ ho1 hu1); obtain ⟨eo, fo, rfl⟩ := own_slice ho1; obtain ⟨eu, fu, rfl⟩ := own_slice hu1; have hBx := Below.next hB hb1; have hAx := alloc_below w1 (.cells #[.int .i64 r.inp, .slice eo r.ops.length fo, .slice eu r.outs.length fu] 25); have n3 := heap_alloc_new w1 (.cells #[.int .i64 r.inp, .slice eo r.ops.length fo, .slice eu r.outs.length fu] 25); have hB2 := Below.next hBx hAx; have m1 := (hAx.block _ (Nat.lt_of_lt_of_le (Array.getElem?_eq_some_iff.1 n1).1 hb1.size)).trans ((hb1.block _ (Array.getElem?_eq_some_iff.1 n1).1).trans n1); have m2 := (hAx.block _ (Nat.lt_of_lt_of_le (Array.getElem?_eq_some_iff.1 n2).1 hb1.size)).trans ((hb1.block _ (Array.getElem?_eq_some_iff.1 n2).1).trans n2); obtain ⟨p0, p1, p2⟩ := cell3 m1; clear ho1 hu1)
    | (go_at_call 9; with_reducible refine Calls.mono (HH.out _ _ HP5.out) ?_; rintro e w6 ⟨rfl, hb6⟩; have hB6 := Below.next hB5 hb6)
    | (go_at_call 9; with_reducible refine Calls.mono (HG.out _ hB4) ?_; rintro e w5 ⟨rfl, hb5⟩; have hB5 := Below.next hB4 hb5; have HP5 := hide (((HP1.out.below hAx).below hb4).below hb5); obtain ⟨x0, x1, x2⟩ := cell3 ((hb5.block _ (Nat.lt_of_lt_of_le (Array.getElem?_eq_some_iff.1 n3).1 hb4.size)).trans ((hb4.block _ (Array.getElem?_eq_some_iff.1 n3).1).trans n3)))
    | (go_at_call 9; with_reducible refine Calls.mono (HF.out _ hB2) ?_; rintro e w4 ⟨rfl, hb4⟩; have hB4 := Below.next hB2 hb4; obtain ⟨q0, q1, q2⟩ := cell3 ((hb4.block _ (Array.getElem?_eq_some_iff.1 m2).1).trans m2))
    | (go_at_call 12; refine (HX.out _).mono ?_; rintro e w7 ⟨rfl, hb7⟩; have hB7 := Below.next hB6 hb7))
      go_ret
      exact ⟨rfl, hB7⟩
    · have hA1 : ¬ (A : Int) < 1 := by omega
      have hB1 : ¬ (B : Int) < 1 := by omega
      have hAB : (A : Int) * (B : Int) = (P : Int) := by rw [← h3, Int.natCast_mul]
      clear h1 h2 h3 hs3
      go_enter Try.func5, Try.ntmps5
      go_wp2_with (first
    | (go_at_call 18; refine (HD.out _ hB).mono ?_; rintro e w1 ⟨v1, u1, rfl, ho1, hu1, hb1⟩; have HP1 := hide (HPm.out _ _ _ _ ho1 hu1); obtain ⟨eo, fo, rfl⟩ := own_slice ho1; obtain ⟨eu, fu, rfl⟩ := own_slice hu1; have hBx := Below.next hB hb1; have hAx := alloc_below w1 (.cells #[.int .i64 r.inp, .slice eo r.ops.length fo, .slice eu r.outs.length fu] 25); have n3 := heap_alloc_new w1 (.cells #[.int .i64 r.inp, .slice eo r.ops.length fo, .slice eu r.outs.length fu] 25); have hB2 := Below.next hBx hAx; have m1 := (hAx.block _ (Nat.lt_of_lt_of_le (Array.getElem?_eq_some_iff.1 n1).1 hb1.size)).trans ((hb1.block _ (Array.getElem?_eq_some_iff.1 n1).1).trans n1); have m2 := (hAx.block _ (Nat.lt_of_lt_of_le (Array.getElem?_eq_some_iff.1 n2).1 hb1.size)).trans ((hb1.block _ (Array.getElem?_eq_some_iff.1 n2).1).trans n2); obtain ⟨p0, p1, p2⟩ := cell3 m1; clear ho1 hu1)
    | (go_at_call 9; with_reducible refine Calls.mono (HH.out _ _ HP5.out) ?_; rintro e w6 ⟨rfl, hb6⟩; have hB6 := Below.next hB5 hb6)
    | (go_at_call 9; with_reducible refine Calls.mono (HG.out _ hB4) ?_; rintro e w5 ⟨rfl, hb5⟩; have hB5 := Below.next hB4 hb5; have HP5 := hide (((HP1.out.below hAx).below hb4).below hb5); obtain ⟨x0, x1, x2⟩ := cell3 ((hb5.block _ (Nat.lt_of_lt_of_le (Array.getElem?_eq_some_iff.1 n3).1 hb4.size)).trans ((hb4.block _ (Array.getElem?_eq_some_iff.1 n3).1).trans n3)))
    | (go_at_call 9; with_reducible refine Calls.mono (HF.out _ hB2) ?_; rintro e w4 ⟨rfl, hb4⟩; have hB4 := Below.next hB2 hb4; obtain ⟨q0, q1, q2⟩ := cell3 ((hb4.block _ (Array.getElem?_eq_some_iff.1 m2).1).trans m2))
    | (go_at_call 12; refine (HX.out _).mono ?_; rintro e w7 ⟨rfl, hb7⟩; have hB7 := Below.next hB6 hb7))
      go_ret
      exact ⟨rfl, hB7⟩

theorem degAfter_any (w : World) (vp vq : Value) (p q : Pr) (hp : Pm w vp p) (hq : Pm w vq q) : Calls Try.prog 5 #[vp, vq] w fun e w' => e = .returned (.bool true) ∧ Below w.heap.size w w' := by
  by_cases hE : aftE p q = 0
  · by_cases h1 : ofE p = 0
    · by_cases h2 : ofE q = 0
      · exact degAfter_ok w vp vq p q hp hq hE h1 h2
      · exact degAfter_err2 w vp vq p q hp hq hE h1 h2
    · exact degAfter_err1 w vp vq p q hp hq hE h1
  · exact degAfter_no w vp vq p q hp hq hE

end Go.Proofs.Ytfgokcphnkkgnaa
