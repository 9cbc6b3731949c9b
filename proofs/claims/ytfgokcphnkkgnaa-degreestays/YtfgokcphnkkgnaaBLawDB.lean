/-
  The statements of layer 10: DegreeUses walked.
-/
import Derived.Test.YtfgokcphnkkgnaaBDgpG
import Derived.Test.YtfgokcphnkkgnaaBDgrD
import Derived.Test.YtfgokcphnkkgnaaBTrmC
import Derived.Test.YtfgokcphnkkgnaaBTrmD
import Derived.Test.YtfgokcphnkkgnaaBSlwD
namespace Go.Proofs.Ytfgokcphnkkgnaa
open Go.RowKit Fld Slp
set_option linter.unusedVariables false
set_option linter.unusedSimpArgs false

theorem usL_len (p : Pr) : (usL p).length ≤ 140737488500000 := by
  unfold usL
  split
  · rename_i hm
    obtain ⟨⟨i0, i1, l1, l2⟩, _, _⟩ := mayB_iff.1 hm
    exact Nat.le_trans (usJ_len p _) (by omega)
  · simp
/-- What Trim answers is a program in memory. -/
theorem tr_pm {w w' : World} {v vo vu : Value} {p : Pr} {B : Nat} (h : Pm w v p) (ho : w'.ownsRow B 52 4 vo (trR p).ops.length ((trR p).ops.flatMap opw)) (hu : w'.ownsRow B 3 1 vu (trR p).outs.length ((trR p).outs.flatMap iw)) : Pm w' (.agg #[.int .i64 (trR p).inp, vo, vu]) (trR p) := by
  cases hm : mayB p with
  | true =>
    have e : trR p = trP p := by unfold trR; rw [if_pos hm]
    rw [e] at ho hu ⊢
    obtain ⟨⟨i0, i1, l1, l2⟩, mo, mu⟩ := mayB_iff.1 hm
    obtain ⟨⟨j0, j1, k1, k2⟩, qo, qu⟩ := mayB_iff.1 (tr_may hm)
    refine ⟨⟨vo, vu, rfl, lm_of_own opw_len (by decide) ho (by omega), lm_of_own iw_len (by decide) hu (by omega)⟩, by omega, ?_, ?_⟩
    · intro o hoo
      obtain ⟨j, hj, rfl⟩ := List.mem_iff_getElem.1 hoo
      obtain ⟨i, h1, h2, h3⟩ := trS_from p p.ops.length j hj
      subst h3
      obtain ⟨hl, e2⟩ := trS_get h1 h1 h2
      have e3 : (trP p).ops[(trS p i).2.length]'hj = shO (trS p i).1 p.ops[i] := e2
      have hop := opsM_get (trP p).inp (trP p).ops 0 _ hj qo
      have ok := h.okb p.ops[i] (List.getElem_mem h1)
      rw [e3] at hop ⊢
      rw [Nat.zero_add] at hop
      unfold shO at hop ⊢
      by_cases h4 : p.ops[i].k = 4
      · rw [if_pos h4]; exact ok
      · rw [if_neg h4] at hop ⊢
        have hin : (trP p).inp = p.inp := rfl
        have hl2 := (trS_len p i).2
        unfold opM at hop
        split at hop
        · have := of_decide_eq_true hop
          dsimp only at this
          exact ⟨ok.1, by dsimp only; omega, by dsimp only; omega, ok.2.2.2⟩
        · first | (cases hop; done) | (rw [if_neg (by exact h4)] at hop; cases hop)
    · intro x hx
      have := of_decide_eq_true (List.all_eq_true.1 qu x hx)
      have hin : (trP p).inp = p.inp := rfl
      omega
  | false =>
    have e : trR p = pz := by unfold trR; rw [hm]; rfl
    rw [e] at ho hu ⊢
    exact ⟨⟨vo, vu, rfl, lm_of_own opw_len (by decide) ho (by decide), lm_of_own iw_len (by decide) hu (by decide)⟩, by decide, (fun o ho => by cases ho), (fun x hx => by cases hx)⟩

set_option maxRecDepth 100000 in
set_option maxHeartbeats 1000000 in
theorem degUses_any (w : World) (vp : Value) (p : Pr) (hp : Pm w vp p) : Calls Try.prog 4 #[vp] w fun e w' => e = .returned (.bool true) ∧ Below w.heap.size w w' := by
  have HP := hide hp
  obtain ⟨vo, vu, rfl, ho, hu⟩ := hp.form
  obtain ⟨ao, co, rfl, _⟩ := ho.spell
  obtain ⟨au, cu, rfl, _⟩ := hu.spell
  clear hp ho hu
  have hA := alloc_below w (.cells #[.int .i64 p.inp, .slice ao p.ops.length co, .slice au p.outs.length cu] 25)
  have hN := heap_alloc_new w (.cells #[.int .i64 p.inp, .slice ao p.ops.length co, .slice au p.outs.length cu] 25)
  have HA := hide (fun W' (hb : Below w.heap.size w W') => gUses _ p W' (HP.out.below hb))
  have HB := hide (fun W' (hb : Below w.heap.size w W') => dUses _ p W' (HP.out.below hb))
  have HC := hide (fun W' (hb : Below w.heap.size w W') => gTrim _ p W' (HP.out.below hb))
  have HD := hide (fun W' (hb : Below w.heap.size w W') => dTrim _ p W' (HP.out.below hb))
  have HPm := hide (fun w' B vo vu ho hu => tr_pm (w' := w') (vo := vo) (vu := vu) (B := B) HP.out ho hu)
  have HS := hide (fun W' v1 v2 (h1 : Pm W' v1 (trR p)) (h2 : Pm W' v2 (trR p)) => dSame v1 v2 _ _ W' h1 h2)
  unfold GivesI at HA HB
  unfold IsTrim at HC HD
  unfold IsSame at HS
  have HLn := hide (usL_len p)
  generalize usL p = l at *
  generalize usE p = er at *
  generalize trR p = r at *
  generalize trE p = g at *
  go_enter Try.func4, Try.ntmps4
  go_wp2_with (first
    | (go_at_call 13; refine (HA.out _ hA).mono ?_; rintro e w1 ⟨v1, rfl, ho1, hb1⟩; obtain ⟨a1, c1, rfl⟩ := own_slice ho1; have HL1 := hide (lm_of_own iw_len (by decide) ho1 HLn.out); have hB1 := Below.next hA hb1; have n1 := (hb1.block _ (Array.getElem?_eq_some_iff.1 hN).1).trans hN; obtain ⟨p0, p1, p2⟩ := cell3 n1; clear ho1)
    | (go_at_call 14; refine (HB.out _ hB1).mono ?_; rintro e w2 ⟨v2, rfl, ho2, hb2⟩; obtain ⟨a2, c2, rfl⟩ := own_slice ho2; have HL2 := hide (lm_of_own iw_len (by decide) ho2 HLn.out); have hB2 := Below.next hB1 hb2; have n2 := (hb2.block _ (Array.getElem?_eq_some_iff.1 n1).1).trans n1; clear p0 p1 p2; obtain ⟨p0, p1, p2⟩ := cell3 n2; clear ho2)
    | (go_at_call 15; refine (HC.out _ hB2).mono ?_; rintro e w3 ⟨v3, u3, rfl, ho3, hu3, hb3⟩; have HP3 := hide (HPm.out _ _ _ _ ho3 hu3); obtain ⟨eo, fo, rfl⟩ := own_slice ho3; obtain ⟨eu, fu, rfl⟩ := own_slice hu3; have hB3 := Below.next hB2 hb3; have hA3 := alloc_below w3 (.cells #[.int .i64 r.inp, .slice eo r.ops.length fo, .slice eu r.outs.length fu] 25); have m3 := heap_alloc_new w3 (.cells #[.int .i64 r.inp, .slice eo r.ops.length fo, .slice eu r.outs.length fu] 25); have hB4 := Below.next hB3 hA3; have n3 := (hA3.block _ (Nat.lt_of_lt_of_le (Array.getElem?_eq_some_iff.1 n2).1 hb3.size)).trans ((hb3.block _ (Array.getElem?_eq_some_iff.1 n2).1).trans n2); clear p0 p1 p2; obtain ⟨p0, p1, p2⟩ := cell3 n3; clear ho3 hu3)
    | (go_at_call 16; refine (HD.out _ hB4).mono ?_; rintro e w5 ⟨v5, u5, rfl, ho5, hu5, hb5⟩; have HP5 := hide (HPm.out _ _ _ _ ho5 hu5); obtain ⟨go, io, rfl⟩ := own_slice ho5; obtain ⟨gu, iu, rfl⟩ := own_slice hu5; have hB5 := Below.next hB4 hb5; have hA5 := alloc_below w5 (.cells #[.int .i64 r.inp, .slice go r.ops.length io, .slice gu r.outs.length iu] 25); have m5 := heap_alloc_new w5 (.cells #[.int .i64 r.inp, .slice go r.ops.length io, .slice gu r.outs.length iu] 25); have hB6 := Below.next hB5 hA5; have hb26 := Below.next (Below.next (Below.next hb3 hA3) hb5) hA5; have m4 := (hA5.block _ (Nat.lt_of_lt_of_le (Array.getElem?_eq_some_iff.1 m3).1 hb5.size)).trans ((hb5.block _ (Array.getElem?_eq_some_iff.1 m3).1).trans m3); clear ho5 hu5)
    | (go_at_call 11; refine (dInts _ _ _ _ _ ((HL1.out.below hb2).below hb26) (HL2.out.below hb26)).mono ?_; rintro e w7 ⟨r7, rfl, hr7, hb7⟩; obtain rfl : r7 = true := hr7.2 rfl; clear hr7; have hB7 := Below.next hB6 hb7; obtain ⟨x0, x1, x2⟩ := cell3 ((hb7.block _ (Array.getElem?_eq_some_iff.1 m4).1).trans m4); obtain ⟨y0, y1, y2⟩ := cell3 ((hb7.block _ (Array.getElem?_eq_some_iff.1 m5).1).trans m5))
    | (go_at_call 17; refine (HS.out _ _ _ ((((HP3.out.below hA3).below hb5).below hA5).below hb7) ((HP5.out.below hA5).below hb7)).mono ?_; rintro e w8 ⟨r8, rfl, hr8, hb8⟩; obtain rfl : r8 = true := (by simpa using hr8); clear hr8; have hB8 := Below.next hB7 hb8))
  go_ret
  exact ⟨rfl, hB8⟩

end Go.Proofs.Ytfgokcphnkkgnaa
