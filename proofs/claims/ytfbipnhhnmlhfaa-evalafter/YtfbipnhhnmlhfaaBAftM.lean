/-
  Layer 10, plain: what is put behind another program may be.
-/
import Derived.Test.YtfbipnhhnmlhfaaBMemB
import Derived.Test.YtfbipnhhnmlhfaaBunX
namespace Go.Proofs.Ytfbipnhhnmlhfaa
open Go.RowKit Fld Slp
set_option linter.unusedVariables false
set_option linter.unusedSimpArgs false

/-- Where a value of p goes in the program of both. -/
theorem aft_range {q : Pr} (hq : mayB q = true) {n i k : Nat} (hi : i ≤ n) (hk : k < q.outs.length + i) : 0 ≤ (aftAt q n).getD k 0 ∧ (aftAt q n).getD k 0 < q.inp + (q.ops.length : Int) + (i : Int) := by
  obtain ⟨⟨j0, j1, l2, l4⟩, qo, qu⟩ := mayB_iff.1 hq
  by_cases h : k < q.outs.length
  · rw [aft_low h]
    have := of_decide_eq_true (List.all_eq_true.1 qu q.outs[k] (List.getElem_mem h))
    omega
  · rw [aft_high h (by omega)]
    omega
theorem aft_may {p q : Pr} (hE : aftE p q = 0) : mayB (aftF p q) = true := by
  obtain ⟨hm, hq, hl, hlen⟩ := aftE_zero hE
  obtain ⟨⟨i0, i1, l1, l3⟩, mo, mu⟩ := mayB_iff.1 hm
  obtain ⟨⟨j0, j1, l2, l4⟩, qo, qu⟩ := mayB_iff.1 hq
  refine mayB_iff.2 ⟨⟨j0, j1, by unfold aftF; simp; omega, by unfold aftF; simp; omega⟩, ?_, ?_⟩
  · refine opsM_all _ 0 (fun j hj => ?_)
    rw [Nat.zero_add]
    have hin : (aftF p q).inp = q.inp := rfl
    rw [hin]
    by_cases h1 : j < q.ops.length
    · have e : (aftF p q).ops[j] = q.ops[j] := List.getElem_append_left h1
      rw [e]
      have := opsM_get q.inp q.ops 0 j h1 qo
      rw [Nat.zero_add] at this; exact this
    · obtain ⟨i, rfl⟩ : ∃ i, j = q.ops.length + i := ⟨j - q.ops.length, by omega⟩
      have hi : i < p.ops.length := by
        have : (aftF p q).ops.length = q.ops.length + p.ops.length := by unfold aftF; simp
        omega
      have e : (aftF p q).ops[q.ops.length + i] = shO (aftAt q p.ops.length) p.ops[i] := by
        have h2 : (aftF p q).ops[q.ops.length + i]? = some (shO (aftAt q p.ops.length) p.ops[i]) := by
          show (q.ops ++ p.ops.map (shO (aftAt q p.ops.length)))[q.ops.length + i]? = _
          rw [List.getElem?_append_right (by omega), Nat.add_sub_cancel_left, List.getElem?_map, List.getElem?_eq_getElem hi]; rfl
        rw [List.getElem?_eq_getElem hj] at h2
        exact Option.some.inj h2
      rw [e]
      have hop := opsM_get p.inp p.ops 0 i hi mo
      rw [Nat.zero_add] at hop
      unfold shO
      by_cases h4 : p.ops[i].k = 4
      · rw [if_pos h4]
        unfold opM at hop ⊢
        rw [if_neg (by omega), if_pos h4] at hop ⊢
        exact hop
      · rw [if_neg h4]
        unfold opM at hop ⊢
        by_cases hk : p.ops[i].k = 1 ∨ p.ops[i].k = 2 ∨ p.ops[i].k = 3
        · rw [if_pos hk, decide_eq_true_iff] at hop ⊢
          have q1 := aft_range hq (n := p.ops.length) (i := i) (k := p.ops[i].a.toNat) (Nat.le_of_lt hi) (by omega)
          have q2 := aft_range hq (n := p.ops.length) (i := i) (k := p.ops[i].b.toNat) (Nat.le_of_lt hi) (by omega)
          exact ⟨q1.1, by have := q1.2; dsimp only; omega, q2.1, by have := q2.2; dsimp only; omega, hop.2.2.2.2⟩
        · rw [if_neg hk, if_neg h4] at hop; cases hop
  · show (p.outs.map _).all _ = true
    rw [List.all_eq_true]
    intro x hx
    obtain ⟨v, hv, rfl⟩ := List.mem_map.1 hx
    have h1 := of_decide_eq_true (List.all_eq_true.1 mu v hv)
    have h2 := aft_range hq (n := p.ops.length) (i := p.ops.length) (k := v.toNat) (Nat.le_refl _) (by omega)
    have hln : (aftF p q).ops.length = q.ops.length + p.ops.length := by unfold aftF; simp
    refine decide_eq_true ⟨h2.1, ?_⟩
    have := h2.2
    show _ < q.inp + ((aftF p q).ops.length : Int)
    omega

end Go.Proofs.Ytfbipnhhnmlhfaa
