/- Texts laid together: SlxD, SlxE. -/
import Derived.Test.YtfbipnhhnmlhfabBunX
namespace Go.Proofs.Ytfbipnhhnmlhfab
open Go.RowKit Fld Slp
set_option linter.unusedVariables false
set_option linter.unusedSimpArgs false

theorem aftAt_in {q : Pr} {n : Nat} (hu : Iw q.outs) (h0 : 0 ≤ q.inp) (h1 : q.inp ≤ 64) (ho : q.ops.length ≤ 256) (hn : n ≤ 256) (k : Nat) : -9223372036854775808 ≤ (aftAt q n).getD k 0 ∧ (aftAt q n).getD k 0 ≤ 9223372036854775807 := by
  by_cases hk : k < q.outs.length
  · rw [aft_low hk]; exact hu _ (List.getElem_mem hk)
  · by_cases h2 : k < q.outs.length + n
    · rw [aft_high hk h2]; omega
    · rw [List.getD_eq_getElem?_getD, List.getElem?_eq_none (by rw [aftAt_len]; omega)]
      decide
theorem aft_ok {p q : Pr} (hp : ∀ o ∈ p.ops, Ok4 o) (hq : ∀ o ∈ q.ops, Ok4 o) (hu : Iw q.outs) (hE : aftE p q = 0) : (∀ o ∈ (aftF p q).ops, Ok4 o) ∧ Iw (aftF p q).outs := by
  obtain ⟨hm, hm2, hl, hlen⟩ := aftE_zero hE
  obtain ⟨⟨j0, j1, l2, l4⟩, _, _⟩ := mayB_iff.1 hm2
  have hin := fun k => aftAt_in (q := q) (n := p.ops.length) hu j0 j1 l2 (by omega) k
  constructor
  · intro o ho
    rcases List.mem_append.1 ho with ho | ho
    · exact hq o ho
    · obtain ⟨x, hx, rfl⟩ := List.mem_map.1 ho
      unfold shO
      split
      · exact hp x hx
      · exact ⟨(hp x hx).1, hin _, hin _, (hp x hx).2.2.2⟩
  · intro v hv
    obtain ⟨x, hx, rfl⟩ := List.mem_map.1 hv
    exact hin _
theorem aft_pm {w w' : World} {v1 v2 vo vu : Value} {p q : Pr} {B : Nat} (h1 : Pm w v1 p) (h2 : Pm w v2 q) (ho : w'.ownsRow B 67 4 vo (aftP p q).ops.length ((aftP p q).ops.flatMap opw)) (hu : w'.ownsRow B 3 1 vu (aftP p q).outs.length ((aftP p q).outs.flatMap iw)) :
    Pm w' (.agg #[.int .i64 (aftP p q).inp, vo, vu]) (aftP p q) := by
  by_cases hE : aftE p q = 0
  · have eP : aftP p q = aftF p q := by unfold aftP; rw [if_pos hE]
    rw [eP] at ho hu ⊢
    obtain ⟨hm, hm2, hl, hlen⟩ := aftE_zero hE
    obtain ⟨⟨j0, j1, l2, l4⟩, _, _⟩ := mayB_iff.1 hm2
    obtain ⟨⟨i0, i1, l1, l3⟩, _, _⟩ := mayB_iff.1 hm
    obtain ⟨k1, k2⟩ := aft_ok h1.okb h2.okb h2.oub hE
    have n1 : (aftF p q).ops.length ≤ 140737488500000 := by unfold aftF; simp; omega
    have n2 : (aftF p q).outs.length ≤ 140737488500000 := by unfold aftF; simp; omega
    exact ⟨⟨vo, vu, rfl, lm_of_own opw_len (by decide) ho n1, lm_of_own iw_len (by decide) hu n2⟩, by show _ ∧ _; unfold aftF; constructor <;> simp <;> omega, k1, k2⟩
  · have eP : aftP p q = pz := by unfold aftP; rw [if_neg hE]
    rw [eP] at ho hu ⊢
    exact ⟨⟨vo, vu, rfl, lm_of_own opw_len (by decide) ho (by decide), lm_of_own iw_len (by decide) hu (by decide)⟩, by decide, (fun o ho => by cases ho), (fun x hx => by cases hx)⟩

end Go.Proofs.Ytfbipnhhnmlhfab

namespace Go.Proofs.Ytfbipnhhnmlhfab
open Go.RowKit Fld Slp
set_option linter.unusedVariables false
set_option linter.unusedSimpArgs false

end Go.Proofs.Ytfbipnhhnmlhfab

