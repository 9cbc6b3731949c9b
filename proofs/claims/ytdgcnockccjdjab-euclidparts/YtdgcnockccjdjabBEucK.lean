/-
  Euclid: the document's own Modulo and Ratio.
-/
import Derived.Test.YtdgcnockccjdjabBEucJ
namespace Go.Proofs.Ytdgcnockccjdjab
open Go.RowKit Fld
set_option linter.unusedVariables false

namespace Fld
/-- Divided by itself an element is 1. -/
theorem inv_pl {p : Int} {wd : Bool} (hm : Md p wd) {c : Int} (hc : El p c) (h0 : c ≠ 0) : qm (pl p [inv p c]) (pl p [c]) = pl p [1] := by
  have hi := inv_one hm hc h0
  have hb := hm.bounds
  have e1 : (1 : Int) % p = 1 := Int.emod_eq_of_lt (by omega) (by omega)
  rw [← pl_two, Int.mul_comm, hi, e1]
/-- By an element everything has the remainder 0. -/
theorem mo_one {p : Int} {wd : Bool} (hm : Md p wd) {a m : List Int} (hme : Els p m) (hl : (tr m).length = 1) : Mo p a m [] true := by
  have hp : 0 < p := by have := hm.bounds; omega
  obtain ⟨c, hc⟩ := List.length_eq_one_iff.1 hl
  have h6 := last_el hp (Tm.tr hp hme) (by rw [hc]; simp)
  rw [hc] at h6
  refine .inl ⟨rfl, Tm.nil p, by rw [hl]; simp, [inv p c], [], ?_⟩
  rw [pl_nil_left, pl_nil_left, pl_nil_add, pl_add_nil, ← pl_tr p m, hc]
  exact inv_pl hm h6.1 h6.2
/-- Where the common divisor has a degree there is no inverse. -/
theorem mo_none {p : Int} {wd : Bool} (hm : Md p wd) {a m q a' g : List Int} (hme : Els p m) (hne : tr m ≠ []) (hd : Dv p a (tr m) q a') (hg : Gc p a' (tr m) g) (hl : g.length ≠ 1) : Mo p a m [] false := by
  have hp : 0 < p := by have := hm.bounds; omega
  have h1 := Dd.len hm hg.1 (Tm.tr hp hme) hg.2.2.2.1 hne
  have h2 := List.length_pos_iff.2 h1.1
  exact .inr ⟨rfl, rfl, g, hg.1, by omega, Dd.dv hd hg.2.2.2.1 hg.2.2.1, hg.2.2.2.1.same (pl_tr p m)⟩
/-- Where it has none the row that is found is an element. -/
theorem row_el {p : Int} {wd : Bool} (hm : Md p wd) {a' m' g : List Int} {A B : R3} (ha : Els p a') (hm' : Els p m') (hl : 2 ≤ (tr m').length) (hg : Gc p a' m' g) (h1 : g.length = 1) (h : Fnd p 1 m' a' A B) : ∃ c, B.x = [c] ∧ El p c ∧ c ≠ 0 := by
  have hp : 0 < p := by have := hm.bounds; omega
  have hne : B.x ≠ [] := by
    intro e
    rcases h.case hm hm' ha with ⟨h2, _⟩ | ⟨hi, _, h2, _⟩
    · omega
    · have h3 := (hi.com A.x).1 ⟨Dd.refl _ _, by rw [e]; exact Dd.nil _ _⟩
      have h4 := hg.2.2.2.2 A.x h3.2 h3.1
      have h5 := Dd.len hm hi.tx hg.1 h4 (fun e => by rw [e] at h1; simp at h1)
      omega
  have h3 := (h.made hm hm' ha).2.1
  have h4 := List.length_pos_iff.2 hne
  obtain ⟨c, hc⟩ := List.length_eq_one_iff.1 (show B.x.length = 1 by omega)
  have h6 := last_el hp (h.tm hm hm' ha).1 hne
  rw [hc] at h6
  exact ⟨c, hc, h6.1, h6.2⟩
theorem mo_ref {p : Int} {wd : Bool} (hm : Md p wd) {a m a' q u v1 v2 q2 : List Int} (hd : Dv p a (tr m) q a') (he : qa (qm (pl p v1) (pl p a')) (qm (pl p u) (pl p (tr m))) = pl p [1]) (hd2 : Dv p v1 (tr m) q2 v2) : Mo p a m v2 true := by
  have h1 := hd.rg.2.2.2
  have h2 := hd2.rg.2.2.2
  have hl := hd2.rg.2.2.1
  rw [tr_tr] at hl
  refine .inl ⟨rfl, hd2.rg.2.1, hl, sm p 1 (prd p q2 a') u, prd p v2 q, ?_⟩
  rw [pl_add, pl_mul, pl_mul, ← h1, ← he, ← h2, ← pl_tr p m]
  simp only [qa_qm, qm_qa, qm_assoc, qa_assoc]
  simp only [qa_assoc, qa_comm, qa_left, qm_comm, qm_left]
theorem mo_row {p : Int} {wd : Bool} (hm : Md p wd) {a' m' v1 : List Int} {A B : R3} {c : Int} (ha : Els p a') (hm' : Els p m') (h : Fnd p 1 m' a' A B) (hx : B.x = [c]) (hc : El p c) (h0 : c ≠ 0) (hv : pl p v1 = qm (pl p [inv p c]) (pl p B.v)) :
    qa (qm (pl p v1) (pl p a')) (qm (pl p (prd p [inv p c] B.u)) (pl p m')) = pl p [1] := by
  have h1 := (h.made hm hm' ha).1
  rw [hx] at h1
  rw [← inv_pl hm hc h0, h1, hv, pl_mul, qm_qa, qm_assoc, qm_assoc, qa_comm]
end Fld

theorem chE_swap {f : Int} {xs ys : List Int} (h : chE f xs ys = 0) (h1 : ∀ x ∈ xs, 0 ≤ x ∧ x ≤ 18446744073709551615) (h2 : ∀ x ∈ ys, 0 ≤ x ∧ x ≤ 18446744073709551615) : chE f ys xs = 0 := by
  obtain ⟨p, wd, hf, i1, i2, l1, l2⟩ := chE_zero h
  exact chE_yes hf (els_of i2 h2) (els_of i1 h1) l2 l1

end Go.Proofs.Ytdgcnockccjdjab
