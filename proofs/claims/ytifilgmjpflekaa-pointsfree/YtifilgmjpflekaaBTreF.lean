/-
  Layer 6: lists of lists laid together (slices.Concat), the remainders, the program's and the document's.
-/
import Derived.Test.YtifilgmjpflekaaBTreE
import Derived.Lib.AppendZeros
import Derived.LoopN
namespace Go.Proofs.Ytifilgmjpflekaa
open Go.RowKit Fld
set_option linter.unusedVariables false

theorem sl_info : (Try.prog.info? 26).map (fun i => (i.zero, i.size, i.bytes)) = some (some (.slice none 0 0), 1, 24) := by kernel_rfl

/-- Noughts appended to nothing. -/
theorem zeros_nil (w : World) (k : Nat) (h0 : 0 < k) (hk : k ≤ 5864062014700) :
    ∃ cap w', (Builtin.append_ #[39, 3] 39 #[.slice none 0 0, .int .i64 (k : Int)]).run Try.prog w = .ok (.slice (some ⟨w.heap.size, 0, none⟩) k cap) w' ∧ w'.ownsRow w.heap.size 26 1 (.slice (some ⟨w.heap.size, 0, none⟩) 0 cap) 0 [] ∧ w.grownBy w' none := by
  obtain ⟨i0, hi0, hz0, hz1, hz2⟩ := info_parts sl_info
  have hr := Lib.run_append_nil_zeros (P := Try.prog) w 39 3 39 26 i0 (.slice none 0 0) .i64 .i64 Try.underlying39 Try.underlying3 hi0 hz0 k h0 (by omega) (by omega) (by rw [hz2]; omega)
  have hge := grownCap_ge w k 0 26
  have hcm : grownCap w k 0 26 ≤ maxLen := grownCap_le_maxLen w k 0 26 (by unfold maxLen; omega)
  refine ⟨_, _, hr, ⟨rfl, .inr ⟨w.heap.size, _, _, rfl, Nat.le_refl _, heap_alloc_new w.drew _, Nat.zero_le _, hcm, ?_, rfl⟩⟩, ⟨rfl, rfl, rfl, by simp, fun j hj _ => heap_alloc_old w.drew _ hj⟩⟩
  simp only [Array.size_append, size_zeroCells]
  simp [Value.cells]
  omega

/-- The values of the lists. -/
theorem Rws.values {w : World} {v : Value} {xss : List (List Int)} (h : Rws w v xss) : ∃ us : List Value, us.length = xss.length ∧ (∀ i, i < xss.length → Rw w (us.getD i nov) (xss.getD i [])) ∧ (∀ u ∈ us, u.oneCell' = true) ∧
    ∃ ao cap, v = .slice ao xss.length cap ∧ ∀ j u, us[j]? = some u → ∃ b off, ao = some ⟨b, off, none⟩ ∧ b < w.heap.size ∧ w.cell? ⟨b, off + j, none⟩ = some u := by
  obtain ⟨ao, cap, rfl, h1, h2, h3⟩ := h
  have pick : ∀ n, n ≤ xss.length → ∃ us : List Value, us.length = n ∧ ∀ i, i < n → Rw w (us.getD i nov) (xss.getD i []) ∧ ∃ b off, ao = some ⟨b, off, none⟩ ∧ b < w.heap.size ∧ w.cell? ⟨b, off + i, none⟩ = some (us.getD i nov) := by
    intro n
    induction n with
    | zero => intro _; exact ⟨[], rfl, fun i hi => by omega⟩
    | succ n ih =>
      intro hn
      obtain ⟨us, hl, hu⟩ := ih (by omega)
      obtain ⟨b, off, e, hb, hc⟩ := h3 (by intro e; rw [e] at hn; simp at hn)
      obtain ⟨u, hcu, hru⟩ := hc n (by omega)
      refine ⟨us ++ [u], by simp [hl], fun i hi => ?_⟩
      rw [getD_snoc, hl]
      by_cases hin : i < n
      · rw [if_pos hin]; exact hu i hin
      · have : i = n := by omega
        subst this
        rw [if_neg hin, if_pos rfl]
        exact ⟨hru, b, off, e, hb, hcu⟩
  obtain ⟨us, hl, hu⟩ := pick xss.length (Nat.le_refl _)
  refine ⟨us, hl, fun i hi => (hu i hi).1, fun u hm => ?_, ao, cap, rfl, fun j u hj => ?_⟩
  · obtain ⟨i, hi, rfl⟩ := List.mem_iff_getElem.1 hm
    have := (hu i (by omega)).1.spell
    rw [List.getD_eq_getElem?_getD, List.getElem?_eq_getElem hi] at this
    obtain ⟨a, c, e, _⟩ := this
    have e : us[i] = _ := e
    rw [e]; rfl
  · have hjl : j < us.length := by
      apply Nat.lt_of_not_le; intro hcn; rw [List.getElem?_eq_none hcn] at hj; cases hj
    obtain ⟨_, b, off, e, hb, hc⟩ := hu j (by omega)
    refine ⟨b, off, e, hb, ?_⟩
    rw [hc, List.getD_eq_getElem?_getD, hj]; rfl

theorem add_at (b off j : Nat) : (⟨b, off, none⟩ : Addr).add j = ⟨b, off + j, none⟩ := by unfold Addr.add; split <;> simp_all

end Go.Proofs.Ytifilgmjpflekaa
