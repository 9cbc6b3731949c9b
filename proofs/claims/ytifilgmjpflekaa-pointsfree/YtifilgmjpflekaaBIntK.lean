/-
  Layer 7: the document's Through, Value, Change, Fits.
-/
import Derived.Test.YtifilgmjpflekaaBIntJ
import Derived.Lib.AppendZeros
namespace Go.Proofs.Ytifilgmjpflekaa
open Go.RowKit Fld
set_option linter.unusedVariables false

theorem step_append_run {P : Program} {ops : Array Oper} {o : Oper} {a : Act} {w : World} {K : Act → World → Prop} {Q : Exit → Act → World → Prop} {E : Prop} (hgd : o.guard = none) (s x : Operand) (t tn : TypeId)
    (ho : o.op = .call { callee := .builtin .append, args := #[s, x], argTypes := #[t, tn] }) (vs vx : Value) (hs : a.eval s = vs) (hx : a.eval x = vx)
    (v' : Value) (w' : World) (hr : (Builtin.append_ #[t, tn] o.type #[vs, vx]).run P w = .ok v' w') (h : K (a.put o.dst v') w') : if Region.wanted o (yielded ops a.tmps) = true then Oper.wp P o a w K Q else E := by
  have hw : Region.wanted o (yielded ops a.tmps) = true := by simp [Region.wanted, hgd]
  rw [if_pos hw]
  exact Lib.wp_append_run w s x t tn ho vs vx hs hx v' w' hr h
/-- A piece of a list. -/
theorem Rw.piece {w : World} {b off n cap : Nat} {xs : List Int} (h : Rw w (.slice (some ⟨b, off, none⟩) n cap) xs) {k m : Nat} (hk : k + m ≤ xs.length) : Rw w (.slice (some ⟨b, off + k, none⟩) m (cap - k)) ((xs.drop k).take m) := by
  obtain ⟨⟨ao', cap', h1, h2, h3, h4⟩, a, q, c, h5, h6⟩ := h
  cases h1; cases h5
  have hl : ((xs.drop k).take m).length = m := by rw [List.length_take, List.length_drop]; omega
  refine ⟨⟨_, _, by rw [hl], by omega, fun x hx => h3 x (List.mem_of_mem_drop (List.mem_of_mem_take hx)), fun hne => ?_⟩, _, _, _, rfl, by omega⟩
  have hm : 0 < m := by rw [← hl]; exact List.length_pos_iff.2 hne
  obtain ⟨b', off', h7, hb, hc⟩ := h4 (by intro e; rw [e] at hk; simp at hk; omega)
  cases h7
  refine ⟨b, off + k, rfl, hb, fun i hi => ?_⟩
  rw [hl] at hi
  have := hc (k + i) (by omega)
  rw [show off + k + i = off + (k + i) by omega, this]
  rw [List.getD_eq_getElem?_getD, List.getD_eq_getElem?_getD, List.getElem?_take_of_lt hi, List.getElem?_drop]
/-- A piece appended to a list of the call's own. -/
theorem app_piece (w : World) (base : Nat) (u : Value) (A B : List Int) (ad : Addr) (c : Nat) (hO : w.ownsRow base 25 1 u A.length (vals A)) (hB : 0 < B.length → ∀ j x, (vals B)[j]? = some x → w.cell? (ad.add j) = some x) (hl : A.length + B.length ≤ 4096) (hb : base ≤ w.heap.size) :
    ∃ v' w', (Builtin.append_ #[26, 26] 26 #[u, .slice (some ad) B.length c]).run Try.prog w = .ok v' w' ∧ w'.ownsRow base 25 1 v' (A ++ B).length (vals (A ++ B)) ∧ Below base w w' := by
  obtain ⟨i0, hi0, hz0, hz1, hz2⟩ := info_parts u64_info
  obtain ⟨v', w', hr, ho, hg, _⟩ := run_append_own (P := Try.prog) (w := w) base 26 26 25 i0 (.int .u64 0) 1 8 Try.underlying26 hi0 hz0 hz1 hz2 rfl (by decide) u A.length (vals A) hO ad B.length c (vals B) (by rw [vals_length]; omega) (fun j x hj => by
    by_cases h0 : 0 < B.length
    · exact hB h0 j x hj
    · rw [List.getElem?_eq_none (by rw [vals_length]; omega)] at hj; cases hj) (vals_one B) (by unfold maxLen; omega) (by omega) hb
  refine ⟨v', w', hr, ?_, (Below.refl base w).grown hg hb (fun k hk => own_base hO k hk)⟩
  rw [List.length_append]
  have e : vals (A ++ B) = vals A ++ vals B := by simp [vals]
  rw [e]; exact ho

end Go.Proofs.Ytifilgmjpflekaa
