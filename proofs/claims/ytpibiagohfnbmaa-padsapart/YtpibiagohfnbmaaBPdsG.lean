import Derived.Test.YtpibiagohfnbmaaBPdsF
import Derived.Test.YtpibiagohfnbmaaBSamD
set_option linter.unusedVariables false
set_option linter.unusedSimpArgs false
set_option maxRecDepth 100000
set_option maxHeartbeats 4000000
namespace Go.Proofs.Ytpibiagohfnbmaa
open Go.RowKit Fld Pln Rnk
theorem drw_wd {f : Int} (hf : fdB f = true) {tape : List Int} (hl : tape.length <= 17592186043904) (a n : Nat) : Wd (drw f tape a n) := by
 obtain ⟨wd, hfi⟩ := fi_of hf
 refine ⟨?_, fun y hy => ?_⟩
 · unfold drw
   rw [List.length_map, List.length_take, List.length_drop]; omega
 · unfold drw at hy
   obtain ⟨x, _, rfl⟩ := List.mem_map.1 hy
   have h1 := Int.emod_nonneg x (show prF f ≠ 0 by have := hfi.pos; omega)
   have h2 := Int.emod_lt_of_pos x hfi.pos
   have h3 := hfi.top
   exact ⟨h1, by omega⟩
theorem td_wd (f : Int) {tape : List Int} (hl : tape.length <= 17592186043904) (a m : Int) : Wd (tdL f tape a m) := by
 by_cases h : tdE f tape a m = 0
 · rw [show tdL f tape a m = drw f tape a.toNat m.toNat from if_pos h]
   exact drw_wd (td_zero.1 h).1 hl _ _
 · rw [show tdL f tape a m = [] from if_neg h]
   exact wd_nil
theorem pdR_wd {p : Pn} (hm : mayP p = true) {tape : List Int} (hl : tape.length <= 17592186043904) (a n i : Nat) : Wd ((pdR p tape a n).getD i []) := by
 by_cases hi : i < n
 · rw [pdR_at p tape a n i hi]
   exact drw_wd (may_iff.1 hm).1 hl _ _
 · rw [List.getD_eq_getElem?_getD, List.getElem?_eq_none (by rw [pdR_len]; omega)]
   exact wd_nil
theorem pd_wd (p : Pn) {tape : List Int} (hl : tape.length <= 17592186043904) (a : Int) : (pdL p tape a).length <= 1000 ∧ ∀ i, Wd ((pdL p tape a).getD i []) := by
 by_cases h : pdE p tape a = 0
 · have hm : mayP p = true := by
    cases e : mayP p with
    | true => rfl
    | false => unfold pdE at h; rw [e] at h; cases h
   obtain ⟨_, _, ⟨t0, t1⟩, _⟩ := may_facts hm
   rw [show pdL p tape a = pdR p tape a.toNat p.t.toNat from if_pos h]
   exact ⟨by rw [pdR_len]; omega, fun i => pdR_wd hm hl _ _ i⟩
 · rw [show pdL p tape a = [] from if_neg h]
   exact ⟨Nat.zero_le _, fun i => wd_nil⟩
theorem rw_new (W : World) (xs : List Int) (hl : xs.length <= 1000) (hx : ∀ x ∈ xs, 0 <= x ∧ x <= 18446744073709551615) : Rw (W.alloc (.cells (vals xs).toArray 49)) (.slice (some ⟨W.heap.size, 0, none⟩) xs.length xs.length) xs :=
 rw_of_own (own_new (base := W.heap.size) (Nat.le_refl _) (vals_length xs) hl) (by omega) hx
theorem pb_arr {w W : World} {a b : Int} {T : TypeId} (p : Pn) (hW : (w.alloc (.cells #[.int .u8 p.f, .int .i64 p.n, .int .i64 p.k, .int .i64 p.t, .int .i64 p.s, .int .i64 p.e, .int .i64 p.d, .int .i64 p.w] 24)).alloc (.cells #[.int .i64 a, .int .i64 b] T) = W) : Pb W w.heap.size p ∧ (w.heap.size + 1 < W.heap.size ∧ W.cell? ⟨w.heap.size + 1, 0, none⟩ = some (.int .i64 a) ∧ W.cell? ⟨w.heap.size + 1, 1, none⟩ = some (.int .i64 b)) ∧ Below w.heap.size w W := by
 subst hW
 exact ⟨(pb_new w p).below (alloc_below _ _), ⟨by simp, by simp [go_sem], by simp [go_sem]⟩, Below.next (alloc_below _ _) (alloc_below _ _)⟩
end Go.Proofs.Ytpibiagohfnbmaa
