import Derived.Test.YtpibiagohfnbmaaBunQ
import Derived.Lib.AppendZeros
set_option linter.unusedVariables false
set_option linter.unusedSimpArgs false
set_option maxRecDepth 100000
set_option maxHeartbeats 4000000
namespace Go.Proofs.Ytpibiagohfnbmaa
open Go.RowKit Fld
theorem vals_append (a b : List Int) : vals (a ++ b) = vals a ++ vals b := by unfold vals; rw [List.map_append]
theorem appWO (W : World) (base lo : Nat) (u : Value) (A B : List Int) (vb : Value) (hO : W.ownsRow base 49 1 u A.length (vals A)) (hB : W.ownsRow lo 49 1 vb B.length (vals B)) (hl : A.length + B.length <= 100000) (hb : base <= W.heap.size) :
 ∃ v' W', (Builtin.append_ #[25, 25] 25 #[u, vb]).run Try.prog W = .ok v' W' ∧ W'.ownsRow base 49 1 v' (A ++ B).length (vals (A ++ B)) ∧ Below base W W' := by
 obtain ⟨i0, hi0, hz0, hz1, hz2⟩ := info_parts u64_info
 rcases hB.2 with ⟨rfl, h0⟩ | ⟨g, cap, cur, rfl, h2, h3, h4, h5, h6, h7⟩
 · have hB0 : B = [] := List.length_eq_zero_iff.1 h0
   subst hB0
   exact ⟨u, W, run_append_owned_none (P := Try.prog) W base 25 25 49 i0 1 Try.underlying25 hi0 u A.length (vals A) hO, by rw [List.append_nil]; exact hO, Below.refl _ _⟩
 · obtain ⟨v', W', hr, ho, hg, _, hbk⟩ := run_append_own_at (P := Try.prog) (w := W) base 25 25 49 i0 (.int .u64 0) 1 8 Try.underlying25 hi0 hz0 hz1 hz2 rfl (by decide) u A.length (vals A) hO ⟨g, 0, none⟩ B.length cap (vals B) (by rw [vals_length, Nat.mul_one]) (fun j u hj => by
    have hjl : j < B.length := by
     have := (List.getElem?_eq_some_iff.1 hj).1
     rwa [vals_length] at this
    have hadd : (⟨g, 0, none⟩ : Addr).add j = ⟨g, j, none⟩ := by unfold Addr.add; split <;> simp_all
    rw [vals_at B j hjl] at hj
    rw [hadd, own_cell hB rfl hjl]; exact hj) (vals_one B) (by unfold maxLen; omega) (by omega) hb
   refine ⟨v', W', hr, ?_, (Below.refl base W).grown hg hb (fun k hk => own_base hO k hk)⟩
   rw [vals_append, List.length_append]; exact ho
end Go.Proofs.Ytpibiagohfnbmaa
