import Derived.Test.YtjhididlcdepdaaGreatBunQ
import Derived.Maps.AppendAt
import Derived.Laws.OwnMore
import Derived.Lib.AppendZeros
set_option linter.unusedVariables false
set_option linter.unusedSimpArgs false
set_option maxRecDepth 100000
set_option maxHeartbeats 4000000
namespace Go.Proofs.YtjhididlcdepdaaGreat
open Go.RowKit Fld
theorem vals_append (a b : List Int) : vals (a ++ b) = vals a ++ vals b := by unfold vals; rw [List.map_append]
theorem appW1 (W : World) (base : Nat) (u : Value) (A : List Int) (a : Addr) (x : Int) (hO : W.ownsRow base 64 1 u A.length (vals A)) (hc : W.cell? a = some (.int .u64 x)) (hl : A.length ≤ 100000) (hb : base ≤ W.heap.size) :
 ∃ (au' : Option Addr) (cu' : Nat) (W' : World), (Builtin.append_ #[36, 36] 36 #[u, .slice (some a) 1 1]).run Tryz.prog W = .ok (.slice au' (A.length + 1) cu') W' ∧ W'.ownsRow base 64 1 (.slice au' (A.length + 1) cu') (A ++ [x]).length (vals (A ++ [x])) ∧ Below base W W' ∧ W.grownBy W' u.ownBlock ∧ ((Value.slice au' (A.length + 1) cu').ownBlock = u.ownBlock ∨ (Value.slice au' (A.length + 1) cu').ownBlock = some W.heap.size) := by
 obtain ⟨i0, hi0, hz0, hz1, hz2⟩ := info_parts u64_info
 obtain ⟨v', W', hr, ho, hg, _, hbk⟩ := run_append_own_at (P := Tryz.prog) (w := W) base 36 36 64 i0 (.int .u64 0) 1 8 Tryz.underlying36 hi0 hz0 hz1 hz2 rfl (by decide) u A.length (vals A) hO a 1 1 [.int .u64 x] rfl (fun j u hj => by
  cases j with
  | zero => simp at hj; rw [← hj]; exact hc
  | succ j => simp at hj) (by simp [Value.oneCell']) (by unfold maxLen; omega) (by omega) hb
 obtain ⟨au', cu', rfl⟩ := own_form ho
 refine ⟨au', cu', W', hr, ?_, (Below.refl base W).grown hg hb (fun k hk => own_base hO k hk), hg, hbk⟩
 rw [vals_append, List.length_append]; exact ho
end Go.Proofs.YtjhididlcdepdaaGreat
