/-
  Layer 10: the rules of the kinds, the program's.
-/
import Derived.Test.YtfbipnhhnmlhfaaBArrA
import Derived.Test.YtfbipnhhnmlhfaaBDegC
namespace Go.Proofs.Ytfbipnhhnmlhfaa
open Go.RowKit Fld Slp
set_option linter.unusedVariables false
set_option linter.unusedSimpArgs false

/-- The array of the rules. -/
def rul : Array Value := #[.nilFunc, .func (.func 67) #[] #[], .func (.func 67) #[] #[], .func (.func 68) #[] #[], .func (.func 69) #[] #[]]
theorem rul_info : (Try.prog.info? 114).map (·.size) = some rul.size := by kernel_rfl
theorem rul_one : rul.all (·.oneCell') = true := by kernel_rfl

set_option maxHeartbeats 100000 in
theorem gRules (w : World) : Calls Try.prog 66 #[] w fun e w' => e = .returned (.agg rul) ∧ Below w.heap.size w w' := by
  go_enter Try.func66, Try.ntmps66
  go_upto_region 2 with fail
  refine wp_region_lit ?_
  refine rowVal rfl (.func (.func 67) #[] #[]) (by simp [go_sem, execOp]) ?_
  refine rowVal rfl (.func (.func 67) #[] #[]) (by simp [go_sem, execOp]) ?_
  refine rowVal (v := .agg rul) rfl (by simp [go_sem, execOp, rul]) ?_
  refine rowStore rfl _ _ _ rfl w.heap.size _ _ _ rfl rfl (heap_alloc_last w _) rul_info (by rfl) rul_one ?_
  go_wp2
  refine bodyPost_ret (v := .agg rul) ?_ rfl ⟨rfl, below_setRow (alloc_below w _) (Nat.le_refl _) _⟩
  have hl := run_loadVar_row (P := Try.prog) _ w.heap.size _ 114 _ _ _ (setRow_heap _ _ _ rul _ _ (heap_alloc_last w (.cells #[.nilFunc, .nilFunc, .nilFunc, .nilFunc, .nilFunc] 114))) Try.underlying114 rfl rul_info
  exact resCell1 Try.results66 rfl hl

set_option maxHeartbeats 100000 in
theorem gRule1 (a b : Int) (w : World) : Calls Try.prog 67 #[.int .i64 a, .int .i64 b] w fun e w' => e = .returned (.int .i64 (max a b)) ∧ w' = w := by
  by_cases h : a < b
  · have e : max a b = b := by omega
    rw [e]
    clear e
    go_enter Try.func67, Try.ntmps67
    go_wp2
    go_ret
    exact ⟨rfl, rfl⟩
  · have e : max a b = a := by omega
    rw [e]
    clear e
    go_enter Try.func67, Try.ntmps67
    go_wp2
    go_ret
    exact ⟨rfl, rfl⟩

set_option maxHeartbeats 100000 in
theorem gRule2 (a b : Int) (w : World) (h0 : 0 ≤ a + b) (h1 : a + b ≤ 9223372036854775807) : Calls Try.prog 68 #[.int .i64 a, .int .i64 b] w fun e w' => e = .returned (.int .i64 (a + b)) ∧ w' = w := by
  go_enter Try.func68, Try.ntmps68
  go_wp2
  go_ret
  exact ⟨rfl, rfl⟩

set_option maxHeartbeats 100000 in
theorem gRule3 (a b : Int) (w : World) : Calls Try.prog 69 #[.int .i64 a, .int .i64 b] w fun e w' => e = .returned (.int .i64 0) ∧ w' = w := by
  go_enter Try.func69, Try.ntmps69
  go_wp2
  go_ret
  exact ⟨rfl, rfl⟩

end Go.Proofs.Ytfbipnhhnmlhfaa
