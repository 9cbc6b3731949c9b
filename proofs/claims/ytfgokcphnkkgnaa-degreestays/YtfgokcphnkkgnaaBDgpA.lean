/-
  Layer 10: the rules of the kinds, the program's.
-/
import Derived.Test.YtfgokcphnkkgnaaBArrA
import Derived.Test.YtfgokcphnkkgnaaBDegC
namespace Go.Proofs.Ytfgokcphnkkgnaa
open Go.RowKit Fld Slp
set_option linter.unusedVariables false
set_option linter.unusedSimpArgs false

/-- The array of the rules. -/
def rul : Array Value := #[.nilFunc, .func (.func 32) #[] #[], .func (.func 32) #[] #[], .func (.func 33) #[] #[], .func (.func 34) #[] #[]]
theorem rul_info : (Try.prog.info? 61).map (·.size) = some rul.size := by kernel_rfl
theorem rul_one : rul.all (·.oneCell') = true := by kernel_rfl

set_option maxHeartbeats 100000 in
theorem gRules (w : World) : Calls Try.prog 30 #[] w fun e w' => e = .returned (.agg rul) ∧ Below w.heap.size w w' := by
  go_enter Try.func30, Try.ntmps30
  go_upto_region 2 with fail
  refine wp_region_lit ?_
  refine rowVal rfl (.func (.func 32) #[] #[]) (by simp [go_sem, execOp]) ?_
  refine rowVal rfl (.func (.func 32) #[] #[]) (by simp [go_sem, execOp]) ?_
  refine rowVal (v := .agg rul) rfl (by simp [go_sem, execOp, rul]) ?_
  refine rowStore rfl _ _ _ rfl w.heap.size _ _ _ rfl rfl (heap_alloc_last w _) rul_info (by rfl) rul_one ?_
  go_wp2
  refine bodyPost_ret (v := .agg rul) ?_ rfl ⟨rfl, below_setRow (alloc_below w _) (Nat.le_refl _) _⟩
  have hl := run_loadVar_row (P := Try.prog) _ w.heap.size _ 61 _ _ _ (setRow_heap _ _ _ rul _ _ (heap_alloc_last w (.cells #[.nilFunc, .nilFunc, .nilFunc, .nilFunc, .nilFunc] 61))) Try.underlying61 rfl rul_info
  exact resCell1 Try.results30 rfl hl

set_option maxHeartbeats 100000 in
theorem gRule1 (a b : Int) (w : World) : Calls Try.prog 32 #[.int .i64 a, .int .i64 b] w fun e w' => e = .returned (.int .i64 (max a b)) ∧ w' = w := by
  by_cases h : a < b
  · have e : max a b = b := by omega
    rw [e]
    clear e
    go_enter Try.func32, Try.ntmps32
    go_wp2
    go_ret
    exact ⟨rfl, rfl⟩
  · have e : max a b = a := by omega
    rw [e]
    clear e
    go_enter Try.func32, Try.ntmps32
    go_wp2
    go_ret
    exact ⟨rfl, rfl⟩

set_option maxHeartbeats 100000 in
theorem gRule2 (a b : Int) (w : World) (h0 : 0 ≤ a + b) (h1 : a + b ≤ 9223372036854775807) : Calls Try.prog 33 #[.int .i64 a, .int .i64 b] w fun e w' => e = .returned (.int .i64 (a + b)) ∧ w' = w := by
  go_enter Try.func33, Try.ntmps33
  go_wp2
  go_ret
  exact ⟨rfl, rfl⟩

set_option maxHeartbeats 100000 in
theorem gRule3 (a b : Int) (w : World) : Calls Try.prog 34 #[.int .i64 a, .int .i64 b] w fun e w' => e = .returned (.int .i64 0) ∧ w' = w := by
  go_enter Try.func34, Try.ntmps34
  go_wp2
  go_ret
  exact ⟨rfl, rfl⟩

end Go.Proofs.Ytfgokcphnkkgnaa
