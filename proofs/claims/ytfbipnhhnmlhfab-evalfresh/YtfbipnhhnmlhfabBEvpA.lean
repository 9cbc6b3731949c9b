/-
  Layer 11: elements to reckon with (the program's methods), one step's value.
-/
import Derived.Test.YtfbipnhhnmlhfabBEvlB
import Derived.Test.YtfbipnhhnmlhfabBunM
namespace Go.Proofs.Ytfbipnhhnmlhfab
open Go.RowKit Fld Slp
set_option linter.unusedVariables false
set_option linter.unusedSimpArgs false

/-- The two rings as values. -/
def elv (f : Int) : Value := .agg #[.int .u8 f]
def elI (f : Int) : Value := .iface 51 (elv f)
def poI (f : Int) : Value := .iface 58 (elv f)

theorem nil_sum (f : Int) (w : World) : (nilAhead 239 51 (elv f) "conclave/eval.sum").run Try.prog w = .ok (some false) w := by kernel_rfl
theorem met_sum (f : Int) (w : World) : (method 239 51 (elv f) "conclave/eval.sum").run Try.prog w = .ok (83, elv f) w := by kernel_rfl
theorem nil_dif (f : Int) (w : World) : (nilAhead 239 51 (elv f) "conclave/eval.difference").run Try.prog w = .ok (some false) w := by kernel_rfl
theorem met_dif (f : Int) (w : World) : (method 239 51 (elv f) "conclave/eval.difference").run Try.prog w = .ok (81, elv f) w := by kernel_rfl
theorem nil_prd (f : Int) (w : World) : (nilAhead 239 51 (elv f) "conclave/eval.product").run Try.prog w = .ok (some false) w := by kernel_rfl
theorem met_prd (f : Int) (w : World) : (method 239 51 (elv f) "conclave/eval.product").run Try.prog w = .ok (82, elv f) w := by kernel_rfl
theorem met_cst (f : Int) (w : World) : (method 239 51 (elv f) "conclave/eval.constant").run Try.prog w = .ok (80, elv f) w := by kernel_rfl

set_option maxHeartbeats 200000 in
theorem eSum (f p a b : Int) (wd : Bool) (w : World) (h : Fi f p wd) (ha : El p a) (hb : El p b) : Calls Try.prog 83 #[elv f, .int .u64 a, .int .u64 b] w fun e w' => e = .returned (.int .u64 (add p a b)) ∧ Below w.heap.size w w' := by
  have HX := hide (fun W => Add_yes f p a b wd W h ha hb)
  clear h ha hb
  unfold elv
  go_enter Try.func83, Try.ntmps83
  go_wp2_with (go_at_call 87; refine (HX.out _).mono ?_; rintro e w1 ⟨rfl, hb⟩)
  go_ret
  exact ⟨rfl, below_one hb⟩

set_option maxHeartbeats 200000 in
theorem eDif (f p a b : Int) (wd : Bool) (w : World) (h : Fi f p wd) (ha : El p a) (hb : El p b) : Calls Try.prog 81 #[elv f, .int .u64 a, .int .u64 b] w fun e w' => e = .returned (.int .u64 (sub p a b)) ∧ Below w.heap.size w w' := by
  have HX := hide (fun W => Sub_yes f p a b wd W h ha hb)
  clear h ha hb
  unfold elv
  go_enter Try.func81, Try.ntmps81
  go_wp2_with (go_at_call 85; refine (HX.out _).mono ?_; rintro e w1 ⟨rfl, hb⟩)
  go_ret
  exact ⟨rfl, below_one hb⟩

set_option maxHeartbeats 200000 in
theorem ePrd (f p a b : Int) (wd : Bool) (w : World) (h : Fi f p wd) (ha : El p a) (hb : El p b) : Calls Try.prog 82 #[elv f, .int .u64 a, .int .u64 b] w fun e w' => e = .returned (.int .u64 (mul p a b)) ∧ Below w.heap.size w w' := by
  have HX := hide (fun W => Mul_yes f p a b wd W h ha hb)
  clear h ha hb
  unfold elv
  go_enter Try.func82, Try.ntmps82
  go_wp2_with (go_at_call 86; refine (HX.out _).mono ?_; rintro e w1 ⟨rfl, hb⟩)
  go_ret
  exact ⟨rfl, below_one hb⟩

set_option maxHeartbeats 200000 in
theorem eCst (f p c : Int) (wd : Bool) (w : World) (h : Fi f p wd) (hc : 0 ≤ c) : Calls Try.prog 80 #[elv f, .int .u64 c] w fun e w' => e = .returned (.int .u64 (c % p)) ∧ Below w.heap.size w w' := by
  have HX := hide (fun W => Prime_yes f p wd W h)
  have hp0 := h.pos
  have hp : ¬ p = 0 := by omega
  clear h
  unfold elv
  go_enter Try.func80, Try.ntmps80
  go_wp2_with (go_at_call 84; refine (HX.out _).mono ?_; rintro e w1 ⟨rfl, hb⟩)
  go_ret
  exact ⟨rfl, below_one hb⟩

end Go.Proofs.Ytfbipnhhnmlhfab
