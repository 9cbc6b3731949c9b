import Derived.Test.YtnakbpaiidolbaaGreatBEvlB
import Derived.Test.YtnakbpaiidolbaaGreatBunM
namespace Go.Proofs.YtnakbpaiidolbaaGreat
open Go.RowKit Fld Slp
set_option linter.unusedVariables false
set_option linter.unusedSimpArgs false
def elv (f : Int) : Value := .agg #[.int .u8 f]
def elI (f : Int) : Value := .iface 128 (elv f)
def poI (f : Int) : Value := .iface 114 (elv f)
theorem nil_sum (f : Int) (w : World) : (nilAhead 340 128 (elv f) "conclave/eval.sum").run Tryz.prog w = .ok (some false) w := by kernel_rfl
theorem met_sum (f : Int) (w : World) : (method 340 128 (elv f) "conclave/eval.sum").run Tryz.prog w = .ok (212, elv f) w := by kernel_rfl
theorem nil_dif (f : Int) (w : World) : (nilAhead 340 128 (elv f) "conclave/eval.difference").run Tryz.prog w = .ok (some false) w := by kernel_rfl
theorem met_dif (f : Int) (w : World) : (method 340 128 (elv f) "conclave/eval.difference").run Tryz.prog w = .ok (210, elv f) w := by kernel_rfl
theorem nil_prd (f : Int) (w : World) : (nilAhead 340 128 (elv f) "conclave/eval.product").run Tryz.prog w = .ok (some false) w := by kernel_rfl
theorem met_prd (f : Int) (w : World) : (method 340 128 (elv f) "conclave/eval.product").run Tryz.prog w = .ok (211, elv f) w := by kernel_rfl
theorem met_cst (f : Int) (w : World) : (method 340 128 (elv f) "conclave/eval.constant").run Tryz.prog w = .ok (209, elv f) w := by kernel_rfl
set_option maxHeartbeats 200000 in
theorem eSum (f p a b : Int) (wd : Bool) (w : World) (h : Fi f p wd) (ha : El p a) (hb : El p b) : Calls Tryz.prog 212 #[elv f, .int .u64 a, .int .u64 b] w fun e w' => e = .returned (.int .u64 (add p a b)) ∧ Below w.heap.size w w' := by
 have HX := hide (fun W => Add_yes f p a b wd W h ha hb)
 clear h ha hb
 unfold elv
 go_enter Tryz.func212, Tryz.ntmps212
 go_wp2_with (go_at_call 145; refine (HX.out _).mono ?_; rintro e w1 ⟨rfl, hb⟩)
 go_ret
 exact ⟨rfl, below_one hb⟩
set_option maxHeartbeats 200000 in
theorem eDif (f p a b : Int) (wd : Bool) (w : World) (h : Fi f p wd) (ha : El p a) (hb : El p b) : Calls Tryz.prog 210 #[elv f, .int .u64 a, .int .u64 b] w fun e w' => e = .returned (.int .u64 (sub p a b)) ∧ Below w.heap.size w w' := by
 have HX := hide (fun W => Sub_yes f p a b wd W h ha hb)
 clear h ha hb
 unfold elv
 go_enter Tryz.func210, Tryz.ntmps210
 go_wp2_with (go_at_call 168; refine (HX.out _).mono ?_; rintro e w1 ⟨rfl, hb⟩)
 go_ret
 exact ⟨rfl, below_one hb⟩
set_option maxHeartbeats 200000 in
theorem ePrd (f p a b : Int) (wd : Bool) (w : World) (h : Fi f p wd) (ha : El p a) (hb : El p b) : Calls Tryz.prog 211 #[elv f, .int .u64 a, .int .u64 b] w fun e w' => e = .returned (.int .u64 (mul p a b)) ∧ Below w.heap.size w w' := by
 have HX := hide (fun W => Mul_yes f p a b wd W h ha hb)
 clear h ha hb
 unfold elv
 go_enter Tryz.func211, Tryz.ntmps211
 go_wp2_with (go_at_call 144; refine (HX.out _).mono ?_; rintro e w1 ⟨rfl, hb⟩)
 go_ret
 exact ⟨rfl, below_one hb⟩
set_option maxHeartbeats 200000 in
theorem eCst (f p c : Int) (wd : Bool) (w : World) (h : Fi f p wd) (hc : 0 ≤ c) : Calls Tryz.prog 209 #[elv f, .int .u64 c] w fun e w' => e = .returned (.int .u64 (c % p)) ∧ Below w.heap.size w w' := by
 have HX := hide (fun W => Prime_yes f p wd W h)
 have hp0 := h.pos
 have hp : ¬ p = 0 := by omega
 clear h
 unfold elv
 go_enter Tryz.func209, Tryz.ntmps209
 go_wp2_with (go_at_call 182; refine (HX.out _).mono ?_; rintro e w1 ⟨rfl, hb⟩)
 go_ret
 exact ⟨rfl, below_one hb⟩
end Go.Proofs.YtnakbpaiidolbaaGreat
