/-
  The document's own quotient, or its error.
-/
import Derived.Test.YtepbfcioocohgaaWalkG
import Derived.Test.YtepbfcioocohgaaRefB
namespace Go.Proofs.Ytepbfcioocohgaa
open Go.RowKit Fld
set_option linter.unusedVariables false

set_option maxHeartbeats 200000 in
theorem rDiv_no (f a b : Int) (w : World) (h : Bad f [a, b]) (ha : 0 ≤ a ∧ a ≤ 18446744073709551615) (hb : 0 ≤ b ∧ b ≤ 18446744073709551615) :
    Calls Try.prog 22 #[.int .u8 f, .int .u64 a, .int .u64 b] w fun e w' => e = .returned (.tuple #[.int .u64 0, .int .i64 2]) ∧ Below w.heap.size w w' := by
  have hx := fun W v hr => rIn_no f v [a, b] W h hr
  have hrow := fun T => row2 w a b ha hb T
  clear h ha hb
  go_enter Try.func22, Try.ntmps22
  go_wp2_with (go_at_call 20; refine (hx _ _ (hrow _)).mono ?_; rintro e w1 ⟨rfl, hw1⟩; subst hw1)
  go_ret2
  exact ⟨rfl, (Below.refl _ _).alloc (Nat.le_refl _) _⟩

set_option maxHeartbeats 200000 in
theorem rDiv_zero (f p a : Int) (wd : Bool) (w : World) (h : Fi f p wd) (ha : El p a) :
    Calls Try.prog 22 #[.int .u8 f, .int .u64 a, .int .u64 0] w fun e w' => e = .returned (.tuple #[.int .u64 0, .int .i64 5]) ∧ Below w.heap.size w w' := by
  have h0 : El p 0 := ⟨by decide, h.pos⟩
  have hx := fun W v hr => rIn_yes f p wd v [a, 0] W h hr (allIn2 ha h0)
  have hrow := fun T => row2 w a 0 (elWord ha h.top) (elWord h0 h.top) T
  clear h ha h0
  go_enter Try.func22, Try.ntmps22
  go_wp2_with (go_at_call 20; refine (hx _ _ (hrow _)).mono ?_; rintro e w1 ⟨rfl, hw1⟩; subst hw1)
  go_ret2
  exact ⟨rfl, (Below.refl _ _).alloc (Nat.le_refl _) _⟩

set_option maxHeartbeats 400000 in
theorem rDiv_yes (f p a b : Int) (wd : Bool) (w : World) (h : Fi f p wd) (ha : El p a) (hb : El p b) (hb0 : 0 < b) :
    Calls Try.prog 22 #[.int .u8 f, .int .u64 a, .int .u64 b] w fun e w' => e = .returned (.tuple #[.int .u64 (mul p a (inv p b)), .int .i64 0]) ∧ Below w.heap.size w w' := by
  have hi := inv_el (p := p) (a := b) h.pos
  have hx := fun W v hr => rIn_yes f p wd v [a, b] W h hr (allIn2 ha hb)
  have hP := fun W => rP_yes f p wd W h
  have hy := fun W => rTurned_any p b W h.top h.md.bounds.1 hb
  have hm := fun W => rTimes_any p a (inv p b) W h.top ha hi.1 (elWord hi h.top).2
  have hrow := fun T => row2 w a b (elWord ha h.top) (elWord hb h.top) T
  have hne : (b == 0) = false := beq_eq_false_iff_ne.2 (by omega)
  clear h ha hb hb0 hi
  go_enter Try.func22, Try.ntmps22
  go_wp2_with (first
    | (go_at_call 20; refine (hx _ _ (hrow _)).mono ?_; rintro e w1 ⟨rfl, hw1⟩; subst hw1)
    | (go_at_call 10; refine (hP _).mono ?_; rintro e w1 ⟨rfl, hw1⟩; subst hw1)
    | (go_at_call 41; refine (hy _).mono ?_; rintro e w1 ⟨rfl, hw1⟩; subst hw1)
    | (go_at_call 38; refine (hm _).mono ?_; rintro e w1 ⟨rfl, hw1⟩; subst hw1))
  go_ret2
  exact ⟨rfl, (Below.refl _ _).alloc (Nat.le_refl _) _⟩

end Go.Proofs.Ytepbfcioocohgaa
