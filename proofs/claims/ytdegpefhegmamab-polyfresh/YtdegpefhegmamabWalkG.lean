/-
  The field's quotients: Div and Inv, or their errors.
-/
import Derived.Test.YtdegpefhegmamabWalkF
namespace Go.Proofs.Ytdegpefhegmamab
open Go.RowKit Fld
set_option linter.unusedVariables false

theorem inv_el {p a : Int} (hp : 0 < p) : El p (inv p a) := pow_el hp

set_option maxHeartbeats 200000 in
theorem Div_no (f a b : Int) (w : World) (h : Bad f [a, b]) (ha : 0 ≤ a ∧ a ≤ 18446744073709551615) (hb : 0 ≤ b ∧ b ≤ 18446744073709551615) :
    Calls Try.prog 35 #[.int .u8 f, .int .u64 a, .int .u64 b] w fun e w' => e = .returned (.tuple #[.int .u64 0, .int .i64 2]) ∧ Below w.heap.size w w' := by
  have hx := fun W v hr => check_no f v [a, b] W h hr
  have hrow := fun T => row2 w a b ha hb T
  clear h ha hb
  go_enter Try.func35, Try.ntmps35
  go_wp2_with (go_at_call 33; refine (hx _ _ (hrow _)).mono ?_; rintro e w1 ⟨rfl, hb⟩)
  go_ret2
  have hz := hb.size
  exact ⟨rfl, (below_one hb).alloc (by simp at hz; omega) _⟩

set_option maxHeartbeats 200000 in
theorem Div_zero (f p a : Int) (wd : Bool) (w : World) (h : Fi f p wd) (ha : El p a) :
    Calls Try.prog 35 #[.int .u8 f, .int .u64 a, .int .u64 0] w fun e w' => e = .returned (.tuple #[.int .u64 0, .int .i64 5]) ∧ Below w.heap.size w w' := by
  have h0 : El p 0 := ⟨by decide, h.pos⟩
  have hx := fun W v hr => check_yes f p wd v [a, 0] W h hr (allIn2 ha h0)
  have hrow := fun T => row2 w a 0 (elWord ha h.top) (elWord h0 h.top) T
  clear h ha h0
  go_enter Try.func35, Try.ntmps35
  go_wp2_with (go_at_call 33; refine (hx _ _ (hrow _)).mono ?_; rintro e w1 ⟨rfl, hb⟩)
  go_ret2
  have hz := hb.size
  exact ⟨rfl, (below_one hb).alloc (by simp at hz; omega) _⟩

theorem Two.fresh {w1 w : World} (p : Int) (wd : Bool) (T : TypeId) : Boxed w1 p wd (w1.alloc (.cells #[.int .u64 p, .bool wd] T)) := Boxed.first w1 p wd T

set_option maxHeartbeats 200000 in
theorem Div_yes (f p a b : Int) (wd : Bool) (w : World) (h : Fi f p wd) (ha : El p a) (hb : El p b) (hb0 : 0 < b) :
    Calls Try.prog 35 #[.int .u8 f, .int .u64 a, .int .u64 b] w fun e w' => e = .returned (.tuple #[.int .u64 (mul p a (inv p b)), .int .i64 0]) ∧ Below w.heap.size w w' := by
  have hx := fun W v hr => check_yes f p wd v [a, b] W h hr (allIn2 ha hb)
  have hy := fun W => inverse_any p b wd W h.md hb0 hb.2
  have hm := fun W => mul_any p a (inv p b) wd W h.md ha (inv_el h.pos)
  have hrow := fun T => row2 w a b (elWord ha h.top) (elWord hb h.top) T
  have hne : (b == 0) = false := beq_eq_false_iff_ne.2 (by omega)
  clear h ha hb hb0
  go_enter Try.func35, Try.ntmps35
  go_wp2_with (go_at_call 33; refine (hx _ _ (hrow _)).mono ?_; rintro e w1 ⟨rfl, hb⟩)
  go_region_held3 (fun w' => w'.cell? ⟨w1.heap.size, 0, none⟩ = some (.int .u64 p) ∧ w'.cell? ⟨w1.heap.size, 1, none⟩ = some (.bool wd) ∧ w1.heap.size < w'.heap.size ∧ Below w1.heap.size w1 w') (first | exact Boxed.start _ _ _ _ | exact hS2 | exact hS) (first
    | (go_at_call 41; refine (hy _).mono ?_; rintro e w2 ⟨rfl, hb2⟩; have hS := Boxed.below (Boxed.start w1 p wd 56) hb2)
    | (go_at_call 36; refine (hm _).mono ?_; rintro e w3 ⟨rfl, hb3⟩; have hS2 := Boxed.below hS hb3))
  go_wp2
  go_ret2
  have hz := hb.size
  exact ⟨rfl, (below_one hb).trans (hS2.2.2.2.mono (by simp at hz; omega))⟩

set_option maxHeartbeats 200000 in
theorem Inv_of (f a r e : Int) (w : World) (h : Calls Try.prog 35 #[.int .u8 f, .int .u64 1, .int .u64 a] w fun x w' => x = .returned (.tuple #[.int .u64 r, .int .i64 e]) ∧ Below w.heap.size w w') :
    Calls Try.prog 28 #[.int .u8 f, .int .u64 a] w fun x w' => x = .returned (.tuple #[.int .u64 r, .int .i64 e]) ∧ Below w.heap.size w w' := by
  have H := hide h
  clear h
  go_enter Try.func28, Try.ntmps28
  go_wp2_with (go_at_call 35; refine H.out.mono ?_; rintro x w1 ⟨rfl, hb⟩)
  go_ret2
  exact ⟨rfl, hb⟩

end Go.Proofs.Ytdegpefhegmamab
