/-
  The field's leaves: what add, sub and the wide product answer.
-/
import Derived.Test.YtdegpefhegmamabRows
import Derived.Test.YtdegpefhegmamabMod
import Derived.Shelf.Spec.BitsCarry
import Derived.Shelf.Bits.Mul64
import Derived.Laws.Bits64b
import Derived.WalkKit
import Derived.WalkSpells
import Derived.WalkLawsBesides
import Derived.Deep.RegionHeld3
import Derived.Below
namespace Go.Proofs.Ytdegpefhegmamab
open Go.RowKit Fld

theorem add64 (x y : Int) (hx : 0 ≤ x) (hy : 0 ≤ y) (w : World) : (callFunc 46 #[.int .u64 x, .int .u64 y, .int .u64 0]).run Try.prog w =
    .ok (.value (.tuple #[.int .u64 (low64 (x + y)), .int .u64 (high64 (x + y))])) w := by
  rw [run_callFunc_extern Try.func46 (by kernel_rfl) (by kernel_rfl) (by kernel_rfl) (e := add64Entry) (by kernel_rfl), run_add64 x y 0 hx hy (by decide) (by decide)]
  simp only [Result.andThen, low64, high64, Int.add_zero]

theorem sub64 (x y : Int) (hx : 0 ≤ x) (hy : 0 ≤ y) (hy' : y < 18446744073709551616) (w : World) : (callFunc 45 #[.int .u64 x, .int .u64 y, .int .u64 0]).run Try.prog w =
    .ok (.value (.tuple #[.int .u64 (low64 (x - y)), .int .u64 (if x < y then 1 else 0)])) w := by
  obtain ⟨x, rfl⟩ := Int.eq_ofNat_of_zero_le hx
  obtain ⟨y, rfl⟩ := Int.eq_ofNat_of_zero_le hy
  have e1 : (((x + 18446744073709551616 - y - 0) % 18446744073709551616 : Nat) : Int) = low64 ((x : Int) - y) := by unfold low64; omega
  have e2 : ((if x < y + 0 then 1 else 0 : Nat) : Int) = if (x : Int) < y then 1 else 0 := by split <;> split <;> omega
  rw [← e1, ← e2, run_callFunc_extern Try.func45 (by kernel_rfl) (by kernel_rfl) (by kernel_rfl) (e := sub64Entry) (by kernel_rfl)]
  refine (congrArg (fun r => Result.andThen r _) (run_sub64 x y 0 (by decide) w)).trans ?_
  rfl

theorem sub64_lt (x y : Int) (hx : 0 ≤ x) (hy' : y < 18446744073709551616) (h : x < y) (w : World) : (callFunc 45 #[.int .u64 x, .int .u64 y, .int .u64 0]).run Try.prog w =
    .ok (.value (.tuple #[.int .u64 (low64 (x - y)), .int .u64 1])) w := by
  rw [sub64 x y hx (by omega) hy' w, if_pos h]
theorem sub64_ge (x y : Int) (hy : 0 ≤ y) (hx' : x < 18446744073709551616) (h : y ≤ x) (w : World) : (callFunc 45 #[.int .u64 x, .int .u64 y, .int .u64 0]).run Try.prog w =
    .ok (.value (.tuple #[.int .u64 (x - y), .int .u64 0])) w := by
  have e : low64 (x - y) = x - y := by unfold low64; omega
  rw [sub64 x y (by omega) hy (by omega) w, if_neg (by omega), e]

theorem ret_u64 {a b : Int} (h : a = b) : Ending.returned (.int .u64 a) = .returned (.int .u64 b) := by rw [h]

set_option maxHeartbeats 400000 in
theorem add_any (p a b : Int) (wd : Bool) (w : World) (hp : p ≤ 18446744073709551615) (ha : 0 ≤ a) (hb : 0 ≤ b) (ha' : a ≤ 18446744073709551615) (hb' : b ≤ 18446744073709551615) (hs : a + b < 2 * p) :
    Calls Try.prog 38 #[.agg #[.int .u64 p, .bool wd], .int .u64 a, .int .u64 b] w fun e w' =>
      e = .returned (.int .u64 (add p a b)) ∧ Below w.heap.size w w' := by
  by_cases h1 : a + b < p
  · have e1 : low64 (a + b) = a + b := by unfold low64; omega
    have e2 : high64 (a + b) = 0 := by unfold high64; omega
    have hadd := fun w => add64 a b ha hb w
    rw [e1, e2] at hadd
    have HF : Hid (add p a b = a + b) := by unfold add; exact Int.emod_eq_of_lt (by omega) h1
    clear e1 e2
    go_enter Try.func38, Try.ntmps38
    go_wp2_with (simp only [hadd])
    go_ret
    exact ⟨ret_u64 HF.out.symm, (Below.refl _ _).alloc (Nat.le_refl _) _⟩
  have HF : Hid (add p a b = a + b - p) := by unfold add; exact emod_sub_self _ _ (by omega) hs
  have hadd := fun w => add64 a b ha hb w
  by_cases h2 : a + b ≤ 18446744073709551615
  · have e1 : low64 (a + b) = a + b := by unfold low64; omega
    have e2 : high64 (a + b) = 0 := by unfold high64; omega
    rw [e1, e2] at hadd
    clear e1 e2
    go_enter Try.func38, Try.ntmps38
    go_wp2_with (simp only [hadd])
    go_ret
    exact ⟨ret_u64 HF.out.symm, (Below.refl _ _).alloc (Nat.le_refl _) _⟩
  · have HL : Hid (low64 (a + b) = a + b - 18446744073709551616) := by show low64 (a + b) = _; unfold low64; omega
    have e2 : high64 (a + b) = 1 := by unfold high64; omega
    rw [e2] at hadd
    clear e2
    generalize low64 (a + b) = lo at *
    go_enter Try.func38, Try.ntmps38
    go_wp2_with (simp only [hadd])
    go_ret
    refine ⟨ret_u64 ?_, (Below.refl _ _).alloc (Nat.le_refl _) _⟩
    rw [HF.out, HL.out, IntKind.wrap_u64]; omega

set_option maxHeartbeats 400000 in
/-- sub, also of a word that is no element. -/
theorem sub_raw (p a b : Int) (wd : Bool) (w : World) (hp : p ≤ 18446744073709551615) (ha : 0 ≤ a) (hb : 0 ≤ b) (ha' : a ≤ 18446744073709551615) (hb' : b < p) :
    Calls Try.prog 37 #[.agg #[.int .u64 p, .bool wd], .int .u64 a, .int .u64 b] w fun e w' =>
      e = .returned (.int .u64 (subR p a b)) ∧ Below w.heap.size w w' := by
  by_cases h1 : a < b
  · have hsub := fun w => sub64_lt a b ha (by omega) h1 w
    have HL : Hid (low64 (a - b) = a - b + 18446744073709551616) := by show low64 (a - b) = _; unfold low64; omega
    have HF : Hid (subR p a b = a - b + p) := by unfold subR; exact if_pos h1
    generalize low64 (a - b) = lo at *
    go_enter Try.func37, Try.ntmps37
    go_wp2_with (simp only [hsub])
    go_ret
    refine ⟨ret_u64 ?_, (Below.refl _ _).alloc (Nat.le_refl _) _⟩
    rw [HF.out, HL.out, IntKind.wrap_u64]; omega
  · have hsub := fun w => sub64_ge a b hb (by omega) (by omega) w
    have HF : Hid (subR p a b = a - b) := by unfold subR; exact if_neg h1
    go_enter Try.func37, Try.ntmps37
    go_wp2_with (simp only [hsub])
    go_ret
    exact ⟨ret_u64 HF.out.symm, (Below.refl _ _).alloc (Nat.le_refl _) _⟩

theorem sub_any (p a b : Int) (wd : Bool) (w : World) (hp : p ≤ 18446744073709551615) (ha : El p a) (hb : El p b) :
    Calls Try.prog 37 #[.agg #[.int .u64 p, .bool wd], .int .u64 a, .int .u64 b] w fun e w' =>
      e = .returned (.int .u64 (sub p a b)) ∧ Below w.heap.size w w' := by
  obtain ⟨a1, a2⟩ := ha; obtain ⟨b1, b2⟩ := hb
  rw [← subR_sub p a b a1 a2 b1 b2]
  exact sub_raw p a b wd w hp a1 b1 (by omega) b2

/-- Where the library's own contract for the wide product lies in this program. -/
def mulRen : Shelf.Ren := ⟨fun _ => 42, fun n => if n = 46 then 54 else 32, fun x => x⟩
theorem mulLays : Lays.n264 Try.prog mulRen where
  mixed := by kernel_rfl
  f264 := by kernel_rfl
  t46 := by kernel_rfl
  a46 := fun _ => by kernel_rfl
  z46 := fun _ => by kernel_rfl
  v46 := fun _ => by kernel_rfl
  t53 := by kernel_rfl
  a53 := fun _ => by kernel_rfl
  z53 := fun _ => by kernel_rfl
  v53 := fun _ => by kernel_rfl
theorem mul64_nat (x y : Nat) (hx : x < 18446744073709551616) (hy : y < 18446744073709551616) (w : World) :
    Calls Try.prog 42 #[.int .u64 x, .int .u64 y] w fun e w' => e = .returned (.tuple #[.int .u64 ((x * y / 18446744073709551616 : Nat) : Int), .int .u64 ((x * y % 18446744073709551616 : Nat) : Int)]) ∧ w' = w :=
  Any.bits_Mul64 mulLays x y hx hy w

theorem mul64_any (x y : Int) (w : World) (hx : 0 ≤ x) (hx' : x < 18446744073709551616) (hy : 0 ≤ y) (hy' : y < 18446744073709551616) :
    Calls Try.prog 42 #[.int .u64 x, .int .u64 y] w fun e w' => e = .returned (.tuple #[.int .u64 (high64 (x * y)), .int .u64 (low64 (x * y))]) ∧ w' = w := by
  obtain ⟨x, rfl⟩ := Int.eq_ofNat_of_zero_le hx
  obtain ⟨y, rfl⟩ := Int.eq_ofNat_of_zero_le hy
  refine (mul64_nat x y (by omega) (by omega) w).mono ?_
  rintro e w' ⟨rfl, rfl⟩
  refine ⟨?_, rfl⟩
  have e1 : ((x * y / 18446744073709551616 : Nat) : Int) = high64 ((x : Int) * y) := by unfold high64; rw [← Int.natCast_mul]; omega
  have e2 : ((x * y % 18446744073709551616 : Nat) : Int) = low64 ((x : Int) * y) := by unfold low64; rw [← Int.natCast_mul]; omega
  rw [e1, e2]

end Go.Proofs.Ytdegpefhegmamab
