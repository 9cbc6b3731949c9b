/-
  The field's Dot, the document's own, and its Same.
-/
import Derived.Test.YtepbfcioocohgabRefD
namespace Go.Proofs.Ytepbfcioocohgab
open Go.RowKit Fld
set_option linter.unusedVariables false

/-- The sum of the first k products. -/
def dt (p : Int) (xs ys : List Int) : Nat → Int
  | 0 => 0
  | k + 1 => add p (dt p xs ys k) (mul p (xs.getD k 0) (ys.getD k 0))

theorem dt_el {p : Int} (hp : 0 < p) (xs ys : List Int) (k : Nat) : El p (dt p xs ys k) := by
  cases k with
  | zero => exact ⟨Int.le_refl 0, hp⟩
  | succ k => exact add_el hp

set_option maxHeartbeats 400000 in
theorem Same_yes (v1 v2 : Value) (xs : List Int) (w : World) (h1 : Row w v1 xs) (h2 : Row w v2 xs) :
    Calls Try.prog 10 #[v1, v2] w fun e w' => e = .returned (.bool true) ∧ Below w.heap.size w w' := by
  obtain ⟨a1, c1, rfl, hlen, _, hc1⟩ := h1
  obtain ⟨a2, c2, rfl, _, _, hc2⟩ := h2
  go_enter Try.func10, Try.ntmps10
  go_wp2
  go_loopw [5] (fun vi wr => ∃ k : Nat, k ≤ xs.length ∧ vi = .int .i64 k ∧ Below w.heap.size w wr) (fun vi _ => xs.length - (intOf vi).toNat)
  case atStart => exact ⟨0, Nat.zero_le _, rfl, Below.refl _ _⟩
  case round =>
    obtain ⟨k, hk, rfl, hB⟩ := hrel
    by_cases hlt : k < xs.length
    · have hne : xs ≠ [] := by intro h; rw [h] at hlt; simp at hlt
      obtain ⟨b1, o1, rfl, l1, g1⟩ := hc1 hne
      obtain ⟨b2, o2, rfl, l2, g2⟩ := hc2 hne
      have d1 := (hB.cell (p := ⟨b1, o1 + k, none⟩) l1).trans (g1 k hlt)
      have d2 := (hB.cell (p := ⟨b2, o2 + k, none⟩) l2).trans (g2 k hlt)
      have k0 : (0 : Int) ≤ (k : Int) := Int.natCast_nonneg _
      have k1 : (k : Int) < (xs.length : Int) := by omega
      generalize xs.getD k 0 = x at *
      clear g1 g2 hc1 hc2 hne
      go_wp2_with fail
      go_quiet (fail)
      have hB2 := below_drewN hB nq
      clear hB
      go_wp2
      go_roundw
      case rel => exact ⟨k + 1, by omega, by go_num, hB2⟩
      case measure => simp [intOf]; omega
    · clear hc1 hc2
      go_wp2
      go_ret
      exact ⟨rfl, hB⟩

theorem keep4 {W w1 : World} {a1 a2 a3 a4 : Addr} {v1 v2 v3 v4 : Value} (hb : Below W.heap.size W w1) (h : W.cell? a1 = some v1 ∧ W.cell? a2 = some v2 ∧ W.cell? a3 = some v3 ∧ W.cell? a4 = some v4) :
    w1.cell? a1 = some v1 ∧ w1.cell? a2 = some v2 ∧ w1.cell? a3 = some v3 ∧ w1.cell? a4 = some v4 :=
  ⟨(hb.cell (World.block_lt_of_cell? _ _ h.1)).trans h.1, (hb.cell (World.block_lt_of_cell? _ _ h.2.1)).trans h.2.1, (hb.cell (World.block_lt_of_cell? _ _ h.2.2.1)).trans h.2.2.1, (hb.cell (World.block_lt_of_cell? _ _ h.2.2.2)).trans h.2.2.2⟩

end Go.Proofs.Ytepbfcioocohgab
