/-
  The field's check.
-/
import Derived.Test.YtdegpefhegmamabWalkD
namespace Go.Proofs.Ytdegpefhegmamab
open Go.RowKit Fld
set_option linter.unusedVariables false

/-- A struct of two fields at a block: its cells, unfrozen. -/
def Two (k : Nat) (a b : Value) (w : World) : Prop :=
  w.cell? ⟨k, 0, none⟩ = some a ∧ w.cell? ⟨k, 1, none⟩ = some b ∧ w.frozen? ⟨k, 0, none⟩ = false ∧ w.frozen? ⟨k, 1, none⟩ = false ∧ k < w.heap.size

theorem Two.below {k : Nat} {a b : Value} {w w' : World} (h : Two k a b w) (hb : Below w.heap.size w w') : Two k a b w' := by
  obtain ⟨h1, h2, h3, h4, h5⟩ := h
  exact ⟨by rw [hb.cell (p := ⟨k, 0, none⟩) h5]; exact h1, by rw [hb.cell (p := ⟨k, 1, none⟩) h5]; exact h2, by rw [hb.frozen (p := ⟨k, 0, none⟩) h5]; exact h3, by rw [hb.frozen (p := ⟨k, 1, none⟩) h5]; exact h4, Nat.lt_of_lt_of_le h5 hb.size⟩
theorem Two.alloc {k : Nat} {a b : Value} {w : World} (h : Two k a b w) (o : Obj) : Two k a b (w.alloc o) := h.below ((Below.refl _ _).alloc (Nat.le_refl _) o)
theorem Two.drew {k : Nat} {a b : Value} {w : World} (h : Two k a b w) : Two k a b w.drew := h.below (Below.refl _ _).drew
theorem Two.first (w : World) (a b : Value) (T : TypeId) : Two w.heap.size a b (w.alloc (.cells #[a, b] T)) :=
  ⟨by simp [go_sem], by simp [go_sem], by simp [go_sem], by simp [go_sem], by simp⟩
theorem below_one {w w1 : World} {o : Obj} (hb : Below (w.alloc o).heap.size (w.alloc o) w1) : Below w.heap.size w w1 :=
  ((Below.refl _ _).alloc (Nat.le_refl _) o).trans (hb.mono (by simp))

set_option maxHeartbeats 200000 in
theorem check_nof (f : Int) (v : Value) (w : World) (h1 : f ≠ 1) (h2 : f ≠ 2) :
    Calls Try.prog 33 #[.int .u8 f, v] w fun e w' => e = .returned (.tuple #[.agg #[.int .u64 0, .bool false], .bool false]) ∧ Below w.heap.size w w' := by
  have hx := fun W => modulusOf_no f W h1 h2
  clear h1 h2
  go_enter Try.func33, Try.ntmps33
  go_wp2_with (go_at_call 39; refine (hx _).mono ?_; rintro e w1 ⟨rfl, hb⟩; have hT := (Two.first w (.int .u64 0) (.bool false) 56).below hb; have hTo := fun o => hT.alloc o; simp only [Two] at hTo; obtain ⟨g1, g2, g3, g4, g5⟩ := hT)
  refine bodyPost_ret (v := .tuple #[.agg #[.int .u64 0, .bool false], .bool false]) ?_ rfl ⟨rfl, ?_⟩
  · simp [results, Try.results33, go_sem, g1, g2, g5]
  · exact (((below_one hb).setCell (Nat.le_refl _) _).setCell (Nat.le_refl _) _).alloc (by simp; omega) _

set_option maxHeartbeats 400000 in
theorem check_yes (f p : Int) (wd : Bool) (v : Value) (xs : List Int) (w : World) (hfi : Fi f p wd) (hr : Row w v xs) (hin : allIn p xs = true) :
    Calls Try.prog 33 #[.int .u8 f, v] w fun e w' => e = .returned (.tuple #[.agg #[.int .u64 p, .bool wd], .bool true]) ∧ Below w.heap.size w w' := by
  have hx := fun W => modulusOf_yes f p wd W hfi
  have hp : p ≤ 18446744073709551615 := by have := hfi.md.bounds; omega
  have hy := fun W h => has_any p wd v xs W hp h
  rw [hin] at hy
  have HY := hide hy
  have HR := hide hr
  clear hfi hin hy hr
  go_enter Try.func33, Try.ntmps33
  go_wp2_with (first
    | (go_at_call 39; refine (hx _).mono ?_; rintro e w1 ⟨rfl, hb⟩; have hT := (Two.first w (.int .u64 0) (.bool false) 56).below hb; obtain ⟨g1, g2, g3, g4, g5⟩ := id hT)
    | (go_at_call 40; refine (HY.out _ (HR.out.below ((below_one hb).alloc (Nat.le_of_lt g5) _))).mono ?_; rintro e w2 ⟨rfl, hb2⟩; have hT2 := (Two.first w1 (.int .u64 p) (.bool wd) 56).below hb2; obtain ⟨k1, k2, k3, k4, k5⟩ := hT2; have hT3 := (hT.alloc _).below hb2; obtain ⟨j1, j2, j3, j4, j5⟩ := hT3))
  refine bodyPost_ret (v := .tuple #[.agg #[.int .u64 p, .bool wd], .bool true]) ?_ rfl ⟨rfl, ?_⟩
  · simp [results, Try.results33, go_sem, j1, j2]
  · exact ((((below_one hb).alloc (Nat.le_of_lt g5) _).trans (hb2.mono (by simp; omega))).setCell (Nat.le_refl _) _).setCell (Nat.le_refl _) _

set_option maxHeartbeats 400000 in
theorem check_out (f p : Int) (wd : Bool) (v : Value) (xs : List Int) (w : World) (hfi : Fi f p wd) (hr : Row w v xs) (hin : allIn p xs = false) :
    Calls Try.prog 33 #[.int .u8 f, v] w fun e w' => e = .returned (.tuple #[.agg #[.int .u64 0, .bool false], .bool false]) ∧ Below w.heap.size w w' := by
  have hx := fun W => modulusOf_yes f p wd W hfi
  have hp : p ≤ 18446744073709551615 := by have := hfi.md.bounds; omega
  have hy := fun W h => has_any p wd v xs W hp h
  rw [hin] at hy
  have HY := hide hy
  have HR := hide hr
  clear hfi hin hy hr
  go_enter Try.func33, Try.ntmps33
  go_wp2_with (first
    | (go_at_call 39; refine (hx _).mono ?_; rintro e w1 ⟨rfl, hb⟩; have hT := (Two.first w (.int .u64 0) (.bool false) 56).below hb; obtain ⟨g1, g2, g3, g4, g5⟩ := id hT)
    | (go_at_call 40; refine (HY.out _ (HR.out.below ((below_one hb).alloc (Nat.le_of_lt g5) _))).mono ?_; rintro e w2 ⟨rfl, hb2⟩; have hT3 := (hT.alloc _).below hb2; obtain ⟨j1, j2, j3, j4, j5⟩ := hT3))
  refine bodyPost_ret (v := .tuple #[.agg #[.int .u64 0, .bool false], .bool false]) ?_ rfl ⟨rfl, ?_⟩
  · simp [results, Try.results33, go_sem, j1, j2]
  · exact ((((below_one hb).alloc (Nat.le_of_lt g5) _).trans (hb2.mono (by simp; omega))).setCell (Nat.le_refl _) _).setCell (Nat.le_refl _) _

end Go.Proofs.Ytdegpefhegmamab
