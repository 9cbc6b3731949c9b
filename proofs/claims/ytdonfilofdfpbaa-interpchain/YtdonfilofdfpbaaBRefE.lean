/-
  The document's own Dot.
-/
import Derived.Test.YtdonfilofdfpbaaBDot
namespace Go.Proofs.Ytdonfilofdfpbaa
open Go.RowKit Fld
set_option linter.unusedVariables false

set_option maxHeartbeats 200000 in
theorem rDot_no (f : Int) (v1 v2 : Value) (xs ys : List Int) (w : World) (h : Bad f xs ∨ ∃ p wd, Fi f p wd ∧ allIn p xs = true ∧ allIn p ys = false) (h1 : Row w v1 xs) (h2 : Row w v2 ys) :
    Calls Try.prog 28 #[.int .u8 f, v1, v2] w fun e w' => e = .returned (.tuple #[.int .u64 0, .int .i64 2]) ∧ Below w.heap.size w w' := by
  rcases h with h | ⟨p, wd, hf, hi, hj⟩
  · have hx := hide (rIn_no f v1 xs w h h1)
    clear h h1 h2
    go_enter Try.func28, Try.ntmps28
    go_wp2_with (go_at_call 47; refine hx.out.mono ?_; rintro e w1 ⟨rfl, hw1⟩; rw [hw1]; clear hw1)
    go_ret2
    exact ⟨rfl, Below.refl _ _⟩
  · have hx := hide (rIn_yes f p wd v1 xs w hf h1 hi)
    have hy := hide (rIn_no f v2 ys w (.inr ⟨p, wd, hf, hj⟩) h2)
    clear hf hi hj h1 h2
    go_enter Try.func28, Try.ntmps28
    go_wp2_with fail
    refine hx.out.mono ?_; rintro e w1 ⟨rfl, hw1⟩; rw [hw1]; clear hw1
    go_wp2_with fail
    refine hy.out.mono ?_; rintro e w1 ⟨rfl, hw1⟩; rw [hw1]; clear hw1
    go_wp2
    go_ret2
    exact ⟨rfl, Below.refl _ _⟩

set_option maxHeartbeats 200000 in
theorem rDot_shape (f p : Int) (wd : Bool) (v1 v2 : Value) (xs ys : List Int) (w : World) (hf : Fi f p wd) (hi : allIn p xs = true) (hj : allIn p ys = true) (hne : xs.length ≠ ys.length) (h1 : Row w v1 xs) (h2 : Row w v2 ys) :
    Calls Try.prog 28 #[.int .u8 f, v1, v2] w fun e w' => e = .returned (.tuple #[.int .u64 0, .int .i64 3]) ∧ Below w.heap.size w w' := by
  have hx := hide (rIn_yes f p wd v1 xs w hf h1 hi)
  have hy := hide (rIn_yes f p wd v2 ys w hf h2 hj)
  obtain ⟨a1, c1, rfl, l1, _, _⟩ := h1
  obtain ⟨a2, c2, rfl, l2, _, _⟩ := h2
  have ht : ((xs.length : Int) != (ys.length : Int)) = true := by rw [bne_iff_ne]; omega
  clear hf hi hj hne
  go_enter Try.func28, Try.ntmps28
  go_wp2_with fail
  refine hx.out.mono ?_; rintro e w1 ⟨rfl, hw1⟩; rw [hw1]; clear hw1
  go_wp2_with fail
  refine hy.out.mono ?_; rintro e w1 ⟨rfl, hw1⟩; rw [hw1]; clear hw1
  go_wp2
  go_ret2
  exact ⟨rfl, Below.refl _ _⟩

set_option maxRecDepth 100000 in
set_option maxHeartbeats 200000 in
theorem rDot_yes (f p : Int) (wd : Bool) (v1 v2 : Value) (xs ys : List Int) (w : World) (hf : Fi f p wd) (hi : allIn p xs = true) (hj : allIn p ys = true) (hl : xs.length = ys.length) (h1 : Row w v1 xs) (h2 : Row w v2 ys) :
    Calls Try.prog 28 #[.int .u8 f, v1, v2] w fun e w' => e = .returned (.tuple #[.int .u64 (dt p xs ys xs.length), .int .i64 0]) ∧ Below w.heap.size w w' := by
  have hx := hide (rIn_yes f p wd v1 xs w hf h1 hi)
  have hy := hide (rIn_yes f p wd v2 ys w hf h2 hj)
  have hp0 := hf.pos
  have hp1 := hf.top
  have hP := hide (fun W => rP_yes f p wd W hf)
  obtain ⟨a1, c1, rfl, l1, w1', hc1⟩ := h1
  obtain ⟨a2, c2, rfl, l2, w2', hc2⟩ := h2
  have e1 := hide (fun i hi' => allIn_el hi w1' i hi')
  have e2 := hide (fun i hi' => allIn_el hj w2' i hi')
  clear hf hi hj w1' w2'
  have HL := hide hl
  rw [← hl] at hy ⊢
  clear hl l2
  go_enter Try.func28, Try.ntmps28
  go_wp2_with fail
  refine hx.out.mono ?_; rintro e w1 ⟨rfl, hw1⟩; rw [hw1]; clear hw1
  go_wp2_with fail
  refine hy.out.mono ?_; rintro e w1 ⟨rfl, hw1⟩; rw [hw1]; clear hw1
  go_wp2
  clear hx hy
  go_loopw [8, 9] (fun vs vi wr => ∃ k : Nat, k ≤ xs.length ∧ vi = .int .i64 k ∧ vs = .int .u64 (dt p xs ys k) ∧ Below w.heap.size w wr) (fun _ vi _ => xs.length - (intOf vi).toNat)
  case atStart => exact ⟨0, Nat.zero_le _, rfl, rfl, Below.refl _ _⟩
  case round =>
    obtain ⟨k, hk, rfl, rfl, hW⟩ := hrel
    by_cases hlt : k < xs.length
    · obtain ⟨b1, o1, rfl, m1, g1⟩ := hc1 (by intro h; rw [h] at hlt; simp at hlt)
      obtain ⟨b2, o2, rfl, m2, g2⟩ := hc2 (by intro h; have := HL.out; rw [h] at this; simp at this; rw [this] at hlt; simp at hlt)
      have hlt2 : k < ys.length := by have := HL.out; omega
      have d1 := (hW.cell (p := ⟨b1, o1 + k, none⟩) m1).trans (g1 k hlt)
      have d2 := (hW.cell (p := ⟨b2, o2 + k, none⟩) m2).trans (g2 k hlt2)
      have x1 := e1.out k hlt
      have x2 := e2.out k hlt2
      have k0 : (0 : Int) ≤ (k : Int) := Int.natCast_nonneg _
      have k1 : (k : Int) < (xs.length : Int) := by omega
      have HS := hide (show add p (dt p xs ys k) (mul p (xs.getD k 0) (ys.getD k 0)) = dt p xs ys (k + 1) from rfl)
      have sd := dt_el hp0 xs ys k
      have sm := mul_el (a := xs.getD k 0) (b := ys.getD k 0) hp0
      generalize xs.getD k 0 = x at *
      generalize ys.getD k 0 = y at *
      generalize dt p xs ys k = s at *
      have sa := hide (fun W => rSum_any p s (mul p x y) W hp1 sd sm)
      have sx := hide (fun W => rTimes_any p x y W hp1 x1 x2.1 (elWord x2 hp1).2)
      clear g1 g2 hc1 hc2 x1 x2 sd sm
      go_wp2_with fail
      go_quiet ((first
        | (go_at_call 30; exact Calls.quiet_of_same (hP.out _))
        | (go_at_call 31; exact Calls.quiet_of_same (sx.out _))
        | (go_at_call 29; exact Calls.quiet_of_same (sa.out _))))
      have hW2 := below_drewN hW nq
      clear hW d1 d2
      go_wp2
      go_roundw
      case rel => exact ⟨k + 1, by omega, by go_num, by rw [HS.out], hW2⟩
      case measure => simp [intOf]; omega
    · have hkl : k = xs.length := by omega
      subst hkl
      clear hc1 hc2
      go_wp2
      go_ret2
      exact ⟨rfl, hW⟩

end Go.Proofs.Ytdonfilofdfpbaa
