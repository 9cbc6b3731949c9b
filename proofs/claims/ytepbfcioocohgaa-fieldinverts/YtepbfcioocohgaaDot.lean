/-
  The field's Dot, the document's own, and its Same.
-/
import Derived.Test.YtepbfcioocohgaaRefD
namespace Go.Proofs.Ytepbfcioocohgaa
open Go.RowKit Fld
set_option linter.unusedVariables false

/-- The sum of the first k products. -/
def dt (p : Int) (xs ys : List Int) : Nat → Int
  | 0 => 0
  | k + 1 => add p (dt p xs ys k) (mul p (xs.getD k 0) (ys.getD k 0))

theorem dt_el {p : Int} (hp : 0 < p) (xs ys : List Int) (k : Nat) : El p (dt p xs ys k) := by
  cases k with
  | zero => exact ⟨Int.le_refl 0, hp⟩
  | succ k => exact add_el hp

set_option maxHeartbeats 400000 in
theorem Same_yes (v1 v2 : Value) (xs : List Int) (w : World) (h1 : Row w v1 xs) (h2 : Row w v2 xs) :
    Calls Try.prog 29 #[v1, v2] w fun e w' => e = .returned (.bool true) ∧ Below w.heap.size w w' := by
  obtain ⟨a1, c1, rfl, hlen, _, hc1⟩ := h1
  obtain ⟨a2, c2, rfl, _, _, hc2⟩ := h2
  go_enter Try.func29, Try.ntmps29
  go_wp2
  go_loopw [5] (fun vi wr => ∃ k : Nat, k ≤ xs.length ∧ vi = .int .i64 k ∧ Below w.heap.size w wr) (fun vi _ => xs.length - (intOf vi).toNat)
  case atStart => exact ⟨0, Nat.zero_le _, rfl, Below.refl _ _⟩
  case round =>
    obtain ⟨k, hk, rfl, hB⟩ := hrel
    by_cases hlt : k < xs.length
    · have hne : xs ≠ [] := by intro h; rw [h] at hlt; simp at hlt
      obtain ⟨b1, o1, rfl, l1, g1⟩ := hc1 hne
      obtain ⟨b2, o2, rfl, l2, g2⟩ := hc2 hne
      have d1 := (hB.cell (p := ⟨b1, o1 + k, none⟩) l1).trans (g1 k hlt)
      have d2 := (hB.cell (p := ⟨b2, o2 + k, none⟩) l2).trans (g2 k hlt)
      have k0 : (0 : Int) ≤ (k : Int) := Int.natCast_nonneg _
      have k1 : (k : Int) < (xs.length : Int) := by omega
      generalize xs.getD k 0 = x at *
      clear g1 g2 hc1 hc2 hne
      go_wp2_with fail
      go_quiet (fail)
      have hB2 := below_drewN hB nq
      clear hB
      go_wp2
      go_roundw
      case rel => exact ⟨k + 1, by omega, by go_num, hB2⟩
      case measure => simp [intOf]; omega
    · clear hc1 hc2
      go_wp2
      go_ret
      exact ⟨rfl, hB⟩

set_option maxHeartbeats 200000 in
theorem Dot_no (f : Int) (v1 v2 : Value) (xs ys : List Int) (w : World) (h : Bad f xs ∨ ∃ p wd, Fi f p wd ∧ allIn p xs = true ∧ allIn p ys = false) (h1 : Row w v1 xs) (h2 : Row w v2 ys) :
    Calls Try.prog 27 #[.int .u8 f, v1, v2] w fun e w' => e = .returned (.tuple #[.int .u64 0, .int .i64 2]) ∧ Below w.heap.size w w' := by
  rcases h with h | ⟨p, wd, hf, hi, hj⟩
  · have hx := hide (check_no f v1 xs w h h1)
    clear h h1 h2
    go_enter Try.func27, Try.ntmps27
    go_wp2_with (go_at_call 32; refine hx.out.mono ?_; rintro e w1 ⟨rfl, hb⟩)
    go_ret2
    exact ⟨rfl, hb.alloc hb.size _⟩
  · have hx := hide (check_yes f p wd v1 xs w hf h1 hi)
    have hy := hide (fun W (hW : Below w.heap.size w W) => has_any p wd v2 ys W hf.top (h2.below hW))
    rw [hj] at hy
    clear hf hi hj h1 h2
    go_enter Try.func27, Try.ntmps27
    go_wp2_with (first
      | (go_at_call 32; refine hx.out.mono ?_; rintro e w1 ⟨rfl, hb⟩)
      | (go_at_call 44; refine (hy.out _ (hb.alloc hb.size _)).mono ?_; rintro e w2 ⟨rfl, hb2⟩))
    go_ret2
    have := hb.size
    exact ⟨rfl, (hb.alloc hb.size _).trans (hb2.mono (by simp; omega))⟩

set_option maxHeartbeats 200000 in
theorem Dot_shape (f p : Int) (wd : Bool) (v1 v2 : Value) (xs ys : List Int) (w : World) (hf : Fi f p wd) (hi : allIn p xs = true) (hj : allIn p ys = true) (hne : xs.length ≠ ys.length) (h1 : Row w v1 xs) (h2 : Row w v2 ys) :
    Calls Try.prog 27 #[.int .u8 f, v1, v2] w fun e w' => e = .returned (.tuple #[.int .u64 0, .int .i64 3]) ∧ Below w.heap.size w w' := by
  have hx := hide (check_yes f p wd v1 xs w hf h1 hi)
  have hy := hide (fun W (hW : Below w.heap.size w W) => has_any p wd v2 ys W hf.top (h2.below hW))
  rw [hj] at hy
  obtain ⟨a1, c1, rfl, l1, _, _⟩ := h1
  obtain ⟨a2, c2, rfl, l2, _, _⟩ := h2
  clear hf hi hj
  have ht : ((xs.length : Int) != (ys.length : Int)) = true := by rw [bne_iff_ne]; omega
  clear hne
  go_enter Try.func27, Try.ntmps27
  go_wp2_with (first
    | (go_at_call 32; refine hx.out.mono ?_; rintro e w1 ⟨rfl, hb⟩)
    | (go_at_call 44; refine (hy.out _ (hb.alloc hb.size _)).mono ?_; rintro e w2 ⟨rfl, hb2⟩))
  go_ret2
  have := hb.size
  exact ⟨rfl, (hb.alloc hb.size _).trans (hb2.mono (by simp; omega))⟩

theorem keep4 {W w1 : World} {a1 a2 a3 a4 : Addr} {v1 v2 v3 v4 : Value} (hb : Below W.heap.size W w1) (h : W.cell? a1 = some v1 ∧ W.cell? a2 = some v2 ∧ W.cell? a3 = some v3 ∧ W.cell? a4 = some v4) :
    w1.cell? a1 = some v1 ∧ w1.cell? a2 = some v2 ∧ w1.cell? a3 = some v3 ∧ w1.cell? a4 = some v4 :=
  ⟨(hb.cell (World.block_lt_of_cell? _ _ h.1)).trans h.1, (hb.cell (World.block_lt_of_cell? _ _ h.2.1)).trans h.2.1, (hb.cell (World.block_lt_of_cell? _ _ h.2.2.1)).trans h.2.2.1, (hb.cell (World.block_lt_of_cell? _ _ h.2.2.2)).trans h.2.2.2⟩

set_option maxRecDepth 100000 in
set_option maxHeartbeats 200000 in
theorem Dot_yes (f p : Int) (wd : Bool) (v1 v2 : Value) (xs ys : List Int) (w : World) (hf : Fi f p wd) (hi : allIn p xs = true) (hj : allIn p ys = true) (hl : xs.length = ys.length) (h1 : Row w v1 xs) (h2 : Row w v2 ys) :
    Calls Try.prog 27 #[.int .u8 f, v1, v2] w fun e w' => e = .returned (.tuple #[.int .u64 (dt p xs ys xs.length), .int .i64 0]) ∧ Below w.heap.size w w' := by
  have hx := hide (check_yes f p wd v1 xs w hf h1 hi)
  have hy := hide (fun W (hW : Below w.heap.size w W) => has_any p wd v2 ys W hf.top (h2.below hW))
  rw [hj] at hy
  have hp0 := hf.pos
  have hp1 := hf.top
  have hmd := hf.md
  obtain ⟨a1, c1, rfl, l1, w1', hc1⟩ := h1
  obtain ⟨a2, c2, rfl, l2, w2', hc2⟩ := h2
  have e1 := hide (fun i hi' => allIn_el hi w1' i hi')
  have e2 := hide (fun i hi' => allIn_el hj w2' i hi')
  clear hf hi hj w1' w2'
  have HL := hide hl
  rw [← hl] at hy ⊢
  clear hl l2
  go_enter Try.func27, Try.ntmps27
  go_wp2_with (first
    | (go_at_call 32; refine hx.out.mono ?_; rintro e w1 ⟨rfl, hb⟩)
    | (go_at_call 44; refine (hy.out _ (hb.alloc hb.size _)).mono ?_; rintro e w2 ⟨rfl, hb2⟩))
  have hB2 := (Boxed.first w1 p wd 54).below hb2
  have hW2 := (hb.alloc hb.size (.cells #[.int .u64 p, .bool wd] 54)).trans (hb2.mono (by have := hb.size; simp; omega))
  clear hb2 hx hy
  go_loopw [10, 33] (fun vs vi wr => ∃ k : Nat, k ≤ xs.length ∧ vi = .int .i64 k ∧ vs = .int .u64 (dt p xs ys k) ∧ Boxed w1 p wd wr ∧ Below w.heap.size w wr) (fun _ vi _ => xs.length - (intOf vi).toNat)
  case atStart => exact ⟨0, Nat.zero_le _, rfl, rfl, hB2, hW2⟩
  case round =>
    clear hB2 hW2
    obtain ⟨k, hk, rfl, rfl, hB, hW⟩ := hrel
    by_cases hlt : k < xs.length
    · obtain ⟨b1, o1, rfl, m1, g1⟩ := hc1 (by intro h; rw [h] at hlt; simp at hlt)
      obtain ⟨b2, o2, rfl, m2, g2⟩ := hc2 (by intro h; have := HL.out; rw [h] at this; simp at this; rw [this] at hlt; simp at hlt)
      have hlt2 : k < ys.length := by have := HL.out; omega
      have d1 := (hW.cell (p := ⟨b1, o1 + k, none⟩) m1).trans (g1 k hlt)
      have d2 := (hW.cell (p := ⟨b2, o2 + k, none⟩) m2).trans (g2 k hlt2)
      have x1 := e1.out k hlt
      have x2 := e2.out k hlt2
      have k0 : (0 : Int) ≤ (k : Int) := Int.natCast_nonneg _
      have k1 : (k : Int) < (xs.length : Int) := by omega
      have HS := hide (show add p (dt p xs ys k) (mul p (xs.getD k 0) (ys.getD k 0)) = dt p xs ys (k + 1) from rfl)
      have sd := dt_el hp0 xs ys k
      have sm := mul_el (a := xs.getD k 0) (b := ys.getD k 0) hp0
      generalize xs.getD k 0 = x at *
      generalize ys.getD k 0 = y at *
      generalize dt p xs ys k = s at *
      have sa := hide (fun W => add_any p s (mul p x y) wd W hp1 sd.1 sm.1 (elWord sd hp1).2 (elWord sm hp1).2 (by have := sd.2; have := sm.2; omega))
      have sx := hide (fun W => mul_any p x y wd W hmd x1 x2)
      clear g1 g2 hc1 hc2 x1 x2 sd sm
      have hS0 := And.intro hB.1 (And.intro hB.2.1 (And.intro d1 d2))
      go_wp2_with fail
      go_region_held3 (fun w' => w'.cell? ⟨w1.heap.size, 0, none⟩ = some (.int .u64 p) ∧ w'.cell? ⟨w1.heap.size, 1, none⟩ = some (.bool wd) ∧ w'.cell? ⟨b1, o1 + k, none⟩ = some (.int .u64 x) ∧ w'.cell? ⟨b2, o2 + k, none⟩ = some (.int .u64 y))
        (first | exact hS0 | exact hS2 | exact hS)
        (first
          | (go_at_call 37; refine (sx.out _).mono ?_; rintro e w3 ⟨rfl, hb3⟩; have hS := keep4 hb3 hS0)
          | (go_at_call 33; refine (sa.out _).mono ?_; rintro e w4 ⟨rfl, hb4⟩; have hS2 := keep4 hb4 hS))
      have hB4 := ((hB.below (Below.refl _ _).drew).below hb3).below hb4
      have hW4 := Below.next (Below.next hW.drew hb3) hb4
      clear hS hS2 hS0 hb3 hb4 hB hW d1 d2
      go_wp2
      go_roundw
      case rel => exact ⟨k + 1, by omega, by go_num, by rw [HS.out], hB4, hW4⟩
      case measure => simp [intOf]; omega
    · have hkl : k = xs.length := by omega
      subst hkl
      clear hc1 hc2
      go_wp2
      go_ret2
      exact ⟨rfl, hW⟩

end Go.Proofs.Ytepbfcioocohgaa
