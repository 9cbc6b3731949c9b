/-
  The document's own answers of the calls on numbers: P, In, Add, Sub, Mul, Pow and Div, or their errors.
-/
import Derived.Test.YtdegpefhegmamabWalkF
import Derived.Test.YtdegpefhegmamabRefA
namespace Go.Proofs.Ytdegpefhegmamab
open Go.RowKit Fld
set_option linter.unusedVariables false

set_option maxHeartbeats 200000 in
theorem rP_yes (f p : Int) (wd : Bool) (w : World) (h : Fi f p wd) :
    Calls Try.prog 23 #[.int .u8 f] w fun e w' => e = .returned (.int .u64 p) ∧ w' = w := by
  rcases h with ⟨rfl, rfl, rfl⟩ | ⟨rfl, rfl, rfl⟩
  · go_enter Try.func23, Try.ntmps23
    go_wp2
    go_ret
    exact ⟨rfl, rfl⟩
  · go_enter Try.func23, Try.ntmps23
    go_wp2
    go_ret
    exact ⟨rfl, rfl⟩
set_option maxHeartbeats 200000 in
theorem rP_no (f : Int) (w : World) (h1 : f ≠ 1) (h2 : f ≠ 2) :
    Calls Try.prog 23 #[.int .u8 f] w fun e w' => e = .returned (.int .u64 0) ∧ w' = w := by
  have e1 : (f == 1) = false := beq_eq_false_iff_ne.2 h1
  have e2 : (f == 2) = false := beq_eq_false_iff_ne.2 h2
  clear h1 h2
  go_enter Try.func23, Try.ntmps23
  go_wp2
  go_ret
  exact ⟨rfl, rfl⟩

set_option maxHeartbeats 400000 in
/-- In, with whatever prime P gives: all are below it, and it is not 0. -/
theorem rIn_of (f p : Int) (v : Value) (xs : List Int) (w : World) (hp0 : 0 ≤ p) (hp1 : p ≤ 18446744073709551615) (hr : Row w v xs)
    (hP : ∀ W, Calls Try.prog 23 #[.int .u8 f] W fun e w' => e = .returned (.int .u64 p) ∧ w' = W) :
    Calls Try.prog 31 #[.int .u8 f, v] w fun e w' => e = .returned (.bool (allIn p xs && (p != 0))) ∧ w' = w := by
  obtain ⟨ao, cap, rfl, hlen, hw, hc⟩ := hr
  have HP := hide hP
  clear hP
  go_enter Try.func31, Try.ntmps31
  go_wp2_with (go_at_call 23; refine (HP.out _).mono ?_; rintro e w1 ⟨rfl, rfl⟩)
  rename_i w1
  go_loop [6] (fun vi => ∃ k : Nat, k ≤ xs.length ∧ vi = .int .i64 k ∧ ∀ i, i < k → xs.getD i 0 < p) (fun vi => xs.length - (intOf vi).toNat)
  case atStart => exact ⟨0, Nat.zero_le _, rfl, fun i hi => by omega⟩
  case round =>
    obtain ⟨k, hk, rfl, hall⟩ := hrel
    by_cases hlt : k < xs.length
    · obtain ⟨b, off, rfl, hbl, hcell⟩ := hc (by intro h; rw [h] at hlt; simp at hlt)
      have hck := hcell k hlt
      have HA := hide hall
      clear hall hcell hc
      by_cases hin : xs.getD k 0 < p
      · generalize hx : xs.getD k 0 = x at *
        have HX := hide hx
        clear hx
        go_wp2
        go_round
        case rel => exact ⟨k + 1, by omega, by go_num, all_snoc HA.out HX.out hin⟩
        case measure => simp [intOf]; omega
      · have HF := hide (allIn_false k hlt hin)
        generalize xs.getD k 0 = x at *
        go_wp2
        go_ret
        rw [HF.out]
        exact ⟨rfl, rfl⟩
    · have HF := hide (allIn_true (p := p) (xs := xs) (fun i hi => hall i (by omega)))
      clear hall hc
      go_wp2
      go_ret
      rw [HF.out]
      exact ⟨rfl, rfl⟩

theorem rIn_yes (f p : Int) (wd : Bool) (v : Value) (xs : List Int) (w : World) (h : Fi f p wd) (hr : Row w v xs) (hi : allIn p xs = true) :
    Calls Try.prog 31 #[.int .u8 f, v] w fun e w' => e = .returned (.bool true) ∧ w' = w := by
  have hz := h.pos
  refine (rIn_of f p v xs w (by omega) h.top hr (fun W => rP_yes f p wd W h)).mono ?_
  rintro e w' ⟨rfl, rfl⟩
  have : (p != 0) = true := by simp; omega
  rw [hi, this]; exact ⟨rfl, rfl⟩

theorem rIn_no (f : Int) (v : Value) (xs : List Int) (w : World) (h : Bad f xs) (hr : Row w v xs) :
    Calls Try.prog 31 #[.int .u8 f, v] w fun e w' => e = .returned (.bool false) ∧ w' = w := by
  rcases h with ⟨h1, h2⟩ | ⟨p, wd, hf, hi⟩
  · refine (rIn_of f 0 v xs w (by decide) (by decide) hr (fun W => rP_no f W h1 h2)).mono ?_
    rintro e w' ⟨rfl, rfl⟩
    exact ⟨by simp, rfl⟩
  · have hz := hf.pos
    refine (rIn_of f p v xs w (by omega) hf.top hr (fun W => rP_yes f p wd W hf)).mono ?_
    rintro e w' ⟨rfl, rfl⟩
    rw [hi]; exact ⟨rfl, rfl⟩

end Go.Proofs.Ytdegpefhegmamab
