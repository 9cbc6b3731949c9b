/-
  The document's Two, Root and Log.
-/
import Derived.Test.YtdphagkehdeanaaRootD
namespace Go.Proofs.Ytdphagkehdeanaa
open Go.RowKit Fld
set_option linter.unusedVariables false

theorem rTwo_yes (f p : Int) (wd : Bool) (L : Nat) (g : Int) (w : World) (h : Lb f p wd L g) :
    Calls Try.prog 8 #[.int .u8 f] w fun e w' => e = .returned (.int .i64 L) ∧ w' = w := by
  rcases h with ⟨rfl, rfl, rfl, rfl, rfl⟩ | ⟨rfl, rfl, rfl, rfl, rfl⟩
  · go_enter Try.func8, Try.ntmps8
    go_wp2
    go_ret
    exact ⟨rfl, rfl⟩
  · go_enter Try.func8, Try.ntmps8
    go_wp2
    go_ret
    exact ⟨rfl, rfl⟩

theorem rTwo_no (f : Int) (w : World) (h1 : f ≠ 1) (h2 : f ≠ 2) :
    Calls Try.prog 8 #[.int .u8 f] w fun e w' => e = .returned (.int .i64 (-1)) ∧ w' = w := by
  have e1 : (f == 1) = false := beq_eq_false_iff_ne.2 h1
  have e2 : (f == 2) = false := beq_eq_false_iff_ne.2 h2
  clear h1 h2
  go_enter Try.func8, Try.ntmps8
  go_wp2
  go_ret
  exact ⟨rfl, rfl⟩

theorem rRoot_of (f l t : Int) (w : World) (ht : ∀ W, Calls Try.prog 8 #[.int .u8 f] W fun e w' => e = .returned (.int .i64 t) ∧ w' = W) (h : l < 0 ∨ t < l) :
    Calls Try.prog 10 #[.int .u8 f, .int .i64 l] w fun e w' => e = .returned (.tuple #[.int .u64 0, .int .i64 2]) ∧ w' = w := by
  have ht := hide ht
  by_cases h1 : l < 0
  · clear h
    go_enter Try.func10, Try.ntmps10
    go_wp2
    go_ret2
    exact ⟨rfl, rfl⟩
  · have h2 : t < l := by omega
    clear h
    go_enter Try.func10, Try.ntmps10
    go_wp2_with (go_at_call 8; refine (ht.out _).mono ?_; rintro e w1 ⟨rfl, hw⟩; rw [hw]; clear hw)
    go_ret2
    exact ⟨rfl, rfl⟩

theorem rRoot_nof (f l : Int) (w : World) (h1 : f ≠ 1) (h2 : f ≠ 2) :
    Calls Try.prog 10 #[.int .u8 f, .int .i64 l] w fun e w' => e = .returned (.tuple #[.int .u64 0, .int .i64 2]) ∧ w' = w :=
  rRoot_of f l (-1) w (fun W => rTwo_no f W h1 h2) (by omega)
theorem rRoot_out (f p : Int) (wd : Bool) (L : Nat) (g l : Int) (w : World) (h : Lb f p wd L g) (hl : l < 0 ∨ (L : Int) < l) :
    Calls Try.prog 10 #[.int .u8 f, .int .i64 l] w fun e w' => e = .returned (.tuple #[.int .u64 0, .int .i64 2]) ∧ w' = w :=
  rRoot_of f l L w (fun W => rTwo_yes f p wd L g W h) hl

set_option maxHeartbeats 400000 in
theorem rRoot_yes (f p : Int) (wd : Bool) (L : Nat) (g : Int) (k : Nat) (w : World) (h : Lb f p wd L g) (hk : k ≤ L) :
    Calls Try.prog 10 #[.int .u8 f, .int .i64 k] w fun e w' => e = .returned (.tuple #[.int .u64 (rv p g k), .int .i64 0]) ∧ w' = w := by
  have ht := hide (fun W => rTwo_yes f p wd L g W h)
  have hP := hide (fun W => rP_yes f p wd W h.fi)
  have hp1 := h.fi.pos
  have hp2 := h.fi.top
  have hw := shift_word (p := p) (L := k) (by omega) hp2
  have hX := hide (fun W => rPower_any p g ((p - 1) / 2 ^ k) W hp2 (by have := h.fi.md.bounds; omega) h.base hw.1 hw.2)
  have hL := h.le
  have hmin : min k 64 = k := Nat.min_eq_left (by omega)
  have k0 : (0 : Int) ≤ (k : Int) := Int.natCast_nonneg _
  obtain ⟨x, HX⟩ : ∃ x, Hid (rv p g k = x) := ⟨_, rfl⟩
  have hX : Hid (∀ W, Calls Try.prog 24 #[.int .u64 p, .int .u64 g, .int .u64 ((p - 1) / 2 ^ k)] W fun e w' => e = .returned (.int .u64 x) ∧ w' = W) := by
    have := hX; rw [← HX.out]; exact this
  rw [HX.out]
  clear HX
  rcases h with ⟨rfl, rfl, rfl, rfl, rfl⟩ | ⟨rfl, rfl, rfl, rfl, rfl⟩
  · clear hw
    go_enter Try.func10, Try.ntmps10
    go_wp2_with (first
      | (go_at_call 8; refine (ht.out _).mono ?_; rintro e w1 ⟨rfl, hw⟩; rw [hw]; clear hw)
      | (go_at_call 19; refine (hP.out _).mono ?_; rintro e w1 ⟨rfl, hw⟩; rw [hw]; clear hw)
      | (go_at_call 24; refine (hX.out _).mono ?_; rintro e w1 ⟨rfl, hw⟩; rw [hw]; clear hw))
    go_ret2
    exact ⟨rfl, rfl⟩
  · clear hw
    go_enter Try.func10, Try.ntmps10
    go_wp2_with (first
      | (go_at_call 8; refine (ht.out _).mono ?_; rintro e w1 ⟨rfl, hw⟩; rw [hw]; clear hw)
      | (go_at_call 19; refine (hP.out _).mono ?_; rintro e w1 ⟨rfl, hw⟩; rw [hw]; clear hw)
      | (go_at_call 24; refine (hX.out _).mono ?_; rintro e w1 ⟨rfl, hw⟩; rw [hw]; clear hw))
    go_ret2
    exact ⟨rfl, rfl⟩

theorem rLog_no (f a : Int) (w : World) (ha : 0 ≤ a ∧ a ≤ 18446744073709551615) (h : Bad f [a]) :
    Calls Try.prog 12 #[.int .u8 f, .int .u64 a] w fun e w' => e = .returned (.tuple #[.int .i64 0, .bool false, .int .i64 2]) ∧ Below w.heap.size w w' := by
  have hi := hide (fun W v hr => rIn_no f v [a] W h hr)
  have hrow := hide (fun T => row1 w a ha T)
  clear h ha
  go_enter Try.func12, Try.ntmps12
  go_wp2_with (go_at_call 27; refine (hi.out _ _ (hrow.out _)).mono ?_; rintro e w1 ⟨rfl, hw⟩; rw [hw]; clear hw)
  exact bodyPost_ret (v := .tuple #[.int .i64 0, .bool false, .int .i64 2]) (by simp [results, Try.results12, go_sem]) rfl ⟨rfl, (Below.refl _ _).alloc (Nat.le_refl _) _⟩

theorem rLog_zero (f p : Int) (wd : Bool) (w : World) (h : Fi f p wd) :
    Calls Try.prog 12 #[.int .u8 f, .int .u64 0] w fun e w' => e = .returned (.tuple #[.int .i64 0, .bool false, .int .i64 5]) ∧ Below w.heap.size w w' := by
  have h0 : El p 0 := ⟨by decide, h.pos⟩
  have hi := hide (fun W v hr => rIn_yes f p wd v [0] W h hr (allIn1 h0))
  have hrow := hide (fun T => row1 w 0 (by decide) T)
  clear h h0
  go_enter Try.func12, Try.ntmps12
  go_wp2_with (go_at_call 27; refine (hi.out _ _ (hrow.out _)).mono ?_; rintro e w1 ⟨rfl, hw⟩; rw [hw]; clear hw)
  exact bodyPost_ret (v := .tuple #[.int .i64 0, .bool false, .int .i64 5]) (by simp [results, Try.results12, go_sem]) rfl ⟨rfl, (Below.refl _ _).alloc (Nat.le_refl _) _⟩

set_option maxHeartbeats 400000 in
theorem rLog_yes (f p : Int) (wd : Bool) (L : Nat) (g a : Int) (K : Nat) (w : World) (h : Lb f p wd L g) (ha : El p a) (h0 : a ≠ 0) (hK : K ≤ L) (h1 : sq p a K = 1) (hn : ∀ i, i < K → sq p a i ≠ 1) :
    Calls Try.prog 12 #[.int .u8 f, .int .u64 a] w fun e w' => e = .returned (.tuple #[.int .i64 K, .bool true, .int .i64 0]) ∧ Below w.heap.size w w' := by
  have hi := hide (fun W v hr => rIn_yes f p wd v [a] W h.fi hr (allIn1 ha))
  have hrow := hide (fun T => row1 w a (elWord ha h.fi.top) T)
  have ht := hide (fun W => rTwo_yes f p wd L g W h)
  have hP := hide (fun W => rP_yes f p wd W h.fi)
  have HE := hide (fun k => sq_el h.fi.pos ha k)
  have HM := hide (fun W x (hx : El p x) => rTimes_any p x x W h.fi.top hx hx.1 (elWord hx h.fi.top).2)
  have hz : (a == 0) = false := beq_eq_false_iff_ne.2 h0
  have HN := hide hn
  have H1 := hide h1
  have hL := h.le
  clear h h0 ha hn h1
  go_enter Try.func12, Try.ntmps12
  go_wp2_with (go_at_call 27; refine (hi.out _ _ (hrow.out _)).mono ?_; rintro e w1 ⟨rfl, hw⟩; rw [hw]; clear hw)
  go_loop [1, 7] (fun va vk => ∃ k : Nat, k ≤ K ∧ va = .int .u64 (sq p a k) ∧ vk = .int .i64 k) (fun _ vk => K - (intOf vk).toNat)
  case atStart => exact ⟨0, Nat.zero_le _, rfl, rfl⟩
  case round =>
    obtain ⟨k, hk, rfl, rfl⟩ := hrel
    clear hz
    by_cases hlt : k < K
    · have hf : (sq p a k == 1) = false := beq_eq_false_iff_ne.2 (HN.out k hlt)
      have HS := hide (show mul p (sq p a k) (sq p a k) = sq p a (k + 1) from rfl)
      have hm := hide (fun W => HM.out W _ (HE.out k))
      generalize sq p a k = x at *
      go_wp2_with (first
        | (go_at_call 8; refine (ht.out _).mono ?_; rintro e w1 ⟨rfl, hw⟩; rw [hw]; clear hw)
        | (go_at_call 19; refine (hP.out _).mono ?_; rintro e w1 ⟨rfl, hw⟩; rw [hw]; clear hw)
        | (go_at_call 20; refine (hm.out _).mono ?_; rintro e w1 ⟨rfl, hw⟩; rw [hw]; clear hw))
      go_round
      case rel => exact ⟨k + 1, by omega, by rw [HS.out], by go_num⟩
      case measure => simp [intOf]; omega
    · obtain rfl : k = K := by omega
      have hf : (sq p a k == 1) = true := beq_iff_eq.2 H1.out
      generalize sq p a k = x at *
      go_wp2_with (go_at_call 8; refine (ht.out _).mono ?_; rintro e w1 ⟨rfl, hw⟩; rw [hw]; clear hw)
      exact bodyPost_ret (v := .tuple #[.int .i64 k, .bool true, .int .i64 0]) (by simp [results, Try.results12, go_sem]) rfl ⟨rfl, (Below.refl _ _).alloc (Nat.le_refl _) _⟩

set_option maxHeartbeats 400000 in
theorem rLog_none (f p : Int) (wd : Bool) (L : Nat) (g a : Int) (w : World) (h : Lb f p wd L g) (ha : El p a) (h0 : a ≠ 0) (hn : ∀ i, i ≤ L → sq p a i ≠ 1) :
    Calls Try.prog 12 #[.int .u8 f, .int .u64 a] w fun e w' => e = .returned (.tuple #[.int .i64 0, .bool false, .int .i64 0]) ∧ Below w.heap.size w w' := by
  have hi := hide (fun W v hr => rIn_yes f p wd v [a] W h.fi hr (allIn1 ha))
  have hrow := hide (fun T => row1 w a (elWord ha h.fi.top) T)
  have ht := hide (fun W => rTwo_yes f p wd L g W h)
  have hP := hide (fun W => rP_yes f p wd W h.fi)
  have HE := hide (fun k => sq_el h.fi.pos ha k)
  have HM := hide (fun W x (hx : El p x) => rTimes_any p x x W h.fi.top hx hx.1 (elWord hx h.fi.top).2)
  have hz : (a == 0) = false := beq_eq_false_iff_ne.2 h0
  have HN := hide hn
  have hL := h.le
  clear h h0 ha hn
  go_enter Try.func12, Try.ntmps12
  go_wp2_with (go_at_call 27; refine (hi.out _ _ (hrow.out _)).mono ?_; rintro e w1 ⟨rfl, hw⟩; rw [hw]; clear hw)
  go_loop [1, 7] (fun va vk => ∃ k : Nat, k ≤ L + 1 ∧ va = .int .u64 (sq p a k) ∧ vk = .int .i64 k) (fun _ vk => L + 1 - (intOf vk).toNat)
  case atStart => exact ⟨0, Nat.zero_le _, rfl, rfl⟩
  case round =>
    obtain ⟨k, hk, rfl, rfl⟩ := hrel
    clear hz
    by_cases hlt : k ≤ L
    · have hf : (sq p a k == 1) = false := beq_eq_false_iff_ne.2 (HN.out k hlt)
      have HS := hide (show mul p (sq p a k) (sq p a k) = sq p a (k + 1) from rfl)
      have hm := hide (fun W => HM.out W _ (HE.out k))
      generalize sq p a k = x at *
      go_wp2_with (first
        | (go_at_call 8; refine (ht.out _).mono ?_; rintro e w1 ⟨rfl, hw⟩; rw [hw]; clear hw)
        | (go_at_call 19; refine (hP.out _).mono ?_; rintro e w1 ⟨rfl, hw⟩; rw [hw]; clear hw)
        | (go_at_call 20; refine (hm.out _).mono ?_; rintro e w1 ⟨rfl, hw⟩; rw [hw]; clear hw))
      go_round
      case rel => exact ⟨k + 1, by omega, by rw [HS.out], by go_num⟩
      case measure => simp [intOf]; omega
    · obtain rfl : k = L + 1 := by omega
      generalize sq p a (L + 1) = x at *
      go_wp2_with (go_at_call 8; refine (ht.out _).mono ?_; rintro e w1 ⟨rfl, hw⟩; rw [hw]; clear hw)
      exact bodyPost_ret (v := .tuple #[.int .i64 0, .bool false, .int .i64 0]) (by simp [results, Try.results12, go_sem]) rfl ⟨rfl, (Below.refl _ _).alloc (Nat.le_refl _) _⟩

end Go.Proofs.Ytdphagkehdeanaa
