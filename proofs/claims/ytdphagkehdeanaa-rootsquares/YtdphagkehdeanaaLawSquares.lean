/-
  RootSquares: squared, a root is the one of the log below; its log is told; its powers sum up to 0.
-/
import Derived.Test.YtdphagkehdeanaaRootQ
import Derived.Test.YtdphagkehdeanaaLawPows
namespace Go.Proofs.Ytdphagkehdeanaa
open Go.RowKit Fld
set_option linter.unusedVariables false

/-- What the law's walk starts from. -/
structure Sqs (f l q p : Int) (wd : Bool) (L : Nat) (g : Int) (K : Nat) : Prop where
  lb : Lb q p wd L g
  fq : f % 2 + 1 = q
  f0 : 0 ≤ f
  f1 : f ≤ 255
  l0 : 0 ≤ l
  l1 : l ≤ 255
  lK : l % ((L : Int) + 1) = (K : Int)
  KL : K ≤ L

theorem Log_rv {f p : Int} {wd : Bool} {L : Nat} {g : Int} (h : Lb f p wd L g) (k : Nat) (hk : k ≤ L) : Ans 11 #[.int .u8 f, .int .u64 (rv p g k)] (.tuple #[.int .i64 k, .bool true, .int .i64 0]) := fun W => by
  obtain ⟨h1, h2⟩ := rv_order h k hk
  have he : El p (rv p g k) := rv_el h.fi.pos
  exact Log_of f p wd L g _ k true W h he (rv_nz h k hk) (fun W => logOf_yes f p wd L g _ k W h.fi h.le.2 he hk h1 h2)

set_option maxRecDepth 100000 in
set_option maxHeartbeats 400000 in
theorem squares_zero (f l q p : Int) (wd : Bool) (L : Nat) (g : Int) (w : World) (h : Sqs f l q p wd L g 0) :
    Calls Try.prog 5 #[.int .u8 f, .int .u8 l] w fun e w' => e = .returned (.bool true) ∧ Below w.heap.size w w' := by
  obtain ⟨lb, rfl, f0, f1, l0, l1, lK, KL⟩ := h
  have hL := lb.le
  have h1 : Hid (Ans 7 #[.int .u8 (f % 2 + 1)] (.tuple #[.int .i64 L, .int .i64 0])) := fun W => Two_yes _ p wd L g W lb
  have h2 : Hid (Ans 9 #[.int .u8 (f % 2 + 1), .int .i64 0] (.tuple #[.int .u64 (rv p g 0), .int .i64 0])) := fun W => Root_yes _ p wd L g 0 W lb KL
  have h3 := hide (Log_rv lb 0 KL)
  rw [lb.rv0] at h2 h3
  have h4 := hide anchored2_any
  have hne : ¬ (L : Int) + 1 = 0 := by omega
  have lK2 : l.tmod ((L : Int) + 1) = 0 := by rw [Int.tmod_eq_emod_of_nonneg l0]; exact lK
  have hB := Below.refl w.heap.size w
  clear lb
  go_enter Try.func5, Try.ntmps5
  go_wp2_with (first
      | (go_at_call 7; refine (h1.out _).mono ?_; rintro e w1 ⟨rfl, hb⟩; have hB := Below.next hB hb)
      | (go_at_call 9; refine (h2.out _).mono ?_; rintro e w1 ⟨rfl, hb⟩; have hB := Below.next hB hb)
      | (go_at_call 11; refine (h3.out _).mono ?_; rintro e w1 ⟨rfl, hb⟩; have hB := Below.next hB hb)
      | (go_at_call 13; refine (h4.out _).mono ?_; rintro e w1 ⟨rfl, hb⟩; have hB := Below.next hB hb)
      | fail)
  go_ret
  exact ⟨rfl, hB⟩

set_option maxRecDepth 100000 in
set_option maxHeartbeats 400000 in
theorem squares_big (f l q p : Int) (wd : Bool) (L : Nat) (g : Int) (K : Nat) (w : World) (h : Sqs f l q p wd L g K) (hK : 8 < K) :
    Calls Try.prog 5 #[.int .u8 f, .int .u8 l] w fun e w' => e = .returned (.bool true) ∧ Below w.heap.size w w' := by
  obtain ⟨lb, rfl, f0, f1, l0, l1, lK, KL⟩ := h
  have hL := lb.le
  obtain ⟨j, HJ⟩ : ∃ j, Hid (K = j + 1) := ⟨K - 1, by show K = K - 1 + 1; omega⟩
  have h1 : Hid (Ans 7 #[.int .u8 (f % 2 + 1)] (.tuple #[.int .i64 L, .int .i64 0])) := fun W => Two_yes _ p wd L g W lb
  have h2 : Hid (Ans 9 #[.int .u8 (f % 2 + 1), .int .i64 K] (.tuple #[.int .u64 (rv p g K), .int .i64 0])) := fun W => Root_yes _ p wd L g K W lb KL
  have h5 : Hid (Ans 9 #[.int .u8 (f % 2 + 1), .int .i64 j] (.tuple #[.int .u64 (rv p g j), .int .i64 0])) := fun W => Root_yes _ p wd L g j W lb (by have := HJ.out; omega)
  have h3 := hide (Log_rv lb K KL)
  have h4 := hide anchored2_any
  have h6 : Hid (Ans 19 #[.int .u8 (f % 2 + 1)] (.int .u64 p)) := Ans.of_same fun W => rP_yes _ p wd W lb.fi
  have h7 : Hid (Ans 20 #[.int .u64 p, .int .u64 (rv p g K), .int .u64 (rv p g K)] (.int .u64 (rv p g j))) := by
    have e : mul p (rv p g K) (rv p g K) = rv p g j := by have := HJ.out; subst this; exact rv_step lb j KL
    have he : El p (rv p g K) := rv_el lb.fi.pos
    refine Ans.of_same fun W => ?_
    have := rTimes_any p (rv p g K) (rv p g K) W lb.fi.top he he.1 (elWord he lb.fi.top).2
    rw [e] at this; exact this
  have hne : ¬ (L : Int) + 1 = 0 := by omega
  have lK2 : l.tmod ((L : Int) + 1) = (K : Int) := by rw [Int.tmod_eq_emod_of_nonneg l0]; exact lK
  have hj : (K : Int) - 1 = (j : Int) := by have := HJ.out; omega
  have hB := Below.refl w.heap.size w
  have hz : ((K : Int) == 0) = false := beq_eq_false_iff_ne.2 (by omega)
  clear lb
  generalize rv p g K = x at *
  generalize rv p g j = y at *
  go_enter Try.func5, Try.ntmps5
  go_wp2_with (go_at_call 7; refine (h1.out _).mono ?_; rintro e w1 ⟨rfl, hb⟩; have hB := Below.next hB hb; clear hb)
  refine (h2.out _).mono ?_
  rintro e w2 ⟨rfl, hb⟩
  have hB := Below.next hB hb
  clear hb h2
  go_wp2_with (go_at_call 11; refine (h3.out _).mono ?_; rintro e w3 ⟨rfl, hb⟩; have hB := Below.next hB hb; clear hb)
  refine (h5.out _).mono ?_
  rintro e w4 ⟨rfl, hb⟩
  have hB := Below.next hB hb
  clear hb h5
  go_wp2_with (first
      | (go_at_call 19; refine (h6.out _).mono ?_; rintro e w5 ⟨rfl, hb⟩; have hB := Below.next hB hb)
      | (go_at_call 20; refine (h7.out _).mono ?_; rintro e w6 ⟨rfl, hb⟩; have hB := Below.next hB hb)
      | (go_at_call 13; refine (h4.out _).mono ?_; rintro e w7 ⟨rfl, hb⟩; have hB := Below.next hB hb)
      | fail)
  go_ret
  exact ⟨rfl, hB⟩

theorem pow_small {K : Nat} (h : K ≤ 8) : 2 ^ K ≤ 256 := Nat.le_trans (Nat.pow_le_pow_right (by decide) h) (by decide)

set_option maxRecDepth 100000 in
set_option maxHeartbeats 400000 in
theorem squares_small (f l q p : Int) (wd : Bool) (L : Nat) (g : Int) (K : Nat) (w : World) (h : Sqs f l q p wd L g K) (hK : K ≤ 8) (hK1 : 1 ≤ K) :
    Calls Try.prog 5 #[.int .u8 f, .int .u8 l] w fun e w' => e = .returned (.bool true) ∧ Below w.heap.size w w' := by
  obtain ⟨lb, rfl, f0, f1, l0, l1, lK, KL⟩ := h
  have hL := lb.le
  obtain ⟨j, HJ⟩ : ∃ j, Hid (K = j + 1) := ⟨K - 1, by show K = K - 1 + 1; omega⟩
  have h1 : Hid (Ans 7 #[.int .u8 (f % 2 + 1)] (.tuple #[.int .i64 L, .int .i64 0])) := fun W => Two_yes _ p wd L g W lb
  have h2 : Hid (Ans 9 #[.int .u8 (f % 2 + 1), .int .i64 K] (.tuple #[.int .u64 (rv p g K), .int .i64 0])) := fun W => Root_yes _ p wd L g K W lb KL
  have h5 : Hid (Ans 9 #[.int .u8 (f % 2 + 1), .int .i64 j] (.tuple #[.int .u64 (rv p g j), .int .i64 0])) := fun W => Root_yes _ p wd L g j W lb (by have := HJ.out; omega)
  have h3 := hide (Log_rv lb K KL)
  have h4 := hide anchored2_any
  have h6 : Hid (Ans 19 #[.int .u8 (f % 2 + 1)] (.int .u64 p)) := Ans.of_same fun W => rP_yes _ p wd W lb.fi
  have h7 : Hid (Ans 20 #[.int .u64 p, .int .u64 (rv p g K), .int .u64 (rv p g K)] (.int .u64 (rv p g j))) := by
    have e : mul p (rv p g K) (rv p g K) = rv p g j := by have := HJ.out; subst this; exact rv_step lb j KL
    have he : El p (rv p g K) := rv_el lb.fi.pos
    refine Ans.of_same fun W => ?_
    have := rTimes_any p (rv p g K) (rv p g K) W lb.fi.top he he.1 (elWord he lb.fi.top).2
    rw [e] at this; exact this
  have hne : ¬ (L : Int) + 1 = 0 := by omega
  have lK2 : l.tmod ((L : Int) + 1) = (K : Int) := by rw [Int.tmod_eq_emod_of_nonneg l0]; exact lK
  have hj : (K : Int) - 1 = (j : Int) := by have := HJ.out; omega
  have hB := Below.refl w.heap.size w
  have hz : ((K : Int) == 0) = false := beq_eq_false_iff_ne.2 (by omega)
  have hpw := wrap_pow K (by omega)
  have HC := hide (cast_pow K)
  have HN := hide (pow_small hK)
  obtain ⟨N, HNe⟩ : ∃ N : Nat, Hid (2 ^ K = N) := ⟨_, rfl⟩
  have hpN : (2 : Int) ^ K = (N : Int) := by rw [← cast_pow, HNe.out]
  have hN : N ≤ 256 := by have := HN.out; rw [HNe.out] at this; exact this
  have h8 : Hid (AnsL 14 #[.int .u8 (f % 2 + 1), .int .u64 (rv p g K), .int .i64 N] (pws p (rv p g K) N) 0) := fun W => Powers_yes _ p wd (rv p g K) N W lb.fi (rv_el lb.fi.pos) (by omega)
  have HZ : Hid (sm p (rv p g K) N = 0) := by have := sm_zero lb K KL hK1; rw [HNe.out] at this; exact this
  have HP : Hid (∀ k, El p (pw p (rv p g K) k)) := fun k => pw_el lb.fi.md k
  have HS : Hid (∀ k, El p (sm p (rv p g K) k)) := fun k => sm_el lb.fi.pos k
  have HT := hide lb.fi.top
  rw [hpN] at hpw
  clear lb
  generalize rv p g K = x at *
  generalize rv p g j = y at *
  go_enter Try.func5, Try.ntmps5
  go_wp2_with (go_at_call 7; refine (h1.out _).mono ?_; rintro e w1 ⟨rfl, hb⟩; have hB := Below.next hB hb; clear hb)
  refine (h2.out _).mono ?_
  rintro e w2 ⟨rfl, hb⟩
  have hB := Below.next hB hb
  clear hb h2
  go_wp2_with (go_at_call 11; refine (h3.out _).mono ?_; rintro e w3 ⟨rfl, hb⟩; have hB := Below.next hB hb; clear hb)
  refine (h5.out _).mono ?_
  rintro e w4 ⟨rfl, hb⟩
  have hB := Below.next hB hb
  clear hb h5
  go_wp2_with (first
      | (go_at_call 19; refine (h6.out _).mono ?_; rintro e w5 ⟨rfl, hb⟩; have hB := Below.next hB hb; clear hb)
      | (go_at_call 20; refine (h7.out _).mono ?_; rintro e w6 ⟨rfl, hb⟩; have hB := Below.next hB hb; clear hb)
      | (go_at_call 14; refine (h8.out _).mono ?_; rintro e w7 ⟨v7, rfl, hr7, hb⟩; have hB := Below.next hB hb; clear hb)
      | fail)
  obtain ⟨ao, cap, hv, _, _, hc⟩ := hr7
  rw [pws_len] at hv
  have hc : N ≠ 0 → ∃ b off, ao = some ⟨b, off, none⟩ ∧ b < w7.heap.size ∧ ∀ i, i < N → w7.cell? ⟨b, off + i, none⟩ = some (.int .u64 (pw p x i)) := by
    intro hN0
    obtain ⟨b, off, h1, h2, h3⟩ := hc (by intro e; have := pws_len p x N; rw [e] at this; simp at this; omega)
    refine ⟨b, off, h1, h2, fun i hi => ?_⟩
    have := h3 i (by rw [pws_len]; exact hi)
    rw [pws_at p x N i hi] at this; exact this
  subst hv
  go_loop [19, 20] (fun vs vi => ∃ k : Nat, k ≤ N ∧ vs = .int .u64 (sm p x k) ∧ vi = .int .i64 k) (fun _ vi => N - (intOf vi).toNat)
  case atStart => exact ⟨0, Nat.zero_le _, rfl, rfl⟩
  case round =>
    obtain ⟨k, hk, rfl, rfl⟩ := hrel
    by_cases hlt : k < N
    · obtain ⟨b, off, rfl, hbl, hcell⟩ := hc (by omega)
      have hck := hcell k hlt
      have hm := hide (fun W => rSum_any p (sm p x k) (pw p x k) W HT.out (HS.out k) (HP.out k))
      have HX := hide (show add p (sm p x k) (pw p x k) = sm p x (k + 1) from rfl)
      have k0 : (0 : Int) ≤ (k : Int) := Int.natCast_nonneg _
      have k1 : (k : Int) < (N : Int) := by omega
      generalize sm p x k = S at *
      generalize pw p x k = y2 at *
      clear hcell hc
      go_wp2_with (go_at_call 21; refine (hm.out _).mono ?_; rintro e w8 ⟨rfl, hw⟩; rw [hw]; clear hw)
      go_round
      case rel => exact ⟨k + 1, by omega, by rw [HX.out], by go_num⟩
      case measure => simp [intOf]; omega
    · obtain rfl : k = N := by omega
      rw [HZ.out]
      clear hc
      go_wp2_with (go_at_call 13; refine (h4.out _).mono ?_; rintro e w9 ⟨rfl, hb⟩; have hB := Below.next hB hb)
      go_ret
      exact ⟨rfl, hB⟩

theorem squares_any (f l : Int) (w : World) (hf : 0 ≤ f ∧ f ≤ 255) (hl : 0 ≤ l ∧ l ≤ 255) :
    Calls Try.prog 5 #[.int .u8 f, .int .u8 l] w fun e w' => e = .returned (.bool true) ∧ Below w.heap.size w w' := by
  have hq : ∃ p wd L g, Lb (f % 2 + 1) p wd L g := by
    rcases Lb_or (f % 2 + 1) with h | ⟨h1, h2⟩
    · exact h
    · omega
  obtain ⟨p, wd, L, g, lb⟩ := hq
  have hL := lb.le
  obtain ⟨K, hK⟩ := Int.eq_ofNat_of_zero_le (show 0 ≤ l % ((L : Int) + 1) from Int.emod_nonneg _ (by omega))
  have hlt := Int.emod_lt_of_pos l (show (0 : Int) < (L : Int) + 1 by omega)
  have h : Sqs f l (f % 2 + 1) p wd L g K := ⟨lb, rfl, hf.1, hf.2, hl.1, hl.2, hK, by omega⟩
  by_cases h0 : K = 0
  · subst h0; exact squares_zero f l _ p wd L g w h
  by_cases h8 : 8 < K
  · exact squares_big f l _ p wd L g K w h h8
  · exact squares_small f l _ p wd L g K w h (by omega) (by omega)

end Go.Proofs.Ytdphagkehdeanaa
