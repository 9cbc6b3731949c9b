/-
  Layer 6: lists of lists compared; slopes, the program's and the document's.
-/
import Derived.Test.YtnjcljnijgkoiaaGreatBTreC
namespace Go.Proofs.YtnjcljnijgkoiaaGreat
open Go.RowKit Fld
set_option linter.unusedVariables false

theorem drewN_below (w : World) (m : Nat) : Below w.heap.size w (w.drewN m) := below_drewN (Below.refl _ w) m

set_option maxHeartbeats 400000 in
theorem Same_quiet (v1 v2 : Value) (xs : List Int) (w : World) (h1 : Row w v1 xs) (h2 : Row w v2 xs) :
    Calls Tryz.prog 14 #[v1, v2] w fun e w' => e = .returned (.bool true) ∧ ∃ m, w' = w.drewN m := by
  obtain ⟨a1, c1, rfl, hlen, _, hc1⟩ := h1
  obtain ⟨a2, c2, rfl, _, _, hc2⟩ := h2
  go_enter Tryz.func14, Tryz.ntmps14
  go_wp2
  go_loopw [5] (fun vi wr => ∃ k m : Nat, k ≤ xs.length ∧ vi = .int .i64 k ∧ Hid (wr = w.drewN m)) (fun vi _ => xs.length - (intOf vi).toNat)
  case atStart => exact ⟨0, 0, Nat.zero_le _, rfl, rfl⟩
  case round =>
    obtain ⟨k, m, hk, rfl, HM⟩ := hrel
    have hB : Below w.heap.size w wr := by rw [HM.out]; exact drewN_below w m
    by_cases hlt : k < xs.length
    · have hne : xs ≠ [] := by intro h; rw [h] at hlt; simp at hlt
      obtain ⟨b1, o1, rfl, l1, g1⟩ := hc1 hne
      obtain ⟨b2, o2, rfl, l2, g2⟩ := hc2 hne
      have d1 := (hB.cell (p := ⟨b1, o1 + k, none⟩) l1).trans (g1 k hlt)
      have d2 := (hB.cell (p := ⟨b2, o2 + k, none⟩) l2).trans (g2 k hlt)
      have k0 : (0 : Int) ≤ (k : Int) := Int.natCast_nonneg _
      have k1 : (k : Int) < (xs.length : Int) := by omega
      generalize xs.getD k 0 = x at *
      clear g1 g2 hc1 hc2 hne hB
      go_wp2_with fail
      go_quiet (fail)
      have HM2 : Hid (wr.drewN nq = w.drewN (m + nq)) := by show _ = _; rw [HM.out, World.drewN_drewN]
      clear HM
      go_wp2
      go_roundw
      case rel => exact ⟨k + 1, m + nq, by omega, by go_num, HM2⟩
      case measure => simp [intOf]; omega
    · clear hc1 hc2 hB
      go_wp2
      go_ret
      exact ⟨rfl, m, HM.out⟩

set_option maxHeartbeats 400000 in
theorem Rows_quiet (v1 v2 : Value) (xss : List (List Int)) (w : World) (h1 : Rws w v1 xss) (h2 : Rws w v2 xss) :
    Calls Tryz.prog 13 #[v1, v2] w fun e w' => e = .returned (.bool true) ∧ ∃ m, w' = w.drewN m := by
  obtain ⟨a1, c1, rfl, hlen, _, hc1⟩ := h1
  obtain ⟨a2, c2, rfl, _, _, hc2⟩ := h2
  go_enter Tryz.func13, Tryz.ntmps13
  go_wp2
  go_loopw [5] (fun vi wr => ∃ k m : Nat, k ≤ xss.length ∧ vi = .int .i64 k ∧ Hid (wr = w.drewN m)) (fun vi _ => xss.length - (intOf vi).toNat)
  case atStart => exact ⟨0, 0, Nat.zero_le _, rfl, rfl⟩
  case round =>
    obtain ⟨k, m, hk, rfl, HM⟩ := hrel
    have hB : Below w.heap.size w wr := by rw [HM.out]; exact drewN_below w m
    by_cases hlt : k < xss.length
    · have hne : xss ≠ [] := by intro h; rw [h] at hlt; simp at hlt
      obtain ⟨b1, o1, rfl, l1, g1⟩ := hc1 hne
      obtain ⟨b2, o2, rfl, l2, g2⟩ := hc2 hne
      obtain ⟨q1, e1, r1⟩ := g1 k hlt
      obtain ⟨q2, e2, r2⟩ := g2 k hlt
      have d1 := (hB.cell (p := ⟨b1, o1 + k, none⟩) l1).trans e1
      have d2 := (hB.cell (p := ⟨b2, o2 + k, none⟩) l2).trans e2
      have HS := hide (fun n => Same_quiet q1 q2 _ (wr.drewN n) ((r1.below (Below.next hB (drewN_below wr n))).1) ((r2.below (Below.next hB (drewN_below wr n))).1))
      obtain ⟨z1, y1, rfl, _⟩ := r1.spell
      obtain ⟨z2, y2, rfl, _⟩ := r2.spell
      have k0 : (0 : Int) ≤ (k : Int) := Int.natCast_nonneg _
      have k1 : (k : Int) < (xss.length : Int) := by omega
      clear g1 g2 hc1 hc2 hne hB e1 e2 r1 r2
      generalize (xss.getD k []).length = ln at *
      go_wp2_with fail
      go_quiet ((first
        | (go_at_call 14; exact Calls.quiet_of (HS.out _))))
      have HM2 : Hid (wr.drewN nq = w.drewN (m + nq)) := by show _ = _; rw [HM.out, World.drewN_drewN]
      clear HM
      go_wp2
      go_roundw
      case rel => exact ⟨k + 1, m + nq, by omega, by go_num, HM2⟩
      case measure => simp [intOf]; omega
    · clear hc1 hc2 hB
      go_wp2
      go_ret
      exact ⟨rfl, m, HM.out⟩

theorem chk_nil (f : Int) (xs : List Int) : chk f [xs, []] = chk f [xs] := by
  unfold chk
  cases h : inF f xs with
  | false => simp [h]
  | true => simp [h, inF_nil h]
theorem chk_two_no {f : Int} {xs ys : List Int} (h : er f xs ys = 2) : chk f [xs, ys] = 2 := by
  unfold er erb at h
  cases h1 : inF f xs with
  | false => exact chk_arg (k := 0) (by simp) h1
  | true =>
    cases h2 : inF f ys with
    | false => exact chk_arg (k := 1) (by simp) h2
    | true => rw [h1, h2, if_pos (by rfl)] at h; split at h <;> exact absurd h (by decide)
theorem two_in {f : Int} {xs ys : List Int} (h : er f xs ys ≠ 2) : inF f xs = true ∧ inF f ys = true := by
  unfold er erb at h
  cases h1 : inF f xs with
  | false => rw [h1] at h; exact absurd rfl h
  | true =>
    cases h2 : inF f ys with
    | false => rw [h1, h2] at h; exact absurd rfl h
    | true => exact ⟨rfl, rfl⟩
theorem two_all {f : Int} {xs ys : List Int} (h : inF f xs = true ∧ inF f ys = true) : ∀ i, i < [xs, ys].length → inF f ([xs, ys].getD i []) = true := fun i hi => by
  obtain rfl | rfl : i = 0 ∨ i = 1 := by simp at hi; omega
  · exact h.1
  · exact h.2

set_option maxHeartbeats 200000 in
theorem tbad_any (f : Int) (v1 v2 : Value) (xs ys : List Int) (w : World) (h1 : Rw w v1 xs) (h2 : Rw w v2 ys) :
    Calls Tryz.prog 84 #[.int .u8 f, v1, v2] w fun e w' => e = .returned (.int .i64 (chk f [xs, ys])) ∧ w' = w := by
  have hb := hide (rBad_any f v1 v2 xs ys w h1 h2)
  have l1 := h1.len
  have l2 := h2.len
  obtain ⟨a1, c1, rfl, _⟩ := h1.spell
  obtain ⟨a2, c2, rfl, _⟩ := h2.spell
  clear h1 h2
  by_cases he : er f xs ys = 2
  · have HE := hide (chk_two_no he)
    rw [he] at hb
    go_enter Tryz.func84, Tryz.ntmps84
    go_wp2_with (go_at_call 87; refine hb.out.mono ?_; rintro e w1 ⟨rfl, hw⟩; rw [hw]; clear hw)
    go_ret
    exact ⟨ret_i64 HE.out.symm, rfl⟩
  · have ht : (er f xs ys == 2) = false := beq_eq_false_iff_ne.2 he
    have hA := hide (two_all (two_in he))
    by_cases hx : 2048 < xs.length
    · have HE := hide (chk_long hA.out (k := 0) (by simp) hx)
      clear hA
      generalize er f xs ys = e0 at *
      go_enter Tryz.func84, Tryz.ntmps84
      go_wp2_with (go_at_call 87; refine hb.out.mono ?_; rintro e w1 ⟨rfl, hw⟩; rw [hw]; clear hw)
      go_ret
      exact ⟨ret_i64 HE.out.symm, rfl⟩
    · by_cases hy : 2048 < ys.length
      · have HE := hide (chk_long hA.out (k := 1) (by simp) hy)
        clear hA
        generalize er f xs ys = e0 at *
        go_enter Tryz.func84, Tryz.ntmps84
        go_wp2_with (go_at_call 87; refine hb.out.mono ?_; rintro e w1 ⟨rfl, hw⟩; rw [hw]; clear hw)
        go_ret
        exact ⟨ret_i64 HE.out.symm, rfl⟩
      · have HE := hide (chk_ok hA.out (fun i hi => by
          obtain rfl | rfl : i = 0 ∨ i = 1 := by simp at hi; omega
          · show xs.length ≤ 2048; omega
          · show ys.length ≤ 2048; omega))
        clear hA
        generalize er f xs ys = e0 at *
        go_enter Tryz.func84, Tryz.ntmps84
        go_wp2_with (go_at_call 87; refine hb.out.mono ?_; rintro e w1 ⟨rfl, hw⟩; rw [hw]; clear hw)
        go_ret
        exact ⟨ret_i64 HE.out.symm, rfl⟩
theorem tbad_one (f : Int) (v : Value) (xs : List Int) (w : World) (h : Rw w v xs) :
    Calls Tryz.prog 84 #[.int .u8 f, v, .slice none 0 0] w fun e w' => e = .returned (.int .i64 (chk f [xs])) ∧ w' = w := by
  have := tbad_any f v (.slice none 0 0) xs [] w h (rw0 w)
  rw [chk_nil] at this; exact this

end Go.Proofs.YtnjcljnijgkoiaaGreat
