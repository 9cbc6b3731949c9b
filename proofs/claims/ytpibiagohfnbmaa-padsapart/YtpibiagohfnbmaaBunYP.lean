import Derived.Test.YtpibiagohfnbmaaBTreB
import Derived.Test.YtpibiagohfnbmaaBunJ
set_option linter.unusedVariables false
set_option linter.unusedSimpArgs false
set_option maxRecDepth 100000
set_option maxHeartbeats 4000000
namespace Go.Proofs.Ytpibiagohfnbmaa
open Go.RowKit Fld
theorem drewN_below (w : World) (m : Nat) : Below w.heap.size w (w.drewN m) := below_drewN (Below.refl _ w) m
theorem Same_quiet (v1 v2 : Value) (xs : List Int) (w : World) (h1 : Row w v1 xs) (h2 : Row w v2 xs) :
 Calls Try.prog 12 #[v1, v2] w fun e w' => e = .returned (.bool true) ∧ ∃ m, w' = w.drewN m := by
 obtain ⟨a1, c1, rfl, hlen, _, hc1⟩ := h1
 obtain ⟨a2, c2, rfl, _, _, hc2⟩ := h2
 go_enter Try.func12, Try.ntmps12
 go_wp2
 go_loopw [5] (fun vi wr => ∃ k m : Nat, k <= xs.length ∧ vi = .int .i64 k ∧ Hid (wr = w.drewN m)) (fun vi _ => xs.length - (intOf vi).toNat)
 case atStart => exact ⟨0, 0, Nat.zero_le _, rfl, rfl⟩
 case round =>
  obtain ⟨k, m, hk, rfl, HM⟩ := hrel
  have hB : Below w.heap.size w wr := by rw [HM.out]; exact drewN_below w m
  by_cases hlt : k < xs.length
  · have hne : xs ≠ [] := by intro h; rw [h] at hlt; simp at hlt
    obtain ⟨b1, o1, rfl, l1, g1⟩ := hc1 hne
    obtain ⟨b2, o2, rfl, l2, g2⟩ := hc2 hne
    have d1 := (hB.cell (p := ⟨b1, o1 + k, none⟩) l1).trans (g1 k hlt)
    have d2 := (hB.cell (p := ⟨b2, o2 + k, none⟩) l2).trans (g2 k hlt)
    have k0 : (0 : Int) <= (k : Int) := Int.natCast_nonneg _
    have k1 : (k : Int) < (xs.length : Int) := by omega
    generalize xs.getD k 0 = x at *
    clear g1 g2 hc1 hc2 hne hB
    go_wp2_with fail
    go_quiet (fail)
    have HM2 : Hid (wr.drewN nq = w.drewN (m + nq)) := by show _ = _; rw [HM.out, World.drewN_drewN]
    clear HM
    go_wp2
    go_roundw
    case rel => exact ⟨k + 1, m + nq, by omega, by go_num, HM2⟩
    case measure => simp [intOf]; omega
  · clear hc1 hc2 hB
    go_wp2
    go_ret
    exact ⟨rfl, m, HM.out⟩
theorem Rows_quiet (v1 v2 : Value) (xss : List (List Int)) (w : World) (h1 : Rws w v1 xss) (h2 : Rws w v2 xss) :
 Calls Try.prog 13 #[v1, v2] w fun e w' => e = .returned (.bool true) ∧ ∃ m, w' = w.drewN m := by
 obtain ⟨a1, c1, rfl, hlen, _, hc1⟩ := h1
 obtain ⟨a2, c2, rfl, _, _, hc2⟩ := h2
 go_enter Try.func13, Try.ntmps13
 go_wp2
 go_loopw [5] (fun vi wr => ∃ k m : Nat, k <= xss.length ∧ vi = .int .i64 k ∧ Hid (wr = w.drewN m)) (fun vi _ => xss.length - (intOf vi).toNat)
 case atStart => exact ⟨0, 0, Nat.zero_le _, rfl, rfl⟩
 case round =>
  obtain ⟨k, m, hk, rfl, HM⟩ := hrel
  have hB : Below w.heap.size w wr := by rw [HM.out]; exact drewN_below w m
  by_cases hlt : k < xss.length
  · have hne : xss ≠ [] := by intro h; rw [h] at hlt; simp at hlt
    obtain ⟨b1, o1, rfl, l1, g1⟩ := hc1 hne
    obtain ⟨b2, o2, rfl, l2, g2⟩ := hc2 hne
    obtain ⟨q1, e1, r1⟩ := g1 k hlt
    obtain ⟨q2, e2, r2⟩ := g2 k hlt
    have d1 := (hB.cell (p := ⟨b1, o1 + k, none⟩) l1).trans e1
    have d2 := (hB.cell (p := ⟨b2, o2 + k, none⟩) l2).trans e2
    have HS := hide (fun n => Same_quiet q1 q2 _ (wr.drewN n) ((r1.below (Below.next hB (drewN_below wr n))).1) ((r2.below (Below.next hB (drewN_below wr n))).1))
    obtain ⟨z1, y1, rfl, _⟩ := r1.spell
    obtain ⟨z2, y2, rfl, _⟩ := r2.spell
    have k0 : (0 : Int) <= (k : Int) := Int.natCast_nonneg _
    have k1 : (k : Int) < (xss.length : Int) := by omega
    clear g1 g2 hc1 hc2 hne hB e1 e2 r1 r2
    generalize (xss.getD k []).length = ln at *
    go_wp2_with fail
    go_quiet ((first
     | (go_at_call 12; exact Calls.quiet_of (HS.out _))))
    have HM2 : Hid (wr.drewN nq = w.drewN (m + nq)) := by show _ = _; rw [HM.out, World.drewN_drewN]
    clear HM
    go_wp2
    go_roundw
    case rel => exact ⟨k + 1, m + nq, by omega, by go_num, HM2⟩
    case measure => simp [intOf]; omega
  · clear hc1 hc2 hB
    go_wp2
    go_ret
    exact ⟨rfl, m, HM.out⟩
end Go.Proofs.Ytpibiagohfnbmaa
