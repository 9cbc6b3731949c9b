/-
  Lists, and lists of lists, compared, whatever they hold.
-/
import Derived.Test.YtpbfgcepmbpkdaaGreatBunYP
namespace Go.Proofs.YtpbfgcepmbpkdaaGreat
open Go.RowKit Fld
set_option linter.unusedVariables false

theorem eq_getD {α : Type} {xs ys : List α} {d : α} (hl : xs.length = ys.length) (h : ∀ j, j < xs.length → xs.getD j d = ys.getD j d) : xs = ys := by
  refine List.ext_getElem hl (fun j h1 h2 => ?_)
  have := h j h1
  rw [List.getD_eq_getElem?_getD, List.getD_eq_getElem?_getD, List.getElem?_eq_getElem h1, List.getElem?_eq_getElem h2] at this
  exact this

set_option maxHeartbeats 400000 in
theorem Same_dec (v1 v2 : Value) (xs ys : List Int) (w : World) (h1 : Row w v1 xs) (h2 : Row w v2 ys) :
    Calls Tryz.prog 17 #[v1, v2] w fun e w' => e = .returned (.bool (decide (xs = ys))) ∧ ∃ m, w' = w.drewN m := by
  obtain ⟨a1, c1, rfl, hlen, _, hc1⟩ := h1
  obtain ⟨a2, c2, rfl, hlen2, _, hc2⟩ := h2
  by_cases hl : xs.length = ys.length
  · rw [← hl] at hlen2 ⊢
    have HL := hide hl
    go_enter Tryz.func17, Tryz.ntmps17
    clear hl
    go_wp2
    go_loopw [5] (fun vi wr => ∃ k m : Nat, k ≤ xs.length ∧ vi = .int .i64 k ∧ Hid (wr = w.drewN m) ∧ Hid (∀ j, j < k → xs.getD j 0 = ys.getD j 0)) (fun vi _ => xs.length - (intOf vi).toNat)
    case atStart => exact ⟨0, 0, Nat.zero_le _, rfl, rfl, fun j hj => absurd hj (Nat.not_lt_zero _)⟩
    case round =>
      obtain ⟨k, m, hk, rfl, HM, HE⟩ := hrel
      have hB : Below w.heap.size w wr := by rw [HM.out]; exact drewN_below w m
      by_cases hlt : k < xs.length
      · have hne : xs ≠ [] := by intro h; rw [h] at hlt; simp at hlt
        have hne2 : ys ≠ [] := by intro h; have := HL.out; rw [h] at this; simp at this; rw [this] at hlt; simp at hlt
        obtain ⟨b1, o1, rfl, l1, g1⟩ := hc1 hne
        obtain ⟨b2, o2, rfl, l2, g2⟩ := hc2 hne2
        have d1 := (hB.cell (p := ⟨b1, o1 + k, none⟩) l1).trans (g1 k hlt)
        have d2 := (hB.cell (p := ⟨b2, o2 + k, none⟩) l2).trans (g2 k (by rw [← HL.out]; exact hlt))
        have k0 : (0 : Int) ≤ (k : Int) := Int.natCast_nonneg _
        have k1 : (k : Int) < (xs.length : Int) := by omega
        by_cases hxy : xs.getD k 0 = ys.getD k 0
        · have HE2 : Hid (∀ j, j < k + 1 → xs.getD j 0 = ys.getD j 0) := fun j hj => by
            rcases Nat.lt_succ_iff_lt_or_eq.1 hj with h | h
            · exact HE.out j h
            · rw [h]; exact hxy
          rw [← hxy] at d2
          clear g1 g2 hc1 hc2 hne hne2 hB HE hxy
          generalize xs.getD k 0 = x at d1 d2
          go_wp2_with fail
          go_quiet (fail)
          have HM2 : Hid (wr.drewN nq = w.drewN (m + nq)) := by show _ = _; rw [HM.out, World.drewN_drewN]
          clear HM
          go_wp2
          go_roundw
          case rel => exact ⟨k + 1, m + nq, by omega, by go_num, HM2, HE2⟩
          case measure => simp [intOf]; omega
        · have hno : Hid (decide (xs = ys) = false) := by show _ = _; exact decide_eq_false (fun h => hxy (by rw [h]))
          clear g1 g2 hc1 hc2 hne hne2 hB HE
          generalize xs.getD k 0 = x at d1 hxy
          generalize ys.getD k 0 = y at d2 hxy
          go_wp2_with fail
          go_quiet (fail)
          have HM2 : Hid (wr.drewN nq = w.drewN (m + nq)) := by show _ = _; rw [HM.out, World.drewN_drewN]
          clear HM
          go_wp2
          go_ret
          exact ⟨by rw [hno.out]; rfl, m + nq, HM2.out⟩
      · have hyes : Hid (decide (xs = ys) = true) := by show _ = _; exact decide_eq_true (eq_getD HL.out (fun j hj => HE.out j (by omega)))
        clear hc1 hc2 hB HE
        go_wp2
        go_ret
        exact ⟨by rw [hyes.out]; rfl, m, HM.out⟩
  · have hno : Hid (decide (xs = ys) = false) := by show _ = _; exact decide_eq_false (fun h => hl (by rw [h]))
    rw [hno.out]
    have hl2 : ¬ ((xs.length : Int) = (ys.length : Int)) := by omega
    clear hc1 hc2
    generalize xs.length = n1 at *
    generalize ys.length = n2 at *
    go_enter Tryz.func17, Tryz.ntmps17
    go_wp2
    go_ret
    exact ⟨rfl, 0, rfl⟩

set_option maxHeartbeats 400000 in
theorem Rows_dec (v1 v2 : Value) (xss yss : List (List Int)) (w : World) (h1 : Rws w v1 xss) (h2 : Rws w v2 yss) :
    Calls Tryz.prog 10 #[v1, v2] w fun e w' => e = .returned (.bool (decide (xss = yss))) ∧ Below w.heap.size w w' := by
  obtain ⟨a1, c1, rfl, hlen, _, hc1⟩ := h1
  obtain ⟨a2, c2, rfl, hlen2, _, hc2⟩ := h2
  by_cases hl : xss.length = yss.length
  · rw [← hl] at hlen2 ⊢
    have HL := hide hl
    go_enter Tryz.func10, Tryz.ntmps10
    clear hl
    go_wp2
    go_loopw [5] (fun vi wr => ∃ k m : Nat, k ≤ xss.length ∧ vi = .int .i64 k ∧ Hid (wr = w.drewN m) ∧ Hid (∀ j, j < k → xss.getD j [] = yss.getD j [])) (fun vi _ => xss.length - (intOf vi).toNat)
    case atStart => exact ⟨0, 0, Nat.zero_le _, rfl, rfl, fun j hj => absurd hj (Nat.not_lt_zero _)⟩
    case round =>
      obtain ⟨k, m, hk, rfl, HM, HE⟩ := hrel
      have hB : Below w.heap.size w wr := by rw [HM.out]; exact drewN_below w m
      by_cases hlt : k < xss.length
      · have hne : xss ≠ [] := by intro h; rw [h] at hlt; simp at hlt
        have hne2 : yss ≠ [] := by intro h; have := HL.out; rw [h] at this; simp at this; rw [this] at hlt; simp at hlt
        obtain ⟨b1, o1, rfl, l1, g1⟩ := hc1 hne
        obtain ⟨b2, o2, rfl, l2, g2⟩ := hc2 hne2
        obtain ⟨q1, e1, r1⟩ := g1 k hlt
        obtain ⟨q2, e2, r2⟩ := g2 k (by rw [← HL.out]; exact hlt)
        have d1 := (hB.cell (p := ⟨b1, o1 + k, none⟩) l1).trans e1
        have d2 := (hB.cell (p := ⟨b2, o2 + k, none⟩) l2).trans e2
        have HS := hide (fun n => Same_dec q1 q2 _ _ (wr.drewN n) ((r1.below (Below.next hB (drewN_below wr n))).1) ((r2.below (Below.next hB (drewN_below wr n))).1))
        obtain ⟨z1, y1, rfl, _⟩ := r1.spell
        obtain ⟨z2, y2, rfl, _⟩ := r2.spell
        have k0 : (0 : Int) ≤ (k : Int) := Int.natCast_nonneg _
        have k1 : (k : Int) < (xss.length : Int) := by omega
        by_cases hxy : xss.getD k [] = yss.getD k []
        · have HE2 : Hid (∀ j, j < k + 1 → xss.getD j [] = yss.getD j []) := fun j hj => by
            rcases Nat.lt_succ_iff_lt_or_eq.1 hj with h | h
            · exact HE.out j h
            · rw [h]; exact hxy
          have hd : decide (xss.getD k [] = yss.getD k []) = true := decide_eq_true hxy
          rw [hd] at HS
          clear g1 g2 hc1 hc2 hne hne2 hB e1 e2 r1 r2 HE hxy hd
          generalize (xss.getD k []).length = ln at *
          generalize (yss.getD k []).length = ln2 at *
          go_wp2_with fail
          go_quiet ((first
            | (go_at_call 17; exact Calls.quiet_of (HS.out _))))
          have HM2 : Hid (wr.drewN nq = w.drewN (m + nq)) := by show _ = _; rw [HM.out, World.drewN_drewN]
          clear HM
          go_wp2
          go_roundw
          case rel => exact ⟨k + 1, m + nq, by omega, by go_num, HM2, HE2⟩
          case measure => simp [intOf]; omega
        · have hd : decide (xss.getD k [] = yss.getD k []) = false := decide_eq_false hxy
          rw [hd] at HS
          have hno : Hid (decide (xss = yss) = false) := by show _ = _; exact decide_eq_false (fun h => hxy (by rw [h]))
          clear g1 g2 hc1 hc2 hne hne2 hB e1 e2 r1 r2 HE hxy hd
          generalize (xss.getD k []).length = ln at *
          generalize (yss.getD k []).length = ln2 at *
          go_wp2_with fail
          go_quiet ((first
            | (go_at_call 17; exact Calls.quiet_of (HS.out _))))
          have hB2 : Below w.heap.size w (wr.drewN nq) := by rw [HM.out]; exact below_drewN (drewN_below w m) nq
          clear HM
          go_wp2
          go_ret
          exact ⟨by rw [hno.out]; rfl, hB2⟩
      · have hyes : Hid (decide (xss = yss) = true) := by show _ = _; exact decide_eq_true (eq_getD HL.out (fun j hj => HE.out j (by omega)))
        clear hc1 hc2 HE
        go_wp2
        go_ret
        exact ⟨by rw [hyes.out]; rfl, hB⟩
  · have hno : Hid (decide (xss = yss) = false) := by show _ = _; exact decide_eq_false (fun h => hl (by rw [h]))
    rw [hno.out]
    have hl2 : ¬ ((xss.length : Int) = (yss.length : Int)) := by omega
    clear hc1 hc2
    generalize xss.length = n1 at *
    generalize yss.length = n2 at *
    go_enter Tryz.func10, Tryz.ntmps10
    go_wp2
    go_ret
    exact ⟨rfl, Below.refl _ _⟩

end Go.Proofs.YtpbfgcepmbpkdaaGreat
