import Derived.Test.YtaikhiodpieghaaBunYP
set_option linter.unusedVariables false
set_option linter.unusedSimpArgs false
set_option maxRecDepth 100000
set_option maxHeartbeats 4000000
namespace Go.Proofs.Ytaikhiodpieghaa
open Go.RowKit Fld
theorem eq_getD {α : Type} {xs ys : List α} {d : α} (hl : xs.length = ys.length) (h : ∀ j, j < xs.length -> xs.getD j d = ys.getD j d) : xs = ys := by
 refine List.ext_getElem hl (fun j h1 h2 => ?_)
 have := h j h1
 rw [List.getD_eq_getElem?_getD, List.getD_eq_getElem?_getD, List.getElem?_eq_getElem h1, List.getElem?_eq_getElem h2] at this
 exact this
theorem Same_dec (v1 v2 : Value) (xs ys : List Int) (w : World) (h1 : Row w v1 xs) (h2 : Row w v2 ys) :
 Calls Try.prog 24 #[v1, v2] w fun e w' => e = .returned (.bool (decide (xs = ys))) ∧ ∃ m, w' = w.drewN m := by
 obtain ⟨a1, c1, rfl, hlen, _, hc1⟩ := h1
 obtain ⟨a2, c2, rfl, hlen2, _, hc2⟩ := h2
 by_cases hl : xs.length = ys.length
 · rw [<- hl] at hlen2 ⊢
   have HL := hide hl
   go_enter Try.func24, Try.ntmps24
   clear hl
   go_wp2
   go_loopw [5] (fun vi wr => ∃ k m : Nat, k <= xs.length ∧ vi = .int .i64 k ∧ Hid (wr = w.drewN m) ∧ Hid (∀ j, j < k -> xs.getD j 0 = ys.getD j 0)) (fun vi _ => xs.length - (intOf vi).toNat)
   case atStart => exact ⟨0, 0, Nat.zero_le _, rfl, rfl, fun j hj => absurd hj (Nat.not_lt_zero _)⟩
   case round =>
    obtain ⟨k, m, hk, rfl, HM, HE⟩ := hrel
    have hB : Below w.heap.size w wr := by rw [HM.out]; exact drewN_below w m
    by_cases hlt : k < xs.length
    · have hne : xs ≠ [] := by intro h; rw [h] at hlt; simp at hlt
      have hne2 : ys ≠ [] := by intro h; have := HL.out; rw [h] at this; simp at this; rw [this] at hlt; simp at hlt
      obtain ⟨b1, o1, rfl, l1, g1⟩ := hc1 hne
      obtain ⟨b2, o2, rfl, l2, g2⟩ := hc2 hne2
      have d1 := (hB.cell (p := ⟨b1, o1 + k, none⟩) l1).trans (g1 k hlt)
      have d2 := (hB.cell (p := ⟨b2, o2 + k, none⟩) l2).trans (g2 k (by rw [<- HL.out]; exact hlt))
      have k0 : (0 : Int) <= (k : Int) := Int.natCast_nonneg _
      have k1 : (k : Int) < (xs.length : Int) := by omega
      by_cases hxy : xs.getD k 0 = ys.getD k 0
      · have HE2 : Hid (∀ j, j < k + 1 -> xs.getD j 0 = ys.getD j 0) := fun j hj => by
         rcases Nat.lt_succ_iff_lt_or_eq.1 hj with h | h
         · exact HE.out j h
         · rw [h]; exact hxy
        rw [<- hxy] at d2
        clear g1 g2 hc1 hc2 hne hne2 hB HE hxy
        generalize xs.getD k 0 = x at d1 d2
        go_wp2_with fail
        go_quiet (fail)
        have HM2 : Hid (wr.drewN nq = w.drewN (m + nq)) := by show _ = _; rw [HM.out, World.drewN_drewN]
        clear HM
        go_wp2
        go_roundw
        case rel => exact ⟨k + 1, m + nq, by omega, by go_num, HM2, HE2⟩
        case measure => simp [intOf]; omega
      · have hno : Hid (decide (xs = ys) = false) := by show _ = _; exact decide_eq_false (fun h => hxy (by rw [h]))
        clear g1 g2 hc1 hc2 hne hne2 hB HE
        generalize xs.getD k 0 = x at d1 hxy
        generalize ys.getD k 0 = y at d2 hxy
        go_wp2_with fail
        go_quiet (fail)
        have HM2 : Hid (wr.drewN nq = w.drewN (m + nq)) := by show _ = _; rw [HM.out, World.drewN_drewN]
        clear HM
        go_wp2
        go_ret
        exact ⟨by rw [hno.out]; rfl, m + nq, HM2.out⟩
    · have hyes : Hid (decide (xs = ys) = true) := by show _ = _; exact decide_eq_true (eq_getD HL.out (fun j hj => HE.out j (by omega)))
      clear hc1 hc2 hB HE
      go_wp2
      go_ret
      exact ⟨by rw [hyes.out]; rfl, m, HM.out⟩
 · have hno : Hid (decide (xs = ys) = false) := by show _ = _; exact decide_eq_false (fun h => hl (by rw [h]))
   rw [hno.out]
   have hl2 : ¬ ((xs.length : Int) = (ys.length : Int)) := by omega
   clear hc1 hc2
   generalize xs.length = n1 at *
   generalize ys.length = n2 at *
   go_enter Try.func24, Try.ntmps24
   go_wp2
   go_ret
   exact ⟨rfl, 0, rfl⟩
end Go.Proofs.Ytaikhiodpieghaa
