import Derived.Test.YtipobchbnjgenaaGreatBCdcC
import Derived.Test.YtipobchbnjgenaaGreatBunO
set_option linter.unusedVariables false
set_option linter.unusedSimpArgs false
set_option maxRecDepth 100000
set_option maxHeartbeats 4000000
namespace Go.Proofs.YtipobchbnjgenaaGreat
open Go.RowKit Fld
theorem gMayM (m : Mg) (s : Value) (w : World) (h : Mw w m s) :
 Calls Tryz.prog 134 #[mgv m s] w fun e w' => e = .returned (.bool (mgM m)) ∧ Below w.heap.size w w' := by
 obtain ⟨hM, hB⟩ := mb_box (w := w) m s
 have HI := hide (gInner20 m s _ (h.below hB))
 clear h
 obtain ⟨c0, c1, c2, c3, c4⟩ := hM.cells
 unfold mgv mgc at HI ⊢
 generalize mwI m = is at *
 generalize mgM m = b at *
 go_enter Tryz.func134, Tryz.ntmps134
 go_wp2_with (go_at_call 109; refine HI.out.mono ?_; rintro e w1 ⟨v1, rfl, ho1, hb1⟩)
 go_ret
 exact ⟨rfl, hB.trans (hb1.mono hB.size)⟩
theorem gWrite (m : Mg) (s : Value) (w : World) (h : Mw w m s) : GivesB 83 #[mgv m s] w (mwE m) (mwL sum8 m) := by
 unfold GivesB
 obtain ⟨hM, hB⟩ := mb_box (w := w) m s
 have HI := hide (gInner20 m s _ (h.below hB))
 clear h
 obtain ⟨c0, c1, c2, c3, c4⟩ := hM.cells
 unfold mgv mgc at HI ⊢
 cases hm : mgM m with
 | false =>
  have e1 : mwE m = 2 := by unfold mwE; rw [hm]; rfl
  have e2 : mwL sum8 m = [] := by unfold mwL; rw [hm]; rfl
  rw [e1, e2]
  rw [hm] at HI
  clear e1 e2 hm
  generalize mwI m = is at *
  go_enter Tryz.func83, Tryz.ntmps83
  go_wp2_with (go_at_call 109; refine HI.out.mono ?_; rintro e w1 ⟨v1, rfl, ho1, hb1⟩)
  go_ret2
  exact ⟨_, rfl, World.ownsRow_nil _ _ _ _, hB.trans (hb1.mono hB.size)⟩
 | true =>
  have e1 : mwE m = 0 := by unfold mwE; rw [hm]; rfl
  have e2 : mwL sum8 m = slF sum8 (mgI m) := by unfold mwL; rw [hm]; rfl
  have e3 : mwI m = mgI m := by unfold mwI; rw [hm]; rfl
  have hl := mgI_len hm
  have HY := hide (mgI_by hm)
  have q1 : slE (mgI m) = 0 ∧ slL sum8 (mgI m) = slF sum8 (mgI m) := by
   rcases slE_or (mgI m) with ⟨h1, _⟩ | ⟨_, h2, h3⟩
   · omega
   · exact ⟨h2, h3⟩
  have HS := hide (fun W v (hr : Rb W v (mgI m)) => wSeal v (mgI m) W hr)
  unfold GivesB at HS
  rw [q1.1, q1.2] at HS
  rw [e1, e2]
  rw [hm, e3] at HI
  have HL := hide (show (mgI m).length <= 140737488500000 by omega)
  clear e1 e2 e3 hm hl q1
  generalize slF sum8 (mgI m) = zs at *
  generalize mgI m = is at *
  go_enter Tryz.func83, Tryz.ntmps83
  go_wp2_with (first
   | (go_at_call 109; refine HI.out.mono ?_; rintro e w1 ⟨v1, rfl, ho1, hb1⟩; have hB1 := hB.trans (hb1.mono hB.size); have hr1 := rb_of_own ho1 HY.out HL.out)
   | (go_at_call 105; refine (HS.out _ _ hr1).mono ?_; rintro e w2 ⟨v2, rfl, ho2, hb2⟩))
  go_ret2
  exact ⟨_, rfl, own_mono ho2 hB1.size, Below.next hB1 hb2⟩
theorem lEqual (v1 v2 : Value) (xs ys : List Int) (w : World) (h1 : Row w v1 xs) (h2 : Row w v2 ys) :
 Calls Tryz.prog 80 #[v1, v2] w fun e w' => e = .returned (.bool (decide (xs = ys))) ∧ ∃ m, w' = w.drewN m := by
 obtain ⟨a1, c1, rfl, hlen, _, hc1⟩ := h1
 obtain ⟨a2, c2, rfl, hlen2, _, hc2⟩ := h2
 by_cases hl : xs.length = ys.length
 · rw [<- hl] at hlen2 ⊢
   have HL := hide hl
   go_enter Tryz.func80, Tryz.ntmps80
   clear hl
   go_wp2
   go_loopw [13] (fun vi wr => ∃ k m : Nat, k <= xs.length ∧ vi = .int .i64 k ∧ Hid (wr = w.drewN m) ∧ Hid (∀ j, j < k -> xs.getD j 0 = ys.getD j 0)) (fun vi _ => xs.length - (intOf vi).toNat)
   case atStart => exact ⟨0, 0, Nat.zero_le _, rfl, rfl, fun j hj => absurd hj (Nat.not_lt_zero _)⟩
   case round =>
    obtain ⟨k, m, hk, rfl, HM, HE⟩ := hrel
    have hB : Below w.heap.size w wr := by rw [HM.out]; exact drewN_below w m
    by_cases hlt : k < xs.length
    · have hne : xs ≠ [] := by intro h; rw [h] at hlt; simp at hlt
      have hne2 : ys ≠ [] := by intro h; have := HL.out; rw [h] at this; simp at this; rw [this] at hlt; simp at hlt
      obtain ⟨b1, o1, rfl, l1, g1⟩ := hc1 hne
      obtain ⟨b2, o2, rfl, l2, g2⟩ := hc2 hne2
      have d1 := (hB.cell (p := ⟨b1, o1 + k, none⟩) l1).trans (g1 k hlt)
      have d2 := (hB.cell (p := ⟨b2, o2 + k, none⟩) l2).trans (g2 k (by rw [<- HL.out]; exact hlt))
      have k0 : (0 : Int) <= (k : Int) := Int.natCast_nonneg _
      have k1 : (k : Int) < (xs.length : Int) := by omega
      by_cases hxy : xs.getD k 0 = ys.getD k 0
      · have HE2 : Hid (∀ j, j < k + 1 -> xs.getD j 0 = ys.getD j 0) := fun j hj => by
         rcases Nat.lt_succ_iff_lt_or_eq.1 hj with h | h
         · exact HE.out j h
         · rw [h]; exact hxy
        rw [<- hxy] at d2
        clear g1 g2 hc1 hc2 hne hne2 hB HE hxy
        generalize xs.getD k 0 = x at d1 d2
        go_wp2_with fail
        go_quiet (fail)
        have HM2 : Hid (wr.drewN nq = w.drewN (m + nq)) := by show _ = _; rw [HM.out, World.drewN_drewN]
        clear HM
        go_wp2
        go_roundw
        case rel => exact ⟨k + 1, m + nq, by omega, by go_num, HM2, HE2⟩
        case measure => simp [intOf]; omega
      · have hno : Hid (decide (xs = ys) = false) := by show _ = _; exact decide_eq_false (fun h => hxy (by rw [h]))
        clear g1 g2 hc1 hc2 hne hne2 hB HE
        generalize xs.getD k 0 = x at d1 hxy
        generalize ys.getD k 0 = y at d2 hxy
        go_wp2_with fail
        go_quiet (fail)
        have HM2 : Hid (wr.drewN nq = w.drewN (m + nq)) := by show _ = _; rw [HM.out, World.drewN_drewN]
        clear HM
        go_wp2
        go_ret
        exact ⟨by rw [hno.out]; rfl, m + nq, HM2.out⟩
    · have hyes : Hid (decide (xs = ys) = true) := by show _ = _; exact decide_eq_true (eq_getD HL.out (fun j hj => HE.out j (by omega)))
      clear hc1 hc2 hB HE
      go_wp2
      go_ret
      exact ⟨by rw [hyes.out]; rfl, m, HM.out⟩
 · have hno : Hid (decide (xs = ys) = false) := by show _ = _; exact decide_eq_false (fun h => hl (by rw [h]))
   rw [hno.out]
   have hl2 : ¬ ((xs.length : Int) = (ys.length : Int)) := by omega
   clear hc1 hc2
   generalize xs.length = n1 at *
   generalize ys.length = n2 at *
   go_enter Tryz.func80, Tryz.ntmps80
   go_wp2
   go_ret
   exact ⟨rfl, 0, rfl⟩
theorem mgS_cases (m n : Mg) : (m.k ≠ n.k ∧ mgS m n = false) ∨ (m.k = n.k ∧ m.r ≠ n.r ∧ mgS m n = false) ∨ (m.k = n.k ∧ m.r = n.r ∧ m.v ≠ n.v ∧ mgS m n = false) ∨ (m.k = n.k ∧ m.r = n.r ∧ m.v = n.v ∧ m.f ≠ n.f ∧ mgS m n = false) ∨ (m.k = n.k ∧ m.r = n.r ∧ m.v = n.v ∧ m.f = n.f ∧ mgS m n = decide (m.l = n.l)) := by
 unfold mgS
 by_cases h1 : m.k = n.k
 · by_cases h2 : m.r = n.r
   · by_cases h3 : m.v = n.v
     · by_cases h4 : m.f = n.f
       · exact .inr (.inr (.inr (.inr ⟨h1, h2, h3, h4, by rw [decide_eq_decide]; exact ⟨fun h => h.2.2.2.2, fun h => ⟨h1, h2, h3, h4, h⟩⟩⟩)))
       · exact .inr (.inr (.inr (.inl ⟨h1, h2, h3, h4, decide_eq_false (fun h => h4 h.2.2.2.1)⟩)))
     · exact .inr (.inr (.inl ⟨h1, h2, h3, decide_eq_false (fun h => h3 h.2.2.1)⟩))
   · exact .inr (.inl ⟨h1, h2, decide_eq_false (fun h => h2 h.2.1)⟩)
 · exact .inl ⟨h1, decide_eq_false (fun h => h1 h.1)⟩
theorem mg_tests (m : Mg) :
 (m.k ≠ 1 ∧ m.k ≠ 2 ∧ mgM m = false) ∨
 ((m.k = 1 ∨ m.k = 2) ∧ m.r < 0 ∧ mgM m = false) ∨
 ((m.k = 1 ∨ m.k = 2) ∧ 0 <= m.r ∧ 65536 <= m.r ∧ mgM m = false) ∨
 ((m.k = 1 ∨ m.k = 2) ∧ 0 <= m.r ∧ m.r < 65536 ∧ m.v < 0 ∧ mgM m = false) ∨
 ((m.k = 1 ∨ m.k = 2) ∧ 0 <= m.r ∧ m.r < 65536 ∧ 0 <= m.v ∧ 64 <= m.v ∧ mgM m = false) ∨
 ((m.k = 1 ∨ m.k = 2) ∧ 0 <= m.r ∧ m.r < 65536 ∧ 0 <= m.v ∧ m.v < 64 ∧ inW m.f m.l = false ∧ mgM m = false) ∨
 ((m.k = 1 ∨ m.k = 2) ∧ 0 <= m.r ∧ m.r < 65536 ∧ 0 <= m.v ∧ m.v < 64 ∧ inW m.f m.l = true ∧ mgM m = decide ((m.l.length : Int) <= 64)) := by
 by_cases h1 : m.k = 1 ∨ m.k = 2
 · by_cases h2 : m.r < 0
   · exact .inr (.inl ⟨h1, h2, (mg_no (fun h => by omega)).1⟩)
   · by_cases h3 : m.r < 65536
     · by_cases h4 : m.v < 0
       · exact .inr (.inr (.inr (.inl ⟨h1, by omega, h3, h4, (mg_no (fun h => by omega)).1⟩)))
       · by_cases h5 : m.v < 64
         · cases h6 : inW m.f m.l with
           | false => exact .inr (.inr (.inr (.inr (.inr (.inl ⟨h1, by omega, h3, by omega, h5, rfl, (mg_no (fun h => by rw [h6] at h; exact absurd h.2.2.2.2.2.1 (by decide))).1⟩)))))
           | true =>
            refine .inr (.inr (.inr (.inr (.inr (.inr ⟨h1, by omega, h3, by omega, h5, rfl, ?_⟩)))))
            unfold mgM
            rw [decide_eq_decide]
            exact ⟨fun h => by omega, fun h => ⟨h1, by omega, h3, by omega, h5, h6, by omega⟩⟩
         · exact .inr (.inr (.inr (.inr (.inl ⟨h1, by omega, h3, by omega, by omega, (mg_no (fun h => by omega)).1⟩))))
     · exact .inr (.inr (.inl ⟨h1, by omega, by omega, (mg_no (fun h => by omega)).1⟩))
 · exact .inl ⟨by omega, by omega, (mg_no (fun h => h1 h.1)).1⟩
theorem dMayM (m : Mg) (s : Value) (w : World) (h : Mw w m s) :
 Calls Tryz.prog 67 #[mgv m s] w fun e w' => e = .returned (.bool (mgM m)) ∧ Below w.heap.size w w' := by
 have hcase := mg_tests m
 obtain ⟨hM, hB⟩ := mb_box (w := w) m s
 have HI := hide (rIn_any m.f s m.l _ (h.row.below hB))
 rw [inW_inF] at HI
 obtain ⟨ao, cap, rfl, _⟩ := h.row
 clear h hM
 unfold mgv mgc
 generalize inW m.f m.l = I at *
 generalize mgM m = M at *
 generalize m.l.length = n at *
 generalize m.k = k at *
 generalize m.r = r at *
 generalize m.v = v at *
 generalize m.f = f at *
 rcases hcase with ⟨h1, h2, rfl⟩ | ⟨h1, h2, rfl⟩ | ⟨h1, h2, h3, rfl⟩ | ⟨h1, h2, h3, h4, rfl⟩ | ⟨h1, h2, h3, h4, h5, rfl⟩ | ⟨h1, h2, h3, h4, h5, rfl, rfl⟩ | ⟨h1, h2, h3, h4, h5, rfl, rfl⟩
 · go_enter Tryz.func67, Tryz.ntmps67
   go_wp2
   go_ret
   exact ⟨rfl, hB⟩
 all_goals
  rcases h1 with rfl | rfl
  all_goals
   go_enter Tryz.func67, Tryz.ntmps67
   go_wp2_with (go_at_call 33; refine HI.out.mono ?_; rintro e w1 ⟨rfl, hw1⟩; rw [hw1]; clear hw1 w1)
   go_ret
   exact ⟨by first | rfl | simp, hB⟩
theorem dSameM (m n : Mg) (s t : Value) (w : World) (hm : Mw w m s) (hn : Mw w n t) :
 Calls Tryz.prog 32 #[mgv m s, mgv n t] w fun e w' => e = .returned (.bool (mgS m n)) ∧ Below w.heap.size w w' := by
 have hcase := mgS_cases m n
 obtain ⟨hM, hN, hB⟩ := mb_two (w := w) m n s t rfl
 have HE := hide (Same_dec s t m.l n.l _ (hm.row.below hB) (hn.row.below hB))
 obtain ⟨ao, cap, rfl, _⟩ := hm.row
 obtain ⟨bo, dap, rfl, _⟩ := hn.row
 clear hm hn
 unfold mgv mgc
 generalize hS : mgS m n = S at *
 clear hS
 generalize m.l = xs at *
 generalize n.l = ys at *
 generalize xs.length = n1 at *
 generalize ys.length = n2 at *
 generalize decide (xs = ys) = D at *
 generalize m.k = k at *
 generalize m.r = r at *
 generalize m.v = v at *
 generalize m.f = f at *
 generalize n.k = k' at *
 generalize n.r = r' at *
 generalize n.v = v' at *
 generalize n.f = f' at *
 rcases hcase with ⟨h1, rfl⟩ | ⟨rfl, h1, rfl⟩ | ⟨rfl, rfl, h1, rfl⟩ | ⟨rfl, rfl, rfl, h1, rfl⟩ | ⟨rfl, rfl, rfl, rfl, rfl⟩
 all_goals
  go_enter Tryz.func32, Tryz.ntmps32
  go_wp2_with (go_at_call 16; refine HE.out.mono ?_; rintro e w1 ⟨rfl, nd, hw1⟩; rw [hw1]; clear hw1 w1)
  go_ret
  first
  | exact ⟨rfl, hB⟩
  | exact ⟨by simp, hB.trans ((drewN_below _ nd).mono hB.size)⟩
end Go.Proofs.YtipobchbnjgenaaGreat
