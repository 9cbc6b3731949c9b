import Derived.Test.YtaikhiodpieghaaBCdcD
set_option linter.unusedVariables false
set_option linter.unusedSimpArgs false
set_option maxRecDepth 100000
set_option maxHeartbeats 4000000
namespace Go.Proofs.Ytaikhiodpieghaa
open Go.RowKit Fld
theorem mg_tests (m : Mg) :
 (m.k ≠ 1 ∧ m.k ≠ 2 ∧ mgM m = false) ∨
 ((m.k = 1 ∨ m.k = 2) ∧ m.r < 0 ∧ mgM m = false) ∨
 ((m.k = 1 ∨ m.k = 2) ∧ 0 <= m.r ∧ 65536 <= m.r ∧ mgM m = false) ∨
 ((m.k = 1 ∨ m.k = 2) ∧ 0 <= m.r ∧ m.r < 65536 ∧ m.v < 0 ∧ mgM m = false) ∨
 ((m.k = 1 ∨ m.k = 2) ∧ 0 <= m.r ∧ m.r < 65536 ∧ 0 <= m.v ∧ 64 <= m.v ∧ mgM m = false) ∨
 ((m.k = 1 ∨ m.k = 2) ∧ 0 <= m.r ∧ m.r < 65536 ∧ 0 <= m.v ∧ m.v < 64 ∧ inW m.f m.l = false ∧ mgM m = false) ∨
 ((m.k = 1 ∨ m.k = 2) ∧ 0 <= m.r ∧ m.r < 65536 ∧ 0 <= m.v ∧ m.v < 64 ∧ inW m.f m.l = true ∧ mgM m = decide ((m.l.length : Int) <= 64)) := by
 by_cases h1 : m.k = 1 ∨ m.k = 2
 · by_cases h2 : m.r < 0
   · exact .inr (.inl ⟨h1, h2, (mg_no (fun h => by omega)).1⟩)
   · by_cases h3 : m.r < 65536
     · by_cases h4 : m.v < 0
       · exact .inr (.inr (.inr (.inl ⟨h1, by omega, h3, h4, (mg_no (fun h => by omega)).1⟩)))
       · by_cases h5 : m.v < 64
         · cases h6 : inW m.f m.l with
           | false => exact .inr (.inr (.inr (.inr (.inr (.inl ⟨h1, by omega, h3, by omega, h5, rfl, (mg_no (fun h => by rw [h6] at h; exact absurd h.2.2.2.2.2.1 (by decide))).1⟩)))))
           | true =>
            refine .inr (.inr (.inr (.inr (.inr (.inr ⟨h1, by omega, h3, by omega, h5, rfl, ?_⟩)))))
            unfold mgM
            rw [decide_eq_decide]
            exact ⟨fun h => by omega, fun h => ⟨h1, by omega, h3, by omega, h5, h6, by omega⟩⟩
         · exact .inr (.inr (.inr (.inr (.inl ⟨h1, by omega, h3, by omega, by omega, (mg_no (fun h => by omega)).1⟩))))
     · exact .inr (.inr (.inl ⟨h1, by omega, by omega, (mg_no (fun h => by omega)).1⟩))
 · exact .inl ⟨by omega, by omega, (mg_no (fun h => h1 h.1)).1⟩
theorem dMayM (m : Mg) (s : Value) (w : World) (h : Mw w m s) :
 Calls Try.prog 11 #[mgv m s] w fun e w' => e = .returned (.bool (mgM m)) ∧ Below w.heap.size w w' := by
 have hcase := mg_tests m
 obtain ⟨hM, hB⟩ := mb_box (w := w) m s
 have HI := hide (rIn_any m.f s m.l _ (h.row.below hB))
 rw [inW_inF] at HI
 obtain ⟨ao, cap, rfl, _⟩ := h.row
 clear h hM
 unfold mgv mgc
 generalize inW m.f m.l = I at *
 generalize mgM m = M at *
 generalize m.l.length = n at *
 generalize m.k = k at *
 generalize m.r = r at *
 generalize m.v = v at *
 generalize m.f = f at *
 rcases hcase with ⟨h1, h2, rfl⟩ | ⟨h1, h2, rfl⟩ | ⟨h1, h2, h3, rfl⟩ | ⟨h1, h2, h3, h4, rfl⟩ | ⟨h1, h2, h3, h4, h5, rfl⟩ | ⟨h1, h2, h3, h4, h5, rfl, rfl⟩ | ⟨h1, h2, h3, h4, h5, rfl, rfl⟩
 · go_enter Try.func11, Try.ntmps11
   go_wp2
   go_ret
   exact ⟨rfl, hB⟩
 all_goals
  rcases h1 with rfl | rfl
  all_goals
   go_enter Try.func11, Try.ntmps11
   go_wp2_with (go_at_call 22; refine HI.out.mono ?_; rintro e w1 ⟨rfl, hw1⟩; rw [hw1]; clear hw1 w1)
   go_ret
   exact ⟨by first | rfl | simp, hB⟩
theorem dSameM (m n : Mg) (s t : Value) (w : World) (hm : Mw w m s) (hn : Mw w n t) :
 Calls Try.prog 13 #[mgv m s, mgv n t] w fun e w' => e = .returned (.bool (mgS m n)) ∧ Below w.heap.size w w' := by
 have hcase := mgS_cases m n
 obtain ⟨hM, hN, hB⟩ := mb_two (w := w) m n s t rfl
 have HE := hide (Same_dec s t m.l n.l _ (hm.row.below hB) (hn.row.below hB))
 obtain ⟨ao, cap, rfl, _⟩ := hm.row
 obtain ⟨bo, dap, rfl, _⟩ := hn.row
 clear hm hn
 unfold mgv mgc
 generalize hS : mgS m n = S at *
 clear hS
 generalize m.l = xs at *
 generalize n.l = ys at *
 generalize xs.length = n1 at *
 generalize ys.length = n2 at *
 generalize decide (xs = ys) = D at *
 generalize m.k = k at *
 generalize m.r = r at *
 generalize m.v = v at *
 generalize m.f = f at *
 generalize n.k = k' at *
 generalize n.r = r' at *
 generalize n.v = v' at *
 generalize n.f = f' at *
 rcases hcase with ⟨h1, rfl⟩ | ⟨rfl, h1, rfl⟩ | ⟨rfl, rfl, h1, rfl⟩ | ⟨rfl, rfl, rfl, h1, rfl⟩ | ⟨rfl, rfl, rfl, rfl, rfl⟩
 all_goals
  go_enter Try.func13, Try.ntmps13
  go_wp2_with (go_at_call 24; refine HE.out.mono ?_; rintro e w1 ⟨rfl, nd, hw1⟩; rw [hw1]; clear hw1 w1)
  go_ret
  first
  | exact ⟨rfl, hB⟩
  | exact ⟨by simp, hB.trans ((drewN_below _ nd).mono hB.size)⟩
end Go.Proofs.Ytaikhiodpieghaa
