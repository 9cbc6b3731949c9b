import Derived.Test.YtjhididlcdepdaaGreatBunNA
import Derived.Deep.RegionHeld3
import Derived.Deep.CutBlock
set_option linter.unusedVariables false
set_option linter.unusedSimpArgs false
set_option maxRecDepth 100000
set_option maxHeartbeats 4000000
namespace Go.Proofs.YtjhididlcdepdaaGreat
open Go.RowKit Pln
theorem fd_btw (f : Int) : fdB f = btw f 1 2 := by
 unfold fdB btw
 rw [Bool.eq_iff_iff]
 simp only [Bool.or_eq_true, beq_iff_eq, decide_eq_true_iff]
 omega
theorem dWithin (n a b : Int) (w : World) : Calls Tryz.prog 72 #[.int .i64 n, .int .i64 a, .int .i64 b] w fun e w' => e = .returned (.bool (btw n a b)) ∧ w' = w := by
 by_cases h1 : a <= n <;> by_cases h2 : n <= b
 all_goals
  go_enter Tryz.func72, Tryz.ntmps72
  go_wp2
  all_goals
   go_ret
   refine ⟨?_, rfl⟩
   simp_all [btw]
   try omega
theorem dMayP (p : Pn) (h : Ok8p p) : Ans 39 #[plv p] (.bool (mayP p)) := by
 intro w
 rw [mayP_all, fd_btw]
 obtain ⟨⟨hf0, hf1⟩, _, hk, _⟩ := h
 unfold I64 at hk
 have H0 := hide (dWithin p.f 1 2)
 have H1 := hide (dWithin p.n 1 64)
 have H2 := hide (dWithin p.k 1 64)
 have H3 := hide (dWithin p.w 1 64)
 have H4 := hide (dWithin p.t 0 (64 - p.k))
 have H5 := hide (dWithin p.s 0 64)
 have H6 := hide (dWithin p.e 0 64)
 have H7 := hide (dWithin p.d 0 1024)
 have hkb : btw p.k 1 64 = true -> 1 <= p.k ∧ p.k <= 64 := fun h => of_decide_eq_true h
 have HK := hide hkb
 clear hkb
 generalize btw p.f 1 2 = b0 at *
 generalize btw p.n 1 64 = b1 at *
 generalize btw p.k 1 64 = b2 at *
 generalize btw p.w 1 64 = b3 at *
 generalize btw p.t 0 (64 - p.k) = b4 at *
 generalize btw p.s 0 64 = b5 at *
 generalize btw p.e 0 64 = b6 at *
 generalize btw p.d 0 1024 = b7 at *
 unfold plv plw
 have hcs : b0 = false ∨ (b0 = true ∧ b1 = false) ∨ (b0 = true ∧ b1 = true ∧ b2 = false) ∨ (b0 = true ∧ b1 = true ∧ b2 = true ∧ b3 = false) ∨ (b0 = true ∧ b1 = true ∧ b2 = true ∧ b3 = true ∧ b4 = false) ∨ (b0 = true ∧ b1 = true ∧ b2 = true ∧ b3 = true ∧ b4 = true ∧ b5 = false) ∨ (b0 = true ∧ b1 = true ∧ b2 = true ∧ b3 = true ∧ b4 = true ∧ b5 = true ∧ b6 = false) ∨ (b0 = true ∧ b1 = true ∧ b2 = true ∧ b3 = true ∧ b4 = true ∧ b5 = true ∧ b6 = true) := by
  cases b0 <;> cases b1 <;> cases b2 <;> cases b3 <;> cases b4 <;> cases b5 <;> cases b6 <;> decide
 rcases hcs with rfl | ⟨rfl, rfl⟩ | ⟨rfl, rfl, rfl⟩ | ⟨rfl, rfl, rfl, rfl⟩ | ⟨rfl, rfl, rfl, rfl, rfl⟩ | ⟨rfl, rfl, rfl, rfl, rfl, rfl⟩ | ⟨rfl, rfl, rfl, rfl, rfl, rfl, rfl⟩ | ⟨rfl, rfl, rfl, rfl, rfl, rfl, rfl⟩
 all_goals
  try have hk2 := HK.out rfl
  go_enter Tryz.func39, Tryz.ntmps39
  go_wp2_with (first
   | (go_at_call 72; with_reducible refine (H0.out _).mono ?_; rintro e w1 ⟨rfl, hw⟩; rw [hw]; clear hw)
   | (go_at_call 72; with_reducible refine (H1.out _).mono ?_; rintro e w1 ⟨rfl, hw⟩; rw [hw]; clear hw)
   | (go_at_call 72; with_reducible refine (H2.out _).mono ?_; rintro e w1 ⟨rfl, hw⟩; rw [hw]; clear hw)
   | (go_at_call 72; with_reducible refine (H3.out _).mono ?_; rintro e w1 ⟨rfl, hw⟩; rw [hw]; clear hw)
   | (go_at_call 72; with_reducible refine (H4.out _).mono ?_; rintro e w1 ⟨rfl, hw⟩; rw [hw]; clear hw)
   | (go_at_call 72; with_reducible refine (H5.out _).mono ?_; rintro e w1 ⟨rfl, hw⟩; rw [hw]; clear hw)
   | (go_at_call 72; with_reducible refine (H6.out _).mono ?_; rintro e w1 ⟨rfl, hw⟩; rw [hw]; clear hw)
   | (go_at_call 72; with_reducible refine (H7.out _).mono ?_; rintro e w1 ⟨rfl, hw⟩; rw [hw]; clear hw))
  go_ret
  refine ⟨?_, alloc_below _ _⟩
  simp
theorem dD (p : Pn) (hm : mayP p = true) : Ans 34 #[plv p] (.int .i64 (dg p)) := by
 intro w
 obtain ⟨_, ⟨k0, k1⟩, ⟨t0, t1⟩, _, _, ⟨d0, d1⟩, _⟩ := may_facts hm
 obtain ⟨g0, g1⟩ := dg_bound hm
 obtain ⟨D, hD⟩ : ∃ D, p.d * (p.k + p.t - 1) = D := ⟨_, rfl⟩
 rw [show dg p = D from hD] at g0 g1 ⊢
 clear hm
 unfold plv plw
 go_enter Tryz.func34, Tryz.ntmps34
 go_wp2
 go_ret
 exact ⟨rfl, alloc_below _ _⟩
theorem dNeeded (p : Pn) (h : Ok8p p) : Ans 64 #[plv p] (.tuple #[.int .i64 (ndV p), .int .i64 (erP p)]) := by
 intro w
 have HM := hide (dMayP p h)
 obtain ⟨pb, hA⟩ := pb_box (w := w) p
 cases hm : mayP p with
 | false =>
  rw [hm] at HM
  rw [ndV_no hm, erP_no hm]
  clear hm h
  unfold plv plw at *
  go_enter Tryz.func64, Tryz.ntmps64
  go_wp2_with (go_at_call 39; refine (HM.out _).mono ?_; rintro e w1 ⟨rfl, hb1⟩)
  go_ret2
  exact ⟨rfl, Below.next hA hb1⟩
 | true =>
  rw [hm] at HM
  have HD := hide (dD p hm)
  obtain ⟨⟨n0, n1⟩, _, _, ⟨s0, s1⟩, ⟨e0, e1⟩, _, _⟩ := may_facts hm
  obtain ⟨g0, g1⟩ := dg_bound hm
  rw [ndV_yes hm, erP_yes hm]
  unfold need
  generalize dg p = D at *
  have hw0 : IntKind.i64.wrap (2 * p.e) = 2 * p.e := by rw [IntKind.wrap_i64]; omega
  have hw1 : IntKind.i64.wrap (D + 2 * p.e) = D + 2 * p.e := by rw [IntKind.wrap_i64]; omega
  have hw2 : IntKind.i64.wrap (D + 2 * p.e + 1) = D + 2 * p.e + 1 := by rw [IntKind.wrap_i64]; omega
  clear hm h
  unfold plv plw at *
  go_enter Tryz.func64, Tryz.ntmps64
  go_upto_region 3 with (go_at_call 39; refine (HM.out _).mono ?_; rintro e w1 ⟨rfl, hb1⟩; have pb1 := hide (pb.below hb1))
  have hS0 := (pb1.out.below ((Below.refl _ w1).drew)).cells
  go_region_held3 (fun W' => W'.cell? ⟨w.heap.size, 0, none⟩ = some (.int .u8 p.f) ∧ W'.cell? ⟨w.heap.size, 1, none⟩ = some (.int .i64 p.n) ∧ W'.cell? ⟨w.heap.size, 2, none⟩ = some (.int .i64 p.k) ∧ W'.cell? ⟨w.heap.size, 3, none⟩ = some (.int .i64 p.t) ∧ W'.cell? ⟨w.heap.size, 4, none⟩ = some (.int .i64 p.s) ∧ W'.cell? ⟨w.heap.size, 5, none⟩ = some (.int .i64 p.e) ∧ W'.cell? ⟨w.heap.size, 6, none⟩ = some (.int .i64 p.d) ∧ W'.cell? ⟨w.heap.size, 7, none⟩ = some (.int .i64 p.w)) (first | with_reducible exact hS1 | with_reducible exact hS0) (first
   | (go_at_call 34; refine (HD.out _).mono ?_; rintro e w2 ⟨rfl, hb2⟩; have hS1 := (pb1.out.below ((Below.refl _ w1).drew.trans hb2)).cells))
  go_wp2
  go_ret2
  exact ⟨rfl, Below.next (Below.next hA hb1) ((Below.refl _ w1).drew.trans hb2)⟩
end Go.Proofs.YtjhididlcdepdaaGreat
