import Derived.Test.YtaikhiodpieghaaBLawCA
import Derived.Test.YtaikhiodpieghaaBTkA
set_option linter.unusedVariables false
set_option linter.unusedSimpArgs false
set_option maxRecDepth 100000
set_option maxHeartbeats 4000000
namespace Go.Proofs.Ytaikhiodpieghaa
open Go.RowKit Fld
theorem cwrites_any (m n : Mg) (s t : Value) (w : World) (hm : Mw w m s) (hn : Mw w n t) :
 Calls Try.prog 3 #[mgv m s, mgv n t] w fun e w' => e = .returned (.bool true) ∧ Below w.heap.size w w' := by
 obtain ⟨W0, hW⟩ : ∃ W0, Hid ((w.alloc (.cells #[.int .u8 m.k, .int .i64 m.r, .int .i64 m.v, .int .u8 m.f, s] 26)).alloc (.cells #[.int .u8 n.k, .int .i64 n.r, .int .i64 n.v, .int .u8 n.f, t] 26) = W0) := ⟨_, rfl⟩
 obtain ⟨hM, hN, hB⟩ := mb_two (w := w) m n s t hW.out
 have HMm := hide (fun W (hb : Below W0.heap.size W0 W) => (hm.below hB).below hb)
 have HMn := hide (fun W (hb : Below W0.heap.size W0 W) => (hn.below hB).below hb)
 have HCm := hide (fun W (hb : Below W0.heap.size W0 W) => (hM.below hb).cells)
 have HCn := hide (fun W (hb : Below W0.heap.size W0 W) => (hN.below hb).cells)
 have HW1 := hide (fun W (hb : Below W0.heap.size W0 W) => gWrite m s W (HMm.out W hb))
 have HW2 := hide (fun W (hb : Below W0.heap.size W0 W) => dWriteM m s W (HMm.out W hb))
 unfold GivesB at HW1 HW2
 have HM1 := hide (fun W (hb : Below W0.heap.size W0 W) => gMayM m s W (HMm.out W hb))
 have HM2 := hide (fun W (hb : Below W0.heap.size W0 W) => dMayM m s W (HMm.out W hb))
 have HS1 := hide (fun W (hb : Below W0.heap.size W0 W) => gSame m n s t W (HMm.out W hb) (HMn.out W hb))
 have HS2 := hide (fun W (hb : Below W0.heap.size W0 W) => dSameM m n s t W (HMm.out W hb) (HMn.out W hb))
 have HS3 := hide (fun W (hb : Below W0.heap.size W0 W) => gSame m m s s W (HMm.out W hb) (HMm.out W hb))
 rw [mgS_self] at HS3
 have ga := hide (fun W => anch20 W)
 have HRb := hide (fun W base u (ho : World.ownsRow W base 5 1 u (mwL sum8 m).length (valb (mwL sum8 m))) => rb_of_own ho mw_by.1 mw_by.2)
 have HSm := hide (fun W v1 v2 (r1 : Rb W v1 (mwL sum8 m)) (r2 : Rb W v2 (mwL sum8 m)) => rSame8 v1 v2 _ _ W r1 r2)
 rw [decide_eq_true rfl] at HSm
 obtain ⟨c0, c1, c2, c3, c4⟩ := hM.cells
 obtain ⟨d0, d1, d2, d3, d4⟩ := hN.cells
 obtain ⟨ao, cap, rfl, _⟩ := hm.row
 obtain ⟨bo, dap, rfl, _⟩ := hn.row
 clear hm hn hM hN HMm HMn
 unfold mgv mgc at HW1 HW2 HM1 HM2 HS1 HS2 HS3 ⊢
 generalize mgS m n = B1 at *
 generalize mgM m = B2 at *
 generalize mwE m = er at *
 generalize mwL sum8 m = zs at *
 generalize zs.length = L at *
 generalize m.l.length = n1 at *
 generalize n.l.length = n2 at *
 generalize m.k = k at *
 generalize m.r = r at *
 generalize m.v = v at *
 generalize m.f = f at *
 generalize n.k = k' at *
 generalize n.r = r' at *
 generalize n.v = v' at *
 generalize n.f = f' at *
 go_enter Try.func3, Try.ntmps3
 go_upto_region 1 with fail
 rw [hW.out]
 go_upto_region 3 with (first
  | (go_at_call 7; refine (HW1.out _ (Below.refl _ _)).mono ?_; rintro e w1 ⟨v1, rfl, ho1, hb1⟩; obtain ⟨x0, x1, x2, x3, x4⟩ := HCm.out _ hb1; obtain ⟨a1, k1, hv1⟩ := own_form ho1; subst hv1)
  | (go_at_call 8; refine (HW2.out _ hb1).mono ?_; rintro e w2 ⟨v2, rfl, ho2, hb2⟩; have hB2 := Below.next hb1 hb2; obtain ⟨a2, k2, hv2⟩ := own_form ho2; subst hv2; have ho1 := own_below ho1 hb2))
 have HSS := hide (fun W (hb : Below W0.heap.size W0 W) => (show (fun V => V.cell? ⟨w.heap.size, 0, none⟩ = some (.int .u8 k) ∧ V.cell? ⟨w.heap.size, 1, none⟩ = some (.int .i64 r) ∧ V.cell? ⟨w.heap.size, 2, none⟩ = some (.int .i64 v) ∧ V.cell? ⟨w.heap.size, 3, none⟩ = some (.int .u8 f) ∧ V.cell? ⟨w.heap.size, 4, none⟩ = some (.slice ao n1 cap) ∧ V.cell? ⟨w.heap.size + 1, 0, none⟩ = some (.int .u8 k') ∧ V.cell? ⟨w.heap.size + 1, 1, none⟩ = some (.int .i64 r') ∧ V.cell? ⟨w.heap.size + 1, 2, none⟩ = some (.int .i64 v') ∧ V.cell? ⟨w.heap.size + 1, 3, none⟩ = some (.int .u8 f') ∧ V.cell? ⟨w.heap.size + 1, 4, none⟩ = some (.slice bo n2 dap)) W from by
  obtain ⟨x0, x1, x2, x3, x4⟩ := HCm.out W hb
  obtain ⟨y0, y1, y2, y3, y4⟩ := HCn.out W hb
  exact ⟨x0, x1, x2, x3, x4, y0, y1, y2, y3, y4⟩))
 dsimp only at HSS
 have r1 := HRb.out _ _ _ ho1
 have r2 := HRb.out _ _ _ ho2
 clear c0 c1 c2 c3 c4 d0 d1 d2 d3 d4 x0 x1 x2 x3 x4 HCm HCn HRb HW1 HW2 ho1 ho2
 have hB3 := hB2.drew
 have hS0 := HSS.out _ hB3
 have hr1 := hide (r1.below (Below.refl _ w2).drew)
 have hr2 := hide (r2.below (Below.refl _ w2).drew)
 clear r1 r2
 refine wp_region_held_drew (S := (fun V => V.cell? ⟨w.heap.size, 0, none⟩ = some (.int .u8 k) ∧ V.cell? ⟨w.heap.size, 1, none⟩ = some (.int .i64 r) ∧ V.cell? ⟨w.heap.size, 2, none⟩ = some (.int .i64 v) ∧ V.cell? ⟨w.heap.size, 3, none⟩ = some (.int .u8 f) ∧ V.cell? ⟨w.heap.size, 4, none⟩ = some (.slice ao n1 cap) ∧ V.cell? ⟨w.heap.size + 1, 0, none⟩ = some (.int .u8 k') ∧ V.cell? ⟨w.heap.size + 1, 1, none⟩ = some (.int .i64 r') ∧ V.cell? ⟨w.heap.size + 1, 2, none⟩ = some (.int .i64 v') ∧ V.cell? ⟨w.heap.size + 1, 3, none⟩ = some (.int .u8 f') ∧ V.cell? ⟨w.heap.size + 1, 4, none⟩ = some (.slice bo n2 dap))) (by kernel_rfl) (by ((try dsimp only) <;> (first | with_reducible exact hS9 | with_reducible exact hS8 | with_reducible exact hS7 | with_reducible exact hS6 | with_reducible exact hS5 | with_reducible exact hS4 | with_reducible exact hS0))) (fun hHeld => ?_)
 refine tkY 0 ?_
 refine tkY 1 ?_
 refine rd1 2 (fun K hK => ?_)
 (try simp only [ly0, ly1, ly2, ly3, ly4, ly5, ly6, ly7])
 go_simp
 (go_at_call 9; with_reducible refine (HSm.out _ _ _ hr1.out hr2.out).mono ?_; rintro e w3 ⟨rfl, hw3⟩; rw [hw3]; clear hw3 w3)
 first | refine hK.out _ _ ?k1 (fun hHeld => ?_) | (go_wp2_with fail; refine hK.out _ _ ?k1 (fun hHeld => ?_))
 case k1 => ((try dsimp only) <;> (first | with_reducible exact hS9 | with_reducible exact hS8 | with_reducible exact hS7 | with_reducible exact hS6 | with_reducible exact hS5 | with_reducible exact hS4 | with_reducible exact hS0))
 clear hK K
 (try simp only [ly0, ly1, ly2, ly3, ly4, ly5, ly6, ly7])
 refine tkY 3 ?_
 refine tkY 4 ?_
 refine tkY 5 ?_
 refine tkY 6 ?_
 refine tkY 7 ?_
 refine tkY 8 ?_
 refine tkY 9 ?_
 refine tkY 11 ?_
 refine rd1 10 (fun K hK => ?_)
 (try simp only [ly0, ly1, ly2, ly3, ly4, ly5, ly6, ly7])
 go_simp
 (go_at_call 10; with_reducible refine (HM1.out _ hB3).mono ?_; rintro e w4 ⟨rfl, hb4⟩; have hB4 := Below.next hB3 hb4; have hS4 := HSS.out _ hB4)
 first | refine hK.out _ _ ?k2 (fun hHeld => ?_) | (go_wp2_with fail; refine hK.out _ _ ?k2 (fun hHeld => ?_))
 case k2 => ((try dsimp only) <;> (first | with_reducible exact hS9 | with_reducible exact hS8 | with_reducible exact hS7 | with_reducible exact hS6 | with_reducible exact hS5 | with_reducible exact hS4 | with_reducible exact hS0))
 clear hK K
 (try simp only [ly0, ly1, ly2, ly3, ly4, ly5, ly6, ly7])
 refine rd1 12 (fun K hK => ?_)
 (try simp only [ly0, ly1, ly2, ly3, ly4, ly5, ly6, ly7])
 go_simp
 (go_at_call 11; with_reducible refine (HM2.out _ hB4).mono ?_; rintro e w5 ⟨rfl, hb5⟩; have hB5 := Below.next hB4 hb5; have hS5 := HSS.out _ hB5)
 first | refine hK.out _ _ ?k3 (fun hHeld => ?_) | (go_wp2_with fail; refine hK.out _ _ ?k3 (fun hHeld => ?_))
 case k3 => ((try dsimp only) <;> (first | with_reducible exact hS9 | with_reducible exact hS8 | with_reducible exact hS7 | with_reducible exact hS6 | with_reducible exact hS5 | with_reducible exact hS4 | with_reducible exact hS0))
 clear hK K
 (try simp only [ly0, ly1, ly2, ly3, ly4, ly5, ly6, ly7])
 refine tkY 13 ?_
 refine tkY 14 ?_
 refine tkY 15 ?_
 refine tkY 16 ?_
 refine tkY 17 ?_
 refine tkY 19 ?_
 refine tkY 20 ?_
 refine rd1 18 (fun K hK => ?_)
 (try simp only [ly0, ly1, ly2, ly3, ly4, ly5, ly6, ly7])
 go_simp
 (first | (go_at_call 12; with_reducible refine (HS3.out _ hB7).mono ?_; rintro e w8 ⟨rfl, hb8⟩; have hB8 := Below.next hB7 hb8; have hS8 := HSS.out _ hB8) | (go_at_call 12; with_reducible refine (HS1.out _ hB5).mono ?_; rintro e w6 ⟨rfl, hb6⟩; have hB6 := Below.next hB5 hb6; have hS6 := HSS.out _ hB6))
 first | refine hK.out _ _ ?k4 (fun hHeld => ?_) | (go_wp2_with fail; refine hK.out _ _ ?k4 (fun hHeld => ?_))
 case k4 => ((try dsimp only) <;> (first | with_reducible exact hS9 | with_reducible exact hS8 | with_reducible exact hS7 | with_reducible exact hS6 | with_reducible exact hS5 | with_reducible exact hS4 | with_reducible exact hS0))
 clear hK K
 (try simp only [ly0, ly1, ly2, ly3, ly4, ly5, ly6, ly7])
 refine rd1 21 (fun K hK => ?_)
 (try simp only [ly0, ly1, ly2, ly3, ly4, ly5, ly6, ly7])
 go_simp
 (go_at_call 13; with_reducible refine (HS2.out _ hB6).mono ?_; rintro e w7 ⟨rfl, hb7⟩; have hB7 := Below.next hB6 hb7; have hS7 := HSS.out _ hB7)
 first | refine hK.out _ _ ?k5 (fun hHeld => ?_) | (go_wp2_with fail; refine hK.out _ _ ?k5 (fun hHeld => ?_))
 case k5 => ((try dsimp only) <;> (first | with_reducible exact hS9 | with_reducible exact hS8 | with_reducible exact hS7 | with_reducible exact hS6 | with_reducible exact hS5 | with_reducible exact hS4 | with_reducible exact hS0))
 clear hK K
 (try simp only [ly0, ly1, ly2, ly3, ly4, ly5, ly6, ly7])
 refine tkY 22 ?_
 refine tkY 23 ?_
 refine tkY 24 ?_
 refine tkY 25 ?_
 refine tkY 26 ?_
 refine rd1 27 (fun K hK => ?_)
 (try simp only [ly0, ly1, ly2, ly3, ly4, ly5, ly6, ly7])
 go_simp
 (first | (go_at_call 12; with_reducible refine (HS3.out _ hB7).mono ?_; rintro e w8 ⟨rfl, hb8⟩; have hB8 := Below.next hB7 hb8; have hS8 := HSS.out _ hB8) | (go_at_call 12; with_reducible refine (HS1.out _ hB5).mono ?_; rintro e w6 ⟨rfl, hb6⟩; have hB6 := Below.next hB5 hb6; have hS6 := HSS.out _ hB6))
 first | refine hK.out _ _ ?k6 (fun hHeld => ?_) | (go_wp2_with fail; refine hK.out _ _ ?k6 (fun hHeld => ?_))
 case k6 => ((try dsimp only) <;> (first | with_reducible exact hS9 | with_reducible exact hS8 | with_reducible exact hS7 | with_reducible exact hS6 | with_reducible exact hS5 | with_reducible exact hS4 | with_reducible exact hS0))
 clear hK K
 (try simp only [ly0, ly1, ly2, ly3, ly4, ly5, ly6, ly7])
 refine tkY 28 ?_
 refine tkY 29 ?_
 refine rd1 30 (fun K hK => ?_)
 (try simp only [ly0, ly1, ly2, ly3, ly4, ly5, ly6, ly7])
 go_simp
 (go_at_call 14; with_reducible refine (ga.out _).mono ?_; rintro e w9 ⟨rfl, hb9⟩; have hB9 := Below.next hB8 hb9; have hS9 := HSS.out _ hB9)
 first | refine hK.out _ _ ?k7 (fun hHeld => ?_) | (go_wp2_with fail; refine hK.out _ _ ?k7 (fun hHeld => ?_))
 case k7 => ((try dsimp only) <;> (first | with_reducible exact hS9 | with_reducible exact hS8 | with_reducible exact hS7 | with_reducible exact hS6 | with_reducible exact hS5 | with_reducible exact hS4 | with_reducible exact hS0))
 clear hK K
 (try simp only [ly0, ly1, ly2, ly3, ly4, ly5, ly6, ly7])
 refine tkY 31 ?_
 refine tkY 32 ?_
 refine wpAnyH_done (by kernel_rfl) ?_ _
 go_wp2_with fail
 go_ret
 exact ⟨by simp, (hB.trans (hB9.mono hB.size))⟩
end Go.Proofs.Ytaikhiodpieghaa
