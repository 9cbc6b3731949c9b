import Derived.Test.YteipgnkhbcogoaaBLawBC
set_option linter.unusedVariables false
set_option linter.unusedSimpArgs false
set_option maxRecDepth 100000
set_option maxHeartbeats 4000000
namespace Go.Proofs.Yteipgnkhbcogoaa
open Go.RowKit Fld
theorem same2_0 {w : World} {base g gt : Nat} {D : Dsk} (h : TwoD w w base g gt D) (hs : D.n < 4611686018427387904) {s : Sq2} (hq : Okq22 s) (hc : s.c = 0) :
 Calls Try.prog 9 #[.pointer (some ⟨g, 0, none⟩), .pointer (some ⟨gt, 0, none⟩), .agg #[.int .u8 s.c, .int .i64 s.n, .int .u8 s.m, .bool s.o]] w fun e w' => e = .returned (.bool true) ∧ TwoD w w' base g gt (wrN22 D (opBk s)) := by
 obtain ⟨⟨v, hp⟩, ⟨u, hd⟩, _, hsz⟩ := h
 obtain ⟨w1, hw1⟩ : ∃ w1, w.alloc (.cells #[.int .u8 0, .int .i64 s.n, .int .u8 s.m, .bool s.o] 32) = w1 := ⟨_, rfl⟩
 have hb1 : Below w.heap.size w w1 := by rw [<- hw1]; exact alloc_below _ _
 have hbx : w1.heap[w.heap.size]? = some (.cells #[.int .u8 0, .int .i64 s.n, .int .u8 s.m, .bool s.o] 32 (0, 0)) := by rw [<- hw1]; exact heap_alloc_new w _
 have hdr : Below w1.heap.size w1 w1.drew := (Below.refl _ w1).drew
 have hbd := Below.next hb1 hdr
 have HP1 := hide (hp.below hbd)
 have HD1 := hide (hd.below hbd)
 have HL1 := hide (hbd.mono hsz)
 have HZ1 := hide (Nat.le_trans hsz hbd.size)
 have HX := hide (show w1.drew.heap[w.heap.size]? = _ from hbx)
 have HBl := hide (Array.getElem?_eq_some_iff.1 (show w1.drew.heap[w.heap.size]? = _ from hbx)).1
 have HBk := hide (fun W => gBlk s hq W)
 have HRb := hide (fun W b x (ho : World.ownsRow W b 5 1 x (opBk s).length (valb (opBk s))) => rb_of_own ho (opBk_by hq) (by have := opBk_len s; omega))
 have HWr := hide (fun W (h : Hd W base g v D) (hz : base <= W.heap.size) u (hu : Rb W u (opBk s)) => gWrite22 h hz hs hu)
 have HWd := hide (fun W (h : Dy W base gt u D) (hz : base <= W.heap.size) u (hu : Rb W u (opBk s)) => dWriteY h hz hs hu)
 obtain ⟨x0, x1, x2, x3⟩ := box_cells2 hbx
 have hS0 := box_cells2 HX.out
 obtain ⟨sc, sn, sm, so⟩ := s
 dsimp only at hc
 subst hc
 dsimp only at *
 clear hbx hbd hdr hb1 hp hd hq
 generalize opBk ⟨0, sn, sm, so⟩ = bs at *
 generalize wrE22 D bs = er at *
 generalize wrN22 D bs = E at *
 go_enter Try.func9, Try.ntmps9
 go_upto_region 3 with fail
 refine wp_region_held_drew (S := (fun V => V.cell? ⟨w.heap.size, 0, none⟩ = some (.int .u8 0) ∧ V.cell? ⟨w.heap.size, 1, none⟩ = some (.int .i64 sn) ∧ V.cell? ⟨w.heap.size, 2, none⟩ = some (.int .u8 sm) ∧ V.cell? ⟨w.heap.size, 3, none⟩ = some (.bool so))) (by kernel_rfl) (by ((try dsimp only) <;> (first | with_reducible exact hS0 | with_reducible exact hS2 | with_reducible exact hS3 | with_reducible exact hS4 | with_reducible exact hS5))) (fun hHeld => ?_)
 refine tkY 0 ?_
 refine tkY 1 ?_
 refine tkY 4 ?_
 refine tkY 5 ?_
 refine rd1 2 (fun K hK => ?_)
 (try simp only [ly0, ly1, ly2, ly3, ly4, ly5, ly6, ly7])
 go_simp
 (go_at_call 23; refine (HBk.out _).mono ?_; rintro e w2 ⟨u2, rfl, ho2, hb2⟩; obtain ⟨a2, k2, hv2, _⟩ := own_spellO ho2; subst hv2; have HP2 := hide (HP1.out.below hb2); have HD2 := hide (HD1.out.below hb2); have HL2 := hide (HL1.out.trans (hb2.mono HZ1.out)); have HZ2 := hide (Nat.le_trans HZ1.out hb2.size); have HX2 := hide ((hb2.block _ HBl.out).trans HX.out); have hS2 := box_cells2 HX2.out; have HA2 := hide (HWr.out _ HP2.out HZ2.out _ (HRb.out _ _ _ ho2)); clear ho2 hb2)
 first | refine hK.out _ _ ?k7 (fun hHeld => ?_) | (go_wp2_with fail; refine hK.out _ _ ?k7 (fun hHeld => ?_))
 case k7 => ((try dsimp only) <;> (first | with_reducible exact hS0 | with_reducible exact hS2 | with_reducible exact hS3 | with_reducible exact hS4 | with_reducible exact hS5))
 clear hK K
 (try simp only [ly0, ly1, ly2, ly3, ly4, ly5, ly6, ly7])
 refine rd1 3 (fun K hK => ?_)
 (try simp only [ly0, ly1, ly2, ly3, ly4, ly5, ly6, ly7])
 go_simp
 (go_at_call 13; refine HA2.out.mono ?_; rintro e w3 ⟨v3, rfl, hn3, hm3⟩; have HD3 := hide (HD2.out.mv HP2.out hm3); have HL3 := hide (HL2.out.trans (HP2.out.mvb hm3 HZ2.out)); have HZ3 := hide (Nat.le_trans HZ2.out hm3.kq.size); have HX3 := hide (box_mv2 HX2.out HP2.out hm3); have hS3 := box_cells2 HX3.out; have HN3 := hide hn3; clear hn3 hm3)
 first | refine hK.out _ _ ?k8 (fun hHeld => ?_) | (go_wp2_with fail; refine hK.out _ _ ?k8 (fun hHeld => ?_))
 case k8 => ((try dsimp only) <;> (first | with_reducible exact hS0 | with_reducible exact hS2 | with_reducible exact hS3 | with_reducible exact hS4 | with_reducible exact hS5))
 clear hK K
 (try simp only [ly0, ly1, ly2, ly3, ly4, ly5, ly6, ly7])
 refine rd1 6 (fun K hK => ?_)
 (try simp only [ly0, ly1, ly2, ly3, ly4, ly5, ly6, ly7])
 go_simp
 (go_at_call 23; refine (HBk.out _).mono ?_; rintro e w4 ⟨u4, rfl, ho4, hb4⟩; obtain ⟨a4, k4, hv4, _⟩ := own_spellO ho4; subst hv4; have HN4 := hide (HN3.out.below hb4); have HD4 := hide (HD3.out.below hb4); have HL4 := hide (HL3.out.trans (hb4.mono HZ3.out)); have HZ4 := hide (Nat.le_trans HZ3.out hb4.size); have HX4 := hide ((hb4.block _ (Array.getElem?_eq_some_iff.1 HX3.out).1).trans HX3.out); have hS4 := box_cells2 HX4.out; have HA4 := hide (HWd.out _ HD4.out HZ4.out _ (HRb.out _ _ _ ho4)); clear ho4 hb4)
 first | refine hK.out _ _ ?k9 (fun hHeld => ?_) | (go_wp2_with fail; refine hK.out _ _ ?k9 (fun hHeld => ?_))
 case k9 => ((try dsimp only) <;> (first | with_reducible exact hS0 | with_reducible exact hS2 | with_reducible exact hS3 | with_reducible exact hS4 | with_reducible exact hS5))
 clear hK K
 (try simp only [ly0, ly1, ly2, ly3, ly4, ly5, ly6, ly7])
 refine rd1 7 (fun K hK => ?_)
 (try simp only [ly0, ly1, ly2, ly3, ly4, ly5, ly6, ly7])
 go_simp
 (go_at_call 24; refine HA4.out.mono ?_; rintro e w5 ⟨v5, rfl, hn5, hm5⟩; have hS5 := box_cells2 (box_mvy2 HX4.out HD4.out hm5); have HT5 := hide (show TwoD w w5 base g gt E from ⟨⟨v3, HN4.out.mvy HD4.out hm5⟩, ⟨v5, hn5⟩, HL4.out.trans (HD4.out.mvb hm5 HZ4.out), Nat.le_trans HZ4.out hm5.kq.size⟩); clear hn5 hm5)
 first | refine hK.out _ _ ?k10 (fun hHeld => ?_) | (go_wp2_with fail; refine hK.out _ _ ?k10 (fun hHeld => ?_))
 case k10 => ((try dsimp only) <;> (first | with_reducible exact hS0 | with_reducible exact hS2 | with_reducible exact hS3 | with_reducible exact hS4 | with_reducible exact hS5))
 clear hK K
 (try simp only [ly0, ly1, ly2, ly3, ly4, ly5, ly6, ly7])
 refine tkY 8 ?_
 refine tkY 9 ?_
 refine wpAnyH_done (by kernel_rfl) ?_ _
 clear hS0 hS2 hS3 hS4 hS5
 go_wp2
 go_ret
 exact ⟨by simp, HT5.out⟩
theorem same2_3 {w : World} {base g gt : Nat} {D : Dsk} (h : TwoD w w base g gt D) {s : Sq2} (hc : s.c = 3) :
 Calls Try.prog 9 #[.pointer (some ⟨g, 0, none⟩), .pointer (some ⟨gt, 0, none⟩), .agg #[.int .u8 s.c, .int .i64 s.n, .int .u8 s.m, .bool s.o]] w fun e w' => e = .returned (.bool true) ∧ TwoD w w' base g gt (mdN D) := by
 obtain ⟨⟨v, hp⟩, ⟨u, hd⟩, _, hsz⟩ := h
 obtain ⟨w1, hw1⟩ : ∃ w1, w.alloc (.cells #[.int .u8 3, .int .i64 s.n, .int .u8 s.m, .bool s.o] 32) = w1 := ⟨_, rfl⟩
 have hb1 : Below w.heap.size w w1 := by rw [<- hw1]; exact alloc_below _ _
 have hbx : w1.heap[w.heap.size]? = some (.cells #[.int .u8 3, .int .i64 s.n, .int .u8 s.m, .bool s.o] 32 (0, 0)) := by rw [<- hw1]; exact heap_alloc_new w _
 have HP1 := hide (hp.below hb1)
 obtain ⟨es, hd0⟩ := hd
 have HD1 := hide (hd0.below hb1)
 have HL1 := hide (hb1.mono hsz)
 have HZ1 := hide (Nat.le_trans hsz hb1.size)
 have HM := hide (dMend HD1.out)
 obtain ⟨x0, x1, x2, x3⟩ := box_cells2 hbx
 obtain ⟨sc, sn, sm, so⟩ := s
 dsimp only at hc
 subst hc
 dsimp only at *
 clear hbx hb1 hp hd0
 go_enter Try.func9, Try.ntmps9
 go_wp2_with (first
  | (go_at_call 27; refine HM.out.mono ?_; rintro e w2 ⟨rfl, hn2, hm2⟩; have HP2 := hide (HP1.out.mvd HD1.out hm2); have HL2 := hide (HL1.out.trans (Dy.mvb ⟨es, HD1.out⟩ hm2 HZ1.out)); have HZ2 := hide (Nat.le_trans HZ1.out hm2.kq.size); have HN2 := hide hn2; have HA2 := hide (gMend HP2.out); clear hn2 hm2)
  | (go_at_call 16; refine HA2.out.mono ?_; rintro e w3 ⟨rfl, hn3, hm3⟩))
 go_ret
 exact ⟨by simp, ⟨⟨v, hn3⟩, ⟨u, es, HN2.out.mv HP2.out hm3⟩, HL2.out.trans (HP2.out.mvb hm3 HZ2.out), Nat.le_trans HZ2.out hm3.kq.size⟩⟩
theorem same2_4 {w : World} {base g gt : Nat} {D : Dsk} (h : TwoD w w base g gt D) {s : Sq2} (hc : s.c = 4) :
 Calls Try.prog 9 #[.pointer (some ⟨g, 0, none⟩), .pointer (some ⟨gt, 0, none⟩), .agg #[.int .u8 s.c, .int .i64 s.n, .int .u8 s.m, .bool s.o]] w fun e w' => e = .returned (.bool true) ∧ TwoD w w' base g gt D := by
 have hTT := h
 obtain ⟨⟨v, hp⟩, ⟨u, es, hd⟩, _, hsz⟩ := h
 obtain ⟨w1, hw1⟩ : ∃ w1, w.alloc (.cells #[.int .u8 4, .int .i64 s.n, .int .u8 s.m, .bool s.o] 32) = w1 := ⟨_, rfl⟩
 have hb1 : Below w.heap.size w w1 := by rw [<- hw1]; exact alloc_below _ _
 have hbx : w1.heap[w.heap.size]? = some (.cells #[.int .u8 4, .int .i64 s.n, .int .u8 s.m, .bool s.o] 32 (0, 0)) := by rw [<- hw1]; exact heap_alloc_new w _
 have hdr : Below w1.heap.size w1 w1.drew := (Below.refl _ w1).drew
 have hbd := Below.next hb1 hdr
 have HP := hide (fun W (hb : Below w.heap.size w W) => hp.below hb)
 have HD := hide (fun W (hb : Below w.heap.size w W) => hd.below hb)
 have HT := hide (fun W (hb : Below w.heap.size w W) => hTT.below hb)
 have hlen := hp.o.ok.len
 have HS := hide (fun W x y (h1 : Bl W x D.l) (h2 : Bl W y D.l) => dSame22 x y D.l W h1 h2 (by omega))
 have HBl := hide (gBlocks22 (HP.out _ hbd))
 have hSt := hide (fun W (hb : Below w.heap.size w W) => (And.intro (HD.out W hb).cells.1 (HD.out W hb).cells.2.2))
 obtain ⟨ao, cap, rfl, _⟩ := hd.spell
 obtain ⟨x0, x1, x2, x3⟩ := box_cells2 hbx
 have hS0 := hSt.out _ hbd
 obtain ⟨sc, sn, sm, so⟩ := s
 dsimp only at hc
 subst hc
 dsimp only at *
 have HB1 := hide hbd
 clear hbx hbd hdr hb1 hp hd hTT hlen
 go_enter Try.func9, Try.ntmps9
 go_upto_region 12 with fail
 refine wp_region_held_drew (S := (fun V => V.cell? ⟨gt, 0, none⟩ = some (.slice ao D.l.length cap) ∧ V.cell? ⟨gt, 2, none⟩ = some (.bool D.x) ∧ V.cell? ⟨gt, 3, none⟩ = some (.int .i64 (D.n : Int)))) (by kernel_rfl) (by ((try dsimp only) <;> (first | with_reducible exact hS0 | with_reducible exact hS2 | with_reducible exact hS3))) (fun hHeld => ?_)
 refine tkY 0 ?_
 refine tkY 2 ?_
 refine tkY 3 ?_
 refine tkY 4 ?_
 refine tkY 5 ?_
 refine rd1 1 (fun K hK => ?_)
 (try simp only [ly0, ly1, ly2, ly3, ly4, ly5, ly6, ly7])
 go_simp
 (go_at_call 12; refine HBl.out.mono ?_; rintro e w2 ⟨v2, r2, c2, rfl, hT2, hb2⟩; obtain ⟨a2, k2, hv2, _⟩ := own_spellO hT2.row; subst hv2; have hB2 := Below.next HB1.out hb2; have hS2 := hSt.out _ hB2; have HB2 := hide hB2; have HS2 := hide (HS.out _ _ _ hT2.bl (HD.out _ hB2).bl); clear hT2 hb2 hB2)
 first | refine hK.out _ _ ?k11 (fun hHeld => ?_) | (go_wp2_with fail; refine hK.out _ _ ?k11 (fun hHeld => ?_))
 case k11 => ((try dsimp only) <;> (first | with_reducible exact hS0 | with_reducible exact hS2 | with_reducible exact hS3))
 clear hK K
 (try simp only [ly0, ly1, ly2, ly3, ly4, ly5, ly6, ly7])
 refine rd1 6 (fun K hK => ?_)
 (try simp only [ly0, ly1, ly2, ly3, ly4, ly5, ly6, ly7])
 go_simp
 (go_at_call 11; refine HS2.out.mono ?_; rintro e w3 ⟨rfl, hb3⟩; have hB3 := Below.next HB2.out hb3; have hS3 := hSt.out _ hB3; have HB3 := hide hB3; have HCo := hide (gCount22 (HP.out _ hB3)); have HCu := hide (gCut (HP.out _ hB3)); clear hb3 hB3)
 first | refine hK.out _ _ ?k12 (fun hHeld => ?_) | (go_wp2_with fail; refine hK.out _ _ ?k12 (fun hHeld => ?_))
 case k12 => ((try dsimp only) <;> (first | with_reducible exact hS0 | with_reducible exact hS2 | with_reducible exact hS3))
 clear hK K
 (try simp only [ly0, ly1, ly2, ly3, ly4, ly5, ly6, ly7])
 refine tkY 7 ?_
 refine tkY 8 ?_
 refine tkY 10 ?_
 refine tkY 11 ?_
 refine tkY 12 ?_
 refine tkY 13 ?_
 refine rd1 9 (fun K hK => ?_)
 (try simp only [ly0, ly1, ly2, ly3, ly4, ly5, ly6, ly7])
 go_simp
 (go_at_call 17; refine HCo.out.mono ?_; rintro e w4 ⟨rfl, hw4⟩; rw [hw4]; clear hw4)
 first | refine hK.out _ _ ?k13 (fun hHeld => ?_) | (go_wp2_with fail; refine hK.out _ _ ?k13 (fun hHeld => ?_))
 case k13 => ((try dsimp only) <;> (first | with_reducible exact hS0 | with_reducible exact hS2 | with_reducible exact hS3))
 clear hK K
 (try simp only [ly0, ly1, ly2, ly3, ly4, ly5, ly6, ly7])
 refine tkY 14 ?_
 refine tkY 15 ?_
 refine tkY 16 ?_
 refine tkY 17 ?_
 refine tkY 19 ?_
 refine tkY 20 ?_
 refine tkY 21 ?_
 refine tkY 22 ?_
 refine rd1 18 (fun K hK => ?_)
 (try simp only [ly0, ly1, ly2, ly3, ly4, ly5, ly6, ly7])
 go_simp
 (go_at_call 18; refine HCu.out.mono ?_; rintro e w5 ⟨rfl, hw5⟩; rw [hw5]; clear hw5)
 first | refine hK.out _ _ ?k14 (fun hHeld => ?_) | (go_wp2_with fail; refine hK.out _ _ ?k14 (fun hHeld => ?_))
 case k14 => ((try dsimp only) <;> (first | with_reducible exact hS0 | with_reducible exact hS2 | with_reducible exact hS3))
 clear hK K
 (try simp only [ly0, ly1, ly2, ly3, ly4, ly5, ly6, ly7])
 refine tkY 23 ?_
 refine tkY 24 ?_
 refine tkY 25 ?_
 refine wpAnyH_done (by kernel_rfl) ?_ _
 clear hS0 hS2 hS3
 go_wp2
 go_ret
 exact ⟨by simp, HT.out _ HB3.out⟩
theorem same2_5 {w : World} {base g gt : Nat} {D : Dsk} (h : TwoD w w base g gt D) {s : Sq2} (h0 : s.c ≠ 0) (h1 : s.c ≠ 1) (h2 : s.c ≠ 2) (h3 : s.c ≠ 3) (h4 : s.c ≠ 4) :
 Calls Try.prog 9 #[.pointer (some ⟨g, 0, none⟩), .pointer (some ⟨gt, 0, none⟩), .agg #[.int .u8 s.c, .int .i64 s.n, .int .u8 s.m, .bool s.o]] w fun e w' => e = .returned (.bool true) ∧ TwoD w w' base g gt D := by
 have HT := hide (h.below (alloc_below w (.cells #[.int .u8 s.c, .int .i64 s.n, .int .u8 s.m, .bool s.o] 32)))
 clear h
 obtain ⟨sc, sn, sm, so⟩ := s
 dsimp only at *
 go_enter Try.func9, Try.ntmps9
 go_wp2
 go_ret
 exact ⟨by simp, HT.out⟩
theorem same22_any {w : World} {base g gt : Nat} {D : Dsk} (h : TwoD w w base g gt D) (hs : D.n < 4611686018427387904) {s : Sq2} (hq : Okq22 s) :
 Calls Try.prog 9 #[.pointer (some ⟨g, 0, none⟩), .pointer (some ⟨gt, 0, none⟩), .agg #[.int .u8 s.c, .int .i64 s.n, .int .u8 s.m, .bool s.o]] w fun e w' => e = .returned (.bool true) ∧ TwoD w w' base g gt (stp2 D s) := by
 unfold stp2
 by_cases h0 : s.c = 0
 · rw [if_pos h0]; exact same2_0 h hs hq h0
 · rw [if_neg h0]
   by_cases h1 : s.c = 1
   · rw [if_pos h1]; exact same2_1 h hs hq h1
   · rw [if_neg h1]
     by_cases h2 : s.c = 2
     · rw [if_pos h2]; exact same2_2 h hs hq h2
     · rw [if_neg h2]
       by_cases h3 : s.c = 3
       · rw [if_pos h3]; exact same2_3 h h3
       · rw [if_neg h3]
         by_cases h4 : s.c = 4
         · exact same2_4 h h4
         · exact same2_5 h h0 h1 h2 h3 h4
theorem stp2_n (D : Dsk) (s : Sq2) : (stp2 D s).n <= D.n + 1 := by
 unfold stp2
 split
 · exact wrN_n D _
 · split
   · exact tmN_n D _
   · split
     · unfold fuN; split <;> exact Nat.le_succ _
     · split
       · exact Nat.le_succ _
       · exact Nat.le_succ _
end Go.Proofs.Yteipgnkhbcogoaa
