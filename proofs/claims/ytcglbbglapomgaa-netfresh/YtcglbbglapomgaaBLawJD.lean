import Derived.Test.YtcglbbglapomgaaBLawJC
set_option linter.unusedVariables false
set_option linter.unusedSimpArgs false
set_option maxRecDepth 100000
set_option maxHeartbeats 4000000
namespace Go.Proofs.Ytcglbbglapomgaa
open Go.RowKit Fld
theorem same_1 {w : World} {base g gt : Nat} {N : Nt} (h : TwoN w w base g gt N) (hs : N.s < 4611686018427387904) {s : Sq} (hq : ∀ W, Below base w W -> Okq21 W s) (hc : s.c = 1) :
 Calls Try.prog 10 #[.pointer (some ⟨g, 0, none⟩), .pointer (some ⟨gt, 0, none⟩), .agg #[.int .u8 s.c, .int .i64 s.a, .int .i64 s.b, s.u]] w fun e w' => e = .returned (.bool true) ∧ TwoN w w' base g gt (dvN N s.a) := by
 obtain ⟨⟨v, hp⟩, ⟨u, hd⟩, _, hsz⟩ := h
 obtain ⟨ao, cap, hu, _⟩ := (hq w (Below.refl _ w)).rb.spell
 obtain ⟨w1, hw1⟩ : ∃ w1, w.alloc (.cells #[.int .u8 1, .int .i64 s.a, .int .i64 s.b, .slice ao s.bs.length cap] 36) = w1 := ⟨_, rfl⟩
 have hb1 : Below w.heap.size w w1 := by rw [<- hw1]; exact alloc_below _ _
 have hbx : w1.heap[w.heap.size]? = some (.cells #[.int .u8 1, .int .i64 s.a, .int .i64 s.b, .slice ao s.bs.length cap] 36 (0, 0)) := by rw [<- hw1]; exact heap_alloc_new w _
 have hp1 := hp.below hb1
 have hd1 := hd.below hb1
 have hl1 : Below base w w1 := hb1.mono hsz
 have hz1 : base <= w1.heap.size := Nat.le_trans hsz hb1.size
 have HA := hide (gDeliver hp1 hs s.a)
 have HB := hide (fun W (hd : Ny W base gt u N) (hb : base <= W.heap.size) => dDeliver21 hd hb hp1.o.ok hs s.a)
 have HO := hide (fun W x y (r1 : Rb W x (dvP N s.a).b) (r2 : Rb W y (dvP N s.a).b) => dOne21 (dvP N s.a) (dvP N s.a) x y W r1 r2)
 simp only [pkS_self] at HO
 obtain ⟨x0, x1, x2, x3⟩ := box_cells hbx
 obtain ⟨sc, sa, sb, su, sbs⟩ := s
 dsimp only at hc hu
 subst hc hu
 dsimp only at *
 generalize plE N sa = er at *
 generalize dvP N sa = p at *
 generalize hM : dvN N sa = M at *
 have HX := hide hbx
 have HP1 := hide hp1
 have HD1 := hide hd1
 have HL1 := hide hl1
 have HZ1 := hide hz1
 clear hbx hp1 hd1 hl1 hz1 hb1 hp hd hq hM
 go_enter Try.func10, Try.ntmps10
 go_upto_region 6 with (go_at_call 12; go_loud (refine HA.out.mono ?_; rintro e w2 ⟨v2, y, rfl, hy2, hn2, hm2⟩; obtain ⟨u2, hye, hr2⟩ := hy2.form; obtain ⟨a2, k2, hu2, _⟩ := hr2.spell; subst hu2; subst hye))
 have hd2 := HD1.out.mv HP1.out hm2
 have hbx2 := box_mv HX.out HP1.out hm2
 have hl2 := HL1.out.trans (HP1.out.mvb hm2 HZ1.out)
 have hz2 : base <= w2.heap.size := Nat.le_trans HZ1.out hm2.kq.size
 have hA2 := alloc_below w2 (.cells #[.int .i64 p.f, .int .i64 p.t, .slice a2 p.b.length k2] 40)
 have hC2 := heap_alloc_new w2 (.cells #[.int .i64 p.f, .int .i64 p.t, .slice a2 p.b.length k2] 40)
 have hn3 := hn2.below hA2
 have hd3 := hd2.below hA2
 have hy3 := hy2.below hA2
 have hl3 := hl2.trans (hA2.mono hz2)
 have hz3 := Nat.le_trans hz2 hA2.size
 have hbx3 := (hA2.block _ (Array.getElem?_eq_some_iff.1 hbx2).1).trans hbx2
 have hs3 : (w2.alloc (.cells #[.int .i64 p.f, .int .i64 p.t, .slice a2 p.b.length k2] 40)).heap.size = w2.heap.size + 1 := by simp
 have hgt : gt < w2.heap.size := by obtain ⟨es, h9⟩ := hd2; exact h9.lt
 have hut : ∀ j, u.ownBlock = some j -> j < w2.heap.size := by obtain ⟨es, h9⟩ := hd2; exact fun j hj => (h9.pks.lt j hj).2
 have HB3 := hide (HB.out _ hd3 hz3)
 obtain ⟨q0, q1, q2, q3⟩ := box_cells hbx3
 generalize hW3 : w2.alloc (.cells #[.int .i64 p.f, .int .i64 p.t, .slice a2 p.b.length k2] 40) = w3 at *
 generalize hB2 : w2.heap.size = b2 at *
 have HN3 := hide hn3
 have HD3 := hide hd3
 have HY3 := hide hy3
 have HL3 := hide hl3
 have HZ3 := hide hz3
 have HC3 := hide hC2
 have HS3 := hide hs3
 have HGt := hide hgt
 have HUt := hide hut
 clear hd2 hbx2 hl2 hz2 hA2 hC2 hn3 hd3 hy3 hl3 hz3 hbx3 hs3 hgt hut hn2 hm2 hr2 hy2 HA HX HP1 HD1 HL1 HZ1
 go_upto_region 7 with (go_at_call 25; go_loud (refine HB3.out.mono ?_; rintro e w4 ⟨v4, u4, rfl, hr4, hn4, hm4⟩; obtain ⟨a4, k4, hu4, _⟩ := hr4.spell; subst hu4))
 have hp4 := HN3.out.mvy HD3.out hm4
 have hy4 := HY3.out.mvd HD3.out hm4
 have hl4 := HL3.out.trans (HD3.out.mvb hm4 HZ3.out)
 have hz4 : base <= w4.heap.size := Nat.le_trans HZ3.out hm4.kq.size
 have hC4 := (hm4.block (j := b2) (by have := HS3.out; omega) (by have := HGt.out; omega) (fun e => by have := HUt.out _ e; omega)).trans HC3.out
 have hA4 := alloc_below w4 (.cells #[.int .i64 p.f, .int .i64 p.t, .slice a4 p.b.length k4] 40)
 have hC5 := (hA4.block _ (Array.getElem?_eq_some_iff.1 hC4).1).trans hC4
 have hD5 := heap_alloc_new w4 (.cells #[.int .i64 p.f, .int .i64 p.t, .slice a4 p.b.length k4] 40)
 have HT5 : Hid (TwoN w (w4.alloc (.cells #[.int .i64 p.f, .int .i64 p.t, .slice a4 p.b.length k4] 40)) base g gt M) := ⟨⟨_, hp4.below hA4⟩, ⟨_, hn4.below hA4⟩, hl4.trans (hA4.mono hz4), Nat.le_trans hz4 hA4.size⟩
 have HO5 := hide (HO.out _ _ _ ((hy4.below hA4).rb) (hr4.below hA4))
 generalize hW5 : w4.alloc (.cells #[.int .i64 p.f, .int .i64 p.t, .slice a4 p.b.length k4] 40) = w5 at *
 generalize hB4 : w4.heap.size = b4 at *
 have e0 : w5.cell? ⟨b2, 0, none⟩ = some (.int .i64 p.f) := (Lib.cell_of_heap hC5 0).trans rfl
 have e1 : w5.cell? ⟨b2, 1, none⟩ = some (.int .i64 p.t) := (Lib.cell_of_heap hC5 1).trans rfl
 have e2 : w5.cell? ⟨b2, 2, none⟩ = some (.slice a2 p.b.length k2) := (Lib.cell_of_heap hC5 2).trans rfl
 have f0 : w5.cell? ⟨b4, 0, none⟩ = some (.int .i64 p.f) := (Lib.cell_of_heap hD5 0).trans rfl
 have f1 : w5.cell? ⟨b4, 1, none⟩ = some (.int .i64 p.t) := (Lib.cell_of_heap hD5 1).trans rfl
 have f2 : w5.cell? ⟨b4, 2, none⟩ = some (.slice a4 p.b.length k4) := (Lib.cell_of_heap hD5 2).trans rfl
 clear hp4 hy4 hl4 hz4 hC4 hA4 hC5 hD5 hn4 hm4 hr4
 go_wp2_with (go_at_call 21; refine HO5.out.mono ?_; rintro e w6 ⟨rfl, hb6⟩)
 go_ret
 exact ⟨by simp, HT5.out.below hb6⟩
theorem same_5 {w : World} {base g gt : Nat} {N : Nt} (h : TwoN w w base g gt N) (hs : N.s < 4611686018427387904) {s : Sq} (hq : ∀ W, Below base w W -> Okq21 W s) (hc : s.c = 5) :
 Calls Try.prog 10 #[.pointer (some ⟨g, 0, none⟩), .pointer (some ⟨gt, 0, none⟩), .agg #[.int .u8 s.c, .int .i64 s.a, .int .i64 s.b, s.u]] w fun e w' => e = .returned (.bool true) ∧ TwoN w w' base g gt N := by
 have hTT := h
 obtain ⟨⟨v, hp⟩, ⟨u, hd⟩, _, hsz⟩ := h
 obtain ⟨ao, cap, hu, _⟩ := (hq w (Below.refl _ w)).rb.spell
 obtain ⟨w1, hw1⟩ : ∃ w1, w.alloc (.cells #[.int .u8 5, .int .i64 s.a, .int .i64 s.b, .slice ao s.bs.length cap] 36) = w1 := ⟨_, rfl⟩
 have hb1 : Below w.heap.size w w1 := by rw [<- hw1]; exact alloc_below _ _
 have hbx : w1.heap[w.heap.size]? = some (.cells #[.int .u8 5, .int .i64 s.a, .int .i64 s.b, .slice ao s.bs.length cap] 36 (0, 0)) := by rw [<- hw1]; exact heap_alloc_new w _
 have hp1 := hp.below hb1
 have hd1 := hd.below hb1
 have HA := hide (gCount hp1 hs)
 have HT := hide (fun W (hb : Below w1.heap.size w1 W) => hTT.below (Below.next hb1 hb))
 have HPd := hide (fun W (hb : Below w1.heap.size w1 W) => gPending (hp1.below hb))
 have HDl := hide (fun W (hb : Below w1.heap.size w1 W) => hd1.below hb)
 have hlen := hp1.o.ok.len
 have HS := hide (fun W x y (h1 : Pl W x N.l) (h2 : Pl W y N.l) => dSame21 x y N.l W h1 h2 hlen)
 obtain ⟨x0, x1, x2, x3⟩ := box_cells hbx
 have hdc : ∀ W, Ny W base gt u N -> (W.cell? ⟨gt, 1, none⟩ = some u ∧ W.cell? ⟨gt, 2, none⟩ = some (.int .i64 (N.s : Int)) ∧ W.cell? ⟨gt, 3, none⟩ = some (.int .i64 (N.d : Int)) ∧ W.cell? ⟨gt, 4, none⟩ = some (.int .i64 (N.c : Int))) ∧ Pl W u N.l := fun W hy => by
  obtain ⟨es, hy⟩ := hy
  exact ⟨hy.cells.2, hy.pks.pl hy.eq⟩
 have HDc := hide hdc
 have hspu : ∃ ao cap, u = .slice ao N.l.length cap := by
  obtain ⟨es, hy⟩ := hd
  obtain ⟨ao, cap, h9, _⟩ := hy.spell
  exact ⟨ao, cap, by rw [h9, hy.len]⟩
 obtain ⟨uo, uc, rfl⟩ := hspu
 obtain ⟨sc, sa, sb, su, sbs⟩ := s
 dsimp only at hc hu
 subst hc hu
 dsimp only at *
 clear hbx hp1 hd1 hb1 hp hd hq hTT hdc
 go_enter Try.func10, Try.ntmps10
 go_upto_region 16 with (go_at_call 13; go_loud (refine HA.out.mono ?_; rintro e w2 ⟨rfl, hb2⟩))
 have hbd : Below w1.heap.size w1 w2.drew := hb2.drew
 have HP2 := hide (HPd.out _ hbd)
 have hS0 := (HDc.out _ (HDl.out _ hbd)).1
 refine wp_region_held_drew (S := (fun V => V.cell? ⟨gt, 1, none⟩ = some (.slice uo N.l.length uc) ∧ V.cell? ⟨gt, 2, none⟩ = some (.int .i64 (N.s : Int)) ∧ V.cell? ⟨gt, 3, none⟩ = some (.int .i64 (N.d : Int)) ∧ V.cell? ⟨gt, 4, none⟩ = some (.int .i64 (N.c : Int)))) (by kernel_rfl) (by ((try dsimp only) <;> (first | with_reducible exact hS0 | with_reducible exact hS1 | with_reducible exact hS2))) (fun hHeld => ?_)
 refine tkY 0 ?_
 refine tkY 2 ?_
 refine tkY 3 ?_
 refine tkY 4 ?_
 refine tkY 5 ?_
 refine rd1 1 (fun K hK => ?_)
 (try simp only [ly0, ly1, ly2, ly3, ly4, ly5, ly6, ly7])
 go_simp
 (go_at_call 18; refine HP2.out.mono ?_; rintro e w3 ⟨v3, ls, rfl, hq3, he3, hb3⟩; have hB3 := Below.next hbd hb3; have hr3 := hq3.row; obtain ⟨a3, k3, hv3, _⟩ := own_spellO hr3; rw [List.length_map] at hv3; subst hv3; have hS1 := (HDc.out _ (HDl.out _ hB3)).1; have HS3 := hide (HS.out _ _ _ (hq3.pl he3) (HDc.out _ (HDl.out _ hB3)).2))
 first | refine hK.out _ _ ?k1 (fun hHeld => ?_) | (go_wp2_with fail; refine hK.out _ _ ?k1 (fun hHeld => ?_))
 case k1 => ((try dsimp only) <;> (first | with_reducible exact hS0 | with_reducible exact hS1 | with_reducible exact hS2))
 clear hK K
 (try simp only [ly0, ly1, ly2, ly3, ly4, ly5, ly6, ly7])
 refine rd1 6 (fun K hK => ?_)
 (try simp only [ly0, ly1, ly2, ly3, ly4, ly5, ly6, ly7])
 go_simp
 (go_at_call 22; refine HS3.out.mono ?_; rintro e w4 ⟨rfl, hb4⟩; have hB4 := Below.next hB3 hb4; have hS2 := (HDc.out _ (HDl.out _ hB4)).1; have HT4 := hide (HT.out _ hB4))
 first | refine hK.out _ _ ?k2 (fun hHeld => ?_) | (go_wp2_with fail; refine hK.out _ _ ?k2 (fun hHeld => ?_))
 case k2 => ((try dsimp only) <;> (first | with_reducible exact hS0 | with_reducible exact hS1 | with_reducible exact hS2))
 clear hK K
 (try simp only [ly0, ly1, ly2, ly3, ly4, ly5, ly6, ly7])
 refine tkY 7 ?_
 refine tkY 8 ?_
 refine tkY 9 ?_
 refine tkY 10 ?_
 refine tkY 11 ?_
 refine tkY 12 ?_
 refine tkY 13 ?_
 refine tkY 14 ?_
 refine tkY 15 ?_
 refine tkY 16 ?_
 refine tkY 17 ?_
 refine tkY 18 ?_
 refine tkY 19 ?_
 refine tkY 20 ?_
 refine tkY 21 ?_
 refine tkY 22 ?_
 refine tkY 23 ?_
 refine tkY 24 ?_
 refine tkY 25 ?_
 refine tkY 26 ?_
 refine tkY 27 ?_
 refine tkY 28 ?_
 refine tkY 29 ?_
 refine tkY 30 ?_
 refine tkY 31 ?_
 refine wpAnyH_done (by kernel_rfl) ?_ _
 clear hS0 hS1 hS2
 go_wp2
 go_ret
 exact ⟨by simp, HT4.out⟩
theorem same_no {w : World} {base g gt : Nat} {N : Nt} (h : TwoN w w base g gt N) {s : Sq} (hq : ∀ W, Below base w W -> Okq21 W s) (hc : 6 <= s.c) :
 Calls Try.prog 10 #[.pointer (some ⟨g, 0, none⟩), .pointer (some ⟨gt, 0, none⟩), .agg #[.int .u8 s.c, .int .i64 s.a, .int .i64 s.b, s.u]] w fun e w' => e = .returned (.bool true) ∧ TwoN w w' base g gt N := by
 obtain ⟨ao, cap, hu, _⟩ := (hq w (Below.refl _ w)).rb.spell
 obtain ⟨w1, hw1⟩ : ∃ w1, w.alloc (.cells #[.int .u8 s.c, .int .i64 s.a, .int .i64 s.b, .slice ao s.bs.length cap] 36) = w1 := ⟨_, rfl⟩
 have hb1 : Below w.heap.size w w1 := by rw [<- hw1]; exact alloc_below _ _
 have hbx : w1.heap[w.heap.size]? = some (.cells #[.int .u8 s.c, .int .i64 s.a, .int .i64 s.b, .slice ao s.bs.length cap] 36 (0, 0)) := by rw [<- hw1]; exact heap_alloc_new w _
 have HT := hide (h.below hb1)
 obtain ⟨x0, x1, x2, x3⟩ := box_cells hbx
 have n0 : (s.c == 0) = false := beq_eq_false_iff_ne.2 (by omega)
 have n1 : (s.c == 1) = false := beq_eq_false_iff_ne.2 (by omega)
 have n2 : (s.c == 2) = false := beq_eq_false_iff_ne.2 (by omega)
 have n3 : (s.c == 3) = false := beq_eq_false_iff_ne.2 (by omega)
 have n4 : (s.c == 4) = false := beq_eq_false_iff_ne.2 (by omega)
 have n5 : (s.c == 5) = false := beq_eq_false_iff_ne.2 (by omega)
 rw [hu]
 clear hbx hb1 h hq hc hu
 go_enter Try.func10, Try.ntmps10
 go_wp2
 go_ret
 exact ⟨by simp, HT.out⟩
theorem same21_any {w : World} {base g gt : Nat} {N : Nt} (h : TwoN w w base g gt N) (hs : N.s < 4611686018427387904) {s : Sq} (hq : ∀ W, Below base w W -> Okq21 W s) :
 Calls Try.prog 10 #[.pointer (some ⟨g, 0, none⟩), .pointer (some ⟨gt, 0, none⟩), .agg #[.int .u8 s.c, .int .i64 s.a, .int .i64 s.b, s.u]] w fun e w' => e = .returned (.bool true) ∧ TwoN w w' base g gt (stp N s) := by
 have h0 := (hq w (Below.refl _ w)).c
 unfold stp
 by_cases c0 : s.c = 0
 · rw [if_pos c0]; exact same_0 h hs hq c0
 · by_cases c1 : s.c = 1
   · rw [if_neg c0, if_pos c1]; exact same_1 h hs hq c1
   · by_cases c2 : s.c = 2
     · rw [if_neg c0, if_neg c1, if_pos c2]; exact same_2 h hs hq c2
     · by_cases c3 : s.c = 3
       · rw [if_neg c0, if_neg c1, if_neg c2, if_pos c3]; exact same_3 h hs hq c3
       · by_cases c4 : s.c = 4
         · rw [if_neg c0, if_neg c1, if_neg c2, if_neg c3, if_pos c4]; exact same_4 h hs hq c4
         · rw [if_neg c0, if_neg c1, if_neg c2, if_neg c3, if_neg c4]
           by_cases c5 : s.c = 5
           · exact same_5 h hs hq c5
           · exact same_no h hq (by omega)
theorem stp_s (N : Nt) (s : Sq) : (stp N s).s <= N.s + 1 := by
 unfold stp sdN dvN dpN dbN mvN
 repeat' split
 all_goals (first | omega | exact Nat.le_refl _ | exact Nat.le_succ _)
end Go.Proofs.Ytcglbbglapomgaa
