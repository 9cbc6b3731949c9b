import Derived.Test.YtcglbbglapomgaaBLawJA
set_option linter.unusedVariables false
set_option linter.unusedSimpArgs false
set_option maxRecDepth 100000
set_option maxHeartbeats 4000000
namespace Go.Proofs.Ytcglbbglapomgaa
open Go.RowKit Fld
def stp (N : Nt) (s : Sq) : Nt := if s.c = 0 then sdN N s.a s.b s.bs else if s.c = 1 then dvN N s.a else if s.c = 2 then dpN N s.a else if s.c = 3 then dbN N s.a else if s.c = 4 then mvN N s.a s.b else N
theorem Ny.mv {w w' : World} {base base' g g' : Nat} {u u' v : Value} {N M : Nt} (h : Ny w base g v N) (hn : Np w base' g' u M) (m : Mv w w' g' u u') : Ny w' base g v N := by
 obtain ⟨es, h⟩ := h
 exact ⟨es, h.mv hn m⟩
theorem Np.mvy {w w' : World} {base base' g g' : Nat} {u u' v : Value} {N M : Nt} (h : Np w base g v N) (hn : Ny w base' g' u M) (m : Mv w w' g' u u') : Np w' base g v N := by
 obtain ⟨es, hn⟩ := hn
 exact h.mvd hn m
structure TwoN (w W : World) (base g gt : Nat) (N : Nt) : Prop where
 p : ∃ v, Np W base g v N
 d : ∃ v, Ny W base gt v N
 low : Below base w W
 sz : base <= W.heap.size
theorem TwoN.below {w W W' : World} {base g gt : Nat} {N : Nt} (h : TwoN w W base g gt N) (hb : Below W.heap.size W W') : TwoN w W' base g gt N := by
 obtain ⟨v, h1⟩ := h.p
 obtain ⟨u, h2⟩ := h.d
 exact ⟨⟨v, h1.below hb⟩, ⟨u, h2.below hb⟩, h.low.trans (hb.mono h.sz), Nat.le_trans h.sz hb.size⟩
theorem two_step {w W W2 W3 : World} {base g gt : Nat} {v v2 u u3 : Value} {N M : Nt} (h1 : Np W base g v N) (h2 : Ny W base gt u N) (hl : Below base w W) (hs : base <= W.heap.size) (n2 : Np W2 base g v2 M) (m2 : Mv W W2 g v v2) (n3 : Ny W3 base gt u3 M) (m3 : Mv W2 W3 gt u u3) : TwoN w W3 base g gt M := by
 have hy2 := h2.mv h1 m2
 have s2 := m2.kq.size
 have s3 := m3.kq.size
 exact ⟨⟨v2, n2.mvy hy2 m3⟩, ⟨u3, n3⟩, (hl.trans (h1.mvb m2 hs)).trans (hy2.mvb m3 (by omega)), by omega⟩
theorem box_mv {W W2 : World} {b g base : Nat} {v v2 : Value} {N : Nt} {cs : Array Value} (hb : W.heap[b]? = some (.cells cs 36 (0, 0))) (h : Np W base g v N) (m : Mv W W2 g v v2) : W2.heap[b]? = some (.cells cs 36 (0, 0)) := by
 refine (m.block (Array.getElem?_eq_some_iff.1 hb).1 (fun e => ?_) (own_notO h.m.row hb (by decide))).trans hb
 subst e
 have := h.m.net.symm.trans hb
 simp at this
theorem box_mvy {W W2 : World} {b g base : Nat} {v v2 : Value} {N : Nt} {cs : Array Value} (hb : W.heap[b]? = some (.cells cs 36 (0, 0))) (h : Ny W base g v N) (m : Mv W W2 g v v2) : W2.heap[b]? = some (.cells cs 36 (0, 0)) := by
 obtain ⟨es, h⟩ := h
 refine (m.block (Array.getElem?_eq_some_iff.1 hb).1 (fun e => ?_) (own_notO h.pks.row hb (by decide))).trans hb
 subst e
 have := h.net.symm.trans hb
 simp at this
theorem dSendY {w : World} {base g : Nat} {v : Value} {N : Nt} (h : Ny w base g v N) (hb : base <= w.heap.size) (hs : N.s < 4611686018427387904) (f t : Int) {u : Value} {bs : List Int} (hu : Rb w u bs) :
 Calls Try.prog 23 #[.pointer (some ⟨g, 0, none⟩), .int .i64 f, .int .i64 t, u] w fun e w' => ∃ v', e = .returned (.int .i64 (sdE N f t bs)) ∧ Ny w' base g v' (sdN N f t bs) ∧ Mv w w' g v v' := by
 obtain ⟨es, h⟩ := h
 exact dSend21 h hb hs f t hu
theorem box_cells {W : World} {b : Nat} {x0 x1 x2 x3 : Value} (h : W.heap[b]? = some (.cells #[x0, x1, x2, x3] 36 (0, 0))) : W.cell? ⟨b, 0, none⟩ = some x0 ∧ W.cell? ⟨b, 1, none⟩ = some x1 ∧ W.cell? ⟨b, 2, none⟩ = some x2 ∧ W.cell? ⟨b, 3, none⟩ = some x3 := by
 refine ⟨?_, ?_, ?_, ?_⟩ <;> simp [World.cell?, h]
theorem same_0 {w : World} {base g gt : Nat} {N : Nt} (h : TwoN w w base g gt N) (hs : N.s < 4611686018427387904) {s : Sq} (hq : ∀ W, Below base w W -> Okq21 W s) (hc : s.c = 0) :
 Calls Try.prog 10 #[.pointer (some ⟨g, 0, none⟩), .pointer (some ⟨gt, 0, none⟩), .agg #[.int .u8 s.c, .int .i64 s.a, .int .i64 s.b, s.u]] w fun e w' => e = .returned (.bool true) ∧ TwoN w w' base g gt (sdN N s.a s.b s.bs) := by
 obtain ⟨⟨v, hp⟩, ⟨u, hd⟩, _, hsz⟩ := h
 obtain ⟨ao, cap, hu, _⟩ := (hq w (Below.refl _ w)).rb.spell
 obtain ⟨w1, hw1⟩ : ∃ w1, w.alloc (.cells #[.int .u8 0, .int .i64 s.a, .int .i64 s.b, .slice ao s.bs.length cap] 36) = w1 := ⟨_, rfl⟩
 have hb1 : Below w.heap.size w w1 := by rw [<- hw1]; exact alloc_below _ _
 have hbx : w1.heap[w.heap.size]? = some (.cells #[.int .u8 0, .int .i64 s.a, .int .i64 s.b, .slice ao s.bs.length cap] 36 (0, 0)) := by rw [<- hw1]; exact heap_alloc_new w _
 have hdr : Below w1.heap.size w1 w1.drew := (Below.refl _ w1).drew
 have hbd := Below.next hb1 hdr
 have hp1 := hp.below hbd
 have hd1 := hd.below hbd
 have hl1 : Below base w w1.drew := hbd.mono hsz
 have hz1 : base <= w1.drew.heap.size := Nat.le_trans hsz hbd.size
 have hbx1 : w1.drew.heap[w.heap.size]? = some (.cells #[.int .u8 0, .int .i64 s.a, .int .i64 s.b, .slice ao s.bs.length cap] 36 (0, 0)) := hbx
 have HA := hide (gSend hp1 hz1 hs s.a s.b (hq _ hl1).rb)
 have HB := hide (fun W2 v2 (m2 : Mv w1.drew W2 g v v2) => dSendY (hd1.mv hp1 m2) (Nat.le_trans hz1 m2.kq.size) hs s.a s.b (hq W2 (hl1.trans (hp1.mvb m2 hz1))).rb)
 rw [hu] at HA HB
 have HT := hide (fun W2 v2 n2 (m2 : Mv w1.drew W2 g v v2) W3 u3 (n3 : Ny W3 base gt u3 (sdN N s.a s.b s.bs)) (m3 : Mv W2 W3 gt u u3) => two_step (w := w) hp1 hd1 hl1 hz1 n2 m2 n3 m3)
 have HX2 := hide (fun W2 v2 (m2 : Mv w1.drew W2 g v v2) => box_cells (box_mv hbx1 hp1 m2))
 have HX3 := hide (fun W2 v2 (m2 : Mv w1.drew W2 g v v2) W3 u3 (m3 : Mv W2 W3 gt u u3) => box_cells (box_mvy (box_mv hbx1 hp1 m2) (hd1.mv hp1 m2) m3))
 obtain ⟨x0, x1, x2, x3⟩ := box_cells hbx
 have hS0 := (box_cells hbx1).2
 obtain ⟨sc, sa, sb, su, sbs⟩ := s
 dsimp only at hc hu
 subst hc hu
 dsimp only at *
 clear hbx hbx1 hp1 hd1 hl1 hz1 hbd hdr hb1 hp hd hq
 generalize sdE N sa sb sbs = er at *
 go_enter Try.func10, Try.ntmps10
 go_upto_region 3 with fail
 refine wp_region_held_drew (S := (fun V => V.cell? ⟨w.heap.size, 1, none⟩ = some (.int .i64 sa) ∧ V.cell? ⟨w.heap.size, 2, none⟩ = some (.int .i64 sb) ∧ V.cell? ⟨w.heap.size, 3, none⟩ = some (.slice ao sbs.length cap))) (by kernel_rfl) (by ((try dsimp only) <;> (first | with_reducible exact hS0 | with_reducible exact hS2 | with_reducible exact hS3))) (fun hHeld => ?_)
 refine tkY 0 ?_
 refine tkY 1 ?_
 refine tkY 2 ?_
 refine tkY 3 ?_
 refine tkY 4 ?_
 refine tkY 5 ?_
 refine tkY 6 ?_
 refine tkY 8 ?_
 refine tkY 9 ?_
 refine tkY 10 ?_
 refine tkY 11 ?_
 refine tkY 12 ?_
 refine tkY 13 ?_
 refine tkY 14 ?_
 refine rd1 7 (fun K hK => ?_)
 (try simp only [ly0, ly1, ly2, ly3, ly4, ly5, ly6, ly7])
 go_simp
 (go_at_call 14; refine HA.out.mono ?_; rintro e w2 ⟨v2, rfl, hn2, hm2⟩; have hS2 := (HX2.out _ _ hm2).2; have HB2 := hide (HB.out _ _ hm2))
 first | refine hK.out _ _ ?k1 (fun hHeld => ?_) | (go_wp2_with fail; refine hK.out _ _ ?k1 (fun hHeld => ?_))
 case k1 => ((try dsimp only) <;> (first | with_reducible exact hS0 | with_reducible exact hS2 | with_reducible exact hS3))
 clear hK K
 (try simp only [ly0, ly1, ly2, ly3, ly4, ly5, ly6, ly7])
 refine rd1 15 (fun K hK => ?_)
 (try simp only [ly0, ly1, ly2, ly3, ly4, ly5, ly6, ly7])
 go_simp
 (go_at_call 23; refine HB2.out.mono ?_; rintro e w3 ⟨u3, rfl, hn3, hm3⟩; have hS3 := (HX3.out _ _ hm2 _ _ hm3).2; have HT3 := hide (HT.out _ _ hn2 hm2 _ _ hn3 hm3))
 first | refine hK.out _ _ ?k2 (fun hHeld => ?_) | (go_wp2_with fail; refine hK.out _ _ ?k2 (fun hHeld => ?_))
 case k2 => ((try dsimp only) <;> (first | with_reducible exact hS0 | with_reducible exact hS2 | with_reducible exact hS3))
 clear hK K
 (try simp only [ly0, ly1, ly2, ly3, ly4, ly5, ly6, ly7])
 refine tkY 16 ?_
 refine tkY 17 ?_
 refine wpAnyH_done (by kernel_rfl) ?_ _
 clear hS0 hS2 hS3
 go_wp2
 go_ret
 exact ⟨by simp, HT3.out⟩
theorem same_2 {w : World} {base g gt : Nat} {N : Nt} (h : TwoN w w base g gt N) (hs : N.s < 4611686018427387904) {s : Sq} (hq : ∀ W, Below base w W -> Okq21 W s) (hc : s.c = 2) :
 Calls Try.prog 10 #[.pointer (some ⟨g, 0, none⟩), .pointer (some ⟨gt, 0, none⟩), .agg #[.int .u8 s.c, .int .i64 s.a, .int .i64 s.b, s.u]] w fun e w' => e = .returned (.bool true) ∧ TwoN w w' base g gt (dpN N s.a) := by
 obtain ⟨⟨v, hp⟩, ⟨u, hd⟩, _, hsz⟩ := h
 obtain ⟨ao, cap, hu, _⟩ := (hq w (Below.refl _ w)).rb.spell
 obtain ⟨w1, hw1⟩ : ∃ w1, w.alloc (.cells #[.int .u8 2, .int .i64 s.a, .int .i64 s.b, .slice ao s.bs.length cap] 36) = w1 := ⟨_, rfl⟩
 have hb1 : Below w.heap.size w w1 := by rw [<- hw1]; exact alloc_below _ _
 have hbx : w1.heap[w.heap.size]? = some (.cells #[.int .u8 2, .int .i64 s.a, .int .i64 s.b, .slice ao s.bs.length cap] 36 (0, 0)) := by rw [<- hw1]; exact heap_alloc_new w _
 have hdr : Below w1.heap.size w1 w1.drew := (Below.refl _ w1).drew
 have hbd := Below.next hb1 hdr
 have hp1 := hp.below hbd
 have hd1 := hd.below hbd
 have hl1 : Below base w w1.drew := hbd.mono hsz
 have hz1 : base <= w1.drew.heap.size := Nat.le_trans hsz hbd.size
 have hbx1 : w1.drew.heap[w.heap.size]? = some (.cells #[.int .u8 2, .int .i64 s.a, .int .i64 s.b, .slice ao s.bs.length cap] 36 (0, 0)) := hbx
 have HA := hide (gDrop hp1 s.a)
 have HB := hide (fun W2 v2 (m2 : Mv w1.drew W2 g v v2) => dDrop21 (hd1.mv hp1 m2) (Nat.le_trans hz1 m2.kq.size) hp1.o.ok hs s.a)
 have HT := hide (fun W2 v2 n2 (m2 : Mv w1.drew W2 g v v2) W3 u3 (n3 : Ny W3 base gt u3 (dpN N s.a)) (m3 : Mv W2 W3 gt u u3) => two_step (w := w) hp1 hd1 hl1 hz1 n2 m2 n3 m3)
 have HX2 := hide (fun W2 v2 (m2 : Mv w1.drew W2 g v v2) => box_cells (box_mv hbx1 hp1 m2))
 have HX3 := hide (fun W2 v2 (m2 : Mv w1.drew W2 g v v2) W3 u3 (m3 : Mv W2 W3 gt u u3) => box_cells (box_mvy (box_mv hbx1 hp1 m2) (hd1.mv hp1 m2) m3))
 obtain ⟨x0, x1, x2, x3⟩ := box_cells hbx
 have hS0 := (box_cells hbx1).2
 obtain ⟨sc, sa, sb, su, sbs⟩ := s
 dsimp only at hc hu
 subst hc hu
 dsimp only at *
 clear hbx hbx1 hp1 hd1 hl1 hz1 hbd hdr hb1 hp hd hq
 generalize plE N sa = er at *
 go_enter Try.func10, Try.ntmps10
 go_upto_region 9 with fail
 refine wp_region_held_drew (S := (fun V => V.cell? ⟨w.heap.size, 1, none⟩ = some (.int .i64 sa) ∧ V.cell? ⟨w.heap.size, 2, none⟩ = some (.int .i64 sb) ∧ V.cell? ⟨w.heap.size, 3, none⟩ = some (.slice ao sbs.length cap))) (by kernel_rfl) (by ((try dsimp only) <;> (first | with_reducible exact hS0 | with_reducible exact hS2 | with_reducible exact hS3))) (fun hHeld => ?_)
 refine tkY 0 ?_
 refine tkY 1 ?_
 refine tkY 2 ?_
 refine tkY 4 ?_
 refine tkY 5 ?_
 refine tkY 6 ?_
 refine rd1 3 (fun K hK => ?_)
 (try simp only [ly0, ly1, ly2, ly3, ly4, ly5, ly6, ly7])
 go_simp
 (first
  | (go_at_call 15; refine HA.out.mono ?_; rintro e w2 ⟨v2, rfl, hn2, hm2⟩; have hS2 := (HX2.out _ _ hm2).2; have HB2 := hide (HB.out _ _ hm2))
  | (go_at_call 26; refine HB2.out.mono ?_; rintro e w3 ⟨u3, rfl, hn3, hm3⟩; have hS3 := (HX3.out _ _ hm2 _ _ hm3).2; have HT3 := hide (HT.out _ _ hn2 hm2 _ _ hn3 hm3)))
 first | refine hK.out _ _ ?k3 (fun hHeld => ?_) | (go_wp2_with fail; refine hK.out _ _ ?k3 (fun hHeld => ?_))
 case k3 => ((try dsimp only) <;> (first | with_reducible exact hS0 | with_reducible exact hS2 | with_reducible exact hS3))
 clear hK K
 (try simp only [ly0, ly1, ly2, ly3, ly4, ly5, ly6, ly7])
 refine rd1 7 (fun K hK => ?_)
 (try simp only [ly0, ly1, ly2, ly3, ly4, ly5, ly6, ly7])
 go_simp
 (first
  | (go_at_call 15; refine HA.out.mono ?_; rintro e w2 ⟨v2, rfl, hn2, hm2⟩; have hS2 := (HX2.out _ _ hm2).2; have HB2 := hide (HB.out _ _ hm2))
  | (go_at_call 26; refine HB2.out.mono ?_; rintro e w3 ⟨u3, rfl, hn3, hm3⟩; have hS3 := (HX3.out _ _ hm2 _ _ hm3).2; have HT3 := hide (HT.out _ _ hn2 hm2 _ _ hn3 hm3)))
 first | refine hK.out _ _ ?k4 (fun hHeld => ?_) | (go_wp2_with fail; refine hK.out _ _ ?k4 (fun hHeld => ?_))
 case k4 => ((try dsimp only) <;> (first | with_reducible exact hS0 | with_reducible exact hS2 | with_reducible exact hS3))
 clear hK K
 (try simp only [ly0, ly1, ly2, ly3, ly4, ly5, ly6, ly7])
 refine tkY 8 ?_
 refine tkY 9 ?_
 refine wpAnyH_done (by kernel_rfl) ?_ _
 clear hS0 hS2 hS3
 go_wp2
 go_ret
 exact ⟨by simp, HT3.out⟩
theorem same_3 {w : World} {base g gt : Nat} {N : Nt} (h : TwoN w w base g gt N) (hs : N.s < 4611686018427387904) {s : Sq} (hq : ∀ W, Below base w W -> Okq21 W s) (hc : s.c = 3) :
 Calls Try.prog 10 #[.pointer (some ⟨g, 0, none⟩), .pointer (some ⟨gt, 0, none⟩), .agg #[.int .u8 s.c, .int .i64 s.a, .int .i64 s.b, s.u]] w fun e w' => e = .returned (.bool true) ∧ TwoN w w' base g gt (dbN N s.a) := by
 obtain ⟨⟨v, hp⟩, ⟨u, hd⟩, _, hsz⟩ := h
 obtain ⟨ao, cap, hu, _⟩ := (hq w (Below.refl _ w)).rb.spell
 obtain ⟨w1, hw1⟩ : ∃ w1, w.alloc (.cells #[.int .u8 3, .int .i64 s.a, .int .i64 s.b, .slice ao s.bs.length cap] 36) = w1 := ⟨_, rfl⟩
 have hb1 : Below w.heap.size w w1 := by rw [<- hw1]; exact alloc_below _ _
 have hbx : w1.heap[w.heap.size]? = some (.cells #[.int .u8 3, .int .i64 s.a, .int .i64 s.b, .slice ao s.bs.length cap] 36 (0, 0)) := by rw [<- hw1]; exact heap_alloc_new w _
 have hdr : Below w1.heap.size w1 w1.drew := (Below.refl _ w1).drew
 have hbd := Below.next hb1 hdr
 have hp1 := hp.below hbd
 have hd1 := hd.below hbd
 have hl1 : Below base w w1.drew := hbd.mono hsz
 have hz1 : base <= w1.drew.heap.size := Nat.le_trans hsz hbd.size
 have hbx1 : w1.drew.heap[w.heap.size]? = some (.cells #[.int .u8 3, .int .i64 s.a, .int .i64 s.b, .slice ao s.bs.length cap] 36 (0, 0)) := hbx
 have HA := hide (gDouble hp1 hz1 hs s.a)
 have HB := hide (fun W2 v2 (m2 : Mv w1.drew W2 g v v2) => dDouble21 (hd1.mv hp1 m2) (Nat.le_trans hz1 m2.kq.size) hp1.o.ok hs s.a)
 have HT := hide (fun W2 v2 n2 (m2 : Mv w1.drew W2 g v v2) W3 u3 (n3 : Ny W3 base gt u3 (dbN N s.a)) (m3 : Mv W2 W3 gt u u3) => two_step (w := w) hp1 hd1 hl1 hz1 n2 m2 n3 m3)
 have HX2 := hide (fun W2 v2 (m2 : Mv w1.drew W2 g v v2) => box_cells (box_mv hbx1 hp1 m2))
 have HX3 := hide (fun W2 v2 (m2 : Mv w1.drew W2 g v v2) W3 u3 (m3 : Mv W2 W3 gt u u3) => box_cells (box_mvy (box_mv hbx1 hp1 m2) (hd1.mv hp1 m2) m3))
 obtain ⟨x0, x1, x2, x3⟩ := box_cells hbx
 have hS0 := (box_cells hbx1).2
 obtain ⟨sc, sa, sb, su, sbs⟩ := s
 dsimp only at hc hu
 subst hc hu
 dsimp only at *
 clear hbx hbx1 hp1 hd1 hl1 hz1 hbd hdr hb1 hp hd hq
 generalize dbE N sa = er at *
 go_enter Try.func10, Try.ntmps10
 go_upto_region 11 with fail
 refine wp_region_held_drew (S := (fun V => V.cell? ⟨w.heap.size, 1, none⟩ = some (.int .i64 sa) ∧ V.cell? ⟨w.heap.size, 2, none⟩ = some (.int .i64 sb) ∧ V.cell? ⟨w.heap.size, 3, none⟩ = some (.slice ao sbs.length cap))) (by kernel_rfl) (by ((try dsimp only) <;> (first | with_reducible exact hS0 | with_reducible exact hS2 | with_reducible exact hS3))) (fun hHeld => ?_)
 refine tkY 0 ?_
 refine tkY 1 ?_
 refine tkY 2 ?_
 refine tkY 4 ?_
 refine tkY 5 ?_
 refine tkY 6 ?_
 refine rd1 3 (fun K hK => ?_)
 (try simp only [ly0, ly1, ly2, ly3, ly4, ly5, ly6, ly7])
 go_simp
 (first
  | (go_at_call 16; refine HA.out.mono ?_; rintro e w2 ⟨v2, rfl, hn2, hm2⟩; have hS2 := (HX2.out _ _ hm2).2; have HB2 := hide (HB.out _ _ hm2))
  | (go_at_call 27; refine HB2.out.mono ?_; rintro e w3 ⟨u3, rfl, hn3, hm3⟩; have hS3 := (HX3.out _ _ hm2 _ _ hm3).2; have HT3 := hide (HT.out _ _ hn2 hm2 _ _ hn3 hm3)))
 first | refine hK.out _ _ ?k5 (fun hHeld => ?_) | (go_wp2_with fail; refine hK.out _ _ ?k5 (fun hHeld => ?_))
 case k5 => ((try dsimp only) <;> (first | with_reducible exact hS0 | with_reducible exact hS2 | with_reducible exact hS3))
 clear hK K
 (try simp only [ly0, ly1, ly2, ly3, ly4, ly5, ly6, ly7])
 refine rd1 7 (fun K hK => ?_)
 (try simp only [ly0, ly1, ly2, ly3, ly4, ly5, ly6, ly7])
 go_simp
 (first
  | (go_at_call 16; refine HA.out.mono ?_; rintro e w2 ⟨v2, rfl, hn2, hm2⟩; have hS2 := (HX2.out _ _ hm2).2; have HB2 := hide (HB.out _ _ hm2))
  | (go_at_call 27; refine HB2.out.mono ?_; rintro e w3 ⟨u3, rfl, hn3, hm3⟩; have hS3 := (HX3.out _ _ hm2 _ _ hm3).2; have HT3 := hide (HT.out _ _ hn2 hm2 _ _ hn3 hm3)))
 first | refine hK.out _ _ ?k6 (fun hHeld => ?_) | (go_wp2_with fail; refine hK.out _ _ ?k6 (fun hHeld => ?_))
 case k6 => ((try dsimp only) <;> (first | with_reducible exact hS0 | with_reducible exact hS2 | with_reducible exact hS3))
 clear hK K
 (try simp only [ly0, ly1, ly2, ly3, ly4, ly5, ly6, ly7])
 refine tkY 8 ?_
 refine tkY 9 ?_
 refine wpAnyH_done (by kernel_rfl) ?_ _
 clear hS0 hS2 hS3
 go_wp2
 go_ret
 exact ⟨by simp, HT3.out⟩
theorem same_4 {w : World} {base g gt : Nat} {N : Nt} (h : TwoN w w base g gt N) (hs : N.s < 4611686018427387904) {s : Sq} (hq : ∀ W, Below base w W -> Okq21 W s) (hc : s.c = 4) :
 Calls Try.prog 10 #[.pointer (some ⟨g, 0, none⟩), .pointer (some ⟨gt, 0, none⟩), .agg #[.int .u8 s.c, .int .i64 s.a, .int .i64 s.b, s.u]] w fun e w' => e = .returned (.bool true) ∧ TwoN w w' base g gt (mvN N s.a s.b) := by
 obtain ⟨⟨v, hp⟩, ⟨u, hd⟩, _, hsz⟩ := h
 obtain ⟨ao, cap, hu, _⟩ := (hq w (Below.refl _ w)).rb.spell
 obtain ⟨w1, hw1⟩ : ∃ w1, w.alloc (.cells #[.int .u8 4, .int .i64 s.a, .int .i64 s.b, .slice ao s.bs.length cap] 36) = w1 := ⟨_, rfl⟩
 have hb1 : Below w.heap.size w w1 := by rw [<- hw1]; exact alloc_below _ _
 have hbx : w1.heap[w.heap.size]? = some (.cells #[.int .u8 4, .int .i64 s.a, .int .i64 s.b, .slice ao s.bs.length cap] 36 (0, 0)) := by rw [<- hw1]; exact heap_alloc_new w _
 have hdr : Below w1.heap.size w1 w1.drew := (Below.refl _ w1).drew
 have hbd := Below.next hb1 hdr
 have hp1 := hp.below hbd
 have hd1 := hd.below hbd
 have hl1 : Below base w w1.drew := hbd.mono hsz
 have hz1 : base <= w1.drew.heap.size := Nat.le_trans hsz hbd.size
 have hbx1 : w1.drew.heap[w.heap.size]? = some (.cells #[.int .u8 4, .int .i64 s.a, .int .i64 s.b, .slice ao s.bs.length cap] 36 (0, 0)) := hbx
 have HA := hide (gMove hp1 s.a s.b)
 have HB := hide (fun W2 v2 (m2 : Mv w1.drew W2 g v v2) => dMove21 (hd1.mv hp1 m2) (Nat.le_trans hz1 m2.kq.size) hp1.o.ok s.a s.b)
 have HT := hide (fun W2 v2 n2 (m2 : Mv w1.drew W2 g v v2) W3 u3 (n3 : Ny W3 base gt u3 (mvN N s.a s.b)) (m3 : Mv W2 W3 gt u u3) => two_step (w := w) hp1 hd1 hl1 hz1 n2 m2 n3 m3)
 have HX2 := hide (fun W2 v2 (m2 : Mv w1.drew W2 g v v2) => box_cells (box_mv hbx1 hp1 m2))
 have HX3 := hide (fun W2 v2 (m2 : Mv w1.drew W2 g v v2) W3 u3 (m3 : Mv W2 W3 gt u u3) => box_cells (box_mvy (box_mv hbx1 hp1 m2) (hd1.mv hp1 m2) m3))
 obtain ⟨x0, x1, x2, x3⟩ := box_cells hbx
 have hS0 := (box_cells hbx1).2
 obtain ⟨sc, sa, sb, su, sbs⟩ := s
 dsimp only at hc hu
 subst hc hu
 dsimp only at *
 clear hbx hbx1 hp1 hd1 hl1 hz1 hbd hdr hb1 hp hd hq
 generalize mvE N sa sb = er at *
 go_enter Try.func10, Try.ntmps10
 go_upto_region 13 with fail
 refine wp_region_held_drew (S := (fun V => V.cell? ⟨w.heap.size, 1, none⟩ = some (.int .i64 sa) ∧ V.cell? ⟨w.heap.size, 2, none⟩ = some (.int .i64 sb) ∧ V.cell? ⟨w.heap.size, 3, none⟩ = some (.slice ao sbs.length cap))) (by kernel_rfl) (by ((try dsimp only) <;> (first | with_reducible exact hS0 | with_reducible exact hS2 | with_reducible exact hS3))) (fun hHeld => ?_)
 refine tkY 0 ?_
 refine tkY 1 ?_
 refine tkY 2 ?_
 refine tkY 3 ?_
 refine tkY 4 ?_
 refine tkY 6 ?_
 refine tkY 7 ?_
 refine tkY 8 ?_
 refine tkY 9 ?_
 refine tkY 10 ?_
 refine rd1 5 (fun K hK => ?_)
 (try simp only [ly0, ly1, ly2, ly3, ly4, ly5, ly6, ly7])
 go_simp
 (go_at_call 17; refine HA.out.mono ?_; rintro e w2 ⟨v2, rfl, hn2, hm2⟩; have hS2 := (HX2.out _ _ hm2).2; have HB2 := hide (HB.out _ _ hm2))
 first | refine hK.out _ _ ?k7 (fun hHeld => ?_) | (go_wp2_with fail; refine hK.out _ _ ?k7 (fun hHeld => ?_))
 case k7 => ((try dsimp only) <;> (first | with_reducible exact hS0 | with_reducible exact hS2 | with_reducible exact hS3))
 clear hK K
 (try simp only [ly0, ly1, ly2, ly3, ly4, ly5, ly6, ly7])
 refine rd1 11 (fun K hK => ?_)
 (try simp only [ly0, ly1, ly2, ly3, ly4, ly5, ly6, ly7])
 go_simp
 (go_at_call 28; refine HB2.out.mono ?_; rintro e w3 ⟨u3, rfl, hn3, hm3⟩; have hS3 := (HX3.out _ _ hm2 _ _ hm3).2; have HT3 := hide (HT.out _ _ hn2 hm2 _ _ hn3 hm3))
 first | refine hK.out _ _ ?k8 (fun hHeld => ?_) | (go_wp2_with fail; refine hK.out _ _ ?k8 (fun hHeld => ?_))
 case k8 => ((try dsimp only) <;> (first | with_reducible exact hS0 | with_reducible exact hS2 | with_reducible exact hS3))
 clear hK K
 (try simp only [ly0, ly1, ly2, ly3, ly4, ly5, ly6, ly7])
 refine tkY 12 ?_
 refine tkY 13 ?_
 refine wpAnyH_done (by kernel_rfl) ?_ _
 clear hS0 hS2 hS3
 go_wp2
 go_ret
 exact ⟨by simp, HT3.out⟩
end Go.Proofs.Ytcglbbglapomgaa
