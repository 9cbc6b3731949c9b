import Derived.Test.YteipgnkhbcogoaaBLawBA
set_option linter.unusedVariables false
set_option linter.unusedSimpArgs false
set_option maxRecDepth 100000
set_option maxHeartbeats 4000000
namespace Go.Proofs.Yteipgnkhbcogoaa
open Go.RowKit Fld
def stp2 (D : Dsk) (s : Sq2) : Dsk := if s.c = 0 then wrN22 D (opBk s) else if s.c = 1 then tmN D s.n else if s.c = 2 then fuN D s.n else if s.c = 3 then mdN D else D
theorem Dr.mv {w w' : World} {base base' g g' : Nat} {u u' v : Value} {D E : Dsk} {es : List Be} (h : Dr w base g v D es) (hn : Hd w base' g' u E) (m : Mv w w' g' u u') : Dr w' base g v D es := by
 have key : ∀ (T : TypeId) s n x xs, (T = 43 ∨ T = 5) -> w.ownsRow base T s x n xs -> ∀ j, x.ownBlock = some j -> Bv w g' u.ownBlock j := fun T s n x xs hT ho j hj => by
  refine ⟨(ho.lt j hj).2, fun e => ?_, fun e => ?_⟩
  · subst e
    exact own_notO ho hn.dsk (by rcases hT with rfl | rfl <;> decide) hj
  · exact own_kindO ho hn.row (by rcases hT with rfl | rfl <;> decide) j hj e
 refine h.kept m.kq ⟨h.lt, fun e => ?_, own_notO hn.row h.dsk (by decide)⟩ (key _ _ _ _ _ (.inl rfl) h.row) (fun e he => key _ _ _ _ _ (.inr rfl) (h.each e he))
 subst e
 have := h.dsk.symm.trans hn.dsk
 simp at this
theorem Hd.mvd {w w' : World} {base base' g g' : Nat} {u u' v : Value} {D E : Dsk} {es : List Be} (h : Hd w base g v D) (hn : Dr w base' g' u E es) (m : Mv w w' g' u u') : Hd w' base g v D := by
 refine h.kept m.kq ⟨h.lt, fun e => ?_, own_notO hn.row h.dsk (by decide)⟩ (fun j hj => ⟨(h.own_lt j hj).2, fun e => ?_, fun e => ?_⟩)
 · subst e
   have := hn.dsk.symm.trans h.dsk
   simp at this
 · subst e; exact own_notO h.row hn.dsk (by decide) hj
 · exact own_kindO h.row hn.row (by decide) j hj e
theorem Dy.mv {w w' : World} {base base' g g' : Nat} {u u' v : Value} {D E : Dsk} (h : Dy w base g v D) (hn : Hd w base' g' u E) (m : Mv w w' g' u u') : Dy w' base g v D := by
 obtain ⟨es, h⟩ := h
 exact ⟨es, h.mv hn m⟩
theorem Hd.mvy {w w' : World} {base base' g g' : Nat} {u u' v : Value} {D E : Dsk} (h : Hd w base g v D) (hn : Dy w base' g' u E) (m : Mv w w' g' u u') : Hd w' base g v D := by
 obtain ⟨es, hn⟩ := hn
 exact h.mvd hn m
structure TwoD (w W : World) (base g gt : Nat) (D : Dsk) : Prop where
 p : ∃ v, Hd W base g v D
 d : ∃ v, Dy W base gt v D
 low : Below base w W
 sz : base <= W.heap.size
theorem TwoD.below {w W W' : World} {base g gt : Nat} {D : Dsk} (h : TwoD w W base g gt D) (hb : Below W.heap.size W W') : TwoD w W' base g gt D := by
 obtain ⟨v, h1⟩ := h.p
 obtain ⟨u, h2⟩ := h.d
 exact ⟨⟨v, h1.below hb⟩, ⟨u, h2.below hb⟩, h.low.trans (hb.mono h.sz), Nat.le_trans h.sz hb.size⟩
theorem two_step2 {w W W2 W3 : World} {base g gt : Nat} {v v2 u u3 : Value} {D E : Dsk} (h1 : Hd W base g v D) (h2 : Dy W base gt u D) (hl : Below base w W) (hs : base <= W.heap.size) (n2 : Hd W2 base g v2 E) (m2 : Mv W W2 g v v2) (n3 : Dy W3 base gt u3 E) (m3 : Mv W2 W3 gt u u3) : TwoD w W3 base g gt E := by
 have hy2 := h2.mv h1 m2
 have s2 := m2.kq.size
 have s3 := m3.kq.size
 exact ⟨⟨v2, n2.mvy hy2 m3⟩, ⟨u3, n3⟩, (hl.trans (h1.mvb m2 hs)).trans (hy2.mvb m3 (by omega)), by omega⟩
theorem box_mv2 {W W2 : World} {b g base : Nat} {v v2 : Value} {D : Dsk} {cs : Array Value} (hb : W.heap[b]? = some (.cells cs 32 (0, 0))) (h : Hd W base g v D) (m : Mv W W2 g v v2) : W2.heap[b]? = some (.cells cs 32 (0, 0)) := by
 refine (m.block (Array.getElem?_eq_some_iff.1 hb).1 (fun e => ?_) (own_notO h.row hb (by decide))).trans hb
 subst e
 have := h.dsk.symm.trans hb
 simp at this
theorem box_mvy2 {W W2 : World} {b g base : Nat} {v v2 : Value} {D : Dsk} {cs : Array Value} (hb : W.heap[b]? = some (.cells cs 32 (0, 0))) (h : Dy W base g v D) (m : Mv W W2 g v v2) : W2.heap[b]? = some (.cells cs 32 (0, 0)) := by
 obtain ⟨es, h⟩ := h
 refine (m.block (Array.getElem?_eq_some_iff.1 hb).1 (fun e => ?_) (own_notO h.row hb (by decide))).trans hb
 subst e
 have := h.dsk.symm.trans hb
 simp at this
theorem box_cells2 {W : World} {b : Nat} {x0 x1 x2 x3 : Value} (h : W.heap[b]? = some (.cells #[x0, x1, x2, x3] 32 (0, 0))) : W.cell? ⟨b, 0, none⟩ = some x0 ∧ W.cell? ⟨b, 1, none⟩ = some x1 ∧ W.cell? ⟨b, 2, none⟩ = some x2 ∧ W.cell? ⟨b, 3, none⟩ = some x3 := by
 refine ⟨?_, ?_, ?_, ?_⟩ <;> simp [World.cell?, h]
theorem dTrimY {w : World} {base g : Nat} {v : Value} {D : Dsk} (h : Dy w base g v D) (hb : base <= w.heap.size) (hn : D.n < 4611686018427387904) (i : Int) :
 Calls Try.prog 25 #[.pointer (some ⟨g, 0, none⟩), .int .i64 i] w fun e w' => ∃ v', e = .returned (.int .i64 (tmE D i)) ∧ Dy w' base g v' (tmN D i) ∧ Mv w w' g v v' := by
 obtain ⟨es, h⟩ := h
 exact dTrim22 h hb hn i
theorem dFuseY {w : World} {base g : Nat} {v : Value} {D : Dsk} (h : Dy w base g v D) (i : Int) (hi : i <= 9223372036854775807) :
 Calls Try.prog 26 #[.pointer (some ⟨g, 0, none⟩), .int .i64 i] w fun e w' => ∃ v', e = .returned (.int .i64 (fuE i)) ∧ Dy w' base g v' (fuN D i) ∧ Mv w w' g v v' := by
 obtain ⟨es, h⟩ := h
 exact (dFuse h i hi).mono fun e w' ⟨e1, e2, e3⟩ => ⟨v, e1, ⟨es, e2⟩, e3⟩
theorem dWriteY {w : World} {base g : Nat} {v : Value} {D : Dsk} (h : Dy w base g v D) (hb : base <= w.heap.size) (hn : D.n < 4611686018427387904) {u : Value} {bs : List Int} (hu : Rb w u bs) :
 Calls Try.prog 24 #[.pointer (some ⟨g, 0, none⟩), u] w fun e w' => ∃ v', e = .returned (.int .i64 (wrE22 D bs)) ∧ Dy w' base g v' (wrN22 D bs) ∧ Mv w w' g v v' := by
 obtain ⟨es, h⟩ := h
 exact dWrite22 h hb hn hu
theorem same2_1 {w : World} {base g gt : Nat} {D : Dsk} (h : TwoD w w base g gt D) (hs : D.n < 4611686018427387904) {s : Sq2} (hq : Okq22 s) (hc : s.c = 1) :
 Calls Try.prog 9 #[.pointer (some ⟨g, 0, none⟩), .pointer (some ⟨gt, 0, none⟩), .agg #[.int .u8 s.c, .int .i64 s.n, .int .u8 s.m, .bool s.o]] w fun e w' => e = .returned (.bool true) ∧ TwoD w w' base g gt (tmN D s.n) := by
 obtain ⟨⟨v, hp⟩, ⟨u, hd⟩, _, hsz⟩ := h
 obtain ⟨w1, hw1⟩ : ∃ w1, w.alloc (.cells #[.int .u8 1, .int .i64 s.n, .int .u8 s.m, .bool s.o] 32) = w1 := ⟨_, rfl⟩
 have hb1 : Below w.heap.size w w1 := by rw [<- hw1]; exact alloc_below _ _
 have hbx : w1.heap[w.heap.size]? = some (.cells #[.int .u8 1, .int .i64 s.n, .int .u8 s.m, .bool s.o] 32 (0, 0)) := by rw [<- hw1]; exact heap_alloc_new w _
 have hdr : Below w1.heap.size w1 w1.drew := (Below.refl _ w1).drew
 have hbd := Below.next hb1 hdr
 have hp1 := hp.below hbd
 have hd1 := hd.below hbd
 have hl1 : Below base w w1.drew := hbd.mono hsz
 have hz1 : base <= w1.drew.heap.size := Nat.le_trans hsz hbd.size
 have hbx1 : w1.drew.heap[w.heap.size]? = some (.cells #[.int .u8 1, .int .i64 s.n, .int .u8 s.m, .bool s.o] 32 (0, 0)) := hbx
 have HA := hide (gTrim22 hp1 hz1 hs s.n)
 have HB := hide (fun W2 v2 (m2 : Mv w1.drew W2 g v v2) => (dTrimY (hd1.mv hp1 m2) (Nat.le_trans hz1 m2.kq.size) hs s.n))
 have HT := hide (fun W2 v2 n2 (m2 : Mv w1.drew W2 g v v2) W3 u3 (n3 : Dy W3 base gt u3 (tmN D s.n)) (m3 : Mv W2 W3 gt u u3) => two_step2 (w := w) hp1 hd1 hl1 hz1 n2 m2 n3 m3)
 have HX2 := hide (fun W2 v2 (m2 : Mv w1.drew W2 g v v2) => box_cells2 (box_mv2 hbx1 hp1 m2))
 have HX3 := hide (fun W2 v2 (m2 : Mv w1.drew W2 g v v2) W3 u3 (m3 : Mv W2 W3 gt u u3) => box_cells2 (box_mvy2 (box_mv2 hbx1 hp1 m2) (hd1.mv hp1 m2) m3))
 obtain ⟨x0, x1, x2, x3⟩ := box_cells2 hbx
 have hS0 := (box_cells2 hbx1).2.1
 obtain ⟨sc, sn, sm, so⟩ := s
 dsimp only at hc
 subst hc
 dsimp only at *
 clear hbx hbx1 hp1 hd1 hl1 hz1 hbd hdr hb1 hp hd hq
 generalize tmE D sn = er at *
 go_enter Try.func9, Try.ntmps9
 go_upto_region 5 with fail
 refine wp_region_held_drew (S := (fun V => V.cell? ⟨w.heap.size, 1, none⟩ = some (.int .i64 sn))) (by kernel_rfl) (by ((try dsimp only) <;> (first | with_reducible exact hS0 | with_reducible exact hS2 | with_reducible exact hS3))) (fun hHeld => ?_)
 refine tkY 0 ?_
 refine tkY 1 ?_
 refine tkY 2 ?_
 refine tkY 4 ?_
 refine tkY 5 ?_
 refine tkY 6 ?_
 refine rd1 3 (fun K hK => ?_)
 (try simp only [ly0, ly1, ly2, ly3, ly4, ly5, ly6, ly7])
 go_simp
 (first
  | (go_at_call 14; refine HA.out.mono ?_; rintro e w2 ⟨v2, rfl, hn2, hm2⟩; have hS2 := (HX2.out _ _ hm2).2.1; have HB2 := hide (HB.out _ _ hm2))
  | (go_at_call 25; refine HB2.out.mono ?_; rintro e w3 ⟨u3, rfl, hn3, hm3⟩; have hS3 := (HX3.out _ _ hm2 _ _ hm3).2.1; have HT3 := hide (HT.out _ _ hn2 hm2 _ _ hn3 hm3)))
 first | refine hK.out _ _ ?k3 (fun hHeld => ?_) | (go_wp2_with fail; refine hK.out _ _ ?k3 (fun hHeld => ?_))
 case k3 => ((try dsimp only) <;> (first | with_reducible exact hS0 | with_reducible exact hS2 | with_reducible exact hS3))
 clear hK K
 (try simp only [ly0, ly1, ly2, ly3, ly4, ly5, ly6, ly7])
 refine rd1 7 (fun K hK => ?_)
 (try simp only [ly0, ly1, ly2, ly3, ly4, ly5, ly6, ly7])
 go_simp
 (first
  | (go_at_call 14; refine HA.out.mono ?_; rintro e w2 ⟨v2, rfl, hn2, hm2⟩; have hS2 := (HX2.out _ _ hm2).2.1; have HB2 := hide (HB.out _ _ hm2))
  | (go_at_call 25; refine HB2.out.mono ?_; rintro e w3 ⟨u3, rfl, hn3, hm3⟩; have hS3 := (HX3.out _ _ hm2 _ _ hm3).2.1; have HT3 := hide (HT.out _ _ hn2 hm2 _ _ hn3 hm3)))
 first | refine hK.out _ _ ?k4 (fun hHeld => ?_) | (go_wp2_with fail; refine hK.out _ _ ?k4 (fun hHeld => ?_))
 case k4 => ((try dsimp only) <;> (first | with_reducible exact hS0 | with_reducible exact hS2 | with_reducible exact hS3))
 clear hK K
 (try simp only [ly0, ly1, ly2, ly3, ly4, ly5, ly6, ly7])
 refine tkY 8 ?_
 refine tkY 9 ?_
 refine wpAnyH_done (by kernel_rfl) ?_ _
 clear hS0 hS2 hS3
 go_wp2
 go_ret
 exact ⟨by simp, HT3.out⟩
theorem same2_2 {w : World} {base g gt : Nat} {D : Dsk} (h : TwoD w w base g gt D) (hs : D.n < 4611686018427387904) {s : Sq2} (hq : Okq22 s) (hc : s.c = 2) :
 Calls Try.prog 9 #[.pointer (some ⟨g, 0, none⟩), .pointer (some ⟨gt, 0, none⟩), .agg #[.int .u8 s.c, .int .i64 s.n, .int .u8 s.m, .bool s.o]] w fun e w' => e = .returned (.bool true) ∧ TwoD w w' base g gt (fuN D s.n) := by
 obtain ⟨⟨v, hp⟩, ⟨u, hd⟩, _, hsz⟩ := h
 obtain ⟨w1, hw1⟩ : ∃ w1, w.alloc (.cells #[.int .u8 2, .int .i64 s.n, .int .u8 s.m, .bool s.o] 32) = w1 := ⟨_, rfl⟩
 have hb1 : Below w.heap.size w w1 := by rw [<- hw1]; exact alloc_below _ _
 have hbx : w1.heap[w.heap.size]? = some (.cells #[.int .u8 2, .int .i64 s.n, .int .u8 s.m, .bool s.o] 32 (0, 0)) := by rw [<- hw1]; exact heap_alloc_new w _
 have hdr : Below w1.heap.size w1 w1.drew := (Below.refl _ w1).drew
 have hbd := Below.next hb1 hdr
 have hp1 := hp.below hbd
 have hd1 := hd.below hbd
 have hl1 : Below base w w1.drew := hbd.mono hsz
 have hz1 : base <= w1.drew.heap.size := Nat.le_trans hsz hbd.size
 have hbx1 : w1.drew.heap[w.heap.size]? = some (.cells #[.int .u8 2, .int .i64 s.n, .int .u8 s.m, .bool s.o] 32 (0, 0)) := hbx
 have HA := hide (gFuse hp1 s.n hq.n.2)
 have HB := hide (fun W2 v2 (m2 : Mv w1.drew W2 g v v2) => (dFuseY (hd1.mv hp1 m2) s.n hq.n.2))
 have HT := hide (fun W2 v2 n2 (m2 : Mv w1.drew W2 g v v2) W3 u3 (n3 : Dy W3 base gt u3 (fuN D s.n)) (m3 : Mv W2 W3 gt u u3) => two_step2 (w := w) hp1 hd1 hl1 hz1 n2 m2 n3 m3)
 have HX2 := hide (fun W2 v2 (m2 : Mv w1.drew W2 g v v2) => box_cells2 (box_mv2 hbx1 hp1 m2))
 have HX3 := hide (fun W2 v2 (m2 : Mv w1.drew W2 g v v2) W3 u3 (m3 : Mv W2 W3 gt u u3) => box_cells2 (box_mvy2 (box_mv2 hbx1 hp1 m2) (hd1.mv hp1 m2) m3))
 obtain ⟨x0, x1, x2, x3⟩ := box_cells2 hbx
 have hS0 := (box_cells2 hbx1).2.1
 obtain ⟨sc, sn, sm, so⟩ := s
 dsimp only at hc
 subst hc
 dsimp only at *
 clear hbx hbx1 hp1 hd1 hl1 hz1 hbd hdr hb1 hp hd hq
 generalize fuE sn = er at *
 go_enter Try.func9, Try.ntmps9
 go_upto_region 7 with fail
 refine wp_region_held_drew (S := (fun V => V.cell? ⟨w.heap.size, 1, none⟩ = some (.int .i64 sn))) (by kernel_rfl) (by ((try dsimp only) <;> (first | with_reducible exact hS0 | with_reducible exact hS2 | with_reducible exact hS3))) (fun hHeld => ?_)
 refine tkY 0 ?_
 refine tkY 1 ?_
 refine tkY 2 ?_
 refine tkY 4 ?_
 refine tkY 5 ?_
 refine tkY 6 ?_
 refine rd1 3 (fun K hK => ?_)
 (try simp only [ly0, ly1, ly2, ly3, ly4, ly5, ly6, ly7])
 go_simp
 (first
  | (go_at_call 15; refine HA.out.mono ?_; rintro e w2 ⟨rfl, hn2, hm2⟩; have hS2 := (HX2.out _ _ hm2).2.1; have HB2 := hide (HB.out _ _ hm2))
  | (go_at_call 26; refine HB2.out.mono ?_; rintro e w3 ⟨u3, rfl, hn3, hm3⟩; have hS3 := (HX3.out _ _ hm2 _ _ hm3).2.1; have HT3 := hide (HT.out _ _ hn2 hm2 _ _ hn3 hm3)))
 first | refine hK.out _ _ ?k5 (fun hHeld => ?_) | (go_wp2_with fail; refine hK.out _ _ ?k5 (fun hHeld => ?_))
 case k5 => ((try dsimp only) <;> (first | with_reducible exact hS0 | with_reducible exact hS2 | with_reducible exact hS3))
 clear hK K
 (try simp only [ly0, ly1, ly2, ly3, ly4, ly5, ly6, ly7])
 refine rd1 7 (fun K hK => ?_)
 (try simp only [ly0, ly1, ly2, ly3, ly4, ly5, ly6, ly7])
 go_simp
 (first
  | (go_at_call 15; refine HA.out.mono ?_; rintro e w2 ⟨rfl, hn2, hm2⟩; have hS2 := (HX2.out _ _ hm2).2.1; have HB2 := hide (HB.out _ _ hm2))
  | (go_at_call 26; refine HB2.out.mono ?_; rintro e w3 ⟨u3, rfl, hn3, hm3⟩; have hS3 := (HX3.out _ _ hm2 _ _ hm3).2.1; have HT3 := hide (HT.out _ _ hn2 hm2 _ _ hn3 hm3)))
 first | refine hK.out _ _ ?k6 (fun hHeld => ?_) | (go_wp2_with fail; refine hK.out _ _ ?k6 (fun hHeld => ?_))
 case k6 => ((try dsimp only) <;> (first | with_reducible exact hS0 | with_reducible exact hS2 | with_reducible exact hS3))
 clear hK K
 (try simp only [ly0, ly1, ly2, ly3, ly4, ly5, ly6, ly7])
 refine tkY 8 ?_
 refine tkY 9 ?_
 refine wpAnyH_done (by kernel_rfl) ?_ _
 clear hS0 hS2 hS3
 go_wp2
 go_ret
 exact ⟨by simp, HT3.out⟩
end Go.Proofs.Yteipgnkhbcogoaa
