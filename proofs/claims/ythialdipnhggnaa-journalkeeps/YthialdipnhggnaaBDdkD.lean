import Derived.Test.YthialdipnhggnaaBDdkC
set_option linter.unusedVariables false
set_option linter.unusedSimpArgs false
set_option maxRecDepth 100000
set_option maxHeartbeats 4000000
namespace Go.Proofs.Ythialdipnhggnaa
open Go.RowKit Fld
theorem Hd.mvb {w w' : World} {base g : Nat} {v v' : Value} {D : Dsk} (h : Hd w base g v D) (m : Mv w w' g v v') (hb : base <= w.heap.size) : Below base w w' := m.below hb h.low (fun j hj => (h.own_lt j hj).1)
theorem Dy.mvb {w w' : World} {base g : Nat} {v v' : Value} {D : Dsk} (h : Dy w base g v D) (m : Mv w w' g v v') (hb : base <= w.heap.size) : Below base w w' := by
 obtain ⟨es, h⟩ := h
 exact m.below hb h.low (fun j hj => (h.row.lt j hj).1)
theorem Dr.mv {w w' : World} {base base' g g' : Nat} {u u' v : Value} {D E : Dsk} {es : List Be} (h : Dr w base g v D es) (hn : Hd w base' g' u E) (m : Mv w w' g' u u') : Dr w' base g v D es := by
 have key : ∀ (T : TypeId) s n x xs, (T = 23 ∨ T = 5) -> w.ownsRow base T s x n xs -> ∀ j, x.ownBlock = some j -> Bv w g' u.ownBlock j := fun T s n x xs hT ho j hj => by
  refine ⟨(ho.lt j hj).2, fun e => ?_, fun e => ?_⟩
  · subst e
    exact own_notO ho hn.dsk (by rcases hT with rfl | rfl <;> decide) hj
  · exact own_kindO ho hn.row (by rcases hT with rfl | rfl <;> decide) j hj e
 refine h.kept m.kq ⟨h.lt, fun e => ?_, own_notO hn.row h.dsk (by decide)⟩ (key _ _ _ _ _ (.inl rfl) h.row) (fun e he => key _ _ _ _ _ (.inr rfl) (h.each e he))
 subst e
 have := h.dsk.symm.trans hn.dsk
 simp at this
theorem Hd.mvd {w w' : World} {base base' g g' : Nat} {u u' v : Value} {D E : Dsk} {es : List Be} (h : Hd w base g v D) (hn : Dr w base' g' u E es) (m : Mv w w' g' u u') : Hd w' base g v D := by
 refine h.kept m.kq ⟨h.lt, fun e => ?_, own_notO hn.row h.dsk (by decide)⟩ (fun j hj => ⟨(h.own_lt j hj).2, fun e => ?_, fun e => ?_⟩)
 · subst e
   have := hn.dsk.symm.trans h.dsk
   simp at this
 · subst e; exact own_notO h.row hn.dsk (by decide) hj
 · exact own_kindO h.row hn.row (by decide) j hj e
theorem Dy.mv {w w' : World} {base base' g g' : Nat} {u u' v : Value} {D E : Dsk} (h : Dy w base g v D) (hn : Hd w base' g' u E) (m : Mv w w' g' u u') : Dy w' base g v D := by
 obtain ⟨es, h⟩ := h
 exact ⟨es, h.mv hn m⟩
theorem Hd.mvy {w w' : World} {base base' g g' : Nat} {u u' v : Value} {D E : Dsk} (h : Hd w base g v D) (hn : Dy w base' g' u E) (m : Mv w w' g' u u') : Hd w' base g v D := by
 obtain ⟨es, hn⟩ := hn
 exact h.mvd hn m
structure TwoD (w W : World) (base g gt : Nat) (D : Dsk) : Prop where
 p : ∃ v, Hd W base g v D
 d : ∃ v, Dy W base gt v D
 low : Below base w W
 sz : base <= W.heap.size
theorem TwoD.below {w W W' : World} {base g gt : Nat} {D : Dsk} (h : TwoD w W base g gt D) (hb : Below W.heap.size W W') : TwoD w W' base g gt D := by
 obtain ⟨v, h1⟩ := h.p
 obtain ⟨u, h2⟩ := h.d
 exact ⟨⟨v, h1.below hb⟩, ⟨u, h2.below hb⟩, h.low.trans (hb.mono h.sz), Nat.le_trans h.sz hb.size⟩
theorem two_step2 {w W W2 W3 : World} {base g gt : Nat} {v v2 u u3 : Value} {D E : Dsk} (h1 : Hd W base g v D) (h2 : Dy W base gt u D) (hl : Below base w W) (hs : base <= W.heap.size) (n2 : Hd W2 base g v2 E) (m2 : Mv W W2 g v v2) (n3 : Dy W3 base gt u3 E) (m3 : Mv W2 W3 gt u u3) : TwoD w W3 base g gt E := by
 have hy2 := h2.mv h1 m2
 have s2 := m2.kq.size
 have s3 := m3.kq.size
 exact ⟨⟨v2, n2.mvy hy2 m3⟩, ⟨u3, n3⟩, (hl.trans (h1.mvb m2 hs)).trans (hy2.mvb m3 (by omega)), by omega⟩
theorem two_newD {w w1 w2 : World} (h1 : Hd w1 w.heap.size w.heap.size (.slice none 0 0) dk0) (b1 : Below w.heap.size w w1) (b2 : Below w1.heap.size w1 w2) : TwoD w (w2.alloc (.cells #[.slice none 0 0, .int .i64 (-1), .bool false, .int .i64 0] 35)) w.heap.size w.heap.size w2.heap.size dk0 := by
 have b3 := alloc_below w2 (.cells #[.slice none 0 0, .int .i64 (-1), .bool false, .int .i64 0] 35)
 have z1 := b1.size
 have z2 := b2.size
 have z3 := b3.size
 exact ⟨⟨_, (h1.below b2).below b3⟩, ⟨_, [], dr_new (heap_alloc_new w2 _) (by omega)⟩, Below.next (Below.next b1 b2) b3, by omega⟩
theorem dTrimY {w : World} {base g : Nat} {v : Value} {D : Dsk} (h : Dy w base g v D) (hb : base <= w.heap.size) (hn : D.n < 4611686018427387904) (i : Int) :
 Calls Try.prog 36 #[.pointer (some ⟨g, 0, none⟩), .int .i64 i] w fun e w' => ∃ v', e = .returned (.int .i64 (tmE D i)) ∧ Dy w' base g v' (tmN D i) ∧ Mv w w' g v v' := by
 obtain ⟨es, h⟩ := h
 exact dTrim22 h hb hn i
theorem dFuseY {w : World} {base g : Nat} {v : Value} {D : Dsk} (h : Dy w base g v D) (i : Int) (hi : i <= 9223372036854775807) :
 Calls Try.prog 20 #[.pointer (some ⟨g, 0, none⟩), .int .i64 i] w fun e w' => ∃ v', e = .returned (.int .i64 (fuE i)) ∧ Dy w' base g v' (fuN D i) ∧ Mv w w' g v v' := by
 obtain ⟨es, h⟩ := h
 exact (dFuse h i hi).mono fun e w' ⟨e1, e2, e3⟩ => ⟨v, e1, ⟨es, e2⟩, e3⟩
theorem dWriteY {w : World} {base g : Nat} {v : Value} {D : Dsk} (h : Dy w base g v D) (hb : base <= w.heap.size) (hn : D.n < 4611686018427387904) {u : Value} {bs : List Int} (hu : Rb w u bs) :
 Calls Try.prog 25 #[.pointer (some ⟨g, 0, none⟩), u] w fun e w' => ∃ v', e = .returned (.int .i64 (wrE22 D bs)) ∧ Dy w' base g v' (wrN22 D bs) ∧ Mv w w' g v v' := by
 obtain ⟨es, h⟩ := h
 exact dWrite22 h hb hn hu
end Go.Proofs.Ythialdipnhggnaa
