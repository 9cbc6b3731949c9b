/- Texts laid together: SlxM, SlxN, SlxO. -/
import Derived.Test.YtjkialmhajbcfaaDoorBunY
import Derived.Test.YtjkialmhajbcfaaDoorBSlxD
namespace Go.Proofs.YtjkialmhajbcfaaDoor
open Go.RowKit Fld Slp
set_option linter.unusedVariables false
set_option linter.unusedSimpArgs false

/-- Steps appended to a list of the call's own, as many as there are. -/
theorem appOw (W : World) (base : Nat) (u : Value) (A B : List O4) (vb : Value) (hO : W.ownsRow base 47 4 u A.length (A.flatMap opw)) (hB : Lm opw 4 W vb B) (hl : (A.length + B.length) * 32 ≤ 140737488355328) (hb : base ≤ W.heap.size) :
    ∃ v' W', (Builtin.append_ #[22, 22] 22 #[u, vb]).run Tryd.prog W = .ok v' W' ∧ W'.ownsRow base 47 4 v' (A.length + B.length) ((A ++ B).flatMap opw) ∧ Below base W W' ∧ W.grownBy W' u.ownBlock := by
  obtain ⟨i0, hi0, hz0, hz1, hz2⟩ := info_parts op_info
  obtain ⟨ao, cap, rfl, h1, h2⟩ := hB
  cases ao with
  | some ad =>
    obtain ⟨v', W', hr, ho, hg, _⟩ := run_append_own (P := Tryd.prog) (w := W) base 22 22 47 i0 (.agg #[.int .u8 0, .int .i64 0, .int .i64 0, .int .u64 0]) 4 32 Tryd.underlying22 hi0 hz0 hz1 hz2 rfl (by decide) u A.length (A.flatMap opw) hO ad B.length cap (B.flatMap opw) (flat_len opw 4 opw_len B) (Lm.news opw_len (by decide) ⟨some ad, cap, rfl, h1, h2⟩) (fun x hx => by
      obtain ⟨o, _, ho⟩ := List.mem_flatMap.1 hx
      simp [opw] at ho
      rcases ho with rfl | rfl | rfl | rfl <;> rfl) (by unfold maxLen; omega) (by omega) hb
    refine ⟨v', W', hr, ?_, (Below.refl base W).grown hg hb (fun k hk => own_base hO k hk), hg⟩
    rw [List.flatMap_append]; exact ho
  | none =>
    have hB0 : B = [] := by
      cases B with
      | nil => rfl
      | cons o B => obtain ⟨b, off, e, _⟩ := h2 (by simp); cases e
    have hc0 := h1.2.2 rfl
    subst hB0 hc0
    refine ⟨u, W, run_append_owned_none (P := Tryd.prog) W base 22 22 47 i0 4 Tryd.underlying22 hi0 u A.length (A.flatMap opw) hO, by rw [List.append_nil]; exact hO, Below.refl _ _, ⟨rfl, rfl, rfl, Nat.le_refl _, fun _ _ _ => rfl⟩⟩
theorem res_c {P : Program} {fn : Func} {tmps : Array Value} {w : World} {a : Nat} {t : TypeId} {ad : Addr} {v : Value} (hr : fn.results = #[.cell a t]) (ha : tmps.getD a undef = .pointer (some ad)) (hl : (loadVar t ad).run P w = .ok v w) :
    (results fn tmps).run P w = .ok v w := by
  have ha2 : tmps[a]?.getD undef = .pointer (some ad) := by rw [← ha]; simp
  simp [results, hr, ha2, asAddr, hl]
/-- How far a copy has come. -/
structure Cq (w W : World) (p : Pr) (vo vu : Value) : Prop where
  bp : W.heap[w.heap.size]? = some (.cells #[.int .i64 p.inp, vo, vu] 25 (0, 0))
  bz : W.heap[w.heap.size + 1]? = some (.cells #[.int .i64 0, .slice none 0 0, .slice none 0 0] 25 (0, 0))
  b : Below w.heap.size w W
theorem Cq.ops {w W : World} {p : Pr} {vo vu : Value} (h : Cq w W p vo vu) (ho : Lm opw 4 w vo p.ops) (h1 : p.ops.length * 32 ≤ 140737488351232) :
    ∃ (ao : Option Addr) (co : Nat) (W1 : World), (Builtin.append_ #[22, 22] 22 #[.slice (some ⟨W.heap.size, 0, none⟩) 0 0, vo]).run Tryd.prog (W.alloc (.cells #[] 47)) = .ok (.slice ao p.ops.length co) W1 ∧ (W.alloc (.cells #[] 47)).cell? ⟨w.heap.size, 1, none⟩ = some vo ∧ W1.cell? ⟨w.heap.size, 1, none⟩ = some vo ∧ W1.frozen? ⟨w.heap.size, 1, none⟩ = false ∧
      Hid (Cq w (W1.setCell ⟨w.heap.size, 1, none⟩ (.slice ao p.ops.length co)) p (.slice ao p.ops.length co) vu) ∧ Hid ((W1.setCell ⟨w.heap.size, 1, none⟩ (.slice ao p.ops.length co)).ownsRow (w.heap.size + 2) 47 4 (.slice ao p.ops.length co) p.ops.length (p.ops.flatMap opw)) := by
  have z0 := (Array.getElem?_eq_some_iff.1 h.bz).1
  have hA := alloc_below W (.cells #[] 47)
  have hBA := Below.next h.b hA
  have a1 := (hA.block _ (Array.getElem?_eq_some_iff.1 h.bp).1).trans h.bp
  have a2 := (hA.block _ z0).trans h.bz
  obtain ⟨v1, W1, hr1, ho1, hb1, hg1⟩ := appOw (W.alloc (.cells #[] 47)) W.heap.size _ [] p.ops vo (own_zero W 47 4 W.heap.size (Nat.le_refl _)) (ho.below hBA) (by simp; omega) hA.size
  simp only [List.length_nil, Nat.zero_add, List.nil_append] at ho1
  obtain ⟨ao, co, rfl⟩ := own_slice ho1
  have b1 := (hb1.block _ (show w.heap.size < W.heap.size by omega)).trans a1
  have b2 := (hb1.block _ z0).trans a2
  have hB1 : Below w.heap.size w W1 := hBA.trans (hb1.mono (by omega))
  have hs1 := set1_grown W1 w.heap.size 1 (.slice ao p.ops.length co)
  exact ⟨ao, co, W1, hr1, (cell3 a1).2.1, (cell3 b1).2.1, Lib.frozen_of_heap b1 1, ⟨set_blk b1 1 (.slice ao p.ops.length co), (hs1.block (w.heap.size + 1) (Array.getElem?_eq_some_iff.1 b2).1 (fun e => by have := Option.some.inj e; omega)).trans b2, hB1.grown hs1 hB1.size (fun k e => by cases e; exact Nat.le_refl _)⟩, own_mono (own_kept ho1 hs1 (fun g hg e => own_not ho1 b1 (by decide) (hg.trans e.symm))) (by omega)⟩
theorem Cq.outs {w W : World} {p : Pr} {vo vu : Value} (h : Cq w W p vo vu) (hr : W.ownsRow (w.heap.size + 2) 47 4 vo p.ops.length (p.ops.flatMap opw)) (hu : Lm iw 1 w vu p.outs) (h1 : p.outs.length * 8 ≤ 140737488351232) :
    ∃ (au : Option Addr) (cu : Nat) (W1 : World), (Builtin.append_ #[23, 23] 23 #[.slice (some ⟨W.heap.size, 0, none⟩) 0 0, vu]).run Tryd.prog (W.alloc (.cells #[] 3)) = .ok (.slice au p.outs.length cu) W1 ∧ (W.alloc (.cells #[] 3)).cell? ⟨w.heap.size, 2, none⟩ = some vu ∧ W1.cell? ⟨w.heap.size, 2, none⟩ = some vu ∧ W1.frozen? ⟨w.heap.size, 2, none⟩ = false ∧
      Hid (Cq w (W1.setCell ⟨w.heap.size, 2, none⟩ (.slice au p.outs.length cu)) p vo (.slice au p.outs.length cu)) ∧ Hid ((W1.setCell ⟨w.heap.size, 2, none⟩ (.slice au p.outs.length cu)).ownsRow (w.heap.size + 2) 47 4 vo p.ops.length (p.ops.flatMap opw)) ∧ Hid ((W1.setCell ⟨w.heap.size, 2, none⟩ (.slice au p.outs.length cu)).ownsRow (w.heap.size + 2) 3 1 (.slice au p.outs.length cu) p.outs.length (p.outs.flatMap iw)) := by
  have z0 := (Array.getElem?_eq_some_iff.1 h.bz).1
  have hA := alloc_below W (.cells #[] 3)
  have hBA := Below.next h.b hA
  have a1 := (hA.block _ (Array.getElem?_eq_some_iff.1 h.bp).1).trans h.bp
  have a2 := (hA.block _ z0).trans h.bz
  obtain ⟨v1, W1, hr1, ho1, hb1, hg1, _⟩ := appI (W.alloc (.cells #[] 3)) W.heap.size _ [] p.outs vu (own_zero W 3 1 W.heap.size (Nat.le_refl _)) (hu.below hBA) (by simp; omega) hA.size
  simp only [List.length_nil, Nat.zero_add, List.nil_append] at ho1
  obtain ⟨au, cu, rfl⟩ := own_slice ho1
  have b1 := (hb1.block _ (show w.heap.size < W.heap.size by omega)).trans a1
  have b2 := (hb1.block _ z0).trans a2
  have hAB := hA.trans hb1
  have hB1 : Below w.heap.size w W1 := Below.next h.b hAB
  have hr2 := own_kept hr (below_own hAB) (fun g _ => by simp)
  have hs1 := set1_grown W1 w.heap.size 2 (.slice au p.outs.length cu)
  exact ⟨au, cu, W1, hr1, (cell3 a1).2.2, (cell3 b1).2.2, Lib.frozen_of_heap b1 2, ⟨set_blk b1 2 (.slice au p.outs.length cu), (hs1.block (w.heap.size + 1) (Array.getElem?_eq_some_iff.1 b2).1 (fun e => by have := Option.some.inj e; omega)).trans b2, hB1.grown hs1 hB1.size (fun k e => by cases e; exact Nat.le_refl _)⟩, own_kept hr2 hs1 (fun g hg e => own_not hr2 b1 (by decide) (hg.trans e.symm)), own_mono (own_kept ho1 hs1 (fun g hg e => own_not ho1 b1 (by decide) (hg.trans e.symm))) (by omega)⟩

set_option maxRecDepth 100000 in
set_option maxHeartbeats 400000 in
theorem dCopy (w : World) (v : Value) (p : Pr) (hp : Pm w v p) (h1 : p.ops.length * 32 ≤ 140737488351232) (h2 : p.outs.length * 8 ≤ 140737488351232) :
    Calls Tryd.prog 20 #[v] w fun e w' => ∃ vo vu, e = .returned (.agg #[.int .i64 p.inp, vo, vu]) ∧ w'.ownsRow w.heap.size 47 4 vo p.ops.length (p.ops.flatMap opw) ∧ w'.ownsRow w.heap.size 3 1 vu p.outs.length (p.outs.flatMap iw) ∧ Below w.heap.size w w' := by
  obtain ⟨vo, vu, rfl, ho, hu⟩ := hp.form
  have HO := hide (fun W (h : Cq w W p vo vu) => h.ops ho h1)
  have HU := hide (fun W vo (h : Cq w W p vo vu) hr => h.outs hr hu h2)
  obtain ⟨xo, do_, rfl, _⟩ := ho.spell
  obtain ⟨xu, du, rfl, _⟩ := hu.spell
  obtain ⟨n1, n2, hB⟩ := alloc2 w (.cells #[.int .i64 p.inp, .slice xo p.ops.length do_, .slice xu p.outs.length du] 25) (.cells #[.int .i64 0, .slice none 0 0, .slice none 0 0] 25)
  have HC : Hid (Cq w _ p _ _) := ⟨n1, n2, hB⟩
  clear ho hu hp h1 h2 n1 n2 hB
  go_enter Tryd.func20, Tryd.ntmps20
  go_upto_region 1 with fail
  generalize (w.alloc (.cells #[.int .i64 p.inp, .slice xo p.ops.length do_, .slice xu p.outs.length du] 25)).alloc (.cells #[.int .i64 0, .slice none 0 0, .slice none 0 0] 25) = W at *
  obtain ⟨ao, co, W1, hr1, a1, b1, z1, HC1, HR1⟩ := HO.out W HC.out
  go_upto_region 2 with (at_builtin; refine Lib.wpList_append_run _ rfl _ _ _ _ rfl _ _ rfl rfl _ _ hr1 ?_)
  clear hr1 a1 b1 z1 HC HO
  generalize W1.setCell ⟨w.heap.size, 1, none⟩ (.slice ao p.ops.length co) = W2 at *
  obtain ⟨au, cu, W3, hr3, a3, b3, z3, HC3, HR3, HS3⟩ := HU.out W2 _ HC1.out HR1.out
  go_upto_region 3 with (at_builtin; refine Lib.wpList_append_run _ rfl _ _ _ _ rfl _ _ rfl rfl _ _ hr3 ?_)
  clear hr3 a3 b3 z3 HC1 HU HR1
  generalize W3.setCell ⟨w.heap.size, 2, none⟩ (.slice au p.outs.length cu) = W4 at *
  obtain ⟨r0, r1, r2⟩ := cell3 HC3.out.bp
  obtain ⟨s0, s1, s2⟩ := cell3 HC3.out.bz
  have sf := fun k => Lib.frozen_of_heap HC3.out.bz k
  go_wp2_with fail
  have hg := set3_grown W4 (w.heap.size + 1) (.int .i64 p.inp) (.slice ao p.ops.length co) (.slice au p.outs.length cu)
  have hz := set_blk (set_blk (set_blk HC3.out.bz 0 (.int .i64 p.inp)) 1 (.slice ao p.ops.length co)) 2 (.slice au p.outs.length cu)
  refine bodyPost_ret (res_c (a := 2) rfl rfl (load_prog hz)) rfl ⟨_, _, rfl, own_mono (own_kept HR3.out hg (fun g hg' e => ?_)) (by omega), own_mono (own_kept HS3.out hg (fun g hg' e => ?_)) (by omega), HC3.out.b.grown hg HC3.out.b.size (fun k e => by cases e; omega)⟩
  · exact own_not HR3.out HC3.out.bz (by decide) (hg'.trans e.symm)
  · exact own_not HS3.out HC3.out.bz (by decide) (hg'.trans e.symm)

end Go.Proofs.YtjkialmhajbcfaaDoor

namespace Go.Proofs.YtjkialmhajbcfaaDoor
open Go.RowKit Fld Slp
set_option linter.unusedVariables false
set_option linter.unusedSimpArgs false

/-- p, q and their copies. -/
structure Fc (w W : World) (p q : Pr) (po pu qo qu : Value) (b5 b6 : Nat) (ao au bo bu : Value) : Prop where
  bp : W.heap[w.heap.size]? = some (.cells #[.int .i64 p.inp, po, pu] 25 (0, 0))
  bq : W.heap[w.heap.size + 1]? = some (.cells #[.int .i64 q.inp, qo, qu] 25 (0, 0))
  ba : W.heap[b5]? = some (.cells #[.int .i64 p.inp, ao, au] 25 (0, 0))
  bb : W.heap[b6]? = some (.cells #[.int .i64 q.inp, bo, bu] 25 (0, 0))
  ra : W.ownsRow (w.heap.size + 2) 47 4 ao p.ops.length (p.ops.flatMap opw)
  sa : W.ownsRow (w.heap.size + 2) 3 1 au p.outs.length (p.outs.flatMap iw)
  rb : W.ownsRow (w.heap.size + 2) 47 4 bo q.ops.length (q.ops.flatMap opw)
  sb : W.ownsRow (w.heap.size + 2) 3 1 bu q.outs.length (q.outs.flatMap iw)
  bl : Below w.heap.size w W
theorem Fc.below {w W W' : World} {p q : Pr} {po pu qo qu : Value} {b5 b6 : Nat} {ao au bo bu : Value} (h : Fc w W p q po pu qo qu b5 b6 ao au bo bu) (hb : Below W.heap.size W W') : Fc w W' p q po pu qo qu b5 b6 ao au bo bu :=
  ⟨(hb.block _ (Array.getElem?_eq_some_iff.1 h.bp).1).trans h.bp, (hb.block _ (Array.getElem?_eq_some_iff.1 h.bq).1).trans h.bq, (hb.block _ (Array.getElem?_eq_some_iff.1 h.ba).1).trans h.ba, (hb.block _ (Array.getElem?_eq_some_iff.1 h.bb).1).trans h.bb,
    own_kept h.ra (below_own hb) (fun g _ => by simp), own_kept h.sa (below_own hb) (fun g _ => by simp), own_kept h.rb (below_own hb) (fun g _ => by simp), own_kept h.sb (below_own hb) (fun g _ => by simp), Below.next h.bl hb⟩
theorem pm_own {w W : World} {v vo vu : Value} {p : Pr} {B : Nat} (hp : Pm w v p) (ho : W.ownsRow B 47 4 vo p.ops.length (p.ops.flatMap opw)) (hu : W.ownsRow B 3 1 vu p.outs.length (p.outs.flatMap iw)) : Pm W (.agg #[.int .i64 p.inp, vo, vu]) p := by
  obtain ⟨xo, xu, _, l1, l2⟩ := hp.form
  exact ⟨⟨vo, vu, rfl, lm_of_own opw_len (by decide) ho l1.len, lm_of_own iw_len (by decide) hu l2.len⟩, hp.inb, hp.okb, hp.oub⟩
/-- Behind both copies: p, q and the copies' lists. -/
structure Fd (w W : World) (p q : Pr) (po pu qo qu : Value) (ao au bo bu : Value) : Prop where
  bp : W.heap[w.heap.size]? = some (.cells #[.int .i64 p.inp, po, pu] 25 (0, 0))
  bq : W.heap[w.heap.size + 1]? = some (.cells #[.int .i64 q.inp, qo, qu] 25 (0, 0))
  ra : W.ownsRow (w.heap.size + 2) 47 4 ao p.ops.length (p.ops.flatMap opw)
  sa : W.ownsRow (w.heap.size + 2) 3 1 au p.outs.length (p.outs.flatMap iw)
  rb : W.ownsRow (w.heap.size + 2) 47 4 bo q.ops.length (q.ops.flatMap opw)
  sb : W.ownsRow (w.heap.size + 2) 3 1 bu q.outs.length (q.outs.flatMap iw)
  bl : Below w.heap.size w W
theorem Fd.below {w W W' : World} {p q : Pr} {po pu qo qu : Value} {ao au bo bu : Value} (h : Fd w W p q po pu qo qu ao au bo bu) (hb : Below W.heap.size W W') : Fd w W' p q po pu qo qu ao au bo bu :=
  ⟨(hb.block _ (Array.getElem?_eq_some_iff.1 h.bp).1).trans h.bp, (hb.block _ (Array.getElem?_eq_some_iff.1 h.bq).1).trans h.bq,
    own_kept h.ra (below_own hb) (fun g _ => by simp), own_kept h.sa (below_own hb) (fun g _ => by simp), own_kept h.rb (below_own hb) (fun g _ => by simp), own_kept h.sb (below_own hb) (fun g _ => by simp), Below.next h.bl hb⟩
/-- A program stored over a block that holds one. -/
theorem Fd.set {w W : World} {p q : Pr} {po pu qo qu : Value} {ao au bo bu : Value} (h : Fd w W p q po pu qo qu ao au bo bu) {g : Nat} {z : Array Value} (hg : W.heap[g]? = some (.cells z 25 (0, 0))) (hl : w.heap.size + 2 ≤ g) (x y u : Value) : Fd w (((W.setCell ⟨g, 0, none⟩ x).setCell ⟨g, 1, none⟩ y).setCell ⟨g, 2, none⟩ u) p q po pu qo qu ao au bo bu := by
  have hs := set3_grown W g x y u
  have hn : ∀ {T : TypeId} {s n : Nat} {v : Value} {xs : List Value}, 25 ≠ T → W.ownsRow (w.heap.size + 2) T s v n xs → (((W.setCell ⟨g, 0, none⟩ x).setCell ⟨g, 1, none⟩ y).setCell ⟨g, 2, none⟩ u).ownsRow (w.heap.size + 2) T s v n xs := fun hT hr => own_kept hr hs (fun k hk e => own_not hr hg hT (hk.trans e.symm))
  exact ⟨(hs.block _ (Array.getElem?_eq_some_iff.1 h.bp).1 (fun e => by have := Option.some.inj e; omega)).trans h.bp, (hs.block _ (Array.getElem?_eq_some_iff.1 h.bq).1 (fun e => by have := Option.some.inj e; omega)).trans h.bq, hn (by decide) h.ra, hn (by decide) h.sa, hn (by decide) h.rb, hn (by decide) h.sb, h.bl.grown hs h.bl.size (fun k e => by cases e; omega)⟩
theorem Fd.fc {w W : World} {p q : Pr} {po pu qo qu : Value} {ao au bo bu : Value} (h : Fd w W p q po pu qo qu ao au bo bu) {b5 b6 : Nat} (h5 : W.heap[b5]? = some (.cells #[.int .i64 p.inp, ao, au] 25 (0, 0))) (h6 : W.heap[b6]? = some (.cells #[.int .i64 q.inp, bo, bu] 25 (0, 0))) : Fc w W p q po pu qo qu b5 b6 ao au bo bu := ⟨h.bp, h.bq, h5, h6, h.ra, h.sa, h.rb, h.sb, h.bl⟩
theorem set3_far {W : World} {g k : Nat} (hk : k ≠ g) (x y u : Value) : (((W.setCell ⟨g, 0, none⟩ x).setCell ⟨g, 1, none⟩ y).setCell ⟨g, 2, none⟩ u).heap[k]? = W.heap[k]? := by
  rw [Below.heap_setCell _ _ _ k hk, Below.heap_setCell _ _ _ k hk, Below.heap_setCell _ _ _ k hk]
theorem set3_here {W : World} {g : Nat} {a b c : Value} (hg : W.heap[g]? = some (.cells #[a, b, c] 25 (0, 0))) (x y u : Value) : (((W.setCell ⟨g, 0, none⟩ x).setCell ⟨g, 1, none⟩ y).setCell ⟨g, 2, none⟩ u).heap[g]? = some (.cells #[x, y, u] 25 (0, 0)) := set_blk (set_blk (set_blk hg 0 x) 1 y) 2 u
theorem fd_of {w W w1 w2 : World} {p q : Pr} {po pu qo qu ao au bo bu : Value} {B1 B2 : Nat} (n1 : W.heap[w.heap.size]? = some (.cells #[.int .i64 p.inp, po, pu] 25 (0, 0))) (n2 : W.heap[w.heap.size + 1]? = some (.cells #[.int .i64 q.inp, qo, qu] 25 (0, 0))) (hBB : Below w.heap.size w W) (hB1 : Below W.heap.size W w1) (hB2 : Below w1.heap.size w1 w2)
    (h1 : w.heap.size + 2 ≤ B1) (h2 : w.heap.size + 2 ≤ B2) (ho1 : w1.ownsRow B1 47 4 ao p.ops.length (p.ops.flatMap opw)) (hu1 : w1.ownsRow B1 3 1 au p.outs.length (p.outs.flatMap iw)) (ho2 : w2.ownsRow B2 47 4 bo q.ops.length (q.ops.flatMap opw)) (hu2 : w2.ownsRow B2 3 1 bu q.outs.length (q.outs.flatMap iw)) : Fd w w2 p q po pu qo qu ao au bo bu := by
  have hW := Below.next hB1 hB2
  exact ⟨(hW.block _ (Array.getElem?_eq_some_iff.1 n1).1).trans n1, (hW.block _ (Array.getElem?_eq_some_iff.1 n2).1).trans n2, own_mono (own_kept ho1 (below_own hB2) (fun g _ => by simp)) h1, own_mono (own_kept hu1 (below_own hB2) (fun g _ => by simp)) h1, own_mono ho2 h2, own_mono hu2 h2, Below.next hBB hW⟩
/-- Both blocks are made behind the copies. -/
theorem Fd.after {w W : World} {p q : Pr} {po pu qo qu : Value} {ao au bo bu : Value} (h : Fd w W p q po pu qo qu ao au bo bu) : Fc w ((W.alloc (.cells #[.int .i64 p.inp, ao, au] 25)).alloc (.cells #[.int .i64 q.inp, bo, bu] 25)) p q po pu qo qu W.heap.size (W.heap.size + 1) ao au bo bu ∧ Fc w ((W.alloc (.cells #[.int .i64 q.inp, bo, bu] 25)).alloc (.cells #[.int .i64 p.inp, ao, au] 25)) p q po pu qo qu (W.heap.size + 1) W.heap.size ao au bo bu := by
  obtain ⟨n1, n2, hB⟩ := alloc2 W (.cells #[.int .i64 p.inp, ao, au] 25) (.cells #[.int .i64 q.inp, bo, bu] 25)
  obtain ⟨m1, m2, hC⟩ := alloc2 W (.cells #[.int .i64 q.inp, bo, bu] 25) (.cells #[.int .i64 p.inp, ao, au] 25)
  exact ⟨(h.below hB).fc n1 n2, (h.below hC).fc m2 m1⟩
/-- One is there, the other one is made behind. -/
theorem Fd.mid {w W : World} {p q : Pr} {po pu qo qu : Value} {ao au bo bu : Value} (h : Fd w W p q po pu qo qu ao au bo bu) {g : Nat} {a b c : Value} (hg : W.heap[g]? = some (.cells #[a, b, c] 25 (0, 0))) (hl : w.heap.size + 2 ≤ g) :
    Fc w ((((W.setCell ⟨g, 0, none⟩ (.int .i64 p.inp)).setCell ⟨g, 1, none⟩ ao).setCell ⟨g, 2, none⟩ au).alloc (.cells #[.int .i64 q.inp, bo, bu] 25)) p q po pu qo qu g W.heap.size ao au bo bu ∧ Fc w ((((W.setCell ⟨g, 0, none⟩ (.int .i64 q.inp)).setCell ⟨g, 1, none⟩ bo).setCell ⟨g, 2, none⟩ bu).alloc (.cells #[.int .i64 p.inp, ao, au] 25)) p q po pu qo qu W.heap.size g ao au bo bu := by
  have hsz : ∀ x y u, (((W.setCell ⟨g, 0, none⟩ x).setCell ⟨g, 1, none⟩ y).setCell ⟨g, 2, none⟩ u).heap.size = W.heap.size := fun x y u => by simp [World.setCell]
  constructor
  · have hf := (h.set hg hl (.int .i64 p.inp) ao au)
    have hh := set3_here hg (.int .i64 p.inp) ao au
    have hA := alloc_below (((W.setCell ⟨g, 0, none⟩ (.int .i64 p.inp)).setCell ⟨g, 1, none⟩ ao).setCell ⟨g, 2, none⟩ au) (.cells #[.int .i64 q.inp, bo, bu] 25)
    have hN := heap_alloc_new (((W.setCell ⟨g, 0, none⟩ (.int .i64 p.inp)).setCell ⟨g, 1, none⟩ ao).setCell ⟨g, 2, none⟩ au) (.cells #[.int .i64 q.inp, bo, bu] 25)
    rw [hsz] at hN
    exact (hf.below hA).fc ((hA.block _ (Array.getElem?_eq_some_iff.1 hh).1).trans hh) hN
  · have hf := (h.set hg hl (.int .i64 q.inp) bo bu)
    have hh := set3_here hg (.int .i64 q.inp) bo bu
    have hA := alloc_below (((W.setCell ⟨g, 0, none⟩ (.int .i64 q.inp)).setCell ⟨g, 1, none⟩ bo).setCell ⟨g, 2, none⟩ bu) (.cells #[.int .i64 p.inp, ao, au] 25)
    have hN := heap_alloc_new (((W.setCell ⟨g, 0, none⟩ (.int .i64 q.inp)).setCell ⟨g, 1, none⟩ bo).setCell ⟨g, 2, none⟩ bu) (.cells #[.int .i64 p.inp, ao, au] 25)
    rw [hsz] at hN
    exact (hf.below hA).fc hN ((hA.block _ (Array.getElem?_eq_some_iff.1 hh).1).trans hh)
/-- A block that is not the one written. -/
theorem far3 {V : World} {g k : Nat} {a b c : Value} (hne : k ≠ g) (h : V.heap[k]? = some (.cells #[a, b, c] 25 (0, 0))) (x y u : Value) : ((((V.setCell ⟨g, 0, none⟩ x).setCell ⟨g, 1, none⟩ y).setCell ⟨g, 2, none⟩ u).cell? ⟨k, 0, none⟩ = some a ∧ (((V.setCell ⟨g, 0, none⟩ x).setCell ⟨g, 1, none⟩ y).setCell ⟨g, 2, none⟩ u).cell? ⟨k, 1, none⟩ = some b ∧ (((V.setCell ⟨g, 0, none⟩ x).setCell ⟨g, 1, none⟩ y).setCell ⟨g, 2, none⟩ u).cell? ⟨k, 2, none⟩ = some c) ∧ ∀ j, (((V.setCell ⟨g, 0, none⟩ x).setCell ⟨g, 1, none⟩ y).setCell ⟨g, 2, none⟩ u).frozen? ⟨k, j, none⟩ = false :=
  ⟨cell3 ((set3_far hne x y u).trans h), fun j => Lib.frozen_of_heap ((set3_far hne x y u).trans h) j⟩
/-- One is written already. -/
theorem Fd.over {w W : World} {p q : Pr} {po pu qo qu : Value} {ao au bo bu : Value} (h : Fd w W p q po pu qo qu ao au bo bu) {g k : Nat} {a b c : Value} (hg : W.heap[g]? = some (.cells #[a, b, c] 25 (0, 0))) (hl : w.heap.size + 2 ≤ g) (hne : k ≠ g) :
    (W.heap[k]? = some (.cells #[.int .i64 q.inp, bo, bu] 25 (0, 0)) → Fc w (((W.setCell ⟨g, 0, none⟩ (.int .i64 p.inp)).setCell ⟨g, 1, none⟩ ao).setCell ⟨g, 2, none⟩ au) p q po pu qo qu g k ao au bo bu) ∧ (W.heap[k]? = some (.cells #[.int .i64 p.inp, ao, au] 25 (0, 0)) → Fc w (((W.setCell ⟨g, 0, none⟩ (.int .i64 q.inp)).setCell ⟨g, 1, none⟩ bo).setCell ⟨g, 2, none⟩ bu) p q po pu qo qu k g ao au bo bu) :=
  ⟨fun hk => (h.set hg hl (.int .i64 p.inp) ao au).fc (set3_here hg _ _ _) ((set3_far hne _ _ _).trans hk), fun hk => (h.set hg hl (.int .i64 q.inp) bo bu).fc ((set3_far hne _ _ _).trans hk) (set3_here hg _ _ _)⟩
/-- Both are there. -/
theorem Fd.both {w W : World} {p q : Pr} {po pu qo qu : Value} {ao au bo bu : Value} (h : Fd w W p q po pu qo qu ao au bo bu) {g k : Nat} {a b c x y z : Value} (hg : W.heap[g]? = some (.cells #[a, b, c] 25 (0, 0))) (hk : W.heap[k]? = some (.cells #[x, y, z] 25 (0, 0))) (hl : w.heap.size + 2 ≤ g) (hl2 : w.heap.size + 2 ≤ k) (hne : g ≠ k) :
    Fc w ((((((W.setCell ⟨g, 0, none⟩ (.int .i64 p.inp)).setCell ⟨g, 1, none⟩ ao).setCell ⟨g, 2, none⟩ au).setCell ⟨k, 0, none⟩ (.int .i64 q.inp)).setCell ⟨k, 1, none⟩ bo).setCell ⟨k, 2, none⟩ bu) p q po pu qo qu g k ao au bo bu := by
  have hf := (h.set hg hl (.int .i64 p.inp) ao au)
  have hh := set3_here hg (.int .i64 p.inp) ao au
  have hk' := (set3_far (Ne.symm hne) (.int .i64 p.inp) ao au).trans hk
  exact (hf.set hk' hl2 (.int .i64 q.inp) bo bu).fc ((set3_far hne _ _ _).trans hh) (set3_here hk' _ _ _)

end Go.Proofs.YtjkialmhajbcfaaDoor

namespace Go.Proofs.YtjkialmhajbcfaaDoor
open Go.RowKit Fld Slp
set_option linter.unusedVariables false
set_option linter.unusedSimpArgs false

theorem flat_set1 (x : Int) : ∀ (us : List Int) (k : Nat), k < us.length → (us.flatMap iw).set k (.int .i64 x) = (us.set k x).flatMap iw
  | [], k, h => by simp at h
  | u :: us, 0, h => by simp [iw]
  | u :: us, k + 1, h => by
    have ih := flat_set1 x us k (by simpa using h)
    show ([Value.int .i64 u] ++ us.flatMap iw).set (k + 1) _ = [Value.int .i64 u] ++ (us.set k x).flatMap iw
    rw [← ih]; rfl
theorem own_set1 {W : World} {base g n cap : Nat} {us : List Int} {k : Nat} (h : W.ownsRow base 3 1 (.slice (some ⟨g, 0, none⟩) n cap) n (us.flatMap iw)) (hk : k < us.length) (x : Int) : (W.setCell ⟨g, k, none⟩ (.int .i64 x)).ownsRow base 3 1 (.slice (some ⟨g, 0, none⟩) n cap) n ((us.set k x).flatMap iw) := by
  have hn : us.length = n := by
    have := h.1
    rw [flat_len iw 1 iw_len] at this; omega
  rcases h.2 with ⟨e, _⟩ | ⟨g', cap', cur, e, hb, hgb, hnc, hcm, hcs, htake⟩
  · cases e
  · cases e
    have hs := set_blk hgb k (.int .i64 x)
    refine ⟨by rw [flat_len iw 1 iw_len, List.length_set, hn], .inr ⟨g, cap, _, rfl, hb, hs, hnc, hcm, by simpa using hcs, ?_⟩⟩
    simp only [Array.toList_setIfInBounds, List.take_set, htake]
    exact flat_set1 x us k hk
theorem aftP_len (p q : Pr) : (aftP p q).ops.length ≤ 256 ∧ (aftP p q).outs.length ≤ 64 := by
  by_cases hE : aftE p q = 0
  · have eP : aftP p q = aftF p q := by unfold aftP; rw [if_pos hE]
    obtain ⟨hm, hm2, hl, hlen⟩ := aftE_zero hE
    obtain ⟨⟨i0, i1, l1, l3⟩, _, _⟩ := mayB_iff.1 hm
    rw [eP]
    unfold aftF
    constructor <;> simp <;> omega
  · have eP : aftP p q = pz := by unfold aftP; rw [if_neg hE]
    rw [eP]; decide
/-- Two answers: the one at b7 may be written over, the other one stays. -/
structure Fx (V W : World) (r : Pr) (b7 b9 : Nat) (xo xu yo yu : Value) (os : List O4) (us : List Int) : Prop where
  bl : Below V.heap.size V W
  bx : W.heap[b7]? = some (.cells #[.int .i64 r.inp, xo, xu] 25 (0, 0))
  bz : W.heap[b9]? = some (.cells #[.int .i64 r.inp, yo, yu] 25 (0, 0))
  rx : W.ownsRow V.heap.size 47 4 xo os.length (os.flatMap opw)
  sx : W.ownsRow V.heap.size 3 1 xu us.length (us.flatMap iw)
  ry : W.ownsRow V.heap.size 47 4 yo r.ops.length (r.ops.flatMap opw)
  sy : W.ownsRow V.heap.size 3 1 yu r.outs.length (r.outs.flatMap iw)
  no : ∀ g, xo.ownBlock = some g → yo.ownBlock ≠ some g
  nu : ∀ g, xu.ownBlock = some g → yu.ownBlock ≠ some g
theorem fx_of {V w3 w5 : World} {r : Pr} {xo xu yo yu : Value} {B2 : Nat} (hb3 : Below V.heap.size V w3) (ho3 : w3.ownsRow V.heap.size 47 4 xo r.ops.length (r.ops.flatMap opw)) (hu3 : w3.ownsRow V.heap.size 3 1 xu r.outs.length (r.outs.flatMap iw)) (hB : B2 = (w3.alloc (.cells #[.int .i64 r.inp, xo, xu] 25)).heap.size)
    (hb5 : Below B2 (w3.alloc (.cells #[.int .i64 r.inp, xo, xu] 25)) w5) (ho5 : w5.ownsRow B2 47 4 yo r.ops.length (r.ops.flatMap opw)) (hu5 : w5.ownsRow B2 3 1 yu r.outs.length (r.outs.flatMap iw)) :
    Fx V (w5.alloc (.cells #[.int .i64 r.inp, yo, yu] 25)) r w3.heap.size w5.heap.size xo xu yo yu r.ops r.outs := by
  subst hB
  have hA3 := alloc_below w3 (.cells #[.int .i64 r.inp, xo, xu] 25)
  have hN3 := heap_alloc_new w3 (.cells #[.int .i64 r.inp, xo, xu] 25)
  have hA5 := alloc_below w5 (.cells #[.int .i64 r.inp, yo, yu] 25)
  have hb := (Below.next hA3 hb5)
  have hb2 : Below w3.heap.size w3 (w5.alloc (.cells #[.int .i64 r.inp, yo, yu] 25)) := Below.next hb hA5
  have hN := (hb5.block _ (Array.getElem?_eq_some_iff.1 hN3).1).trans hN3
  have hle : V.heap.size ≤ (w3.alloc (.cells #[.int .i64 r.inp, xo, xu] 25)).heap.size := Nat.le_trans hb3.size hA3.size
  refine ⟨Below.next hb3 hb2, (hA5.block _ (Array.getElem?_eq_some_iff.1 hN).1).trans hN, heap_alloc_new w5 _, own_kept ho3 (below_own hb2) (fun g _ => by simp), own_kept hu3 (below_own hb2) (fun g _ => by simp), own_mono (own_kept ho5 (below_own hA5) (fun g _ => by simp)) hle, own_mono (own_kept hu5 (below_own hA5) (fun g _ => by simp)) hle, fun g h1 h2 => ?_, fun g h1 h2 => ?_⟩
  · have := own_top ho3 g h1
    have := own_base ho5 g h2
    have := hA3.size
    omega
  · have := own_top hu3 g h1
    have := own_base hu5 g h2
    have := hA3.size
    omega
theorem Fx.putO {V W : World} {r : Pr} {b7 b9 g n cap : Nat} {xu yo yu : Value} {os : List O4} {us : List Int} (h : Fx V W r b7 b9 (.slice (some ⟨g, 0, none⟩) n cap) xu yo yu os us) {k : Nat} (hk : k < os.length) (o : O4) : Fx V (set4 W g (k * 4) o) r b7 b9 (.slice (some ⟨g, 0, none⟩) n cap) xu yo yu (os.set k o) us := by
  have hn : os.length = n := by
    obtain ⟨a, c, e⟩ := own_slice h.rx
    cases e; rfl
  subst hn
  have hg := set4_grown W g (k * 4) o
  obtain ⟨cs, hcs⟩ := own_blk h.rx (g := g) rfl
  have hd : ∀ {b : Nat} {T : TypeId} {c2 : Array Value} {fz : Nat × Nat}, W.heap[b]? = some (.cells c2 T fz) → T ≠ 47 → b ≠ g := fun hb hT e => by rw [e, hcs] at hb; cases hb; exact hT rfl
  refine ⟨h.bl.grown hg h.bl.size (fun j e => by cases e; exact own_base h.rx g rfl), (hg.block _ (Array.getElem?_eq_some_iff.1 h.bx).1 (fun e => hd h.bx (by decide) (Option.some.inj e))).trans h.bx, (hg.block _ (Array.getElem?_eq_some_iff.1 h.bz).1 (fun e => hd h.bz (by decide) (Option.some.inj e))).trans h.bz, ?_, own_kept h.sx hg (fun j hj e => ?_), own_kept h.ry hg (fun j hj e => h.no j e hj), own_kept h.sy hg (fun j hj e => ?_), h.no, h.nu⟩
  · rw [List.length_set]; exact own_set4 h.rx hk o
  · obtain ⟨c2, h2⟩ := own_blk h.sx hj
    exact hd h2 (by decide) (Option.some.inj e).symm
  · obtain ⟨c2, h2⟩ := own_blk h.sy hj
    exact hd h2 (by decide) (Option.some.inj e).symm
theorem Fx.putU {V W : World} {r : Pr} {b7 b9 g n cap : Nat} {xo yo yu : Value} {os : List O4} {us : List Int} (h : Fx V W r b7 b9 xo (.slice (some ⟨g, 0, none⟩) n cap) yo yu os us) {k : Nat} (hk : k < us.length) (x : Int) : Fx V (W.setCell ⟨g, k, none⟩ (.int .i64 x)) r b7 b9 xo (.slice (some ⟨g, 0, none⟩) n cap) yo yu os (us.set k x) := by
  have hn : us.length = n := by
    obtain ⟨a, c, e⟩ := own_slice h.sx
    cases e; rfl
  subst hn
  have hg := set1_grown W g k (.int .i64 x)
  obtain ⟨cs, hcs⟩ := own_blk h.sx (g := g) rfl
  have hd : ∀ {b : Nat} {T : TypeId} {c2 : Array Value} {fz : Nat × Nat}, W.heap[b]? = some (.cells c2 T fz) → T ≠ 3 → b ≠ g := fun hb hT e => by rw [e, hcs] at hb; cases hb; exact hT rfl
  refine ⟨h.bl.grown hg h.bl.size (fun j e => by cases e; exact own_base h.sx g rfl), (hg.block _ (Array.getElem?_eq_some_iff.1 h.bx).1 (fun e => hd h.bx (by decide) (Option.some.inj e))).trans h.bx, (hg.block _ (Array.getElem?_eq_some_iff.1 h.bz).1 (fun e => hd h.bz (by decide) (Option.some.inj e))).trans h.bz, own_kept h.rx hg (fun j hj e => ?_), ?_, own_kept h.ry hg (fun j hj e => ?_), own_kept h.sy hg (fun j hj e => h.nu j e hj), h.no, h.nu⟩
  · obtain ⟨c2, h2⟩ := own_blk h.rx hj
    exact hd h2 (by decide) (Option.some.inj e).symm
  · rw [List.length_set]; exact own_set1 h.sx hk x
  · obtain ⟨c2, h2⟩ := own_blk h.ry hj
    exact hd h2 (by decide) (Option.some.inj e).symm

end Go.Proofs.YtjkialmhajbcfaaDoor

