import Derived.Deep.CutBlock
import Derived.Test.YtipobchbnjgenaaGreatBunYI
set_option linter.unusedVariables false
set_option linter.unusedSimpArgs false
set_option maxRecDepth 100000
set_option maxHeartbeats 4000000
namespace Go.Proofs.YtipobchbnjgenaaGreat
open Go.RowKit Fld Slp
theorem flat_set (o : O4) : ∀ (os : List O4) (k : Nat), k < os.length -> (((((os.flatMap opw).set (k * 4) (.int .u8 o.k)).set (k * 4 + 1) (.int .i64 o.a)).set (k * 4 + 2) (.int .i64 o.b)).set (k * 4 + 3) (.int .u64 o.c)) = (os.set k o).flatMap opw
 | [], k, h => by simp at h
 | x :: os, 0, h => by simp [opw]
 | x :: os, k + 1, h => by
  have ih := flat_set o os k (by simpa using h)
  have e : ∀ (l : List Value) (j : Nat) (v : Value), ([Value.int .u8 x.k, .int .i64 x.a, .int .i64 x.b, .int .u64 x.c] ++ l).set (4 + j) v = [Value.int .u8 x.k, .int .i64 x.a, .int .i64 x.b, .int .u64 x.c] ++ l.set j v := fun l j v => by
   rw [Nat.add_comm]; rfl
  show ((((([Value.int .u8 x.k, .int .i64 x.a, .int .i64 x.b, .int .u64 x.c] ++ os.flatMap opw).set ((k + 1) * 4) _).set ((k + 1) * 4 + 1) _).set ((k + 1) * 4 + 2) _).set ((k + 1) * 4 + 3) _) = [Value.int .u8 x.k, .int .i64 x.a, .int .i64 x.b, .int .u64 x.c] ++ (os.set k o).flatMap opw
  rw [show (k + 1) * 4 = 4 + k * 4 by omega, e, show 4 + k * 4 + 1 = 4 + (k * 4 + 1) by omega, e, show 4 + k * 4 + 2 = 4 + (k * 4 + 2) by omega, e, show 4 + k * 4 + 3 = 4 + (k * 4 + 3) by omega, e, ih]
def set4 (W : World) (g i : Nat) (o : O4) : World := (((W.setCell ⟨g, i, none⟩ (.int .u8 o.k)).setCell ⟨g, i + 1, none⟩ (.int .i64 o.a)).setCell ⟨g, i + 2, none⟩ (.int .i64 o.b)).setCell ⟨g, i + 3, none⟩ (.int .u64 o.c)
theorem set4_grown (W : World) (g i : Nat) (o : O4) : W.grownBy (set4 W g i o) (some g) :=
 ⟨rfl, rfl, rfl, by simp [set4, World.setCell], fun j _ hj => by
  have h : j ≠ g := fun e => hj (by rw [e])
  unfold set4
  rw [Below.heap_setCell _ _ _ j h, Below.heap_setCell _ _ _ j h, Below.heap_setCell _ _ _ j h, Below.heap_setCell _ _ _ j h]⟩
theorem own_set4 {W : World} {base g n cap : Nat} {os : List O4} {k : Nat} (h : W.ownsRow base 85 4 (.slice (some ⟨g, 0, none⟩) n cap) n (os.flatMap opw)) (hk : k < os.length) (o : O4) : (set4 W g (k * 4) o).ownsRow base 85 4 (.slice (some ⟨g, 0, none⟩) n cap) n ((os.set k o).flatMap opw) := by
 have hn : os.length = n := by
  have := h.1
  rw [flat_len opw 4 opw_len] at this; omega
 rcases h.2 with ⟨e, _⟩ | ⟨g', cap', cur, e, hb, hgb, hnc, hcm, hcs, htake⟩
 · cases e
 · cases e
   have hs := set_blk (set_blk (set_blk (set_blk hgb (k * 4) (.int .u8 o.k)) (k * 4 + 1) (.int .i64 o.a)) (k * 4 + 2) (.int .i64 o.b)) (k * 4 + 3) (.int .u64 o.c)
   refine ⟨by rw [flat_len opw 4 opw_len, List.length_set, hn], .inr ⟨g, cap, _, rfl, hb, hs, hnc, hcm, by simpa using hcs, ?_⟩⟩
   simp only [Array.toList_setIfInBounds, List.take_set, htake]
   exact flat_set o os k hk
theorem row_there {W : World} {base g n cap s : Nat} {T : TypeId} {xs : List Value} (h : W.ownsRow base T s (.slice (some ⟨g, 0, none⟩) n cap) n xs) {j : Nat} (hj : j < n * s) : (∃ c, W.cell? ⟨g, j, none⟩ = some c) ∧ W.frozen? ⟨g, j, none⟩ = false := by
 rcases h.2 with ⟨e, _⟩ | ⟨g', cap', cur, e, hb, hgb, hnc, hcm, hcs, htake⟩
 · cases e
 · cases e
   have h1 : j < cur.size := by
    rw [hcs]; exact Nat.lt_of_lt_of_le hj (Nat.mul_le_mul_right _ hnc)
   refine ⟨⟨cur[j], ?_⟩, Lib.frozen_of_heap hgb j⟩
   rw [Lib.cell_of_heap hgb, Array.getElem?_eq_getElem h1]
theorem set1_grown (W : World) (g k : Nat) (v : Value) : W.grownBy (W.setCell ⟨g, k, none⟩ v) (some g) := ⟨rfl, rfl, rfl, (KeepsWalks.setCell W _ v).size, fun j _ hj => Below.heap_setCell _ _ _ j (fun e => hj (by rw [e]))⟩
theorem appOw (W : World) (base : Nat) (u : Value) (A B : List O4) (vb : Value) (hO : W.ownsRow base 85 4 u A.length (A.flatMap opw)) (hB : Lm opw 4 W vb B) (hl : (A.length + B.length) * 32 <= 140737488355328) (hb : base <= W.heap.size) :
 ∃ v' W', (Builtin.append_ #[25, 25] 25 #[u, vb]).run Tryz.prog W = .ok v' W' ∧ W'.ownsRow base 85 4 v' (A.length + B.length) ((A ++ B).flatMap opw) ∧ Below base W W' ∧ W.grownBy W' u.ownBlock := by
 obtain ⟨i0, hi0, hz0, hz1, hz2⟩ := info_parts op_info
 obtain ⟨ao, cap, rfl, h1, h2⟩ := hB
 cases ao with
 | some ad =>
  obtain ⟨v', W', hr, ho, hg, _⟩ := run_append_own (P := Tryz.prog) (w := W) base 25 25 85 i0 (.agg #[.int .u8 0, .int .i64 0, .int .i64 0, .int .u64 0]) 4 32 Tryz.underlying25 hi0 hz0 hz1 hz2 rfl (by decide) u A.length (A.flatMap opw) hO ad B.length cap (B.flatMap opw) (flat_len opw 4 opw_len B) (Lm.news opw_len (by decide) ⟨some ad, cap, rfl, h1, h2⟩) (fun x hx => by
   obtain ⟨o, _, ho⟩ := List.mem_flatMap.1 hx
   simp [opw] at ho
   rcases ho with rfl | rfl | rfl | rfl <;> rfl) (by unfold maxLen; omega) (by omega) hb
  refine ⟨v', W', hr, ?_, (Below.refl base W).grown hg hb (fun k hk => own_base hO k hk), hg⟩
  rw [List.flatMap_append]; exact ho
 | none =>
  have hB0 : B = [] := by
   cases B with
   | nil => rfl
   | cons o B => obtain ⟨b, off, e, _⟩ := h2 (by simp); cases e
  have hc0 := h1.2.2 rfl
  subst hB0 hc0
  refine ⟨u, W, run_append_owned_none (P := Tryz.prog) W base 25 25 85 i0 4 Tryz.underlying25 hi0 u A.length (A.flatMap opw) hO, by rw [List.append_nil]; exact hO, Below.refl _ _, ⟨rfl, rfl, rfl, Nat.le_refl _, fun _ _ _ => rfl⟩⟩
theorem res_c {P : Program} {fn : Func} {tmps : Array Value} {w : World} {a : Nat} {t : TypeId} {ad : Addr} {v : Value} (hr : fn.results = #[.cell a t]) (ha : tmps.getD a undef = .pointer (some ad)) (hl : (loadVar t ad).run P w = .ok v w) :
 (results fn tmps).run P w = .ok v w := by
 have ha2 : tmps[a]?.getD undef = .pointer (some ad) := by rw [<- ha]; simp
 simp [results, hr, ha2, asAddr, hl]
structure Cq (w W : World) (p : Pr) (vo vu : Value) : Prop where
 bp : W.heap[w.heap.size]? = some (.cells #[.int .i64 p.inp, vo, vu] 28 (0, 0))
 bz : W.heap[w.heap.size + 1]? = some (.cells #[.int .i64 0, .slice none 0 0, .slice none 0 0] 28 (0, 0))
 b : Below w.heap.size w W
theorem Cq.ops {w W : World} {p : Pr} {vo vu : Value} (h : Cq w W p vo vu) (ho : Lm opw 4 w vo p.ops) (h1 : p.ops.length * 32 <= 140737488351232) :
 ∃ (ao : Option Addr) (co : Nat) (W1 : World), (Builtin.append_ #[25, 25] 25 #[.slice (some ⟨W.heap.size, 0, none⟩) 0 0, vo]).run Tryz.prog (W.alloc (.cells #[] 85)) = .ok (.slice ao p.ops.length co) W1 ∧ (W.alloc (.cells #[] 85)).cell? ⟨w.heap.size, 1, none⟩ = some vo ∧ W1.cell? ⟨w.heap.size, 1, none⟩ = some vo ∧ W1.frozen? ⟨w.heap.size, 1, none⟩ = false ∧
  Hid (Cq w (W1.setCell ⟨w.heap.size, 1, none⟩ (.slice ao p.ops.length co)) p (.slice ao p.ops.length co) vu) ∧ Hid ((W1.setCell ⟨w.heap.size, 1, none⟩ (.slice ao p.ops.length co)).ownsRow (w.heap.size + 2) 85 4 (.slice ao p.ops.length co) p.ops.length (p.ops.flatMap opw)) := by
 have z0 := (Array.getElem?_eq_some_iff.1 h.bz).1
 have hA := alloc_below W (.cells #[] 85)
 have hBA := Below.next h.b hA
 have a1 := (hA.block _ (Array.getElem?_eq_some_iff.1 h.bp).1).trans h.bp
 have a2 := (hA.block _ z0).trans h.bz
 obtain ⟨v1, W1, hr1, ho1, hb1, hg1⟩ := appOw (W.alloc (.cells #[] 85)) W.heap.size _ [] p.ops vo (own_zero W 85 4 W.heap.size (Nat.le_refl _)) (ho.below hBA) (by simp; omega) hA.size
 simp only [List.length_nil, Nat.zero_add, List.nil_append] at ho1
 obtain ⟨ao, co, rfl⟩ := own_slice ho1
 have b1 := (hb1.block _ (show w.heap.size < W.heap.size by omega)).trans a1
 have b2 := (hb1.block _ z0).trans a2
 have hB1 : Below w.heap.size w W1 := hBA.trans (hb1.mono (by omega))
 have hs1 := set1_grown W1 w.heap.size 1 (.slice ao p.ops.length co)
 exact ⟨ao, co, W1, hr1, (cell3 a1).2.1, (cell3 b1).2.1, Lib.frozen_of_heap b1 1, ⟨set_blk b1 1 (.slice ao p.ops.length co), (hs1.block (w.heap.size + 1) (Array.getElem?_eq_some_iff.1 b2).1 (fun e => by have := Option.some.inj e; omega)).trans b2, hB1.grown hs1 hB1.size (fun k e => by cases e; exact Nat.le_refl _)⟩, own_mono (own_kept ho1 hs1 (fun g hg e => own_not ho1 b1 (by decide) (hg.trans e.symm))) (by omega)⟩
theorem Cq.outs {w W : World} {p : Pr} {vo vu : Value} (h : Cq w W p vo vu) (hr : W.ownsRow (w.heap.size + 2) 85 4 vo p.ops.length (p.ops.flatMap opw)) (hu : Lm iw 1 w vu p.outs) (h1 : p.outs.length * 8 <= 140737488351232) :
 ∃ (au : Option Addr) (cu : Nat) (W1 : World), (Builtin.append_ #[26, 26] 26 #[.slice (some ⟨W.heap.size, 0, none⟩) 0 0, vu]).run Tryz.prog (W.alloc (.cells #[] 3)) = .ok (.slice au p.outs.length cu) W1 ∧ (W.alloc (.cells #[] 3)).cell? ⟨w.heap.size, 2, none⟩ = some vu ∧ W1.cell? ⟨w.heap.size, 2, none⟩ = some vu ∧ W1.frozen? ⟨w.heap.size, 2, none⟩ = false ∧
  Hid (Cq w (W1.setCell ⟨w.heap.size, 2, none⟩ (.slice au p.outs.length cu)) p vo (.slice au p.outs.length cu)) ∧ Hid ((W1.setCell ⟨w.heap.size, 2, none⟩ (.slice au p.outs.length cu)).ownsRow (w.heap.size + 2) 85 4 vo p.ops.length (p.ops.flatMap opw)) ∧ Hid ((W1.setCell ⟨w.heap.size, 2, none⟩ (.slice au p.outs.length cu)).ownsRow (w.heap.size + 2) 3 1 (.slice au p.outs.length cu) p.outs.length (p.outs.flatMap iw)) := by
 have z0 := (Array.getElem?_eq_some_iff.1 h.bz).1
 have hA := alloc_below W (.cells #[] 3)
 have hBA := Below.next h.b hA
 have a1 := (hA.block _ (Array.getElem?_eq_some_iff.1 h.bp).1).trans h.bp
 have a2 := (hA.block _ z0).trans h.bz
 obtain ⟨v1, W1, hr1, ho1, hb1, hg1, _⟩ := appI (W.alloc (.cells #[] 3)) W.heap.size _ [] p.outs vu (own_zero W 3 1 W.heap.size (Nat.le_refl _)) (hu.below hBA) (by simp; omega) hA.size
 simp only [List.length_nil, Nat.zero_add, List.nil_append] at ho1
 obtain ⟨au, cu, rfl⟩ := own_slice ho1
 have b1 := (hb1.block _ (show w.heap.size < W.heap.size by omega)).trans a1
 have b2 := (hb1.block _ z0).trans a2
 have hAB := hA.trans hb1
 have hB1 : Below w.heap.size w W1 := Below.next h.b hAB
 have hr2 := own_kept hr (below_own hAB) (fun g _ => by simp)
 have hs1 := set1_grown W1 w.heap.size 2 (.slice au p.outs.length cu)
 exact ⟨au, cu, W1, hr1, (cell3 a1).2.2, (cell3 b1).2.2, Lib.frozen_of_heap b1 2, ⟨set_blk b1 2 (.slice au p.outs.length cu), (hs1.block (w.heap.size + 1) (Array.getElem?_eq_some_iff.1 b2).1 (fun e => by have := Option.some.inj e; omega)).trans b2, hB1.grown hs1 hB1.size (fun k e => by cases e; exact Nat.le_refl _)⟩, own_kept hr2 hs1 (fun g hg e => own_not hr2 b1 (by decide) (hg.trans e.symm)), own_mono (own_kept ho1 hs1 (fun g hg e => own_not ho1 b1 (by decide) (hg.trans e.symm))) (by omega)⟩
theorem dCopy (w : World) (v : Value) (p : Pr) (hp : Pm w v p) (h1 : p.ops.length * 32 <= 140737488351232) (h2 : p.outs.length * 8 <= 140737488351232) :
 Calls Tryz.prog 34 #[v] w fun e w' => ∃ vo vu, e = .returned (.agg #[.int .i64 p.inp, vo, vu]) ∧ w'.ownsRow w.heap.size 85 4 vo p.ops.length (p.ops.flatMap opw) ∧ w'.ownsRow w.heap.size 3 1 vu p.outs.length (p.outs.flatMap iw) ∧ Below w.heap.size w w' := by
 obtain ⟨vo, vu, rfl, ho, hu⟩ := hp.form
 have HO := hide (fun W (h : Cq w W p vo vu) => h.ops ho h1)
 have HU := hide (fun W vo (h : Cq w W p vo vu) hr => h.outs hr hu h2)
 obtain ⟨xo, do_, rfl, _⟩ := ho.spell
 obtain ⟨xu, du, rfl, _⟩ := hu.spell
 obtain ⟨n1, n2, hB⟩ := alloc2 w (.cells #[.int .i64 p.inp, .slice xo p.ops.length do_, .slice xu p.outs.length du] 28) (.cells #[.int .i64 0, .slice none 0 0, .slice none 0 0] 28)
 have HC : Hid (Cq w _ p _ _) := ⟨n1, n2, hB⟩
 clear ho hu hp h1 h2 n1 n2 hB
 go_enter Tryz.func34, Tryz.ntmps34
 go_upto_region 1 with fail
 generalize (w.alloc (.cells #[.int .i64 p.inp, .slice xo p.ops.length do_, .slice xu p.outs.length du] 28)).alloc (.cells #[.int .i64 0, .slice none 0 0, .slice none 0 0] 28) = W at *
 obtain ⟨ao, co, W1, hr1, a1, b1, z1, HC1, HR1⟩ := HO.out W HC.out
 go_upto_region 2 with (at_builtin; refine Lib.wpList_append_run _ rfl _ _ _ _ rfl _ _ rfl rfl _ _ hr1 ?_)
 clear hr1 a1 b1 z1 HC HO
 generalize W1.setCell ⟨w.heap.size, 1, none⟩ (.slice ao p.ops.length co) = W2 at *
 obtain ⟨au, cu, W3, hr3, a3, b3, z3, HC3, HR3, HS3⟩ := HU.out W2 _ HC1.out HR1.out
 go_upto_region 3 with (at_builtin; refine Lib.wpList_append_run _ rfl _ _ _ _ rfl _ _ rfl rfl _ _ hr3 ?_)
 clear hr3 a3 b3 z3 HC1 HU HR1
 generalize W3.setCell ⟨w.heap.size, 2, none⟩ (.slice au p.outs.length cu) = W4 at *
 obtain ⟨r0, r1, r2⟩ := cell3 HC3.out.bp
 obtain ⟨s0, s1, s2⟩ := cell3 HC3.out.bz
 have sf := fun k => Lib.frozen_of_heap HC3.out.bz k
 go_wp2_with fail
 have hg := set3_grown W4 (w.heap.size + 1) (.int .i64 p.inp) (.slice ao p.ops.length co) (.slice au p.outs.length cu)
 have hz := set_blk (set_blk (set_blk HC3.out.bz 0 (.int .i64 p.inp)) 1 (.slice ao p.ops.length co)) 2 (.slice au p.outs.length cu)
 refine bodyPost_ret (res_c (a := 2) rfl rfl (load_prog hz)) rfl ⟨_, _, rfl, own_mono (own_kept HR3.out hg (fun g hg' e => ?_)) (by omega), own_mono (own_kept HS3.out hg (fun g hg' e => ?_)) (by omega), HC3.out.b.grown hg HC3.out.b.size (fun k e => by cases e; omega)⟩
 · exact own_not HR3.out HC3.out.bz (by decide) (hg'.trans e.symm)
 · exact own_not HS3.out HC3.out.bz (by decide) (hg'.trans e.symm)
end Go.Proofs.YtipobchbnjgenaaGreat
