/- Texts laid together: SlyE, SlyH. -/
import Derived.Test.YtjkialmhajbcfaaDoorBunA
import Derived.Test.YtjkialmhajbcfaaDoorBunZ
import Derived.Test.YtjkialmhajbcfaaDoorBSlxH
namespace Go.Proofs.YtjkialmhajbcfaaDoor
open Go.RowKit Fld Slp
set_option linter.unusedVariables false
set_option linter.unusedSimpArgs false

theorem Lm.txt {w wr : World} {b off n cap j : Nat} {ws : List Tx} (h : Lm sw 1 w (.slice (some ⟨b, off, none⟩) n cap) ws) (hb : Below w.heap.size w wr) (hj : j < ws.length) : wr.cell? ⟨b, off + j, none⟩ = some (tx ws[j]) := by
  obtain ⟨ao, cap', e, h1, h3⟩ := h
  injection e with e1 e2 e3
  subst e1
  obtain ⟨b', off', e4, hbl, hc⟩ := h3 (by intro h; rw [h] at hj; simp at hj)
  injection e4 with e4
  injection e4 with e5 e6
  subst e5 e6
  have := hc j ws[j] (List.getElem?_eq_getElem hj) 0 (tx ws[j]) rfl
  rw [show off + (j * 1 + 0) = off + j by omega] at this
  exact (hb.cell (p := ⟨b, off + j, none⟩) hbl).trans this
/-- One step appended. -/
theorem appO1 (W : World) (base : Nat) (u : Value) (os : List O4) (a : Addr) (x : O4) (hO : W.ownsRow base 47 4 u os.length (os.flatMap opw)) (hc : ∀ j u, (opw x)[j]? = some u → W.cell? (a.add j) = some u) (hl : os.length ≤ 1000) (hb : base ≤ W.heap.size) :
    ∃ (au' : Option Addr) (cu' : Nat) (W' : World), (Builtin.append_ #[22, 22] 22 #[u, .slice (some a) 1 1]).run Tryd.prog W = .ok (.slice au' (os.length + 1) cu') W' ∧ W'.ownsRow base 47 4 (.slice au' (os.length + 1) cu') (os.length + 1) ((os ++ [x]).flatMap opw) ∧ Below base W W' ∧ W.grownBy W' u.ownBlock := by
  obtain ⟨i0, hi0, hz0, hz1, hz2⟩ := info_parts op_info
  obtain ⟨v', W', hr, ho, hg, _, hbk⟩ := run_append_own_at (P := Tryd.prog) (w := W) base 22 22 47 i0 (.agg #[.int .u8 0, .int .i64 0, .int .i64 0, .int .u64 0]) 4 32 Tryd.underlying22 hi0 hz0 hz1 hz2 rfl (by decide) u os.length (os.flatMap opw) hO a 1 1 (opw x) rfl hc (by simp [opw, Value.oneCell']) (by unfold maxLen; omega) (by omega) hb
  obtain ⟨au', cu', rfl⟩ := own_slice ho
  refine ⟨au', cu', W', hr, ?_, (Below.refl base W).grown hg hb (fun k hk => own_base hO k hk), hg⟩
  rw [List.flatMap_append, show [x].flatMap opw = opw x by simp]; exact ho
theorem op_cells {W : World} {g : Nat} {x : O4} (h : W.heap[g]? = some (.cells #[.int .u8 x.k, .int .i64 x.a, .int .i64 x.b, .int .u64 x.c] 47 (0, 0))) : ∀ j u, (opw x)[j]? = some u → W.cell? ((⟨g, 0, none⟩ : Addr).add j) = some u := fun j u hj => by
  rw [Addr.add]
  obtain ⟨c0, c1, c2, c3⟩ := cell4 h
  match j, hj with
  | 0, hj => simp [opw] at hj; subst hj; exact c0
  | 1, hj => simp [opw] at hj; subst hj; exact c1
  | 2, hj => simp [opw] at hj; subst hj; exact c2
  | 3, hj => simp [opw] at hj; subst hj; exact c3
  | j + 4, hj => simp [opw] at hj
/-- How far the document's step has come: its program, its answer's block, the step under way. -/
structure Se (w W : World) (n : Nat) (vo vu : Value) (g : Nat) (o : O4) : Prop where
  bp : W.heap[w.heap.size]? = some (.cells #[.int .i64 (n : Int), vo, vu] 25 (0, 0))
  br : W.heap[w.heap.size + 1]? = some (.cells #[.int .u8 0, .int .i64 0, .int .i64 0, .int .u64 0] 47 (0, 0))
  bo : W.heap[g]? = some (.cells #[.int .u8 o.k, .int .i64 o.a, .int .i64 o.b, .int .u64 o.c] 47 (0, 0))
  hg : w.heap.size + 2 ≤ g
  bl : Below w.heap.size w W
theorem Se.below {w W W' : World} {n : Nat} {vo vu : Value} {g : Nat} {o : O4} (h : Se w W n vo vu g o) (hb : Below W.heap.size W W') : Se w W' n vo vu g o :=
  ⟨(hb.block _ (Array.getElem?_eq_some_iff.1 h.bp).1).trans h.bp, (hb.block _ (Array.getElem?_eq_some_iff.1 h.br).1).trans h.br, (hb.block _ (Array.getElem?_eq_some_iff.1 h.bo).1).trans h.bo, h.hg, Below.next h.bl hb⟩
/-- The step written over. -/
theorem Se.put {w W : World} {n : Nat} {vo vu : Value} {g : Nat} {o : O4} (h : Se w W n vo vu g o) (x : O4) : Se w (set4 W g 0 x) n vo vu g x := by
  have hs := set4_grown W g 0 x
  have hg := h.hg
  refine ⟨(hs.block _ (Array.getElem?_eq_some_iff.1 h.bp).1 (fun e => by have := Option.some.inj e; omega)).trans h.bp, (hs.block _ (Array.getElem?_eq_some_iff.1 h.br).1 (fun e => by have := Option.some.inj e; omega)).trans h.br, set_blk (set_blk (set_blk (set_blk h.bo 0 _) 1 _) 2 _) 3 _, hg, h.bl.grown hs h.bl.size (fun k e => by cases e; omega)⟩
theorem Se.kind {w W : World} {n : Nat} {vo vu : Value} {g : Nat} {o : O4} (h : Se w W n vo vu g o) (k : Int) : Se w (W.setCell ⟨g, 0, none⟩ (.int .u8 k)) n vo vu g ⟨k, o.a, o.b, o.c⟩ := by
  have hs := set1_grown W g 0 (.int .u8 k)
  have hg := h.hg
  refine ⟨(hs.block _ (Array.getElem?_eq_some_iff.1 h.bp).1 (fun e => by have := Option.some.inj e; omega)).trans h.bp, (hs.block _ (Array.getElem?_eq_some_iff.1 h.br).1 (fun e => by have := Option.some.inj e; omega)).trans h.br, set_blk h.bo 0 _, hg, h.bl.grown hs h.bl.size (fun k e => by cases e; omega)⟩
/-- The list made longer. -/
theorem Se.list {w W : World} {n : Nat} {vo vu : Value} {g : Nat} {o : O4} (h : Se w W n vo vu g o) (v : Value) : Se w (W.setCell ⟨w.heap.size, 1, none⟩ v) n v vu g o := by
  have hs := set1_grown W w.heap.size 1 v
  have hg := h.hg
  refine ⟨set_blk h.bp 1 _, (hs.block _ (Array.getElem?_eq_some_iff.1 h.br).1 (fun e => by have := Option.some.inj e; omega)).trans h.br, (hs.block _ (Array.getElem?_eq_some_iff.1 h.bo).1 (fun e => by have := Option.some.inj e; omega)).trans h.bo, hg, h.bl.grown hs h.bl.size (fun k e => by cases e; omega)⟩
/-- Both appends of the document's step, in whatever order its fresh blocks were made. -/
theorem step_app {V : World} {vo : Value} {ops : List O4} (ho : Lm opw 4 V vo ops) (hl : ops.length ≤ 256) (o : O4) :
    (∃ (a1 : Option Addr) (c1 : Nat) (W1 : World) (a2 : Option Addr) (c2 : Nat) (W2 : World), (Builtin.append_ #[22, 22] 22 #[.slice (some ⟨V.heap.size, 0, none⟩) 0 0, vo]).run Tryd.prog (V.alloc (.cells #[] 47)).drew = .ok (.slice a1 ops.length c1) W1 ∧ Below V.heap.size V W1 ∧
      (Builtin.append_ #[22, 22] 22 #[.slice a1 ops.length c1, .slice (some ⟨W1.heap.size, 0, none⟩) 1 1]).run Tryd.prog (W1.alloc (.cells #[.int .u8 o.k, .int .i64 o.a, .int .i64 o.b, .int .u64 o.c] 47)) = .ok (.slice a2 (ops.length + 1) c2) W2 ∧ Below V.heap.size V W2 ∧ W2.ownsRow V.heap.size 47 4 (.slice a2 (ops.length + 1) c2) (ops.length + 1) ((ops ++ [o]).flatMap opw)) ∧
    (∃ (a1 : Option Addr) (c1 : Nat) (W1 : World) (a2 : Option Addr) (c2 : Nat) (W2 : World), (Builtin.append_ #[22, 22] 22 #[.slice (some ⟨V.heap.size, 0, none⟩) 0 0, vo]).run Tryd.prog ((V.alloc (.cells #[] 47)).alloc (.cells #[.int .u8 o.k, .int .i64 o.a, .int .i64 o.b, .int .u64 o.c] 47)).drew = .ok (.slice a1 ops.length c1) W1 ∧ Below V.heap.size V W1 ∧
      (Builtin.append_ #[22, 22] 22 #[.slice a1 ops.length c1, .slice (some ⟨V.heap.size + 1, 0, none⟩) 1 1]).run Tryd.prog W1 = .ok (.slice a2 (ops.length + 1) c2) W2 ∧ Below V.heap.size V W2 ∧ W2.ownsRow V.heap.size 47 4 (.slice a2 (ops.length + 1) c2) (ops.length + 1) ((ops ++ [o]).flatMap opw)) ∧
    (∃ (a1 : Option Addr) (c1 : Nat) (W1 : World) (a2 : Option Addr) (c2 : Nat) (W2 : World), (Builtin.append_ #[22, 22] 22 #[.slice (some ⟨V.heap.size + 1, 0, none⟩) 0 0, vo]).run Tryd.prog ((V.alloc (.cells #[.int .u8 o.k, .int .i64 o.a, .int .i64 o.b, .int .u64 o.c] 47)).alloc (.cells #[] 47)).drew = .ok (.slice a1 ops.length c1) W1 ∧ Below V.heap.size V W1 ∧
      (Builtin.append_ #[22, 22] 22 #[.slice a1 ops.length c1, .slice (some ⟨V.heap.size, 0, none⟩) 1 1]).run Tryd.prog W1 = .ok (.slice a2 (ops.length + 1) c2) W2 ∧ Below V.heap.size V W2 ∧ W2.ownsRow V.heap.size 47 4 (.slice a2 (ops.length + 1) c2) (ops.length + 1) ((ops ++ [o]).flatMap opw)) := by
  have key : ∀ (W : World) (e : Nat), Below V.heap.size V W → W.heap[e]? = some (.cells #[] 47 (0, 0)) → V.heap.size ≤ e → ∃ (a1 : Option Addr) (c1 : Nat) (W1 : World), (Builtin.append_ #[22, 22] 22 #[.slice (some ⟨e, 0, none⟩) 0 0, vo]).run Tryd.prog W = .ok (.slice a1 ops.length c1) W1 ∧ W1.ownsRow V.heap.size 47 4 (.slice a1 ops.length c1) ops.length (ops.flatMap opw) ∧ Below V.heap.size V W1 ∧ W.grownBy W1 (some e) := fun W e hb he hle => by
    obtain ⟨a1, c1, W1, hr, ho1, hb1, hg1⟩ := appO0 W W e V.heap.size ops vo he hle (ho.below hb) (by omega)
    exact ⟨a1, c1, W1, hr, ho1, hb.trans hb1, hg1⟩
  refine ⟨?_, ?_, ?_⟩
  · have hA := (alloc_below V (.cells #[] 47)).drew
    obtain ⟨a1, c1, W1, hr1, ho1, hb1, hg1⟩ := key (V.alloc (.cells #[] 47)).drew V.heap.size hA (heap_alloc_new V _) (Nat.le_refl _)
    have hA1 := alloc_below W1 (.cells #[.int .u8 o.k, .int .i64 o.a, .int .i64 o.b, .int .u64 o.c] 47)
    obtain ⟨a2, c2, W2, hr2, ho2, hb2, _⟩ := appO1 (W1.alloc (.cells #[.int .u8 o.k, .int .i64 o.a, .int .i64 o.b, .int .u64 o.c] 47)) V.heap.size _ ops ⟨W1.heap.size, 0, none⟩ o (own_kept ho1 (below_own hA1) (fun g _ => by simp)) (op_cells (heap_alloc_new W1 _)) (by omega) (Nat.le_trans hb1.size hA1.size)
    exact ⟨a1, c1, W1, a2, c2, W2, hr1, hb1, hr2, (Below.next hb1 hA1).trans hb2, ho2⟩
  · obtain ⟨n1, n2, hA⟩ := alloc2 V (.cells #[] 47) (.cells #[.int .u8 o.k, .int .i64 o.a, .int .i64 o.b, .int .u64 o.c] 47)
    obtain ⟨a1, c1, W1, hr1, ho1, hb1, hg1⟩ := key ((V.alloc (.cells #[] 47)).alloc (.cells #[.int .u8 o.k, .int .i64 o.a, .int .i64 o.b, .int .u64 o.c] 47)).drew V.heap.size hA.drew n1 (Nat.le_refl _)
    have m2 := (hg1.block (V.heap.size + 1) (Array.getElem?_eq_some_iff.1 n2).1 (fun e => by have := Option.some.inj e; omega)).trans n2
    obtain ⟨a2, c2, W2, hr2, ho2, hb2, _⟩ := appO1 W1 V.heap.size _ ops ⟨V.heap.size + 1, 0, none⟩ o ho1 (op_cells m2) (by omega) hb1.size
    exact ⟨a1, c1, W1, a2, c2, W2, hr1, hb1, hr2, hb1.trans hb2, ho2⟩
  · obtain ⟨n1, n2, hA⟩ := alloc2 V (.cells #[.int .u8 o.k, .int .i64 o.a, .int .i64 o.b, .int .u64 o.c] 47) (.cells #[] 47)
    obtain ⟨a1, c1, W1, hr1, ho1, hb1, hg1⟩ := key ((V.alloc (.cells #[.int .u8 o.k, .int .i64 o.a, .int .i64 o.b, .int .u64 o.c] 47)).alloc (.cells #[] 47)).drew (V.heap.size + 1) hA.drew n2 (by omega)
    have m1 := (hg1.block V.heap.size (Array.getElem?_eq_some_iff.1 n1).1 (fun e => by have := Option.some.inj e; omega)).trans n1
    obtain ⟨a2, c2, W2, hr2, ho2, hb2, _⟩ := appO1 W1 V.heap.size _ ops ⟨V.heap.size, 0, none⟩ o ho1 (op_cells m1) (by omega) hb1.size
    exact ⟨a1, c1, W1, a2, c2, W2, hr1, hb1, hr2, hb1.trans hb2, ho2⟩

end Go.Proofs.YtjkialmhajbcfaaDoor

namespace Go.Proofs.YtjkialmhajbcfaaDoor
open Go.RowKit Fld Slp
set_option linter.unusedVariables false
set_option linter.unusedSimpArgs false

/-- The answer's block, the program under way at b8, the lines. -/
structure Rr (w W : World) (b8 : Nat) (inp : Int) (vo vu : Value) (ops : List O4) (outs : List Int) (vl : Value) (tl : List Tx) : Prop where
  br : W.heap[w.heap.size]? = some (.cells #[.int .i64 0, .slice none 0 0, .slice none 0 0] 25 (0, 0))
  bp : W.heap[b8]? = some (.cells #[.int .i64 inp, vo, vu] 25 (0, 0))
  hb : w.heap.size < b8
  ro : W.ownsRow (w.heap.size + 1) 47 4 vo ops.length (ops.flatMap opw)
  ru : W.ownsRow (w.heap.size + 1) 3 1 vu outs.length (outs.flatMap iw)
  rl : W.ownsRow (w.heap.size + 1) 9 1 vl tl.length (tl.flatMap sw)
  bl : Below w.heap.size w W
theorem Rr.size {w W : World} {b8 : Nat} {inp : Int} {vo vu : Value} {ops : List O4} {outs : List Int} {vl : Value} {tl : List Tx} (h : Rr w W b8 inp vo vu ops outs vl tl) : w.heap.size + 1 ≤ W.heap.size := (Array.getElem?_eq_some_iff.1 h.br).1
theorem Rr.below {w W W' : World} {b8 : Nat} {inp : Int} {vo vu : Value} {ops : List O4} {outs : List Int} {vl : Value} {tl : List Tx} (h : Rr w W b8 inp vo vu ops outs vl tl) (hb : Below W.heap.size W W') : Rr w W' b8 inp vo vu ops outs vl tl :=
  ⟨(hb.block _ (Array.getElem?_eq_some_iff.1 h.br).1).trans h.br, (hb.block _ (Array.getElem?_eq_some_iff.1 h.bp).1).trans h.bp, h.hb, own_kept h.ro (below_own hb) (fun g _ => by simp), own_kept h.ru (below_own hb) (fun g _ => by simp), own_kept h.rl (below_own hb) (fun g _ => by simp), Below.next h.bl hb⟩
/-- The number of inputs written. -/
theorem Rr.inp {w W : World} {b8 : Nat} {inp : Int} {vo vu : Value} {ops : List O4} {outs : List Int} {vl : Value} {tl : List Tx} (h : Rr w W b8 inp vo vu ops outs vl tl) (n : Int) : Rr w (W.setCell ⟨b8, 0, none⟩ (.int .i64 n)) b8 n vo vu ops outs vl tl := by
  have hs := set1_grown W b8 0 (.int .i64 n)
  have hb := h.hb
  exact ⟨(hs.block _ (Array.getElem?_eq_some_iff.1 h.br).1 (fun e => by have := Option.some.inj e; omega)).trans h.br, set_blk h.bp 0 _, hb, own_kept h.ro hs (fun g hg e => own_not h.ro h.bp (by decide) (hg.trans e.symm)), own_kept h.ru hs (fun g hg e => own_not h.ru h.bp (by decide) (hg.trans e.symm)), own_kept h.rl hs (fun g hg e => own_not h.rl h.bp (by decide) (hg.trans e.symm)), h.bl.grown hs h.bl.size (fun k e => by cases e; omega)⟩
theorem appI1w (W : World) (base : Nat) (u : Value) (A : List Int) (a : Addr) (x : Int) (hO : W.ownsRow base 3 1 u A.length (A.flatMap iw)) (hc : W.cell? a = some (.int .i64 x)) (hl : A.length ≤ 2000000) (hb : base ≤ W.heap.size) :
    ∃ (au' : Option Addr) (cu' : Nat) (W' : World), (Builtin.append_ #[23, 23] 23 #[u, .slice (some a) 1 1]).run Tryd.prog W = .ok (.slice au' (A.length + 1) cu') W' ∧ W'.ownsRow base 3 1 (.slice au' (A.length + 1) cu') (A ++ [x]).length ((A ++ [x]).flatMap iw) ∧ Below base W W' ∧ W.grownBy W' u.ownBlock := by
  obtain ⟨i0, hi0, hz0, hz1, hz2⟩ := info_parts int_info
  obtain ⟨v', W', hr, ho, hg, _, hbk⟩ := run_append_own_at (P := Tryd.prog) (w := W) base 23 23 3 i0 (.int .i64 0) 1 8 Tryd.underlying23 hi0 hz0 hz1 hz2 rfl (by decide) u A.length (A.flatMap iw) hO a 1 1 [.int .i64 x] rfl (fun j u hj => by
    cases j with
    | zero => simp at hj; rw [← hj]; exact hc
    | succ j => simp at hj) (by simp [Value.oneCell']) (by unfold maxLen; omega) (by omega) hb
  obtain ⟨au', cu', rfl⟩ := own_slice ho
  refine ⟨au', cu', W', hr, ?_, (Below.refl base W).grown hg hb (fun k hk => own_base hO k hk), hg⟩
  rw [List.flatMap_append, List.length_append]; exact ho
/-- A number appended to its outs. -/
theorem Rr.out {w W : World} {b8 : Nat} {inp : Int} {vo vu : Value} {ops : List O4} {outs : List Int} {vl : Value} {tl : List Tx} (h : Rr w W b8 inp vo vu ops outs vl tl) (x : Int) (hl : outs.length ≤ 2000000) :
    ∃ (au' : Option Addr) (cu' : Nat) (W' : World), (Builtin.append_ #[23, 23] 23 #[vu, .slice (some ⟨W.heap.size, 0, none⟩) 1 1]).run Tryd.prog (W.alloc (.cells #[.int .i64 x] 3)) = .ok (.slice au' (outs.length + 1) cu') W' ∧ W'.heap[b8]? = some (.cells #[.int .i64 inp, vo, vu] 25 (0, 0)) ∧ Rr w (W'.setCell ⟨b8, 2, none⟩ (.slice au' (outs.length + 1) cu')) b8 inp vo (.slice au' (outs.length + 1) cu') ops (outs ++ [x]) vl tl ∧
      (∀ v n xs, W.ownsRow (w.heap.size + 1) 9 1 v n xs → W'.ownsRow (w.heap.size + 1) 9 1 v n xs ∧ (W'.setCell ⟨b8, 2, none⟩ (.slice au' (outs.length + 1) cu')).ownsRow (w.heap.size + 1) 9 1 v n xs) := by
  have hA := alloc_below W (.cells #[.int .i64 x] 3)
  have h1 := h.below hA
  obtain ⟨au', cu', W', hr, ho, hb, hg⟩ := appI1w _ (w.heap.size + 1) vu outs ⟨W.heap.size, 0, none⟩ x h1.ru (by rw [Lib.cell_of_heap (heap_alloc_new W _)]; rfl) hl h1.size
  have hr0 : W'.heap[w.heap.size]? = _ := (hg.block _ (Array.getElem?_eq_some_iff.1 h1.br).1 (fun e => own_not h1.ru h1.br (by decide) e.symm)).trans h1.br
  have hp0 : W'.heap[b8]? = _ := (hg.block _ (Array.getElem?_eq_some_iff.1 h1.bp).1 (fun e => own_not h1.ru h1.bp (by decide) e.symm)).trans h1.bp
  have hstr : ∀ v n xs, W.ownsRow (w.heap.size + 1) 9 1 v n xs → W'.ownsRow (w.heap.size + 1) 9 1 v n xs := fun v n xs hv => by
    have hv1 := own_kept hv (below_own hA) (fun g _ => by simp)
    exact own_kept hv1 hg (fun g hg' => by
      obtain ⟨cs, hcs⟩ := own_blk hv1 hg'
      exact own_not h1.ru hcs (by decide))
  have hro : W'.ownsRow (w.heap.size + 1) 47 4 vo ops.length (ops.flatMap opw) := own_kept h1.ro hg (fun g hg' => by
    obtain ⟨cs, hcs⟩ := own_blk h1.ro hg'
    exact own_not h1.ru hcs (by decide))
  have hs := set1_grown W' b8 2 (.slice au' (outs.length + 1) cu')
  have hb8 := h.hb
  have hset : ∀ v n xs, W.ownsRow (w.heap.size + 1) 9 1 v n xs → (W'.setCell ⟨b8, 2, none⟩ (.slice au' (outs.length + 1) cu')).ownsRow (w.heap.size + 1) 9 1 v n xs := fun v n xs hv => own_kept (hstr v n xs hv) hs (fun g hg' e => own_not (hstr v n xs hv) hp0 (by decide) (hg'.trans e.symm))
  have hbl := h1.bl.trans (hb.mono (Nat.le_succ _))
  refine ⟨au', cu', W', hr, hp0, ⟨(hs.block _ (Array.getElem?_eq_some_iff.1 hr0).1 (fun e => by have := Option.some.inj e; omega)).trans hr0, set_blk hp0 2 _, hb8, own_kept hro hs (fun g hg' e => own_not hro hp0 (by decide) (hg'.trans e.symm)), own_kept ho hs (fun g hg' e => own_not ho hp0 (by decide) (hg'.trans e.symm)), hset _ _ _ h.rl, hbl.grown hs (Nat.le_trans (Nat.le_of_succ_le h1.size) hg.size) (fun k e => by cases e; omega)⟩, fun v n xs hv => ⟨hstr v n xs hv, hset v n xs hv⟩⟩
/-- A step appended to its steps. -/
theorem Rr.op {w W : World} {b8 : Nat} {inp : Int} {vo vu : Value} {ops : List O4} {outs : List Int} {vl : Value} {tl : List Tx} (h : Rr w W b8 inp vo vu ops outs vl tl) (o : O4) (hl : ops.length ≤ 1000) :
    ∃ (au' : Option Addr) (cu' : Nat) (W' : World), (Builtin.append_ #[22, 22] 22 #[vo, .slice (some ⟨W.heap.size, 0, none⟩) 1 1]).run Tryd.prog (W.alloc (.cells #[.int .u8 o.k, .int .i64 o.a, .int .i64 o.b, .int .u64 o.c] 47)) = .ok (.slice au' (ops.length + 1) cu') W' ∧ W'.heap[b8]? = some (.cells #[.int .i64 inp, vo, vu] 25 (0, 0)) ∧ Rr w (W'.setCell ⟨b8, 1, none⟩ (.slice au' (ops.length + 1) cu')) b8 inp (.slice au' (ops.length + 1) cu') vu (ops ++ [o]) outs vl tl := by
  have hA := alloc_below W (.cells #[.int .u8 o.k, .int .i64 o.a, .int .i64 o.b, .int .u64 o.c] 47)
  have h1 := h.below hA
  obtain ⟨au', cu', W', hr, ho, hb, hg⟩ := appO1 _ (w.heap.size + 1) vo ops ⟨W.heap.size, 0, none⟩ o h1.ro (op_cells (heap_alloc_new W _)) hl h1.size
  have hr0 : W'.heap[w.heap.size]? = _ := (hg.block _ (Array.getElem?_eq_some_iff.1 h1.br).1 (fun e => own_not h1.ro h1.br (by decide) e.symm)).trans h1.br
  have hp0 : W'.heap[b8]? = _ := (hg.block _ (Array.getElem?_eq_some_iff.1 h1.bp).1 (fun e => own_not h1.ro h1.bp (by decide) e.symm)).trans h1.bp
  have hkeep : ∀ {T : TypeId} {s n : Nat} {v : Value} {xs : List Value}, T ≠ 47 → W.ownsRow (w.heap.size + 1) T s v n xs → W'.ownsRow (w.heap.size + 1) T s v n xs := fun hT hv => by
    have hv1 := own_kept hv (below_own hA) (fun g _ => by simp)
    exact own_kept hv1 hg (fun g hg' => by
      obtain ⟨cs, hcs⟩ := own_blk hv1 hg'
      exact own_not h1.ro hcs hT)
  have hs := set1_grown W' b8 1 (.slice au' (ops.length + 1) cu')
  have hb8 := h.hb
  have hset : ∀ {T : TypeId} {s n : Nat} {v : Value} {xs : List Value}, 25 ≠ T → W'.ownsRow (w.heap.size + 1) T s v n xs → (W'.setCell ⟨b8, 1, none⟩ (.slice au' (ops.length + 1) cu')).ownsRow (w.heap.size + 1) T s v n xs := fun hT hv => own_kept hv hs (fun g hg' e => own_not hv hp0 hT (hg'.trans e.symm))
  have hbl := h1.bl.trans (hb.mono (Nat.le_succ _))
  have ho2 : W'.ownsRow (w.heap.size + 1) 47 4 (.slice au' (ops.length + 1) cu') (ops ++ [o]).length ((ops ++ [o]).flatMap opw) := by rw [List.length_append]; exact ho
  exact ⟨au', cu', W', hr, hp0, ⟨(hs.block _ (Array.getElem?_eq_some_iff.1 hr0).1 (fun e => by have := Option.some.inj e; omega)).trans hr0, set_blk hp0 1 _, hb8, hset (by decide) ho2, hset (by decide) (hkeep (by decide) h.ru), hset (by decide) (hkeep (by decide) h.rl), hbl.grown hs (Nat.le_trans (Nat.le_of_succ_le h1.size) hg.size) (fun k e => by cases e; omega)⟩⟩
/-- The program under way, as a program in memory. -/
theorem Rr.pm {w W : World} {b8 : Nat} {inp : Int} {vo vu : Value} {ops : List O4} {outs : List Int} {vl : Value} {tl : List Tx} (h : Rr w W b8 inp vo vu ops outs vl tl) (hi : -9223372036854775808 ≤ inp ∧ inp ≤ 9223372036854775807) (hl : ops.length ≤ 1000) (hl2 : outs.length ≤ 2000000) (hok : ∀ o ∈ ops, Ok4 o) (hou : Iw outs) : Pm W (.agg #[.int .i64 inp, vo, vu]) ⟨inp, ops, outs⟩ :=
  ⟨⟨vo, vu, rfl, lm_of_own opw_len (by decide) h.ro (by show ops.length ≤ _; omega), lm_of_own iw_len (by decide) h.ru (by show outs.length ≤ _; omega)⟩, hi, hok, hou⟩

end Go.Proofs.YtjkialmhajbcfaaDoor

