/-
  Layer 9: what After answers; the blocks of its call.
-/
import Derived.Test.YtfbipnhhnmlhfabBunM
import Derived.Test.YtfbipnhhnmlhfabBSlwB
import Derived.Deep.CutBlock
namespace Go.Proofs.Ytfbipnhhnmlhfab
open Go.RowKit Fld Slp
set_option linter.unusedVariables false
set_option linter.unusedSimpArgs false

theorem aft_low {q : Pr} {n k : Nat} (h : k < q.outs.length) : (aftAt q n).getD k 0 = q.outs[k] := by
  unfold aftAt
  rw [List.getD_eq_getElem?_getD, List.getElem?_append_left h, List.getElem?_eq_getElem h]; rfl

theorem aft_high {q : Pr} {n k : Nat} (h : ¬ k < q.outs.length) (hn : k < q.outs.length + n) : (aftAt q n).getD k 0 = q.inp + (q.ops.length : Int) + (k : Int) - (q.outs.length : Int) := by
  unfold aftAt
  have h2 : k - q.outs.length < n := by omega
  rw [List.getD_eq_getElem?_getD, List.getElem?_append_right (by omega)]
  simp [h2]
  omega

/-- What After answers. -/
def IsAfter (N : Nat) (v1 v2 : Value) (w : World) (p q : Pr) : Prop :=
  Calls Try.prog N #[v1, v2] w fun e w' => ∃ vo vu, e = .returned (.tuple #[.agg #[.int .i64 (aftP p q).inp, vo, vu], .int .i64 (aftE p q)]) ∧ w'.ownsRow w.heap.size 67 4 vo (aftP p q).ops.length ((aftP p q).ops.flatMap opw) ∧ w'.ownsRow w.heap.size 3 1 vu (aftP p q).outs.length ((aftP p q).outs.flatMap iw) ∧ Below w.heap.size w w'

/-- The three blocks of the call. -/
structure Bx (w W : World) (p q : Pr) (vo vu xo xu : Value) (r0 r1 r2 : Value) : Prop where
  p : W.heap[w.heap.size]? = some (.cells #[.int .i64 p.inp, vo, vu] 25 (0, 0))
  q : W.heap[w.heap.size + 1]? = some (.cells #[.int .i64 q.inp, xo, xu] 25 (0, 0))
  r : W.heap[w.heap.size + 1 + 1]? = some (.cells #[r0, r1, r2] 25 (0, 0))
  b : Below w.heap.size w W

theorem Bx.below {w W W' : World} {p q : Pr} {vo vu xo xu r0 r1 r2 : Value} (h : Bx w W p q vo vu xo xu r0 r1 r2) (hb : Below W.heap.size W W') : Bx w W' p q vo vu xo xu r0 r1 r2 :=
  ⟨(hb.block _ (Array.getElem?_eq_some_iff.1 h.p).1).trans h.p, (hb.block _ (Array.getElem?_eq_some_iff.1 h.q).1).trans h.q, (hb.block _ (Array.getElem?_eq_some_iff.1 h.r).1).trans h.r, Below.next h.b hb⟩

theorem Bx.setr {w W : World} {p q : Pr} {vo vu xo xu r0 r1 r2 : Value} (h : Bx w W p q vo vu xo xu r0 r1 r2) (a b c : Value) : Bx w (((W.setCell ⟨w.heap.size + 1 + 1, 0, none⟩ a).setCell ⟨w.heap.size + 1 + 1, 1, none⟩ b).setCell ⟨w.heap.size + 1 + 1, 2, none⟩ c) p q vo vu xo xu a b c := by
  have hg := set3_grown W (w.heap.size + 1 + 1) a b c
  have g1 := set_blk (set_blk (set_blk h.r 0 a) 1 b) 2 c
  refine ⟨(hg.block _ (Array.getElem?_eq_some_iff.1 h.p).1 (fun e => by have := Option.some.inj e; omega)).trans h.p, (hg.block _ (Array.getElem?_eq_some_iff.1 h.q).1 (fun e => by have := Option.some.inj e; omega)).trans h.q, g1, h.b.grown hg (by have := (Array.getElem?_eq_some_iff.1 h.r).1; omega) (fun k e => by cases e; omega)⟩

end Go.Proofs.Ytfbipnhhnmlhfab
