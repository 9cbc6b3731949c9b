/-
  Layer 9: SlpFresh: the copies, the two answers, and one of them written over, in memory.
-/
import Derived.Test.YtjkialmhajbcfaaDoorBSlxM
import Derived.Test.YtjkialmhajbcfaaDoorBSlxD
namespace Go.Proofs.YtjkialmhajbcfaaDoor
open Go.RowKit Fld Slp
set_option linter.unusedVariables false
set_option linter.unusedSimpArgs false

/-- p, q and their copies. -/
structure Fc (w W : World) (p q : Pr) (po pu qo qu : Value) (b5 b6 : Nat) (ao au bo bu : Value) : Prop where
  bp : W.heap[w.heap.size]? = some (.cells #[.int .i64 p.inp, po, pu] 25 (0, 0))
  bq : W.heap[w.heap.size + 1]? = some (.cells #[.int .i64 q.inp, qo, qu] 25 (0, 0))
  ba : W.heap[b5]? = some (.cells #[.int .i64 p.inp, ao, au] 25 (0, 0))
  bb : W.heap[b6]? = some (.cells #[.int .i64 q.inp, bo, bu] 25 (0, 0))
  ra : W.ownsRow (w.heap.size + 2) 47 4 ao p.ops.length (p.ops.flatMap opw)
  sa : W.ownsRow (w.heap.size + 2) 3 1 au p.outs.length (p.outs.flatMap iw)
  rb : W.ownsRow (w.heap.size + 2) 47 4 bo q.ops.length (q.ops.flatMap opw)
  sb : W.ownsRow (w.heap.size + 2) 3 1 bu q.outs.length (q.outs.flatMap iw)
  bl : Below w.heap.size w W
theorem Fc.below {w W W' : World} {p q : Pr} {po pu qo qu : Value} {b5 b6 : Nat} {ao au bo bu : Value} (h : Fc w W p q po pu qo qu b5 b6 ao au bo bu) (hb : Below W.heap.size W W') : Fc w W' p q po pu qo qu b5 b6 ao au bo bu :=
  ⟨(hb.block _ (Array.getElem?_eq_some_iff.1 h.bp).1).trans h.bp, (hb.block _ (Array.getElem?_eq_some_iff.1 h.bq).1).trans h.bq, (hb.block _ (Array.getElem?_eq_some_iff.1 h.ba).1).trans h.ba, (hb.block _ (Array.getElem?_eq_some_iff.1 h.bb).1).trans h.bb,
    own_kept h.ra (below_own hb) (fun g _ => by simp), own_kept h.sa (below_own hb) (fun g _ => by simp), own_kept h.rb (below_own hb) (fun g _ => by simp), own_kept h.sb (below_own hb) (fun g _ => by simp), Below.next h.bl hb⟩
theorem pm_own {w W : World} {v vo vu : Value} {p : Pr} {B : Nat} (hp : Pm w v p) (ho : W.ownsRow B 47 4 vo p.ops.length (p.ops.flatMap opw)) (hu : W.ownsRow B 3 1 vu p.outs.length (p.outs.flatMap iw)) : Pm W (.agg #[.int .i64 p.inp, vo, vu]) p := by
  obtain ⟨xo, xu, _, l1, l2⟩ := hp.form
  exact ⟨⟨vo, vu, rfl, lm_of_own opw_len (by decide) ho l1.len, lm_of_own iw_len (by decide) hu l2.len⟩, hp.inb, hp.okb, hp.oub⟩
/-- Behind both copies: p, q and the copies' lists. -/
structure Fd (w W : World) (p q : Pr) (po pu qo qu : Value) (ao au bo bu : Value) : Prop where
  bp : W.heap[w.heap.size]? = some (.cells #[.int .i64 p.inp, po, pu] 25 (0, 0))
  bq : W.heap[w.heap.size + 1]? = some (.cells #[.int .i64 q.inp, qo, qu] 25 (0, 0))
  ra : W.ownsRow (w.heap.size + 2) 47 4 ao p.ops.length (p.ops.flatMap opw)
  sa : W.ownsRow (w.heap.size + 2) 3 1 au p.outs.length (p.outs.flatMap iw)
  rb : W.ownsRow (w.heap.size + 2) 47 4 bo q.ops.length (q.ops.flatMap opw)
  sb : W.ownsRow (w.heap.size + 2) 3 1 bu q.outs.length (q.outs.flatMap iw)
  bl : Below w.heap.size w W
theorem Fd.below {w W W' : World} {p q : Pr} {po pu qo qu : Value} {ao au bo bu : Value} (h : Fd w W p q po pu qo qu ao au bo bu) (hb : Below W.heap.size W W') : Fd w W' p q po pu qo qu ao au bo bu :=
  ⟨(hb.block _ (Array.getElem?_eq_some_iff.1 h.bp).1).trans h.bp, (hb.block _ (Array.getElem?_eq_some_iff.1 h.bq).1).trans h.bq,
    own_kept h.ra (below_own hb) (fun g _ => by simp), own_kept h.sa (below_own hb) (fun g _ => by simp), own_kept h.rb (below_own hb) (fun g _ => by simp), own_kept h.sb (below_own hb) (fun g _ => by simp), Below.next h.bl hb⟩
/-- A program stored over a block that holds one. -/
theorem Fd.set {w W : World} {p q : Pr} {po pu qo qu : Value} {ao au bo bu : Value} (h : Fd w W p q po pu qo qu ao au bo bu) {g : Nat} {z : Array Value} (hg : W.heap[g]? = some (.cells z 25 (0, 0))) (hl : w.heap.size + 2 ≤ g) (x y u : Value) : Fd w (((W.setCell ⟨g, 0, none⟩ x).setCell ⟨g, 1, none⟩ y).setCell ⟨g, 2, none⟩ u) p q po pu qo qu ao au bo bu := by
  have hs := set3_grown W g x y u
  have hn : ∀ {T : TypeId} {s n : Nat} {v : Value} {xs : List Value}, 25 ≠ T → W.ownsRow (w.heap.size + 2) T s v n xs → (((W.setCell ⟨g, 0, none⟩ x).setCell ⟨g, 1, none⟩ y).setCell ⟨g, 2, none⟩ u).ownsRow (w.heap.size + 2) T s v n xs := fun hT hr => own_kept hr hs (fun k hk e => own_not hr hg hT (hk.trans e.symm))
  exact ⟨(hs.block _ (Array.getElem?_eq_some_iff.1 h.bp).1 (fun e => by have := Option.some.inj e; omega)).trans h.bp, (hs.block _ (Array.getElem?_eq_some_iff.1 h.bq).1 (fun e => by have := Option.some.inj e; omega)).trans h.bq, hn (by decide) h.ra, hn (by decide) h.sa, hn (by decide) h.rb, hn (by decide) h.sb, h.bl.grown hs h.bl.size (fun k e => by cases e; omega)⟩
theorem Fd.fc {w W : World} {p q : Pr} {po pu qo qu : Value} {ao au bo bu : Value} (h : Fd w W p q po pu qo qu ao au bo bu) {b5 b6 : Nat} (h5 : W.heap[b5]? = some (.cells #[.int .i64 p.inp, ao, au] 25 (0, 0))) (h6 : W.heap[b6]? = some (.cells #[.int .i64 q.inp, bo, bu] 25 (0, 0))) : Fc w W p q po pu qo qu b5 b6 ao au bo bu := ⟨h.bp, h.bq, h5, h6, h.ra, h.sa, h.rb, h.sb, h.bl⟩
theorem set3_far {W : World} {g k : Nat} (hk : k ≠ g) (x y u : Value) : (((W.setCell ⟨g, 0, none⟩ x).setCell ⟨g, 1, none⟩ y).setCell ⟨g, 2, none⟩ u).heap[k]? = W.heap[k]? := by
  rw [Below.heap_setCell _ _ _ k hk, Below.heap_setCell _ _ _ k hk, Below.heap_setCell _ _ _ k hk]
theorem set3_here {W : World} {g : Nat} {a b c : Value} (hg : W.heap[g]? = some (.cells #[a, b, c] 25 (0, 0))) (x y u : Value) : (((W.setCell ⟨g, 0, none⟩ x).setCell ⟨g, 1, none⟩ y).setCell ⟨g, 2, none⟩ u).heap[g]? = some (.cells #[x, y, u] 25 (0, 0)) := set_blk (set_blk (set_blk hg 0 x) 1 y) 2 u
theorem fd_of {w W w1 w2 : World} {p q : Pr} {po pu qo qu ao au bo bu : Value} {B1 B2 : Nat} (n1 : W.heap[w.heap.size]? = some (.cells #[.int .i64 p.inp, po, pu] 25 (0, 0))) (n2 : W.heap[w.heap.size + 1]? = some (.cells #[.int .i64 q.inp, qo, qu] 25 (0, 0))) (hBB : Below w.heap.size w W) (hB1 : Below W.heap.size W w1) (hB2 : Below w1.heap.size w1 w2)
    (h1 : w.heap.size + 2 ≤ B1) (h2 : w.heap.size + 2 ≤ B2) (ho1 : w1.ownsRow B1 47 4 ao p.ops.length (p.ops.flatMap opw)) (hu1 : w1.ownsRow B1 3 1 au p.outs.length (p.outs.flatMap iw)) (ho2 : w2.ownsRow B2 47 4 bo q.ops.length (q.ops.flatMap opw)) (hu2 : w2.ownsRow B2 3 1 bu q.outs.length (q.outs.flatMap iw)) : Fd w w2 p q po pu qo qu ao au bo bu := by
  have hW := Below.next hB1 hB2
  exact ⟨(hW.block _ (Array.getElem?_eq_some_iff.1 n1).1).trans n1, (hW.block _ (Array.getElem?_eq_some_iff.1 n2).1).trans n2, own_mono (own_kept ho1 (below_own hB2) (fun g _ => by simp)) h1, own_mono (own_kept hu1 (below_own hB2) (fun g _ => by simp)) h1, own_mono ho2 h2, own_mono hu2 h2, Below.next hBB hW⟩
/-- Both blocks are made behind the copies. -/
theorem Fd.after {w W : World} {p q : Pr} {po pu qo qu : Value} {ao au bo bu : Value} (h : Fd w W p q po pu qo qu ao au bo bu) : Fc w ((W.alloc (.cells #[.int .i64 p.inp, ao, au] 25)).alloc (.cells #[.int .i64 q.inp, bo, bu] 25)) p q po pu qo qu W.heap.size (W.heap.size + 1) ao au bo bu ∧ Fc w ((W.alloc (.cells #[.int .i64 q.inp, bo, bu] 25)).alloc (.cells #[.int .i64 p.inp, ao, au] 25)) p q po pu qo qu (W.heap.size + 1) W.heap.size ao au bo bu := by
  obtain ⟨n1, n2, hB⟩ := alloc2 W (.cells #[.int .i64 p.inp, ao, au] 25) (.cells #[.int .i64 q.inp, bo, bu] 25)
  obtain ⟨m1, m2, hC⟩ := alloc2 W (.cells #[.int .i64 q.inp, bo, bu] 25) (.cells #[.int .i64 p.inp, ao, au] 25)
  exact ⟨(h.below hB).fc n1 n2, (h.below hC).fc m2 m1⟩
/-- One is there, the other one is made behind. -/
theorem Fd.mid {w W : World} {p q : Pr} {po pu qo qu : Value} {ao au bo bu : Value} (h : Fd w W p q po pu qo qu ao au bo bu) {g : Nat} {a b c : Value} (hg : W.heap[g]? = some (.cells #[a, b, c] 25 (0, 0))) (hl : w.heap.size + 2 ≤ g) :
    Fc w ((((W.setCell ⟨g, 0, none⟩ (.int .i64 p.inp)).setCell ⟨g, 1, none⟩ ao).setCell ⟨g, 2, none⟩ au).alloc (.cells #[.int .i64 q.inp, bo, bu] 25)) p q po pu qo qu g W.heap.size ao au bo bu ∧ Fc w ((((W.setCell ⟨g, 0, none⟩ (.int .i64 q.inp)).setCell ⟨g, 1, none⟩ bo).setCell ⟨g, 2, none⟩ bu).alloc (.cells #[.int .i64 p.inp, ao, au] 25)) p q po pu qo qu W.heap.size g ao au bo bu := by
  have hsz : ∀ x y u, (((W.setCell ⟨g, 0, none⟩ x).setCell ⟨g, 1, none⟩ y).setCell ⟨g, 2, none⟩ u).heap.size = W.heap.size := fun x y u => by simp [World.setCell]
  constructor
  · have hf := (h.set hg hl (.int .i64 p.inp) ao au)
    have hh := set3_here hg (.int .i64 p.inp) ao au
    have hA := alloc_below (((W.setCell ⟨g, 0, none⟩ (.int .i64 p.inp)).setCell ⟨g, 1, none⟩ ao).setCell ⟨g, 2, none⟩ au) (.cells #[.int .i64 q.inp, bo, bu] 25)
    have hN := heap_alloc_new (((W.setCell ⟨g, 0, none⟩ (.int .i64 p.inp)).setCell ⟨g, 1, none⟩ ao).setCell ⟨g, 2, none⟩ au) (.cells #[.int .i64 q.inp, bo, bu] 25)
    rw [hsz] at hN
    exact (hf.below hA).fc ((hA.block _ (Array.getElem?_eq_some_iff.1 hh).1).trans hh) hN
  · have hf := (h.set hg hl (.int .i64 q.inp) bo bu)
    have hh := set3_here hg (.int .i64 q.inp) bo bu
    have hA := alloc_below (((W.setCell ⟨g, 0, none⟩ (.int .i64 q.inp)).setCell ⟨g, 1, none⟩ bo).setCell ⟨g, 2, none⟩ bu) (.cells #[.int .i64 p.inp, ao, au] 25)
    have hN := heap_alloc_new (((W.setCell ⟨g, 0, none⟩ (.int .i64 q.inp)).setCell ⟨g, 1, none⟩ bo).setCell ⟨g, 2, none⟩ bu) (.cells #[.int .i64 p.inp, ao, au] 25)
    rw [hsz] at hN
    exact (hf.below hA).fc hN ((hA.block _ (Array.getElem?_eq_some_iff.1 hh).1).trans hh)
/-- A block that is not the one written. -/
theorem far3 {V : World} {g k : Nat} {a b c : Value} (hne : k ≠ g) (h : V.heap[k]? = some (.cells #[a, b, c] 25 (0, 0))) (x y u : Value) : ((((V.setCell ⟨g, 0, none⟩ x).setCell ⟨g, 1, none⟩ y).setCell ⟨g, 2, none⟩ u).cell? ⟨k, 0, none⟩ = some a ∧ (((V.setCell ⟨g, 0, none⟩ x).setCell ⟨g, 1, none⟩ y).setCell ⟨g, 2, none⟩ u).cell? ⟨k, 1, none⟩ = some b ∧ (((V.setCell ⟨g, 0, none⟩ x).setCell ⟨g, 1, none⟩ y).setCell ⟨g, 2, none⟩ u).cell? ⟨k, 2, none⟩ = some c) ∧ ∀ j, (((V.setCell ⟨g, 0, none⟩ x).setCell ⟨g, 1, none⟩ y).setCell ⟨g, 2, none⟩ u).frozen? ⟨k, j, none⟩ = false :=
  ⟨cell3 ((set3_far hne x y u).trans h), fun j => Lib.frozen_of_heap ((set3_far hne x y u).trans h) j⟩
/-- One is written already. -/
theorem Fd.over {w W : World} {p q : Pr} {po pu qo qu : Value} {ao au bo bu : Value} (h : Fd w W p q po pu qo qu ao au bo bu) {g k : Nat} {a b c : Value} (hg : W.heap[g]? = some (.cells #[a, b, c] 25 (0, 0))) (hl : w.heap.size + 2 ≤ g) (hne : k ≠ g) :
    (W.heap[k]? = some (.cells #[.int .i64 q.inp, bo, bu] 25 (0, 0)) → Fc w (((W.setCell ⟨g, 0, none⟩ (.int .i64 p.inp)).setCell ⟨g, 1, none⟩ ao).setCell ⟨g, 2, none⟩ au) p q po pu qo qu g k ao au bo bu) ∧ (W.heap[k]? = some (.cells #[.int .i64 p.inp, ao, au] 25 (0, 0)) → Fc w (((W.setCell ⟨g, 0, none⟩ (.int .i64 q.inp)).setCell ⟨g, 1, none⟩ bo).setCell ⟨g, 2, none⟩ bu) p q po pu qo qu k g ao au bo bu) :=
  ⟨fun hk => (h.set hg hl (.int .i64 p.inp) ao au).fc (set3_here hg _ _ _) ((set3_far hne _ _ _).trans hk), fun hk => (h.set hg hl (.int .i64 q.inp) bo bu).fc ((set3_far hne _ _ _).trans hk) (set3_here hg _ _ _)⟩
/-- Both are there. -/
theorem Fd.both {w W : World} {p q : Pr} {po pu qo qu : Value} {ao au bo bu : Value} (h : Fd w W p q po pu qo qu ao au bo bu) {g k : Nat} {a b c x y z : Value} (hg : W.heap[g]? = some (.cells #[a, b, c] 25 (0, 0))) (hk : W.heap[k]? = some (.cells #[x, y, z] 25 (0, 0))) (hl : w.heap.size + 2 ≤ g) (hl2 : w.heap.size + 2 ≤ k) (hne : g ≠ k) :
    Fc w ((((((W.setCell ⟨g, 0, none⟩ (.int .i64 p.inp)).setCell ⟨g, 1, none⟩ ao).setCell ⟨g, 2, none⟩ au).setCell ⟨k, 0, none⟩ (.int .i64 q.inp)).setCell ⟨k, 1, none⟩ bo).setCell ⟨k, 2, none⟩ bu) p q po pu qo qu g k ao au bo bu := by
  have hf := (h.set hg hl (.int .i64 p.inp) ao au)
  have hh := set3_here hg (.int .i64 p.inp) ao au
  have hk' := (set3_far (Ne.symm hne) (.int .i64 p.inp) ao au).trans hk
  exact (hf.set hk' hl2 (.int .i64 q.inp) bo bu).fc ((set3_far hne _ _ _).trans hh) (set3_here hk' _ _ _)

end Go.Proofs.YtjkialmhajbcfaaDoor
