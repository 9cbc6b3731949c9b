/-
  Layer 9: SlpSame: the two programs that hand all on, in memory.
-/
import Derived.Test.YtjkialmhajbcfaaDoorBunY
namespace Go.Proofs.YtjkialmhajbcfaaDoor
open Go.RowKit Fld Slp
set_option linter.unusedVariables false
set_option linter.unusedSimpArgs false

/-- p at its block, what hands p's inputs on at b3, what hands p's outs on at b4. -/
structure Sm (w W : World) (p : Pr) (vo vu : Value) (b3 b4 : Nat) (ua ub : Value) (al bs : List Int) : Prop where
  bp : W.heap[w.heap.size]? = some (.cells #[.int .i64 p.inp, vo, vu] 25 (0, 0))
  ba : W.heap[b3]? = some (.cells #[.int .i64 p.inp, .slice none 0 0, ua] 25 (0, 0))
  bb : W.heap[b4]? = some (.cells #[.int .i64 (p.outs.length : Int), .slice none 0 0, ub] 25 (0, 0))
  ne : b3 ≠ b4
  ha : w.heap.size < b3
  hb : w.heap.size < b4
  ra : W.ownsRow (w.heap.size + 1) 3 1 ua al.length (al.flatMap iw)
  rb : W.ownsRow (w.heap.size + 1) 3 1 ub bs.length (bs.flatMap iw)
  nab : ∀ g, ua.ownBlock = some g → ub.ownBlock ≠ some g
  bl : Below w.heap.size w W
theorem Sm.size {w W : World} {p : Pr} {vo vu : Value} {b3 b4 : Nat} {ua ub : Value} {al bs : List Int} (h : Sm w W p vo vu b3 b4 ua ub al bs) : w.heap.size + 1 ≤ W.heap.size := (Array.getElem?_eq_some_iff.1 h.bp).1
theorem Sm.below {w W W' : World} {p : Pr} {vo vu : Value} {b3 b4 : Nat} {ua ub : Value} {al bs : List Int} (h : Sm w W p vo vu b3 b4 ua ub al bs) (hb : Below W.heap.size W W') : Sm w W' p vo vu b3 b4 ua ub al bs :=
  ⟨(hb.block _ (Array.getElem?_eq_some_iff.1 h.bp).1).trans h.bp, (hb.block _ (Array.getElem?_eq_some_iff.1 h.ba).1).trans h.ba, (hb.block _ (Array.getElem?_eq_some_iff.1 h.bb).1).trans h.bb, h.ne, h.ha, h.hb,
    own_kept h.ra (below_own hb) (fun g _ => by simp), own_kept h.rb (below_own hb) (fun g _ => by simp), h.nab, Below.next h.bl hb⟩
theorem Sm.swap {w W : World} {p : Pr} {vo vu : Value} {b3 b4 : Nat} {ua ub : Value} {al bs : List Int} (h : Sm w W p vo vu b3 b4 ua ub al bs) : ∀ g, ub.ownBlock = some g → ua.ownBlock ≠ some g := fun g hg e => h.nab g e hg
/-- A number appended to the first one's outs. -/
theorem Sm.appA {w W : World} {p : Pr} {vo vu : Value} {b3 b4 : Nat} {ua ub : Value} {al bs : List Int} (h : Sm w W p vo vu b3 b4 ua ub al bs) (x : Int) (hl : al.length ≤ 1000) :
    ∃ (au' : Option Addr) (cu' : Nat) (W' : World), (Builtin.append_ #[23, 23] 23 #[ua, .slice (some ⟨W.heap.size, 0, none⟩) 1 1]).run Tryd.prog (W.alloc (.cells #[.int .i64 x] 3)) = .ok (.slice au' (al.length + 1) cu') W' ∧ W'.cell? ⟨b3, 2, none⟩ = some ua ∧ W'.frozen? ⟨b3, 2, none⟩ = false ∧ Sm w (W'.setCell ⟨b3, 2, none⟩ (.slice au' (al.length + 1) cu')) p vo vu b3 b4 (.slice au' (al.length + 1) cu') ub (al ++ [x]) bs := by
  have hA := alloc_below W (.cells #[.int .i64 x] 3)
  have h1 := h.below hA
  obtain ⟨au', cu', W', hr, ho, hb, hg, hbk⟩ := appI1 _ (w.heap.size + 1) ua al ⟨W.heap.size, 0, none⟩ x h1.ra (by rw [Lib.cell_of_heap (heap_alloc_new W _)]; rfl) (by omega) h1.size
  have hpB : W'.heap[w.heap.size]? = _ := (hg.block _ (Array.getElem?_eq_some_iff.1 h1.bp).1 (fun e => own_not h1.ra h1.bp (by decide) e.symm)).trans h1.bp
  have haB : W'.heap[b3]? = _ := (hg.block _ (Array.getElem?_eq_some_iff.1 h1.ba).1 (fun e => own_not h1.ra h1.ba (by decide) e.symm)).trans h1.ba
  have hbB : W'.heap[b4]? = _ := (hg.block _ (Array.getElem?_eq_some_iff.1 h1.bb).1 (fun e => own_not h1.ra h1.bb (by decide) e.symm)).trans h1.bb
  have hrb : W'.ownsRow (w.heap.size + 1) 3 1 ub bs.length (bs.flatMap iw) := own_kept h1.rb hg (fun g hg' e => h1.nab g e hg')
  have hset := set1_grown W' b3 2 (.slice au' (al.length + 1) cu')
  have hbl := h1.bl.trans (hb.mono (Nat.le_succ _))
  refine ⟨au', cu', W', hr, by rw [Lib.cell_of_heap haB]; rfl, Lib.frozen_of_heap haB 2, ⟨(hset.block _ (Array.getElem?_eq_some_iff.1 hpB).1 (fun e => by have := Option.some.inj e; have := h.ha; omega)).trans hpB, set_blk haB 2 _, (hset.block _ (Array.getElem?_eq_some_iff.1 hbB).1 (fun e => h.ne (Option.some.inj e).symm)).trans hbB, h.ne, h.ha, h.hb, own_kept ho hset (fun g hg' e => own_not ho haB (by decide) (hg'.trans e.symm)), own_kept hrb hset (fun g hg' e => own_not hrb haB (by decide) (hg'.trans e.symm)), fun g hg' e => ?_, hbl.grown hset (Nat.le_trans (Nat.le_of_succ_le h1.size) hg.size) (fun k e => by cases e; exact Nat.le_of_lt h.ha)⟩⟩
  rcases hbk with hbk | hbk
  · rw [hbk] at hg'; exact h1.nab g hg' e
  · rw [hbk] at hg'
    have e1 := Option.some.inj hg'
    have := own_top h1.rb g e
    omega
/-- A number appended to the second one's outs. -/
theorem Sm.appB {w W : World} {p : Pr} {vo vu : Value} {b3 b4 : Nat} {ua ub : Value} {al bs : List Int} (h : Sm w W p vo vu b3 b4 ua ub al bs) (x : Int) (hl : bs.length ≤ 1000) :
    ∃ (au' : Option Addr) (cu' : Nat) (W' : World), (Builtin.append_ #[23, 23] 23 #[ub, .slice (some ⟨W.heap.size, 0, none⟩) 1 1]).run Tryd.prog (W.alloc (.cells #[.int .i64 x] 3)) = .ok (.slice au' (bs.length + 1) cu') W' ∧ W'.cell? ⟨b4, 2, none⟩ = some ub ∧ W'.frozen? ⟨b4, 2, none⟩ = false ∧ Sm w (W'.setCell ⟨b4, 2, none⟩ (.slice au' (bs.length + 1) cu')) p vo vu b3 b4 ua (.slice au' (bs.length + 1) cu') al (bs ++ [x]) := by
  have hA := alloc_below W (.cells #[.int .i64 x] 3)
  have h1 := h.below hA
  obtain ⟨au', cu', W', hr, ho, hb, hg, hbk⟩ := appI1 _ (w.heap.size + 1) ub bs ⟨W.heap.size, 0, none⟩ x h1.rb (by rw [Lib.cell_of_heap (heap_alloc_new W _)]; rfl) (by omega) h1.size
  have hpB : W'.heap[w.heap.size]? = _ := (hg.block _ (Array.getElem?_eq_some_iff.1 h1.bp).1 (fun e => own_not h1.rb h1.bp (by decide) e.symm)).trans h1.bp
  have haB : W'.heap[b3]? = _ := (hg.block _ (Array.getElem?_eq_some_iff.1 h1.ba).1 (fun e => own_not h1.rb h1.ba (by decide) e.symm)).trans h1.ba
  have hbB : W'.heap[b4]? = _ := (hg.block _ (Array.getElem?_eq_some_iff.1 h1.bb).1 (fun e => own_not h1.rb h1.bb (by decide) e.symm)).trans h1.bb
  have hra : W'.ownsRow (w.heap.size + 1) 3 1 ua al.length (al.flatMap iw) := own_kept h1.ra hg (fun g hg' e => h1.nab g hg' e)
  have hset := set1_grown W' b4 2 (.slice au' (bs.length + 1) cu')
  have hbl := h1.bl.trans (hb.mono (Nat.le_succ _))
  refine ⟨au', cu', W', hr, by rw [Lib.cell_of_heap hbB]; rfl, Lib.frozen_of_heap hbB 2, ⟨(hset.block _ (Array.getElem?_eq_some_iff.1 hpB).1 (fun e => by have := Option.some.inj e; have := h.hb; omega)).trans hpB, (hset.block _ (Array.getElem?_eq_some_iff.1 haB).1 (fun e => h.ne (Option.some.inj e))).trans haB, set_blk hbB 2 _, h.ne, h.ha, h.hb, own_kept hra hset (fun g hg' e => own_not hra hbB (by decide) (hg'.trans e.symm)), own_kept ho hset (fun g hg' e => own_not ho hbB (by decide) (hg'.trans e.symm)), fun g hg' e => ?_, hbl.grown hset (Nat.le_trans (Nat.le_of_succ_le h1.size) hg.size) (fun k e => by cases e; exact Nat.le_of_lt h.hb)⟩⟩
  rcases hbk with hbk | hbk
  · rw [hbk] at e; exact h1.nab g hg' e
  · rw [hbk] at e
    have e1 := Option.some.inj e
    have := own_top h1.ra g hg'
    omega
/-- What hands n on, as a program in memory. -/
theorem pm_hand {W : World} {B n : Nat} {u : Value} (hn : n ≤ 64) (ho : W.ownsRow B 3 1 u ((List.range n).map (fun j : Nat => (j : Int))).length (((List.range n).map (fun j : Nat => (j : Int))).flatMap iw)) : Pm W (.agg #[.int .i64 (n : Int), .slice none 0 0, u]) (hand n) :=
  ⟨⟨_, _, rfl, ⟨none, 0, rfl, ⟨Nat.le_refl _, by show (0 : Nat) ≤ 140737488500000; decide, fun _ => rfl⟩, fun h => absurd rfl h⟩, lm_of_own iw_len (by decide) ho (by show ((List.range n).map (fun j : Nat => (j : Int))).length ≤ _; simp; omega)⟩, by show -9223372036854775808 ≤ (n : Int) ∧ (n : Int) ≤ 9223372036854775807; omega, (fun o ho => by cases ho), fun x hx => by
    obtain ⟨j, hj, rfl⟩ := List.mem_map.1 hx
    have := List.mem_range.1 hj
    omega⟩
theorem sm_new1 {w W : World} {p : Pr} {vo vu : Value} (hp : W.heap[w.heap.size]? = some (.cells #[.int .i64 p.inp, vo, vu] 25 (0, 0))) (hb : Below w.heap.size w W) :
    Sm w ((W.alloc (.cells #[.int .i64 p.inp, .slice none 0 0, .slice none 0 0] 25)).alloc (.cells #[.int .i64 (p.outs.length : Int), .slice none 0 0, .slice none 0 0] 25)).drew p vo vu W.heap.size (W.heap.size + 1) (.slice none 0 0) (.slice none 0 0) [] [] := by
  obtain ⟨n1, n2, hB⟩ := alloc2 W (.cells #[.int .i64 p.inp, .slice none 0 0, .slice none 0 0] 25) (.cells #[.int .i64 (p.outs.length : Int), .slice none 0 0, .slice none 0 0] 25)
  have hl := (Array.getElem?_eq_some_iff.1 hp).1
  exact ⟨(hB.block _ hl).trans hp, n1, n2, by omega, hl, by omega, own_nil _ _ _ _, own_nil _ _ _ _, fun g h => by simp [Value.ownBlock] at h, (Below.next hb hB).drew⟩
theorem sm_new2 {w W : World} {p : Pr} {vo vu : Value} (hp : W.heap[w.heap.size]? = some (.cells #[.int .i64 p.inp, vo, vu] 25 (0, 0))) (hb : Below w.heap.size w W) :
    Sm w ((W.alloc (.cells #[.int .i64 (p.outs.length : Int), .slice none 0 0, .slice none 0 0] 25)).alloc (.cells #[.int .i64 p.inp, .slice none 0 0, .slice none 0 0] 25)).drew p vo vu (W.heap.size + 1) W.heap.size (.slice none 0 0) (.slice none 0 0) [] [] := by
  obtain ⟨n1, n2, hB⟩ := alloc2 W (.cells #[.int .i64 (p.outs.length : Int), .slice none 0 0, .slice none 0 0] 25) (.cells #[.int .i64 p.inp, .slice none 0 0, .slice none 0 0] 25)
  have hl := (Array.getElem?_eq_some_iff.1 hp).1
  exact ⟨(hB.block _ hl).trans hp, n2, n1, by omega, by omega, hl, own_nil _ _ _ _, own_nil _ _ _ _, fun g h => by simp [Value.ownBlock] at h, (Below.next hb hB).drew⟩
theorem hands_next (n : Nat) : (List.range (n + 1)).map (fun j : Nat => (j : Int)) = (List.range n).map (fun j : Nat => (j : Int)) ++ [(n : Int)] := by rw [List.range_succ, List.map_append]; rfl
theorem hands_len (n : Nat) : ((List.range n).map (fun j : Nat => (j : Int))).length = n := by simp

end Go.Proofs.YtjkialmhajbcfaaDoor
