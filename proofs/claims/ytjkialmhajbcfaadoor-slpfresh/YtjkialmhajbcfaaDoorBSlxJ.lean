/-
  Layer 9: After, the document's: a round of its first loop, in memory.
-/
import Derived.Test.YtjkialmhajbcfaaDoorBSlxG
namespace Go.Proofs.YtjkialmhajbcfaaDoor
open Go.RowKit Fld Slp
set_option linter.unusedVariables false
set_option linter.unusedSimpArgs false

theorem cell4 {W : World} {g : Nat} {a b c d : Value} {T : TypeId} (h : W.heap[g]? = some (.cells #[a, b, c, d] T (0, 0))) : W.cell? ⟨g, 0, none⟩ = some a ∧ W.cell? ⟨g, 1, none⟩ = some b ∧ W.cell? ⟨g, 2, none⟩ = some c ∧ W.cell? ⟨g, 3, none⟩ = some d :=
  ⟨by rw [Lib.cell_of_heap h]; rfl, by rw [Lib.cell_of_heap h]; rfl, by rw [Lib.cell_of_heap h]; rfl, by rw [Lib.cell_of_heap h]; rfl⟩
theorem Ad.round {w W : World} {p q : Pr} {vo vu xo xu : Value} {b7 : Nat} {yo yu : Value} {os : List O4} {us : List Int} {vt : Value} {ts : List Int} (h : Ad w W p q vo vu xo xu b7 yo yu os us vt ts) (val : Int) (x : O4) (g : Nat)
    (hg : W.heap[g]? = some (.cells #[.int .u8 x.k, .int .i64 x.a, .int .i64 x.b, .int .u64 x.c] 47 (0, 0))) (hl : ts.length ≤ 1000) (hl2 : os.length < 256) (N : Nat) (hN0 : W.heap.size = N) :
    ∃ (ta : Option Addr) (tc : Nat) (W3 : World) (ya : Option Addr) (yc : Nat) (W4 : World), (Builtin.append_ #[23, 23] 23 #[vt, .slice (some ⟨N, 0, none⟩) 1 1]).run Tryd.prog (W.alloc (.cells #[.int .i64 val] 3)) = .ok (.slice ta (ts.length + 1) tc) W3 ∧
      W3.cell? ⟨b7, 1, none⟩ = some yo ∧ (W3.cell? ⟨g, 0, none⟩ = some (.int .u8 x.k) ∧ W3.cell? ⟨g, 1, none⟩ = some (.int .i64 x.a) ∧ W3.cell? ⟨g, 2, none⟩ = some (.int .i64 x.b) ∧ W3.cell? ⟨g, 3, none⟩ = some (.int .u64 x.c)) ∧
      (Builtin.append_ #[22, 22] 22 #[yo, .slice (some ⟨W3.heap.size, 0, none⟩) 1 1]).run Tryd.prog (W3.alloc (.cells #[.int .u8 x.k, .int .i64 x.a, .int .i64 x.b, .int .u64 x.c] 47)) = .ok (.slice ya (os.length + 1) yc) W4 ∧ W4.cell? ⟨b7, 1, none⟩ = some yo ∧ W4.frozen? ⟨b7, 1, none⟩ = false ∧
      Hid (Ad w (W4.setCell ⟨b7, 1, none⟩ (.slice ya (os.length + 1) yc)) p q vo vu xo xu b7 (.slice ya (os.length + 1) yc) yu (os ++ [x]) us (.slice ta (ts.length + 1) tc) (ts ++ [val])) := by
  subst hN0
  have hA := alloc_below W (.cells #[.int .i64 val] 3)
  have h1 := h.below hA
  obtain ⟨ta, tc, W3, hr3, hg3, h3⟩ := h1.val ⟨W.heap.size, 0, none⟩ val (by rw [Lib.cell_of_heap (heap_alloc_new W _)]; rfl) hl
  have hlt := (Array.getElem?_eq_some_iff.1 hg).1
  have hgA := (hA.block g hlt).trans hg
  have hg4 : W3.heap[g]? = _ := (hg3.block g (Array.getElem?_eq_some_iff.1 hgA).1 (fun e => own_not h1.rt hgA (by decide) e.symm)).trans hgA
  have hA3 := alloc_below W3 (.cells #[.int .u8 x.k, .int .i64 x.a, .int .i64 x.b, .int .u64 x.c] 47)
  have hN := heap_alloc_new W3 (.cells #[.int .u8 x.k, .int .i64 x.a, .int .i64 x.b, .int .u64 x.c] 47)
  obtain ⟨ya, yc, W4, hr4, y4, z4, h4⟩ := (h3.below hA3).op ⟨W3.heap.size, 0, none⟩ x (fun j u hj => by
    rw [Addr.add]
    obtain ⟨c0, c1, c2, c3⟩ := cell4 hN
    match j, hj with
    | 0, hj => simp [opw] at hj; subst hj; exact c0
    | 1, hj => simp [opw] at hj; subst hj; exact c1
    | 2, hj => simp [opw] at hj; subst hj; exact c2
    | 3, hj => simp [opw] at hj; subst hj; exact c3
    | j + 4, hj => simp [opw] at hj) hl2
  exact ⟨ta, tc, W3, ya, yc, W4, hr3, (cell3 h3.af.blk).2.1, cell4 hg4, hr4, y4, z4, h4⟩

end Go.Proofs.YtjkialmhajbcfaaDoor
