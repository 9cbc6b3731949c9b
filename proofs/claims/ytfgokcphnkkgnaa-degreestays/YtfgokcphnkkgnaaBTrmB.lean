/-
  Layer 10: Trim, the program's: its memory.
-/
import Derived.Test.YtfgokcphnkkgnaaBTrmA
import Derived.Test.YtfgokcphnkkgnaaBDgpC
namespace Go.Proofs.Ytfgokcphnkkgnaa
open Go.RowKit Fld Slp
set_option linter.unusedVariables false
set_option linter.unusedSimpArgs false

/-- Ahead of what is made: the program, the result, the marks, the places. -/
structure Pk (w W : World) (p : Pr) (vo vu : Value) (b0 b1 gm gp : Nat) (xs : List Int) : Prop where
  lo : w.heap.size ≤ b0
  l1 : b0 < b1
  l2 : b1 < gm
  l3 : gm < gp
  pb : W.heap[b0]? = some (.cells #[.int .i64 p.inp, vo, vu] 25 (0, 0))
  rb : W.heap[b1]? = some (.cells #[.int .i64 0, .slice none 0 0, .slice none 0 0] 25 (0, 0))
  ma : Ar Value.bool 53 320 W gm (ar9 false (wtd p))
  pl : Ar (Value.int .i64) 44 320 W gp xs
  bl : Below w.heap.size w W
theorem Pk.set {w W : World} {p : Pr} {vo vu : Value} {b0 b1 gm gp : Nat} {xs : List Int} (h : Pk w W p vo vu b0 b1 gm gp xs) (k : Nat) (x : Int) : Pk w (W.setCell ⟨gp, k, none⟩ (.int .i64 x)) p vo vu b0 b1 gm gp (xs.set k x) := by
  have := h.l1
  have := h.l2
  have := h.l3
  have := h.lo
  exact ⟨h.lo, h.l1, h.l2, h.l3, (Below.heap_setCell _ _ _ b0 (by show b0 ≠ gp; omega)).trans h.pb, (Below.heap_setCell _ _ _ b1 (by show b1 ≠ gp; omega)).trans h.rb, h.ma.other (by omega) k _, h.pl.set k x, h.bl.setCell (p := ⟨gp, k, none⟩) (by show w.heap.size ≤ gp; omega) _⟩
theorem tk_new {w W : World} {p : Pr} {vo vu : Value} {b0 b1 gm gp : Nat} {xs : List Int} (h : Pk w W p vo vu b0 b1 gm gp xs) : Tk w (W.alloc (.cells #[.int .i64 p.inp, .slice none 0 0, .slice none 0 0] 25)) p vo vu b0 b1 W.heap.size W.heap.size (.slice none 0 0) (.slice none 0 0) [] [] := by
  have hA := alloc_below W (.cells #[.int .i64 p.inp, .slice none 0 0, .slice none 0 0] 25)
  have := h.pl.lt
  have := h.l2
  have := h.l3
  exact ⟨h.lo, h.l1, by omega, Nat.le_refl _, (hA.block _ (Array.getElem?_eq_some_iff.1 h.pb).1).trans h.pb, (hA.block _ (Array.getElem?_eq_some_iff.1 h.rb).1).trans h.rb, heap_alloc_last W _, own_nil _ _ _ _, own_nil _ _ _ _, Below.next h.bl hA⟩
/-- The places hold what is wanted of them. -/
def Pp (p : Pr) (n j : Nat) (xs : List Int) : Prop := ∀ v, v < n + j → (v < n ∨ (wtd p).getD v false = true) → xs.getD v 0 = (trS p j).1.getD v 0
theorem seti_get (l : List Int) (k v : Nat) (x : Int) (hk : k < l.length) : (l.set k x).getD v 0 = if v = k then x else l.getD v 0 := by
  rw [List.getD_eq_getElem?_getD, List.getElem?_set]
  by_cases h : v = k
  · subst h; simp [hk]
  · rw [if_neg (fun e => h e.symm), if_neg h, ← List.getD_eq_getElem?_getD]
theorem Pp.no {p : Pr} {n j : Nat} {xs : List Int} (h : Pp p n j xs) (hn : p.inp.toNat = n) (hw : (wtd p).getD (n + j) false = false) : Pp p n (j + 1) xs := by
  intro v hv hc
  by_cases e : v = n + j
  · subst e
    rcases hc with hc | hc
    · omega
    · rw [hw] at hc; cases hc
  · rw [h v (by omega) hc, ← trS_at p (i := j) (n := j + 1) (by omega) (by omega)]
theorem Pp.yes {p : Pr} {n j : Nat} {xs : List Int} (h : Pp p n j xs) (hn : p.inp.toNat = n) (hl : n + j < xs.length) (hw : (wtd p).getD (n + j) false = true) : Pp p n (j + 1) (xs.set (n + j) (p.inp + ((trS p j).2.length : Int))) := by
  intro v hv hc
  rw [seti_get _ _ _ _ hl]
  by_cases e : v = n + j
  · subst e
    rw [if_pos rfl, ← hn, trS_step (by omega) (by rw [hn]; exact hw)]
  · rw [if_neg e, h v (by omega) hc, ← trS_at p (i := j) (n := j + 1) (by omega) (by omega)]
theorem Pp.zero {p : Pr} {n : Nat} (hn : p.inp.toNat = n) : Pp p n 0 (ar9 0 ((List.range n).map (fun i : Nat => (i : Int)))) := by
  intro v hv _
  rw [ar9_get, trS_low p (by omega), List.getD_eq_getElem?_getD]
  have : v < n := by omega
  simp [this]
theorem range_next (n : Nat) : (List.range (n + 1)).map (fun i : Nat => (i : Int)) = (List.range n).map (fun i : Nat => (i : Int)) ++ [(n : Int)] := by rw [List.range_succ]; simp
/-- A step that is written over at its two places. -/
theorem op_set2 {W : World} {g : Nat} {k a b c : Value} (h : W.heap[g]? = some (.cells #[k, a, b, c] 52 (0, 0))) (x y : Value) : ((W.setCell ⟨g, 1, none⟩ x).setCell ⟨g, 2, none⟩ y).heap[g]? = some (.cells #[k, x, y, c] 52 (0, 0)) := set_blk (set_blk h 1 x) 2 y
theorem op_cells {W : World} {g : Nat} {x : O4} (h : W.heap[g]? = some (.cells #[.int .u8 x.k, .int .i64 x.a, .int .i64 x.b, .int .u64 x.c] 52 (0, 0))) : ∀ j u, (opw x)[j]? = some u → W.cell? ((⟨g, 0, none⟩ : Addr).add j) = some u := fun j u hj => by
  rw [Addr.add]
  obtain ⟨c0, c1, c2, c3⟩ := cell4 h
  match j, hj with
  | 0, hj => simp [opw] at hj; subst hj; exact c0
  | 1, hj => simp [opw] at hj; subst hj; exact c1
  | 2, hj => simp [opw] at hj; subst hj; exact c2
  | 3, hj => simp [opw] at hj; subst hj; exact c3
  | j + 4, hj => simp [opw] at hj
theorem trs_two (p : Pr) (i : Nat) (h : i < p.ops.length) (hw : (wtd p).getD (p.inp.toNat + i) false = true) : (trS p (i + 1)).2 = (trS p i).2 ++ [shO (trS p i).1 p.ops[i]] := by
  have e : p.ops.getD i ⟨0, 0, 0, 0⟩ = p.ops[i] := by rw [List.getD_eq_getElem?_getD, List.getElem?_eq_getElem h]; rfl
  rw [trS_yes hw, e]
theorem trs_two_no (p : Pr) (i : Nat) (hw : (wtd p).getD (p.inp.toNat + i) false = false) : (trS p (i + 1)).2 = (trS p i).2 := by rw [trS_no (by rw [hw]; simp)]
/-- The Outs when so many are there. -/
def ouJ (p : Pr) (j : Nat) : List Int := (p.outs.take j).map (fun v => (trS p p.ops.length).1.getD v.toNat 0)
theorem ouJ_next (p : Pr) {j : Nat} (h : j < p.outs.length) : ouJ p (j + 1) = ouJ p j ++ [(trS p p.ops.length).1.getD p.outs[j].toNat 0] := by
  unfold ouJ; rw [List.take_succ_eq_append_getElem h, List.map_append, List.map_singleton]
theorem ouJ_len (p : Pr) {j : Nat} (h : j ≤ p.outs.length) : (ouJ p j).length = j := by unfold ouJ; rw [List.length_map, List.length_take]; omega
theorem ouJ_end (p : Pr) : ouJ p p.outs.length = (trP p).outs := by unfold ouJ trP; rw [List.take_length]

end Go.Proofs.Ytfgokcphnkkgnaa
