/-
  Euclid: the document's own Partial.
-/
import Derived.Test.YtdgcnockccjdjabBEucI
namespace Go.Proofs.Ytdgcnockccjdjab
open Go.RowKit Fld
set_option linter.unusedVariables false

/-- A row's cell turned. -/
theorem Rw.apart1 {T : TypeId} {w : World} {v e : Value} {xs : List Int} {k i : Nat} {c0 c1 c2 : Value} (h : Rw w v xs) (hT : Th T k c0 c1 c2 w) (s0 : Sl c0) (s1 : Sl c1) (s2 : Sl c2) : Rw (w.setCell ⟨k, i, none⟩ e) v xs := by
  obtain ⟨⟨ao, cap, h1, h2, h3, h4⟩, h5⟩ := h
  refine ⟨⟨ao, cap, h1, h2, h3, fun hne => ?_⟩, h5⟩
  obtain ⟨b, off, h6, h7, h8⟩ := h4 hne
  refine ⟨b, off, h6, by simp [World.setCell]; exact h7, fun j hj => ?_⟩
  have hbk : b ≠ k := by
    intro e
    subst e
    have h9 := h8 0 (List.length_pos_iff.2 hne)
    rw [cell_of_row w b (off + 0) _ _ _ hT] at h9
    obtain ⟨_, _, _, rfl⟩ := s0
    obtain ⟨_, _, _, rfl⟩ := s1
    obtain ⟨_, _, _, rfl⟩ := s2
    match off, h9 with
    | 0, h9 => simp at h9
    | 1, h9 => simp at h9
    | 2, h9 => simp at h9
    | n + 3, h9 => simp at h9
  rw [cell_apart hbk]; exact h8 j hj
theorem Rr.apart1 {T : TypeId} {w : World} {x0 x1 x2 e : Value} {X : R3} {k i : Nat} {c0 c1 c2 : Value} (h : Rr w x0 x1 x2 X) (hT : Th T k c0 c1 c2 w) (s0 : Sl c0) (s1 : Sl c1) (s2 : Sl c2) : Rr (w.setCell ⟨k, i, none⟩ e) x0 x1 x2 X :=
  ⟨h.1.apart1 hT s0 s1 s2, h.2.1.apart1 hT s0 s1 s2, h.2.2.apart1 hT s0 s1 s2⟩
theorem Th.apart1 {T : TypeId} {g k i : Nat} {c0 c1 c2 e : Value} {w : World} (h : Th T g c0 c1 c2 w) (hne : g ≠ k) : Th T g c0 c1 c2 (w.setCell ⟨k, i, none⟩ e) := by
  unfold Th at h ⊢
  rw [Below.heap_setCell _ _ _ _ hne]; exact h
theorem Th.set0 {T : TypeId} {g : Nat} {c0 c1 c2 e : Value} {w : World} (h : Th T g c0 c1 c2 w) : Th T g e c1 c2 (w.setCell ⟨g, 0, none⟩ e) := block_set h
theorem Th.set1 {T : TypeId} {g : Nat} {c0 c1 c2 e : Value} {w : World} (h : Th T g c0 c1 c2 w) : Th T g c0 e c2 (w.setCell ⟨g, 1, none⟩ e) := block_set h
theorem Th.set2 {T : TypeId} {g : Nat} {c0 c1 c2 e : Value} {w : World} (h : Th T g c0 c1 c2 w) : Th T g c0 c1 e (w.setCell ⟨g, 2, none⟩ e) := block_set h

/-- Two rows at their blocks. -/
def PK (T : TypeId) (w : World) (g2 g3 : Nat) (c0 c1 c2 d0 d1 d2 : Value) (X Y : R3) (wr : World) : Prop :=
  Th T g2 c0 c1 c2 wr ∧ Th T g3 d0 d1 d2 wr ∧ Rr wr c0 c1 c2 X ∧ Rr wr d0 d1 d2 Y ∧ Below w.heap.size w wr
theorem PK.below {T : TypeId} {w : World} {g2 g3 : Nat} {c0 c1 c2 d0 d1 d2 : Value} {X Y : R3} {w1 w2 : World} (h : PK T w g2 g3 c0 c1 c2 d0 d1 d2 X Y w1) (hb : Below w1.heap.size w1 w2) : PK T w g2 g3 c0 c1 c2 d0 d1 d2 X Y w2 :=
  ⟨h.1.below hb, h.2.1.below hb, h.2.2.1.below hb, h.2.2.2.1.below hb, Below.next h.2.2.2.2 hb⟩
theorem PK.set1 {T : TypeId} {w : World} {g2 g3 g4 i : Nat} {c0 c1 c2 d0 d1 d2 z0 z1 z2 e : Value} {X Y : R3} {w1 : World} (h : PK T w g2 g3 c0 c1 c2 d0 d1 d2 X Y w1) (hT : Th T g4 z0 z1 z2 w1) (s0 : Sl z0) (s1 : Sl z1) (s2 : Sl z2) (h2 : g2 ≠ g4) (h3 : g3 ≠ g4) (hg : w.heap.size ≤ g4) : PK T w g2 g3 c0 c1 c2 d0 d1 d2 X Y (w1.setCell ⟨g4, i, none⟩ e) :=
  ⟨h.1.apart1 h2, h.2.1.apart1 h3, h.2.2.1.apart1 hT s0 s1 s2, h.2.2.2.1.apart1 hT s0 s1 s2, h.2.2.2.2.setCell hg _⟩
theorem rest_same {p : Int} (hp : 0 < p) {x y q r z : List Int} (hd : Dv p x y q r) (hz : Tm p z) (h : qa (pl p z) (qm (pl p q) (pl p y)) = pl p x) : z = r :=
  hz.only hp hd.rg.2.1 (qa_cancel (h.trans (by rw [qa_comm]; exact hd.rg.2.2.2.symm)))

/-- A new row's entry: one of the row two ahead less q times one of the row ahead. -/
def Ent (p : Int) (q x y z : List Int) : Prop := Tm p z ∧ qa (pl p z) (qm (pl p q) (pl p y)) = pl p x

end Go.Proofs.Ytdgcnockccjdjab
