/-
  The field's inverses: all of a list at one time, in new memory.
-/
import Derived.Test.YtdegpefhegmamabWalkC
import Derived.Test.YtdegpefhegmamabWalkD
import Derived.Test.YtdegpefhegmamabModI
import Derived.Test.YtdegpefhegmamabElems
import Derived.OwnWalk
import Derived.Laws.OwnMore
import Derived.Deep.RegionWith
namespace Go.Proofs.Ytdegpefhegmamab
open Go.RowKit Fld
set_option linter.unusedVariables false

theorem own_below {w w' : World} {base e size n : Nat} {v : Value} {xs : List Value} (h : w.ownsRow base e size v n xs) (hb : Below w.heap.size w w') : w'.ownsRow base e size v n xs := by
  refine ⟨h.1, ?_⟩
  rcases h.2 with h1 | ⟨g, cap, cur, h1, h2, h3, h4⟩
  · exact .inl h1
  · refine .inr ⟨g, cap, cur, h1, h2, ?_, h4⟩
    have hlt : g < w.heap.size := by
      apply Nat.lt_of_not_le; intro hc; rw [Array.getElem?_eq_none hc] at h3; cases h3
    rw [hb.block g hlt]; exact h3

theorem addr_ne {a b i j : Nat} (h : a ≠ b) : (⟨a, i, none⟩ : Addr) ≠ ⟨b, j, none⟩ := fun e => h (congrArg Addr.block e)
theorem Boxed.set {w W : World} {p : Int} {wd : Bool} {g k : Nat} (h : Boxed w p wd W) (hg : w.heap.size < g) (u : Value) : Boxed w p wd (W.setCell ⟨g, k, none⟩ u) := by
  obtain ⟨h1, h2, h3, h4⟩ := h
  exact ⟨(World.cell?_setCell_other W _ _ u (addr_ne (by omega))).trans h1, (World.cell?_setCell_other W _ _ u (addr_ne (by omega))).trans h2, by simpa using h3, h4.setCell (Nat.le_of_lt hg) u⟩

theorem vals_set (ys : List Int) (k : Nat) (x : Int) : (vals ys).set k (.int .u64 x) = vals (ys.set k x) := by simp [vals, List.map_set]
theorem vals_at (ys : List Int) (k : Nat) (h : k < ys.length) : (vals ys)[k]? = some (.int .u64 (ys.getD k 0)) := by simp [vals, h, List.getD_eq_getElem?_getD]

/-- What the two loops keep of the new row: it lies behind the box. -/
def Own (w wr : World) (n : Nat) (ys : List Int) : Prop := wr.ownsRow w.heap.size 32 1 (.slice (some ⟨w.heap.size + 1, 0, none⟩) n n) n (vals ys)

theorem Own.cell {w wr : World} {n : Nat} {ys : List Int} (h : Own w wr n ys) (hl : ys.length = n) (k : Nat) (hk : k < n) : wr.cell? ⟨w.heap.size + 1, k, none⟩ = some (.int .u64 (ys.getD k 0)) := by
  rw [h.cellAt k (by omega), vals_at ys k (by omega)]
theorem Own.free {w wr : World} {n : Nat} {ys : List Int} (h : Own w wr n ys) (k : Nat) : wr.frozen? ⟨w.heap.size + 1, k, none⟩ = false := h.frozenAt k
theorem Own.set {w wr : World} {n : Nat} {ys : List Int} (h : Own w wr n ys) (k : Nat) (x : Int) : Own w (wr.setCell ⟨w.heap.size + 1, k, none⟩ (.int .u64 x)) n (ys.set k x) := by
  have := (h.stored k (.int .u64 x)).1
  rw [vals_set] at this; exact this

theorem Own.made {w w1 : World} {n : Nat} {p : Int} {wd : Bool} {T : TypeId} (h : w1.ownsRow w.heap.size 32 1 (.slice (some ⟨(w.alloc (.cells #[.int .u64 p, .bool wd] T)).heap.size, 0, none⟩) n n) n (madeCells (Value.int .u64 0).cells (n * 1)).toList) : Own w w1 n (List.replicate n 0) := by
  have e : (madeCells (Value.int .u64 0).cells (n * 1)).toList = vals (List.replicate n 0) := by
    show (madeCells #[.int .u64 0] (n * 1)).toList = _
    rw [toList_madeCells_one, Nat.mul_one]; simp [vals]
  have e2 : (w.alloc (.cells #[.int .u64 p, .bool wd] T)).heap.size = w.heap.size + 1 := by simp
  rw [e, e2] at h; exact h
theorem below_grown_none {W w1 : World} (h : W.grownBy w1 none) : Below W.heap.size W w1 := (Below.refl _ W).grown h (Nat.le_refl _) (fun k hk => by cases hk)

/-- One round of the first loop. -/
theorem inv1_step {w wr w2 : World} {p P : Int} {wd : Bool} {n k : Nat} {ys : List Int} (hB : Boxed w p wd wr) (hO : Own w wr n ys)
    (hb : Below (wr.setCell ⟨w.heap.size + 1, k, none⟩ (.int .u64 P)).heap.size (wr.setCell ⟨w.heap.size + 1, k, none⟩ (.int .u64 P)) w2) : Boxed w p wd w2 ∧ Own w w2 n (ys.set k P) :=
  ⟨(hB.set (Nat.lt_succ_self _) _).below hb, own_below (hO.set k P) hb⟩

theorem upto_set {p P : Int} {xs ys : List Int} {k : Nat} (h : ∀ j, j < k → ys.getD j 0 = pr p xs j) (hk : k < ys.length) (hP : pr p xs k = P) : ∀ j, j < k + 1 → (ys.set k P).getD j 0 = pr p xs j := by
  intro j hj
  rw [set_getD ys k j P hk]
  by_cases he : j = k
  · rw [if_pos he, he, hP]
  · rw [if_neg he]; exact h j (by omega)

theorem keep3 {W w1 : World} {a1 a2 a3 : Addr} {v1 v2 v3 : Value} (hb : Below W.heap.size W w1) (h : W.cell? a1 = some v1 ∧ W.cell? a2 = some v2 ∧ W.cell? a3 = some v3) :
    w1.cell? a1 = some v1 ∧ w1.cell? a2 = some v2 ∧ w1.cell? a3 = some v3 :=
  ⟨(hb.cell (World.block_lt_of_cell? _ _ h.1)).trans h.1, (hb.cell (World.block_lt_of_cell? _ _ h.2.1)).trans h.2.1, (hb.cell (World.block_lt_of_cell? _ _ h.2.2)).trans h.2.2⟩

theorem inv2_set {p P R x : Int} {xs zs : List Int} {k : Nat} (h : ∀ j, j < xs.length → zs.getD j 0 = if j < k + 1 then pr p xs j else inv p (xs.getD j 0)) (hk : k < xs.length) (hl : zs.length = xs.length)
    (hx : xs.getD k 0 = x) (e1 : mul p P R = inv p x) : ∀ j, j < xs.length → (zs.set k (mul p P R)).getD j 0 = if j < k then pr p xs j else inv p (xs.getD j 0) := by
  intro j hj
  rw [set_getD zs k j _ (by omega)]
  by_cases he : j = k
  · rw [if_pos he, if_neg (by omega), e1, he, hx]
  · rw [if_neg he, h j hj]
    by_cases h2 : j < k
    · rw [if_pos (by omega), if_pos h2]
    · rw [if_neg (by omega), if_neg h2]

theorem all_before {p : Int} {xs ys : List Int} (h : ∀ j, j < xs.length → ys.getD j 0 = pr p xs j) : ∀ j, j < xs.length → ys.getD j 0 = if j < xs.length then pr p xs j else inv p (xs.getD j 0) := by
  intro j hj; rw [if_pos hj]; exact h j hj

end Go.Proofs.Ytdegpefhegmamab
