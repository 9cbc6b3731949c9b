/-
  Layer 12: whether a plan may be, its degree, what it needs, what it spares, whether it is accepted: the program's.
-/
import Derived.Test.YtifilgmjpflekaaBBas
import Derived.Test.YtifilgmjpflekaaBOpenN
import Derived.Deep.WholeRow
namespace Go.Proofs.Ytifilgmjpflekaa
open Go.RowKit Pln
set_option linter.unusedVariables false
set_option linter.unusedSimpArgs false

/-- The fields. -/
def fdB (f : Int) : Bool := f == 1 || f == 2
def mayP (p : Pn) : Bool := may fdB p
def btw (n a b : Int) : Bool := decide (a ≤ n ∧ n ≤ b)
theorem btw_yes {n a b : Int} (h : a ≤ n ∧ n ≤ b) : btw n a b = true := decide_eq_true h
theorem mayP_all (p : Pn) : mayP p = (fdB p.f && btw p.n 1 64 && btw p.k 1 64 && btw p.w 1 64 && btw p.t 0 (64 - p.k) && btw p.s 0 64 && btw p.e 0 64 && btw p.d 0 1024) := by
  unfold mayP
  rw [Bool.eq_iff_iff, may_iff]
  simp only [btw, Bool.and_eq_true, decide_eq_true_iff]
  constructor
  · rintro ⟨h, h2⟩
    refine ⟨⟨⟨⟨⟨⟨⟨h, ?_⟩, ?_⟩, ?_⟩, ?_⟩, ?_⟩, ?_⟩, ?_⟩ <;> omega
  · rintro ⟨⟨⟨⟨⟨⟨⟨h, _⟩, _⟩, _⟩, _⟩, _⟩, _⟩, _⟩
    exact ⟨h, by omega⟩

/-- A block that holds a plan. -/
def Pb (w : World) (g : Nat) (p : Pn) : Prop := w.heap[g]? = some (.cells (plw p) 24 (0, 0))
theorem Pb.lt {w : World} {g : Nat} {p : Pn} (h : Pb w g p) : g < w.heap.size := (Array.getElem?_eq_some_iff.1 h).1
theorem Pb.below {w w' : World} {g : Nat} {p : Pn} (h : Pb w g p) (hb : Below w.heap.size w w') : Pb w' g p := (hb.block g h.lt).trans h
theorem Pb.cells {w : World} {g : Nat} {p : Pn} (h : Pb w g p) : w.cell? ⟨g, 0, none⟩ = some (.int .u8 p.f) ∧ w.cell? ⟨g, 1, none⟩ = some (.int .i64 p.n) ∧ w.cell? ⟨g, 2, none⟩ = some (.int .i64 p.k) ∧ w.cell? ⟨g, 3, none⟩ = some (.int .i64 p.t) ∧ w.cell? ⟨g, 4, none⟩ = some (.int .i64 p.s) ∧ w.cell? ⟨g, 5, none⟩ = some (.int .i64 p.e) ∧ w.cell? ⟨g, 6, none⟩ = some (.int .i64 p.d) ∧ w.cell? ⟨g, 7, none⟩ = some (.int .i64 p.w) := by
  have h' : w.heap[g]? = some (.cells (plw p) 24 (0, 0)) := h
  refine ⟨?_, ?_, ?_, ?_, ?_, ?_, ?_, ?_⟩ <;> simp [World.cell?, h', plw]
theorem Pb.free {w : World} {g : Nat} {p : Pn} (h : Pb w g p) (k : Nat) : w.frozen? ⟨g, k, none⟩ = false := by
  have h' : w.heap[g]? = some (.cells (plw p) 24 (0, 0)) := h
  simp [World.frozen?, h']
theorem pb_new (w : World) (p : Pn) : Pb (w.alloc (.cells (plw p) 24)) w.heap.size p := heap_alloc_last w _
theorem load_plan {w : World} {g : Nat} {p : Pn} (h : Pb w g p) : (loadVar 24 ⟨g, 0, none⟩).run Try.prog w = .ok (plv p) w := by
  obtain ⟨c0, c1, c2, c3, c4, c5, c6, c7⟩ := h.cells
  simp [go_sem, c0, c1, c2, c3, c4, c5, c6, c7, plv, plw]
theorem Pb.set {w : World} {g : Nat} {p q : Pn} (h : Pb w g p) (k : Nat) (v : Value) (hq : plw q = (plw p).setIfInBounds k v) : Pb (w.setCell ⟨g, k, none⟩ v) g q := by
  unfold Pb
  rw [set_blk h, hq]
theorem Pb.other {w : World} {g g' : Nat} {p : Pn} (h : Pb w g p) (hne : g ≠ g') (k : Nat) (v : Value) : Pb (w.setCell ⟨g', k, none⟩ v) g p := (Below.heap_setCell _ _ _ g hne).trans h
/-- A whole plan stored. -/
def set8 (w : World) (g : Nat) (p : Pn) : World := (((((((w.setCell ⟨g, 0, none⟩ (.int .u8 p.f)).setCell ⟨g, 1, none⟩ (.int .i64 p.n)).setCell ⟨g, 2, none⟩ (.int .i64 p.k)).setCell ⟨g, 3, none⟩ (.int .i64 p.t)).setCell ⟨g, 4, none⟩ (.int .i64 p.s)).setCell ⟨g, 5, none⟩ (.int .i64 p.e)).setCell ⟨g, 6, none⟩ (.int .i64 p.d)).setCell ⟨g, 7, none⟩ (.int .i64 p.w)
theorem Pb.set8 {w : World} {g : Nat} {p q : Pn} (h : Pb w g p) : Pb (set8 w g q) g q :=
  (((((((h.set (q := { p with f := q.f }) 0 _ rfl).set (q := { p with f := q.f, n := q.n }) 1 _ rfl).set (q := { p with f := q.f, n := q.n, k := q.k }) 2 _ rfl).set (q := { p with f := q.f, n := q.n, k := q.k, t := q.t }) 3 _ rfl).set (q := { p with f := q.f, n := q.n, k := q.k, t := q.t, s := q.s }) 4 _ rfl).set (q := { p with f := q.f, n := q.n, k := q.k, t := q.t, s := q.s, e := q.e }) 5 _ rfl).set (q := { p with f := q.f, n := q.n, k := q.k, t := q.t, s := q.s, e := q.e, d := q.d }) 6 _ rfl).set (q := q) 7 _ rfl
theorem Pb.other8 {w : World} {g g' : Nat} {p q : Pn} (h : Pb w g p) (hne : g ≠ g') : Pb (Proofs.Ytifilgmjpflekaa.set8 w g' q) g p :=
  (((((((h.other hne _ _).other hne _ _).other hne _ _).other hne _ _).other hne _ _).other hne _ _).other hne _ _).other hne _ _
theorem set8_size (w : World) (g : Nat) (p : Pn) : (set8 w g p).heap.size = w.heap.size := by simp [set8, World.setCell]
/-- A cell behind the old blocks is written: nothing old is. -/
theorem below_set {B : Nat} {a w : World} {g k : Nat} {v : Value} (h : Below B a w) (hg : B ≤ g) : Below B a (w.setCell ⟨g, k, none⟩ v) := h.setCell (p := ⟨g, k, none⟩) hg v
theorem below_set8 {B : Nat} {a w : World} {g : Nat} {p : Pn} (h : Below B a w) (hg : B ≤ g) : Below B a (set8 w g p) :=
  below_set (below_set (below_set (below_set (below_set (below_set (below_set (below_set h hg) hg) hg) hg) hg) hg) hg) hg
def zP : Pn := { f := 0, n := 0, k := 0, t := 0, s := 0, e := 0, d := 0, w := 0 }
/-- A boxed plan; that nothing old was written. -/
theorem pb_box {w : World} (p : Pn) : Pb (w.alloc (.cells #[.int .u8 p.f, .int .i64 p.n, .int .i64 p.k, .int .i64 p.t, .int .i64 p.s, .int .i64 p.e, .int .i64 p.d, .int .i64 p.w] 24)) w.heap.size p ∧ Below w.heap.size w (w.alloc (.cells #[.int .u8 p.f, .int .i64 p.n, .int .i64 p.k, .int .i64 p.t, .int .i64 p.s, .int .i64 p.e, .int .i64 p.d, .int .i64 p.w] 24)) := ⟨pb_new w p, alloc_below _ _⟩

/-- A boxed plan and a block for another one; that nothing old was written. -/
theorem pb_two {w W : World} (p : Pn) (hW : (w.alloc (.cells #[.int .u8 p.f, .int .i64 p.n, .int .i64 p.k, .int .i64 p.t, .int .i64 p.s, .int .i64 p.e, .int .i64 p.d, .int .i64 p.w] 24)).alloc (.cells #[.int .u8 0, .int .i64 0, .int .i64 0, .int .i64 0, .int .i64 0, .int .i64 0, .int .i64 0, .int .i64 0] 24) = W) : Pb W w.heap.size p ∧ Pb W (w.heap.size + 1) zP ∧ Below w.heap.size w W := by
  subst hW
  have e : (w.alloc (.cells (plw p) 24)).heap.size = w.heap.size + 1 := by simp
  exact ⟨(pb_new w p).below (alloc_below _ _), e ▸ pb_new _ zP, Below.next (alloc_below _ _) (alloc_below _ _)⟩

set_option maxHeartbeats 200000 in
theorem gField (f : Int) (w : World) : Calls Try.prog 40 #[.int .u8 f] w fun e w' => e = .returned (.bool (fdB f)) ∧ w' = w := by
  by_cases h1 : f = 1 <;> by_cases h2 : f = 2
  all_goals
    go_enter Try.func40, Try.ntmps40
    go_wp2
    all_goals
      go_ret
      refine ⟨?_, rfl⟩
      simp_all [fdB]

set_option maxHeartbeats 200000 in
theorem gWithin (n a b : Int) (w : World) : Calls Try.prog 41 #[.int .i64 n, .int .i64 a, .int .i64 b] w fun e w' => e = .returned (.bool (btw n a b)) ∧ w' = w := by
  by_cases h1 : a ≤ n <;> by_cases h2 : n ≤ b
  all_goals
    go_enter Try.func41, Try.ntmps41
    go_wp2
    all_goals
      go_ret
      refine ⟨?_, rfl⟩
      simp_all [btw]
      try omega

end Go.Proofs.Ytifilgmjpflekaa
