/-
  Arrays in memory, by value: made, read and stored whole.
-/
import Derived.Test.YtfbipnhhnmlhfaaBMemA
import Derived.Deep.WholeRow
import Derived.Deep.RegionWith
import Derived.Deep.CutRange
import Derived.Deep.CutBlock
import Derived.Laws.CopyOwn
namespace Go.Proofs.Ytfbipnhhnmlhfaa
open Go.RowKit Fld Slp
set_option linter.unusedVariables false
set_option linter.unusedSimpArgs false

/-- A block that holds an array. -/
def Ar {α : Type} (f : α → Value) (T : TypeId) (n : Nat) (w : World) (g : Nat) (xs : List α) : Prop := xs.length = n ∧ w.heap[g]? = some (.cells (xs.map f).toArray T (0, 0))
section
variable {α : Type} {f : α → Value} {T : TypeId} {n : Nat}
theorem Ar.lt {w : World} {g : Nat} {xs : List α} (h : Ar f T n w g xs) : g < w.heap.size := (Array.getElem?_eq_some_iff.1 h.2).1
theorem Ar.below {w w' : World} {g : Nat} {xs : List α} (h : Ar f T n w g xs) (hb : Below w.heap.size w w') : Ar f T n w' g xs := ⟨h.1, (hb.block g h.lt).trans h.2⟩
theorem Ar.drew {w : World} {g : Nat} {xs : List α} (h : Ar f T n w g xs) : Ar f T n w.drew g xs := h.below (Below.refl _ _).drew
theorem Ar.cell {w : World} {g : Nat} {xs : List α} (h : Ar f T n w g xs) (k : Nat) (d : α) (hk : k < n) : w.cell? ⟨g, k, none⟩ = some (f (xs.getD k d)) := by
  have hl : k < xs.length := by rw [h.1]; exact hk
  rw [cell_of_row w g k _ _ _ h.2, List.getD_eq_getElem?_getD]
  simp [hl]
theorem Ar.free {w : World} {g : Nat} {xs : List α} (h : Ar f T n w g xs) (k : Nat) : w.frozen? ⟨g, k, none⟩ = false := by
  simp [World.frozen?, h.2]
theorem Ar.set {w : World} {g : Nat} {xs : List α} (h : Ar f T n w g xs) (k : Nat) (x : α) : Ar f T n (w.setCell ⟨g, k, none⟩ (f x)) g (xs.set k x) := by
  refine ⟨by simpa using h.1, ?_⟩
  rw [set_blk h.2]
  simp [List.map_set]
theorem Ar.other {w : World} {g g' : Nat} {xs : List α} (h : Ar f T n w g xs) (hne : g ≠ g') (k : Nat) (u : Value) : Ar f T n (w.setCell ⟨g', k, none⟩ u) g xs :=
  ⟨h.1, (Below.heap_setCell _ _ _ g hne).trans h.2⟩
theorem Ar.grown {w w' : World} {g : Nat} {xs : List α} {r : Option Nat} (h : Ar f T n w g xs) (hg : w.grownBy w' r) (hne : r ≠ some g) : Ar f T n w' g xs := ⟨h.1, (hg.block g h.lt (fun e => hne e.symm)).trans h.2⟩
theorem ar_new (w : World) (xs : List α) (hl : xs.length = n) : Ar f T n (w.alloc (.cells (xs.map f).toArray T)) w.heap.size xs := ⟨hl, heap_alloc_last w _⟩
theorem ar_row {w : World} {g : Nat} {xs ys : List α} (h : Ar f T n w g xs) (hl : ys.length = n) : Ar f T n (w.setRow g (ys.map f).toArray) g ys := ⟨hl, setRow_heap w _ _ (ys.map f).toArray _ _ h.2⟩
end

/-- A block for an array is made. -/
theorem wpList_alloc_row {P : Program} {w : World} {ops : Array Oper} {rest : List Oper} {o : Oper} {a : Act} {Q : Exit → Act → World → Prop} (hg : o.guard = none) (t : TypeId) (hop : o.op = .alloc t) (cs : Array Value) (hz : ((P.info? t).bind (·.zero)) = some (.agg cs))
    (hK : wpList P ops Q rest (a.put o.dst (.pointer (some ⟨w.heap.size, 0, none⟩))) (w.alloc (.cells cs t))) : wpList P ops Q (o :: rest) a w := by
  refine wpList_plain hg fun K hK' => ?_
  unfold Oper.wp
  have : (execOp a.eval o).run P w = .ok (.value (.pointer (some ⟨w.heap.size, 0, none⟩))) (w.alloc (.cells cs t)) := by
    cases hq : P.info? t with
    | none => rw [hq] at hz; cases hz
    | some i =>
      rw [hq] at hz
      have hz2 : i.zero = some (.agg cs) := hz
      simp [execOp, hop, Instr.alloc, zeroValue, typeInfo, hq, hz2, newVar, go_sem, Value.cells]
  rw [this]; exact hK' _ _ hK

/-- A whole array out of a block. -/
theorem rowLoad {P : Program} {w : World} {ops : Array Oper} {rest : List Oper} {o : Oper} {a : Act} {Q : Exit → Act → World → Prop} (hg : o.guard = none) (t : TypeId) (x : Operand) (hop : o.op = .load t x)
    (g n : Nat) (e ty : TypeId) (cs : Array Value) (hx : a.eval x = .pointer (some ⟨g, 0, none⟩)) (hh : w.heap[g]? = some (.cells cs ty (0, 0))) (hu : P.underlying t = some (.array n e)) (hi : (P.info? t).map (·.size) = some cs.size)
    (hK : wpList P ops Q rest (a.put o.dst (.agg cs)) w) : wpList P ops Q (o :: rest) a w := by
  refine wpList_plain hg fun K hK' => ?_
  unfold Oper.wp
  have : (execOp a.eval o).run P w = .ok (.value (.agg cs)) w := by
    simp [execOp, hop, hx, Instr.loadAt, Instr.sureAddr, run_loadVar_row w g ty t cs (0, 0) _ hh hu rfl hi]
  rw [this]; exact hK' _ _ hK

/-- A whole array into a block. -/
theorem rowStore {P : Program} {w : World} {ops : Array Oper} {rest : List Oper} {o : Oper} {a : Act} {Q : Exit → Act → World → Prop} (hg : o.guard = none) (t : TypeId) (x y : Operand) (hop : o.op = .store t x y)
    (g : Nat) (ty : TypeId) (old cs : Array Value) (hx : a.eval x = .pointer (some ⟨g, 0, none⟩)) (hy : a.eval y = .agg cs) (hh : w.heap[g]? = some (.cells old ty (0, 0))) (hi : (P.info? t).map (·.size) = some cs.size) (ho : old.size = cs.size) (h1 : cs.all (·.oneCell') = true)
    (hK : wpList P ops Q rest (a.put o.dst undef) (w.setRow g cs)) : wpList P ops Q (o :: rest) a w := by
  refine wpList_plain hg fun K hK' => ?_
  unfold Oper.wp
  have : (execOp a.eval o).run P w = .ok .skip (w.setRow g cs) := by
    simp [execOp, hop, hx, hy, Instr.storeAt, Instr.sureAddr, run_storeVar_row w g ty t old cs hh hi ho h1]
  rw [this]; exact hK' _ _ hK

/-- What a function answers that has one variable of memory for its result. -/
theorem resCell1 {P : Program} {fn : Func} {tmps : Array Value} {w : World} {a : Nat} {t : TypeId} {ad : Addr} {v : Value} (hr : fn.results = #[.cell a t]) (ha : tmps.getD a undef = .pointer (some ad)) (hl : (loadVar t ad).run P w = .ok v w) :
    (results fn tmps).run P w = .ok v w := by
  have ha2 : tmps[a]?.getD undef = .pointer (some ad) := by rw [← ha]; simp
  simp [results, hr, ha2, asAddr, hl]

/-- One operation that answers a value. -/
theorem rowOp {P : Program} {w w1 : World} {ops : Array Oper} {rest : List Oper} {o : Oper} {a : Act} {Q : Exit → Act → World → Prop} (hg : o.guard = none) (v : Value) (hr : (execOp a.eval o).run P w = .ok (.value v) w1)
    (hK : wpList P ops Q rest (a.put o.dst v) w1) : wpList P ops Q (o :: rest) a w := by
  refine wpList_plain hg fun K hK' => ?_
  unfold Oper.wp
  rw [hr]; exact hK' _ _ hK

theorem rowVal {P : Program} {w : World} {ops : Array Oper} {rest : List Oper} {o : Oper} {a : Act} {Q : Exit → Act → World → Prop} (hg : o.guard = none) (v : Value) (hr : (execOp a.eval o).run P w = .ok (.value v) w)
    (hK : wpList P ops Q rest (a.put o.dst v) w) : wpList P ops Q (o :: rest) a w := rowOp hg v hr hK

/-- One call. -/
theorem rowCall {P : Program} {w : World} {ops : Array Oper} {rest : List Oper} {o : Oper} {a : Act} {Q : Exit → Act → World → Prop} (hg : o.guard = none) (f : FuncId) (args : Array Value) (hr : (execOp a.eval o).run P w = .ok (.enter f args) w) {R : Ending → World → Prop} (hc : Calls P f args w R)
    (hK : ∀ e w', R e w' → ∃ v, e = .returned v ∧ wpList P ops Q rest (a.put o.dst v) w') : wpList P ops Q (o :: rest) a w := by
  refine wpList_plain hg fun K hK' => ?_
  unfold Oper.wp
  rw [hr]
  refine hc.mono ?_
  intro e w' h
  obtain ⟨v, rfl, h2⟩ := hK e w' h
  exact hK' _ _ h2

end Go.Proofs.Ytfbipnhhnmlhfaa
