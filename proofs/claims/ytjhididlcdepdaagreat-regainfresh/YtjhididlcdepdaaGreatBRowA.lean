import Derived.Test.YtjhididlcdepdaaGreatBBas
import Derived.Deep.WholeRow
import Derived.Deep.CutBlock
import Derived.Laws.CopyOwn
set_option linter.unusedVariables false
set_option linter.unusedSimpArgs false
set_option maxRecDepth 100000
set_option maxHeartbeats 4000000
namespace Go.Proofs.YtjhididlcdepdaaGreat
open Go.RowKit
theorem wpList_alloc_row {P : Program} {w : World} {ops : Array Oper} {rest : List Oper} {o : Oper} {a : Act} {Q : Exit -> Act -> World -> Prop} (hg : o.guard = none) (t : TypeId) (hop : o.op = .alloc t) (cs : Array Value) (hz : ((P.info? t).bind (·.zero)) = some (.agg cs))
 (hK : wpList P ops Q rest (a.put o.dst (.pointer (some ⟨w.heap.size, 0, none⟩))) (w.alloc (.cells cs t))) : wpList P ops Q (o :: rest) a w := by
 refine wpList_plain hg fun K hK' => ?_
 unfold Oper.wp
 have : (execOp a.eval o).run P w = .ok (.value (.pointer (some ⟨w.heap.size, 0, none⟩))) (w.alloc (.cells cs t)) := by
  cases hq : P.info? t with
  | none => rw [hq] at hz; cases hz
  | some i =>
   rw [hq] at hz
   have hz2 : i.zero = some (.agg cs) := hz
   simp [execOp, hop, Instr.alloc, zeroValue, typeInfo, hq, hz2, newVar, go_sem, Value.cells]
 rw [this]; exact hK' _ _ hK
theorem rowLoad {P : Program} {w : World} {ops : Array Oper} {rest : List Oper} {o : Oper} {a : Act} {Q : Exit -> Act -> World -> Prop} (hg : o.guard = none) (t : TypeId) (x : Operand) (hop : o.op = .load t x)
 (g n : Nat) (e ty : TypeId) (cs : Array Value) (hx : a.eval x = .pointer (some ⟨g, 0, none⟩)) (hh : w.heap[g]? = some (.cells cs ty (0, 0))) (hu : P.underlying t = some (.array n e)) (hi : (P.info? t).map (·.size) = some cs.size)
 (hK : wpList P ops Q rest (a.put o.dst (.agg cs)) w) : wpList P ops Q (o :: rest) a w := by
 refine wpList_plain hg fun K hK' => ?_
 unfold Oper.wp
 have : (execOp a.eval o).run P w = .ok (.value (.agg cs)) w := by
  simp [execOp, hop, hx, Instr.loadAt, Instr.sureAddr, run_loadVar_row w g ty t cs (0, 0) _ hh hu rfl hi]
 rw [this]; exact hK' _ _ hK
theorem rowStore {P : Program} {w : World} {ops : Array Oper} {rest : List Oper} {o : Oper} {a : Act} {Q : Exit -> Act -> World -> Prop} (hg : o.guard = none) (t : TypeId) (x y : Operand) (hop : o.op = .store t x y)
 (g : Nat) (ty : TypeId) (old cs : Array Value) (hx : a.eval x = .pointer (some ⟨g, 0, none⟩)) (hy : a.eval y = .agg cs) (hh : w.heap[g]? = some (.cells old ty (0, 0))) (hi : (P.info? t).map (·.size) = some cs.size) (ho : old.size = cs.size) (h1 : cs.all (·.oneCell') = true)
 (hK : wpList P ops Q rest (a.put o.dst undef) (w.setRow g cs)) : wpList P ops Q (o :: rest) a w := by
 refine wpList_plain hg fun K hK' => ?_
 unfold Oper.wp
 have : (execOp a.eval o).run P w = .ok .skip (w.setRow g cs) := by
  simp [execOp, hop, hx, hy, Instr.storeAt, Instr.sureAddr, run_storeVar_row w g ty t old cs hh hi ho h1]
 rw [this]; exact hK' _ _ hK
theorem rowOp {P : Program} {w w1 : World} {ops : Array Oper} {rest : List Oper} {o : Oper} {a : Act} {Q : Exit -> Act -> World -> Prop} (hg : o.guard = none) (v : Value) (hr : (execOp a.eval o).run P w = .ok (.value v) w1)
 (hK : wpList P ops Q rest (a.put o.dst v) w1) : wpList P ops Q (o :: rest) a w := by
 refine wpList_plain hg fun K hK' => ?_
 unfold Oper.wp
 rw [hr]; exact hK' _ _ hK
theorem rowVal {P : Program} {w : World} {ops : Array Oper} {rest : List Oper} {o : Oper} {a : Act} {Q : Exit -> Act -> World -> Prop} (hg : o.guard = none) (v : Value) (hr : (execOp a.eval o).run P w = .ok (.value v) w)
 (hK : wpList P ops Q rest (a.put o.dst v) w) : wpList P ops Q (o :: rest) a w := rowOp hg v hr hK
theorem rowCall {P : Program} {w : World} {ops : Array Oper} {rest : List Oper} {o : Oper} {a : Act} {Q : Exit -> Act -> World -> Prop} (hg : o.guard = none) (f : FuncId) (args : Array Value) (hr : (execOp a.eval o).run P w = .ok (.enter f args) w) {R : Ending -> World -> Prop} (hc : Calls P f args w R)
 (hK : ∀ e w', R e w' -> ∃ v, e = .returned v ∧ wpList P ops Q rest (a.put o.dst v) w') : wpList P ops Q (o :: rest) a w := by
 refine wpList_plain hg fun K hK' => ?_
 unfold Oper.wp
 rw [hr]
 refine hc.mono ?_
 intro e w' h
 obtain ⟨v, rfl, h2⟩ := hK e w' h
 exact hK' _ _ h2
end Go.Proofs.YtjhididlcdepdaaGreat
