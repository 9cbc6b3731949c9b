import Derived.Test.YtjhididlcdepdaaGreatBunW
import Derived.Test.YtjhididlcdepdaaGreatBLodA
import Derived.Test.YtjhididlcdepdaaGreatBPntM
set_option linter.unusedVariables false
set_option linter.unusedSimpArgs false
set_option maxRecDepth 100000
set_option maxHeartbeats 4000000
namespace Go.Proofs.YtjhididlcdepdaaGreat
open Go.RowKit Fld Rnk
def zrX (n : Nat) : List Value := vals (List.replicate n 0)
theorem zrX_len (n : Nat) : (zrX n).length = n := by simp [zrX, vals]
theorem w_info17 : (Tryz.prog.info? 64).map (fun i => (i.zero, i.size, i.bytes)) = some (some (.int .u64 0), 1, 8) := by kernel_rfl
theorem makeX (n : Nat) (hm : n ≤ 1000) (W : World) : (Instr.makeSlice 36 (.int .i64 (n : Int)) (.int .i64 (n : Int))).run Tryz.prog W = .ok (.slice (some ⟨W.heap.size, 0, none⟩) n n) (W.alloc (.cells (zrX n).toArray 64)) := by
 obtain ⟨i, hi, hz, hs, hb⟩ := info_parts w_info17
 have := run_make (P := Tryz.prog) W 36 64 i (.int .u64 0) Tryz.underlying36 hi hz .i64 .i64 (n : Int) (n : Int) (by omega) (by omega) (by rw [hb]; omega) (by omega)
 rw [this, hs, Int.toNat_natCast]
 show Result.ok _ (W.alloc (.cells (madeCells #[.int .u64 0] (n * 1)) 64)) = _
 have e : madeCells #[Value.int .u64 0] (n * 1) = (List.replicate n (Value.int .u64 0)).toArray := by
  apply Array.ext'
  rw [toList_madeCells_one, Nat.mul_one]
 rw [e]
 unfold zrX vals
 rw [List.map_replicate]
theorem own_newX {W : World} {base n : Nat} {T : TypeId} {cs : List Value} (hb : base ≤ W.heap.size) (hl : cs.length = n) (hn : n ≤ 1000) : (W.alloc (.cells cs.toArray T)).ownsRow base T 1 (.slice (some ⟨W.heap.size, 0, none⟩) n n) n cs :=
 ⟨by rw [hl, Nat.mul_one], .inr ⟨W.heap.size, n, cs.toArray, rfl, hb, heap_alloc_new W _, Nat.le_refl _, by unfold maxLen; omega, by rw [List.size_toArray, hl, Nat.mul_one], by rw [Nat.mul_one, ← hl]; exact List.take_length⟩⟩
end Go.Proofs.YtjhididlcdepdaaGreat
