import Derived.Test.YtjhididlcdepdaaGreatBunM
import Derived.Test.YtjhididlcdepdaaGreatBRowA
import Derived.Deep.WholeRow
import Derived.Deep.RegionWith
import Derived.Deep.CutRange
import Derived.Deep.CutBlock
import Derived.Laws.CopyOwn
import Derived.Test.YtjhididlcdepdaaGreatBunS
import Derived.Laws.MakeOwn
set_option linter.unusedVariables false
set_option linter.unusedSimpArgs false
set_option maxRecDepth 100000
set_option maxHeartbeats 4000000
namespace Go.Proofs.YtjhididlcdepdaaGreat
open Go.RowKit Fld Slp
section
variable {α : Type} {f : α → Value} {T : TypeId} {n : Nat}
end
section
variable {α : Type} {f : α → Value} {T : TypeId} {w W W' : World} {p : Pr} {vo vu : Value} {b0 b1 b2 : Nat} {z : α} {xs : List α}
end
section
variable {α : Type} {f : α → Value} {T : TypeId} {m : Nat} {w W W' : World} {p : Pr} {vo vu : Value} {b0 b2 : Nat} {xs : List α}
end
theorem info_of {t : TypeId} {z : Value} {s b : Nat} (h : (Tryz.prog.info? t).map (fun i => (i.zero, i.size, i.bytes)) = some (some z, s, b)) : ∃ i, Tryz.prog.info? t = some i ∧ i.zero = some z ∧ i.size = s ∧ i.bytes = b := by
 cases hq : Tryz.prog.info? t with
 | none => rw [hq] at h; cases h
 | some i => rw [hq] at h; simp at h; exact ⟨i, rfl, h.1, h.2.1, h.2.2⟩
theorem made_list (z : Value) (n : Nat) : madeCells #[z] (n * 1) = (List.replicate n z).toArray := by
 apply Array.ext'
 rw [toList_madeCells_one, Nat.mul_one]
theorem bool_info : (Tryz.prog.info? 4).map (fun i => (i.zero, i.size, i.bytes)) = some (some (.bool false), 1, 1) := by kernel_rfl
theorem makeB (n : Nat) (hn : n ≤ 1000) (W : World) : (Instr.makeSlice 76 (.int .i64 (n : Int)) (.int .i64 (n : Int))).run Tryz.prog W = .ok (.slice (some ⟨W.heap.size, 0, none⟩) n n) (W.alloc (.cells ((List.replicate n false).map Value.bool).toArray 4)) := by
 obtain ⟨i, hi, hz, hs, hb⟩ := info_of bool_info
 have := run_make (P := Tryz.prog) W 76 4 i (.bool false) Tryz.underlying76 hi hz .i64 .i64 (n : Int) (n : Int) (by omega) (Int.le_refl _) (by rw [hb]; omega) (by omega)
 rw [Int.toNat_natCast, hs] at this
 rw [this]
 show Result.ok _ (W.alloc (.cells (madeCells #[.bool false] (n * 1)) 4)) = _
 rw [made_list, List.map_replicate]
end Go.Proofs.YtjhididlcdepdaaGreat
