/-
  Layer 9: After, the program's: where a value goes (its closure).
-/
import Derived.Test.YtjkialmhajbcfaaDoorBSlwY
import Derived.Test.YtjkialmhajbcfaaDoorBSlwB
namespace Go.Proofs.YtjkialmhajbcfaaDoor
open Go.RowKit Fld Slp
set_option linter.unusedVariables false
set_option linter.unusedSimpArgs false

theorem aft_low {q : Pr} {n k : Nat} (h : k < q.outs.length) : (aftAt q n).getD k 0 = q.outs[k] := by
  unfold aftAt
  rw [List.getD_eq_getElem?_getD, List.getElem?_append_left h, List.getElem?_eq_getElem h]; rfl
theorem aft_high {q : Pr} {n k : Nat} (h : ¬ k < q.outs.length) (hn : k < q.outs.length + n) : (aftAt q n).getD k 0 = q.inp + (q.ops.length : Int) + (k : Int) - (q.outs.length : Int) := by
  unfold aftAt
  have h2 : k - q.outs.length < n := by omega
  rw [List.getD_eq_getElem?_getD, List.getElem?_append_right (by omega)]
  simp [h2]
  omega

set_option maxRecDepth 100000 in
set_option maxHeartbeats 400000 in
theorem sPlace (w : World) (bp bq n : Nat) (p q : Pr) (v : Int) (vo vu xo : Value) (xu : Value) (hbp : w.heap[bp]? = some (.cells #[.int .i64 p.inp, vo, vu] 25 (0, 0))) (hbq : w.heap[bq]? = some (.cells #[.int .i64 q.inp, xo, xu] 25 (0, 0)))
    (hxo : Lm opw 4 w xo q.ops) (hxu : Lm iw 1 w xu q.outs) (hl : (q.outs.length : Int) = p.inp) (h0 : 0 ≤ v) (h1 : v < p.inp + n) (hn : n ≤ 256) (hp : p.inp ≤ 64) (hq0 : 0 ≤ q.inp) (hq : q.inp ≤ 64) (hqo : q.ops.length ≤ 256) :
    Calls Tryd.prog 42 #[.int .i64 v, .pointer (some ⟨bp, 0, none⟩), .pointer (some ⟨bq, 0, none⟩)] w fun e w' => e = .returned (.int .i64 ((aftAt q n).getD v.toNat 0)) ∧ w' = w := by
  obtain ⟨ao, co, rfl, _⟩ := hxo.spell
  have c0 : w.cell? ⟨bp, 0, none⟩ = some (.int .i64 p.inp) := by rw [Lib.cell_of_heap hbp]; rfl
  have d0 : w.cell? ⟨bq, 0, none⟩ = some (.int .i64 q.inp) := by rw [Lib.cell_of_heap hbq]; rfl
  have d1 : w.cell? ⟨bq, 1, none⟩ = some (.slice ao q.ops.length co) := by rw [Lib.cell_of_heap hbq]; rfl
  have d2 : w.cell? ⟨bq, 2, none⟩ = some xu := by rw [Lib.cell_of_heap hbq]; rfl
  obtain ⟨k, rfl⟩ := Int.eq_ofNat_of_zero_le h0
  rw [Int.toNat_natCast]
  by_cases hk : k < q.outs.length
  · rw [aft_low hk]
    obtain ⟨b, off, cu, rfl, _, hb⟩ := hxu.form (by omega)
    have ci := hxu.int (Below.refl _ w) hk
    have hk1 : (k : Int) < p.inp := by omega
    have hk2 : (k : Int) < (q.outs.length : Int) := by omega
    clear hxu hxo
    generalize q.outs[k] = x at *
    go_enter Tryd.func42, Tryd.ntmps42
    go_wp2
    go_ret
    exact ⟨rfl, rfl⟩
  · rw [aft_high hk (by omega)]
    obtain ⟨au, cu, rfl, _⟩ := hxu.spell
    have hk1 : ¬ (k : Int) < p.inp := by omega
    have e1 : IntKind.i64.wrap (q.inp + (q.ops.length : Int)) = q.inp + (q.ops.length : Int) := by rw [IntKind.wrap_i64]; omega
    have e2 : IntKind.i64.wrap (q.inp + (q.ops.length : Int) + (k : Int)) = q.inp + (q.ops.length : Int) + (k : Int) := by rw [IntKind.wrap_i64]; omega
    have e3 : IntKind.i64.wrap (q.inp + (q.ops.length : Int) + (k : Int) - p.inp) = q.inp + (q.ops.length : Int) + (k : Int) - p.inp := by rw [IntKind.wrap_i64]; omega
    have HL := hide hl
    clear hxu hxo hl
    go_enter Tryd.func42, Tryd.ntmps42
    go_wp2
    go_ret
    exact ⟨by rw [HL.out]; rfl, rfl⟩

end Go.Proofs.YtjkialmhajbcfaaDoor
