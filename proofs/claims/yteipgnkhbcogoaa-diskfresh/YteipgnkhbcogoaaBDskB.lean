import Derived.Test.YteipgnkhbcogoaaBObjB
import Derived.Test.YteipgnkhbcogoaaBByA
import Derived.Test.YteipgnkhbcogoaaBDskA
set_option linter.unusedVariables false
set_option linter.unusedSimpArgs false
set_option maxRecDepth 100000
set_option maxHeartbeats 4000000
namespace Go.Proofs.Yteipgnkhbcogoaa
open Go.RowKit Fld
def k32 (b : List Int) : List Value := (List.range 32).map fun i => .int .u8 (b.getD i 0)
theorem k32_len (b : List Int) : (k32 b).length = 32 := by simp [k32]
theorem k32_valb {b : List Int} (h : b.length = 32) : k32 b = valb b := by
 apply List.ext_getElem (by rw [k32_len, valb_length, h])
 intro i h1 h2
 rw [k32_len] at h1
 simp only [k32, valb, List.getElem_map, List.getElem_range]
 rw [List.getD_eq_getElem?_getD, List.getElem?_eq_getElem (by omega)]; rfl
theorem k32_one (b : List Int) : ∀ v ∈ k32 b, v.oneCell' = true := by
 intro v hv
 obtain ⟨i, _, rfl⟩ := List.mem_map.1 hv
 rfl
theorem bsl_info : (Try.prog.info? 43).map (fun i => (i.zero, i.size, i.bytes)) = some (some (.slice none 0 0), 1, 24) := by kernel_rfl
structure Dok (D : Dsk) : Prop where
 ok : DskOk D
 byt : ∀ b ∈ D.l, By b
 top : D.f <= 9223372036854775807
def dkw (D : Dsk) (v : Value) : Array Value := #[.bool true, v, .bool (decide (0 <= D.f)), .int .i64 (max D.f 0), .bool D.x, .int .i64 (D.n : Int)]
structure Hd (w : World) (base g : Nat) (v : Value) (D : Dsk) : Prop where
 dsk : w.heap[g]? = some (.cells (dkw D v) 50 (0, 0))
 row : w.ownsRow base 56 32 v D.l.length (D.l.flatMap k32)
 low : base <= g
 o : Dok D
theorem Hd.lt {w : World} {base g : Nat} {v : Value} {D : Dsk} (h : Hd w base g v D) : g < w.heap.size := (Array.getElem?_eq_some_iff.1 h.dsk).1
theorem Hd.cells {w : World} {base g : Nat} {v : Value} {D : Dsk} (h : Hd w base g v D) : w.cell? ⟨g, 0, none⟩ = some (.bool true) ∧ w.cell? ⟨g, 1, none⟩ = some v ∧ w.cell? ⟨g, 2, none⟩ = some (.bool (decide (0 <= D.f))) ∧ w.cell? ⟨g, 3, none⟩ = some (.int .i64 (max D.f 0)) ∧ w.cell? ⟨g, 4, none⟩ = some (.bool D.x) ∧ w.cell? ⟨g, 5, none⟩ = some (.int .i64 (D.n : Int)) := by
 have h' := h.dsk
 refine ⟨?_, ?_, ?_, ?_, ?_, ?_⟩ <;> simp [World.cell?, h', dkw]
theorem Hd.free {w : World} {base g : Nat} {v : Value} {D : Dsk} (h : Hd w base g v D) (k : Nat) : w.frozen? ⟨g, k, none⟩ = false := by
 have h' := h.dsk
 simp [World.frozen?, h']
theorem Hd.spell {w : World} {base g : Nat} {v : Value} {D : Dsk} (h : Hd w base g v D) : ∃ ao cap, v = .slice ao D.l.length cap ∧ D.l.length <= cap ∧ (0 < D.l.length -> ∃ r, ao = some ⟨r, 0, none⟩ ∧ base <= r ∧ r < w.heap.size) := own_spellO h.row
theorem Hd.own_lt {w : World} {base g : Nat} {v : Value} {D : Dsk} (h : Hd w base g v D) : ∀ j, v.ownBlock = some j -> base <= j ∧ j < w.heap.size := h.row.lt
theorem Hd.ne {w : World} {base g : Nat} {v : Value} {D : Dsk} (h : Hd w base g v D) : v.ownBlock ≠ some g := own_notO h.row h.dsk (by decide)
theorem Hd.kept {S : Nat -> Prop} {w w' : World} {base g : Nat} {v : Value} {D : Dsk} (h : Hd w base g v D) (k : Kq S w w') (hg : S g) (hv : ∀ j, v.ownBlock = some j -> S j) : Hd w' base g v D :=
 ⟨(k.block g hg).trans h.dsk, k.own h.row hv, h.low, h.o⟩
theorem Hd.below {w w' : World} {base g : Nat} {v : Value} {D : Dsk} (h : Hd w base g v D) (hb : Below w.heap.size w w') : Hd w' base g v D :=
 h.kept (Below.kq hb (S := fun j => j < w.heap.size) (fun j hj => hj)) h.lt (fun j hj => (h.own_lt j hj).2)
theorem dIsThere_nil (w : World) : Calls Try.prog 28 #[.pointer none] w fun e w' => e = .returned (.bool false) ∧ w' = w := by
 go_enter Try.func28, Try.ntmps28
 go_wp2
 go_ret
 exact ⟨rfl, rfl⟩
theorem dIsThere {w : World} {base g : Nat} {v : Value} {D : Dsk} (h : Hd w base g v D) : Calls Try.prog 28 #[.pointer (some ⟨g, 0, none⟩)] w fun e w' => e = .returned (.bool true) ∧ w' = w := by
 obtain ⟨c0, _⟩ := h.cells
 go_enter Try.func28, Try.ntmps28
 go_wp2
 go_ret
 exact ⟨rfl, rfl⟩
theorem dSucc {w : World} {base g : Nat} {v : Value} {D : Dsk} (h : Hd w base g v D) : Calls Try.prog 34 #[.pointer (some ⟨g, 0, none⟩)] w fun e w' => e = .returned (.bool (!(dieD D))) ∧ w' = w := by
 obtain ⟨_, _, c2, c3, c4, _⟩ := h.cells
 have hf := h.o.ok.fu
 obtain ⟨l, f, x, n⟩ := D
 dsimp only at c2 c3 c4 hf
 unfold dieD
 dsimp only
 clear h
 cases x with
 | true =>
  go_enter Try.func34, Try.ntmps34
  go_wp2
  go_ret
  exact ⟨rfl, rfl⟩
 | false =>
  rw [Bool.false_or]
  by_cases h1 : 0 <= f
  · rw [decide_eq_true h1] at c2
    by_cases h2 : 0 < f
    · rw [show max f 0 = f by omega] at c3
      rw [decide_eq_false (by omega : ¬ f = 0)]
      go_enter Try.func34, Try.ntmps34
      go_wp2
      go_ret
      exact ⟨rfl, rfl⟩
    · have : f = 0 := by omega
      subst this
      go_enter Try.func34, Try.ntmps34
      go_wp2
      go_ret
      exact ⟨rfl, rfl⟩
  · rw [decide_eq_false h1] at c2
    rw [decide_eq_false (by omega : ¬ f = 0)]
    go_enter Try.func34, Try.ntmps34
    go_wp2
    go_ret
    exact ⟨rfl, rfl⟩
end Go.Proofs.Yteipgnkhbcogoaa
