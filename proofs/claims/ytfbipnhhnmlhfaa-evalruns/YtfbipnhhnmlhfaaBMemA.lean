/-
  Layer 9: lists and blocks in memory, what many walks want.
-/
import Derived.Test.YtfbipnhhnmlhfaaBSlwA
import Derived.Maps.AppendAt
import Derived.RangeFuncSeq
import Derived.Lib.OthersKept
import Derived.Lib.AppendZeros
import Derived.Laws.OwnMore
namespace Go.Proofs.Ytfbipnhhnmlhfaa
open Go.RowKit Fld Slp
set_option linter.unusedVariables false
set_option linter.unusedSimpArgs false

theorem below_own {w w' : World} (hb : Below w.heap.size w w') : w.grownBy w' none := ⟨hb.os, hb.tape, hb.output, hb.size, fun j hj _ => hb.block j hj⟩

/-- A row that a call made has its slice's form. -/
theorem own_slice {w : World} {b n s : Nat} {T : TypeId} {v : Value} {xs : List Value} (h : w.ownsRow b T s v n xs) : ∃ a c, v = .slice a n c := by
  rcases h.2 with ⟨rfl, h0⟩ | ⟨g, cap, cur, rfl, _⟩
  · exact ⟨_, _, by rw [h0]⟩
  · exact ⟨_, _, rfl⟩

theorem set_blk {W : World} {rb : Nat} {cs : Array Value} {T : TypeId} (h : W.heap[rb]? = some (.cells cs T (0, 0))) (k : Nat) (v : Value) : (W.setCell ⟨rb, k, none⟩ v).heap[rb]? = some (.cells (cs.setIfInBounds k v) T (0, 0)) := by
  obtain ⟨hlt, hk⟩ := Array.getElem?_eq_some_iff.1 h
  show (W.heap.modify rb _)[rb]? = _
  rw [Array.getElem?_eq_getElem (by rw [Array.size_modify]; exact hlt), Array.getElem_modify_self, hk]
  rfl

theorem set3_grown (W : World) (g : Nat) (a b c : Value) : W.grownBy (((W.setCell ⟨g, 0, none⟩ a).setCell ⟨g, 1, none⟩ b).setCell ⟨g, 2, none⟩ c) (some g) :=
  ⟨rfl, rfl, rfl, by simp [World.setCell], fun j _ hj => by
    have h : j ≠ g := fun e => hj (by rw [e])
    rw [Below.heap_setCell _ _ _ j h, Below.heap_setCell _ _ _ j h, Below.heap_setCell _ _ _ j h]⟩

theorem load_prog {w : World} {b : Nat} {k a c : Value} {T : TypeId} {fz : Nat × Nat} (h : w.heap[b]? = some (.cells #[k, a, c] T fz)) : (loadVar 25 ⟨b, 0, none⟩).run Try.prog w = .ok (.agg #[k, a, c]) w := by
  have e0 : w.cell? ⟨b, 0, none⟩ = some k := by rw [Lib.cell_of_heap h]; rfl
  have e1 : w.cell? ⟨b, 1, none⟩ = some a := by rw [Lib.cell_of_heap h]; rfl
  have e2 : w.cell? ⟨b, 2, none⟩ = some c := by rw [Lib.cell_of_heap h]; rfl
  simp [go_sem, e0, e1, e2]

theorem cell3 {W : World} {b : Nat} {x y z : Value} {T : TypeId} {fz : Nat × Nat} (h : W.heap[b]? = some (.cells #[x, y, z] T fz)) : W.cell? ⟨b, 0, none⟩ = some x ∧ W.cell? ⟨b, 1, none⟩ = some y ∧ W.cell? ⟨b, 2, none⟩ = some z :=
  ⟨by rw [Lib.cell_of_heap h]; rfl, by rw [Lib.cell_of_heap h]; rfl, by rw [Lib.cell_of_heap h]; rfl⟩

theorem alloc2 (w : World) (A B : Obj) : ((w.alloc A).alloc B).heap[w.heap.size]? = some A ∧ ((w.alloc A).alloc B).heap[w.heap.size + 1]? = some B ∧ Below w.heap.size w ((w.alloc A).alloc B) := by
  have b1 := alloc_below w A
  have n1 := heap_alloc_new w A
  have z1 : (w.alloc A).heap.size = w.heap.size + 1 := by simp
  generalize w.alloc A = w1 at *
  have b2 := alloc_below w1 B
  have n2 := heap_alloc_new w1 B
  rw [z1] at n2
  exact ⟨(b2.block _ (by omega)).trans n1, n2, Below.next b1 b2⟩

theorem alloc3 (w : World) (A B C : Obj) : (((w.alloc A).alloc B).alloc C).heap[w.heap.size]? = some A ∧ (((w.alloc A).alloc B).alloc C).heap[w.heap.size + 1]? = some B ∧ (((w.alloc A).alloc B).alloc C).heap[w.heap.size + 1 + 1]? = some C ∧ Below w.heap.size w (((w.alloc A).alloc B).alloc C) := by
  have b1 := alloc_below w A
  have n1 := heap_alloc_new w A
  have z1 : (w.alloc A).heap.size = w.heap.size + 1 := by simp
  generalize w.alloc A = w1 at *
  have b2 := alloc_below w1 B
  have n2 := heap_alloc_new w1 B
  have z2 : (w1.alloc B).heap.size = w1.heap.size + 1 := by simp
  generalize w1.alloc B = w2 at *
  have b3 := alloc_below w2 C
  have n3 := heap_alloc_new w2 C
  rw [z1] at n2
  rw [z2, z1] at n3
  exact ⟨((b3.block _ (by omega)).trans ((b2.block _ (by omega)).trans n1)), (b3.block _ (by omega)).trans n2, n3, Below.next b1 (Below.next b2 b3)⟩

theorem int_info : (Try.prog.info? 3).map (fun i => (i.zero, i.size, i.bytes)) = some (some (.int .i64 0), 1, 8) := by kernel_rfl

theorem op_info : (Try.prog.info? 68).map (fun i => (i.zero, i.size, i.bytes)) = some (some (.agg #[.int .u8 0, .int .i64 0, .int .i64 0, .int .u64 0]), 4, 32) := by kernel_rfl

/-- A row's block holds what its type says. -/
theorem own_not {W : World} {base s n b : Nat} {T T' : TypeId} {v : Value} {xs : List Value} {cs : Array Value} {fz : Nat × Nat} (h : W.ownsRow base T s v n xs) (hb : W.heap[b]? = some (.cells cs T' fz)) (hT : T' ≠ T) : v.ownBlock ≠ some b := by
  rcases h.2 with ⟨rfl, _⟩ | ⟨g, cap, cur, rfl, _, hgb, _⟩
  · simp [Value.ownBlock]
  · intro e
    have e1 : g = b := by simpa [Value.ownBlock] using e
    rw [e1] at hgb
    have := hb.symm.trans hgb
    simp at this
    exact hT this.2.1

theorem own_blk {W : World} {base s n g : Nat} {T : TypeId} {v : Value} {xs : List Value} (h : W.ownsRow base T s v n xs) (hg : v.ownBlock = some g) : ∃ cs, W.heap[g]? = some (.cells cs T (0, 0)) := by
  rcases h.2 with ⟨rfl, _⟩ | ⟨g1, cap, cur, rfl, _, hgb, _⟩
  · simp [Value.ownBlock] at hg
  · have e1 : g1 = g := by simpa [Value.ownBlock] using hg
    exact ⟨_, by rw [← e1]; exact hgb⟩

theorem res_ct {P : Program} {fn : Func} {tmps : Array Value} {w : World} {a b : Nat} {t : TypeId} {ad : Addr} {v u : Value} (hr : fn.results = #[.cell a t, .tmp b]) (ha : tmps.getD a undef = .pointer (some ad)) (hb : tmps.getD b undef = u) (hl : (loadVar t ad).run P w = .ok v w) :
    (results fn tmps).run P w = .ok (.tuple #[v, u]) w := by
  have ha2 : tmps[a]?.getD undef = .pointer (some ad) := by rw [← ha]; simp
  have hb2 : tmps[b]?.getD undef = u := by rw [← hb]; simp
  simp [results, hr, ha2, hb2, asAddr, hl]

theorem own_nil (w : World) (b s : Nat) (T : TypeId) : w.ownsRow b T s (.slice none 0 0) 0 [] := ⟨by simp, .inl ⟨rfl, rfl⟩⟩

/-- Steps appended to a list of the call's own. -/
theorem appO (W : World) (base : Nat) (u : Value) (A B : List O4) (vb : Value) (hO : W.ownsRow base 68 4 u A.length (A.flatMap opw)) (hB : Lm opw 4 W vb B) (hl : A.length + B.length ≤ 1000) (hb : base ≤ W.heap.size) :
    ∃ v' W', (Builtin.append_ #[22, 22] 22 #[u, vb]).run Try.prog W = .ok v' W' ∧ W'.ownsRow base 68 4 v' (A ++ B).length ((A ++ B).flatMap opw) ∧ Below base W W' ∧ W.grownBy W' u.ownBlock := by
  obtain ⟨i0, hi0, hz0, hz1, hz2⟩ := info_parts op_info
  have key : ∀ (ad : Addr) (c : Nat), (∀ j x, (B.flatMap opw)[j]? = some x → W.cell? (ad.add j) = some x) → ∃ v' W', (Builtin.append_ #[22, 22] 22 #[u, .slice (some ad) B.length c]).run Try.prog W = .ok v' W' ∧ W'.ownsRow base 68 4 v' (A ++ B).length ((A ++ B).flatMap opw) ∧ Below base W W' ∧ W.grownBy W' u.ownBlock := fun ad c hc => by
    obtain ⟨v', W', hr, ho, hg, _⟩ := run_append_own (P := Try.prog) (w := W) base 22 22 68 i0 (.agg #[.int .u8 0, .int .i64 0, .int .i64 0, .int .u64 0]) 4 32 Try.underlying22 hi0 hz0 hz1 hz2 rfl (by decide) u A.length (A.flatMap opw) hO ad B.length c (B.flatMap opw) (flat_len opw 4 opw_len B) hc (fun x hx => by
      obtain ⟨o, _, ho⟩ := List.mem_flatMap.1 hx
      simp [opw] at ho
      rcases ho with rfl | rfl | rfl | rfl <;> rfl) (by unfold maxLen; omega) (by omega) hb
    refine ⟨v', W', hr, ?_, (Below.refl base W).grown hg hb (fun k hk => own_base hO k hk), hg⟩
    rw [List.length_append, List.flatMap_append]; exact ho
  obtain ⟨ao, cap, rfl, h1, h2⟩ := hB
  cases ao with
  | some ad => exact key ad cap (Lm.news opw_len (by decide) ⟨some ad, cap, rfl, h1, h2⟩)
  | none =>
    have hB0 : B = [] := by
      cases B with
      | nil => rfl
      | cons o B => obtain ⟨b, off, e, _⟩ := h2 (by simp); cases e
    have hc0 := h1.2.2 rfl
    subst hB0 hc0
    refine ⟨u, W, run_append_owned_none (P := Try.prog) W base 22 22 68 i0 4 Try.underlying22 hi0 u A.length (A.flatMap opw) hO, by rw [List.append_nil]; exact hO, Below.refl _ _, ⟨rfl, rfl, rfl, Nat.le_refl _, fun _ _ _ => rfl⟩⟩

theorem own_lit {W : World} {b s n : Nat} {T : TypeId} (cs : List Value) (h : W.heap[b]? = some (.cells cs.toArray T (0, 0))) (hl : cs.length = n * s) (hn : n ≤ 1000) : W.ownsRow b T s (.slice (some ⟨b, 0, none⟩) n n) n cs :=
  ⟨hl, .inr ⟨b, n, cs.toArray, rfl, Nat.le_refl _, h, Nat.le_refl _, by unfold maxLen; omega, by simpa using hl, by simp [← hl]⟩⟩

end Go.Proofs.Ytfbipnhhnmlhfaa
