import Derived.Test.YteipgnkhbcogoaaBunM
import Derived.Laws.CopyOwn
set_option linter.unusedVariables false
set_option linter.unusedSimpArgs false
set_option maxRecDepth 100000
set_option maxHeartbeats 4000000
namespace Go.Proofs.Yteipgnkhbcogoaa
open Go.RowKit
theorem add_atO (b off i : Nat) : (⟨b, off, none⟩ : Addr).add i = ⟨b, off + i, none⟩ := by unfold Addr.add; split <;> simp_all
theorem own_setn {W : World} {base g n cap k sz : Nat} {T : TypeId} {xs : List Value} (h : W.ownsRow base T sz (.slice (some ⟨g, 0, none⟩) n cap) n xs) (u : Value) : (W.setCell ⟨g, k, none⟩ u).ownsRow base T sz (.slice (some ⟨g, 0, none⟩) n cap) n (xs.set k u) := by
 refine ⟨by rw [List.length_set]; exact h.1, ?_⟩
 rcases h.2 with ⟨e, _⟩ | ⟨g', cap', cur, e, h2, h3, h4, h5, h6, h7⟩
 · cases e
 · cases e
   refine .inr ⟨g, cap, cur.setIfInBounds k u, rfl, h2, set_blk h3 k u, h4, h5, by rw [Array.size_setIfInBounds]; exact h6, ?_⟩
   rw [Array.toList_setIfInBounds, <- h7, List.take_set]
theorem own_frz {W : World} {base g n cap sz : Nat} {T : TypeId} {xs : List Value} (h : W.ownsRow base T sz (.slice (some ⟨g, 0, none⟩) n cap) n xs) (k : Nat) : W.frozen? ⟨g, k, none⟩ = false := h.frozenAt k
theorem own_atO {W : World} {base g n cap sz : Nat} {T : TypeId} {xs : List Value} (h : W.ownsRow base T sz (.slice (some ⟨g, 0, none⟩) n cap) n xs) {k : Nat} {u : Value} (hu : xs[k]? = some u) : W.cell? ⟨g, k, none⟩ = some u := by
 have := h.cells (g := g) rfl k u hu
 rw [add_atO, Nat.zero_add] at this; exact this
theorem own_short {W : World} {base g n cap sz m : Nat} {T : TypeId} {xs : List Value} (h : W.ownsRow base T sz (.slice (some ⟨g, 0, none⟩) n cap) n xs) (hm : m <= n) : W.ownsRow base T sz (.slice (some ⟨g, 0, none⟩) m cap) m (xs.take (m * sz)) := by
 have h1 := h.1
 have hle : m * sz <= n * sz := Nat.mul_le_mul_right _ hm
 refine ⟨by rw [List.length_take]; omega, ?_⟩
 rcases h.2 with ⟨e, _⟩ | ⟨g', cap', cur, e, h2, h3, h4, h5, h6, h7⟩
 · cases e
 · cases e
   refine .inr ⟨g, cap, cur, rfl, h2, h3, by omega, h5, h6, ?_⟩
   rw [<- h7, List.take_take]; congr 1; omega
theorem own_spellO {W : World} {base n sz : Nat} {T : TypeId} {v : Value} {xs : List Value} (h : W.ownsRow base T sz v n xs) : ∃ ao cap, v = .slice ao n cap ∧ n <= cap ∧ (0 < n -> ∃ g, ao = some ⟨g, 0, none⟩ ∧ base <= g ∧ g < W.heap.size) := by
 rcases h.2 with ⟨rfl, rfl⟩ | ⟨g, cap, cur, rfl, h2, h3, h4, _⟩
 · exact ⟨none, 0, rfl, Nat.le_refl _, fun h => absurd h (by omega)⟩
 · exact ⟨_, _, rfl, h4, fun _ => ⟨g, rfl, h2, (Array.getElem?_eq_some_iff.1 h3).1⟩⟩
theorem flat_splice {α : Type} (f : α -> List Value) (sz : Nat) (hf : ∀ x, (f x).length = sz) (xs : List α) (o k n : Nat) (ho : o + n <= xs.length) (hk : k + n <= xs.length) :
 (xs.flatMap f).take (o * sz) ++ (((xs.flatMap f).drop (k * sz)).take (n * sz) ++ (xs.flatMap f).drop ((o + n) * sz)) = (xs.take o ++ ((xs.drop k).take n ++ xs.drop (o + n))).flatMap f := by
 have ht : ∀ (ys : List α) (m : Nat), (ys.flatMap f).take (m * sz) = (ys.take m).flatMap f := by
  intro ys
  induction ys with
  | nil => intro m; simp
  | cons y ys ih =>
   intro m
   cases m with
   | zero => simp
   | succ m => rw [List.flatMap_cons, List.take_succ_cons, List.flatMap_cons, List.take_append, hf, <- ih m, List.take_of_length_le (by rw [hf, Nat.add_mul]; omega)]; congr 2; rw [Nat.add_mul]; omega
 have hd : ∀ (ys : List α) (m : Nat), (ys.flatMap f).drop (m * sz) = (ys.drop m).flatMap f := by
  intro ys
  induction ys with
  | nil => intro m; simp
  | cons y ys ih =>
   intro m
   cases m with
   | zero => simp
   | succ m => rw [List.flatMap_cons, List.drop_succ_cons, List.drop_append, hf, <- ih m, List.drop_of_length_le (by rw [hf, Nat.add_mul]; omega), List.nil_append]; congr 1; rw [Nat.add_mul]; omega
 rw [ht, hd, ht, hd, List.flatMap_append, List.flatMap_append]
theorem flat_take {α : Type} (f : α -> List Value) (sz : Nat) (hf : ∀ x, (f x).length = sz) (xs : List α) (m : Nat) (hm : m <= xs.length) : (xs.flatMap f).take (m * sz) = (xs.take m).flatMap f := by
 have := flat_splice f sz hf xs m xs.length 0 (by omega) (by omega)
 simp only [Nat.zero_mul, List.take_zero, List.nil_append, Nat.add_zero] at this
 have h2 := congrArg (List.take (m * sz)) this
 rw [List.take_append_of_le_length (by rw [List.length_take, flat_len f sz hf]; have := Nat.mul_le_mul_right sz hm; omega), List.take_take, Nat.min_self] at h2
 rw [h2, List.flatMap_append, List.take_append_of_le_length (by rw [flat_len f sz hf, List.length_take]; rw [Nat.min_eq_left hm]; exact Nat.le_refl _), List.take_of_length_le (by rw [flat_len f sz hf, List.length_take, Nat.min_eq_left hm]; exact Nat.le_refl _)]
abbrev Bv (w : World) (g : Nat) (r : Option Nat) (j : Nat) : Prop := j < w.heap.size ∧ j ≠ g ∧ r ≠ some j
structure Mv (w w' : World) (g : Nat) (v v' : Value) : Prop where
 kq : Kq (Bv w g v.ownBlock) w w'
 new : ∀ j, v'.ownBlock = some j -> v.ownBlock = some j ∨ w.heap.size <= j
theorem Mv.refl (w : World) (g : Nat) (v : Value) : Mv w w g v v := ⟨Kq.refl _ w, fun j h => .inl h⟩
theorem Mv.of_below {w w' : World} (g : Nat) (v : Value) (h : Below w.heap.size w w') : Mv w w' g v v := ⟨Below.kq h (fun j hj => hj.1), fun j h => .inl h⟩
theorem Mv.trans {a b c : World} {g : Nat} {u v x : Value} (h : Mv a b g u v) (k : Mv b c g v x) : Mv a c g u x := by
 have hs := h.kq.size
 refine ⟨h.kq.trans (k.kq.mono (fun j hj => ⟨by have := hj.1; omega, hj.2.1, fun e => ?_⟩)), fun j hj => ?_⟩
 · rcases h.new j e with h1 | h1
   · exact hj.2.2 h1
   · have := hj.1; omega
 · rcases k.new j hj with h1 | h1
   · exact h.new j h1
   · exact .inr (by omega)
theorem Mv.after {a b c : World} {g : Nat} {u v : Value} (h : Below a.heap.size a b) (k : Mv b c g u v) : Mv a c g u v := (Mv.of_below g u h).trans k
theorem Mv.below {w w' : World} {g base : Nat} {v v' : Value} (h : Mv w w' g v v') (hw : base <= w.heap.size) (hg : base <= g) (hv : ∀ j, v.ownBlock = some j -> base <= j) : Below base w w' :=
 h.kq.below (fun j hj => ⟨by omega, by omega, fun e => by have := hv j e; omega⟩)
theorem Mv.block {w w' : World} {g j : Nat} {v v' : Value} (h : Mv w w' g v v') (h1 : j < w.heap.size) (h2 : j ≠ g) (h3 : v.ownBlock ≠ some j) : w'.heap[j]? = w.heap[j]? := h.kq.block j ⟨h1, h2, h3⟩
theorem mv_set (w : World) (g k : Nat) (u v : Value) : Mv w (w.setCell ⟨g, k, none⟩ u) g v v := ⟨⟨rfl, rfl, rfl, by simp, fun j hj => Below.heap_setCell _ _ _ j hj.2.1⟩, fun j h => .inl h⟩
theorem mv_grown {w w' : World} {base e size n m : Nat} {v v' : Value} {xs ys : List Value} (g : Nat) (h : w.grownBy w' v.ownBlock) (hO : w.ownsRow base e size v n xs) (hN : w'.ownsRow base e size v' m ys) (hat : ∀ j, v'.ownBlock = some j -> v.ownBlock = some j ∨ w.heap.size <= j) : Mv w w' g v v' :=
 ⟨⟨h.os, h.tape, h.output, h.size, fun j hj => h.block j hj.1 (fun e => hj.2.2 e.symm)⟩, hat⟩
end Go.Proofs.Yteipgnkhbcogoaa
