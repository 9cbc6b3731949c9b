import Derived.Test.YteipgnkhbcogoaaBunW
set_option linter.unusedVariables false
set_option linter.unusedSimpArgs false
set_option maxRecDepth 100000
set_option maxHeartbeats 4000000
namespace Go.Proofs.Yteipgnkhbcogoaa
open Go.RowKit Fld
theorem own_mono {w : World} {base base' e size n : Nat} {v : Value} {xs : List Value} (h : w.ownsRow base e size v n xs) (hb : base' <= base) : w.ownsRow base' e size v n xs := by
 refine ⟨h.1, ?_⟩
 rcases h.2 with h1 | ⟨g, cap, cur, h1, h2, h3⟩
 · exact .inl h1
 · exact .inr ⟨g, cap, cur, h1, by omega, h3⟩
theorem own_kept {w w' : World} {b s n : Nat} {T : TypeId} {v : Value} {xs : List Value} {r : Option Nat} (h : w.ownsRow b T s v n xs) (hg : w.grownBy w' r) (hne : ∀ g, v.ownBlock = some g -> r ≠ some g) : w'.ownsRow b T s v n xs := h.kept hg (by
 cases hb : Value.ownBlock _ with
 | none => exact .inl rfl
 | some g => exact .inr (fun hc => hne g hb hc.symm))
structure Kq (S : Nat -> Prop) (w w' : World) : Prop where
 os : w'.os = w.os
 tape : w'.tape = w.tape
 output : w'.output = w.output
 size : w.heap.size <= w'.heap.size
 block : ∀ j, S j -> w'.heap[j]? = w.heap[j]?
theorem Kq.refl (S : Nat -> Prop) (w : World) : Kq S w w := ⟨rfl, rfl, rfl, Nat.le_refl _, fun _ _ => rfl⟩
theorem Kq.trans {S : Nat -> Prop} {a b c : World} (h : Kq S a b) (k : Kq S b c) : Kq S a c := ⟨k.os.trans h.os, k.tape.trans h.tape, k.output.trans h.output, Nat.le_trans h.size k.size, fun j hj => (k.block j hj).trans (h.block j hj)⟩
theorem Kq.mono {S S' : Nat -> Prop} {a b : World} (h : Kq S a b) (hs : ∀ j, S' j -> S j) : Kq S' a b := ⟨h.os, h.tape, h.output, h.size, fun j hj => h.block j (hs j hj)⟩
theorem Below.kq {S : Nat -> Prop} {B : Nat} {a b : World} (h : Below B a b) (hs : ∀ j, S j -> j < B) : Kq S a b := ⟨h.os, h.tape, h.output, h.size, fun j hj => h.block j (hs j hj)⟩
theorem grown_kq {S : Nat -> Prop} {a b : World} {r : Option Nat} (h : a.grownBy b r) (hs : ∀ j, S j -> j < a.heap.size) (hr : ∀ k, r = some k -> ¬ S k) : Kq S a b :=
 ⟨h.os, h.tape, h.output, h.size, fun j hj => h.block j (hs j hj) (fun e => hr j e.symm hj)⟩
theorem Kq.below {S : Nat -> Prop} {B : Nat} {a b : World} (h : Kq S a b) (hs : ∀ j, j < B -> S j) : Below B a b := ⟨h.os, h.tape, h.output, h.size, fun j hj => h.block j (hs j hj)⟩
theorem Kq.own {S : Nat -> Prop} {w w' : World} {b s n : Nat} {T : TypeId} {v : Value} {xs : List Value} (h : Kq S w w') (hO : w.ownsRow b T s v n xs) (hs : ∀ g, v.ownBlock = some g -> S g) : w'.ownsRow b T s v n xs := by
 refine ⟨hO.1, ?_⟩
 rcases hO.2 with h1 | ⟨g, cap, cur, h1, h2, h3, h4⟩
 · exact .inl h1
 · refine .inr ⟨g, cap, cur, h1, h2, ?_, h4⟩
   rw [h.block g (hs g (by rw [h1]; rfl))]; exact h3
end Go.Proofs.Yteipgnkhbcogoaa
