import Derived.Test.YtaikhiodpieghaaBunW
import Derived.Laws.CopyOwn
set_option linter.unusedVariables false
set_option linter.unusedSimpArgs false
set_option maxRecDepth 100000
set_option maxHeartbeats 4000000
namespace Go.Proofs.Ytaikhiodpieghaa
open Go.RowKit Fld
theorem own_mono {w : World} {base base' e size n : Nat} {v : Value} {xs : List Value} (h : w.ownsRow base e size v n xs) (hb : base' <= base) : w.ownsRow base' e size v n xs := by
 refine ⟨h.1, ?_⟩
 rcases h.2 with h1 | ⟨g, cap, cur, h1, h2, h3⟩
 · exact .inl h1
 · exact .inr ⟨g, cap, cur, h1, by omega, h3⟩
theorem own_top {w : World} {b s n : Nat} {T : TypeId} {v : Value} {xs : List Value} (h : w.ownsRow b T s v n xs) (g : Nat) (hg : v.ownBlock = some g) : g < w.heap.size := by
 rcases h.2 with ⟨rfl, _⟩ | ⟨g1, c1, u1, rfl, _, k1, _⟩
 · simp [Value.ownBlock] at hg
 · simp [Value.ownBlock] at hg
   subst hg
   rcases Nat.lt_or_ge g1 w.heap.size with h | h
   · exact h
   · rw [Array.getElem?_eq_none h] at k1; cases k1
theorem own_form {w : World} {b n : Nat} {T : TypeId} {v : Value} {xs : List Value} (h : w.ownsRow b T 1 v n xs) : ∃ a c, v = .slice a n c := by
 rcases h.2 with ⟨rfl, h0⟩ | ⟨g, cap, cur, rfl, _⟩
 · exact ⟨_, _, by rw [h0]⟩
 · exact ⟨_, _, rfl⟩
structure Kq (S : Nat -> Prop) (w w' : World) : Prop where
 os : w'.os = w.os
 tape : w'.tape = w.tape
 output : w'.output = w.output
 size : w.heap.size <= w'.heap.size
 block : ∀ j, S j -> w'.heap[j]? = w.heap[j]?
theorem Kq.refl (S : Nat -> Prop) (w : World) : Kq S w w := ⟨rfl, rfl, rfl, Nat.le_refl _, fun _ _ => rfl⟩
theorem Kq.trans {S : Nat -> Prop} {a b c : World} (h : Kq S a b) (k : Kq S b c) : Kq S a c := ⟨k.os.trans h.os, k.tape.trans h.tape, k.output.trans h.output, Nat.le_trans h.size k.size, fun j hj => (k.block j hj).trans (h.block j hj)⟩
theorem Kq.mono {S S' : Nat -> Prop} {a b : World} (h : Kq S a b) (hs : ∀ j, S' j -> S j) : Kq S' a b := ⟨h.os, h.tape, h.output, h.size, fun j hj => h.block j (hs j hj)⟩
theorem Below.kq {S : Nat -> Prop} {B : Nat} {a b : World} (h : Below B a b) (hs : ∀ j, S j -> j < B) : Kq S a b := ⟨h.os, h.tape, h.output, h.size, fun j hj => h.block j (hs j hj)⟩
theorem grown_kq {S : Nat -> Prop} {a b : World} {r : Option Nat} (h : a.grownBy b r) (hs : ∀ j, S j -> j < a.heap.size) (hr : ∀ k, r = some k -> ¬ S k) : Kq S a b :=
 ⟨h.os, h.tape, h.output, h.size, fun j hj => h.block j (hs j hj) (fun e => hr j e.symm hj)⟩
theorem Kq.below {S : Nat -> Prop} {B : Nat} {a b : World} (h : Kq S a b) (hs : ∀ j, j < B -> S j) : Below B a b := ⟨h.os, h.tape, h.output, h.size, fun j hj => h.block j (hs j hj)⟩
theorem Kq.own {S : Nat -> Prop} {w w' : World} {b s n : Nat} {T : TypeId} {v : Value} {xs : List Value} (h : Kq S w w') (hO : w.ownsRow b T s v n xs) (hs : ∀ g, v.ownBlock = some g -> S g) : w'.ownsRow b T s v n xs := by
 refine ⟨hO.1, ?_⟩
 rcases hO.2 with h1 | ⟨g, cap, cur, h1, h2, h3, h4⟩
 · exact .inl h1
 · refine .inr ⟨g, cap, cur, h1, h2, ?_, h4⟩
   rw [h.block g (hs g (by rw [h1]; rfl))]; exact h3
theorem Kq.cell {S : Nat -> Prop} {w w' : World} {a : Addr} (h : Kq S w w') (hs : S a.block) : w'.cell? a = w.cell? a := World.cell?_of_block (h.block a.block hs)
theorem own_made {w1 : World} {base g n : Nat} (h : w1.ownsRow base 48 1 (.slice (some ⟨g, 0, none⟩) n n) n (madeCells (Value.int .u64 0).cells (n * 1)).toList) : w1.ownsRow base 48 1 (.slice (some ⟨g, 0, none⟩) n n) n (vals (List.replicate n 0)) := by
 have e : (madeCells (Value.int .u64 0).cells (n * 1)).toList = vals (List.replicate n 0) := by
  show (madeCells #[.int .u64 0] (n * 1)).toList = _
  rw [toList_madeCells_one, Nat.mul_one]; simp [vals]
 rw [e] at h; exact h
theorem cell_in {W : World} {a : Addr} {v : Value} (h : W.cell? a = some v) : a.block < W.heap.size := World.block_lt_of_cell? W _ h
def inF (f : Int) (xs : List Int) : Bool := if f = 1 then allIn 2013265921 xs else if f = 2 then allIn 18446744069414584321 xs else false
theorem inF_yes {f p : Int} {wd : Bool} (h : Fi f p wd) (xs : List Int) : inF f xs = allIn p xs := by
 rcases h with ⟨rfl, rfl, _⟩ | ⟨rfl, rfl, _⟩ <;> rfl
theorem inF_no {f : Int} (h1 : f ≠ 1) (h2 : f ≠ 2) (xs : List Int) : inF f xs = false := by
 unfold inF; rw [if_neg h1, if_neg h2]
theorem In_any (f : Int) (v : Value) (xs : List Int) (w : World) (hr : Row w v xs) :
 Calls Try.prog 47 #[.int .u8 f, v] w fun e w' => e = .returned (.bool (inF f xs)) ∧ Below w.heap.size w w' := by
 rcases Fi_or f with ⟨p, wd, h⟩ | ⟨h1, h2⟩
 · rw [inF_yes h]
   cases hi : allIn p xs with
   | true => exact In_yes f p wd v xs w h hr hi
   | false => exact In_no f v xs w (.inr ⟨p, wd, h, hi⟩) hr
 · rw [inF_no h1 h2]; exact In_no f v xs w (.inl ⟨h1, h2⟩) hr
theorem rIn_any (f : Int) (v : Value) (xs : List Int) (w : World) (hr : Row w v xs) :
 Calls Try.prog 22 #[.int .u8 f, v] w fun e w' => e = .returned (.bool (inF f xs)) ∧ w' = w := by
 rcases Fi_or f with ⟨p, wd, h⟩ | ⟨h1, h2⟩
 · rw [inF_yes h]
   cases hi : allIn p xs with
   | true => exact rIn_yes f p wd v xs w h hr hi
   | false => exact rIn_no f v xs w (.inr ⟨p, wd, h, hi⟩) hr
 · rw [inF_no h1 h2]; exact rIn_no f v xs w (.inl ⟨h1, h2⟩) hr
def Rw (w : World) (v : Value) (xs : List Int) : Prop := Row w v xs ∧ ∃ ao n cap, v = .slice ao n cap ∧ n <= cap
def over (n : Nat) (xs : List Int) : List Int := xs ++ List.replicate (n - xs.length) 0
def erb (b1 b2 : Bool) (n m : Nat) : Int := if b1 && b2 then (if 4096 < n ∨ 4096 < m then 4 else 0) else 2
def er (f : Int) (xs ys : List Int) : Int := erb (inF f xs) (inF f ys) xs.length ys.length
end Go.Proofs.Ytaikhiodpieghaa
