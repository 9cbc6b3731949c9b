/-
  The statements' own 'elements': numbers made elements of a field, in new memory.
-/
import Derived.Test.YtdegpefhegmamabRefB
import Derived.Test.YtdegpefhegmamabAnch
import Derived.OwnWalk
import Derived.Laws.OwnMore
import Derived.Deep.AppendLies
namespace Go.Proofs.Ytdegpefhegmamab
open Go.RowKit Fld
set_option linter.unusedVariables false

theorem u64_info : (Try.prog.info? 32).map (fun i => (i.zero, i.size, i.bytes)) = some (some (.int .u64 0), 1, 8) := by kernel_rfl

/-- A list of words as values. -/
def vals (xs : List Int) : List Value := xs.map (Value.int .u64)
theorem vals_length (xs : List Int) : (vals xs).length = xs.length := by simp [vals]
theorem vals_snoc (xs : List Int) (x : Int) : vals xs ++ [.int .u64 x] = vals (xs ++ [x]) := by simp [vals]

theorem own_base {w : World} {base e size n : Nat} {v : Value} {xs : List Value} (h : w.ownsRow base e size v n xs) : ∀ k, v.ownBlock = some k → base ≤ k := by
  intro k hk
  rcases h.2 with ⟨rfl, _⟩ | ⟨g, cap, cur, rfl, hb, _⟩
  · cases hk
  · cases hk; exact hb

/-- A list that the call itself has made reads as a list. -/
theorem row_of_own {w : World} {base : Nat} {v : Value} {n : Nat} {xs : List Int} (h : w.ownsRow base 32 1 v n (vals xs)) (hn : n = xs.length) (hl : xs.length ≤ 17592186043904)
    (hw : ∀ x ∈ xs, 0 ≤ x ∧ x ≤ 18446744073709551615) : Row w v xs := by
  subst hn
  rcases h.2 with ⟨rfl, h0⟩ | ⟨g, cap, cur, rfl, hb, hh, h1, h2, h3, h4⟩
  · exact ⟨none, 0, by rw [h0], hl, hw, fun hne => absurd (List.length_eq_zero_iff.1 h0) hne⟩
  · refine ⟨_, cap, rfl, hl, hw, fun hne => ⟨g, 0, rfl, ?_, fun i hi => ?_⟩⟩
    · apply Nat.lt_of_not_le; intro hc; rw [Array.getElem?_eq_none hc] at hh; cases hh
    · rw [cell_of_row w g (0 + i) cur 32 (0, 0) hh, Nat.zero_add]
      have e1 : cur[i]? = cur.toList[i]? := by simp
      have e2 : cur.toList[i]? = (vals xs)[i]? := by rw [← h4, List.getElem?_take_of_lt (by omega)]
      rw [e1, e2]; simp [vals, List.getD_eq_getElem?_getD, hi]

theorem take_mod_snoc (xs : List Int) (p : Int) (k : Nat) (h : k < xs.length) : ((xs.take k).map (· % p)) ++ [xs.getD k 0 % p] = (xs.take (k + 1)).map (· % p) := by
  rw [List.take_succ_eq_append_getElem h, List.map_append, getD_at h]; rfl

theorem elems_step {w wr w1 : World} {v v1 : Value} {k : Nat} {xs ys : List Int} {x y p : Int} {T : TypeId} (hB : Below w.heap.size w wr) (hown : wr.ownsRow w.heap.size T 1 v k (vals xs))
    (h1 : w1.ownsRow w.heap.size T 1 v1 (k + 1) (vals xs ++ [.int .u64 y])) (hg : (wr.alloc (.cells #[.int .u64 y] T)).drew.grownBy w1 v.ownBlock) (hy : y = x % p) (hs : xs ++ [x % p] = ys) :
    w1.ownsRow w.heap.size T 1 v1 (k + 1) (vals ys) ∧ Below w.heap.size w w1 := by
  refine ⟨?_, ?_⟩
  · rw [← hs, ← hy, ← vals_snoc]; exact h1
  · exact ((hB.alloc hB.size _).drew).grown hg (by have := hB.size; simp; omega) (own_base hown)

/-- Which field 'elements' takes. -/
def Gi (f g : Int) : Prop := (f % 2 = 0 ∧ g = 2) ∨ (f % 2 = 1 ∧ g = 1)

end Go.Proofs.Ytdegpefhegmamab
