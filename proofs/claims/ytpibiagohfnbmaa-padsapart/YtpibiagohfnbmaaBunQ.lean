import Derived.Test.YtpibiagohfnbmaaBunW
import Derived.Laws.CopyOwn
set_option linter.unusedVariables false
set_option linter.unusedSimpArgs false
set_option maxRecDepth 100000
set_option maxHeartbeats 4000000
namespace Go.Proofs.Ytpibiagohfnbmaa
open Go.RowKit Fld
theorem own_mono {w : World} {base base' e size n : Nat} {v : Value} {xs : List Value} (h : w.ownsRow base e size v n xs) (hb : base' <= base) : w.ownsRow base' e size v n xs := by
 refine ⟨h.1, ?_⟩
 rcases h.2 with h1 | ⟨g, cap, cur, h1, h2, h3⟩
 · exact .inl h1
 · exact .inr ⟨g, cap, cur, h1, by omega, h3⟩
theorem own_top {w : World} {b s n : Nat} {T : TypeId} {v : Value} {xs : List Value} (h : w.ownsRow b T s v n xs) (g : Nat) (hg : v.ownBlock = some g) : g < w.heap.size := by
 rcases h.2 with ⟨rfl, _⟩ | ⟨g1, c1, u1, rfl, _, k1, _⟩
 · simp [Value.ownBlock] at hg
 · simp [Value.ownBlock] at hg
   subst hg
   rcases Nat.lt_or_ge g1 w.heap.size with h | h
   · exact h
   · rw [Array.getElem?_eq_none h] at k1; cases k1
theorem own_form {w : World} {b n : Nat} {T : TypeId} {v : Value} {xs : List Value} (h : w.ownsRow b T 1 v n xs) : ∃ a c, v = .slice a n c := by
 rcases h.2 with ⟨rfl, h0⟩ | ⟨g, cap, cur, rfl, _⟩
 · exact ⟨_, _, by rw [h0]⟩
 · exact ⟨_, _, rfl⟩
theorem own_made {w1 : World} {base g n : Nat} (h : w1.ownsRow base 49 1 (.slice (some ⟨g, 0, none⟩) n n) n (madeCells (Value.int .u64 0).cells (n * 1)).toList) : w1.ownsRow base 49 1 (.slice (some ⟨g, 0, none⟩) n n) n (vals (List.replicate n 0)) := by
 have e : (madeCells (Value.int .u64 0).cells (n * 1)).toList = vals (List.replicate n 0) := by
  show (madeCells #[.int .u64 0] (n * 1)).toList = _
  rw [toList_madeCells_one, Nat.mul_one]; simp [vals]
 rw [e] at h; exact h
def Rw (w : World) (v : Value) (xs : List Int) : Prop := Row w v xs ∧ ∃ ao n cap, v = .slice ao n cap ∧ n <= cap
theorem Rw.below {w w' : World} {v : Value} {xs : List Int} (h : Rw w v xs) (hb : Below w.heap.size w w') : Rw w' v xs := ⟨h.1.below hb, h.2⟩
theorem Rw.spell {w : World} {v : Value} {xs : List Int} (h : Rw w v xs) : ∃ ao cap, v = .slice ao xs.length cap ∧ xs.length <= cap := by
 obtain ⟨⟨ao, cap, rfl, _⟩, a, n, c, h2, h3⟩ := h
 cases h2; exact ⟨_, _, rfl, h3⟩
theorem Rw.len {w : World} {v : Value} {xs : List Int} (h : Rw w v xs) : xs.length <= 17592186043904 := by obtain ⟨⟨_, _, _, h, _⟩, _⟩ := h; exact h
theorem Rw.words {w : World} {v : Value} {xs : List Int} (h : Rw w v xs) : ∀ x ∈ xs, 0 <= x ∧ x <= 18446744073709551615 := by obtain ⟨⟨_, _, _, _, h, _⟩, _⟩ := h; exact h
theorem rw_of_own {w : World} {base : Nat} {v : Value} {n : Nat} {xs : List Int} (h : w.ownsRow base 49 1 v n (vals xs)) (hl : xs.length <= 17592186043904)
 (hw : ∀ x ∈ xs, 0 <= x ∧ x <= 18446744073709551615) : Rw w v xs := by
 refine ⟨row_of_own h (own_len h).symm hl hw, ?_⟩
 rcases h.2 with ⟨rfl, _⟩ | ⟨g, cap, cur, rfl, _, _, h1, _⟩
 · exact ⟨_, _, _, rfl, Nat.le_refl _⟩
 · exact ⟨_, _, _, rfl, h1⟩
theorem row_news {w : World} {ao : Option Addr} {n cap : Nat} {xs : List Int} (h : Row w (.slice ao n cap) xs) (hp : 0 < xs.length) : ∃ ad, ao = some ad ∧ ∀ j u, (vals xs)[j]? = some u -> w.cell? (ad.add j) = some u := by
 obtain ⟨ao', cap', h1, h2, h3, h4⟩ := h
 cases h1
 obtain ⟨b, off, rfl, hbl, hcell⟩ := h4 (List.length_pos_iff.1 hp)
 refine ⟨_, rfl, fun j u hj => ?_⟩
 have hjl : j < xs.length := by
  apply Nat.lt_of_not_le; intro hcn; rw [List.getElem?_eq_none (by rw [vals_length]; exact hcn)] at hj; cases hj
 have hadd : (⟨b, off, none⟩ : Addr).add j = ⟨b, off + j, none⟩ := by unfold Addr.add; split <;> simp_all
 rw [vals_at xs j hjl] at hj
 rw [hadd, hcell j hjl]; exact hj
theorem own_block {w : World} {base g n : Nat} {ys : List Int} {T : TypeId} (h : w.ownsRow base T 1 (.slice (some ⟨g, 0, none⟩) n n) n (vals ys)) : w.heap[g]? = some (.cells (vals ys).toArray T (0, 0)) := by
 rcases h.2 with ⟨h1, _⟩ | ⟨g', cap, cur, h1, h2, h3, h4, h5, h6, h7⟩
 · cases h1
 · cases h1
   have : cur = (vals ys).toArray := by
    apply Array.toList_inj.1
    rw [<- h7, List.take_of_length_le (by simp; omega)]
   rw [h3, this]
theorem own_of_block {w : World} {base g n : Nat} {ys : List Int} {T : TypeId} (hb : base <= g) (h : w.heap[g]? = some (.cells (vals ys).toArray T (0, 0))) (hl : ys.length = n) (hn : n <= 17592186043904) : w.ownsRow base T 1 (.slice (some ⟨g, 0, none⟩) n n) n (vals ys) :=
 ⟨by rw [vals_length]; omega, .inr ⟨g, n, _, rfl, hb, h, Nat.le_refl _, by unfold maxLen; omega, by simp [vals_length]; omega, by simp only; rw [List.take_of_length_le (by rw [vals_length]; omega)]⟩⟩
def over (n : Nat) (xs : List Int) : List Int := xs ++ List.replicate (n - xs.length) 0
theorem over_self (xs : List Int) : over xs.length xs = xs := by simp [over]
theorem splice_over (n : Nat) (xs : List Int) : splice (vals (List.replicate n 0)) 0 (vals xs) = vals (over n xs) := by
 simp [splice, over, vals]
theorem u64_size : (Try.prog.info? 49).map (·.size) = some 1 := by kernel_rfl
theorem co_set (ys : List Int) (k i : Nat) (z : Int) (hk : k < ys.length) : co (ys.set k z) i = if i = k then z else co ys i := set_getD ys k i z hk
end Go.Proofs.Ytpibiagohfnbmaa
