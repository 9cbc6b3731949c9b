import Derived.Test.YtpibiagohfnbmaaBTreB
import Derived.Test.YtpibiagohfnbmaaBunTC
import Derived.Test.YtpibiagohfnbmaaBunAB
set_option linter.unusedVariables false
set_option linter.unusedSimpArgs false
set_option maxRecDepth 100000
set_option maxHeartbeats 4000000
namespace Go.Proofs.Ytpibiagohfnbmaa
open Go.RowKit Fld Rnk
theorem own_setv {W : World} {base g n cap k : Nat} {T : TypeId} {xs : List Value} (h : W.ownsRow base T 1 (.slice (some ⟨g, 0, none⟩) n cap) n xs) (u : Value) (hk : k < n) : (W.setCell ⟨g, k, none⟩ u).ownsRow base T 1 (.slice (some ⟨g, 0, none⟩) n cap) n (xs.set k u) := by
 refine ⟨by rw [List.length_set]; exact h.1, ?_⟩
 rcases h.2 with ⟨e, _⟩ | ⟨g', cap', cur, e, h2, h3, h4, h5, h6, h7⟩
 · cases e
 · cases e
   refine .inr ⟨g, cap, cur.setIfInBounds k u, rfl, h2, set_blk h3 k u, h4, h5, by rw [Array.size_setIfInBounds]; exact h6, ?_⟩
   rw [Array.toList_setIfInBounds, <- h7, List.take_set]
theorem free_own {W : World} {base g n cap : Nat} {T : TypeId} {xs : List Value} (h : W.ownsRow base T 1 (.slice (some ⟨g, 0, none⟩) n cap) n xs) (k : Nat) : W.frozen? ⟨g, k, none⟩ = false := by
 rcases h.2 with ⟨e, _⟩ | ⟨g', cap', cur, e, h2, h3, h4, h5, h6, h7⟩
 · cases e
 · cases e
   simp [World.frozen?, h3]
structure Mtx (w : World) (lo : Nat) (v : Value) (us : List Value) (l : List (List Int)) : Prop where
 row : w.ownsRow lo 25 1 v l.length us
 each : ∀ i, i < l.length -> w.ownsRow lo 49 1 (us.getD i nov) (l.getD i []).length (vals (l.getD i []))
 dif : ∀ i j g, i < l.length -> j < l.length -> i ≠ j -> (us.getD i nov).ownBlock = some g -> (us.getD j nov).ownBlock ≠ some g
theorem Lss.mtx {w : World} {lo hi : Nat} {v : Value} {us : List Value} {l : List (List Int)} (h : Lss w lo hi v us l) : Mtx w lo v us l :=
 ⟨h.row, h.each, fun i j g _ _ hne h1 h2 => by
  rcases Nat.lt_or_gt_of_ne hne with c | c
  · have := h.up i j g g c h1 h2; omega
  · have := h.up j i g g c h2 h1; omega⟩
theorem Mtx.low {w : World} {lo lo' : Nat} {v : Value} {us : List Value} {l : List (List Int)} (h : Mtx w lo v us l) (hl : lo' <= lo) : Mtx w lo' v us l :=
 ⟨own_mono h.row hl, fun i hi => own_mono (h.each i hi) hl, h.dif⟩
theorem Mtx.below {w w' : World} {lo : Nat} {v : Value} {us : List Value} {l : List (List Int)} (h : Mtx w lo v us l) (hb : Below w.heap.size w w') : Mtx w' lo v us l :=
 ⟨own_below h.row hb, fun i hi => own_below (h.each i hi) hb, h.dif⟩
theorem Mtx.len {w : World} {lo : Nat} {v : Value} {us : List Value} {l : List (List Int)} (h : Mtx w lo v us l) : us.length = l.length := by have := h.row.1; omega
theorem Mtx.cell {w : World} {lo G r cap : Nat} {us : List Value} {l : List (List Int)} (h : Mtx w lo (.slice (some ⟨G, 0, none⟩) r cap) us l) {i : Nat} (hi : i < l.length) : w.cell? ⟨G, i, none⟩ = some (us.getD i nov) := by
 have hl := h.len
 have hr : r = l.length := by
  rcases h.row.2 with ⟨e, _⟩ | ⟨g', cap', cur, e, _⟩
  · cases e
  · cases e; rfl
 subst hr
 have := h.row.cellAt i (by omega)
 rw [this, List.getD_eq_getElem?_getD, List.getElem?_eq_getElem (by omega)]; rfl
theorem ne_kinds : (25 : Nat) ≠ 49 := by decide
theorem Mtx.rws {w : World} {lo : Nat} {v : Value} {us : List Value} {l : List (List Int)} (h : Mtx w lo v us l) (hw : ∀ i, Wd (l.getD i [])) (hl : l.length <= 5864062014700) : Rws w v l := by
 rcases h.row.2 with ⟨rfl, h0⟩ | ⟨g, cap, cur, rfl, h2, h3, h4, h5, h6, h7⟩
 · have : l = [] := List.length_eq_zero_iff.1 h0
   subst this
   exact rws_nil w
 · refine ⟨_, cap, rfl, hl, h4, fun hne => ⟨g, 0, rfl, own_top h.row g rfl, fun i hi' => ?_⟩⟩
   refine ⟨us.getD i nov, ?_, (hw i).row (h.each i hi')⟩
   rw [Nat.zero_add]
   exact h.cell hi'
end Go.Proofs.Ytpibiagohfnbmaa
