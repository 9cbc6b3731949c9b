import Derived.Test.YtjhididlcdepdaaGreatBRgdA
import Derived.Test.YtjhididlcdepdaaGreatBRgnP
import Derived.Test.YtjhididlcdepdaaGreatBPntM
import Derived.Test.YtjhididlcdepdaaGreatBunG
set_option linter.unusedVariables false
set_option linter.unusedSimpArgs false
set_option maxRecDepth 100000
set_option maxHeartbeats 4000000
namespace Go.Proofs.YtjhididlcdepdaaGreat
open Go.RowKit Fld Pln
structure Fam (W : World) (lo : Nat) (us : List Value) (l : List (List Int)) : Prop where
 len : us.length = l.length
 each : ∀ i, i < l.length → W.ownsRow lo 64 1 (us.getD i nov) (l.getD i []).length (vals (l.getD i []))
 dif : ∀ i j g, i < l.length → j < l.length → i ≠ j → (us.getD i nov).ownBlock = some g → (us.getD j nov).ownBlock ≠ some g
theorem Fam.below {W W' : World} {lo : Nat} {us : List Value} {l : List (List Int)} (h : Fam W lo us l) (hb : Below W.heap.size W W') : Fam W' lo us l := ⟨h.len, fun i hi => own_below (h.each i hi) hb, h.dif⟩
theorem Fam.other {W : World} {lo g k : Nat} {us : List Value} {l : List (List Int)} {cs : Array Value} {T : TypeId} {fz : Nat × Nat} {v : Value} (h : Fam W lo us l) (hb : W.heap[g]? = some (.cells cs T fz)) (hT : T ≠ 64) : Fam (W.setCell ⟨g, k, none⟩ v) lo us l :=
 ⟨h.len, fun i hi => own_other (h.each i hi) (own_apart (h.each i hi) hb hT), h.dif⟩
theorem Fam.grown {W W' : World} {lo b s n : Nat} {us : List Value} {l : List (List Int)} {T : TypeId} {v : Value} {xs : List Value} (h : Fam W lo us l) (hO : W.ownsRow b T s v n xs) (hT : T ≠ 64) (hg : W.grownBy W' v.ownBlock) : Fam W' lo us l :=
 ⟨h.len, fun i hi => own_kept (h.each i hi) hg (fun g hgb hc => own_kind (h.each i hi) hO (fun e => hT e.symm) g hgb hc), h.dif⟩
theorem Fam.top {W : World} {lo : Nat} {us : List Value} {l : List (List Int)} (h : Fam W lo us l) {i g : Nat} (hi : i < l.length) (hg : (us.getD i nov).ownBlock = some g) : g < W.heap.size := own_top (h.each i hi) g hg
theorem Fam.snoc {W : World} {lo H : Nat} {us : List Value} {l : List (List Int)} {u : Value} {ys : List Int} (h : Fam W lo us l) (hH : ∀ i g, i < l.length → (us.getD i nov).ownBlock = some g → g < H) (hlo : lo ≤ H) (hu : W.ownsRow H 64 1 u ys.length (vals ys)) : Fam W lo (us ++ [u]) (l ++ [ys]) := by
 have hl := h.len
 refine ⟨by simp [hl], fun i hi => ?_, fun i j g hi hj hne e1 e2 => ?_⟩
 · rw [getD_snoc, getD_snoc, hl]
   rw [List.length_append, List.length_singleton] at hi
   by_cases e : i < l.length
   · rw [if_pos e, if_pos e]; exact h.each i e
   · have e2 : i = l.length := by omega
     rw [if_neg e, if_pos e2, if_neg e, if_pos e2]; exact own_mono hu hlo
 · rw [List.length_append, List.length_singleton] at hi hj
   rw [getD_snoc, hl] at e1 e2
   by_cases ei : i < l.length
   · rw [if_pos ei] at e1
     by_cases ej : j < l.length
     · rw [if_pos ej] at e2; exact h.dif i j g ei ej hne e1 e2
     · rw [if_neg ej, if_pos (by omega)] at e2
       have := hH i g ei e1
       have := own_base hu g e2
       omega
   · rw [if_neg ei, if_pos (by omega)] at e1
     by_cases ej : j < l.length
     · rw [if_pos ej] at e2
       have := hH j g ej e2
       have := own_base hu g e1
       omega
     · omega
theorem Fam.push {W W' : World} {lo k : Nat} {us : List Value} {l : List (List Int)} {v : Value} {ys : List Int} (h : Fam W lo us l) (hk : k < l.length) (hg : W.grownBy W' (us.getD k nov).ownBlock) (hO : W'.ownsRow lo 64 1 v ys.length (vals ys)) (hv : v.ownBlock = (us.getD k nov).ownBlock ∨ v.ownBlock = some W.heap.size) : Fam W' lo (us.set k v) (l.set k ys) := by
 have hl := h.len
 have hE : ∀ i, i < l.length → i ≠ k → W'.ownsRow lo 64 1 (us.getD i nov) (l.getD i []).length (vals (l.getD i [])) := fun i hi hne => own_kept (h.each i hi) hg (fun g hgb hc => h.dif i k g hi hk hne hgb hc)
 have hD : ∀ i g, i < l.length → i ≠ k → (us.getD i nov).ownBlock = some g → v.ownBlock ≠ some g := fun i g hi hne hgi hc => by
  rcases hv with hv | hv
  · rw [hv] at hc; exact h.dif i k g hi hk hne hgi hc
  · rw [hv] at hc
    have := own_top (h.each i hi) g hgi
    injection hc with hc
    omega
 refine ⟨by rw [List.length_set, List.length_set, hl], fun i hi => ?_, fun i j g hi hj hne e1 e2 => ?_⟩
 · rw [List.length_set] at hi
   rw [Rnk.getD_set _ _ _ (by omega), Rnk.getD_set _ _ _ hk]
   by_cases e : i = k
   · rw [if_pos e, if_pos e]; exact hO
   · rw [if_neg e, if_neg e]; exact hE i hi e
 · rw [List.length_set] at hi hj
   rw [Rnk.getD_set _ _ _ (by omega)] at e1 e2
   by_cases ei : i = k
   · rw [if_pos ei] at e1
     rw [if_neg (fun ej => hne (ei.trans ej.symm))] at e2
     exact hD j g hj (fun ej => hne (ei.trans ej.symm)) e2 e1
   · rw [if_neg ei] at e1
     by_cases ej : j = k
     · rw [if_pos ej] at e2; exact hD i g hi ei e1 e2
     · rw [if_neg ej] at e2; exact h.dif i j g hi hj hne e1 e2
def mkn (n : Nat) (b : Nat → Bool) : Array Value := (((List.range n).map b).map Value.bool).toArray
def Mkn (w : World) (g n : Nat) (b : Nat → Bool) : Prop := w.heap[g]? = some (.cells (mkn n b) 4 (0, 0))
theorem mkn_at (n : Nat) (b : Nat → Bool) {j : Nat} (h : j < n) : (mkn n b)[j]? = some (.bool (b j)) := by
 unfold mkn; rw [List.getElem?_toArray, List.getElem?_map, List.getElem?_map, List.getElem?_range h]; rfl
theorem mkn_congr {n : Nat} {b c : Nat → Bool} (h : ∀ j, j < n → b j = c j) : mkn n b = mkn n c := by
 unfold mkn; rw [List.map_congr_left (fun j hj => h j (List.mem_range.1 hj))]
theorem mkn_set (n : Nat) (b : Nat → Bool) {j : Nat} (h : j < n) : (mkn n b).setIfInBounds j (.bool true) = mkn n (fun i => b i || decide (i = j)) := by
 apply Array.ext
 · simp [mkn]
 · intro i h1 h2
   have hi : i < n := by simpa [mkn] using h1
   have e1 : ((mkn n b).setIfInBounds j (.bool true))[i]? = (mkn n (fun i => b i || decide (i = j)))[i]? := by
    rw [Array.getElem?_setIfInBounds]
    by_cases e : j = i
    · subst e
      rw [if_pos rfl, if_pos (by simp [mkn]; exact h), mkn_at _ _ h, decide_eq_true rfl, Bool.or_true]
    · rw [if_neg e, mkn_at _ _ hi, mkn_at _ _ hi]
      have : ¬ i = j := fun c => e c.symm
      simp [this]
   rw [Array.getElem?_eq_getElem h1, Array.getElem?_eq_getElem h2] at e1
   exact Option.some.inj e1
theorem Mkn.below {w w' : World} {g n : Nat} {b : Nat → Bool} (h : Mkn w g n b) (hb : Below w.heap.size w w') : Mkn w' g n b := blk8 h hb
theorem Mkn.cell {w : World} {g n : Nat} {b : Nat → Bool} (h : Mkn w g n b) {j : Nat} (hj : j < n) : w.cell? ⟨g, j, none⟩ = some (.bool (b j)) := by rw [cell_of_row w g j _ _ _ h, mkn_at n b hj]
theorem Mkn.free {w : World} {g n : Nat} {b : Nat → Bool} (h : Mkn w g n b) (k : Nat) : w.frozen? ⟨g, k, none⟩ = false := by unfold Mkn at h; simp [World.frozen?, h]
theorem Mkn.put {w : World} {g n : Nat} {b : Nat → Bool} (h : Mkn w g n b) {j : Nat} (hj : j < n) : Mkn (w.setCell ⟨g, j, none⟩ (.bool true)) g n (fun i => b i || decide (i = j)) := by unfold Mkn; rw [set_blk h, mkn_set n b hj]
theorem Mkn.congr {w : World} {g n : Nat} {b c : Nat → Bool} (h : Mkn w g n b) (he : ∀ j, j < n → b j = c j) : Mkn w g n c := by unfold Mkn at *; rw [← mkn_congr he]; exact h
structure Rdt (w0 : World) (lo H gR G gB K N : Nat) (vx : Value) (xs : List Int) (rows Ps : List (List Int)) (b : Nat → Bool) (vP vW vL : Value) (Ws : List Int) (W : World) : Prop where
 bel : Below w0.heap.size w0 W
 low : w0.heap.size ≤ lo ∧ lo ≤ gR ∧ lo ≤ G ∧ lo ≤ gB ∧ lo ≤ H ∧ H ≤ W.heap.size
 box : W.heap[gR]? = some (.cells #[.slice (some ⟨G, 0, none⟩) K K, vP, vW] 29 (0, 0))
 ms : Mkn W gB N b
 all : ∃ ur up, W.ownsRow lo 36 1 (.slice (some ⟨G, 0, none⟩) K K) K ur ∧ W.ownsRow lo 36 1 vP Ps.length up ∧ Fam W lo (vx :: (ur ++ up)) (xs :: (rows ++ Ps)) ∧ (∀ i g, i < (xs :: (rows ++ Ps)).length → ((vx :: (ur ++ up)).getD i nov).ownBlock = some g → g < H) ∧ ur.length = K ∧ rows.length = K ∧ up.length = Ps.length ∧ (0 < Ps.length → up.getD (Ps.length - 1) nov = vL)
 wr : W.ownsRow lo 3 1 vW Ws.length (Ws.flatMap iw)
 gp : ∀ g, vP.ownBlock = some g → G < g
end Go.Proofs.YtjhididlcdepdaaGreat
